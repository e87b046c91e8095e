/- Lemmas and contracts of this proof. Conditions: said at each. -/
import Derived.Test.YtbkakhfepiooaaaGreatDoorQGDkRen
import Derived.Test.YtbkakhfepiooaaaGreatDoorQGShDo
import Derived.Lib.SlBytesConst
namespace Go.Proofs.YtbkakhfepiooaaaGreatDoor
section
open Go.RowKit Go.Oct Go.Su Go.Sg Go.Om Go.Sh
def ptr (b : Nat) : Value := .pointer (some ⟨b, 0, none⟩)
/-- The pair's memory. -/
def PairB (w : World) (bp : Nat) (a b c d : Value) : Prop := w.heap[bp]? = some (.cells #[a, b, c, d] 51 (0, 0))
section
variable {w w' : World} {bp : Nat} {a b c d : Value}
theorem PairB.ch {S : Nat → Prop} (h : PairB w bp a b c d) (hc : Ch S w w') (h0 : ¬ S bp) : PairB w' bp a b c d := (hc.block bp (Array.getElem?_eq_some_iff.1 h).1 h0).trans h
theorem PairB.lt (h : PairB w bp a b c d) : bp < w.heap.size := (Array.getElem?_eq_some_iff.1 h).1
theorem PairB.facts (h : PairB w bp a b c d) : w.cell? ⟨bp, 0, none⟩ = some a ∧ w.cell? ⟨bp, 1, none⟩ = some b ∧ w.cell? ⟨bp, 2, none⟩ = some c ∧ w.cell? ⟨bp, 3, none⟩ = some d ∧ w.frozen? ⟨bp, 2, none⟩ = false ∧ w.frozen? ⟨bp, 3, none⟩ = false := by
  unfold PairB at h
  simp [World.cell?, World.frozen?, h]
theorem PairB.set (h : PairB w bp a b c d) (u v : Value) : PairB ((w.setCell ⟨bp, 2, none⟩ u).setCell ⟨bp, 3, none⟩ v) bp a b u v := by
  unfold PairB at h ⊢
  simp [World.setCell, Array.getElem?_modify, h]
end
variable {ShP : World → (Nat → Prop) → Nat → Sm → Prop}
set_option maxHeartbeats 2000000 in
theorem popen_any (H : ShSpec ShP) (w : World) (S : Nat → Prop) (d wd bp room rm : Nat) (hP : PairB w bp (ptr d) (ptr wd) (.pointer none) (.pointer none)) (hd : D.Pd w S d ⟨room, [], none⟩) (hw : Rde w wd rm) (hSb : ¬ S bp) (hSw : ¬ S wd) (hmx : MaxC w) (hSm : ¬ S 4) (hbm : bp ≠ 4) :
    Calls Tryz.prog 50 #[.pointer (some ⟨bp, 0, none⟩)] w fun e w' => ∃ P b x, e = .returned (.bool true) ∧ ShP w' P b smNew ∧ PairB w' bp (ptr d) (ptr wd) (ptr b) (ptr x) ∧ (∀ y, P y → S y ∨ w.heap.size ≤ y) ∧ ¬ P bp ∧ Ch (fun k => S k ∨ k = bp) w w' := by
  obtain ⟨z0, z1, _, _, _, _⟩ := hP.facts
  unfold ptr at z0 z1
  have HO := Bx.mk (H.open_ w S d room hd hmx hSm)
  have HP := Bx.mk hP
  have HW := Bx.mk hw
  have HB := Bx.mk (And.intro hSb hSw)
  have HM := Bx.mk (And.intro hSm hbm)
  have HBL := Bx.mk hP.lt
  clear hP hd hw hSb hSw hmx hSm hbm
  go_enter Tryz.func50, Tryz.ntmps50
  go_wp2_with fail
  refine HO.out.mono ?_
  rintro e w1 ⟨P, b, rfl, hsh, hPS, hc1⟩
  have hP1 := HP.out.ch hc1 HB.out.1
  have HP1 := Bx.mk hP1
  obtain ⟨_, y1, _, _, _, _⟩ := hP1.facts
  unfold ptr at y1
  have HR := Bx.mk (ropene_any (HW.out.ch hc1 HB.out.2))
  have HSH := Bx.mk hsh
  have HPS := Bx.mk hPS
  have HC1 := Bx.mk hc1
  clear hP1 hsh hPS hc1 z0 z1 HO
  go_wp2_with fail
  refine HR.out.mono ?_
  rintro e w2 ⟨x, rfl, hc2⟩
  have hP2 := HP1.out.ch hc2 (fun h => h)
  have hnb : ¬ P bp := fun h => by
    rcases HPS.out bp h with h1 | h1
    · exact HB.out.1 h1
    · have := HBL.out; omega
  have hS2 := H.ch HSH.out hc2 (fun _ _ h => h) (fun h => h)
  have HC3 : Bx (Ch (fun k => S k ∨ k = bp) w ((w2.setCell ⟨bp, 2, none⟩ (ptr b)).setCell ⟨bp, 3, none⟩ (ptr x))) := ⟨((HC1.out.trans hc2 (fun _ _ h => h.elim)).mono (S := fun k => S k ∨ k = bp) fun _ _ h => .inl h).trans (((Ch.refl (fun k => k = bp) w2).setCell (p := ⟨bp, 2, none⟩) (.inl rfl) _).setCell (p := ⟨bp, 3, none⟩) (.inl rfl) _) (fun _ _ h => .inr h)⟩
  have HS3 : Bx (ShP ((w2.setCell ⟨bp, 2, none⟩ (ptr b)).setCell ⟨bp, 3, none⟩ (ptr x)) P b smNew) := ⟨H.ch hS2 (((Ch.refl (fun k => k = bp) w2).setCell (p := ⟨bp, 2, none⟩) (.inl rfl) _).setCell (p := ⟨bp, 3, none⟩) (.inl rfl) _) (fun y hy (e : y = bp) => hnb (e ▸ hy)) (fun e => HM.out.2 e.symm)⟩
  have HP3 := Bx.mk (hP2.set (ptr b) (ptr x))
  obtain ⟨_, _, y2, y3, f2, f3⟩ := hP2.facts
  have HNB := Bx.mk hnb
  have hp : ∀ b, ptr b = .pointer (some ⟨b, 0, none⟩) := fun _ => rfl
  rw [hp] at HC3 HS3 HP3
  rw [hp x] at HC3 HS3 HP3
  clear hP2 hnb hS2 hc2 HR hp y1
  go_wp2
  go_ret
  exact ⟨P, b, x, rfl, HS3.out, HP3.out, HPS.out, HNB.out, HC3.out⟩
set_option maxHeartbeats 2000000 in
theorem start_any (H : ShSpec ShP) (w : World) (room : Nat) (hr : room ≤ 1073741824) (hmx : MaxC w) (hml : 4 < w.heap.size) :
    Calls Tryz.prog 17 #[.int .i64 (room : Nat)] w fun e w' => ∃ P b bp d wd x, e = .returned (.tuple #[.pointer (some ⟨bp, 0, none⟩), .bool true]) ∧ ShP w' P b smNew ∧ PairB w' bp (ptr d) (ptr wd) (ptr b) (ptr x) ∧ (∀ y, P y → w.heap.size ≤ y) ∧ ¬ P bp ∧ w.heap.size ≤ bp ∧ Ch (fun _ => False) w w' := by
  have HN := Bx.mk (D.new_any (room : Nat) w (by omega))
  have HM := Bx.mk (And.intro hmx hml)
  have HR := Bx.mk hr
  clear hmx hml hr
  go_enter Tryz.func17, Tryz.ntmps17
  go_wp2_with fail
  refine HN.out.mono ?_
  rintro e w1 (⟨h0, _⟩ | ⟨_, _, S, rfl, hd, hS, hc1⟩)
  · have := HR.out
    omega
  have hd : D.Pd w1 S w.heap.size ⟨room, [], none⟩ := hd
  have HD := Bx.mk hd
  have HS := Bx.mk hS
  have HC1 := Bx.mk hc1
  have HRN := Bx.mk (rnewe_any room w1 HR.out)
  have hpd : Go.Dk.pv w.heap.size = .pointer (some ⟨w.heap.size, 0, none⟩) := rfl
  rw [hpd]
  clear hd hS hc1 HN hpd
  go_wp2_with fail
  refine HRN.out.mono ?_
  rintro e w2 ⟨rfl, hre, hc2⟩
  obtain ⟨w3, hw3⟩ : ∃ w3, w2.alloc (.cells #[.pointer (some ⟨w.heap.size, 0, none⟩), .pointer (some ⟨w1.heap.size, 0, none⟩), .pointer none, .pointer none] 51) = w3 := ⟨_, rfl⟩
  obtain ⟨bp, hbp⟩ : ∃ b, w2.heap.size = b := ⟨_, rfl⟩
  have hP3 : PairB w3 bp (ptr w.heap.size) (ptr w1.heap.size) (.pointer none) (.pointer none) := by rw [← hw3, ← hbp]; exact heap_alloc_new w2 _
  have hc3 : Ch (fun _ => False) w2 w3 := by rw [← hw3]; exact (Ch.refl _ _).alloc _
  have hc13 := hc2.trans hc3 (fun _ _ h => h)
  have hd3 := D.Pd.keep HD.out hc13
  have hw1 : w.heap.size ≤ w1.heap.size := HC1.out.size
  have hre1 : w1.heap.size < w2.heap.size := (Array.getElem?_eq_some_iff.1 hre).1
  have hSl := HD.out.2
  have HPO := Bx.mk (popen_any H w3 S w.heap.size w1.heap.size bp room room hP3 hd3 (hre.ch hc3 (fun h => h)) (fun h => by have := hSl bp h; omega) (fun h => by have := hSl _ h; omega) (by
    obtain ⟨m, hm⟩ := HM.out.1
    exact ⟨m, ((HC1.out.trans hc13 (fun _ _ h => h)).cell (fun h => h) hm)⟩) (fun h => by have := HS.out _ h; have := HM.out.2; omega) (fun e => by have := HM.out.2; omega))
  have HC3 := Bx.mk (HC1.out.trans hc13 (fun _ _ h => h))
  have HBL : Bx (w.heap.size ≤ bp) := ⟨by omega⟩
  clear hP3 hc3 hc13 hd3 hw1 hre1 hSl hre hc2 HRN HD
  go_wp2_with fail
  refine HPO.out.mono ?_
  rintro e w4 ⟨P, b, x, rfl, hsh, hpr, hPS, hnb, hc4⟩
  have HF : Bx (ShP w4 P b smNew ∧ PairB w4 bp (ptr w.heap.size) (ptr w1.heap.size) (ptr b) (ptr x) ∧ (∀ y, P y → w.heap.size ≤ y) ∧ ¬ P bp ∧ Ch (fun _ => False) w w4) := ⟨hsh, hpr, fun y hy => by
    rcases hPS y hy with h | h
    · exact HS.out y h
    · have := HC3.out.size
      omega, hnb, HC3.out.trans hc4 (fun i hi h => by
      rcases h with h | h
      · have := HS.out i h; omega
      · have := HBL.out; omega)⟩
  clear hsh hpr hPS hnb hc4 HPO hw3 hbp
  go_wp2
  go_ret2
  exact ⟨P, b, bp, _, _, x, rfl, HF.out.1, HF.out.2.1, HF.out.2.2.1, HF.out.2.2.2.1, HBL.out, HF.out.2.2.2.2⟩
end
section
open Go.RowKit Go.Oct Go.Su Go.Sg Go.Om Go.Sh
/-- A shard on which a law works. -/
structure On (ShP : World → (Nat → Prop) → Nat → Sm → Prop) (w0 w : World) (P : Nat → Prop) (b bp : Nat) (x y z : Value) (m : Sm) : Prop where
  sh : ShP w P b m
  pr : PairB w bp x y (ptr b) z
  np : ¬ P bp
  bl : w0.heap.size ≤ bp
  low : ∀ q, P q → w0.heap.size ≤ q
  ch : Ch (fun _ => False) w0 w
/-- A row that was told. -/
structure Rk (w : World) (P : Nat → Prop) (v : Value) (xs : List Int) : Prop where
  own : w.ownsRow 0 5 1 v xs.length (xs.map (Value.int .u8))
  ap : ∀ g, v.ownBlock = some g → ¬ P g
section
variable {ShP : World → (Nat → Prop) → Nat → Sm → Prop} {w0 w w' : World} {P P' : Nat → Prop} {b bp : Nat} {x y z v : Value} {m m' : Sm} {xs : List Int}
theorem On.quiet (H : ShSpec ShP) (h : On ShP w0 w P b bp x y z m) (hc : Ch (fun _ => False) w w') : On ShP w0 w' P b bp x y z m :=
  ⟨H.ch h.sh hc (fun _ _ h => h) (fun h => h), h.pr.ch hc (fun h => h), h.np, h.bl, h.low, h.ch.trans hc (fun _ _ h => h)⟩
theorem On.next (h : On ShP w0 w P b bp x y z m) (hs : ShP w' P' b m') (hP : ∀ q, P' q → P q ∨ w.heap.size ≤ q) (hc : Ch P w w') : On ShP w0 w' P' b bp x y z m' :=
  ⟨hs, h.pr.ch hc h.np, fun e => by
    rcases hP bp e with e | e
    · exact h.np e
    · have := h.pr.lt; omega, h.bl, fun q hq => by
    rcases hP q hq with e | e
    · exact h.low q e
    · exact Nat.le_trans h.ch.size e, h.ch.trans hc (fun i hi e => by have := h.low i e; omega)⟩
theorem Rk.quiet (h : Rk w P v xs) (hc : Ch (fun _ => False) w w') : Rk w' P v xs := ⟨hc.own h.own (fun _ _ h => h), h.ap⟩
theorem Rk.next (h : Rk w P v xs) (hP : ∀ q, P' q → P q ∨ w.heap.size ≤ q) (hc : Ch P w w') : Rk w' P' v xs :=
  ⟨hc.own h.own (fun g hg => h.ap g hg), fun g hg e => by
    rcases hP g e with e | e
    · exact h.ap g hg e
    · have := (h.own.lt g hg).2; omega⟩
theorem Rk.fresh (hf : Fresh w v xs w') (hP : ∀ q, P q → q < w.heap.size) : Rk w' P v xs := ⟨hf.1, fun g hg e => by have := hf.2.1 g hg; have := hP g e; omega⟩
theorem Rk.sl {A : Option Addr} {c : Nat} (h : Rk w P (.slice A xs.length c) xs) : Sl w (fun _ => True) .u8 A xs.length xs := (Sl.of_own h.own).mono fun _ _ _ => trivial
/-- The law's put. -/
theorem lput_any {F : Nat → Prop} (kd cl sq : Int) (k : Key) (t : List Int) (A : Option Addr) (n c : Nat) (w : World) (hs : Sl w F .u8 A n t) (hn : n ≤ 1000000) (ha : ¬ ArgNo ⟨kd, cl, sq, k, t⟩) :
    Calls Tryz.prog 18 #[.int .i64 kd, .int .i64 cl, .int .i64 sq, kv k, .slice A n c] w fun e w' => ∃ v, e = .returned v ∧ Fresh w v (encO ⟨kd, cl, sq, k, t⟩) w' := by
  have HE := Bx.mk (refenc_ok kd cl sq k t A n c w hs (by omega) ha)
  obtain ⟨S, hS⟩ : ∃ S : ByteArray, kv k = .string S := ⟨_, rfl⟩
  rw [hS] at HE ⊢
  clear hs ha hS
  go_enter Tryz.func18, Tryz.ntmps18
  go_wp2_with fail
  refine HE.out.mono ?_
  rintro e w1 ⟨v, rfl, hf⟩
  have HF := Bx.mk hf
  clear hf HE
  go_wp2
  go_ret
  exact ⟨v, rfl, HF.out⟩
/-- The law's same, whatever the rows. -/
theorem lsame_any {F G : Nat → Prop} (A A' : Option Addr) (n n' c c' : Nat) (xs ys : List Int) (w : World) (hn : n ≤ 9223372036854775807) (hn' : n' ≤ 9223372036854775807) (hx : Sl w F .u8 A n xs) (hy : Sl w G .u8 A' n' ys) (o : Bool) (ho : decide (xs = ys) = o) :
    Calls Tryz.prog 19 #[.slice A n c, .slice A' n' c'] w fun e w' => e = .returned (.bool o) ∧ Ch (fun _ => False) w w' :=
  (same_any A A' n n' c c' xs ys F G w hn hn' hx hy).mono fun e w' h => by
    obtain ⟨h1, q, h2⟩ := h
    exact ⟨by rw [h1, ho], by rw [h2]; exact (Ch.refl _ _).drewN q⟩
end
end
section
open Go.RowKit Go.Oct Go.Su Go.Sg Go.Om Go.Sh
section
variable {k : Key}
theorem ok_put {c s : Int} {t : List Int} (hc : 0 ≤ c ∧ c ≤ 1001) (hs : 0 ≤ s ∧ s ≤ 1002) (hk : okK k) (ht : t.length ≤ 200) : OkO ⟨1, c, s, k, t⟩ := ⟨.inl rfl, hc.1, by show c ≤ _; omega, hs.1, by show s ≤ _; omega, hk, fun h => by have h' : (1 : Int) = 2 := h; omega, by show t.length ≤ _; omega⟩
theorem ok_del {c s : Int} (hc : 0 ≤ c ∧ c ≤ 1001) (hs : 0 ≤ s ∧ s ≤ 1002) (hk : okK k) : OkO ⟨2, c, s, k, []⟩ := ⟨.inr rfl, hc.1, by show c ≤ _; omega, hs.1, by show s ≤ _; omega, hk, fun _ => rfl, by show (0 : Nat) ≤ _; omega⟩
theorem good_enc {o : Ao} (h : OkO o) : GoodO o (encO o) ∧ ¬ ArgNo o := by
  have he := okO.2 h
  refine ⟨⟨he, ?_⟩, (errO_zero.1 he).1⟩
  unfold encO
  rw [if_pos he]
theorem enc_len {o : Ao} (h : OkO o) : (encO o).length ≤ 90000 := by
  have he := okO.2 h
  unfold encO bytO
  rw [if_pos he, List.length_append, List.length_append]
  have h1 := enc3_len o.kd o.cl o.sq
  have hk : o.key.length ≤ 64 := h.key.2
  have h2 := rowB_len (xs := kI o.key) rfl (by rw [kI_len]; omega)
  have h3 := rowB_len (xs := o.txt) rfl (by have := h.txt; omega)
  rw [kI_len] at h2
  have := h.txt
  omega
end
section
variable {ShP : World → (Nat → Prop) → Nat → Sm → Prop} {P : Nat → Prop} {F : Nat → Prop} {w0 w : World} {b bp : Nat} {x y z : Value} {m m' : Sm}
/-- Put, then Apply: what they leave. -/
theorem call_any (H : ShSpec ShP) (o : Ao) (hok : OkO o) (hby : Byt o.txt) (said : List Int) (hst : Go.Sh.step m o = (said, m')) (hfew : Few m) (L : List (Value × List Int)) (h : On ShP w0 w P b bp x y z m) (hL : ∀ r ∈ L, Rk w P r.1 r.2) (wp : World) (A : Option Addr) (c : Nat) (hf : Fresh w (.slice A (encO o).length c) (encO o) wp) :
    Calls Tryz.prog 11 #[.pointer (some ⟨b, 0, none⟩), .int .i64 (m.ap + 1), .slice A (encO o).length c] wp fun e w' => ∃ v P', e = .returned v ∧ On ShP w0 w' P' b bp x y z m' ∧ ∀ r ∈ (v, said) :: L, Rk w' P' r.1 r.2 := by
  have h1 := h.quiet H hf.2.2
  obtain ⟨A', c', ee, hc1, hc2⟩ := own_shape hf.1
  injection ee with _ _ ee
  subst ee
  refine (H.apply_ wp P _ b m o (encO o) A _ c h1.sh (good_enc hok).1 (Fresh.sl hf rfl) (byt_op hby) (enc_len hok) hc1 hc2 hfew).mono ?_
  rintro e w' ⟨v, P', rfl, ho, hv, hs, hP, hc⟩
  rw [hst] at ho hs
  refine ⟨v, P', rfl, h1.next hs hP hc, fun r hr => ?_⟩
  rcases List.mem_cons.1 hr with e | hr
  · subst e
    exact ⟨ho, fun g hg => (hv g hg).2⟩
  · exact ((hL r hr).quiet hf.2.2).next hP hc
/-- Apply of a row that was told before. -/
theorem apply_any (H : ShSpec ShP) (o : Ao) (hok : OkO o) (hby : Byt o.txt) (said : List Int) (hst : Go.Sh.step m o = (said, m')) (hfew : Few m) (L : List (Value × List Int)) (h : On ShP w0 w P b bp x y z m) (hL : ∀ r ∈ L, Rk w P r.1 r.2) (v : Value) (hv : Rk w P v (encO o)) :
    Calls Tryz.prog 11 #[.pointer (some ⟨b, 0, none⟩), .int .i64 (m.ap + 1), v] w fun e w' => ∃ u P', e = .returned u ∧ On ShP w0 w' P' b bp x y z m' ∧ ∀ r ∈ (u, said) :: L, Rk w' P' r.1 r.2 := by
  obtain ⟨A', c', rfl, hc1, hc2⟩ := own_shape hv.own
  refine (H.apply_ w P _ b m o (encO o) A' _ c' h.sh (good_enc hok).1 hv.sl (byt_op hby) (enc_len hok) hc1 hc2 hfew).mono ?_
  rintro e w' ⟨u, P', rfl, ho, hv, hs, hP, hc⟩
  rw [hst] at ho hs
  refine ⟨u, P', rfl, h.next hs hP hc, fun r hr => ?_⟩
  rcases List.mem_cons.1 hr with e | hr
  · subst e
    exact ⟨ho, fun g hg => (hv g hg).2⟩
  · exact (hL r hr).next hP hc
end
section
variable {ShP : World → (Nat → Prop) → Nat → Sm → Prop} {P F G : Nat → Prop} {w0 w w' : World} {b bp : Nat} {x y z v v' : Value} {m : Sm} {xs ys : List Int} {L : List (Value × List Int)}
theorem same_rk {A' : Option Addr} {n' c' : Nat} (h : Rk w P v xs) (hl : xs.length ≤ 1000000) (hy : Sl w G .u8 A' n' ys) (hn : n' ≤ 1000000) (ho : xs = ys) :
    Calls Tryz.prog 19 #[v, .slice A' n' c'] w fun e w' => e = .returned (.bool true) ∧ Ch (fun _ => False) w w' := by
  obtain ⟨A, c, rfl, _, _⟩ := own_shape h.own
  exact lsame_any A A' _ n' c c' xs ys w (by omega) (by omega) h.sl hy true (by rw [decide_eq_true ho])
theorem same_rr (h : Rk w P v xs) (hl : xs.length ≤ 1000000) (hy : Rk w P v' ys) (ho : xs = ys) :
    Calls Tryz.prog 19 #[v, v'] w fun e w' => e = .returned (.bool true) ∧ Ch (fun _ => False) w w' := by
  obtain ⟨A, c, rfl, _, _⟩ := own_shape hy.own
  exact same_rk h hl hy.sl (by rw [← ho]; exact hl) ho
theorem same_lit (zs : List Int) (h : Rk w P v xs) (hl : xs.length ≤ 1000000) (ho : xs = zs) :
    Calls Tryz.prog 19 #[v, .slice (some ⟨w.heap.size, 0, none⟩) (zs.map (Value.int .u8)).length (zs.map (Value.int .u8)).length] (w.alloc (.cells (zs.map (Value.int .u8)).toArray 5)) fun e w' => e = .returned (.bool true) ∧ Ch (fun _ => False) w w' :=
  (same_rk (h.quiet ((Ch.refl _ _).alloc _)) hl (Vs.built w 5 (zs.map (Value.int .u8))) (by rw [List.length_map, ← ho]; exact hl) ho).mono fun _ _ e => ⟨e.1, ((Ch.refl _ _).alloc _).trans e.2 (fun _ _ h => h)⟩
theorem rks_quiet (h : ∀ r ∈ L, Rk w P r.1 r.2) (hc : Ch (fun _ => False) w w') : ∀ r ∈ L, Rk w' P r.1 r.2 := fun r hr => (h r hr).quiet hc
end
end
section
open Go.RowKit Go.Oct Go.Su Go.Sg Go.Om Go.Sh
section
def kO : Ao := ⟨1, 1, 1, [97], [120, 121, 120]⟩
def ssk : Int → Option Ses := at1 (fun _ => none) 1 ⟨1, [0, 1, 0]⟩
theorem okA : okK [97] := ⟨by decide, by decide⟩
theorem okKO : OkO kO := ok_put (by omega) (by omega) okA (by decide)
theorem kn1 : Go.Sh.step smNew kO = ([0, 1, 0], ⟨1, ssk, [([97], [120, 121, 120])], []⟩) := by
  show Go.Sh.step smNew ⟨1, 1, 1, [97], [120, 121, 120]⟩ = _
  rw [step_new (fun s h => by cases h)]
  unfold newOp done
  rw [if_pos rfl]
  show (repB 0 [if hasB [] [97] then 1 else 0], (⟨0 + 1, at1 (fun _ => none) 1 ⟨1, repB 0 [if hasB [] [97] then 1 else 0]⟩, (tPut ([], []) [97] [120, 121, 120]).2.1, (tPut ([], []) [97] [120, 121, 120]).2.2⟩ : Sm)) = _
  rw [hasB_none, put_none [97] _ okA (by decide), if_neg (by decide), rep_one 0 0 (by omega) (by omega)]
  rfl
theorem kn2 : Go.Sh.step ⟨1, ssk, [([97], [120, 121, 120])], []⟩ kO = ([0, 1, 0], ⟨2, ssk, [([97], [120, 121, 120])], []⟩) := by
  rw [step_again (s := ⟨1, [0, 1, 0]⟩) (by rfl) rfl]
  rfl
theorem kn3 : (finds [([97], [120, 121, 120])] [120]).map (fun h => (h.1, (h.2 : Int))) = [([97], 0), ([97], 2)] := by rfl
theorem matk_built (w : World) : Mts (w.alloc (.cells #[.string ⟨#[97]⟩, .int .i64 0, .string ⟨#[97]⟩, .int .i64 2] 73)) (fun _ => True) (some ⟨w.heap.size, 0, none⟩) 2 [([97], 0), ([97], 2)] := by
  refine ⟨rfl, fun _ => ⟨w.heap.size, 0, rfl, trivial, fun j a ha => ?_⟩⟩
  match j, ha with
  | 0, ha =>
    simp at ha
    subst ha
    refine ⟨[kv [97], .int .i64 0], rfl, rfl, fun i u hu => ?_⟩
    match i, hu with
    | 0, hu => simp at hu; subst hu; exact (World.cell?_alloc_at _ _ _ _ rfl).trans rfl
    | 1, hu => simp at hu; subst hu; exact (World.cell?_alloc_at _ _ _ _ rfl).trans rfl
  | 1, ha =>
    simp at ha
    subst ha
    refine ⟨[kv [97], .int .i64 2], rfl, rfl, fun i u hu => ?_⟩
    match i, hu with
    | 0, hu => simp at hu; subst hu; exact (World.cell?_alloc_at _ _ _ _ rfl).trans rfl
    | 1, hu => simp at hu; subst hu; exact (World.cell?_alloc_at _ _ _ _ rfl).trans rfl
theorem byK : Byt [120, 121, 120] := by intro x hx; simp at hx; omega
theorem byX : Byt [120] := by intro x hx; simp at hx; omega
end
variable {ShP : World → (Nat → Prop) → Nat → Sm → Prop}
set_option maxHeartbeats 4000000 in
theorem shknown_any (H : ShSpec ShP) (w : World) (hmx : MaxC w) (hml : 4 < w.heap.size) :
    Calls Tryz.prog 16 #[] w fun e w' => e = .returned (.bool true) ∧ Ch (fun _ => False) w w' := by
  have kc := fun (w : World) (C : Array Value) (n c : Nat) => Lib.run_convert_bytes_const (P := Tryz.prog) w 22 5 C n c Tryz.underlying22 Tryz.underlying5
  have HST := Bx.mk (start_any H w 65536 (by omega) hmx hml)
  clear hmx hml
  go_enter Tryz.func16, Tryz.ntmps16
  go_wp2_with fail
  refine HST.out.mono ?_
  rintro e w1 ⟨P0, b, bp, d, wd, xp, rfl, hsh, hpr, hlow, hnp, hbp, hch⟩
  obtain ⟨x, hxx⟩ : ∃ v, ptr d = v := ⟨_, rfl⟩
  obtain ⟨y, hyy⟩ : ∃ v, ptr wd = v := ⟨_, rfl⟩
  obtain ⟨z, hzz⟩ : ∃ v, ptr xp = v := ⟨_, rfl⟩
  rw [hxx, hyy, hzz] at hpr
  have HO0 : Bx (On ShP w w1 P0 b bp x y z smNew) := ⟨⟨hsh, hpr, hnp, hbp, hlow, hch⟩⟩
  clear hsh hpr hlow hnp hbp hch HST hxx hyy hzz
  go_wp2_with fail
  have hr1 : Sl (w1.alloc (.cells #[.int .u8 120, .int .u8 121, .int .u8 120] 5 (3, 4))) (fun b => b = w1.heap.size) .u8 (some ⟨w1.heap.size, 0, none⟩) 3 [120, 121, 120] := Vs.built w1 5 [.int .u8 120, .int .u8 121, .int .u8 120] (3, 4)
  have HE := Bx.mk (refenc_ok 1 1 1 [97] [120, 121, 120] _ 3 3 _ hr1 (by omega) (good_enc okKO).2)
  clear hr1
  refine HE.out.mono ?_
  rintro e w2 ⟨v, rfl, hf⟩
  have hf : Fresh (w1.alloc (.cells #[.int .u8 120, .int .u8 121, .int .u8 120] 5 (3, 4))) v (encO kO) w2 := hf
  have hc2 := ((Ch.refl (fun _ => False) w1).alloc (.cells #[.int .u8 120, .int .u8 121, .int .u8 120] 5 (3, 4))).trans hf.2.2 (fun _ _ h => h)
  have HO1 := Bx.mk (HO0.out.quiet H hc2)
  have HL1 : Bx (∀ r ∈ [(v, encO kO)], Rk w2 P0 r.1 r.2) := ⟨fun r hr => by
    have hr := List.mem_singleton.1 hr
    subst hr
    exact Rk.fresh hf (fun q hq => by rw [World.size_alloc]; exact Nat.lt_succ_of_lt (H.lt HO0.out.sh q hq))⟩
  clear hc2 hf HE
  obtain ⟨_, _, z2, _, _, _⟩ := HO1.out.pr.facts
  unfold ptr at z2
  have HA := Bx.mk (apply_any H kO okKO byK [0, 1, 0] kn1 (few_mk (by first | (show (0 : Nat) + 0 < 7; omega) | (show (1 : Nat) + 0 < 7; omega)) (by repeat (first | exact .inl rfl | exact rfl | apply Or.inr))) _ HO1.out HL1.out v (HL1.out (v, encO kO) (by simp)))
  go_wp2_with fail
  refine HA.out.mono ?_
  rintro e w3 ⟨u1, P2, rfl, ho, hl⟩
  have HO2 := Bx.mk ho
  have HL2 := Bx.mk hl
  clear ho hl HA z2
  go_wp2_with fail
  refine (same_lit [0, 1, 0] (HL2.out (u1, [0, 1, 0]) (by simp)) (by simp) rfl).mono ?_
  rintro e w3s ⟨rfl, hc⟩
  have HO2s := Bx.mk (HO2.out.quiet H hc)
  have HL2s := Bx.mk (rks_quiet HL2.out hc)
  clear hc
  obtain ⟨_, _, z2, _, _, _⟩ := HO2s.out.pr.facts
  unfold ptr at z2
  have HA := Bx.mk (apply_any H kO okKO byK [0, 1, 0] kn2 (few_mk (by first | (show (0 : Nat) + 0 < 7; omega) | (show (1 : Nat) + 0 < 7; omega)) (by repeat (first | exact .inl rfl | exact rfl | apply Or.inr))) _ HO2s.out HL2s.out v (HL2s.out (v, encO kO) (by simp)))
  go_wp2_with fail
  refine HA.out.mono ?_
  rintro e w4 ⟨u2, P3, rfl, ho, hl⟩
  have HO3 := Bx.mk ho
  have HL3 := Bx.mk hl
  clear ho hl HA z2
  go_wp2_with fail
  refine (same_lit [0, 1, 0] (HL3.out (u2, [0, 1, 0]) (by simp)) (by simp) rfl).mono ?_
  rintro e w4s ⟨rfl, hc⟩
  have HO3s := Bx.mk (HO3.out.quiet H hc)
  have HL3s := Bx.mk (rks_quiet HL3.out hc)
  clear hc
  obtain ⟨_, _, z2, _, _, _⟩ := HO3s.out.pr.facts
  unfold ptr at z2
  go_wp2_with fail
  have hc5 := (Ch.refl (fun _ => False) w4s).alloc (.cells #[.int .u8 120] 5 (1, 2))
  have HF := Bx.mk (H.find_ _ P3 _ b _ [120] _ 1 1 (HO3s.out.quiet H hc5).sh (Vs.built w4s 5 [.int .u8 120] (1, 2)) byX (by omega) (by omega) (few_mk (by first | (show (0 : Nat) + 0 < 7; omega) | (show (1 : Nat) + 0 < 7; omega)) (by repeat (first | exact .inl rfl | exact rfl | apply Or.inr))))
  have HO4 := Bx.mk (HO3s.out.quiet H hc5)
  clear hc5
  generalize w4s.alloc (.cells #[.int .u8 120] 5 (1, 2)) = w5 at *
  refine HF.out.mono ?_
  rintro e w6 ⟨A', n', c', rfl, hM, hc6⟩
  have hM : Mts w6 (fun x => w5.heap.size ≤ x) A' n' [([97], 0), ([97], 2)] := by
    have h := hM
    rw [show (finds (⟨2, ssk, [([97], [120, 121, 120])], []⟩ : Sm).ds [120]).map (fun h => (h.1, (h.2 : Int))) = [([97], 0), ([97], 2)] from kn3] at h
    exact h
  have hl := hM.1
  simp only [List.length_cons, List.length_nil] at hl
  subst hl
  have HM := Bx.mk hM
  have HO5 := Bx.mk (HO4.out.quiet H hc6)
  clear hM hc6 HF z2 HO4
  go_wp2_with fail
  have hc7 := (Ch.refl (fun _ => False) w6).alloc (.cells #[.string ⟨#[97]⟩, .int .i64 0, .string ⟨#[97]⟩, .int .i64 2] 73)
  have HO6 := Bx.mk (HO5.out.quiet H hc7)
  refine (lawmatches_any [([97], 0), ([97], 2)] [([97], 0), ([97], 2)] A' _ 2 2 c' 2 _ (HM.out.ch hc7 (fun _ _ _ h => h)) (matk_built w6) (by omega) true (by decide)).mono ?_
  clear hc7
  rintro e w7 ⟨rfl, q, rfl⟩
  have HO7 := Bx.mk (HO6.out.quiet H ((Ch.refl (fun _ => False) _).drewN q))
  clear HO6 HO5 HM
  generalize (w6.alloc (.cells #[.string ⟨#[97]⟩, .int .i64 0, .string ⟨#[97]⟩, .int .i64 2] 73)).drewN q = w7 at *
  obtain ⟨_, _, z2, _, _, _⟩ := HO7.out.pr.facts
  unfold ptr at z2
  go_wp2_with fail
  have HA := Bx.mk (H.applied_ _ _ _ _ HO7.out.sh)
  refine HA.out.mono ?_
  rintro e w8 ⟨rfl, rfl⟩
  clear HA z2
  have HC := Bx.mk HO7.out.ch
  go_wp2_with fail
  go_ret
  exact ⟨rfl, HC.out⟩
end
end Go.Proofs.YtbkakhfepiooaaaGreatDoor
