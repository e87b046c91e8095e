/- Lemmas and contracts of this proof. Conditions: said at each. -/
import Derived.Test.YtbkakhfepiooaaaGreatDoorQGMtFind
import Derived.Test.YtbkakhfepiooaaaGreatDoorQGShDo
namespace Go.Proofs.YtbkakhfepiooaaaGreatDoor.M
section
open Go.RowKit Go.Oct Go.Su Go.Sg Go.Mt Go.Maps
/-- Documents Put one by one. -/
def tNews (s : List Dc × List Key) : List Dc → List Dc × List Key
  | [] => s
  | d :: l => tNews (tPut s d.1 d.2).2 l
theorem tNews_snoc : ∀ (l : List Dc) (s : List Dc × List Key) (d : Dc), tNews s (l ++ [d]) = (tPut (tNews s l) d.1 d.2).2
  | [], _, _ => rfl
  | a :: l, s, d => tNews_snoc l (tPut s a.1 a.2).2 d
theorem tPut_few {s : List Dc × List Key} (ok : TabOk s.1 s.2) (k : Key) (t : List Int) : (tPut s k t).2.1.length + (tPut s k t).2.2.length ≤ s.1.length + s.2.length + 1 := by
  unfold tPut
  split
  · exact Nat.le_succ _
  · split
    · exact Nat.le_succ _
    · have h1 := len_put_le ok.dr (k, t)
      have h2 := len_del_le ok.gr k
      show (put (·.1) s.1 (k, t)).length + (del id s.2 k).length ≤ _
      omega
theorem tDel_few {s : List Dc × List Key} (ok : TabOk s.1 s.2) (k : Key) : (tDel s k).2.1.length + (tDel s k).2.2.length ≤ s.1.length + s.2.length + 1 := by
  unfold tDel
  split
  · exact Nat.le_succ _
  · have h1 := len_put_le ok.gr k
    have h2 := len_del_le ok.dr k
    show (del (·.1) s.1 k).length + (put id s.2 k).length ≤ _
    omega
section
variable {w w1 w2 w' W W' : World} {P S F G FA : Nat → Prop} {t : Nat} {gs : List Key} {ds : List Dc} {k : Key}
/-- A new table. -/
theorem TabP.new (w : World) (hmx : ∃ m, w.cell? ⟨4, 0, none⟩ = some (.int .i64 m)) : TabP (w.alloc (.cells #[.map none] 127)) (fun x => x = w.heap.size) w.heap.size [] [] := by
  obtain ⟨m, hm⟩ := hmx
  have hl : 4 < w.heap.size := lt_of_cell hm
  refine ⟨⟨none, [], fun _ => .bool false, ncells_at (j := 0) rfl, ⟨RiseF.nil, List.Perm.nil, fun _ => rfl, (fun b hb => by cases hb), (fun d hd => by simp at hd), (fun k hk => by simp at hk)⟩⟩, ?_, rfl, fun x hx => by rw [hx, World.size_alloc]; omega, TabOk.nil, Nat.zero_le _, ⟨m, ((Ch.refl (fun _ => False) w).alloc _).cell (fun h => h) hm⟩, by omega⟩
  unfold World.frozen?
  rw [heap_alloc_new]
  simp
/-- What New leaves. -/
def NewTab (s : List Dc × List Key) (t : Nat) (w w' : World) : Prop := ∃ P, TabP w' P t s.1 s.2 ∧ (∀ x, P x → w.heap.size ≤ x) ∧ Ch (fun _ => False) w w'
set_option maxHeartbeats 2000000 in
set_option maxRecDepth 100000 in
theorem mnew_any (docs : List Dc) (A : Option Addr) (n c : Nat) (w : World) (hz : Dcs w F A n docs) (hn : n ≤ 100000) (hok : ∀ d ∈ docs, d.1.length ≤ 9223372036854775807 ∧ ∀ x ∈ d.2, 0 ≤ x ∧ x < 256) (hmx : ∃ m, w.cell? ⟨4, 0, none⟩ = some (.int .i64 m)) :
    Calls Tryz.prog 31 #[.slice A n c] w fun e w' => e = .returned (.pointer (some ⟨w.heap.size, 0, none⟩)) ∧ NewTab (tNews ([], []) docs) w.heap.size w w' := by
  have HL := Bx.mk hz.len
  have HOK := Bx.mk hok
  have HT0 := Bx.mk (TabP.new w hmx)
  obtain ⟨t, ht⟩ : ∃ t, w.heap.size = t := ⟨_, rfl⟩
  obtain ⟨w1, hw1⟩ : ∃ w1, w.alloc (.cells #[.map none] 127) = w1 := ⟨_, rfl⟩
  have hc1 : Ch (fun _ => False) w w1 := by rw [← hw1]; exact (Ch.refl _ _).alloc _
  have HZ := Bx.mk hz
  have HC1 := Bx.mk hc1
  have HTW : Bx (w.heap.size = t) := ⟨ht⟩
  rw [hw1, ht] at HT0
  rw [ht]
  clear hz hok hmx hc1
  go_enter Tryz.func31, Tryz.ntmps31
  go_wp2_with fail
  clear hw1 ht
  go_loopw [9] (fun i wr => ∃ (k : Nat) (P : Nat → Prop), k ≤ n ∧ i = .int .i64 k ∧ Bx (TabP wr P t (tNews ([], []) (docs.take k)).1 (tNews ([], []) (docs.take k)).2) ∧ Bx ((tNews ([], []) (docs.take k)).1.length + (tNews ([], []) (docs.take k)).2.length ≤ k) ∧ Bx (∀ x, P x → t ≤ x) ∧ Bx (Ch (fun _ => False) w wr)) (fun i _ => n - (intOf i).toNat)
  case atStart => exact ⟨0, fun x => x = t, Nat.zero_le _, rfl, HT0, ⟨Nat.zero_le _⟩, ⟨fun x hx => by omega⟩, HC1⟩
  case round =>
    obtain ⟨k, P, hk, rfl, hT, hF, hP, hC⟩ := hrel
    by_cases hlt : k < n
    · have dk : decide ((k : Int) < (n : Int)) = true := decide_eq_true (by omega)
      have i2 : (k : Int) < (n : Int) := by omega
      obtain ⟨bd, od, dc, A', c', rfl, _, ex, hck0, hct0, hsl0, hlc, hcm⟩ := (HZ.out.ch hC.out (fun _ _ _ h => h)).get hlt
      have hdm := List.mem_of_getElem? ex.out
      obtain ⟨hkl, hby⟩ := HOK.out dc hdm
      have HNT : Bx (tNews ([], []) (docs.take (k + 1)) = (tPut (tNews ([], []) (docs.take k)) dc.1 dc.2).2) := ⟨by rw [Oct.take_more ex.out, tNews_snoc]⟩
      obtain ⟨s, hs⟩ : ∃ s, tNews ([], []) (docs.take k) = s := ⟨_, rfl⟩
      rw [hs] at hT hF HNT
      obtain ⟨w2, hw2⟩ : ∃ w2, wr.alloc (.cells #[kv dc.1, .slice A' dc.2.length c'] 129) = w2 := ⟨_, rfl⟩
      have hc2 : Ch (fun _ => False) wr w2 := by rw [← hw2]; exact (Ch.refl _ _).alloc _
      have hs2 : w2.heap.size = wr.heap.size + 1 := by rw [← hw2, World.size_alloc]
      have e0 : w2.cell? ⟨wr.heap.size, 0, none⟩ = some (kv dc.1) := by rw [← hw2]; exact ncells_at (j := 0) rfl
      have e1 : w2.cell? ⟨wr.heap.size, 1, none⟩ = some (.slice A' dc.2.length c') := by rw [← hw2]; exact ncells_at (j := 1) rfl
      have hn0 : dc.2.length ≤ 9223372036854775807 := by unfold maxLen at hcm; omega
      have hfw : s.1.length + s.2.length < 1000000 := by have := hF.out; omega
      have HPUT := Bx.mk (mput_any (c0 := c') (hT.out.keep hc2) dc.1 hkl (hsl0.ch hc2 (fun _ _ _ h => h)) hby hn0 hfw)
      have HC2 := Bx.mk hc2
      obtain ⟨tl, htl⟩ : ∃ tl, dc.2.length = tl := ⟨_, rfl⟩
      rw [htl] at HPUT hw2 e1 hct0 hlc
      obtain ⟨SD, hSD⟩ : ∃ S : ByteArray, kv dc.1 = .string S := ⟨_, rfl⟩
      rw [hSD] at HPUT hck0 hw2 e0
      have hc63 : c' ≤ 9223372036854775807 := by unfold maxLen at hcm; omega
      clear hdm hkl hby ex hs htl hSD hc2 hcm hsl0 hfw hn0
      go_wp2_with fail
      refine HPUT.out.mono ?_
      rintro e w5 ⟨rfl, P5, hT5, hP5, hC5⟩
      have HREL : Bx (TabP w5 P5 t (tNews ([], []) (docs.take (k + 1))).1 (tNews ([], []) (docs.take (k + 1))).2 ∧ ((tNews ([], []) (docs.take (k + 1))).1.length + (tNews ([], []) (docs.take (k + 1))).2.length ≤ k + 1) ∧ (∀ x, P5 x → t ≤ x) ∧ Ch (fun _ => False) w w5) := ⟨by
        rw [HNT.out]
        refine ⟨hT5, ?_, fun x hx => ?_, ?_⟩
        · have := tPut_few hT.out.ok dc.1 dc.2
          have := hF.out
          omega
        · rcases hP5 x hx with h | h
          · exact hP.out x h
          · have := hC.out.size
            have := HTW.out
            omega
        · refine (hC.out.trans HC2.out (fun _ _ h => h)).trans hC5 (fun i hi hp => ?_)
          have := hP.out i hp
          have := HTW.out
          omega⟩
      clear hT5 hP5 hC5 hw2
      go_wp2
      go_roundw
      case rel => exact ⟨k + 1, P5, by omega, by go_num, ⟨HREL.out.1⟩, ⟨HREL.out.2.1⟩, ⟨HREL.out.2.2.1⟩, ⟨HREL.out.2.2.2⟩⟩
      case measure => simp [intOf]; omega
    · have hkn : n = k := by omega
      have dk : decide ((k : Int) < (n : Int)) = false := decide_eq_false (by omega)
      have hall : docs.take k = docs := List.take_of_length_le (by have := HL.out; omega)
      rw [hall] at hT hF
      have HF : Bx (NewTab (tNews ([], []) docs) t w wr) := ⟨P, hT.out, fun x hx => by have := hP.out x hx; have := HTW.out; omega, hC.out⟩
      clear hall hkn
      go_wp2
      go_ret
      exact ⟨rfl, HF.out⟩
end
end
end Go.Proofs.YtbkakhfepiooaaaGreatDoor.M
namespace Go.Proofs.YtbkakhfepiooaaaGreatDoor
section
open Go.RowKit Go.Oct Go.Su Go.Sg Go.Om Go.Sh Go.Maps
section
variable {w w' : World} {P PT T F : Nat → Prop} {b t : Nat} {h : Wh} {m : Sm}
/-- The number is set. -/
theorem ShT.number (H : ShT w P PT b h m) : ShT (w.setCell ⟨b, 0, none⟩ (.int .i64 (m.ap + 1))) P PT b h (nextM m) ∧ Ch P w (w.setCell ⟨b, 0, none⟩ (.int .i64 (m.ap + 1))) := by
  have hc : Ch (fun x => x = b) w (w.setCell ⟨b, 0, none⟩ (.int .i64 (m.ap + 1))) := (Ch.refl (fun x => x = b) w).setCell (p := ⟨b, 0, none⟩) (.inl rfl) _
  have hml : ¬ 4 = b := fun e => H.mp (by rw [e]; exact H.pb)
  refine ⟨⟨D.set_same H.c0, (D.set_off (by decide)).trans H.c1, (D.set_off (by decide)).trans H.c2, (D.set_off (by decide)).trans H.c3, (D.set_off (by decide)).trans H.c4, (D.set_off (by decide)).trans H.c5, (D.set_off (by decide)).trans H.c6, (D.set_off (by decide)).trans H.c7, fun j => (World.frozen?_setCell _ _ _ _).trans (H.zf j),
    H.tab.ch hc (fun x hx e => H.nb (by rw [← e]; exact hx)) hml, H.ses.ch hc (fun e => H.ne e.symm) (fun x hx _ e => hx.2.2.1 e), H.pb, H.ps, H.pt, H.nb, H.ns, H.ne, fun x hx => Nat.lt_of_lt_of_le (H.lt x hx) hc.size, H.mp, ?_⟩, hc.mono (fun x _ e => by rw [e]; exact H.pb)⟩
  have := H.few
  show (h.n : Int) ≤ m.ap + 1
  omega
theorem done_len (m : Sm) (o : Ao) (ok : TabOk m.ds m.gs) : (done m.ds m.gs o).2.1.length + (done m.ds m.gs o).2.2.length ≤ m.ds.length + m.gs.length + 1 := by
  unfold done
  by_cases h1 : o.kd = 1
  · rw [if_pos h1]
    exact M.tPut_few (s := (m.ds, m.gs)) ok o.key o.txt
  · rw [if_neg h1]
    by_cases h2 : hasB m.ds o.key = true
    · rw [if_pos h2]
      exact M.tDel_few (s := (m.ds, m.gs)) ok o.key
    · rw [if_neg h2]
      show m.ds.length + m.gs.length ≤ _
      omega
theorem step_len (m : Sm) (o : Ao) (ok : TabOk m.ds m.gs) : (Go.Sh.step m o).2.ds.length + (Go.Sh.step m o).2.gs.length ≤ m.ds.length + m.gs.length + 1 := by
  unfold Go.Sh.step
  have hd := done_len m o ok
  cases m.ss o.cl with
  | none => exact hd
  | some s =>
    show (if o.sq < s.sq then _ else if o.sq = s.sq then _ else _ : List Int × Sm).2.ds.length + (if o.sq < s.sq then _ else if o.sq = s.sq then _ else _ : List Int × Sm).2.gs.length ≤ _
    by_cases h1 : o.sq < s.sq
    · rw [if_pos h1]
      show m.ds.length + m.gs.length ≤ _
      omega
    · rw [if_neg h1]
      by_cases h2 : o.sq = s.sq
      · rw [if_pos h2]
        show m.ds.length + m.gs.length ≤ _
        omega
      · rw [if_neg h2]
        exact hd
theorem sl_off {a : Int} {A : Option Addr} {n : Nat} {xs : List Int} {v : Value} (c0 : w.cell? ⟨b, 0, none⟩ = some (.int .i64 a)) (hz : Sl w F .u8 A n xs) : Sl (w.setCell ⟨b, 0, none⟩ v) F .u8 A n xs := by
  refine ⟨hz.1, fun hn => ?_⟩
  obtain ⟨b', off, e1, e2, e3⟩ := hz.2 hn
  refine ⟨b', off, e1, e2, fun j u hu => ?_⟩
  have h3 := e3 j u hu
  refine (World.cell?_setCell_other _ _ _ _ (fun e => ?_)).trans h3
  rw [← e, c0] at h3
  injection h3 with h3
  rw [List.getElem?_map] at hu
  cases hx : xs[j]? with
  | none => rw [hx] at hu; cases hu
  | some x =>
    rw [hx] at hu
    injection hu with hu
    rw [← h3] at hu
    cases hu
/-- What Apply leaves. -/
def ApPost (m : Sm) (o : Ao) (b : Nat) (P : Nat → Prop) (w : World) (e : Ending) (w' : World) : Prop := ∃ (v : Value) (P' : Nat → Prop), e = .returned v ∧ w'.ownsRow 0 5 1 v (Go.Sh.step m o).1.length ((Go.Sh.step m o).1.map (Value.int .u8)) ∧ (∀ g, v.ownBlock = some g → w.heap.size ≤ g ∧ ¬ P' g) ∧ ShP w' P' b (Go.Sh.step m o).2 ∧ (∀ x, P' x → P x ∨ w.heap.size ≤ x) ∧ Ch P w w'
set_option maxHeartbeats 2000000 in
set_option maxRecDepth 100000 in
theorem apply_ok (H : ShT w P PT b h m) (o : Ao) (xs : List Int) (A : Option Addr) (n c : Nat) (hg : GoodO o xs) (hz : Sl w F .u8 A n xs) (hby : Byt xs) (hn : n ≤ 90000) (hnc : n ≤ c) (hc : c ≤ maxLen) (hfw : Few m) :
    Calls Tryz.prog 11 #[.pointer (some ⟨b, 0, none⟩), .int .i64 (m.ap + 1), .slice A n c] w (ApPost m o b P w) := by
  have HCM := Bx.mk (comes_any H hfw.2.1 (by have := hfw.2.2; omega))
  obtain ⟨hN, hcN⟩ := H.number
  have HZ1 := Bx.mk (sl_off (b := b) (v := .int .i64 (m.ap + 1)) H.c0 hz)
  obtain ⟨w1, hw1⟩ : ∃ w1, w.setCell ⟨b, 0, none⟩ (.int .i64 (m.ap + 1)) = w1 := ⟨_, rfl⟩
  have HW1 : Bx (w1.heap.size = w.heap.size) := ⟨by rw [← hw1]; simp [World.setCell]⟩
  rw [hw1] at hN hcN HZ1
  have HD := Bx.mk (do_any hN o xs A n c hg HZ1.out hby hn hnc hc hfw H.few)
  have HCN := Bx.mk hcN
  have HSL := Bx.mk (step_len m o H.tab.ok)
  have HFW := Bx.mk hfw
  have c0 := H.c0
  have z0 := H.zf 0
  have HH := Bx.mk H
  obtain ⟨ap, hap⟩ : ∃ ap, m.ap + 1 = ap := ⟨_, rfl⟩
  rw [hap] at HCM hw1 ⊢
  clear H hg hz hby hfw hN hcN hap HZ1
  go_enter Tryz.func11, Tryz.ntmps11
  go_wp2_with fail
  refine HCM.out.mono ?_
  rintro e w0 ⟨rfl, rfl⟩
  go_wp2_with fail
  clear hw1
  refine HD.out.mono ?_
  rintro e w2 ⟨er, A2, n2, c2, l2, P2, PT2, h2, rfl, hsl, hn2, hnc2, hc2, hsd, hT2, hP2, hch2⟩
  obtain ⟨w3, hw3⟩ : ∃ w3, w2.alloc (.cells #[.int .i64 er, .slice A2 n2 c2] 90) = w3 := ⟨_, rfl⟩
  obtain ⟨R, hR⟩ : ∃ R, w2.heap.size = R := ⟨_, rfl⟩
  have HR := Bx.mk hR
  have hc3 : Ch (fun _ => False) w2 w3 := by rw [← hw3]; exact (Ch.refl _ _).alloc _
  have r0 : w3.cell? ⟨R, 0, none⟩ = some (.int .i64 er) := by rw [← hw3, ← hR]; exact ncells_at (j := 0) rfl
  have r1 : w3.cell? ⟨R, 1, none⟩ = some (.slice A2 n2 c2) := by rw [← hw3, ← hR]; exact ncells_at (j := 1) rfl
  have hT3 := hT2.keep hc3
  have c5 := hT3.c5
  have HL := Bx.mk (M.mlenp_any hT3.tab)
  have HE := Bx.mk (erep_any er l2 A2 n2 c2 w3 (hsl.ch hc3 (fun _ _ _ h => h)) hn2 hnc2 hc2)
  have HC3 := Bx.mk ((HCN.out.trans hch2 (fun _ _ h => h)).trans hc3 (fun _ _ h => h.elim))
  have HT3 := Bx.mk hT3
  have HP2 := Bx.mk hP2
  have HSD := Bx.mk hsd
  have HLT2 : Bx (∀ x, P2 x → x < w3.heap.size) := ⟨hT3.lt⟩
  obtain ⟨L, hL⟩ : ∃ L, (Go.Sh.step m o).2.ds.length + (Go.Sh.step m o).2.gs.length = L := ⟨_, rfl⟩
  have hL8 : L ≤ 7 := by have h1 := HSL.out; have h2 := HFW.out.1; omega
  have hd8 : decide ((8 : Int) ≤ (L : Int)) = false := decide_eq_false (by omega)
  have hd8' : decide (8 ≤ L) = false := decide_eq_false (by omega)
  rw [hL] at HL
  clear hsl hn2 hnc2 hc2 hsd hT2 hP2 hch2 hc3 hT3 HD HCM hL hL8 c0 z0 HCN
  go_upto_region 5 with fail
  clear hw3 hR
  go_wp2_with fail
  refine HL.out.mono ?_
  rintro e w4 ⟨rfl, rfl⟩
  go_wp2_with fail
  refine HE.out.mono ?_
  rintro e w5 ⟨v, rfl, hf⟩
  have HF := Bx.mk hf
  clear hf HL HE c5 r0 r1
  go_wp2
  go_ret
  refine ⟨v, P2, rfl, by rw [HSD.out]; exact HF.out.1, fun g hg => ?_, ⟨PT2, h2, HT3.out.keep HF.out.2.2⟩, fun x hx => ?_, HC3.out.trans HF.out.2.2 (fun _ _ h => h.elim)⟩
  · have h1 := HF.out.2.1 g hg
    exact ⟨Nat.le_trans HC3.out.size h1, fun e => by have := HLT2.out g e; omega⟩
  · exact (HP2.out x hx).imp id (fun h => by rw [HW1.out] at h; exact h)
end
end
section
open Go.RowKit Go.Oct Go.Su Go.Sg Go.Om Go.Sh Go.Maps
section
variable {w w' W : World} {F : Nat → Prop}
/-- What the function value holds: the key asked last, no layer, not known. -/
structure Clo (w : World) (bk bn bq : Nat) : Prop where
  key : ∃ k : Key, w.cell? ⟨bk, 0, none⟩ = some (kv k)
  new : ∃ A c, w.cell? ⟨bn, 0, none⟩ = some (.slice A 0 c)
  kn : w.cell? ⟨bq, 0, none⟩ = some (.bool false)
  fk : w.frozen? ⟨bk, 0, none⟩ = false
  fq : w.frozen? ⟨bq, 0, none⟩ = false
  ne : bk ≠ bq ∧ bk ≠ bn ∧ bn ≠ bq
theorem Clo.keep {bk bn bq : Nat} (h : Clo w bk bn bq) (hc : Ch (fun _ => False) w w') : Clo w' bk bn bq := by
  obtain ⟨k, hk⟩ := h.key
  obtain ⟨A, c, hn⟩ := h.new
  exact ⟨⟨k, hc.cell (fun h => h) hk⟩, ⟨A, c, hc.cell (fun h => h) hn⟩, hc.cell (fun h => h) h.kn, by rw [hc.frozen (p := ⟨bk, 0, none⟩) (fun h => h) (lt_of_cell hk)]; exact h.fk, by rw [hc.frozen (p := ⟨bq, 0, none⟩) (fun h => h) (lt_of_cell h.kn)]; exact h.fq, h.ne⟩
theorem clo_set {bk bn bq : Nat} (h : Clo w bk bn bq) (k : Key) : (w.setCell ⟨bk, 0, none⟩ (kv k)).cell? ⟨bk, 0, none⟩ = some (kv k) ∧ (∀ A c, w.cell? ⟨bn, 0, none⟩ = some (.slice A 0 c) → (w.setCell ⟨bk, 0, none⟩ (kv k)).cell? ⟨bn, 0, none⟩ = some (.slice A 0 c)) ∧ (w.setCell ⟨bk, 0, none⟩ (kv k)).cell? ⟨bq, 0, none⟩ = some (.bool false) ∧ (w.setCell ⟨bk, 0, none⟩ (kv k)).frozen? ⟨bq, 0, none⟩ = false ∧
    ((w.setCell ⟨bk, 0, none⟩ (kv k)).setCell ⟨bq, 0, none⟩ (.bool false)).cell? ⟨bq, 0, none⟩ = some (.bool false) ∧ Clo ((w.setCell ⟨bk, 0, none⟩ (kv k)).setCell ⟨bq, 0, none⟩ (.bool false)) bk bn bq ∧ Ch (fun x => x = bk ∨ x = bq) w ((w.setCell ⟨bk, 0, none⟩ (kv k)).setCell ⟨bq, 0, none⟩ (.bool false)) := by
  obtain ⟨k1, hk⟩ := h.key
  obtain ⟨A, c, hn⟩ := h.new
  obtain ⟨n1, n2, n3⟩ := h.ne
  have ho : ∀ (W : World) (x y : Nat) (u v : Value), x ≠ y → W.cell? ⟨y, 0, none⟩ = some v → (W.setCell ⟨x, 0, none⟩ u).cell? ⟨y, 0, none⟩ = some v := fun W x y u v hne hv => ((Ch.refl (fun b => b = x) W).setCell (p := ⟨x, 0, none⟩) (.inl rfl) u).cell (p := ⟨y, 0, none⟩) (fun e => hne e.symm) hv
  have a1 := D.set_same (v := kv k) hk
  have a2 := ho w bk bn (kv k) _ n2 hn
  have a3 := ho w bk bq (kv k) _ n1 h.kn
  refine ⟨a1, fun A' c' h' => ho w bk bn (kv k) _ n2 h', a3, (World.frozen?_setCell _ _ _ _).trans h.fq, D.set_same a3, ⟨⟨k, ho _ bq bk _ _ (fun e => n1 e.symm) a1⟩, ⟨A, c, ho _ bq bn _ _ (fun e => n3 e.symm) a2⟩, D.set_same a3, (World.frozen?_setCell _ _ _ _).trans ((World.frozen?_setCell _ _ _ _).trans h.fk), (World.frozen?_setCell _ _ _ _).trans ((World.frozen?_setCell _ _ _ _).trans h.fq), h.ne⟩, ((Ch.refl (fun x => x = bk ∨ x = bq) w).setCell (p := ⟨bk, 0, none⟩) (.inl (.inl rfl)) _).setCell (p := ⟨bq, 0, none⟩) (.inl (.inr rfl)) _⟩
set_option maxRecDepth 100000 in
theorem sclosure_any {bk bn bq : Nat} (h : Clo w bk bn bq) (k : Key) (a : Int) :
    Calls Tryz.prog 52 #[.agg #[kv k, .int .i64 a], .pointer (some ⟨bk, 0, none⟩), .pointer (some ⟨bn, 0, none⟩), .pointer (some ⟨bq, 0, none⟩)] w fun e w' => e = .returned (.bool false) ∧ Clo w' bk bn bq ∧ Ch (fun x => x = bk ∨ x = bq) w w' := by
  obtain ⟨k0, hk0⟩ := h.key
  obtain ⟨An, cn, hn0⟩ := h.new
  obtain ⟨w1, hw1⟩ : ∃ w1, w.alloc (.cells #[kv k, .int .i64 a] 73) = w1 := ⟨_, rfl⟩
  have hc1 : Ch (fun _ => False) w w1 := by rw [← hw1]; exact (Ch.refl _ _).alloc _
  have hlk := lt_of_cell hk0
  have hlq := lt_of_cell h.kn
  have hln := lt_of_cell hn0
  have m0 : w1.cell? ⟨w.heap.size, 0, none⟩ = some (kv k) := by rw [← hw1]; exact ncells_at (j := 0) rfl
  have k1 := hc1.cell (fun h => h) hk0
  have n1 := hc1.cell (fun h => h) hn0
  have q1 := hc1.cell (fun h => h) h.kn
  have H1 := h.keep hc1
  have f1 := H1.fk
  have f2 := H1.fq
  have HH := Bx.mk H1
  have HC1 := Bx.mk hc1
  have HNE := Bx.mk h.ne
  by_cases e : k = k0
  · subst e
    obtain ⟨S, hS⟩ : ∃ S : ByteArray, kv k = .string S := ⟨_, rfl⟩
    rw [hS] at hw1 m0 k1 ⊢
    clear h hk0 hn0 hS hc1 H1 hlk hlq hln
    go_enter Tryz.func52, Tryz.ntmps52
    go_wp2_with fail
    clear hw1
    go_ret
    exact ⟨rfl, HH.out, HC1.out.mono (fun _ _ h => h.elim)⟩
  · have hbe : ((⟨k.toArray⟩ : ByteArray).toList == (⟨k0.toArray⟩ : ByteArray).toList) = false := by rw [str_beq]; exact decide_eq_false e
    obtain ⟨S, hS⟩ : ∃ S : ByteArray, (⟨k.toArray⟩ : ByteArray) = S := ⟨_, rfl⟩
    obtain ⟨S0, hS0⟩ : ∃ S : ByteArray, (⟨k0.toArray⟩ : ByteArray) = S := ⟨_, rfl⟩
    have e1 : kv k = .string S := by unfold kv; rw [hS]
    have e2 : kv k0 = .string S0 := by unfold kv; rw [hS0]
    have HE1 := Bx.mk e1
    rw [hS, hS0] at hbe
    rw [e1] at hw1 m0 ⊢
    rw [e2] at k1
    obtain ⟨M, hM⟩ : ∃ M, w.heap.size = M := ⟨_, rfl⟩
    rw [hM] at m0
    clear h hk0 hn0 hS hS0 hc1 H1 hlk hlq hln e e1 e2
    go_enter Tryz.func52, Tryz.ntmps52
    have HX := Bx.mk (clo_set HH.out k)
    rw [HE1.out] at HX
    obtain ⟨x0, x1, x2, x3, x4, hlast⟩ := HX.out
    have HLA := Bx.mk hlast
    have x1 := x1 An cn n1
    clear hlast HX
    go_wp2_with fail
    refine (ask_none S An cn _).mono ?_
    rintro e w5 ⟨rfl, rfl⟩
    go_wp2_with fail
    go_ret
    exact ⟨rfl, HLA.out.1, (HC1.out.mono (fun _ _ h => h.elim)).trans HLA.out.2 (fun _ _ h => h)⟩
/-- Places that read so all along. -/
theorem sidx_any {bk bn bq : Nat} (h : Clo w bk bn bq) (l : List (Key × Int)) (A : Option Addr) (n c : Nat) (hz : Mts w F A n l) (hF : ∀ b, F b → b < w.heap.size → b ≠ bk ∧ b ≠ bq) (hn : n ≤ 4000000000000) :
    Calls Tryz.prog 95 #[.slice A n c, .func (.func 52) #[] #[.pointer (some ⟨bk, 0, none⟩), .pointer (some ⟨bn, 0, none⟩), .pointer (some ⟨bq, 0, none⟩)]] w fun e w' => e = .returned (.int .i64 (-1)) ∧ Clo w' bk bn bq ∧ Ch (fun x => x = bk ∨ x = bq) w w' := by
  have HH := Bx.mk h
  have HZ := Bx.mk hz
  have HF := Bx.mk hF
  have eg : ∀ args w, (callFunc 52 args).run Tryz.prog w = .ok (.enter 52 args) w := enters_of Tryz.func52 (by kernel_rfl) rfl
  clear h hz hF
  go_enter Tryz.func95, Tryz.ntmps95
  go_wp2_with fail
  go_loopw [8] (fun i wr => ∃ j : Nat, j ≤ n ∧ i = .int .i64 j ∧ Bx (Clo wr bk bn bq ∧ Ch (fun x => x = bk ∨ x = bq) w wr)) (fun i _ => n - (intOf i).toNat)
  case atStart => exact ⟨0, Nat.zero_le _, rfl, ⟨HH.out, Ch.refl _ _⟩⟩
  case round =>
    obtain ⟨j, hj, rfl, hr⟩ := hrel
    by_cases hlt : j < n
    · have dk : decide ((j : Int) < (n : Int)) = true := decide_eq_true (by omega)
      have i2 : (j : Int) < (n : Int) := by omega
      obtain ⟨b, off, m, rfl, _, hm, c0, c1⟩ := (HZ.out.ch hr.out.2 (fun x hx hl e => by have := HF.out x hx hl; omega)).get hlt
      have HC := Bx.mk (sclosure_any hr.out.1 m.1 m.2)
      obtain ⟨S, hS⟩ : ∃ S : ByteArray, kv m.1 = .string S := ⟨_, rfl⟩
      rw [hS] at HC c0
      clear hS hm
      go_wp2_with fail
      refine HC.out.mono ?_
      rintro e w2 ⟨rfl, hcl, hch⟩
      have HR2 : Bx (Clo w2 bk bn bq ∧ Ch (fun x => x = bk ∨ x = bq) w w2) := ⟨hcl, hr.out.2.trans hch (fun _ _ h => h)⟩
      clear hcl hch HC
      go_wp2_with fail
      go_roundw
      case rel => exact ⟨j + 1, by omega, by go_num, HR2⟩
      case measure => simp [intOf]; omega
    · have dk : decide ((j : Int) < (n : Int)) = false := decide_eq_false (by omega)
      go_wp2_with fail
      go_ret
      exact ⟨rfl, hr.out.1, hr.out.2⟩
theorem sdelf_any {bk bn bq : Nat} (h : Clo w bk bn bq) (l : List (Key × Int)) (A : Option Addr) (n c : Nat) (hz : Mts w F A n l) (hF : ∀ b, F b → b < w.heap.size → b ≠ bk ∧ b ≠ bq) (hn : n ≤ 4000000000000) :
    Calls Tryz.prog 51 #[.slice A n c, .func (.func 52) #[] #[.pointer (some ⟨bk, 0, none⟩), .pointer (some ⟨bn, 0, none⟩), .pointer (some ⟨bq, 0, none⟩)]] w fun e w' => e = .returned (.slice A n c) ∧ Ch (fun x => x = bk ∨ x = bq) w w' := by
  have HI := Bx.mk (sidx_any h l A n c hz hF hn)
  clear h hz hF
  go_enter Tryz.func51, Tryz.ntmps51
  go_wp2_with fail
  refine HI.out.mono ?_
  rintro e w2 ⟨rfl, hcl, hch⟩
  have HC := Bx.mk hch
  clear hcl hch HI
  go_wp2_with fail
  go_ret
  exact ⟨rfl, HC.out⟩
theorem shown_any (l : List (Key × Int)) (A : Option Addr) (n c : Nat) (hz : Mts w F A n l) (An : Option Addr) (cn : Nat) (hn : n ≤ 4000000000000) :
    Calls Tryz.prog 24 #[.slice A n c, .slice An 0 cn] w fun e w' => e = .returned (.slice A n c) ∧ Ch (fun _ => False) w w' := by
  have HZ := Bx.mk hz
  obtain ⟨w1, hw1⟩ : ∃ w1, w.alloc (.cells #[.slice An 0 cn] 65) = w1 := ⟨_, rfl⟩
  have hs1 : w1.heap.size = w.heap.size + 1 := by rw [← hw1, World.size_alloc]
  have HW1 : Bx (Ch (fun _ => False) w w1 ∧ w1.cell? ⟨w.heap.size, 0, none⟩ = some (.slice An 0 cn)) := ⟨by rw [← hw1]; exact (Ch.refl _ _).alloc _, by rw [← hw1]; exact ncells_at (j := 0) rfl⟩
  clear hz
  go_enter Tryz.func24, Tryz.ntmps24
  go_upto_region 2 with fail
  obtain ⟨w2, hw2⟩ : ∃ w2, w1.alloc (.cells #[.string ⟨#[]⟩] 9) = w2 := ⟨_, rfl⟩
  obtain ⟨w3, hw3⟩ : ∃ w3, w2.alloc (.cells #[.bool false] 4) = w3 := ⟨_, rfl⟩
  rw [hw2, hw3]
  obtain ⟨hc1, n1⟩ := HW1.out
  have hs2 : w2.heap.size = w.heap.size + 1 + 1 := by rw [← hw2, World.size_alloc, hs1]
  have hc2 : Ch (fun _ => False) w1 w2 := by rw [← hw2]; exact (Ch.refl _ _).alloc _
  have hc3 : Ch (fun _ => False) w2 w3 := by rw [← hw3]; exact (Ch.refl _ _).alloc _
  have hc13 := hc2.trans hc3 (fun _ _ h => h)
  have hcl : Clo w3 (w.heap.size + 1) w.heap.size (w.heap.size + 1 + 1) := by
    refine ⟨⟨[], ?_⟩, ⟨An, cn, hc13.cell (fun h => h) n1⟩, ?_, ?_, ?_, by omega⟩
    · rw [← hs1]; refine hc3.cell (fun h => h) ?_; rw [← hw2]; exact ncells_at (j := 0) rfl
    · rw [← hs2, ← hw3]; exact ncells_at (j := 0) rfl
    · rw [hc3.frozen (p := ⟨w.heap.size + 1, 0, none⟩) (fun h => h) (by show w.heap.size + 1 < w2.heap.size; omega)]
      unfold World.frozen?
      rw [← hw2, ← hs1, heap_alloc_new]
      simp
    · unfold World.frozen?
      rw [← hw3, ← hs2, heap_alloc_new]
      simp
  have hc := hc1.trans hc13 (fun _ _ h => h)
  have HD := Bx.mk (sdelf_any (F := fun b => F b ∧ b < w.heap.size) hcl l A n c (Mts.ch (Ro.mono HZ.out (by omega) (G := fun b => F b ∧ b < w.heap.size) (fun b hb hf => ⟨hf, hb⟩) (fun _ _ _ he => he)) hc (fun _ _ _ h => h)) (fun b hb _ => by have := hb.2; omega) hn)
  have HC := Bx.mk hc
  clear hcl hc hc1 hc2 hc3 hc13 HZ HW1 n1 hw1 hw2 hw3 hs1 hs2
  go_wp2_with fail
  refine HD.out.mono ?_
  rintro e w4 ⟨rfl, hc⟩
  have HC4 : Bx (Ch (fun _ => False) w w4) := ⟨HC.out.trans hc (fun i hi e => by omega)⟩
  clear HD hc
  go_wp2_with fail
  go_ret
  exact ⟨rfl, HC4.out⟩
end
end
end Go.Proofs.YtbkakhfepiooaaaGreatDoor
