/- Lemmas and contracts of this proof. Conditions: said at each. -/
import Derived.Test.YtbkakhfepiooaaaGreatDoorQGOpPost
import Derived.Test.YtbkakhfepiooaaaGreatDoorQShReg
namespace Go.Proofs.YtbkakhfepiooaaaGreatDoor
section
open Go.RowKit Go.Oct Go.Su Go.Sg Go.Om Go.Sh Go.Maps
theorem good_dec {o : Ao} {xs : List Int} (h : GoodO o xs) : decO xs = o ∧ decE xs = 0 := by
  obtain ⟨h1, h2⟩ := h
  obtain ⟨e1, e2⟩ := takO_enc (okO.1 h1)
  rw [h2] at e1 e2
  have hy : endO xs = true ∧ errO (takO xs) = 0 := ⟨e2, by rw [e1]; exact h1⟩
  unfold decO decE
  rw [if_pos hy, if_pos hy]
  exact ⟨e1, rfl⟩
theorem byt_txt {o : Ao} {xs : List Int} (h : GoodO o xs) (hb : Byt xs) : Byt o.txt := fun x hx => hb x (by
  rw [← h.2]
  unfold bytO rowB
  exact List.mem_append_right _ (List.mem_append_right _ (List.mem_append_right _ hx)))
section
variable {w w' : World} {P PT T F : Nat → Prop} {b t : Nat} {h : Wh} {m : Sm}
/-- What do leaves. -/
def DoPost (m : Sm) (o : Ao) (b : Nat) (P : Nat → Prop) (w : World) (e : Ending) (w' : World) : Prop := ∃ (er : Int) (A : Option Addr) (n c : Nat) (l : List Int) (P' PT' : Nat → Prop) (h' : Wh),
  e = .returned (.agg #[.int .i64 er, .slice A n c]) ∧ Sl w' (fun _ => True) .i64 A n l ∧ n ≤ 1000000 ∧ n ≤ c ∧ c ≤ maxLen ∧ (Go.Sh.step m o).1 = repB er l ∧ ShT w' P' PT' b h' (Go.Sh.step m o).2 ∧ (∀ x, P' x → P x ∨ w.heap.size ≤ x) ∧ Ch P w w'
/-- The state behind the number, ahead of the deed. -/
def nextM (m : Sm) : Sm := ⟨m.ap + 1, m.ss, m.ds, m.gs⟩
theorem do_old (H : ShT w P PT b h (nextM m)) {w4 : World} {B : Nat} {o : Ao} {er : Int} {A : Option Addr} {N K : Nat} {l : List Int} (hc : Ch (fun _ => False) w w4) (hB : w.heap.size = B) (hst : Go.Sh.step m o = (repB er l, nextM m)) (hs : Sl w4 P .i64 A N l) (hN : N ≤ 1000000) (hNK : N ≤ K) (hK : K ≤ maxLen) :
    DoPost m o b P w (.returned (.agg #[.int .i64 er, .slice A N K])) ((w4.setCell ⟨B, 0, none⟩ (.int .i64 er)).setCell ⟨B, 1, none⟩ (.slice A N K)) := by
  have hcB : Ch (fun x => x = B) w4 ((w4.setCell ⟨B, 0, none⟩ (.int .i64 er)).setCell ⟨B, 1, none⟩ (.slice A N K)) := ((Ch.refl (fun x => x = B) w4).setCell (p := ⟨B, 0, none⟩) (.inl rfl) _).setCell (p := ⟨B, 1, none⟩) (.inl rfl) _
  have hPB : ∀ x, P x → ¬ x = B := fun x hx e => by have := H.lt x hx; omega
  have hml := H.ml
  refine ⟨er, A, N, K, l, P, PT, h, rfl, (hs.ch hcB (fun x hx _ => hPB x hx)).mono (fun _ _ _ => trivial), hN, hNK, hK, by rw [hst], ?_, fun _ h => .inl h, (hc.trans hcB (fun i hi e => by omega)).mono (fun _ _ h => h.elim)⟩
  rw [hst]
  exact (H.keep hc).ch hcB hPB (by omega)
theorem of_code {cd cd' : Code} {Q : Exit → Act → World → Prop} {a : Act} {w : World} (h : cd = cd') (k : Code.wp Tryz.prog cd' Q a w) : Code.wp Tryz.prog cd Q a w := by rw [h]; exact k
/-- Behind the deed: the session is set, the reply handed back. -/
theorem do_end (H : ShT w P PT b h (nextM m)) {w4 : World} {B O : Nat} {kd cl sq : Int} {k : Key} {txt : List Int} (h4 : Ch (fun _ => False) w w4) (hB : w.heap.size = B) (hO : B < O ∧ O < w4.heap.size) (hnew : Go.Sh.step m ⟨kd, cl, sq, k, txt⟩ = newOp m ⟨kd, cl, sq, k, txt⟩) (hfew : (h.n : Int) ≤ m.ap)
    (o1 : w4.cell? ⟨O, 1, none⟩ = some (.int .i64 cl)) (o2 : w4.cell? ⟨O, 2, none⟩ = some (.int .i64 sq)) (c3 : w4.cell? ⟨b, 3, none⟩ = some (.map (some h.sb))) (x0 : w4.cell? ⟨B, 0, none⟩ = some (.int .i64 0)) (x1 : w4.cell? ⟨B, 1, none⟩ = some (.slice none 0 0)) (y : ∀ j, w4.frozen? ⟨B, j, none⟩ = false)
    {q9 : Nat} {er : Int} {A9 : Option Addr} {n9 c9 : Nat} {l9 : List Int} {PT9 : Nat → Prop} {wx : World} (hr : Reg9 (nextM m) ⟨kd, cl, sq, k, txt⟩ h.t PT w4 wx q9 er A9 n9 c9 l9 PT9) :
    wx.cell? ⟨O, 1, none⟩ = some (.int .i64 cl) ∧ wx.cell? ⟨O, 2, none⟩ = some (.int .i64 sq) ∧ wx.cell? ⟨b, 3, none⟩ = some (.map (some h.sb)) ∧
    ∃ f : Lit → Option Value, Mp.Mp Tryz.prog 3 wx h.sb h.n f ∧ ∀ w7, Mp.Mp Tryz.prog 3 w7 h.sb (h.n + 1) (Mp.put f (.int .i64 cl) (sesV er A9 n9 c9 sq)) → Ch (fun x => x = h.sb) wx w7 →
      w7.cell? ⟨q9, 0, none⟩ = some (.int .i64 er) ∧ w7.cell? ⟨q9, 1, none⟩ = some (.slice A9 n9 c9) ∧ w7.cell? ⟨B, 0, none⟩ = some (.int .i64 0) ∧ w7.cell? ⟨B, 1, none⟩ = some (.slice none 0 0) ∧ (∀ j, w7.frozen? ⟨B, j, none⟩ = false) ∧
      DoPost m ⟨kd, cl, sq, k, txt⟩ b P w (.returned (.agg #[.int .i64 er, .slice A9 n9 c9])) ((w7.setCell ⟨B, 0, none⟩ (.int .i64 er)).setCell ⟨B, 1, none⟩ (.slice A9 n9 c9)) := by
  have s4 := h4.size
  have hd := hr.at_
  have sx := hd.ch.size
  have hpt : ∀ x, PT x → x < B := fun x hx => by have := H.lt x (H.pt x hx); omega
  have hnO : ¬ PT O := fun e => by have := hpt O e; omega
  have hnB : ¬ PT B := fun e => by have := hpt B e; omega
  have hsb : h.sb < B := by have := H.lt _ H.ps; omega
  obtain ⟨f, hm, hn, hs⟩ := H.ses.map
  have hcx := (h4.mono (S := PT) (fun _ _ h => h.elim)).trans hd.ch (fun _ _ h => h)
  refine ⟨hd.ch.cell hnO o1, hd.ch.cell hnO o2, hd.ch.cell H.nb c3, f, hm.ch hcx H.ns, fun w7 hm7 hc7 => ?_⟩
  have hq : q9 ≠ h.sb := by have := hr.lo; omega
  have hBs : ¬ B = h.sb := by omega
  have e0 : w7.cell? ⟨B, 0, none⟩ = some (.int .i64 0) := hc7.cell hBs (hd.ch.cell hnB x0)
  have e1 : w7.cell? ⟨B, 1, none⟩ = some (.slice none 0 0) := hc7.cell hBs (hd.ch.cell hnB x1)
  refine ⟨hc7.cell hq hr.c0, hc7.cell hq hr.c1, e0, e1, fun j => ?_, ?_⟩
  · rw [hc7.frozen (p := ⟨B, j, none⟩) hBs (by show B < wx.heap.size; omega), hd.ch.frozen (p := ⟨B, j, none⟩) hnB (by show B < w4.heap.size; omega)]
    exact y j
  obtain ⟨P', hT, hP, hc⟩ := H.said hn hs h4 hd.sl hd.hn hd.hnc hd.hc hd.tab hd.low hd.ch (Ch.refl _ _) hc7 hm7 (by show (h.n : Int) < m.ap + 1; omega)
  have hcB := setq w7 B (.int .i64 er) (.slice A9 n9 c9)
  have hPB : ∀ x, P' x → ¬ x = B := fun x hx e => by
    rcases hP x hx with h' | h'
    · have := H.lt x h'; omega
    · omega
  have hml := H.ml
  have hst : Go.Sh.step m ⟨kd, cl, sq, k, txt⟩ = (repB er l9, ⟨m.ap + 1, at1 m.ss cl ⟨sq, repB er l9⟩, (done m.ds m.gs ⟨kd, cl, sq, k, txt⟩).2.1, (done m.ds m.gs ⟨kd, cl, sq, k, txt⟩).2.2⟩) := by
    rw [hnew]
    have e : (done m.ds m.gs ⟨kd, cl, sq, k, txt⟩).1 = repB er l9 := hd.said
    unfold newOp
    rw [e]
  refine ⟨er, A9, n9, c9, l9, P', PT9, ⟨h.t, h.sb, h.n + 1, h.nx, h.sr, h.d, h.pf⟩, rfl, ((hd.sl.ch hc7 (fun x hx _ e => by have := hx.1; omega)).ch hcB (fun x hx _ e => by have := hx.1; omega)).mono (fun _ _ _ => trivial), hd.hn, hd.hnc, hd.hc, by rw [hst], ?_, fun x hx => (hP x hx).imp id (fun h => by omega), hc.trans hcB (fun i hi e => by omega)⟩
  rw [hst]
  exact hT.ch hcB hPB (by omega)
theorem ses_cells (w3 : World) (E : Int) (A : Option Addr) (N K : Nat) (Q : Int) : Bx ((w3.drew.alloc (.cells #[.int .i64 E, .slice A N K, .int .i64 Q] 146)).cell? ⟨w3.heap.size, 0, none⟩ = some (.int .i64 E) ∧ (w3.drew.alloc (.cells #[.int .i64 E, .slice A N K, .int .i64 Q] 146)).cell? ⟨w3.heap.size, 1, none⟩ = some (.slice A N K) ∧
    (w3.drew.alloc (.cells #[.int .i64 E, .slice A N K, .int .i64 Q] 146)).cell? ⟨w3.heap.size, 2, none⟩ = some (.int .i64 Q) ∧ Ch (fun _ => False) w3 (w3.drew.alloc (.cells #[.int .i64 E, .slice A N K, .int .i64 Q] 146))) :=
  ⟨ncells_at (w := w3.drew) (j := 0) rfl, ncells_at (w := w3.drew) (j := 1) rfl, ncells_at (w := w3.drew) (j := 2) rfl, (Ch.refl _ _).drew.alloc _⟩
set_option maxHeartbeats 4000000 in
set_option maxRecDepth 100000 in
theorem do_any (H : ShT w P PT b h (nextM m)) (o : Ao) (xs : List Int) (A : Option Addr) (n c : Nat) (hg : GoodO o xs) (hz : Sl w F .u8 A n xs) (hby : Byt xs) (hn : n ≤ 90000) (hnc : n ≤ c) (hc : c ≤ maxLen) (hfw : Few m) (hfew : (h.n : Int) ≤ m.ap) :
    Calls Tryz.prog 36 #[.pointer (some ⟨b, 0, none⟩), .slice A n c] w (DoPost m o b P w) := by
  obtain ⟨w1, hw1⟩ : ∃ w1, w.alloc (.cells #[.int .i64 0, .slice none 0 0] 90) = w1 := ⟨_, rfl⟩
  have hc1 : Ch (fun _ => False) w w1 := by rw [← hw1]; exact (Ch.refl _ _).alloc _
  have HC1 := Bx.mk hc1
  have HD := Bx.mk (decode_any xs A n c w1 (hz.ch hc1 (fun _ _ _ h => h)) hby hn hnc hc)
  have HH := Bx.mk H
  have HG := Bx.mk hg
  have HOK := Bx.mk (okO.1 hg.1)
  have HBY := Bx.mk hby
  have HFW := Bx.mk hfw
  have HFE := Bx.mk hfew
  have z0 : w1.cell? ⟨w.heap.size, 0, none⟩ = some (.int .i64 0) := by rw [← hw1]; exact ncells_at (j := 0) rfl
  have z1 : w1.cell? ⟨w.heap.size, 1, none⟩ = some (.slice none 0 0) := by rw [← hw1]; exact ncells_at (j := 1) rfl
  have y0 : ∀ j, w1.frozen? ⟨w.heap.size, j, none⟩ = false := fun j => by
    unfold World.frozen?
    rw [← hw1, heap_alloc_new]
    simp
  have HSZ : Bx (w.heap.size < w1.heap.size) := ⟨by rw [← hw1, World.size_alloc]; omega⟩
  have HBT : Bx (Byt o.txt) := ⟨byt_txt hg hby⟩
  clear H hg hz hby hfw hfew hc1
  go_enter Tryz.func36, Tryz.ntmps36
  go_wp2_with fail
  clear hw1
  obtain ⟨B, hB⟩ : ∃ B, w.heap.size = B := ⟨_, rfl⟩
  have HB := Bx.mk hB
  rw [hB] at z0 z1 y0 HSZ ⊢
  clear hB
  have Y0 := Bx.mk y0
  clear y0
  refine HD.out.mono ?_
  rintro e w2 ⟨A2, c2, rfl, hf⟩
  obtain ⟨e1, e2⟩ := good_dec HG.out
  rw [e1] at hf ⊢
  rw [e2]
  clear e1 e2 HD HG
  have HF := Bx.mk hf
  obtain ⟨kd, cl, sq, k, txt⟩ := o
  obtain ⟨S, hS⟩ : ∃ S : ByteArray, kv k = .string S := ⟨_, rfl⟩
  have HSK := Bx.mk hS
  obtain ⟨tl, htl⟩ : ∃ tl, txt.length = tl := ⟨_, rfl⟩
  have HTL := Bx.mk htl
  have hkk : kv (⟨kd, cl, sq, k, txt⟩ : Ao).key = .string S := hS
  have hll : (⟨kd, cl, sq, k, txt⟩ : Ao).txt.length = tl := htl
  rw [hkk, hll]
  simp only []
  have HBT : Bx (Byt txt) := ⟨HBT.out⟩
  clear hf hS htl hkk hll
  go_upto_region 2 with fail
  obtain ⟨w3, hw3⟩ : ∃ w3, w2.alloc (.cells #[.int .i64 kd, .int .i64 cl, .int .i64 sq, .string S, .slice A2 tl c2] 114) = w3 := ⟨_, rfl⟩
  rw [hw3]
  have hc3 : Ch (fun _ => False) w2 w3 := by rw [← hw3]; exact (Ch.refl _ _).alloc _
  have HC3 : Bx (Ch (fun _ => False) w w3) := ⟨(HC1.out.trans HF.out.2.2 (fun _ _ h => h)).trans hc3 (fun _ _ h => h)⟩
  have HF3 := Bx.mk (HF.out.keep hc3)
  have hcr : Ch (fun _ => False) w1 w3 := HF.out.2.2.trans hc3 (fun _ _ h => h)
  obtain ⟨O, hO⟩ : ∃ O, w2.heap.size = O := ⟨_, rfl⟩
  have o0 : w3.cell? ⟨O, 0, none⟩ = some (.int .i64 kd) := by rw [← hw3, ← hO]; exact ncells_at (j := 0) rfl
  have o1 : w3.cell? ⟨O, 1, none⟩ = some (.int .i64 cl) := by rw [← hw3, ← hO]; exact ncells_at (j := 1) rfl
  have o2 : w3.cell? ⟨O, 2, none⟩ = some (.int .i64 sq) := by rw [← hw3, ← hO]; exact ncells_at (j := 2) rfl
  have o3 : w3.cell? ⟨O, 3, none⟩ = some (.string S) := by rw [← hw3, ← hO]; exact ncells_at (j := 3) rfl
  have o4 : w3.cell? ⟨O, 4, none⟩ = some (.slice A2 tl c2) := by rw [← hw3, ← hO]; exact ncells_at (j := 4) rfl
  have HSO : Bx (B < O ∧ O < w3.heap.size) := ⟨by have := HSZ.out; have := HF.out.2.2.size; rw [← hw3, World.size_alloc]; omega⟩
  have x0 := hcr.cell (fun h => h) z0
  have x1 := hcr.cell (fun h => h) z1
  have Y3 : Bx (∀ j, w3.frozen? ⟨B, j, none⟩ = false) := ⟨fun j => by rw [hcr.frozen (p := ⟨B, j, none⟩) (fun h => h) HSZ.out]; exact Y0.out j⟩
  have H3 := HH.out.keep HC3.out
  have HH3 := Bx.mk H3
  obtain ⟨hb, E, AR, NR, KR, Q, hlk, hfacts⟩ := H3.look (c := cl) HOK.out.c0 HOK.out.c1
  have hcl : (nextM m).ss cl = m.ss cl := rfl
  rw [hcl] at hfacts
  have HFA := Bx.mk hfacts
  have c3 := H3.c3
  have c3 := H3.c3
  rw [hO]
  clear hw3 hO H3 hc3 hcr z0 z1 HF Y0 HSZ hcl hfacts
  go_wp2_with fail
  unfold sesV at hlk
  have ca : ∀ o, Ch (fun _ => False) w3 (w3.alloc o) := fun o => (Ch.refl _ _).alloc o
  have hl1 := hlk w3.drew (Ch.refl _ _).drew
  have hl2 := hlk ((w3.alloc (.cells #[.int .i64 0, .slice none 0 0, .int .i64 0] 146)).drew) ((ca _).drew)
  have a3 := (ca (.cells #[.int .i64 0, .slice none 0 0, .int .i64 0] 146)).cell (fun h => h) c3
  have a1 := (ca (.cells #[.int .i64 0, .slice none 0 0, .int .i64 0] 146)).cell (fun h => h) o1
  clear hlk
  go_cut [7, 8] from 19 to 29 (fun s7 s8 wx => ∃ q : Nat, s7 = .pointer (some ⟨q, 0, none⟩) ∧ s8 = .bool hb ∧ Bx (wx.cell? ⟨q, 0, none⟩ = some (.int .i64 E) ∧ wx.cell? ⟨q, 1, none⟩ = some (.slice AR NR KR) ∧ wx.cell? ⟨q, 2, none⟩ = some (.int .i64 Q) ∧ Ch (fun _ => False) w3 wx))
  case first =>
    go_region
    all_goals
      go_wp2_with fail
      go_meet
      exact ⟨_, rfl, rfl, ses_cells w3 E AR NR KR Q⟩
  case rest =>
    obtain ⟨q, rfl, rfl, hq⟩ := hcut
    obtain ⟨w4, hw4⟩ : ∃ w4, wc = w4 := ⟨_, rfl⟩
    rw [hw4] at hq ⊢
    clear hw4 hl1 hl2 a3 a1 ca
    obtain ⟨s0, s1, s2, hc4⟩ := hq.out
    have o0 := hc4.cell (fun h => h) o0
    have o1 := hc4.cell (fun h => h) o1
    have o2 := hc4.cell (fun h => h) o2
    have o3 := hc4.cell (fun h => h) o3
    have o4 := hc4.cell (fun h => h) o4
    have x0 := hc4.cell (fun h => h) x0
    have x1 := hc4.cell (fun h => h) x1
    have c3 := hc4.cell (fun h => h) c3
    have y4 : ∀ j, w4.frozen? ⟨B, j, none⟩ = false := fun j => by rw [hc4.frozen (p := ⟨B, j, none⟩) (fun h => h) (by have := HSO.out; show B < w3.heap.size; omega)]; exact Y3.out j
    have HC4 := Bx.mk (HC3.out.trans hc4 (fun _ _ h => h))
    have HF4 := Bx.mk (HF3.out.keep hc4)
    have HSO4 : Bx (B < O ∧ O < w4.heap.size) := ⟨by have := HSO.out; have := hc4.size; omega⟩
    have HH4 := Bx.mk (HH.out.keep HC4.out)
    have HFA4 : Bx ((hb = false ∧ m.ss cl = none) ∨ hb = true ∧ ∃ s l, m.ss cl = some s ∧ Q = s.sq ∧ Sl w4 P .i64 AR NR l ∧ NR ≤ 1000000 ∧ NR ≤ KR ∧ KR ≤ maxLen ∧ s.rp = repB E l) := ⟨by
      rcases HFA.out with h | ⟨h1, s, l, h2, h3, h4, h5⟩
      · exact .inl h
      · exact .inr ⟨h1, s, l, h2, h3, (h4.ch hc4 (fun _ _ _ h => h)).mono (fun x _ hx => hx.1), h5⟩⟩
    have Y4 := Bx.mk y4
    have u0 := y4 0
    have u1 := y4 1
    clear hq hc4 y4 HFA HSO HF3 HH3 HC3 Y3
    by_cases hA : hb = true ∧ sq < Q
    · obtain ⟨rfl, hA⟩ := hA
      have HST : Bx (Go.Sh.step m ⟨kd, cl, sq, k, txt⟩ = (repB 13 [], nextM m)) := ⟨by
        rcases HFA4.out with ⟨h, _⟩ | ⟨_, s, l, h2, h3, _⟩
        · cases h
        · exact step_elder (o := ⟨kd, cl, sq, k, txt⟩) h2 (by show sq < s.sq; rw [← h3]; exact hA)⟩
      have hd := decide_eq_true hA
      have HD := Bx.mk (do_old HH.out HC4.out HB.out HST.out (Sl.nil w4 P .i64 none) (K := 0) (by omega) (by omega) (by unfold maxLen; omega))
      clear hA
      go_wp2_with fail
      have k0 : ((w4.setCell ⟨B, 0, none⟩ (.int .i64 13)).setCell ⟨B, 1, none⟩ (.slice none 0 0)).cell? ⟨B, 0, none⟩ = some (.int .i64 13) := (D.set_off (by decide)).trans (D.set_same x0)
      have k1 : ((w4.setCell ⟨B, 0, none⟩ (.int .i64 13)).setCell ⟨B, 1, none⟩ (.slice none 0 0)).cell? ⟨B, 1, none⟩ = some (.slice none 0 0) := D.set_same ((D.set_off (by decide)).trans x1)
      refine bodyPost_ret (v := .agg #[.int .i64 13, .slice none 0 0]) (by simp [results, Tryz.results36, go_sem, k0, k1]) rfl ?_
      exact HD.out
    by_cases hE : hb = true ∧ sq = Q
    · obtain ⟨rfl, hE⟩ := hE
      have hnA : ¬ sq < Q := by omega
      have hd := decide_eq_false hnA
      have hd2 : (sq == Q) = true := by simpa using hE
      obtain ⟨l, HD⟩ : ∃ l, Bx (Go.Sh.step m ⟨kd, cl, sq, k, txt⟩ = (repB E l, nextM m) ∧ Sl w4 P .i64 AR NR l ∧ NR ≤ 1000000 ∧ NR ≤ KR ∧ KR ≤ maxLen) := by
        rcases HFA4.out with ⟨h, _⟩ | ⟨_, s, l, h2, h3, h4, h5, h6, h7, h8⟩
        · cases h
        · refine ⟨l, ⟨?_, h4, h5, h6, h7⟩⟩
          rw [step_again (o := ⟨kd, cl, sq, k, txt⟩) h2 (by show sq = s.sq; omega), h8]
          rfl
      have HD := Bx.mk (do_old HH.out HC4.out HB.out HD.out.1 HD.out.2.1 HD.out.2.2.1 HD.out.2.2.2.1 HD.out.2.2.2.2)
      clear hnA hA hE
      go_wp2_with fail
      have k0 : ((w4.setCell ⟨B, 0, none⟩ (.int .i64 E)).setCell ⟨B, 1, none⟩ (.slice AR NR KR)).cell? ⟨B, 0, none⟩ = some (.int .i64 E) := (D.set_off (by decide)).trans (D.set_same x0)
      have k1 : ((w4.setCell ⟨B, 0, none⟩ (.int .i64 E)).setCell ⟨B, 1, none⟩ (.slice AR NR KR)).cell? ⟨B, 1, none⟩ = some (.slice AR NR KR) := D.set_same ((D.set_off (by decide)).trans x1)
      refine bodyPost_ret (v := .agg #[.int .i64 E, .slice AR NR KR]) (by simp [results, Tryz.results36, go_sem, k0, k1]) rfl ?_
      exact HD.out
    have HNEW : Bx (Go.Sh.step m ⟨kd, cl, sq, k, txt⟩ = newOp m ⟨kd, cl, sq, k, txt⟩) := ⟨step_new (o := ⟨kd, cl, sq, k, txt⟩) (fun s hs => by
      have hs : m.ss cl = some s := hs
      show s.sq < sq
      rcases HFA4.out with ⟨_, h⟩ | ⟨h1, s', l, h2, h3, _⟩
      · rw [h] at hs; cases hs
      · rw [h2] at hs
        injection hs with hs
        subst hs
        have a1 : ¬ sq < Q := fun e => hA ⟨h1, e⟩
        have a2 : ¬ sq = Q := fun e => hE ⟨h1, e⟩
        omega)⟩
    have HZt : Bx (Sl w4 (fun b => w1.heap.size ≤ b) .u8 A2 tl txt) := ⟨by have h := Fresh.sl HF4.out rfl; rwa [HTL.out] at h⟩
    have htl4 : tl ≤ 4096 := by have h : txt.length ≤ 4096 := HOK.out.txt; have := HTL.out; omega
    have hkdc : (kd = 1 ∨ kd = 2) := HOK.out.kd
    obtain ⟨kk, fn, hkk, hkf⟩ : ∃ kk fn : Nat, kd = (kk : Int) ∧ ((kk = 1 ∧ fn = 125) ∨ (kk = 2 ∧ fn = 126)) := by
      rcases hkdc with e | e
      · exact ⟨1, _, e, .inl ⟨rfl, rfl⟩⟩
      · exact ⟨2, _, e, .inr ⟨rfl, rfl⟩⟩
    have HD : Bx (∀ W, Ch (fun _ => False) w4 W → Calls Tryz.prog fn #[.pointer (some ⟨b, 0, none⟩), .agg #[.int .i64 (kk : Int), .int .i64 cl, .int .i64 sq, .string S, .slice A2 tl c2]] W (Deed (nextM m) ⟨kd, cl, sq, k, txt⟩ h.t PT W)) := ⟨fun W hW => by
      rw [← HSK.out, hkk]
      rcases hkf with ⟨e1, e2⟩ | ⟨e1, e2⟩
      · subst e1 e2
        exact sput_any (HH4.out.keep hW) _ cl sq k txt A2 tl c2 (HZt.out.ch hW (fun _ _ _ h => h)) HBT.out HOK.out.key htl4 (by show m.ds.length + m.gs.length < _; have := HFW.out.1; omega)
      · subst e1 e2
        exact sdel_any (HH4.out.keep hW) _ cl sq (by decide) k txt A2 tl c2 HOK.out.key (by show m.ds.length + m.gs.length < _; have := HFW.out.1; omega)⟩
    have eg : ∀ args w, (callFunc fn args).run Tryz.prog w = .ok (.enter fn args) w := by
      rcases hkf with ⟨_, rfl⟩ | ⟨_, rfl⟩
      · exact enters_of Tryz.func125 (by kernel_rfl) rfl
      · exact enters_of Tryz.func126 (by kernel_rfl) rfl
    have EG := Bx.mk eg
    have HWL : Bx (∀ x, PT x → x < w4.heap.size) := ⟨fun x hx => HH4.out.lt x (HH4.out.pt x hx)⟩
    have HML : Bx (4 < w4.heap.size) := ⟨HH4.out.ml⟩
    have HKK := Bx.mk hkk
    have HNO : Bx (¬ PT O) := ⟨fun e => by have h1 := HH.out.lt O (HH.out.pt O e); have h2 := HB.out; have h3 := HSO4.out.1; omega⟩
    have HKF := Bx.mk hkf
    have HEND := Bx.mk (fun q9 er A9 n9 c9 l9 PT9 wx hr => do_end HH.out HC4.out HB.out HSO4.out HNEW.out HFE.out o1 o2 c3 x0 x1 Y4.out hr (q9 := q9) (er := er) (A9 := A9) (n9 := n9) (c9 := c9) (l9 := l9) (PT9 := PT9) (wx := wx))
    rw [hkk] at o0
    have HGT : Bx (hb = true → ¬ sq < Q ∧ ¬ sq = Q) := ⟨fun e => ⟨fun h => hA ⟨e, h⟩, fun h => hE ⟨e, h⟩⟩⟩
    clear hA hE hkk hkf hkdc eg
    cases hb with
    | false =>
      go_upto_region 9 with fail
      refine of_code (by kernel_rfl) (reg9_any (m := nextM m) (o := ⟨kd, cl, sq, k, txt⟩) (t := h.t) (PT := PT) b O kk fn tl c2 cl sq S A2 w4 _ _ _ _ _ _ _ _ _ _ _ _ _ _ _ _ _ _ _ _ _ _ _ _ _ _ _ _ _ _ _ _ _ _ _ _ _ _ _ _ _ _ _ _ _ _ _ _ _ _ _ _ _ _ _ _ _ _ _ _ _ _ _ _ _ _ _ _ _ _ HKF.out o0 o1 o2 o3 o4 HD EG.out HWL HNO.out HML ?_)
      intro v51 v52 v53 v54 v55 v56 v57 v58 q9 er A9 n9 c9 l9 PT9 wx hr
      obtain ⟨k1, k2, k3, f, hmf, hend⟩ := HEND.out q9 er A9 n9 c9 l9 PT9 wx hr
      have j0 := hr.c0
      have j1 := hr.c1
      have HE := Bx.mk hend
      have HMF := Bx.mk hmf
      have HFN : Bx (h.n < maxLen) := ⟨by have h1 := HFE.out; have h2 := HFW.out.2.2; unfold maxLen; omega⟩
      clear hr hend hmf HD HEND o0 o1 o2 o3 o4 x0 x1 c3 u0 u1 s0 s1 s2
      go_wp2_with fail
      refine wp_region_still_tail 11 (by kernel_rfl) (by kernel_rfl) ?_
      simp only [List.take_succ_cons, List.take_zero, List.drop_succ_cons, List.drop_zero]
      repeat still_step
      refine wpStill_nil ?_
      change wpList _ _ _ _ _ wx.drew
      refine Mp.wp_put rfl (.tmp 63) (.tmp 65) (.tmp 69) rfl intLaw sesT HFN.out rfl HMF.out.drew (.int .i64 cl) (sesV er A9 n9 c9 sq) (.int .i64 cl) rfl rfl (int_key HOK.out.c0 HOK.out.c1) trivial ?_
      intro w7 hm7 hc7d
      have hc7 : Ch (fun x => x = h.sb) wx w7 := ((Ch.refl (fun x => x = h.sb) wx).drew).trans hc7d (fun _ _ h => h)
      obtain ⟨i0, i1, i2, i3, i4, hfin⟩ := HE.out w7 hm7 hc7
      have HFI := Bx.mk hfin
      have t0 := i4 0
      have t1 := i4 1
      clear hm7 hc7 hc7d hfin i4 j0 j1 k1 k2 k3 HE HMF
      go_wp2_with fail
      have k0 : ((w7.setCell ⟨B, 0, none⟩ (.int .i64 er)).setCell ⟨B, 1, none⟩ (.slice A9 n9 c9)).cell? ⟨B, 0, none⟩ = some (.int .i64 er) := (D.set_off (by decide)).trans (D.set_same i2)
      have k1 : ((w7.setCell ⟨B, 0, none⟩ (.int .i64 er)).setCell ⟨B, 1, none⟩ (.slice A9 n9 c9)).cell? ⟨B, 1, none⟩ = some (.slice A9 n9 c9) := D.set_same ((D.set_off (by decide)).trans i3)
      refine bodyPost_ret (v := .agg #[.int .i64 er, .slice A9 n9 c9]) (by simp [results, Tryz.results36, go_sem, k0, k1]) rfl ?_
      exact HFI.out
    | true =>
      have hd1 : decide (sq < Q) = false := decide_eq_false (HGT.out rfl).1
      have hd2 : (sq == Q) = false := by simpa using (HGT.out rfl).2
      go_upto_region 9 with fail
      refine of_code (by kernel_rfl) (reg9_any (m := nextM m) (o := ⟨kd, cl, sq, k, txt⟩) (t := h.t) (PT := PT) b O kk fn tl c2 cl sq S A2 w4 _ _ _ _ _ _ _ _ _ _ _ _ _ _ _ _ _ _ _ _ _ _ _ _ _ _ _ _ _ _ _ _ _ _ _ _ _ _ _ _ _ _ _ _ _ _ _ _ _ _ _ _ _ _ _ _ _ _ _ _ _ _ _ _ _ _ _ _ _ _ HKF.out o0 o1 o2 o3 o4 HD EG.out HWL HNO.out HML ?_)
      intro v51 v52 v53 v54 v55 v56 v57 v58 q9 er A9 n9 c9 l9 PT9 wx hr
      obtain ⟨k1, k2, k3, f, hmf, hend⟩ := HEND.out q9 er A9 n9 c9 l9 PT9 wx hr
      have j0 := hr.c0
      have j1 := hr.c1
      have HE := Bx.mk hend
      have HMF := Bx.mk hmf
      have HFN : Bx (h.n < maxLen) := ⟨by have h1 := HFE.out; have h2 := HFW.out.2.2; unfold maxLen; omega⟩
      clear hr hend hmf HD HEND o0 o1 o2 o3 o4 x0 x1 c3 u0 u1 s0 s1 s2
      go_wp2_with fail
      refine wp_region_still_tail 11 (by kernel_rfl) (by kernel_rfl) ?_
      simp only [List.take_succ_cons, List.take_zero, List.drop_succ_cons, List.drop_zero]
      repeat still_step
      refine wpStill_nil ?_
      change wpList _ _ _ _ _ wx.drew
      refine Mp.wp_put rfl (.tmp 63) (.tmp 65) (.tmp 69) rfl intLaw sesT HFN.out rfl HMF.out.drew (.int .i64 cl) (sesV er A9 n9 c9 sq) (.int .i64 cl) rfl rfl (int_key HOK.out.c0 HOK.out.c1) trivial ?_
      intro w7 hm7 hc7d
      have hc7 : Ch (fun x => x = h.sb) wx w7 := ((Ch.refl (fun x => x = h.sb) wx).drew).trans hc7d (fun _ _ h => h)
      obtain ⟨i0, i1, i2, i3, i4, hfin⟩ := HE.out w7 hm7 hc7
      have HFI := Bx.mk hfin
      have t0 := i4 0
      have t1 := i4 1
      clear hm7 hc7 hc7d hfin i4 j0 j1 k1 k2 k3 HE HMF
      go_wp2_with fail
      have k0 : ((w7.setCell ⟨B, 0, none⟩ (.int .i64 er)).setCell ⟨B, 1, none⟩ (.slice A9 n9 c9)).cell? ⟨B, 0, none⟩ = some (.int .i64 er) := (D.set_off (by decide)).trans (D.set_same i2)
      have k1 : ((w7.setCell ⟨B, 0, none⟩ (.int .i64 er)).setCell ⟨B, 1, none⟩ (.slice A9 n9 c9)).cell? ⟨B, 1, none⟩ = some (.slice A9 n9 c9) := D.set_same ((D.set_off (by decide)).trans i3)
      refine bodyPost_ret (v := .agg #[.int .i64 er, .slice A9 n9 c9]) (by simp [results, Tryz.results36, go_sem, k0, k1]) rfl ?_
      exact HFI.out
end
end
section
open Go.RowKit Go.Oct Go.Su Go.Sg Go.Om
section
variable {F G : Nat → Prop}
set_option maxHeartbeats 1000000 in
theorem lawmatches_any (a b : List (Key × Int)) (A B : Option Addr) (n m c d : Nat) (w : World) (hz : Mts w F A n a) (hy : Mts w G B m b) (hn : n ≤ 9223372036854775806) (o : Bool) (ho : decide (a = b) = o) :
    Calls Tryz.prog 48 #[.slice A n c, .slice B m d] w fun e w' => e = .returned (.bool o) ∧ ∃ q, w' = w.drewN q := by
  have HL : Bx (a.length = n) := ⟨Ro.len hz⟩
  have HM : Bx (b.length = m) := ⟨Ro.len hy⟩
  have HZ := Bx.mk hz
  have HY := Bx.mk hy
  have HO := Bx.mk ho
  clear hz hy ho
  by_cases hnm : n = m
  · subst hnm
    have e0 : ((n : Int) != (n : Int)) = false := by simp
    go_enter Tryz.func48, Tryz.ntmps48
    go_wp2_with fail
    go_loopw [5] (fun i wr => ∃ k q : Nat, k ≤ n ∧ i = .int .i64 k ∧ wr = w.drewN q ∧ Bx (a.take k = b.take k)) (fun i _ => n - (intOf i).toNat)
    case atStart => exact ⟨0, 0, Nat.zero_le _, rfl, rfl, ⟨rfl⟩⟩
    case round =>
      obtain ⟨k, q, hk, rfl, rfl, hT⟩ := hrel
      by_cases hkn : k < n
      · have dk : decide ((k : Int) < (n : Int)) = true := decide_eq_true (by omega)
        have i1 : (k : Int) < (n : Int) := by omega
        obtain ⟨b1, o1, x, rfl, _, hx, hcx, hcx2⟩ := HZ.out.get hkn
        obtain ⟨b2, o2, y, rfl, _, hy, hcy, hcy2⟩ := HY.out.get hkn
        obtain ⟨SX, hSX⟩ : ∃ S : ByteArray, (⟨x.1.toArray⟩ : ByteArray) = S := ⟨_, rfl⟩
        obtain ⟨SY, hSY⟩ : ∃ S : ByteArray, (⟨y.1.toArray⟩ : ByteArray) = S := ⟨_, rfl⟩
        have hkx : kv x.1 = .string SX := by unfold kv; rw [hSX]
        have hky : kv y.1 = .string SY := by unfold kv; rw [hSY]
        have hsq : (SX.toList == SY.toList) = decide (x.1 = y.1) := by rw [← hSX, ← hSY]; exact str_beq x.1 y.1
        rw [hkx] at hcx
        rw [hky] at hcy
        have HX := Bx.mk hx.out
        have HYY := Bx.mk hy.out
        have HTX := Bx.mk (Oct.take_more hx.out)
        have HTY := Bx.mk (Oct.take_more hy.out)
        obtain ⟨px, hpx⟩ : ∃ p, x.2 = p := ⟨_, rfl⟩
        obtain ⟨py, hpy⟩ : ∃ p, y.2 = p := ⟨_, rfl⟩
        rw [hpx] at hcx2
        rw [hpy] at hcy2
        have HPX := Bx.mk hpx
        have HPY := Bx.mk hpy
        clear hx hy hkx hky hSX hSY hpx hpy
        by_cases hxy : x = y
        · have e1 : (SX.toList == SY.toList) = true := by rw [hsq, hxy]; simp
          have e2 : ((px : Int) == (py : Int)) = true := by rw [← HPX.out, ← HPY.out, hxy]; simp
          have HN : Bx (a.take (k + 1) = b.take (k + 1)) := ⟨by rw [HTX.out, HTY.out, hT.out, hxy]⟩
          clear hsq hxy
          go_wp2_with fail
          go_quiet (fail)
          go_wp2_with fail
          go_roundw
          case rel => exact ⟨k + 1, q + nq, by omega, by go_num, rfl, HN⟩
          case measure => simp [intOf]; omega
        · have HN : Bx (false = o) := ⟨by
            rw [← HO.out]
            symm
            refine decide_eq_false fun h => hxy ?_
            have h1 := HX.out
            rw [h, HYY.out] at h1
            injection h1 with h1
            exact h1.symm⟩
          have e3 : x.1 = y.1 → ((px : Int) == (py : Int)) = false := fun h => beq_false_of_ne fun e => hxy (Prod.ext h (by rw [HPX.out, HPY.out]; omega))
          by_cases h1 : x.1 = y.1
          · have e1 : (SX.toList == SY.toList) = true := by rw [hsq]; simpa using h1
            have e2 := e3 h1
            clear hsq hxy e3 h1
            go_wp2_with fail
            go_quiet (fail)
            go_wp2_with fail
            go_ret
            exact ⟨ret_bool HN.out, q + nq, by rw [World.drewN_drewN]⟩
          · have e1 : (SX.toList == SY.toList) = false := by rw [hsq]; simpa using h1
            clear hsq hxy e3 h1
            go_wp2_with fail
            go_quiet (fail)
            go_wp2_with fail
            go_ret
            exact ⟨ret_bool HN.out, q + nq, by rw [World.drewN_drewN]⟩
      · obtain rfl : n = k := by omega
        have dk : decide ((n : Int) < (n : Int)) = false := decide_eq_false (by omega)
        have HN : Bx (true = o) := ⟨by
          rw [← HO.out]
          symm
          refine decide_eq_true ?_
          have h := hT.out
          rwa [List.take_of_length_le (Nat.le_of_eq HL.out), List.take_of_length_le (Nat.le_of_eq HM.out)] at h⟩
        clear hT
        go_wp2_with fail
        go_ret
        exact ⟨ret_bool HN.out, q, rfl⟩
  · have e0 : ((n : Int) != (m : Int)) = true := by simp; omega
    have HN : Bx (false = o) := ⟨by
      rw [← HO.out]
      symm
      exact decide_eq_false fun h => hnm (by rw [← HL.out, ← HM.out, h])⟩
    go_enter Tryz.func48, Tryz.ntmps48
    go_wp2_with fail
    go_ret
    exact ⟨ret_bool HN.out, 0, rfl⟩
end
end
section
open Go.RowKit Go.Oct
/-- The first k are alike. -/
def AlikeI (xs ys : List Int) (k : Nat) : Prop := ∀ j, j < k → xs[j]? = ys[j]?
theorem alikeI_all {xs ys : List Int} {n : Nat} (hx : xs.length = n) (hy : ys.length = n) (ha : AlikeI xs ys n) : xs = ys := by
  apply List.ext_getElem?
  intro j
  rcases Nat.lt_or_ge j n with h | h
  · exact ha j h
  · rw [List.getElem?_eq_none (by omega), List.getElem?_eq_none (by omega)]
theorem alikeI_succ {xs ys : List Int} {k : Nat} {x : Int} (ha : AlikeI xs ys k) (hx : xs[k]? = some x) (hy : ys[k]? = some x) : AlikeI xs ys (k + 1) := by
  intro j hj
  rcases Nat.lt_or_ge j k with h | h
  · exact ha j h
  · obtain rfl : j = k := by omega
    rw [hx, hy]
theorem alikeI_not {xs ys : List Int} {k : Nat} {x y : Int} (hx : xs[k]? = some x) (hy : ys[k]? = some y) (h : x ≠ y) : xs ≠ ys := by
  rintro rfl
  rw [hx] at hy
  exact h (Option.some.inj hy)
end
section
open Go.RowKit Go.Oct Go.Su Go.Sg Go.Om
theorem same_o (A A' : Option Addr) (n n' c c' : Nat) (xs ys : List Int) (F F' : Nat → Prop) (w : World) (hn : n ≤ 9223372036854775807) (hn' : n' ≤ 9223372036854775807) (hx : Sl w F .u8 A n xs) (hy : Sl w F' .u8 A' n' ys) (o : Bool) (ho : decide (xs = ys) = o) :
    Calls Tryz.prog 19 #[.slice A n c, .slice A' n' c'] w fun e w' => e = .returned (.bool o) ∧ Ch (fun _ => False) w w' :=
  (same_any A A' n n' c c' xs ys F F' w hn hn' hx hy).mono fun e w' h => by
    obtain ⟨h1, q, h2⟩ := h
    exact ⟨by rw [h1, ho], by rw [h2]; exact (Ch.refl _ _).drewN q⟩
theorem byt_enc (z : Int) : Byt (encI z) := encN_byt _
theorem byt_flat (zs : List Int) : Byt (zs.flatMap encI) := fun x hx => by
  obtain ⟨z, _, h⟩ := List.mem_flatMap.1 hx
  exact byt_enc z x h
theorem byt_row {xs : List Int} (h : Byt xs) : Byt (rowB xs) := (encN_byt _).app h
theorem byt_rep (e : Int) (l : List Int) : Byt (repB e l) := byt_flat _
theorem byt_mat (l : List (Key × Int)) : Byt (matB l) := by
  refine (byt_enc _).app fun x hx => ?_
  obtain ⟨m, _, h⟩ := List.mem_flatMap.1 hx
  exact ((byt_row (kI_byte m.1)).app (byt_enc m.2)) x h
theorem byt_op {o : Ao} (h : Byt o.txt) : Byt (encO o) := by
  unfold encO
  split
  · exact (byt_flat _).app ((byt_row (kI_byte o.key)).app (byt_row h))
  · exact fun x hx => by simp at hx
theorem flat_len9 (zs : List Int) (n : Nat) (h : zs.length ≤ n) : (zs.flatMap encI).length ≤ 9 * n := by
  induction zs generalizing n with
  | nil => simp
  | cons a l ih =>
    rw [List.flatMap_cons, List.length_append]
    have h1 := encI_len a
    simp only [List.length_cons] at h
    have h2 := ih (n - 1) (by omega)
    omega
theorem rep_len (e : Int) (l : List Int) : (repB e l).length ≤ 90 :=
  flat_len9 _ 10 (by rw [List.length_append, List.length_take]; simp only [List.length_cons, List.length_nil]; omega)
end
end Go.Proofs.YtbkakhfepiooaaaGreatDoor
