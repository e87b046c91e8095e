/- Lemmas and contracts of this proof. Conditions: said at each. -/
import Derived.Test.YtbkakhfepiooaaaGreatDoorQGShSpec
namespace Go.Proofs.YtbkakhfepiooaaaGreatDoor
section
open Go.RowKit Go.Oct Go.Su Go.Sg Go.Om Go.Sh Go.Maps
section
variable {w w' : World} {P PT T F : Nat → Prop} {b t : Nat} {h : Wh} {m : Sm} {ds : List Dc} {gs : List Key}
/-- What a deed leaves: a reply, the table. -/
def Deed (m : Sm) (o : Ao) (t : Nat) (PT : Nat → Prop) (w : World) (e : Ending) (w' : World) : Prop := ∃ (er : Int) (A : Option Addr) (n c : Nat) (l : List Int) (PT' : Nat → Prop),
  e = .returned (.agg #[.int .i64 er, .slice A n c]) ∧ Sl w' (fun x => w.heap.size ≤ x ∧ ¬ PT' x) .i64 A n l ∧ n ≤ 1000000 ∧ n ≤ c ∧ c ≤ maxLen ∧ (done m.ds m.gs o).1 = repB er l ∧
  M.TabP w' PT' t (done m.ds m.gs o).2.1 (done m.ds m.gs o).2.2 ∧ (∀ x, PT' x → PT x ∨ w.heap.size ≤ x) ∧ Ch PT w w'
theorem deed_end {m : Sm} {o : Ao} {B t : Nat} {w w3 w5 : World} {PT PT5 : Nat → Prop} {s : List Dc × List Key} {er z : Int} (hB : w.heap.size = B) (hc : Ch (fun _ => False) w w3) (hT : M.TabP w5 PT5 t s.1 s.2) (hP : ∀ x, PT5 x → PT x ∨ w3.drew.heap.size ≤ x) (hc5 : Ch PT w3.drew w5) (hl : ∀ x, PT x → x < B) (hs : B + 2 ≤ w3.heap.size) (hmx : 4 < B) (hd : done m.ds m.gs o = (repB er [z], s)) :
    Deed m o t PT w (.returned (.agg #[.int .i64 er, .slice (some ⟨w5.heap.size, 0, none⟩) 1 1])) (((w5.alloc (.cells #[.int .i64 z] 3)).setCell ⟨B + 1, 0, none⟩ (.int .i64 er)).setCell ⟨B + 1, 1, none⟩ (.slice (some ⟨w5.heap.size, 0, none⟩) 1 1)) := by
  have hs3 : w3.drew.heap.size = w3.heap.size := rfl
  have h5 := hc5.size
  have hn : ¬ PT5 (B + 1) := fun e => by
    rcases hP _ e with e | e
    · have := hl _ e; omega
    · omega
  have hcA : Ch (fun x => x = B + 1) w5 (((w5.alloc (.cells #[.int .i64 z] 3)).setCell ⟨B + 1, 0, none⟩ (.int .i64 er)).setCell ⟨B + 1, 1, none⟩ (.slice (some ⟨w5.heap.size, 0, none⟩) 1 1)) :=
    (((Ch.refl (fun x => x = B + 1) w5).alloc _).setCell (p := ⟨B + 1, 0, none⟩) (.inl rfl) _).setCell (p := ⟨B + 1, 1, none⟩) (.inl rfl) _
  refine ⟨er, _, 1, 1, [z], PT5, rfl, ⟨rfl, fun _ => ⟨w5.heap.size, 0, rfl, ⟨by omega, fun e => by have := hT.lt _ e; omega⟩, fun j u hu => ?_⟩⟩, by omega, by omega, by unfold maxLen; omega, by rw [hd], ?_, fun x hx => ?_, ?_⟩
  · match j, hu with
    | 0, hu =>
      simp at hu
      subst hu
      have hb : ∀ (W : World) (q : Nat) (v : Value) (p : Addr) (u : Value), W.cell? p = some u → p.block ≠ B + 1 → (W.setCell ⟨B + 1, q, none⟩ v).cell? p = some u := fun W q v p u hp hne => ((Ch.refl (fun x => x = B + 1) W).setCell (p := ⟨B + 1, q, none⟩) (.inl rfl) v).cell hne hp
      exact hb _ _ _ _ _ (hb _ _ _ _ _ (ncells_at (j := 0) rfl) (by show w5.heap.size ≠ B + 1; omega)) (by show w5.heap.size ≠ B + 1; omega)
    | j + 1, hu => simp at hu
  · rw [hd]
    exact hT.ch hcA (fun x hx e => by rw [e] at hx; exact hn hx) (by show ¬ 4 = B + 1; omega)
  · rcases hP x hx with e | e
    · exact .inl e
    · exact .inr (by have := hc.size; omega)
  · exact ((hc.drew.mono (fun _ _ h => h.elim)).trans hc5 (fun _ _ h => h)).trans hcA (fun i hi e => by omega)
set_option maxHeartbeats 2000000 in
set_option maxRecDepth 100000 in
theorem sput_any (H : ShT w P PT b h m) (kd cl sq : Int) (k : Key) (xs : List Int) (A : Option Addr) (n c : Nat) (hz : Sl w F .u8 A n xs) (hby : Byt xs) (hk : okK k) (hn : n ≤ 4096) (hfw : m.ds.length + m.gs.length < 1000000) :
    Calls Tryz.prog 125 #[.pointer (some ⟨b, 0, none⟩), .agg #[.int .i64 kd, .int .i64 cl, .int .i64 sq, kv k, .slice A n c]] w (Deed m ⟨1, cl, sq, k, xs⟩ h.t PT w) := by
  have hk2 : k.length ≤ 9223372036854775807 := by have := hk.2; omega
  obtain ⟨w1, hw1⟩ : ∃ w1, w.alloc (.cells #[.int .i64 kd, .int .i64 cl, .int .i64 sq, kv k, .slice A n c] 114) = w1 := ⟨_, rfl⟩
  obtain ⟨w2, hw2⟩ : ∃ w2, w1.alloc (.cells #[.int .i64 0, .slice none 0 0] 90) = w2 := ⟨_, rfl⟩
  have hc1 : Ch (fun _ => False) w w1 := by rw [← hw1]; exact (Ch.refl _ _).alloc _
  have hc2 : Ch (fun _ => False) w1 w2 := by rw [← hw2]; exact (Ch.refl _ _).alloc _
  have HC := Bx.mk (hc1.trans hc2 (fun _ _ h => h))
  have hs1 : w1.heap.size = w.heap.size + 1 := by rw [← hw1, World.size_alloc]
  have q3 : w2.cell? ⟨w.heap.size, 3, none⟩ = some (kv k) := hc2.cell (fun h => h) (by rw [← hw1]; exact ncells_at (j := 3) rfl)
  have q4 : w2.cell? ⟨w.heap.size, 4, none⟩ = some (.slice A n c) := hc2.cell (fun h => h) (by rw [← hw1]; exact ncells_at (j := 4) rfl)
  have HG := Bx.mk (sget_any (H.keep HC.out) k hk2)
  have HH := Bx.mk H
  have HZ := Bx.mk hz
  have HBY := Bx.mk hby
  have HK := Bx.mk hk
  have HFW := Bx.mk hfw
  have HS := Bx.mk hs1
  have H2 := Bx.mk (H.keep HC.out)
  obtain ⟨S, hS⟩ : ∃ S : ByteArray, kv k = .string S := ⟨_, rfl⟩
  have HSK := Bx.mk hS
  rw [hS] at HG hw1 q3 ⊢
  clear H hz hby hk hfw hS hc1 hc2
  go_enter Tryz.func125, Tryz.ntmps125
  go_wp2_with fail
  refine HG.out.mono ?_
  rintro e w3 ⟨v, rfl, hf⟩
  have HC3 := Bx.mk hf.2.2
  have c5 := (HH.out.keep (HC.out.trans hf.2.2 (fun _ _ h => h))).c5
  have r3 : w3.cell? ⟨w.heap.size, 3, none⟩ = some (.string S) := HC3.out.cell (fun h => h) q3
  have r4 : w3.cell? ⟨w.heap.size, 4, none⟩ = some (.slice A n c) := HC3.out.cell (fun h => h) q4
  have HT3 := Bx.mk (HH.out.keep (HC.out.trans hf.2.2 (fun _ _ h => h))).tab
  have HP := Bx.mk (M.mput_any (c0 := c) (HT3.out.keep (Ch.refl (fun _ => False) w3).drew) k (by have := HK.out.2; omega) ((HZ.out.ch (HC.out.trans HC3.out (fun _ _ h => h)) (fun _ _ _ h => h)).drew) HBY.out (by omega) HFW.out)
  rw [HSK.out] at HP
  have HV : Bx (done m.ds m.gs ⟨1, cl, sq, k, xs⟩ = (repB 0 [if hasB m.ds k then 1 else 0], (tPut (m.ds, m.gs) k xs).2)) := ⟨by unfold done; rw [if_pos rfl]⟩
  have HSZ3 : Bx (w.heap.size + 2 ≤ w3.heap.size) := ⟨by have := HC3.out.size; rw [← hw2, World.size_alloc] at this; have := HS.out; omega⟩
  have z0 : w3.cell? ⟨w.heap.size + 1, 0, none⟩ = some (.int .i64 0) := HC3.out.cell (fun h => h) (by rw [← hw2, ← HS.out]; exact ncells_at (j := 0) rfl)
  have z1 : w3.cell? ⟨w.heap.size + 1, 1, none⟩ = some (.slice none 0 0) := HC3.out.cell (fun h => h) (by rw [← hw2, ← HS.out]; exact ncells_at (j := 1) rfl)
  have y0 : ∀ j, w3.frozen? ⟨w.heap.size + 1, j, none⟩ = false := fun j => by
    rw [HC3.out.frozen (p := ⟨w.heap.size + 1, j, none⟩) (fun h => h) (by rw [← hw2, World.size_alloc]; show w.heap.size + 1 < _; have := HS.out; omega)]
    unfold World.frozen?
    rw [← hw2, ← HS.out, heap_alloc_new]
    simp
  have HWL : Bx (∀ x, PT x → x < w.heap.size) := ⟨fun x hx => HH.out.lt x (HH.out.pt x hx)⟩
  have HCP := Bx.mk (HC.out.trans HC3.out (fun _ _ h => h))
  clear hf HG hw1 hw2 q3 q4 HC3 HT3 H2 HZ HBY
  obtain ⟨B, hB⟩ : ∃ B, w.heap.size = B := ⟨_, rfl⟩
  rw [hB] at r3 r4 z0 z1 y0 HSZ3 HWL ⊢
  have HB := Bx.mk hB
  clear hB
  have Y := Bx.mk y0
  clear y0
  have HDN : Bx (∀ q : Bool, hasB m.ds k = q → done m.ds m.gs ⟨1, cl, sq, k, xs⟩ = (repB 0 [if q = true then 1 else 0], (tPut (m.ds, m.gs) k xs).2)) := ⟨fun q e => by rw [HV.out, e]⟩
  have HML : Bx (4 < B) := ⟨by obtain ⟨_, hm⟩ := HH.out.mx; have := lt_of_cell hm; rw [← HB.out]; exact this⟩
  obtain ⟨q, hq⟩ : ∃ q, hasB m.ds k = q := ⟨_, rfl⟩
  have HDN := Bx.mk (HDN.out q hq)
  rw [hq]
  clear hq
  cases q with
  | true =>
    go_wp2_with fail
    refine wp_region_still_tail 8 (by kernel_rfl) (by kernel_rfl) ?_
    simp only [List.take_succ_cons, List.take_zero, List.drop_succ_cons, List.drop_zero]
    repeat still_step
    refine wpStill_nil ?_
    change wpList _ _ _ _ _ w3.drew
    go_wp2_with fail
    refine HP.out.mono ?_
    rintro e w5 ⟨rfl, PT5, hT5, hP5, hc5⟩
    have hnB : ¬ PT (B + 1) := fun e => by have := HWL.out _ e; omega
    have y5 : ∀ j, w5.frozen? ⟨B + 1, j, none⟩ = false := fun j => by rw [hc5.frozen (p := ⟨B + 1, j, none⟩) hnB (by have := HSZ3.out; show B + 1 < w3.heap.size; omega)]; exact Y.out j
    have x0 : w5.cell? ⟨B + 1, 0, none⟩ = some (.int .i64 0) := hc5.cell hnB z0
    have x1 : w5.cell? ⟨B + 1, 1, none⟩ = some (.slice none 0 0) := hc5.cell hnB z1
    have HSZ5 : Bx (B + 2 ≤ w5.heap.size) := ⟨Nat.le_trans HSZ3.out hc5.size⟩
    have HD := Bx.mk (deed_end (m := m) (o := ⟨1, cl, sq, k, xs⟩) (er := 0) (z := 1) HB.out HCP.out hT5 hP5 hc5 HWL.out HSZ3.out HML.out HDN.out)
    obtain ⟨w6, hw6⟩ : ∃ w6, w5.alloc (.cells #[.int .i64 1] 3) = w6 := ⟨_, rfl⟩
    obtain ⟨G, hG⟩ : ∃ G, w5.heap.size = G := ⟨_, rfl⟩
    have hc6 : Ch (fun _ => False) w5 w6 := by rw [← hw6]; exact (Ch.refl _ _).alloc _
    have v0 : w6.cell? ⟨B + 1, 0, none⟩ = some (.int .i64 0) := hc6.cell (fun h => h) x0
    have v1 : w6.cell? ⟨B + 1, 1, none⟩ = some (.slice none 0 0) := hc6.cell (fun h => h) x1
    have y6 : ∀ j, w6.frozen? ⟨B + 1, j, none⟩ = false := fun j => by rw [hc6.frozen (p := ⟨B + 1, j, none⟩) (fun h => h) (by have := HSZ5.out; show B + 1 < w5.heap.size; omega)]; exact y5 j
    have u0 := y6 0
    have u1 := y6 1
    rw [hw6, hG] at HD
    clear hT5 hP5 hc5 HP z0 z1 r3 r4 c5 Y y5 y6 x0 x1 hc6 hnB
    go_wp2_with fail
    clear hw6
    have k0 : ((w6.setCell ⟨B + 1, 0, none⟩ (.int .i64 0)).setCell ⟨B + 1, 1, none⟩ (.slice (some ⟨G, 0, none⟩) 1 1)).cell? ⟨B + 1, 0, none⟩ = some (.int .i64 0) := (D.set_off (by decide)).trans (D.set_same v0)
    have k1 : ((w6.setCell ⟨B + 1, 0, none⟩ (.int .i64 0)).setCell ⟨B + 1, 1, none⟩ (.slice (some ⟨G, 0, none⟩) 1 1)).cell? ⟨B + 1, 1, none⟩ = some (.slice (some ⟨G, 0, none⟩) 1 1) := D.set_same ((D.set_off (by decide)).trans v1)
    refine bodyPost_ret (v := .agg #[.int .i64 0, .slice (some ⟨G, 0, none⟩) 1 1]) (by simp [results, Tryz.results125, go_sem, k0, k1]) rfl ?_
    exact HD.out
  | false =>
    go_wp2_with fail
    refine wp_region_still_tail 8 (by kernel_rfl) (by kernel_rfl) ?_
    simp only [List.take_succ_cons, List.take_zero, List.drop_succ_cons, List.drop_zero]
    repeat still_step
    refine wpStill_nil ?_
    change wpList _ _ _ _ _ w3.drew
    go_wp2_with fail
    refine HP.out.mono ?_
    rintro e w5 ⟨rfl, PT5, hT5, hP5, hc5⟩
    have hnB : ¬ PT (B + 1) := fun e => by have := HWL.out _ e; omega
    have y5 : ∀ j, w5.frozen? ⟨B + 1, j, none⟩ = false := fun j => by rw [hc5.frozen (p := ⟨B + 1, j, none⟩) hnB (by have := HSZ3.out; show B + 1 < w3.heap.size; omega)]; exact Y.out j
    have x0 : w5.cell? ⟨B + 1, 0, none⟩ = some (.int .i64 0) := hc5.cell hnB z0
    have x1 : w5.cell? ⟨B + 1, 1, none⟩ = some (.slice none 0 0) := hc5.cell hnB z1
    have HSZ5 : Bx (B + 2 ≤ w5.heap.size) := ⟨Nat.le_trans HSZ3.out hc5.size⟩
    have HD := Bx.mk (deed_end (m := m) (o := ⟨1, cl, sq, k, xs⟩) (er := 0) (z := 0) HB.out HCP.out hT5 hP5 hc5 HWL.out HSZ3.out HML.out HDN.out)
    obtain ⟨w6, hw6⟩ : ∃ w6, w5.alloc (.cells #[.int .i64 0] 3) = w6 := ⟨_, rfl⟩
    obtain ⟨G, hG⟩ : ∃ G, w5.heap.size = G := ⟨_, rfl⟩
    have hc6 : Ch (fun _ => False) w5 w6 := by rw [← hw6]; exact (Ch.refl _ _).alloc _
    have v0 : w6.cell? ⟨B + 1, 0, none⟩ = some (.int .i64 0) := hc6.cell (fun h => h) x0
    have v1 : w6.cell? ⟨B + 1, 1, none⟩ = some (.slice none 0 0) := hc6.cell (fun h => h) x1
    have y6 : ∀ j, w6.frozen? ⟨B + 1, j, none⟩ = false := fun j => by rw [hc6.frozen (p := ⟨B + 1, j, none⟩) (fun h => h) (by have := HSZ5.out; show B + 1 < w5.heap.size; omega)]; exact y5 j
    have u0 := y6 0
    have u1 := y6 1
    rw [hw6, hG] at HD
    clear hT5 hP5 hc5 HP z0 z1 r3 r4 c5 Y y5 y6 x0 x1 hc6 hnB
    go_wp2_with fail
    clear hw6
    have k0 : ((w6.setCell ⟨B + 1, 0, none⟩ (.int .i64 0)).setCell ⟨B + 1, 1, none⟩ (.slice (some ⟨G, 0, none⟩) 1 1)).cell? ⟨B + 1, 0, none⟩ = some (.int .i64 0) := (D.set_off (by decide)).trans (D.set_same v0)
    have k1 : ((w6.setCell ⟨B + 1, 0, none⟩ (.int .i64 0)).setCell ⟨B + 1, 1, none⟩ (.slice (some ⟨G, 0, none⟩) 1 1)).cell? ⟨B + 1, 1, none⟩ = some (.slice (some ⟨G, 0, none⟩) 1 1) := D.set_same ((D.set_off (by decide)).trans v1)
    refine bodyPost_ret (v := .agg #[.int .i64 0, .slice (some ⟨G, 0, none⟩) 1 1]) (by simp [results, Tryz.results125, go_sem, k0, k1]) rfl ?_
    exact HD.out
/-- A deed that ends with an empty reply, the table as it is told. -/
theorem deed_bare {m : Sm} {o : Ao} {B t : Nat} {w w3 w5 : World} {PT PT5 : Nat → Prop} {s : List Dc × List Key} {er : Int} (hB : w.heap.size = B) (hc : Ch (fun _ => False) w w3) (hT : M.TabP w5 PT5 t s.1 s.2) (hP : ∀ x, PT5 x → PT x ∨ w3.heap.size ≤ x) (hc5 : Ch PT w3 w5) (hl : ∀ x, PT x → x < B) (hs : B + 2 ≤ w3.heap.size) (hmx : 4 < B) (hd : done m.ds m.gs o = (repB er [], s)) :
    Deed m o t PT w (.returned (.agg #[.int .i64 er, .slice none 0 0])) ((w5.setCell ⟨B + 1, 0, none⟩ (.int .i64 er)).setCell ⟨B + 1, 1, none⟩ (.slice none 0 0)) := by
  have h5 := hc5.size
  have hn : ¬ PT5 (B + 1) := fun e => by
    rcases hP _ e with e | e
    · have := hl _ e; omega
    · omega
  have hcA : Ch (fun x => x = B + 1) w5 ((w5.setCell ⟨B + 1, 0, none⟩ (.int .i64 er)).setCell ⟨B + 1, 1, none⟩ (.slice none 0 0)) :=
    ((Ch.refl (fun x => x = B + 1) w5).setCell (p := ⟨B + 1, 0, none⟩) (.inl rfl) _).setCell (p := ⟨B + 1, 1, none⟩) (.inl rfl) _
  refine ⟨er, none, 0, 0, [], PT5, rfl, Sl.nil _ _ _ _, by omega, by omega, by unfold maxLen; omega, by rw [hd], ?_, fun x hx => ?_, ?_⟩
  · rw [hd]
    exact hT.ch hcA (fun x hx e => by rw [e] at hx; exact hn hx) (by show ¬ 4 = B + 1; omega)
  · rcases hP x hx with e | e
    · exact .inl e
    · exact .inr (by have := hc.size; omega)
  · exact ((hc.mono (fun _ _ h => h.elim)).trans hc5 (fun _ _ h => h)).trans hcA (fun i hi e => by omega)
set_option maxHeartbeats 2000000 in
set_option maxRecDepth 100000 in
theorem sdel_any (H : ShT w P PT b h m) (kd cl sq : Int) (hkd : kd ≠ 1) (k : Key) (xs : List Int) (A : Option Addr) (n c : Nat) (hk : okK k) (hfw : m.ds.length + m.gs.length < 1000000) :
    Calls Tryz.prog 126 #[.pointer (some ⟨b, 0, none⟩), .agg #[.int .i64 kd, .int .i64 cl, .int .i64 sq, kv k, .slice A n c]] w (Deed m ⟨kd, cl, sq, k, xs⟩ h.t PT w) := by
  have hk2 : k.length ≤ 9223372036854775807 := by have := hk.2; omega
  obtain ⟨w1, hw1⟩ : ∃ w1, w.alloc (.cells #[.int .i64 kd, .int .i64 cl, .int .i64 sq, kv k, .slice A n c] 114) = w1 := ⟨_, rfl⟩
  obtain ⟨w2, hw2⟩ : ∃ w2, w1.alloc (.cells #[.int .i64 0, .slice none 0 0] 90) = w2 := ⟨_, rfl⟩
  have hc1 : Ch (fun _ => False) w w1 := by rw [← hw1]; exact (Ch.refl _ _).alloc _
  have hc2 : Ch (fun _ => False) w1 w2 := by rw [← hw2]; exact (Ch.refl _ _).alloc _
  have HC := Bx.mk (hc1.trans hc2 (fun _ _ h => h))
  have hs1 : w1.heap.size = w.heap.size + 1 := by rw [← hw1, World.size_alloc]
  have q3 : w2.cell? ⟨w.heap.size, 3, none⟩ = some (kv k) := hc2.cell (fun h => h) (by rw [← hw1]; exact ncells_at (j := 3) rfl)
  have HG := Bx.mk (sget_any (H.keep HC.out) k hk2)
  have HH := Bx.mk H
  have HK := Bx.mk hk
  have HFW := Bx.mk hfw
  have HS := Bx.mk hs1
  have HKD := Bx.mk hkd
  obtain ⟨S, hS⟩ : ∃ S : ByteArray, kv k = .string S := ⟨_, rfl⟩
  have HSK := Bx.mk hS
  rw [hS] at HG hw1 q3 ⊢
  clear H hk hfw hS hc1 hc2 hkd hk2
  go_enter Tryz.func126, Tryz.ntmps126
  go_wp2_with fail
  refine HG.out.mono ?_
  rintro e w3 ⟨v, rfl, hf⟩
  have HC3 := Bx.mk hf.2.2
  have c5 := (HH.out.keep (HC.out.trans hf.2.2 (fun _ _ h => h))).c5
  have r3 : w3.cell? ⟨w.heap.size, 3, none⟩ = some (.string S) := HC3.out.cell (fun h => h) q3
  have HT3 := Bx.mk (HH.out.keep (HC.out.trans hf.2.2 (fun _ _ h => h))).tab
  have HP := Bx.mk (M.mdel_any (HT3.out.keep (Ch.refl (fun _ => False) w3).drew) k (by have := HK.out.2; omega) HFW.out)
  rw [HSK.out] at HP
  have HDN : Bx (∀ q : Bool, hasB m.ds k = q → done m.ds m.gs ⟨kd, cl, sq, k, xs⟩ = if q = true then (repB 0 [], (tDel (m.ds, m.gs) k).2) else (repB 7 [], (m.ds, m.gs))) := ⟨fun q e => by
    unfold done
    rw [if_neg (show ¬ (⟨kd, cl, sq, k, xs⟩ : Ao).kd = 1 from HKD.out)]
    show (if hasB m.ds k = true then _ else _) = _
    rw [e]⟩
  have HSZ3 : Bx (w.heap.size + 2 ≤ w3.heap.size) := ⟨by have := HC3.out.size; rw [← hw2, World.size_alloc] at this; have := HS.out; omega⟩
  have z0 : w3.cell? ⟨w.heap.size + 1, 0, none⟩ = some (.int .i64 0) := HC3.out.cell (fun h => h) (by rw [← hw2, ← HS.out]; exact ncells_at (j := 0) rfl)
  have z1 : w3.cell? ⟨w.heap.size + 1, 1, none⟩ = some (.slice none 0 0) := HC3.out.cell (fun h => h) (by rw [← hw2, ← HS.out]; exact ncells_at (j := 1) rfl)
  have y0 : ∀ j, w3.frozen? ⟨w.heap.size + 1, j, none⟩ = false := fun j => by
    rw [HC3.out.frozen (p := ⟨w.heap.size + 1, j, none⟩) (fun h => h) (by rw [← hw2, World.size_alloc]; show w.heap.size + 1 < _; have := HS.out; omega)]
    unfold World.frozen?
    rw [← hw2, ← HS.out, heap_alloc_new]
    simp
  have HWL : Bx (∀ x, PT x → x < w.heap.size) := ⟨fun x hx => HH.out.lt x (HH.out.pt x hx)⟩
  have HCP := Bx.mk (HC.out.trans HC3.out (fun _ _ h => h))
  clear hf HG hw1 hw2 q3 HC3
  obtain ⟨B, hB⟩ : ∃ B, w.heap.size = B := ⟨_, rfl⟩
  rw [hB] at r3 z0 z1 y0 HSZ3 HWL ⊢
  have HB := Bx.mk hB
  clear hB
  have HML : Bx (4 < B) := ⟨by obtain ⟨_, hm⟩ := HH.out.mx; have := lt_of_cell hm; rw [← HB.out]; exact this⟩
  obtain ⟨q, hq⟩ : ∃ q, hasB m.ds k = q := ⟨_, rfl⟩
  have HDN := Bx.mk (HDN.out q hq)
  rw [hq]
  clear hq
  have Y := Bx.mk y0
  cases q with
  | true =>
    clear y0
    go_wp2_with fail
    refine wp_region_still_tail 6 (by kernel_rfl) (by kernel_rfl) ?_
    simp only [List.take_succ_cons, List.take_zero, List.drop_succ_cons, List.drop_zero]
    repeat still_step
    refine wpStill_nil ?_
    change wpList _ _ _ _ _ w3.drew
    go_wp2_with fail
    refine HP.out.mono ?_
    rintro e w5 ⟨rfl, PT5, hT5, hP5, hc5⟩
    have hnB : ¬ PT (B + 1) := fun e => by have := HWL.out _ e; omega
    have y5 : ∀ j, w5.frozen? ⟨B + 1, j, none⟩ = false := fun j => by rw [hc5.frozen (p := ⟨B + 1, j, none⟩) hnB (by have := HSZ3.out; show B + 1 < w3.heap.size; omega)]; exact Y.out j
    have x0 : w5.cell? ⟨B + 1, 0, none⟩ = some (.int .i64 0) := hc5.cell hnB z0
    have x1 : w5.cell? ⟨B + 1, 1, none⟩ = some (.slice none 0 0) := hc5.cell hnB z1
    have HD := Bx.mk (deed_bare (m := m) (o := ⟨kd, cl, sq, k, xs⟩) (er := 0) HB.out HCP.out.drew hT5 hP5 hc5 HWL.out HSZ3.out HML.out HDN.out)
    have u0 := y5 0
    have u1 := y5 1
    clear hT5 hP5 hc5 HP z0 z1 r3 c5 Y y5 hnB
    go_wp2_with fail
    have k0 : ((w5.setCell ⟨B + 1, 0, none⟩ (.int .i64 0)).setCell ⟨B + 1, 1, none⟩ (.slice none 0 0)).cell? ⟨B + 1, 0, none⟩ = some (.int .i64 0) := (D.set_off (by decide)).trans (D.set_same x0)
    have k1 : ((w5.setCell ⟨B + 1, 0, none⟩ (.int .i64 0)).setCell ⟨B + 1, 1, none⟩ (.slice none 0 0)).cell? ⟨B + 1, 1, none⟩ = some (.slice none 0 0) := D.set_same ((D.set_off (by decide)).trans x1)
    refine bodyPost_ret (v := .agg #[.int .i64 0, .slice none 0 0]) (by simp [results, Tryz.results126, go_sem, k0, k1]) rfl ?_
    exact HD.out
  | false =>
    have u0 := y0 0
    have u1 := y0 1
    clear y0
    have HD := Bx.mk (deed_bare (m := m) (o := ⟨kd, cl, sq, k, xs⟩) (er := 7) (PT := PT) HB.out HCP.out HT3.out (fun x h => .inl h) (Ch.refl _ _) HWL.out HSZ3.out HML.out HDN.out)
    go_wp2_with fail
    have k0 : ((w3.setCell ⟨B + 1, 0, none⟩ (.int .i64 7)).setCell ⟨B + 1, 1, none⟩ (.slice none 0 0)).cell? ⟨B + 1, 0, none⟩ = some (.int .i64 7) := (D.set_off (by decide)).trans (D.set_same z0)
    have k1 : ((w3.setCell ⟨B + 1, 0, none⟩ (.int .i64 7)).setCell ⟨B + 1, 1, none⟩ (.slice none 0 0)).cell? ⟨B + 1, 1, none⟩ = some (.slice none 0 0) := D.set_same ((D.set_off (by decide)).trans z1)
    refine bodyPost_ret (v := .agg #[.int .i64 7, .slice none 0 0]) (by simp [results, Tryz.results126, go_sem, k0, k1]) rfl ?_
    exact HD.out
end
end
section
open Go.RowKit Go.Oct Go.Su Go.Sg Go.Om Go.Sh Go.Maps
section
variable {w w4 w5 w6 w7 : World} {P PT PT5 T F : Nat → Prop} {b t : Nat} {h : Wh} {m : Sm} {ds5 : List Dc} {gs5 : List Key}
theorem ShT.ml (H : ShT w P PT b h m) : 4 < w.heap.size := by
  obtain ⟨_, hm⟩ := H.mx
  exact lt_of_cell hm
/-- What a deed left, seen from a world ahead of it. -/
structure DeedAt (m : Sm) (o : Ao) (t : Nat) (PT : Nat → Prop) (wc wx : World) (er : Int) (A : Option Addr) (n c : Nat) (l : List Int) (PT5 : Nat → Prop) : Prop where
  sl : Sl wx (fun x => wc.heap.size ≤ x ∧ ¬ PT5 x) .i64 A n l
  hn : n ≤ 1000000
  hnc : n ≤ c
  hc : c ≤ maxLen
  said : (done m.ds m.gs o).1 = repB er l
  tab : M.TabP wx PT5 t (done m.ds m.gs o).2.1 (done m.ds m.gs o).2.2
  low : ∀ x, PT5 x → PT x ∨ wc.heap.size ≤ x
  ch : Ch PT wc wx
theorem Deed.at_ {m : Sm} {o : Ao} {t : Nat} {PT : Nat → Prop} {wc W w6 : World} {e : Ending} (h : Deed m o t PT W e w6) (hw : Ch (fun _ => False) wc W) (hl : ∀ x, PT x → x < wc.heap.size) (hml : 4 < wc.heap.size) :
    ∃ er A n c l PT5, e = .returned (.agg #[.int .i64 er, .slice A n c]) ∧ DeedAt m o t PT wc w6 er A n c l PT5 ∧ (∀ q wx, wc.heap.size ≤ q → q < W.heap.size → Ch (fun x => x = q) w6 wx → DeedAt m o t PT wc wx er A n c l PT5) ∧ ∀ wx, Ch (fun _ => False) w6 wx → DeedAt m o t PT wc wx er A n c l PT5 := by
  obtain ⟨er, A, n, c, l, PT5, he, h1, h2, h3, h4, h5, h6, h7, h8⟩ := h
  have hs := hw.size
  have hp : ∀ x, PT5 x → PT x ∨ wc.heap.size ≤ x := fun x hx => (h7 x hx).imp id (fun h => by omega)
  have hc := (hw.mono (fun _ _ h => h.elim)).trans h8 (fun _ _ h => h)
  have key : ∀ wx (T : Nat → Prop), Ch T w6 wx → (∀ x, T x → wc.heap.size ≤ x ∧ ¬ PT5 x ∧ ¬ W.heap.size ≤ x) → DeedAt m o t PT wc wx er A n c l PT5 := fun wx T hT hq =>
    ⟨(h1.ch hT (fun x hx _ e => (hq x e).2.2 hx.1)).mono (fun x _ hx => ⟨by omega, hx.2⟩), h2, h3, h4, h5, h6.ch hT (fun x hx e => (hq x e).2.1 hx) (fun e => by have := (hq _ e).1; omega), hp, hc.trans hT (fun i hi e => by have := (hq i e).1; omega)⟩
  refine ⟨er, A, n, c, l, PT5, he, key w6 (fun _ => False) (Ch.refl _ _) (fun _ h => h.elim), fun q wx h0 h1 hT => key wx _ hT (fun x e => ?_), fun wx hT => key wx _ hT (fun _ h => h.elim)⟩
  subst e
  refine ⟨h0, fun e => ?_, by omega⟩
  rcases h7 x e with e | e
  · have := hl x e; omega
  · omega
/-- What a deed leaves of a fresh block that stood there. -/
theorem Deed.z_ {m : Sm} {o : Ao} {t : Nat} {PT : Nat → Prop} {wc W w6 : World} {e : Ending} (h : Deed m o t PT W e w6) (hw : Ch (fun _ => False) wc W) (hl : ∀ x, PT x → x < wc.heap.size) (hml : 4 < wc.heap.size) {q : Nat} (h0 : wc.heap.size ≤ q) (h1 : q < W.heap.size) (hz : W.cell? ⟨q, 0, none⟩ = some (.int .i64 0) ∧ W.cell? ⟨q, 1, none⟩ = some (.slice none 0 0) ∧ W.frozen? ⟨q, 0, none⟩ = false ∧ W.frozen? ⟨q, 1, none⟩ = false) :
    ∃ er A n c l PT5, e = .returned (.agg #[.int .i64 er, .slice A n c]) ∧ (∀ wx, Ch (fun x => x = q) w6 wx → DeedAt m o t PT wc wx er A n c l PT5) ∧ w6.cell? ⟨q, 0, none⟩ = some (.int .i64 0) ∧ w6.cell? ⟨q, 1, none⟩ = some (.slice none 0 0) ∧ w6.frozen? ⟨q, 0, none⟩ = false ∧ w6.frozen? ⟨q, 1, none⟩ = false := by
  obtain ⟨er, A, n, c, l, PT5, he, hat, h2, _⟩ := Deed.at_ h hw hl hml
  obtain ⟨_, _, _, _, _, _, _, _, _, _, _, _, _, _, hc⟩ := h
  have hn : ¬ PT q := fun e => by have := hl q e; omega
  exact ⟨er, A, n, c, l, PT5, he, fun wx hx => h2 q wx h0 h1 hx, hc.cell hn hz.1, hc.cell hn hz.2.1, (hc.frozen (p := ⟨q, 0, none⟩) hn h1).trans hz.2.2.1, (hc.frozen (p := ⟨q, 1, none⟩) hn h1).trans hz.2.2.2⟩
theorem lit_ne {a c : Int} (h : a ≠ c) : (Lit.int .i64 a) ≠ .int .i64 c := fun e => h (by injection e)
theorem ShT.said (H : ShT w P PT b h m) {f : Lit → Option Value} (hno : ∀ c, m.ss c = none → f (.int .i64 c) = none) (hso : ∀ c s, m.ss c = some s → ∃ v, f (.int .i64 c) = some v ∧ SesOk w (FS P PT b h.sb) v s) (h4 : Ch (fun _ => False) w w4) {er cl sq : Int} {A : Option Addr} {n c : Nat} {l : List Int}
    (hA : Sl w5 (fun x => w4.heap.size ≤ x ∧ ¬ PT5 x) .i64 A n l) (hn : n ≤ 1000000) (hnc : n ≤ c) (hc : c ≤ maxLen) (hT : M.TabP w5 PT5 h.t ds5 gs5) (hP5 : ∀ x, PT5 x → PT x ∨ w4.heap.size ≤ x) (c5 : Ch PT w4 w5) (c6 : Ch (fun _ => False) w5 w6) (c7 : Ch (fun x => x = h.sb) w6 w7)
    (hm : Mp.Mp Tryz.prog 3 w7 h.sb (h.n + 1) (Mp.put f (.int .i64 cl) (sesV er A n c sq))) (hfew : (h.n : Int) < m.ap) :
    ∃ P', ShT w7 P' PT5 b ⟨h.t, h.sb, h.n + 1, h.nx, h.sr, h.d, h.pf⟩ ⟨m.ap, at1 m.ss cl ⟨sq, repB er l⟩, ds5, gs5⟩ ∧ (∀ x, P' x → P x ∨ w4.heap.size ≤ x) ∧ Ch P w w7 := by
  have s4 := h4.size
  have s5 := c5.size
  have s6 := c6.size
  have s7 := c7.size
  have hml := H.ml
  have hlt5 : ∀ x, x < w.heap.size → PT5 x → PT x := fun x hx h => by
    rcases hP5 x h with h | h
    · exact h
    · omega
  have hlb := H.lt b H.pb
  have hls := H.lt _ H.ps
  have hcb : Ch (fun x => PT x ∨ x = h.sb) w w7 := (((h4.mono (fun _ _ h => h.elim)).trans c5 (fun _ _ h => .inl h)).trans c6 (fun _ _ h => h.elim)).trans c7 (fun _ _ h => .inr h)
  have hnb : ¬ (PT b ∨ b = h.sb) := fun e => e.elim H.nb H.ne
  refine ⟨fun x => P x ∨ PT5 x ∨ (∃ off, A = some ⟨x, off, none⟩ ∧ w4.heap.size ≤ x ∧ x < w5.heap.size), ⟨hcb.cell (p := ⟨b, 0, none⟩) hnb H.c0, hcb.cell (p := ⟨b, 1, none⟩) hnb H.c1, hcb.cell (p := ⟨b, 2, none⟩) hnb H.c2, hcb.cell (p := ⟨b, 3, none⟩) hnb H.c3, hcb.cell (p := ⟨b, 4, none⟩) hnb H.c4, hcb.cell (p := ⟨b, 5, none⟩) hnb H.c5, hcb.cell (p := ⟨b, 6, none⟩) hnb H.c6, hcb.cell (p := ⟨b, 7, none⟩) hnb H.c7, fun j => by rw [hcb.frozen (p := ⟨b, j, none⟩) hnb hlb]; exact H.zf j, ?_, ?_, .inl H.pb, .inl H.ps, fun x hx => .inr (.inl hx), fun e => H.nb (hlt5 b hlb e), fun e => H.ns (hlt5 _ hls e), H.ne, ?_, ?_, ?_⟩, ?_, hcb.mono (fun x _ e => e.elim (H.pt x) (fun e => by rw [e]; exact H.ps))⟩
  · exact (hT.keep c6).ch c7 (fun x hx (e : x = h.sb) => H.ns (hlt5 _ hls (by rw [← e]; exact hx))) (by show ¬ 4 = h.sb; intro e; exact H.mp (by rw [e]; exact H.ps))
  · refine ⟨_, hm, fun c0 h0 => ?_, fun c0 s0 h0 => ?_⟩
    · have h0 : (if c0 = cl then some (⟨sq, repB er l⟩ : Ses) else m.ss c0) = none := h0
      by_cases e : c0 = cl
      · rw [if_pos e] at h0; cases h0
      · rw [if_neg e] at h0
        unfold Mp.put
        rw [if_neg (lit_ne e)]
        exact hno c0 h0
    · have h0 : (if c0 = cl then some (⟨sq, repB er l⟩ : Ses) else m.ss c0) = some s0 := h0
      unfold Mp.put
      by_cases e : c0 = cl
      · rw [if_pos e] at h0
        injection h0 with h0
        subst h0
        rw [if_pos (by rw [e])]
        refine ⟨_, rfl, er, A, n, c, l, rfl, ?_, hn, hnc, hc, rfl⟩
        have hA2 : Sl w5 (fun x => (w4.heap.size ≤ x ∧ ¬ PT5 x) ∧ ∃ off, A = some ⟨x, off, none⟩) .i64 A n l := by
          refine ⟨hA.1, fun hn => ?_⟩
          obtain ⟨b', off, e1, e2, e3⟩ := hA.2 hn
          exact ⟨b', off, e1, ⟨e2, off, e1⟩, e3⟩
        refine ((hA2.mono (G := FS (fun x => P x ∨ PT5 x ∨ ∃ off, A = some ⟨x, off, none⟩ ∧ w4.heap.size ≤ x ∧ x < w5.heap.size) PT5 b h.sb) (fun x hx hq => ?_)).ch c6 (fun _ _ _ h => h)).ch c7 (fun x hx _ e => hx.2.2.2 e)
        obtain ⟨⟨h1, h2⟩, off, e⟩ := hq
        exact ⟨.inr (.inr ⟨off, e, h1, hx⟩), h2, by omega, by omega⟩
      · rw [if_neg e] at h0
        rw [if_neg (lit_ne e)]
        obtain ⟨v, h1, h2⟩ := hso c0 s0 h0
        exact ⟨v, h1, (h2.ch hcb (fun x hq hx e => e.elim hq.2.1 hq.2.2.2)).mono (fun x hx hq => ⟨.inl hq.1, fun h5 => hq.2.1 (hlt5 x (H.lt x hq.1) h5), hq.2.2⟩)⟩
  · intro x hx
    rcases hx with h | h | ⟨_, _, _, h⟩
    · have := H.lt x h; omega
    · have := hT.lt x h; omega
    · omega
  · intro e
    rcases e with h | h | ⟨_, _, h, _⟩
    · exact H.mp h
    · exact H.mp (H.pt _ (hlt5 _ hml h))
    · omega
  · show ((h.n + 1 : Nat) : Int) ≤ m.ap
    omega
  · intro x hx
    rcases hx with h | h | ⟨_, _, h, _⟩
    · exact .inl h
    · rcases hP5 x h with h | h
      · exact .inl (H.pt x h)
      · exact .inr (by omega)
    · exact .inr (by omega)
end
end
end Go.Proofs.YtbkakhfepiooaaaGreatDoor
