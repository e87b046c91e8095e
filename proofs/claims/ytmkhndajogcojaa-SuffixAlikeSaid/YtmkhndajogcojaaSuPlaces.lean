/-
  The contract of the document's answer haystackref5.Places: the way back of an order, or refused.
-/
import Derived.Test.YtmkhndajogcojaaSuRow
namespace Go.Proofs.Ytmkhndajogcojaa
open Go.RowKit Go.Oct Go.Su

/-- The way back under way: each of the first i places knows where it stood. -/
def plcUp (xs : List Int) : Nat → List Int
  | 0 => List.replicate xs.length 0
  | i + 1 => match xs[i]? with
    | some x => (plcUp xs i).set x.toNat (i : Int)
    | none => plcUp xs i
def plc (xs : List Int) : List Int := plcUp xs xs.length
theorem plcUp_len (xs : List Int) : ∀ i, (plcUp xs i).length = xs.length
  | 0 => List.length_replicate ..
  | i + 1 => by
    unfold plcUp
    split
    · rw [List.length_set, plcUp_len xs i]
    · exact plcUp_len xs i
theorem plcUp_next {xs : List Int} {i : Nat} {p : Nat} (h : xs[i]? = some (p : Int)) : plcUp xs (i + 1) = (plcUp xs i).set p (i : Int) := by
  rw [plcUp, h]
  rfl
/-- Which have been met among the first i. -/
def met (xs : List Int) (i : Nat) : List Bool := (List.range xs.length).map fun p : Nat => decide ((p : Int) ∈ xs.take i)
theorem met_len (xs : List Int) (i : Nat) : (met xs i).length = xs.length := by simp [met]
theorem met_at {xs : List Int} {i p : Nat} (h : p < xs.length) : (met xs i)[p]? = some (decide ((p : Int) ∈ xs.take i)) := by
  unfold met
  rw [List.getElem?_map, List.getElem?_range h]
  rfl
theorem met_zero (xs : List Int) : met xs 0 = List.replicate xs.length false := by
  apply List.ext_getElem
  · simp [met]
  · intro i h1 h2
    simp [met]
theorem met_next {xs : List Int} {i p : Nat} (h : xs[i]? = some (p : Int)) : (met xs i).set p true = met xs (i + 1) := by
  apply List.ext_getElem
  · simp [met]
  · intro k h1 h2
    rw [List.getElem_set]
    simp only [met, List.getElem_map, List.getElem_range]
    rw [List.take_add_one, h]
    by_cases e : p = k
    · subst e
      rw [if_pos rfl]
      simp
    · rw [if_neg e]
      simp
      omega
/-- Each place once. -/
def Good (xs : List Int) (n : Nat) : Prop := (∀ x ∈ xs, 0 ≤ x ∧ x < n) ∧ xs.Nodup
theorem good_next {xs : List Int} {i n : Nat} {x : Int} (g : Good (xs.take i) n) (h : xs[i]? = some x) (h0 : 0 ≤ x) (h1 : x < n) (h2 : x ∉ xs.take i) : Good (xs.take (i + 1)) n := by
  rw [List.take_add_one, h]
  refine ⟨fun y hy => ?_, ?_⟩
  · rcases List.mem_append.1 hy with h3 | h3
    · exact g.1 y h3
    · simp at h3
      subst h3
      exact ⟨h0, h1⟩
  · rw [List.nodup_append]
    refine ⟨g.2, by simp, fun a ha b hb => ?_⟩
    simp at hb
    subst hb
    rintro rfl
    exact h2 ha
theorem good_not {xs : List Int} {i n : Nat} {x : Int} (h : xs[i]? = some x) (hb : x < 0 ∨ (n : Int) ≤ x ∨ x ∈ xs.take i) : ¬ Good xs n := by
  rintro ⟨g1, g2⟩
  have hm := g1 x (List.mem_of_getElem? h)
  rcases hb with h1 | h1 | h1
  · omega
  · omega
  · obtain ⟨j, hj, he⟩ := List.getElem_of_mem h1
    obtain ⟨hi, hie⟩ := List.getElem?_eq_some_iff.1 h
    rw [List.length_take] at hj
    rw [List.getElem_take] at he
    rw [List.Nodup, List.pairwise_iff_getElem] at g2
    exact g2 j i (by omega) hi (by omega) (he.trans hie.symm)
theorem plc_at {xs : List Int} {n : Nat} (hn : xs.length = n) (g : Good xs n) : ∀ (m i p : Nat), i < m → m ≤ n → xs[i]? = some (p : Int) → gs (plcUp xs m) p = i
  | 0, i, p, hi, _, _ => absurd hi (by omega)
  | m + 1, i, p, hi, hm, h => by
    obtain ⟨y, hy⟩ : ∃ y, xs[m]? = some y := ⟨xs[m]'(by omega), List.getElem?_eq_getElem _⟩
    have hyb := g.1 y (List.mem_of_getElem? hy)
    obtain ⟨q, rfl⟩ : ∃ q : Nat, y = q := ⟨y.toNat, by omega⟩
    rw [plcUp_next hy]
    have hpl := plcUp_len xs m
    unfold gs
    rw [List.getD_eq_getElem?_getD]
    by_cases e : i = m
    · subst e
      have hpq : (p : Int) = q := Option.some.inj (h.symm.trans hy)
      obtain rfl : p = q := by omega
      rw [List.getElem?_set_self (by omega)]
      rfl
    · have hne : q ≠ p := by
        rintro rfl
        obtain ⟨h1, h2⟩ := List.getElem?_eq_some_iff.1 h
        obtain ⟨h3, h4⟩ := List.getElem?_eq_some_iff.1 hy
        have g2 := g.2
        rw [List.Nodup, List.pairwise_iff_getElem] at g2
        exact g2 i m h1 h3 (by omega) (h2.trans h4.symm)
      rw [List.getElem?_set_ne hne]
      have := plc_at hn g m i p (by omega) (by omega) h
      unfold gs at this
      rw [List.getD_eq_getElem?_getD] at this
      exact this

theorem elemB : Elem Try.prog 31 4 (.bool false) 1 := ⟨Try.underlying31, by kernel_rfl, rfl⟩
theorem mkB (w : World) (n : Nat) (hn : n ≤ 1048576) : (Instr.makeSlice 31 (.int .i64 (n : Int)) (.int .i64 (n : Int))).run Try.prog w = .ok (.slice (some ⟨w.heap.size, 0, none⟩) n n) (w.alloc (.cells (madeCells #[.bool false] n) 4)) := run_mk2 elemB n (by omega) (by omega) w
theorem Own.storedB {w : World} {e : TypeId} {g n c : Nat} {xs : List Bool} (h : Own w e 1 g n c (xs.map Value.bool)) (j : Nat) (x : Bool) : Own (w.setCell ⟨g, j, none⟩ (.bool x)) e 1 g n c ((xs.set j x).map Value.bool) ∧ Ch (fun k => k = g) w (w.setCell ⟨g, j, none⟩ (.bool x)) := by
  have := h.stored j (.bool x)
  rwa [← List.map_set] at this

/-- What Places leaves. -/
def Placed (xs : List Int) (n : Nat) (w : World) (e : Ending) (w' : World) : Prop :=
  (Good xs n → ∃ g : Nat, e = .returned (.tuple #[.slice (some ⟨g, 0, none⟩) n n, .int .i64 0]) ∧ Own w' 3 1 g n n ((plc xs).map (Value.int .i64)) ∧ w.heap.size ≤ g) ∧ (¬ Good xs n → e = .returned (.tuple #[.slice none 0 0, .int .i64 1])) ∧ Ch (fun _ => False) w w'
section
variable {F : Nat → Prop}
set_option maxHeartbeats 4000000 in
theorem refplaces_any (xs : List Int) (A : Option Addr) (n c : Nat) (w : World) (hs : Sl w F .i64 A n xs) (hn : n ≤ 1048576) :
    Calls Try.prog 16 #[.slice A n c] w (Placed xs n w) := by
  have hl := hs.len
  have HS := Bx.mk (hs.mono (G := fun b => b < w.heap.size) (fun b h _ => h))
  have HL := Bx.mk hl
  have hmk1 := mkI w n hn
  have hmk2 := mkB (w.alloc (.cells (madeCells #[.int .i64 0] n) 3)) n hn
  rw [World.size_alloc] at hmk2
  clear hs hl
  go_enter Try.func16, Try.ntmps16
  go_wp2_with fail
  obtain ⟨G, hG⟩ : ∃ G, w.heap.size = G := ⟨_, rfl⟩
  obtain ⟨w0, hw0⟩ : ∃ w0, ((w.alloc (.cells (madeCells #[.int .i64 0] n) 3)).alloc (.cells (madeCells #[.bool false] n) 4)) = w0 := ⟨_, rfl⟩
  have hC0 : Ch (fun _ => False) w w0 := by rw [← hw0]; exact (((Ch.refl (fun _ => False) w).alloc _).alloc _)
  have hO1 : Own w0 3 1 G n n ((plcUp xs 0).map (Value.int .i64)) := by
    rw [plcUp, HL.out, List.map_replicate, ← hw0, ← hG]
    exact (own_made1 w 3 (.int .i64 0) n (by omega)).keep ((Ch.refl (fun _ => False) _).alloc _)
  have hO2 : Own w0 4 1 (G + 1) n n ((met xs 0).map Value.bool) := by
    rw [met_zero, HL.out, List.map_replicate, ← hw0, ← hG]
    have h := own_made1 (w.alloc (.cells (madeCells #[.int .i64 0] n) 3)) 4 (.bool false) n (by omega)
    rw [World.size_alloc] at h
    exact h
  have hS0 : Sl w0 (fun b => b < G) .i64 A n xs := by rw [← hG]; exact HS.out.ch hC0 (fun _ _ _ h => h)
  rw [hw0, hG]
  have HO1 := Bx.mk hO1
  have HO2 := Bx.mk hO2
  have HS0 := Bx.mk hS0
  have HC0 := Bx.mk hC0
  have HG := Bx.mk hG
  clear hO1 hO2 hS0 hC0 hw0 hG HS hmk1 hmk2
  go_loopw [6] (fun i wr => ∃ j : Nat, j ≤ n ∧ i = .int .i64 j ∧ Own wr 3 1 G n n ((plcUp xs j).map (Value.int .i64)) ∧ Own wr 4 1 (G + 1) n n ((met xs j).map Value.bool) ∧ Good (xs.take j) n ∧ Ch (fun b => G ≤ b) w0 wr) (fun i _ => n - (intOf i).toNat)
  case atStart => exact ⟨0, Nat.zero_le _, rfl, HO1.out, HO2.out, ⟨by simp, by simp⟩, Ch.refl _ _⟩
  case round =>
    obtain ⟨j, hj, rfl, hO1, hO2, hgd, hC⟩ := hrel
    have HCW : Bx (Ch (fun _ => False) w wr) := ⟨HC0.out.trans hC (fun i hi h => by have := HG.out; omega)⟩
    by_cases hjn : j < n
    · obtain ⟨b, off, x, rfl, hbG, hx, hcx⟩ := (HS0.out.ch hC (fun b hb _ h => by omega)).at_ hjn
      have HX := Bx.mk hx.out
      have HGD := Bx.mk hgd
      have i1 : (0 : Int) ≤ (j : Int) := by omega
      have i2 : (j : Int) < (n : Int) := by omega
      by_cases h0 : x < 0
      · have HNG : Bx (¬ Good xs n) := ⟨good_not HX.out (.inl h0)⟩
        clear hx hgd hO1 hO2 hC
        go_wp2_with fail
        first | go_quiet (fail) | skip
        go_wp2
        go_returns
        exact ⟨fun g => absurd g HNG.out, fun _ => rfl, by first | exact HCW.out | exact HCW.out.drewN _⟩
      · by_cases h1 : (n : Int) ≤ x
        · have HNG : Bx (¬ Good xs n) := ⟨good_not HX.out (.inr (.inl h1))⟩
          have d0 : decide (x < 0) = false := by simp; omega
          clear hx hgd hO1 hO2 hC
          go_wp2_with fail
          first | go_quiet (fail) | skip
          go_wp2
          go_returns
          exact ⟨fun g => absurd g HNG.out, fun _ => rfl, by first | exact HCW.out | exact HCW.out.drewN _⟩
        · obtain ⟨p, rfl⟩ : ∃ p : Nat, x = p := ⟨x.toNat, by omega⟩
          have hp : p < n := by omega
          have d0 : decide ((p : Int) < 0) = false := by simp
          have d1 : decide ((n : Int) ≤ (p : Int)) = false := by simp; omega
          have i3 : (0 : Int) ≤ (p : Int) := by omega
          have i4 : (p : Int) < (n : Int) := by omega
          have hcs : wr.cell? ⟨G + 1, p, none⟩ = some (.bool (decide ((p : Int) ∈ xs.take j))) := hO2.cellAt (by rw [List.getElem?_map, met_at (by rw [HL.out]; exact hp)]; rfl)
          by_cases hm : (p : Int) ∈ xs.take j
          · have HNG : Bx (¬ Good xs n) := ⟨good_not HX.out (.inr (.inr hm))⟩
            rw [decide_eq_true hm] at hcs
            clear hx hgd hO1 hO2 hC hm
            go_wp2_with fail
            first | go_quiet (fail) | skip
            go_wp2
            go_returns
            exact ⟨fun g => absurd g HNG.out, fun _ => rfl, by first | exact HCW.out | exact HCW.out.drewN _⟩
          · rw [decide_eq_false hm] at hcs
            have HGN := Bx.mk (good_next HGD.out HX.out i3 i4 hm)
            have hf2 := hO2.frozenAt p
            have hst2 := hO2.storedB p true
            rw [met_next HX.out] at hst2
            have hO1' := hO1.ch hst2.2 (fun h => by have h' : G = G + 1 := h; omega)
            have hcx' := hst2.2.cell (p := ⟨b, off + j, none⟩) (fun h => by have h' : b = G + 1 := h; omega) hcx
            have hc1 := hO1'.cellI hp
            have hf1 := hO1'.frozenAt p
            have hst1 := hO1'.storedI p (j : Int)
            rw [← plcUp_next HX.out] at hst1
            have hO2' := hst2.1.ch hst1.2 (fun h => by have h' : G + 1 = G := h; omega)
            have hCC : Ch (fun b => G ≤ b) w0 _ := (hC.trans hst2.2 (fun i _ (h : i = G + 1) => by omega)).trans hst1.2 (fun i _ (h : i = G) => by omega)
            generalize (plcUp xs j).getD p 0 = u1 at *
            have HA := Bx.mk hst1.1
            have HB := Bx.mk hO2'
            have HCC := Bx.mk hCC
            clear hx hgd hm hst1 hst2 hO1 hO2 hO1' hO2' hC hCC
            go_wp2
            go_roundw
            case rel => exact ⟨j + 1, by omega, by go_num, HA.out, HB.out, HGN.out, HCC.out⟩
            case measure => simp [intOf]; omega
    · have hjn' : j = n := by omega
      have dj : decide ((j : Int) < (n : Int)) = false := by simp; omega
      have HPl : Bx (Own wr 3 1 G n n ((plc xs).map (Value.int .i64))) := ⟨by rw [hjn'] at hO1; unfold plc; rw [HL.out]; exact hO1⟩
      have HGA : Bx (Good xs n) := ⟨by rw [hjn', List.take_of_length_le (by rw [HL.out]; omega)] at hgd; exact hgd⟩
      clear hO1 hO2 hgd hC hjn'
      go_wp2
      go_returns
      exact ⟨fun _ => ⟨G, rfl, HPl.out, Nat.le_of_eq HG.out⟩, fun g => absurd HGA.out g, HCW.out⟩
end
end Go.Proofs.Ytmkhndajogcojaa
