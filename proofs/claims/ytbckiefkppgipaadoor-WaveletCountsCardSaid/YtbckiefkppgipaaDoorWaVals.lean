/-
  Get, whatever the place; how counts of symbols hang together; the low digits of a number, as the program takes them.
-/
import Derived.Test.YtbckiefkppgipaaDoorWaKnown
namespace Go.Proofs.YtbckiefkppgipaaDoor
open Go.RowKit Go.Oct Go.Bi Go.Wa

/-- Get. -/
theorem tget_any {F : Nat → Prop} (b W : Nat) (l : List Nat) (i r : Int) (w : World) (h : Tr w F b W l) (hr : symAt l i = r) :
    Calls Tryd.prog 15 #[.pointer (some ⟨b, 0, none⟩), .int .i64 i] w fun e w' => e = .returned (.int .i64 r) ∧ Ch (fun _ => False) w w' := by
  subst hr
  by_cases hi : i < 0 ∨ (l.length : Int) ≤ i
  · rw [symAt_out hi]
    exact (tget_out b W l i w h hi).mono fun e w' h => ⟨h.1, by rw [← h.2]; exact Ch.refl _ _⟩
  · obtain ⟨p, rfl⟩ : ∃ p : Nat, i = p := ⟨i.toNat, by omega⟩
    have hp : l[p]? = some (l[p]'(by omega)) := List.getElem?_eq_getElem _
    rw [symAt_in hp]
    exact tget_in b W p _ l w h hp

theorem and255 (x : Int) : bits .and .i64 x 255 = (((x % ((256 : Nat) : Int)).toNat : Nat) : Int) := and_low x 8 (by decide)
theorem and15 (x : Int) : bits .and .i64 x 15 = (((x % ((16 : Nat) : Int)).toNat : Nat) : Int) := and_low x 4 (by decide)
theorem and7 (x : Int) : bits .and .i64 x 7 = (((x % ((8 : Nat) : Int)).toNat : Nat) : Int) := and_low x 3 (by decide)

/-- Those below the next one are those below it and itself. -/
theorem count_next (l : List Nat) (c : Int) : (low l (c + 1)).count true = (low l c).count true + (hit l c).count true := by
  unfold low hit
  induction l with
  | nil => rfl
  | cons x l ih =>
    simp only [List.map_cons, List.count_cons]
    rw [ih]
    by_cases h1 : (x : Int) < c
    · rw [decide_eq_true h1, decide_eq_true (show (x : Int) < c + 1 by omega), decide_eq_false (show ¬ (x : Int) = c by omega)]
      simp
      omega
    · by_cases h2 : (x : Int) = c
      · rw [decide_eq_false h1, decide_eq_true (show (x : Int) < c + 1 by omega), decide_eq_true h2]
        simp
        omega
      · rw [decide_eq_false h1, decide_eq_false (show ¬ (x : Int) < c + 1 by omega), decide_eq_false h2]
        simp
theorem rk_next (l : List Nat) (c i : Int) : rk (low l (c + 1)) true i = rk (low l c) true i + rk (hit l c) true i := by
  unfold rk
  rw [low_take, low_take, hit_take]
  exact count_next _ c
theorem rk_zero (b : List Bool) : rk b true 0 = 0 := rk_neg (Int.le_refl _)
theorem bel_next (l : List Nat) (c : Int) {f t : Int} (h : f ≤ t) : bel l (c + 1) f t + rk (hit l c) true f = bel l c f t + rk (hit l c) true t := by
  unfold bel
  rw [rk_next, rk_next]
  have h1 := rk_mono (low l c) true h
  have h2 := rk_mono (hit l c) true h
  omega
theorem hit_app (a b : List Nat) (c : Int) : hit (a ++ b) c = hit a c ++ hit b c := List.map_append
theorem low_app (a b : List Nat) (c : Int) : low (a ++ b) c = low a c ++ low b c := List.map_append
theorem bel_full (l : List Nat) (c : Int) {n : Int} (h : (l.length : Int) ≤ n) : bel l c 0 n = (low l c).count true := by
  unfold bel
  rw [rk_zero, rk_all (by rw [low_len]; exact h)]
  rfl
/-- What Select tells, by its place. -/
theorem sel_hit (l : List Nat) (c k : Nat) : (∃ p : Nat, sel (hit l c) true k = p ∧ p < l.length ∧ symAt l p = c ∧ rk (hit l c) true p = k ∧ k < (hit l c).count true) ∨ (sel (hit l c) true k = -1 ∧ ¬ k < (hit l c).count true) := by
  rcases sel_is (hit l c) true k with ⟨i, h, hi⟩ | ⟨h, hi⟩
  · have hlt := hi.lt
    rw [hit_len] at hlt
    refine .inl ⟨i, h, hlt.2.2, symAt_in (hit_at hi.1), ?_, by omega⟩
    have := hi.2
    rw [rk_nat]
    omega
  · exact .inr ⟨h, by omega⟩
end Go.Proofs.YtbckiefkppgipaaDoor
