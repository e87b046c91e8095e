/-
  A plain row of the call's own: its cells and its stores.
-/
import Derived.Test.YtgboobjmafdieaaSuRow
import Derived.Test.YtgboobjmafdieaaSvMath
namespace Go.Proofs.Ytgboobjmafdieaa
open Go.RowKit Go.Oct Go.Su

theorem Own.cellN {w : World} {e : TypeId} {g n c : Nat} {xs : List Nat} (h : Own w e 1 g n c (vals xs)) {j : Nat} (hj : j < n) : w.cell? ⟨g, j, none⟩ = some (.int .i64 (gn xs j : Nat)) := by
  have hl := h.len
  have hl2 : xs.length = n := by unfold vals at hl; rw [List.length_map, Nat.mul_one] at hl; exact hl
  refine h.cellAt ?_
  unfold vals
  rw [List.getElem?_map, gn_some (by omega)]
  rfl
theorem Own.storedN {w : World} {e : TypeId} {g n c : Nat} {xs : List Nat} (h : Own w e 1 g n c (vals xs)) (j x : Nat) : Own (w.setCell ⟨g, j, none⟩ (.int .i64 (x : Int))) e 1 g n c (vals (xs.set j x)) ∧ Ch (fun k => k = g) w (w.setCell ⟨g, j, none⟩ (.int .i64 (x : Int))) := by
  have := h.stored j (.int .i64 (x : Int))
  unfold vals at *
  rwa [← List.map_set] at this
end Go.Proofs.Ytgboobjmafdieaa
