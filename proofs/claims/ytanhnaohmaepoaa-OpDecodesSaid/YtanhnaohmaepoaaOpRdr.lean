/-
  The document's Reader as it is made; what a state's length is. Conditions: none.
-/
import Derived.Test.YtanhnaohmaepoaaOpW
import Derived.Test.YtanhnaohmaepoaaSgParse
namespace Go.Proofs.Ytanhnaohmaepoaa
open Go.RowKit Go.Oct Go.Su Go.Sg Go.Om

section
variable {Q : Nat → Prop}
theorem rf_made {w : World} {A : Option Addr} {n c : Nat} {xs : List Int} {F : Nat → Prop} (hz : Sl w F .u8 A n xs) (hby : Byt xs) (hnc : n ≤ c) (hc : c ≤ maxLen) : O.Rf (fun b => b < w.heap.size) (w.alloc (.cells #[.slice A n c, .bool false] 76)) w.heap.size false xs := by
  refine ⟨A, n, c, heap_alloc_new w _, ?_, hnc, by unfold maxLen at hc; omega, hby, fun h => by simp at h⟩
  refine Sl.alloc (hz.mono fun b hb _ => ?_) _
  exact ⟨by omega, hb⟩
theorem nst_len (s : Bool × List Int) : ∀ k, (nst s k).2.length ≤ s.2.length
  | 0 => Nat.le_refl _
  | k + 1 => Nat.le_trans (nr_len _) (nst_len s k)
end
end Go.Proofs.Ytanhnaohmaepoaa
