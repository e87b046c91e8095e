/-
  Rows of bytes of the call's own. Conditions: none.
-/
import Derived.Test.YtanhnaohmaepoaaSuRow
namespace Go.Proofs.Ytanhnaohmaepoaa
open Go.RowKit Go.Oct Go.Su

theorem Tb : Elem Try.prog 22 5 (.int .u8 0) 1 := ⟨Try.underlying22, by kernel_rfl, rfl⟩
/-- v is a row of the call's own that reads as xs; nothing old has turned. -/
def Fresh (w : World) (v : Value) (xs : List Int) (w' : World) : Prop :=
  w'.ownsRow 0 5 1 v xs.length (xs.map (Value.int .u8)) ∧ (∀ g, v.ownBlock = some g → w.heap.size ≤ g) ∧ Ch (fun _ => False) w w'

theorem Fresh.app {w wr w1 : World} {m : Nat} {v v' : Value} {ys zs : List Int} (h : Fresh w v ys wr) (hg : wr.grownBy w1 v.ownBlock)
    (ho : w1.ownsRow 0 5 1 v' (ys.length + m) (ys.map (Value.int .u8) ++ zs.map (Value.int .u8))) (hb : v'.ownBlock = v.ownBlock ∨ v'.ownBlock = some wr.heap.size) : Fresh w v' (ys ++ zs) w1 := by
  have hl : m = zs.length := by
    have := ho.1
    simp at this
    omega
  subst hl
  refine ⟨by rw [List.map_append, List.length_append]; exact ho, fun g hgg => ?_, h.2.2.grown hg fun k hk => .inr (h.2.1 k hk)⟩
  have hsz := h.2.2.size
  rcases hb with hb | hb
  · exact h.2.1 g (by rw [← hb]; exact hgg)
  · rw [hb] at hgg
    injection hgg with hgg
    omega

theorem Fresh.after {w w0 w' : World} {v : Value} {xs : List Int} (h0 : Ch (fun _ => False) w w0) (h : Fresh w0 v xs w') : Fresh w v xs w' :=
  ⟨h.1, fun g hg => by have := h.2.1 g hg; have := h0.size; omega, h0.trans h.2.2 fun _ _ h => h⟩
end Go.Proofs.Ytanhnaohmaepoaa
