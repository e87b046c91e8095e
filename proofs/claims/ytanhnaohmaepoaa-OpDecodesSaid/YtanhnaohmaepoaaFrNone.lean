/-
  An empty row of bytes of the call's own. Conditions: none.
-/
import Derived.Test.YtanhnaohmaepoaaFmFresh
namespace Go.Proofs.Ytanhnaohmaepoaa
open Go.RowKit Go.Oct Go.Su

theorem own_none8 (w : World) : (w.alloc (.cells #[] 5)).ownsRow 0 5 1 (.slice (some ⟨w.heap.size, 0, none⟩) 0 0) 0 [] := World.ownsRow_made w #[] 0 (Nat.zero_le _) (by unfold maxLen; omega) rfl
theorem fresh_none8 (w : World) : Fresh w (.slice (some ⟨w.heap.size, 0, none⟩) 0 0) [] (w.alloc (.cells #[] 5)) := ⟨own_none8 w, fun g hg => by simp [Value.ownBlock] at hg; omega, (Ch.refl _ _).alloc _⟩
theorem Fresh.app8 {w wr w1 : World} {v v' : Value} {zs : List Int} (h : Fresh w v [] wr) (ho : w1.ownsRow 0 5 1 v' zs.length (zs.map (Value.int .u8))) (hg : wr.grownBy w1 v.ownBlock) (hb : v'.ownBlock = v.ownBlock ∨ v'.ownBlock = some wr.heap.size) : Fresh w v' zs w1 :=
  ⟨ho, fun g hgv => by
    rcases hb with hb | hb
    · exact h.2.1 g (hb ▸ hgv)
    · rw [hb] at hgv
      injection hgv with hgv
      have := h.2.2.size
      omega, h.2.2.grown hg (fun k hk => .inr (h.2.1 k hk))⟩
theorem fresh_none {w w' : World} (h : Ch (fun _ => False) w w') : Fresh w (.slice none 0 0) [] w' := ⟨World.ownsRow_nil _ _ _ _, fun g hg => by simp [Value.ownBlock] at hg, h⟩
end Go.Proofs.Ytanhnaohmaepoaa
