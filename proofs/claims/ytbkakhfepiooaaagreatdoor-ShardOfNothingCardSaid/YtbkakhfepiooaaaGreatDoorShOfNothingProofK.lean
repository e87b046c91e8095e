/- Lemmas and contracts of this proof. Conditions: said at each. -/
import Derived.Test.YtbkakhfepiooaaaGreatDoorProg
import Derived.Test.YtbkakhfepiooaaaGreatDoorRows
import Derived.ProofKit
import Derived.JoinedCond
namespace Go.Proofs.YtbkakhfepiooaaaGreatDoor.ShardOfNothingP
open Go Go.RowKit

theorem clA : (Rows.shardOfNothingRow.inPlace == Tryz.pinned.checked.prog.inPlace 3) = true := by kernel_rfl
theorem clB : (Rows.shardOfNothingRow.unfollowed == Tryz.pinned.checked.prog.unfollowed 3) = true := by kernel_rfl
theorem clC : (Rows.shardOfNothingRow.recurses == Tryz.pinned.checked.prog.recurses 3) = true := by kernel_rfl
theorem clD : (Rows.shardOfNothingRow.named == Tryz.pinned.checked.prog.varsNamed 3) = true := by kernel_rfl
theorem closed : joinedFacts Tryz.pinned.checked.prog 3 Tryz.f3 (OpenSpec.ofChange Rows.shardOfNothingSpec).bare Rows.shardOfNothingRow = true := by
  unfold joinedFacts
  rw [clA, clB, clC, clD]
  kernel_rfl
end Go.Proofs.YtbkakhfepiooaaaGreatDoor.ShardOfNothingP
