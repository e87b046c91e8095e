/- Lemmas and contracts of this proof. Conditions: said at each. -/
import Derived.Test.YtbkakhfepiooaaaGreatDoorProg
import Derived.Test.YtbkakhfepiooaaaGreatDoorRows
import Derived.ProofKit
import Derived.JoinedCond
namespace Go.Proofs.YtbkakhfepiooaaaGreatDoor.ShardOnceP
open Go Go.RowKit

theorem clA : (Rows.shardOnceRow.inPlace == Tryz.pinned.checked.prog.inPlace 4) = true := by kernel_rfl
theorem clB : (Rows.shardOnceRow.unfollowed == Tryz.pinned.checked.prog.unfollowed 4) = true := by kernel_rfl
theorem clC : (Rows.shardOnceRow.recurses == Tryz.pinned.checked.prog.recurses 4) = true := by kernel_rfl
theorem clD : (Rows.shardOnceRow.named == Tryz.pinned.checked.prog.varsNamed 4) = true := by kernel_rfl
theorem closed : joinedFacts Tryz.pinned.checked.prog 4 Tryz.f4 (OpenSpec.ofChange Rows.shardOnceSpec).bare Rows.shardOnceRow = true := by
  unfold joinedFacts
  rw [clA, clB, clC, clD]
  kernel_rfl
end Go.Proofs.YtbkakhfepiooaaaGreatDoor.ShardOnceP
