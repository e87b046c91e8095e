/- Lemmas and contracts of this proof. Conditions: said at each. -/
import Derived.Test.YtambgjpfoceieaaGreatDoorSgOfNothingProofA
namespace Go.Proofs.YtambgjpfoceieaaGreatDoor.SegmentOfNothingP
open Go Go.ChangeShapes Go.WideShapes Go.ChangeAt Go.WideMaps Go.WideElems Go.RowKit Go.Oct Go.Su Go.Sg
theorem clA:(Rows.segmentOfNothingRow.inPlace == Tryz.pinned.checked.prog.inPlace 9)=true:=by kernel_rfl
theorem clB:(Rows.segmentOfNothingRow.unfollowed == Tryz.pinned.checked.prog.unfollowed 9)=true:=by kernel_rfl
theorem clC:(Rows.segmentOfNothingRow.recurses == Tryz.pinned.checked.prog.recurses 9)=true:=by kernel_rfl
theorem clD:(Rows.segmentOfNothingRow.named == Tryz.pinned.checked.prog.varsNamed 9)=true:=by kernel_rfl
theorem closed:joinedFacts Tryz.pinned.checked.prog 9 Tryz.f9 Rows.segmentOfNothingSpec Rows.segmentOfNothingRow=true:=by
 unfold joinedFacts
 rw[clA,clB,clC,clD]
 kernel_rfl
theorem said:Rows.SegmentOfNothingSaid :=
 OpenClaim.holds_of_wide 9 Tryz.f9 rfl rfl rfl rfl rfl rfl rfl ⟨rfl,rfl,rfl,rfl,rfl⟩ rfl rfl rfl rfl rfl (by kernel_rfl) Tryz.func9 closed
  (of_decide_eq_true (by kernel_rfl)) (by unfold Func.isWrapper; first | (rw[if_pos (by decide +kernel)]; kernel_rfl) | (rw[if_neg (by decide +kernel)]; exact⟨rfl,rfl⟩))
  (fun os started H enc _=>lifted os started H enc)
end Go.Proofs.YtambgjpfoceieaaGreatDoor.SegmentOfNothingP
