/- Lemmas and contracts of this proof. Conditions: said at each. -/
import Derived.Test.YtambgjpfoceieaaGreatDoorSgOrderProofA
namespace Go.Proofs.YtambgjpfoceieaaGreatDoor.SegmentOrderP
open Go Go.ChangeShapes Go.WideShapes Go.ChangeAt Go.WideMaps Go.WideElems Go.RowKit Go.Oct Go.Su Go.Sg
theorem clA:(Rows.segmentOrderRow.inPlace == Tryz.pinned.checked.prog.inPlace 10)=true:=by kernel_rfl
theorem clB:(Rows.segmentOrderRow.unfollowed == Tryz.pinned.checked.prog.unfollowed 10)=true:=by kernel_rfl
theorem clC:(Rows.segmentOrderRow.recurses == Tryz.pinned.checked.prog.recurses 10)=true:=by kernel_rfl
theorem clD:(Rows.segmentOrderRow.named == Tryz.pinned.checked.prog.varsNamed 10)=true:=by kernel_rfl
theorem closed:joinedFacts Tryz.pinned.checked.prog 10 Tryz.f10 Rows.segmentOrderSpec Rows.segmentOrderRow=true:=by
 unfold joinedFacts
 rw[clA,clB,clC,clD]
 kernel_rfl
theorem said:Rows.SegmentOrderSaid :=
 OpenClaim.holds_of_wide 10 Tryz.f10 rfl rfl rfl rfl rfl rfl rfl ⟨rfl,rfl,rfl,rfl,rfl⟩ rfl rfl rfl rfl rfl (by kernel_rfl) Tryz.func10 closed
  (of_decide_eq_true (by kernel_rfl)) (by unfold Func.isWrapper; first | (rw[if_pos (by decide +kernel)]; kernel_rfl) | (rw[if_neg (by decide +kernel)]; exact⟨rfl,rfl⟩))
  (fun os started H enc _=>lifted os started H enc)
end Go.Proofs.YtambgjpfoceieaaGreatDoor.SegmentOrderP
