/- Lemmas and contracts of this proof. Conditions: said at each. -/
import Derived.Test.YtambgjpfoceieaaGreatDoorSgMakesProofA
namespace Go.Proofs.YtambgjpfoceieaaGreatDoor.SegmentMakesP
open Go Go.ChangeShapes Go.WideShapes Go.ChangeAt Go.WideMaps Go.WideElems Go.RowKit Go.Oct Go.Su Go.Sg
theorem clA:(Rows.segmentMakesRow.inPlace == Tryz.pinned.checked.prog.inPlace 3)=true:=by kernel_rfl
theorem clB:(Rows.segmentMakesRow.unfollowed == Tryz.pinned.checked.prog.unfollowed 3)=true:=by kernel_rfl
theorem clC:(Rows.segmentMakesRow.recurses == Tryz.pinned.checked.prog.recurses 3)=true:=by kernel_rfl
theorem clD:(Rows.segmentMakesRow.named == Tryz.pinned.checked.prog.varsNamed 3)=true:=by kernel_rfl
theorem closed:joinedFacts Tryz.pinned.checked.prog 3 Tryz.f3 Rows.segmentMakesSpec Rows.segmentMakesRow=true:=by
 unfold joinedFacts
 rw[clA,clB,clC,clD]
 kernel_rfl
theorem said:Rows.SegmentMakesSaid :=
 OpenClaim.holds_of_wide 3 Tryz.f3 rfl rfl rfl rfl rfl rfl rfl ⟨rfl,rfl,rfl,rfl,rfl⟩ rfl rfl rfl rfl rfl (by kernel_rfl) Tryz.func3 closed
  (of_decide_eq_true (by kernel_rfl)) (by unfold Func.isWrapper; first | (rw[if_pos (by decide +kernel)]; kernel_rfl) | (rw[if_neg (by decide +kernel)]; exact⟨rfl,rfl⟩))
  (fun os started H enc _=>lifted os started H enc)
end Go.Proofs.YtambgjpfoceieaaGreatDoor.SegmentMakesP
