/- Lemmas and contracts of this proof. Conditions: said at each. -/
import Derived.Test.YtoolcbaipinloaaDoorKpPlaysProofA
import Derived.JoinedCond
namespace Go.Proofs.YtoolcbaipinloaaDoor.KeepPlaysP
open Go Go.ChangeShapes Go.WideShapes Go.ChangeAt Go.WideMaps Go.WideElems Go.RowKit Go.Oct Go.Su Go.Dk Go.Fr
theorem clA:(Rows.keepPlaysUptoRow.inPlace == Tryd.pinned.checked.prog.inPlace 3)=true:=by kernel_rfl
theorem clB:(Rows.keepPlaysUptoRow.unfollowed == Tryd.pinned.checked.prog.unfollowed 3)=true:=by kernel_rfl
theorem clC:(Rows.keepPlaysUptoRow.recurses == Tryd.pinned.checked.prog.recurses 3)=true:=by kernel_rfl
theorem clD:(Rows.keepPlaysUptoRow.named == Tryd.pinned.checked.prog.varsNamed 3)=true:=by kernel_rfl
theorem closed:joinedFacts Tryd.pinned.checked.prog 3 Tryd.f3 (Rows.OpenSpec.upto Rows.keepPlaysSpec).bare Rows.keepPlaysUptoRow=true:=by
 unfold joinedFacts
 rw[clA,clB,clC,clD]
 kernel_rfl
theorem said:Rows.KeepPlaysUptoSaid :=
 OpenClaim.holds_of_cond 3 Tryd.f3 rfl rfl rfl rfl rfl rfl rfl ⟨rfl,rfl,rfl,rfl,rfl⟩ rfl rfl rfl rfl rfl (by kernel_rfl) Tryd.func3 closed
  (of_decide_eq_true (by kernel_rfl)) (by unfold Func.isWrapper; first | (rw[if_pos (by decide +kernel)]; kernel_rfl) | (rw[if_neg (by decide +kernel)]; exact⟨rfl,rfl⟩))
  (fun os started H enc _ F=>by rw[OpenClaim.pre_eq_preRow]; exact lifted os started H enc F)
end Go.Proofs.YtoolcbaipinloaaDoor.KeepPlaysP
