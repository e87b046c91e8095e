/- Lemmas and contracts of this proof. Conditions: said at each. -/
import Derived.Test.YtoolcbaipinloaaDoorKpOfNothingProofA
namespace Go.Proofs.YtoolcbaipinloaaDoor.KeepOfNothingP
open Go Go.ChangeShapes Go.WideShapes Go.ChangeAt Go.WideMaps Go.WideElems Go.RowKit Go.Oct Go.Su Go.Dk Go.Fr
theorem clA:(Rows.keepOfNothingRow.inPlace == Tryd.pinned.checked.prog.inPlace 5)=true:=by kernel_rfl
theorem clB:(Rows.keepOfNothingRow.unfollowed == Tryd.pinned.checked.prog.unfollowed 5)=true:=by kernel_rfl
theorem clC:(Rows.keepOfNothingRow.recurses == Tryd.pinned.checked.prog.recurses 5)=true:=by kernel_rfl
theorem clD:(Rows.keepOfNothingRow.named == Tryd.pinned.checked.prog.varsNamed 5)=true:=by kernel_rfl
theorem closed:joinedFacts Tryd.pinned.checked.prog 5 Tryd.f5 Rows.keepOfNothingSpec Rows.keepOfNothingRow=true:=by
 unfold joinedFacts
 rw[clA,clB,clC,clD]
 kernel_rfl
theorem said:Rows.KeepOfNothingSaid :=
 OpenClaim.holds_of_wide 5 Tryd.f5 rfl rfl rfl rfl rfl rfl rfl ⟨rfl,rfl,rfl,rfl,rfl⟩ rfl rfl rfl rfl rfl (by kernel_rfl) Tryd.func5 closed
  (of_decide_eq_true (by kernel_rfl)) (by unfold Func.isWrapper; first | (rw[if_pos (by decide +kernel)]; kernel_rfl) | (rw[if_neg (by decide +kernel)]; exact⟨rfl,rfl⟩))
  (fun os started H enc _=>lifted os started H enc)
end Go.Proofs.YtoolcbaipinloaaDoor.KeepOfNothingP
