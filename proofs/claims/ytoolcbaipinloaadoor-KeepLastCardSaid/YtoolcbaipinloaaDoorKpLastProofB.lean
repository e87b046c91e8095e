/- Lemmas and contracts of this proof. Conditions: said at each. -/
import Derived.Test.YtoolcbaipinloaaDoorKpLastProofA
namespace Go.Proofs.YtoolcbaipinloaaDoor.KeepLastP
open Go Go.ChangeShapes Go.WideShapes Go.ChangeAt Go.WideMaps Go.WideElems Go.RowKit Go.Oct Go.Su Go.Dk Go.Fr
theorem clA:(Rows.keepLastRow.inPlace == Tryd.pinned.checked.prog.inPlace 4)=true:=by kernel_rfl
theorem clB:(Rows.keepLastRow.unfollowed == Tryd.pinned.checked.prog.unfollowed 4)=true:=by kernel_rfl
theorem clC:(Rows.keepLastRow.recurses == Tryd.pinned.checked.prog.recurses 4)=true:=by kernel_rfl
theorem clD:(Rows.keepLastRow.named == Tryd.pinned.checked.prog.varsNamed 4)=true:=by kernel_rfl
theorem closed:joinedFacts Tryd.pinned.checked.prog 4 Tryd.f4 Rows.keepLastSpec Rows.keepLastRow=true:=by
 unfold joinedFacts
 rw[clA,clB,clC,clD]
 kernel_rfl
theorem said:Rows.KeepLastSaid :=
 OpenClaim.holds_of_wide 4 Tryd.f4 rfl rfl rfl rfl rfl rfl rfl ⟨rfl,rfl,rfl,rfl,rfl⟩ rfl rfl rfl rfl rfl (by kernel_rfl) Tryd.func4 closed
  (of_decide_eq_true (by kernel_rfl)) (by unfold Func.isWrapper; first | (rw[if_pos (by decide +kernel)]; kernel_rfl) | (rw[if_neg (by decide +kernel)]; exact⟨rfl,rfl⟩))
  (fun os started H enc _=>lifted os started H enc)
end Go.Proofs.YtoolcbaipinloaaDoor.KeepLastP
