/- Lemmas and contracts of this proof. Conditions: said at each. -/
import Derived.Test.YtoolcbaipinloaaDoorKpApartProofA
namespace Go.Proofs.YtoolcbaipinloaaDoor.KeepApartP
open Go Go.ChangeShapes Go.WideShapes Go.ChangeAt Go.WideMaps Go.WideElems Go.RowKit Go.Oct Go.Su Go.Dk Go.Fr
theorem clA:(Rows.keepApartRow.inPlace == Tryd.pinned.checked.prog.inPlace 6)=true:=by kernel_rfl
theorem clB:(Rows.keepApartRow.unfollowed == Tryd.pinned.checked.prog.unfollowed 6)=true:=by kernel_rfl
theorem clC:(Rows.keepApartRow.recurses == Tryd.pinned.checked.prog.recurses 6)=true:=by kernel_rfl
theorem clD:(Rows.keepApartRow.named == Tryd.pinned.checked.prog.varsNamed 6)=true:=by kernel_rfl
theorem closed:joinedFacts Tryd.pinned.checked.prog 6 Tryd.f6 Rows.keepApartSpec Rows.keepApartRow=true:=by
 unfold joinedFacts
 rw[clA,clB,clC,clD]
 kernel_rfl
theorem said:Rows.KeepApartSaid :=
 OpenClaim.holds_of_wide 6 Tryd.f6 rfl rfl rfl rfl rfl rfl rfl ⟨rfl,rfl,rfl,rfl,rfl⟩ rfl rfl rfl rfl rfl (by kernel_rfl) Tryd.func6 closed
  (of_decide_eq_true (by kernel_rfl)) (by unfold Func.isWrapper; first | (rw[if_pos (by decide +kernel)]; kernel_rfl) | (rw[if_neg (by decide +kernel)]; exact⟨rfl,rfl⟩))
  (fun os started H enc _=>lifted os started H enc)
end Go.Proofs.YtoolcbaipinloaaDoor.KeepApartP
