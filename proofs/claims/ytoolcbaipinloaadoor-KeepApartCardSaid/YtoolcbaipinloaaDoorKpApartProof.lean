/-
  The law haystacklaw11.KeepApart answers true for every input and leaves its arguments as they were; its row, and its card tied to the program's text. Condition: the variables that the row lists start as the program's text lays them (the card's tie, which is given).
-/
import Derived.Test.YtoolcbaipinloaaDoorKpApartProofB
import Derived.Test.YtoolcbaipinloaaDoorCards
import Derived.Test.YtoolcbaipinloaaDoorTie
import Derived.SevenTiedAt
namespace Go.Proofs.YtoolcbaipinloaaDoor.KeepApartP
open Go Go.ChangeShapes Go.WideShapes Go.ChangeAt Go.WideMaps Go.WideElems Go.RowKit Go.Oct Go.Su Go.Dk Go.Fr
theorem card:Rows.KeepApartCardSaid :=
 Claim7.holds_tied_plain_at .later [] [.data] true Rows.keepApartCard.stood.harness false
  said (fun _ h=>by cases h) (by kernel_rfl) (fun _ h=>by cases h) keepApart_row_tie rfl ⟨rfl,rfl⟩ (by kernel_rfl) rfl
  (fun f fn hf hfn=>by
   obtain rfl:f = 6 := Option.some.inj ((show Tryd.prog.funcNamed "haystack/haystacklaw11.KeepApart" = some 6 by kernel_rfl).symm.trans hf) |>.symm
   obtain rfl:fn = Tryd.f6 := (Option.some.inj (Tryd.func6.symm.trans hfn)).symm
   exact⟨by kernel_rfl,fun j t ht=>by
    have hm:t ∈ Tryd.f6.params.toList:=by
     rw[Array.mem_toList_iff]
     exact Array.mem_of_getElem? ht
    have hall:(Tryd.f6.params.toList.all fun u=>!Tryd.prog.wantsStandIn u)=true:=by kernel_rfl
    exact (show Tryd.prog.wantsStandIn t=false by simpa using List.all_eq_true.1 hall t hm)⟩)
  (by kernel_rfl)
end Go.Proofs.YtoolcbaipinloaaDoor.KeepApartP
namespace Go.Proofs.YtoolcbaipinloaaDoor
theorem keepApart_card:Rows.KeepApartCardSaid:=KeepApartP.card
#print axioms keepApart_card
end Go.Proofs.YtoolcbaipinloaaDoor
