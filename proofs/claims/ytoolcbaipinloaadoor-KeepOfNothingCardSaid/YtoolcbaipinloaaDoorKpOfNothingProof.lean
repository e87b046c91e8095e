/-
  The law haystacklaw11.KeepOfNothing answers true for every input and leaves its arguments as they were; its row, and its card tied to the program's text. Condition: the variables that the row lists start as the program's text lays them (the card's tie, which is given).
-/
import Derived.Test.YtoolcbaipinloaaDoorKpOfNothingProofB
import Derived.Test.YtoolcbaipinloaaDoorCards
import Derived.Test.YtoolcbaipinloaaDoorTie
import Derived.SevenTiedAt
namespace Go.Proofs.YtoolcbaipinloaaDoor.KeepOfNothingP
open Go Go.ChangeShapes Go.WideShapes Go.ChangeAt Go.WideMaps Go.WideElems Go.RowKit Go.Oct Go.Su Go.Dk Go.Fr
theorem card:Rows.KeepOfNothingCardSaid :=
 Claim7.holds_tied_plain_at .later [] [.data] true Rows.keepOfNothingCard.stood.harness false
  said (fun _ h=>by cases h) (by kernel_rfl) (fun _ h=>by cases h) keepOfNothing_row_tie rfl ⟨rfl,rfl⟩ (by kernel_rfl) rfl
  (fun f fn hf hfn=>by
   obtain rfl:f = 5 := Option.some.inj ((show Tryd.prog.funcNamed "haystack/haystacklaw11.KeepOfNothing" = some 5 by kernel_rfl).symm.trans hf) |>.symm
   obtain rfl:fn = Tryd.f5 := (Option.some.inj (Tryd.func5.symm.trans hfn)).symm
   exact⟨by kernel_rfl,fun j t ht=>by
    have hm:t ∈ Tryd.f5.params.toList:=by
     rw[Array.mem_toList_iff]
     exact Array.mem_of_getElem? ht
    have hall:(Tryd.f5.params.toList.all fun u=>!Tryd.prog.wantsStandIn u)=true:=by kernel_rfl
    exact (show Tryd.prog.wantsStandIn t=false by simpa using List.all_eq_true.1 hall t hm)⟩)
  (by kernel_rfl)
end Go.Proofs.YtoolcbaipinloaaDoor.KeepOfNothingP
namespace Go.Proofs.YtoolcbaipinloaaDoor
theorem keepOfNothing_card:Rows.KeepOfNothingCardSaid:=KeepOfNothingP.card
#print axioms keepOfNothing_card
end Go.Proofs.YtoolcbaipinloaaDoor
