/-
  The law haystacklaw9.SegmentOfNothing answers true for every input and leaves its arguments as they were; its row, and its card tied to the program's text. Condition: the variables that the row lists start as the program's text lays them (the card's tie, which is given).
-/
import Derived.Test.YtambgjpfoceieaaGreatDoorSgOfNothingProofB
import Derived.Test.YtambgjpfoceieaaGreatDoorCards
import Derived.Test.YtambgjpfoceieaaGreatDoorTie
import Derived.SevenTiedAt
namespace Go.Proofs.YtambgjpfoceieaaGreatDoor.SegmentOfNothingP
open Go Go.ChangeShapes Go.WideShapes Go.ChangeAt Go.WideMaps Go.WideElems Go.RowKit Go.Oct Go.Su Go.Sg
theorem card:Rows.SegmentOfNothingCardSaid :=
 Claim7.holds_tied_plain_at .later [] [.data, .data] true Rows.segmentOfNothingCard.stood.harness false
  said (fun _ h=>by cases h) (by kernel_rfl) (fun _ h=>by cases h) segmentOfNothing_row_tie rfl ⟨rfl,rfl⟩ (by kernel_rfl) rfl
  (fun f fn hf hfn=>by
   obtain rfl:f = 9 := Option.some.inj ((show Tryz.prog.funcNamed "haystack/haystacklaw9.SegmentOfNothing" = some 9 by kernel_rfl).symm.trans hf) |>.symm
   obtain rfl:fn = Tryz.f9 := (Option.some.inj (Tryz.func9.symm.trans hfn)).symm
   exact⟨by kernel_rfl,fun j t ht=>by
    have hm:t ∈ Tryz.f9.params.toList:=by
     rw[Array.mem_toList_iff]
     exact Array.mem_of_getElem? ht
    have hall:(Tryz.f9.params.toList.all fun u=>!Tryz.prog.wantsStandIn u)=true:=by kernel_rfl
    exact (show Tryz.prog.wantsStandIn t=false by simpa using List.all_eq_true.1 hall t hm)⟩)
  (by kernel_rfl)
end Go.Proofs.YtambgjpfoceieaaGreatDoor.SegmentOfNothingP
namespace Go.Proofs.YtambgjpfoceieaaGreatDoor
theorem segmentOfNothing_card:Rows.SegmentOfNothingCardSaid:=SegmentOfNothingP.card
#print axioms segmentOfNothing_card
end Go.Proofs.YtambgjpfoceieaaGreatDoor
