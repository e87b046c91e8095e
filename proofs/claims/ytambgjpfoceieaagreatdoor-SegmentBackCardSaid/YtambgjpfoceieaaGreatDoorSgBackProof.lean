/-
  The law haystacklaw9.SegmentBack answers true for every input and leaves its arguments as they were; its row, and its card tied to the program's text. Condition: the variables that the row lists start as the program's text lays them (the card's tie, which is given).
-/
import Derived.Test.YtambgjpfoceieaaGreatDoorSgBackProofB
import Derived.Test.YtambgjpfoceieaaGreatDoorCards
import Derived.Test.YtambgjpfoceieaaGreatDoorTie
import Derived.SevenTiedAt
namespace Go.Proofs.YtambgjpfoceieaaGreatDoor.SegmentBackP
open Go Go.ChangeShapes Go.WideShapes Go.ChangeAt Go.WideMaps Go.WideElems Go.RowKit Go.Oct Go.Su Go.Sg
theorem card:Rows.SegmentBackCardSaid :=
 Claim7.holds_tied_plain_at .later [] [.data, .data] true Rows.segmentBackCard.stood.harness false
  said (fun _ h=>by cases h) (by kernel_rfl) (fun _ h=>by cases h) segmentBack_row_tie rfl ⟨rfl,rfl⟩ (by kernel_rfl) rfl
  (fun f fn hf hfn=>by
   obtain rfl:f = 4 := Option.some.inj ((show Tryz.prog.funcNamed "haystack/haystacklaw9.SegmentBack" = some 4 by kernel_rfl).symm.trans hf) |>.symm
   obtain rfl:fn = Tryz.f4 := (Option.some.inj (Tryz.func4.symm.trans hfn)).symm
   exact⟨by kernel_rfl,fun j t ht=>by
    have hm:t ∈ Tryz.f4.params.toList:=by
     rw[Array.mem_toList_iff]
     exact Array.mem_of_getElem? ht
    have hall:(Tryz.f4.params.toList.all fun u=>!Tryz.prog.wantsStandIn u)=true:=by kernel_rfl
    exact (show Tryz.prog.wantsStandIn t=false by simpa using List.all_eq_true.1 hall t hm)⟩)
  (by kernel_rfl)
end Go.Proofs.YtambgjpfoceieaaGreatDoor.SegmentBackP
namespace Go.Proofs.YtambgjpfoceieaaGreatDoor
theorem segmentBack_card:Rows.SegmentBackCardSaid:=SegmentBackP.card
#print axioms segmentBack_card
end Go.Proofs.YtambgjpfoceieaaGreatDoor
