/-
  The law haystacklaw9.SegmentParts answers true for every input and leaves its arguments as they were; its row, and its card tied to the program's text. Condition: the variables that the row lists start as the program's text lays them (the card's tie, which is given).
-/
import Derived.Test.YtambgjpfoceieaaGreatDoorSgPartsProofB
import Derived.Test.YtambgjpfoceieaaGreatDoorCards
import Derived.Test.YtambgjpfoceieaaGreatDoorTie
import Derived.SevenTiedAt
namespace Go.Proofs.YtambgjpfoceieaaGreatDoor.SegmentPartsP
open Go Go.ChangeShapes Go.WideShapes Go.ChangeAt Go.WideMaps Go.WideElems Go.RowKit Go.Oct Go.Su Go.Sg
theorem card:Rows.SegmentPartsCardSaid :=
 Claim7.holds_tied_plain_at .later [] [.data, .data] true Rows.segmentPartsCard.stood.harness false
  said (fun _ h=>by cases h) (by kernel_rfl) (fun _ h=>by cases h) segmentParts_row_tie rfl ⟨rfl,rfl⟩ (by kernel_rfl) rfl
  (fun f fn hf hfn=>by
   obtain rfl:f = 7 := Option.some.inj ((show Tryz.prog.funcNamed "haystack/haystacklaw9.SegmentParts" = some 7 by kernel_rfl).symm.trans hf) |>.symm
   obtain rfl:fn = Tryz.f7 := (Option.some.inj (Tryz.func7.symm.trans hfn)).symm
   exact⟨by kernel_rfl,fun j t ht=>by
    have hm:t ∈ Tryz.f7.params.toList:=by
     rw[Array.mem_toList_iff]
     exact Array.mem_of_getElem? ht
    have hall:(Tryz.f7.params.toList.all fun u=>!Tryz.prog.wantsStandIn u)=true:=by kernel_rfl
    exact (show Tryz.prog.wantsStandIn t=false by simpa using List.all_eq_true.1 hall t hm)⟩)
  (by kernel_rfl)
end Go.Proofs.YtambgjpfoceieaaGreatDoor.SegmentPartsP
namespace Go.Proofs.YtambgjpfoceieaaGreatDoor
theorem segmentParts_card:Rows.SegmentPartsCardSaid:=SegmentPartsP.card
#print axioms segmentParts_card
end Go.Proofs.YtambgjpfoceieaaGreatDoor
