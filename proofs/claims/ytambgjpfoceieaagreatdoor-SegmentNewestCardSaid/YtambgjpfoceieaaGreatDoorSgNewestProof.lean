/-
  The law haystacklaw9.SegmentNewest answers true for every input and leaves its arguments as they were; its row, and its card tied to the program's text. Condition: the variables that the row lists start as the program's text lays them (the card's tie, which is given).
-/
import Derived.Test.YtambgjpfoceieaaGreatDoorSgNewestProofB
import Derived.Test.YtambgjpfoceieaaGreatDoorCards
import Derived.Test.YtambgjpfoceieaaGreatDoorTie
import Derived.SevenTiedAt
namespace Go.Proofs.YtambgjpfoceieaaGreatDoor.SegmentNewestP
open Go Go.ChangeShapes Go.WideShapes Go.ChangeAt Go.WideMaps Go.WideElems Go.RowKit Go.Oct Go.Su Go.Sg
theorem card:Rows.SegmentNewestCardSaid :=
 Claim7.holds_tied_plain_at .later [] [.data] true Rows.segmentNewestCard.stood.harness false
  said (fun _ h=>by cases h) (by kernel_rfl) (fun _ h=>by cases h) segmentNewest_row_tie rfl ⟨rfl,rfl⟩ (by kernel_rfl) rfl
  (fun f fn hf hfn=>by
   obtain rfl:f = 11 := Option.some.inj ((show Tryz.prog.funcNamed "haystack/haystacklaw9.SegmentNewest" = some 11 by kernel_rfl).symm.trans hf) |>.symm
   obtain rfl:fn = Tryz.f11 := (Option.some.inj (Tryz.func11.symm.trans hfn)).symm
   exact⟨by kernel_rfl,fun j t ht=>by
    have hm:t ∈ Tryz.f11.params.toList:=by
     rw[Array.mem_toList_iff]
     exact Array.mem_of_getElem? ht
    have hall:(Tryz.f11.params.toList.all fun u=>!Tryz.prog.wantsStandIn u)=true:=by kernel_rfl
    exact (show Tryz.prog.wantsStandIn t=false by simpa using List.all_eq_true.1 hall t hm)⟩)
  (by kernel_rfl)
end Go.Proofs.YtambgjpfoceieaaGreatDoor.SegmentNewestP
namespace Go.Proofs.YtambgjpfoceieaaGreatDoor
theorem segmentNewest_card:Rows.SegmentNewestCardSaid:=SegmentNewestP.card
#print axioms segmentNewest_card
end Go.Proofs.YtambgjpfoceieaaGreatDoor
