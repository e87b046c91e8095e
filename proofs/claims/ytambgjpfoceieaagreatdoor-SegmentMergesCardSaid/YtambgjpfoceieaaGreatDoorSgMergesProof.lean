/-
  The law haystacklaw9.SegmentMerges answers true for every input and leaves its arguments as they were; its row, and its card tied to the program's text. Condition: the variables that the row lists start as the program's text lays them (the card's tie, which is given).
-/
import Derived.Test.YtambgjpfoceieaaGreatDoorSgMergesProofB
import Derived.Test.YtambgjpfoceieaaGreatDoorCards
import Derived.Test.YtambgjpfoceieaaGreatDoorTie
import Derived.SevenTiedAt
namespace Go.Proofs.YtambgjpfoceieaaGreatDoor.SegmentMergesP
open Go Go.ChangeShapes Go.WideShapes Go.ChangeAt Go.WideMaps Go.WideElems Go.RowKit Go.Oct Go.Su Go.Sg
theorem card:Rows.SegmentMergesCardSaid :=
 Claim7.holds_tied_plain_at .later [] [.data, .data] true Rows.segmentMergesCard.stood.harness false
  said (fun _ h=>by cases h) (by kernel_rfl) (fun _ h=>by cases h) segmentMerges_row_tie rfl ⟨rfl,rfl⟩ (by kernel_rfl) rfl
  (fun f fn hf hfn=>by
   obtain rfl:f = 6 := Option.some.inj ((show Tryz.prog.funcNamed "haystack/haystacklaw9.SegmentMerges" = some 6 by kernel_rfl).symm.trans hf) |>.symm
   obtain rfl:fn = Tryz.f6 := (Option.some.inj (Tryz.func6.symm.trans hfn)).symm
   exact⟨by kernel_rfl,fun j t ht=>by
    have hm:t ∈ Tryz.f6.params.toList:=by
     rw[Array.mem_toList_iff]
     exact Array.mem_of_getElem? ht
    have hall:(Tryz.f6.params.toList.all fun u=>!Tryz.prog.wantsStandIn u)=true:=by kernel_rfl
    exact (show Tryz.prog.wantsStandIn t=false by simpa using List.all_eq_true.1 hall t hm)⟩)
  (by kernel_rfl)
end Go.Proofs.YtambgjpfoceieaaGreatDoor.SegmentMergesP
namespace Go.Proofs.YtambgjpfoceieaaGreatDoor
theorem segmentMerges_card:Rows.SegmentMergesCardSaid:=SegmentMergesP.card
#print axioms segmentMerges_card
end Go.Proofs.YtambgjpfoceieaaGreatDoor
