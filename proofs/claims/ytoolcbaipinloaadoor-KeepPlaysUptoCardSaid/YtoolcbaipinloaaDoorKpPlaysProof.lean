/-
  The law haystacklaw11.KeepPlays answers true for every input that is of bulk at most 1048576 and leaves its arguments as they were; its row's second form, and its card tied to the program's text. Conditions: the bound on the input's bulk; the variable that the row lists starts as the program's text lays it (the card's tie, which is given).
-/
import Derived.Test.YtoolcbaipinloaaDoorKpPlaysProofB
import Derived.Test.YtoolcbaipinloaaDoorCards
import Derived.Test.YtoolcbaipinloaaDoorTie
import Derived.SevenTiedAt
namespace Go.Proofs.YtoolcbaipinloaaDoor.KeepPlaysP
open Go Go.ChangeShapes Go.WideShapes Go.ChangeAt Go.WideMaps Go.WideElems Go.RowKit Go.Oct Go.Su Go.Dk Go.Fr
theorem card:Rows.KeepPlaysUptoCardSaid :=
 Claim7.holds_tied_plain_at .later [] [.data] true Rows.keepPlaysUptoCard.stood.harness false
  said (fun _ h=>by cases h) (by kernel_rfl) (fun _ h=>by cases h) keepPlaysUpto_row_tie rfl ⟨rfl,rfl⟩ (by kernel_rfl) rfl
  (fun f fn hf hfn=>by
   obtain rfl:f = 3 := Option.some.inj ((show Tryd.prog.funcNamed "haystack/haystacklaw11.KeepPlays" = some 3 by kernel_rfl).symm.trans hf) |>.symm
   obtain rfl:fn = Tryd.f3 := (Option.some.inj (Tryd.func3.symm.trans hfn)).symm
   exact⟨by kernel_rfl,fun j t ht=>by
    have hm:t ∈ Tryd.f3.params.toList:=by
     rw[Array.mem_toList_iff]
     exact Array.mem_of_getElem? ht
    have hall:(Tryd.f3.params.toList.all fun u=>!Tryd.prog.wantsStandIn u)=true:=by kernel_rfl
    exact (show Tryd.prog.wantsStandIn t=false by simpa using List.all_eq_true.1 hall t hm)⟩)
  (by kernel_rfl)
end Go.Proofs.YtoolcbaipinloaaDoor.KeepPlaysP
namespace Go.Proofs.YtoolcbaipinloaaDoor
theorem keepPlaysUpto_card:Rows.KeepPlaysUptoCardSaid:=KeepPlaysP.card
#print axioms keepPlaysUpto_card
end Go.Proofs.YtoolcbaipinloaaDoor
