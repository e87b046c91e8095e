/- Lemmas and contracts of this proof. Conditions: said at each. -/
import Derived.Test.YtambgjpfoceieaaGreatDoorFmSized
import Derived.Test.YtambgjpfoceieaaGreatDoorSgDecodes
set_option maxRecDepth 100000
namespace Go.Proofs.YtambgjpfoceieaaGreatDoor.SegmentDecodesP
open Go Go.ChangeShapes Go.WideShapes Go.ChangeAt Go.WideMaps Go.WideElems Go.RowKit Go.Oct Go.Su Go.Sg
theorem cells8 : Tryz.prog.cellsOf 5 = 1:=by kernel_rfl
theorem bytes8 : Tryz.prog.bytesOf 5 = 1:=by kernel_rfl
theorem lifted (os:Os) (started:os.Started) (H:Type) (enc:TypeId×Value→H) :
  ReturnsInHanded {} Tryz.checked os 5 .any (fun w args=>(Rows.segmentDecodesSpec.pre enc Tryz.prog Tryz.f5 [] false w args∧laidMetH Tryz.prog laidL w)∧sizedMet enc Tryz.prog Tryz.f5 (OpenSpec.ofChange Rows.segmentDecodesSpec) false w args)
   (Rows.segmentDecodesSpec.post enc Tryz.prog Tryz.f5 false true false false):=by
 refine returnsInHanded_of_change_and (C := Tryz.checked) (X:=fun w _=>laidMetH Tryz.prog laidL w) (fun _ _ _ hh h=>h.of_heap hh) own started (by kernel_rfl) Tryz.func5
  (ChangeSpec.witness_shaped (enc:=enc) (C := Tryz.checked) (os:=os) (X:=fun w _=>laidMetH Tryz.prog laidL w) false (World.doorLaid Tryz.prog 400 os) #[.slice none 0 0, .slice none 0 0] 8 rfl (World.shaped_of_RefB (by kernel_rfl) (by kernel_rfl)) (by kernel_rfl) (by kernel_rfl) (by kernel_rfl) (door_met os _)) ?_
 intro W base args ds gs before hval0 hW _ hsz hL _
 have hval:∀ (j:Nat) t v,Tryz.f5.params[j]? = some t→args[j]? = some v→Value.okWide Tryz.prog W .any base t v:=hval0
 have hW':=hW
 obtain⟨p,q,hA0,hV,rfl,hfz,hnd⟩:=hW
 have hA:DataW.TrodAll enc Tryz.prog W 0 (fun _=>true) true Tryz.f5.params.toList args.toList ds p:=hA0
 rw[Tryz.params5] at hA hval
 have hcalls:Calls Tryz.prog 5 args W fun e w'=>e = .returned (.bool true)∧Ch (fun _=>False) W w':=by
  obtain⟨v0,v1,d0,d1,p0,p1,rfl,rfl,rfl,h0,h1⟩:=trodAll_two hA
  obtain⟨A0,n0,c0,x0,rfl,hs0,hl0,hm0,hw0⟩:=open_sl Tryz.underlying26 Tryz.underlying5 cells8 (hval 0 26 v0 rfl rfl) h0
  obtain⟨A1,n1,c1,x1,rfl,hs1,hl1,hm1,hw1⟩:=open_sl Tryz.underlying26 Tryz.underlying5 cells8 (hval 1 26 v1 rfl rfl) h1
  have hz0:n0*1≤140737488351232:=by
   have:n0 * Tryz.prog.bytesOf 5 ≤ 140737488351232:=Go.Wa.slice_sized (j:=0) hsz rfl rfl Tryz.underlying26 h0
   rwa[bytes8] at this
  have hz1:n1*1≤140737488351232:=by
   have:n1 * Tryz.prog.bytesOf 5 ≤ 140737488351232:=Go.Wa.slice_sized (j:=1) hsz rfl rfl Tryz.underlying26 h1
   rwa[bytes8] at this
  exact decodes_law x0 x1 A0 A1 n0 c0 n1 c1 W hs0 (byt_of_wf hw0) hl0 hm0 hs1 (byt_of_wf hw1) (by omega) (of_laid hL).1 (of_laid hL).2
 have hfn:Rows.segmentDecodesSpec.fn H (ds++gs)={ results:=[.lit (.bool true)],args:=ds,vars:=[] }:=by
  obtain⟨rfl,rfl⟩:=trodVars_none hV
  obtain⟨v0,v1,d0,d1,p0,p1,rfl,rfl,rfl,h0,h1⟩:=trodAll_two hA
  rfl
 refine hcalls.mono fun e W' ⟨he,hc⟩=>?_
 subst he
 exact⟨_,rfl,law_post laidOut Tryz.underlying4 hW' rfl hfn rfl (fun t ht=>by
  have hall:(Tryz.f5.params.toList.all fun u => Tryz.prog.readableRec u&&decide (u < Tryz.prog.types.size))=true:=by kernel_rfl
  have h2:=List.all_eq_true.1 hall t ht
  rw[Bool.and_eq_true] at h2
  exact⟨h2.1,of_decide_eq_true h2.2⟩) hc⟩
end Go.Proofs.YtambgjpfoceieaaGreatDoor.SegmentDecodesP
