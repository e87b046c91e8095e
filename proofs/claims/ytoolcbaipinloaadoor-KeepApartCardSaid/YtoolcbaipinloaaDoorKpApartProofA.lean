/- Lemmas and contracts of this proof. Conditions: said at each. -/
import Derived.Test.YtoolcbaipinloaaDoorGKpOpen
import Derived.Test.YtoolcbaipinloaaDoorMKpApart
import Derived.Carry
set_option maxRecDepth 100000
namespace Go.Proofs.YtoolcbaipinloaaDoor.KeepApartP
open Go Go.ChangeShapes Go.WideShapes Go.ChangeAt Go.WideMaps Go.WideElems Go.RowKit Go.Oct Go.Su Go.Dk Go.Fr
theorem cells8 : Tryd.prog.cellsOf 5 = 1:=by kernel_rfl
theorem bytes8 : Tryd.prog.bytesOf 5 = 1:=by kernel_rfl
theorem lifted (os:Os) (started:os.Started) (H:Type) (enc:TypeId×Value→H) :
  ReturnsInHanded {} Tryd.checked os 6 .any (fun w args=>(Rows.keepApartSpec.pre enc Tryd.prog Tryd.f6 [] false w args∧laidMetH Tryd.prog laidL w)∧sizedMet enc Tryd.prog Tryd.f6 (OpenSpec.ofChange Rows.keepApartSpec) false w args)
   (Rows.keepApartSpec.post enc Tryd.prog Tryd.f6 false true false false):=by
 refine returnsInHanded_of_change_and (C := Tryd.checked) (X:=fun w _=>laidMetH Tryd.prog laidL w) (fun _ _ _ hh h=>h.of_heap hh) own started (by kernel_rfl) Tryd.func6
  (ChangeSpec.witness_shaped (enc:=enc) (C := Tryd.checked) (os:=os) (X:=fun w _=>laidMetH Tryd.prog laidL w) false (World.doorLaid Tryd.prog 400 os) #[.slice none 0 0, .slice none 0 0, .slice none 0 0, .int .i64 0] 8 rfl (World.shaped_of_RefB (by kernel_rfl) (by kernel_rfl)) (by kernel_rfl) (by kernel_rfl) (by kernel_rfl) (door_met os _)) ?_
 intro W base args ds gs before hval0 hW _ hsz hL _
 have hval:∀ (j:Nat) t v,Tryd.f6.params[j]? = some t→args[j]? = some v→Value.okWide Tryd.prog W .any base t v:=hval0
 have hW':=hW
 obtain⟨p,q,hA0,hV,rfl,hfz,hnd⟩:=hW
 have hA:DataW.TrodAll enc Tryd.prog W 0 (fun _=>true) true Tryd.f6.params.toList args.toList ds p:=hA0
 rw[Tryd.params6] at hA hval
 have hcalls:Calls Tryd.prog 6 args W fun e w'=>e = .returned (.bool true)∧Ch (fun _=>False) W w':=by
  obtain⟨v0,v1,v2,v3,d0,d1,d2,d3,p0,p1,p2,p3,rfl,rfl,rfl,h0,h1,h2,h3⟩:=trodAll_four hA
  obtain⟨A0,n0,c0,x0,rfl,hs0,hl0,hm0,hw0⟩:=open_sl Tryd.underlying32 Tryd.underlying5 cells8 (hval 0 32 v0 rfl rfl) h0
  obtain⟨A1,n1,c1,x1,rfl,hs1,hl1,hm1,hw1⟩:=open_sl Tryd.underlying32 Tryd.underlying5 cells8 (hval 1 32 v1 rfl rfl) h1
  obtain⟨A2,n2,c2,x2,rfl,hs2,hl2,hm2,hw2⟩:=open_sl Tryd.underlying32 Tryd.underlying5 cells8 (hval 2 32 v2 rfl rfl) h2
  obtain⟨z3,rfl,rfl,rfl,w3⟩:=open_int Tryd.underlying3 (hval 3 3 v3 rfl rfl) h3
  have hz0:n0*1≤140737488351232:=by
   have:n0 * Tryd.prog.bytesOf 5 ≤ 140737488351232:=sl_sized Tryd.underlying32 (Wt.of_sized hsz (j:=0) (t := 32) rfl rfl) h0
   rwa[bytes8] at this
  have hz1:n1*1≤140737488351232:=by
   have:n1 * Tryd.prog.bytesOf 5 ≤ 140737488351232:=sl_sized Tryd.underlying32 (Wt.of_sized hsz (j:=1) (t := 32) rfl rfl) h1
   rwa[bytes8] at this
  have hz2:n2*1≤140737488351232:=by
   have:n2 * Tryd.prog.bytesOf 5 ≤ 140737488351232:=sl_sized Tryd.underlying32 (Wt.of_sized hsz (j:=2) (t := 32) rfl rfl) h2
   rwa[bytes8] at this
  exact keepapart_law x0 x1 x2 A0 A1 A2 n0 n1 n2 c0 c1 c2 z3 W (of_laid hL) hs0 hs1 hs2 ⟨hl0,hm0⟩ ⟨hl1,hm1⟩ ⟨hl2,hm2⟩ (by omega) (by omega) (by omega) (int_of_wf w3) (byt_of_wf hw0) (byt_of_wf hw1) (byt_of_wf hw2)
 have hfn:Rows.keepApartSpec.fn H (ds++gs)={ results:=[.lit (.bool true)],args:=ds,vars:=[] }:=by
  obtain⟨rfl,rfl⟩:=trodVars_none hV
  obtain⟨v0,v1,v2,v3,d0,d1,d2,d3,p0,p1,p2,p3,rfl,rfl,rfl,h0,h1,h2,h3⟩:=trodAll_four hA
  rfl
 refine hcalls.mono fun e W' ⟨he,hc⟩=>?_
 subst he
 exact⟨_,rfl,law_post laidOut Tryd.underlying4 hW' rfl hfn rfl (fun t ht=>by
  have hall:(Tryd.f6.params.toList.all fun u => Tryd.prog.readableRec u&&decide (u < Tryd.prog.types.size))=true:=by kernel_rfl
  have h2:=List.all_eq_true.1 hall t ht
  rw[Bool.and_eq_true] at h2
  exact⟨h2.1,of_decide_eq_true h2.2⟩) hc⟩
end Go.Proofs.YtoolcbaipinloaaDoor.KeepApartP
