/- Lemmas and contracts of this proof. Conditions: said at each. -/
import Derived.Test.YtoolcbaipinloaaDoorQGKpOpen
import Derived.Test.YtoolcbaipinloaaDoorQKpPlays
import Derived.Deep.DeepHandedRow
import Derived.Deep.DeepWitnessRowRef
set_option maxRecDepth 100000
namespace Go.Proofs.YtoolcbaipinloaaDoor.KeepPlaysP
open Go Go.ChangeShapes Go.WideShapes Go.ChangeAt Go.WideMaps Go.WideElems Go.RowKit Go.Oct Go.Su Go.Dk Go.Fr
theorem stpT:∃ f0 f1 f2 f3 f4 f5,StpT Tryd.prog 22 35 3 9 32 5 33 f0 f1 f2 f3 f4 f5 :=
 ⟨_,_,_,_,_,_,⟨Tryd.underlying22,Tryd.underlying35,by kernel_rfl,rfl,rfl,rfl,rfl,rfl,rfl,rfl,rfl,rfl,rfl,rfl,rfl,Tryd.underlying3,Tryd.underlying9,Tryd.underlying32,Tryd.underlying5,Tryd.underlying33,by kernel_rfl,by kernel_rfl,by kernel_rfl,by kernel_rfl,by kernel_rfl,by kernel_rfl,(by rw[show Tryd.prog.bytesOf 9 = 16 by kernel_rfl]; omega)⟩⟩
theorem laid_met (os:Os):laidMet Tryd.prog Rows.keepPlaysUptoRow.laid ((World.doorLaid Tryd.prog 400 os).forCall (fun _ _=>0) ⟨#[],#[.int .i64 0, .slice none 0 0],[]⟩).memory :=
 laidMet_of_run' 8 (by kernel_rfl) (by kernel_rfl)
theorem reads (os:Os) {H:Type} (enc:TypeId×Value→H):∃ places,DataW.whole enc Tryd.prog ((World.doorLaid Tryd.prog 400 os).forCall (fun _ _=>0) ⟨#[],#[.int .i64 0, .slice none 0 0],[]⟩).memory Tryd.f3.params.toList Rows.keepPlaysSpec.vars false #[Value.int .i64 0,Value.slice none 0 0].toList 8=some ([.lit (.int .i64 0), .nil],[],places) :=
 ⟨[],by kernel_rfl⟩
theorem lifted (os:Os) (started:os.Started) (H:Type) (enc:TypeId×Value→H) (F:Stop.Interp) :
  ReturnsInHanded {} Tryd.checked os 3 .any ((Rows.OpenSpec.upto Rows.keepPlaysSpec).preRow enc Tryd.prog Tryd.f3 Rows.keepPlaysUptoRow.domain false Rows.keepPlaysUptoRow.laid) (((Rows.OpenSpec.upto Rows.keepPlaysSpec).at F).post enc Tryd.prog Tryd.f3 false true false false):=by
 obtain⟨places,hx⟩:=reads os enc
 refine returnsInHanded_of_row (C := Tryd.checked) (s:=Rows.OpenSpec.upto Rows.keepPlaysSpec) own started (by kernel_rfl) Tryd.func3
  (witness_row_atRef (enc:=enc) (C := Tryd.checked) false (World.doorLaid Tryd.prog 400 os) #[.int .i64 0, .slice none 0 0] rfl (by kernel_rfl) (by kernel_rfl) (by kernel_rfl)
   (OpenSpec.preRow_of_cond 8 hx (by kernel_rfl) (fun k hk=>by cases hk; kernel_rfl) (by kernel_rfl) (laid_met os))) ?_
 intro W base args ds gs before hval0 hW _ hcond _ hL _ _
 have hk:Rows.uptoSmall H (ds++gs)=true:=hcond _ rfl
 have hval:∀ (j:Nat) t v,Tryd.f3.params[j]? = some t→args[j]? = some v→Value.okWide Tryd.prog W .any base t v:=hval0
 have hW':=hW
 obtain⟨p,q,hA0,hV,rfl,hfz,hnd⟩:=hW
 have hA:DataW.TrodAll enc Tryd.prog W 0 (fun _=>true) true Tryd.f3.params.toList args.toList ds p:=hA0
 rw[Tryd.params3] at hA hval
 have hcalls:Calls Tryd.prog 3 args W fun e w'=>e = .returned (.bool true)∧Ch (fun _=>False) W w':=by
  obtain⟨f0,f1,f2,f3,f4,f5,hT⟩:=stpT
  obtain⟨rfl,rfl⟩:=trodVars_none hV
  obtain⟨v0,v1,d0,d1,p0,p1,rfl,rfl,rfl,h0,h1⟩:=trodAll_two hA
  obtain⟨z0,rfl,rfl,rfl,w0⟩:=open_int Tryd.underlying3 (hval 0 3 v0 rfl rfl) h0
  obtain⟨A1,n1,c1,x1,rfl,hs1,hl1,hm1,hok1,hz1⟩:=openu_stps hT (hval 1 22 v1 rfl rfl) (Bk.of hk (j:=1) rfl) h1
  exact keepplays_law x1 A1 n1 c1 z0 W (of_laid hL) hs1 hok1 hz1 (int_of_wf w0)
 have hfn:Rows.keepPlaysSpec.fn H (ds++gs)={ results:=[.lit (.bool true)],args:=ds,vars:=[] }:=by
  obtain⟨rfl,rfl⟩:=trodVars_none hV
  obtain⟨v0,v1,d0,d1,p0,p1,rfl,rfl,rfl,h0,h1⟩:=trodAll_two hA
  rfl
 refine hcalls.mono fun e W' ⟨he,hc⟩=>?_
 subst he
 exact⟨_,rfl,law_post laidOut Tryd.underlying4 hW' rfl hfn rfl (fun t ht=>by
  have hall:(Tryd.f3.params.toList.all fun u => Tryd.prog.readableRec u&&decide (u < Tryd.prog.types.size))=true:=by kernel_rfl
  have h2:=List.all_eq_true.1 hall t ht
  rw[Bool.and_eq_true] at h2
  exact⟨h2.1,of_decide_eq_true h2.2⟩) hc⟩
end Go.Proofs.YtoolcbaipinloaaDoor.KeepPlaysP
