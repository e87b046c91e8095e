/- Lemmas and contracts of this proof. Conditions: said at each. -/
import Derived.Test.YtoolcbaipinloaaDoorQGKpClr
set_option maxHeartbeats 8000000
set_option maxRecDepth 100000
namespace Go.Proofs.YtoolcbaipinloaaDoor
open Go.RowKit Go.Oct Go.Su Go.Dk Go.Maps
section
variable {w w' w2:World} {h h' h2:Nat→Rt} {us vs:List Value} {fs gs:Fs} {S F:Nat→Prop} {x y:Fl} {k:Key} {d:Nat} {s:Ds}
theorem rcrash_any (H:Rdk w h d s) (n:Int) (hn : -9223372036854775808≤n∧n≤9223372036854775807):Calls Tryd.prog 19 #[pv d, .int .i64 n] w fun e w'=>e = .returned (.tuple #[])∧∃ h',Rdk w' h' d (opCrash s n)∧Rgo w h w' h':=by
 have hp:pv d = .pointer (some ⟨d,0,none⟩):=rfl
 have HH:=Bx.mk H
 obtain⟨D,hD⟩:∃ D:Nat,n.toNat=D:=⟨_,rfl⟩
 have hD9:D≤9223372036854775807:=by omega
 have HOP:Bx ((⟨s.room,s.fs.map (crashF D),none⟩:Ds)=opCrash s n):=⟨by unfold opCrash; rw[hD]⟩
 have hmost:=H.ok.most
 have HOK:=Bx.mk H.ok
 obtain⟨nn,hnn⟩:∃ n,s.fs.length=n:=⟨_,rfl⟩
 have HN:=Bx.mk hnn
 rw[hnn] at hmost
 have hmx:max 0 n=(D:Int):=by omega
 rw[hp]
 clear hp H hD hn hnn
 go_enter Tryd.func19,Tryd.ntmps19
 go_wp2_with fail
 go_loopw [4,5,6] (fun i _ _ wr=>∃ (j:Nat) (h':Nat→Rt),j≤nn∧i = .int .i64 j∧Bx (RcLoop w h s D d j wr h')) (fun i _ _ _=>nn-(intOf i).toNat)
 case atStart=>exact⟨0,h,Nat.zero_le _,rfl,⟨⟨by rw[crT_zero]; exact HH.out,Rgo.refl _ _⟩⟩⟩
 case round =>
  obtain⟨j,h',hj,rfl,hR⟩:=hrel
  obtain⟨wo,rfl⟩:∃ wo:World,wo=wr:=⟨_,rfl⟩
  by_cases hlt:j<nn
  ·have dk:decide ((j:Int)<(nn:Int))=true:=decide_eq_true (by omega)
   have dk':decide (j<nn)=true:=decide_eq_true hlt
   obtain⟨x,hx⟩:∃ x,s.fs[j]? = some x:=⟨_,List.getElem?_eq_getElem (by rw[HN.out]; exact hlt)⟩
   obtain⟨b,c,A,cc,c1,hnc,hcm,k2,k3,hsl,hcc,hccm,hla,hq9,hcells,hfin⟩:=hR.out.open_ hx HOK.out
   rw[HN.out] at c1 hnc
   have HSL:=Bx.mk hsl
   have HCE:=Bx.mk hcells
   have HFI:=Bx.mk hfin
   obtain⟨q,hq⟩:∃ q,x.bs.length=q:=⟨_,rfl⟩
   obtain⟨la,hla2⟩:∃ la,x.la=la:=⟨_,rfl⟩
   rw[hq] at k2 hla hcc hq9 HSL HCE HFI
   rw[hla2] at k3 hla HCE HFI
   obtain⟨o,ho⟩:∃ o,q-la=o:=⟨_,rfl⟩
   obtain⟨o1,ho1⟩:∃ o1,o+1=o1:=⟨_,rfl⟩
   obtain⟨m,hm⟩:∃ m,D%o1=m:=⟨_,rfl⟩
   obtain⟨z,hz⟩:∃ z,la+m=z:=⟨_,rfl⟩
   have hmo:m<o1:=by rw[←hm]; exact Nat.mod_lt _ (by omega)
   have hzq:z≤q:=by omega
   have hlz:la≤z:=by omega
   have i1:(q:Int)-(la:Int)=(o:Int):=by omega
   have i2:(j:Int)<(nn:Int):=by omega
   have hc9:c≤9223372036854775807:=by unfold maxLen at hcm; omega
   have hcc9:cc≤9223372036854775807:=by unfold maxLen at hccm; omega
   have HST:Bx (stays D x=z):=⟨by unfold stays; rw[hq,hla2,ho,ho1,hm,hz]⟩
   have hb9:o1≤1073741825∧m≤1073741825∧z≤1073741824:=by omega
   have i3:(o:Int)+1=(o1:Int):=by omega
   have i5:Int.tmod (D:Int) (o1:Int)=(m:Int):=by rw[Int.tmod_eq_emod_of_nonneg (by omega)]; omega
   have i6:(la:Int)+(m:Int)=(z:Int):=by omega
   have i7:¬ (o1:Int)=0:=by omega
   have i8:(0:Int)≤(z:Int):=by omega
   have i9:(z:Int)≤(cc:Int):=by omega
   have j8:(D:Int)%(o1:Int)=(m:Int):=by omega
   have j7:¬ o1=0:=by omega
   have HTK:=Bx.mk (HSL.out.take (k:=z) hzq)
   clear hcm hccm hsl hcells hfin hq hla2 ho ho1 hm hz
   go_wp2_with fail
   have j1:IntKind.i64.wrap (o:Int)=(o:Int):=IntWalk.i64_in _ (by omega)
   go_quiet (fail)
   clear j1
   obtain⟨w2,hw2⟩:∃ w2,wo.drewN nq=w2:=⟨_,rfl⟩
   have hc2:Ch (fun _=>False) wo w2:=by rw[←hw2]; exact (Ch.refl _ wo).drewN nq
   rw[hw2]
   have HC2:=Bx.mk hc2
   obtain⟨k2b,k3b,z1b⟩:=HCE.out w2 hc2
   have k2a:=cell_alloc k2b (.cells #[] 5)
   have k3a:=cell_alloc k3b (.cells #[] 5)
   have HTA:Bx (Sl (w2.drew.alloc (.cells #[] 5)) (fun b=>h' b = .by) .u8 A z (x.bs.take z)):=⟨HTK.out.ch ((hc2.drew).alloc _) (fun _ _ _ h=>h)⟩
   have HAP:Bx (∀ v5 w5,World.ownsRow w5 0 5 1 v5 (0+z) ([]++(x.bs.take z).map (Value.int .u8))→(w2.drew.alloc (.cells #[] 5)).grownBy w5 (Value.slice (some ⟨w2.drew.heap.size,0,none⟩) 0 0).ownBlock→(v5.ownBlock=(Value.slice (some ⟨w2.drew.heap.size,0,none⟩) 0 0).ownBlock∨v5.ownBlock=some (w2.drew.alloc (.cells #[] 5)).heap.size) →
     Fresh w2.drew v5 (x.bs.take z) w5∧w5.frozen? ⟨b,j*3+1,none⟩=false∧∃ u,w5.cell? ⟨b,j*3+1,none⟩=some u):=⟨fun v5 w5 h1 h2 h3=>by
    have hF:=(fresh_b0 w2.drew).app (m:=z) (zs:=x.bs.take z) h2 h1 h3
    rw[List.nil_append] at hF
    obtain⟨e1,_,e3⟩:=HCE.out w5 ((HC2.out.drew).trans hF.2.2 (fun _ _ h=>h))
    exact⟨hF,e3,_,e1⟩⟩
   have HCL:=Bx.mk (ints_cells .u8 (x.bs.take z))
   have HOB:=Bx.mk (own_b0 w2.drew)
   clear hw2 hc2 k2 k3 c1
   go_wp2_with fail
   have j3:IntKind.i64.wrap (o1:Int)=(o1:Int):=IntWalk.i64_in _ (by omega)
   have j6:IntKind.i64.wrap (z:Int)=(z:Int):=IntWalk.i64_in _ (by omega)
   have j4:IntKind.i64.wrap (m:Int)=(m:Int):=IntWalk.i64_in _ (by omega)
   go_region_law ((refine step_app rfl (.tmp 35) (.tmp 49) Tb rfl rfl HOB.out rfl HTA.out HCL.out (by omega) (by omega) ?_; intro v5 w5 ho5 hg5 hb5; obtain⟨hF5,z15,u15,k15⟩:=HAP.out v5 w5 ho5 hg5 hb5; obtain⟨A6,c6,rfl,_,_⟩:=own_shape ho5; have HF5:=Bx.mk hF5; clear hF5 ho5 hg5 hb5))
   all_goals
    obtain⟨h2',_,hfin2⟩:=HFI.out z hlz hzq w2.drew (.slice A6 z c6) w5 (HC2.out.drew) (by have h9:=HF5.out; rwa[Nat.zero_add] at h9)
    obtain⟨q1,q2,q3,hl⟩:=hfin2 HST.out A6 c6 rfl
    have HL:=Bx.mk hl
    obtain⟨w6,hw6⟩:∃ w6,w5.setCell ⟨b,j*3+1,none⟩ (.slice A6 z c6)=w6:=⟨_,rfl⟩
    rw[hw6] at q1 q2 q3 HL ⊢
    clear hfin2 hl j3 j6 j4 hw6 k2a k3a k2b k3b z1b z15 k15 i1 i3 i5 i6 i7 i8 i9 j8 j7 hb9 hmx
    go_wp2
    go_roundw
    case rel=>exact⟨j+1,h2',by omega,by go_num,HL⟩
    case measure=>simp[intOf]; omega
  ·obtain rfl:j=nn:=by omega
   have dk:decide ((j:Int)<(j:Int))=false:=decide_eq_false (by omega)
   have dk':decide (j<j)=false:=decide_eq_false (by omega)
   have hd:=hR.out.dsk
   rw[crT_all (by rw[HN.out]; exact Nat.le_refl _)] at hd
   obtain⟨A,c,c1,_,_⟩:=hd.row_len
   have hlen:(Ds.mk s.room (s.fs.map (crashF D)) s.left).fs.length=j:=by rw[←HN.out]; exact List.length_map _
   rw[hlen] at c1
   have c2:=hd.c2
   have z2:=hd.zf 2
   have HS:=Bx.mk (hd.setLeft none (fun n e=>by cases e))
   have HG:=Bx.mk hR.out.go
   have HTG:=Bx.mk hd.tag
   clear hd hR hlen
   go_wp2
   go_returns
   refine⟨rfl,h',?_,HG.out.trans ⟨HS.out.2.mono (fun i _ hi=>by rw[hi,HTG.out]; exact fun e=>by cases e),fun i hi => .inl hi⟩⟩
   rw[←HOP.out]
   exact HS.out.1
end
end Go.Proofs.YtoolcbaipinloaaDoor
