/- Lemmas and contracts of this proof. Conditions: said at each. -/
import Derived.Test.YtambgjpfoceieaaGreatDoorSgSwap
set_option maxHeartbeats 16000000
set_option maxRecDepth 100000
namespace Go.Proofs.YtambgjpfoceieaaGreatDoor
open Go.RowKit Go.Oct Go.Su Go.Sg Go.Fr
theorem low1023 (x:Int):∃ a:Nat,bits .and .i64 x 1023=(a:Int)∧a<1024:=by
 refine⟨(x%((1024:Nat):Int)).toNat,sg_and_low x 10 (by decide),?_⟩
 have:=Int.emod_lt_of_pos x (show (0:Int)<((1024:Nat):Int) by omega)
 have:=Int.emod_nonneg x (show ((1024:Nat):Int)≠0 by omega)
 omega
theorem tmod_of (a n:Nat):(a:Int).tmod (n:Int)=((a%n:Nat):Int):=by
 rw[Int.tmod_eq_emod_of_nonneg (by omega),Int.natCast_emod]
theorem rem_two {a n d:Nat} (h:a%n=d):(a:Int)%(n:Int)=(d:Int)∧(a:Int).tmod (n:Int)=(d:Int):=by
 rw[tmod_of,h]
 exact⟨by rw[←h,Int.natCast_emod],rfl⟩
theorem order_law (s:Go.Sg.St) (cs:List Value) (zs:List Int) (Z:Option Addr) (m e:Nat) (w:World) (hE:SetE w (fun _=>True) cs s) (hok:SetOk s) (hx:Sl w (fun _=>True) .i64 Z m zs) (ho:O.Tab w) (hw:W.Tab w) :
  Calls Tryz.prog 10 #[.agg cs.toArray, .slice Z m e] w fun e w'=>e = .returned (.bool true)∧Ch (fun _=>False) w w':=by
 obtain⟨ds,gs⟩:=s
 obtain⟨A,c,B,d,rfl,hz,hg,h1,h2,h3,h4⟩:=hE
 simp only at hz hg h1 h3
 obtain⟨n,hn⟩:∃ n,ds.length=n:=⟨_,rfl⟩
 obtain⟨k,hk⟩:∃ k,gs.length=k:=⟨_,rfl⟩
 simp only[hn,hk] at hz hg h1 h3 ⊢
 have HZ:=Bx.mk hz
 have HG:=Bx.mk hg
 have HOK:=Bx.mk hok
 have HX:=Bx.mk hx
 have HO:=Bx.mk ho
 have HW:=Bx.mk hw
 have HDM:=Bx.mk h4
 clear hz hg hok hx ho hw hn hk
 go_enter Tryz.func10,Tryz.ntmps10
 go_wp2_with fail
 obtain⟨w1,hw1⟩:∃ w1,w.alloc (.cells #[.slice A n c, .slice B k d] 25)=w1:=⟨_,rfl⟩
 have hs1:w1.heap.size=w.heap.size+1:=by rw[←hw1]; exact World.size_alloc ..
 have hC1:Ch (fun _=>False) w w1:=by rw[←hw1]; exact (Ch.refl _ w).alloc _
 have hcs:=cells_two w (.slice A n c) (.slice B k d) 25
 rw[hw1] at hcs ⊢
 rw[←hs1]
 obtain⟨bx,hbx⟩:∃ bx,w.heap.size=bx:=⟨_,rfl⟩
 rw[hbx] at hcs ⊢
 have HH:=Bx.mk (heavyset_any [(ds,gs)] _ 1 1 _ (sts_one 25 (HZ.out.ch hC1 (fun _ _ _ h=>h)) (HG.out.ch hC1 (fun _ _ _ h=>h)) h1 h2 h3 h4) (by intro s hs; simp at hs; subst hs; exact HOK.out) (Nat.le_refl _) (by unfold maxLen; omega))
 have HC2:=Bx.mk (hC1.alloc (.cells #[.slice A n c, .slice B k d] 25))
 have HCS:=Bx.mk hcs
 have HC12:=Bx.mk ((Ch.refl (fun _=>False) w1).alloc (.cells #[.slice A n c, .slice B k d] 25))
 clear hw1 hs1 hC1 hcs hbx
 generalize w1.alloc (.cells #[.slice A n c, .slice B k d] 25)=w2 at *
 refine HH.out.mono ?_
 rintro e0 w3 ⟨o,rfl,hC3,hslim⟩
 have HSL:=Bx.mk hslim
 have HC3:=Bx.mk (HC2.out.trans hC3 (fun _ _ h=>h))
 have hb0:=(HC12.out.trans hC3 (fun _ _ h=>h)).cell (p:=⟨bx,0,none⟩) (fun h=>h) HCS.out.1
 have hb1:=(HC12.out.trans hC3 (fun _ _ h=>h)).cell (p:=⟨bx,1,none⟩) (fun h=>h) HCS.out.2
 clear hslim HH HC12 HCS HC2 hC3
 cases o with
 | true =>
  go_wp2_with fail
  go_ret
  exact⟨rfl,HC3.out⟩
 | false =>
  have HWS:Bx (wD ds+wK gs≤1500):=⟨by have h:=(HSL.out rfl).1; rwa[wS_one] at h⟩
  have HLT:=Bx.mk (lite_of HWS.out)
  have HBY:Bx (∀ d∈ds,∀ x∈d.2,0≤x∧x<256):=⟨fun d hd=>(HOK.out.1 d hd).2.2⟩
  have HB0:=Bx.mk hb0
  have HB1:=Bx.mk hb1
  clear HSL
  have HTL:Bx (∀ dd∈ds,dd.2.length≤60000):=⟨lite_each HLT.out⟩
  have HNB:Bx (n≤10000):=⟨by rw[←HZ.out.len]; exact HLT.out.n⟩
  have HKB:Bx (k≤10000):=⟨by rw[←HG.out.len]; exact HLT.out.m⟩
  have HRN:=Bx.mk (rnew_any ds gs A B n c k d w3 (HZ.out.ch HC3.out (fun _ _ _ h=>h)) (HG.out.ch HC3.out (fun _ _ _ h=>h)) HLT.out h3 HDM.out HBY.out)
  go_wp2_with fail
  refine HRN.out.mono ?_
  rintro e0 w4 ⟨ec,es,hs,hres,hC4,h5⟩
  have HRES:=Bx.mk hres
  have HC34:=Bx.mk hC4
  have HC4:=Bx.mk (HC3.out.trans hC4 (fun _ _ h=>h))
  have hb0:=HC34.out.cell (p:=⟨bx,0,none⟩) (fun h=>h) HB0.out
  have hb1:=HC34.out.cell (p:=⟨bx,1,none⟩) (fun h=>h) HB1.out
  clear hres hC4 HRN
  rcases h5 with ⟨hec,rfl⟩ | ⟨rfl,b,rfl,hR⟩
  ·have n2:((ec:Int) != 0)=true:=by simpa using hec
   have HKN:=Bx.mk (known_any w4 (HW.out.keep HC4.out))
   clear hec hb0 hb1
   go_wp2_with fail
   refine HKN.out.mono ?_
   rintro e0 w5 ⟨rfl,hC5⟩
   have HC5:=Bx.mk (HC4.out.trans hC5 (fun _ _ h=>h))
   clear hC5 HKN
   go_wp2
   go_ret
   exact⟨rfl,HC5.out⟩
  ·clear hR
   have HDX:=Bx.mk (lawdocs_any ds A n c w4 (HZ.out.ch HC4.out (fun _ _ _ h=>h)) HNB.out HTL.out)
   go_wp2_with fail
   refine HDX.out.mono ?_
   rintro e0 w5 ⟨A5,c5,vs,rfl,hCD,h51,h52⟩
   have HCD:=Bx.mk hCD
   have HC45:=Bx.mk hCD.dg.ch
   have HBX0:=Bx.mk (HC34.out.cell (p:=⟨bx,0,none⟩) (fun h=>h) HB0.out)
   have HBX1:=Bx.mk (HC34.out.cell (p:=⟨bx,1,none⟩) (fun h=>h) HB1.out)
   have HC5:=Bx.mk (HC4.out.trans hCD.dg.ch (fun _ _ h=>h))
   have hb1:=HC45.out.cell (p:=⟨bx,1,none⟩) (fun h=>h) hb1
   have HOS:=Bx.mk (own_s0 w5 9)
   have HGS:=Bx.mk (gs_s0 w5 9)
   have HGV:=Bx.mk (HG.out.ch (HC5.out.alloc (.cells #[] 9)) (fun _ _ _ h=>h))
   have hb2:=((Ch.refl (fun _=>False) w5).alloc (.cells #[] 9)).cell (p:=⟨bx,1,none⟩) (fun h=>h) hb1
   have hkb:=HKB.out
   clear hCD HDX hb0
   go_wp2_with (at_builtin; refine wp_app rfl (.tmp 35) (.tmp 37) elemS rfl rfl HOS.out rfl HGV.out ?c1 ?c2 ?c3 ?_)
   case c1=>intro u hu; obtain⟨x,_,rfl⟩:=List.mem_map.1 hu; rfl
   case c2=>omega
   case c3=>omega
   intro v6 w6 ho6 hg6 hb6
   have HOD:Bx (Od w4 w6 (.slice A5 n c5) v6 n k ds ds vs gs gs):=⟨Od.start HCD.out (HGS.out.app0 ho6 hg6 (by rw[World.size_alloc]; exact hb6))⟩
   clear ho6 hg6 hb6 HOS HGS HGV hb1 hb2 HCD
   obtain⟨A6,c6,rfl,h61,h62⟩:=own_shape HOD.out.kg
   go_wp2_with fail
   go_loopw [9,10,11,12,13] (fun i _ _ _ _ wr=>∃ (q:Nat) (docs:List Dc) (us:List Value) (keys:List Key),q≤m∧q≤100∧i = .int .i64 q∧Bx (Od w4 wr (.slice A5 n c5) (.slice A6 k c6) n k ds docs us gs keys)) (fun i _ _ _ _ _=>m-(intOf i).toNat)
   case atStart=>exact⟨0,ds,vs,gs,Nat.zero_le _,Nat.zero_le _,rfl,HOD⟩
   case round =>
    obtain⟨q,docs,us,keys,hqm,hq1,rfl,hOD⟩:=hrel
    have HCW:=Bx.mk (HC4.out.trans hOD.out.ch (fun _ _ h=>h))
    by_cases hlt:q<m
    ·by_cases hq2:q<100
     ·have dq:decide ((q:Int)<(m:Int))=true:=decide_eq_true (by omega)
      have dr:decide ((q:Int)<100)=true:=decide_eq_true (by omega)
      obtain⟨bz,oz,z,rfl,_,hz,hcz⟩:=HX.out.at_ hlt
      have HCZ:=Bx.mk hcz
      have hcz0:=HCW.out.cell (p:=⟨bz,oz+q,none⟩) (fun h=>h) HCZ.out
      have i1:(q:Int)<(m:Int):=by omega
      obtain⟨aN,hand,haN⟩:=low1023 z
      obtain⟨bN,handb,hbN⟩:=low1023 (z/32)
      have HND:=Bx.mk hand
      have HNDB:=Bx.mk handb
      clear hz hcz hand handb haN hbN
      by_cases hn0:0<n
      ·have dn:decide ((0:Int)<(n:Int))=true:=decide_eq_true (by omega)
       obtain⟨x1,hx1⟩:∃ x,aN%n=x:=⟨_,rfl⟩
       obtain⟨x2,hx2⟩:∃ x,bN%n=x:=⟨_,rfl⟩
       have l1:x1<n:=by rw[←hx1]; exact Nat.mod_lt _ hn0
       have l2:x2<n:=by rw[←hx2]; exact Nat.mod_lt _ hn0
       obtain⟨q1,q2⟩:=rem_two hx1
       obtain⟨q3,q4⟩:=rem_two hx2
       have hn1:¬ ((n:Int)=0):=by omega
       have hand:=HND.out
       have handb:=HNDB.out
       clear hx1 hx2
       go_wp2_with fail
       go_quiet (fail)
       obtain⟨wq,hwq⟩:∃ wq,wr.drewN nq=wq:=⟨_,rfl⟩
       rw[hwq]
       have HOQ:Bx (Od w4 wq (.slice A5 n c5) (.slice A6 k c6) n k ds docs us gs keys):=⟨by rw[←hwq]; exact hOD.out.keep ((Ch.refl _ wr).drewN nq)⟩
       clear hwq q1 q2 q3 q4 hn1 hand handb hcz0
       obtain⟨g5,rfl⟩:=own_some HOQ.out.dg hn0
       obtain⟨X1,hX1⟩:∃ X,docs[x1]? = some X:=⟨_,List.getElem?_eq_getElem (by rw[HOQ.out.dlen]; exact l1)⟩
       obtain⟨X2,hX2⟩:∃ X,docs[x2]? = some X:=⟨_,List.getElem?_eq_getElem (by rw[HOQ.out.dlen]; exact l2)⟩
       obtain⟨V1,hV1⟩:∃ X,us[x1]? = some X:=⟨_,List.getElem?_eq_getElem (by rw[←HOQ.out.kl,HOQ.out.dlen]; exact l1)⟩
       obtain⟨V2,hV2⟩:∃ X,us[x2]? = some X:=⟨_,List.getElem?_eq_getElem (by rw[←HOQ.out.kl,HOQ.out.dlen]; exact l2)⟩
       have k1:=HOQ.out.dg.cellAt (x1*2) (by omega)
       have k2:=HOQ.out.dg.cellAt (x1*2+1) (by omega)
       have k3:=HOQ.out.dg.cellAt (x2*2) (by omega)
       have k4:=HOQ.out.dg.cellAt (x2*2+1) (by omega)
       rw[(dcV_at (ks docs) us x1 X1.1 V1 (ks_get hX1) hV1).1] at k1
       rw[(dcV_at (ks docs) us x1 X1.1 V1 (ks_get hX1) hV1).2] at k2
       rw[(dcV_at (ks docs) us x2 X2.1 V2 (ks_get hX2) hV2).1] at k3
       rw[(dcV_at (ks docs) us x2 X2.1 V2 (ks_get hX2) hV2).2] at k4
       have HSW0:=HOQ.out.swapD hX1 hX2 hV1 hV2
       obtain⟨B1,cB1,ev1,_⟩:=HOQ.out.rows.2 x1 V1 X1.2 hV1 (by unfold ts; rw[List.getElem?_map,hX1]; rfl)
       obtain⟨B2,cB2,ev2,_⟩:=HOQ.out.rows.2 x2 V2 X2.2 hV2 (by unfold ts; rw[List.getElem?_map,hX2]; rfl)
       obtain⟨S1,es1⟩:∃ S:ByteArray,kv X1.1 = .string S:=⟨_,rfl⟩
       obtain⟨S2,es2⟩:∃ S:ByteArray,kv X2.1 = .string S:=⟨_,rfl⟩
       obtain⟨t1,ht1⟩:∃ t,X1.2.length=t:=⟨_,rfl⟩
       obtain⟨t2,ht2⟩:∃ t,X2.2.length=t:=⟨_,rfl⟩
       rw[ht1] at ev1
       rw[ht2] at ev2
       subst ev1 ev2
       rw[es1] at k1
       rw[es2] at k3
       rw[es1,es2] at HSW0
       have HSW:=Bx.mk HSW0
       obtain⟨r1,_⟩:=HOQ.out.dg.stored (x1*2) (.string S2)
       obtain⟨r2,_⟩:=r1.stored (x1*2+1) (.slice B2 t2 cB2)
       obtain⟨z5,k5⟩:∃ z,((wq.setCell ⟨g5,x1*2,none⟩ (.string S2)).setCell ⟨g5,x1*2+1,none⟩ (.slice B2 t2 cB2)).cell? ⟨g5,x2*2,none⟩=some z:=⟨_,(r2.cellAt (x2*2) (by omega)).trans (List.getElem?_eq_getElem (by rw[r2.1]; omega))⟩
       obtain⟨z6,k6⟩:∃ z,((wq.setCell ⟨g5,x1*2,none⟩ (.string S2)).setCell ⟨g5,x1*2+1,none⟩ (.slice B2 t2 cB2)).cell? ⟨g5,x2*2+1,none⟩=some z:=⟨_,(r2.cellAt (x2*2+1) (by omega)).trans (List.getElem?_eq_getElem (by rw[r2.1]; omega))⟩
       have f5:=r2.frozenAt (x2*2)
       have f6:=r2.frozenAt (x2*2+1)
       clear r1 r2
       have j1:(x1:Int)<(n:Int):=by omega
       have j2:(x2:Int)<(n:Int):=by omega
       clear hX1 hX2 hV1 hV2 HSW0 es1 es2 ht1 ht2
       have f1:=HOQ.out.dg.frozenAt (x1*2)
       have f2:=HOQ.out.dg.frozenAt (x1*2+1)
       have f3:=HOQ.out.dg.frozenAt (x2*2)
       have f4:=HOQ.out.dg.frozenAt (x2*2+1)
       go_wp2_with fail
       go_region
       obtain⟨wv,hwv⟩:∃ wv,((((wq.setCell ⟨g5,x1*2,none⟩ (.string S2)).setCell ⟨g5,x1*2+1,none⟩ (.slice B2 t2 cB2)).setCell ⟨g5,x2*2,none⟩ (.string S1)).setCell ⟨g5,x2*2+1,none⟩ (.slice B1 t1 cB1)).drew=wv:=⟨_,rfl⟩
       rw[hwv]
       obtain⟨dv,hdv⟩:∃ dv,(docs.set x1 X2).set x2 X1=dv:=⟨_,rfl⟩
       obtain⟨uv,huv⟩:∃ uv,(us.set x1 (Value.slice B2 t2 cB2)).set x2 (Value.slice B1 t1 cB1)=uv:=⟨_,rfl⟩
       rw[hdv,huv] at HSW
       have HOV:=Bx.mk (HSW.out.keep (Ch.refl (fun _=>False) _).drew)
       rw[hwv] at HOV
       clear hwv HSW k1 k2 k3 k4 k5 k6 f1 f2 f3 f4 f5 f6 hdv huv j1 j2 HOQ
       by_cases hk0:0<k
       ·have dk:decide ((0:Int)<(k:Int))=true:=decide_eq_true (by omega)
        obtain⟨y1,hy1⟩:∃ x,aN%k=x:=⟨_,rfl⟩
        obtain⟨y2,hy2⟩:∃ x,bN%k=x:=⟨_,rfl⟩
        have m1:y1<k:=by rw[←hy1]; exact Nat.mod_lt _ hk0
        have m2:y2<k:=by rw[←hy2]; exact Nat.mod_lt _ hk0
        obtain⟨p1,p2⟩:=rem_two hy1
        obtain⟨p3,p4⟩:=rem_two hy2
        have hk1:¬ ((k:Int)=0):=by omega
        have hand:=HND.out
        have handb:=HNDB.out
        have hcz1:=(HC4.out.trans HOV.out.ch (fun _ _ h=>h)).cell (p:=⟨bz,oz+q,none⟩) (fun h=>h) HCZ.out
        clear hy1 hy2
        go_wp2_with fail
        go_quiet (fail)
        obtain⟨wk,hwk⟩:∃ wk,wv.drewN nq=wk:=⟨_,rfl⟩
        rw[hwk]
        have HOK2:Bx (Od w4 wk (.slice (some ⟨g5,0,none⟩) n c5) (.slice A6 k c6) n k ds dv uv gs keys):=⟨by rw[←hwk]; exact HOV.out.keep ((Ch.refl _ wv).drewN nq)⟩
        clear hwk p1 p2 p3 p4 hk1 hand handb hcz1
        obtain⟨g6,rfl⟩:=own_some HOK2.out.kg hk0
        obtain⟨Y1,hY1⟩:∃ X,keys[y1]? = some X:=⟨_,List.getElem?_eq_getElem (by rw[HOK2.out.klen]; exact m1)⟩
        obtain⟨Y2,hY2⟩:∃ X,keys[y2]? = some X:=⟨_,List.getElem?_eq_getElem (by rw[HOK2.out.klen]; exact m2)⟩
        have k1:=HOK2.out.kg.cellAt y1 (by omega)
        have k2:=HOK2.out.kg.cellAt y2 (by omega)
        rw[List.getElem?_map,hY1,Option.map_some] at k1
        rw[List.getElem?_map,hY2,Option.map_some] at k2
        have HSW0:=HOK2.out.swapG hY1 hY2
        obtain⟨T1,et1⟩:∃ S:ByteArray,kv Y1 = .string S:=⟨_,rfl⟩
        obtain⟨T2,et2⟩:∃ S:ByteArray,kv Y2 = .string S:=⟨_,rfl⟩
        rw[et1] at k1
        rw[et2] at k2
        rw[et1,et2] at HSW0
        have HSW:=Bx.mk HSW0
        obtain⟨r1,_⟩:=HOK2.out.kg.stored y1 (.string T2)
        obtain⟨z5,k5⟩:∃ z,(wk.setCell ⟨g6,y1,none⟩ (.string T2)).cell? ⟨g6,y2,none⟩=some z:=⟨_,(r1.cellAt y2 (by omega)).trans (List.getElem?_eq_getElem (by rw[r1.1]; omega))⟩
        have f1:=HOK2.out.kg.frozenAt y1
        have f2:=HOK2.out.kg.frozenAt y2
        have f5:=r1.frozenAt y2
        have j1:(y1:Int)<(k:Int):=by omega
        have j2:(y2:Int)<(k:Int):=by omega
        clear r1 HSW0 hY1 hY2 et1 et2
        go_wp2_with fail
        go_region
        obtain⟨wl,hwl⟩:∃ wl,((wk.setCell ⟨g6,y1,none⟩ (.string T2)).setCell ⟨g6,y2,none⟩ (.string T1)).drew=wl:=⟨_,rfl⟩
        rw[hwl]
        have HOW:=Bx.mk (HSW.out.keep (Ch.refl (fun _=>False) _).drew)
        rw[hwl] at HOW
        clear hwl HSW k1 k2 k5 f1 f2 f5 j1 j2
        go_wp2_with fail
        go_roundw
        case rel=>exact⟨q+1,_,_,_,by omega,by omega,by go_num,HOW⟩
        case measure=>simp[intOf]; omega
       ·have dk:decide ((0:Int)<(k:Int))=false:=decide_eq_false (by omega)
        go_wp2_with fail
        go_roundw
        case rel=>exact⟨q+1,_,_,_,by omega,by omega,by go_num,HOV⟩
        case measure=>simp[intOf]; omega
      ·have dn:decide ((0:Int)<(n:Int))=false:=decide_eq_false (by omega)
       obtain⟨wv,rfl⟩:∃ wv,wr=wv:=⟨_,rfl⟩
       obtain⟨dv,rfl⟩:∃ dv,docs=dv:=⟨_,rfl⟩
       obtain⟨uv,rfl⟩:∃ uv,us=uv:=⟨_,rfl⟩
       have HOV:=hOD
       by_cases hk0:0<k
       ·have dk:decide ((0:Int)<(k:Int))=true:=decide_eq_true (by omega)
        obtain⟨y1,hy1⟩:∃ x,aN%k=x:=⟨_,rfl⟩
        obtain⟨y2,hy2⟩:∃ x,bN%k=x:=⟨_,rfl⟩
        have m1:y1<k:=by rw[←hy1]; exact Nat.mod_lt _ hk0
        have m2:y2<k:=by rw[←hy2]; exact Nat.mod_lt _ hk0
        obtain⟨p1,p2⟩:=rem_two hy1
        obtain⟨p3,p4⟩:=rem_two hy2
        have hk1:¬ ((k:Int)=0):=by omega
        have hand:=HND.out
        have handb:=HNDB.out
        have hcz1:=(HC4.out.trans HOV.out.ch (fun _ _ h=>h)).cell (p:=⟨bz,oz+q,none⟩) (fun h=>h) HCZ.out
        clear hy1 hy2
        go_wp2_with fail
        go_quiet (fail)
        obtain⟨wk,hwk⟩:∃ wk,wr.drewN nq=wk:=⟨_,rfl⟩
        rw[hwk]
        have HOK2:Bx (Od w4 wk (.slice A5 n c5) (.slice A6 k c6) n k ds docs us gs keys):=⟨by rw[←hwk]; exact HOV.out.keep ((Ch.refl _ wr).drewN nq)⟩
        clear hwk p1 p2 p3 p4 hk1 hand handb hcz1
        obtain⟨g6,rfl⟩:=own_some HOK2.out.kg hk0
        obtain⟨Y1,hY1⟩:∃ X,keys[y1]? = some X:=⟨_,List.getElem?_eq_getElem (by rw[HOK2.out.klen]; exact m1)⟩
        obtain⟨Y2,hY2⟩:∃ X,keys[y2]? = some X:=⟨_,List.getElem?_eq_getElem (by rw[HOK2.out.klen]; exact m2)⟩
        have k1:=HOK2.out.kg.cellAt y1 (by omega)
        have k2:=HOK2.out.kg.cellAt y2 (by omega)
        rw[List.getElem?_map,hY1,Option.map_some] at k1
        rw[List.getElem?_map,hY2,Option.map_some] at k2
        have HSW0:=HOK2.out.swapG hY1 hY2
        obtain⟨T1,et1⟩:∃ S:ByteArray,kv Y1 = .string S:=⟨_,rfl⟩
        obtain⟨T2,et2⟩:∃ S:ByteArray,kv Y2 = .string S:=⟨_,rfl⟩
        rw[et1] at k1
        rw[et2] at k2
        rw[et1,et2] at HSW0
        have HSW:=Bx.mk HSW0
        obtain⟨r1,_⟩:=HOK2.out.kg.stored y1 (.string T2)
        obtain⟨z5,k5⟩:∃ z,(wk.setCell ⟨g6,y1,none⟩ (.string T2)).cell? ⟨g6,y2,none⟩=some z:=⟨_,(r1.cellAt y2 (by omega)).trans (List.getElem?_eq_getElem (by rw[r1.1]; omega))⟩
        have f1:=HOK2.out.kg.frozenAt y1
        have f2:=HOK2.out.kg.frozenAt y2
        have f5:=r1.frozenAt y2
        have j1:(y1:Int)<(k:Int):=by omega
        have j2:(y2:Int)<(k:Int):=by omega
        clear r1 HSW0 hY1 hY2 et1 et2
        go_wp2_with fail
        go_region
        obtain⟨wl,hwl⟩:∃ wl,((wk.setCell ⟨g6,y1,none⟩ (.string T2)).setCell ⟨g6,y2,none⟩ (.string T1)).drew=wl:=⟨_,rfl⟩
        rw[hwl]
        have HOW:=Bx.mk (HSW.out.keep (Ch.refl (fun _=>False) _).drew)
        rw[hwl] at HOW
        clear hwl HSW k1 k2 k5 f1 f2 f5 j1 j2
        go_wp2_with fail
        go_roundw
        case rel=>exact⟨q+1,_,_,_,by omega,by omega,by go_num,HOW⟩
        case measure=>simp[intOf]; omega
       ·have dk:decide ((0:Int)<(k:Int))=false:=decide_eq_false (by omega)
        go_wp2_with fail
        go_roundw
        case rel=>exact⟨q+1,_,_,_,by omega,by omega,by go_num,HOV⟩
        case measure=>simp[intOf]; omega
     ·have dq:decide ((q:Int)<(m:Int))=true:=decide_eq_true (by omega)
      have dr:decide ((q:Int)<100)=false:=decide_eq_false (by omega)
      have HOE:=Bx.mk hOD.out
      have hb0:=hOD.out.ch.cell (p:=⟨bx,0,none⟩) (fun h=>h) HBX0.out
      have hb1:=hOD.out.ch.cell (p:=⟨bx,1,none⟩) (fun h=>h) HBX1.out
      have HPN:=Bx.mk (new_any ds gs A B n c k d wr (HZ.out.ch HCW.out (fun _ _ _ h=>h)) (HG.out.ch HCW.out (fun _ _ _ h=>h)) HLT.out HBY.out (HW.out.keep HCW.out))
      clear hOD
      go_wp2_with fail
      refine HPN.out.mono ?_
      rintro e0 w7 ⟨ec,es1,hs1,hres,hC7,h7⟩
      obtain⟨e1,e2⟩:=HRES.out.same hres
      obtain⟨rfl,rfl⟩:=e2 rfl
      subst e1
      rcases h7 with ⟨h0,_⟩ | ⟨_,b7,rfl,hS7⟩
      ·exact absurd rfl h0
      have HMD:=Bx.mk (newres_yes HRES.out rfl).1
      have HLT2:=Bx.mk (HLT.out.perm HMD.out.pd HMD.out.pg)
      have HS7:=Bx.mk hS7
      have HC7:=Bx.mk hC7
      have HCW7:=Bx.mk (HCW.out.trans hC7 (fun _ _ h=>h))
      have HOF:=Bx.mk (HOE.out.keep hC7)
      have HBYD:Bx (∀ d∈docs,∀ x∈d.2,0≤x∧x<256):=⟨fun d hd=>HBY.out d (HOE.out.pd.mem_iff.1 hd)⟩
      have HPN2:=Bx.mk (new_any docs keys A5 A6 n c5 k c6 w7 HOF.out.dcs HOF.out.kss (HLT.out.perm HOE.out.pd HOE.out.pg) HBYD.out (HW.out.keep HCW7.out))
      clear hres hC7 hS7 HPN e2 hb0 hb1
      go_wp2_with fail
      refine HPN2.out.mono ?_
      rintro e0 w8 ⟨ec,es2,hs2,hres,hC8,h8⟩
      obtain⟨rfl,e1,e2⟩:=newres_perm HRES.out HOE.out.pd HOE.out.pg hres
      obtain rfl:=e1.symm
      obtain rfl:=e2.symm
      rcases h8 with ⟨h0,_⟩ | ⟨_,b8,rfl,hS8⟩
      ·exact absurd rfl h0
      have HCW8:=Bx.mk (HCW7.out.trans hC8 (fun _ _ h=>h))
      have HFIT:=Bx.mk (fit_of HLT2.out)
      have HS8:=Bx.mk hS8
      have HEN:=Bx.mk (enc_any (HS7.out.keep hC8) HFIT.out (HO.out.ch HCW8.out (fun h=>h)))
      clear hres hC8 hS8 HPN2
      go_wp2_with fail
      refine HEN.out.mono ?_
      rintro e w9 ⟨ve,t1,rfl,hT1,hFe⟩
      have HC9:=Bx.mk (HCW8.out.trans hFe.2.2 (fun _ _ h=>h))
      obtain⟨NE,hNE⟩:∃ N,(frm (bod es hs t1)).length=N:=⟨_,rfl⟩
      obtain⟨Ae,ce,rfl,_,_⟩:=fr_shape hFe hNE
      have HFE:=Bx.mk hFe
      have HT1:=Bx.mk hT1
      have HNEE:=Bx.mk hNE
      have HNB2:Bx (NE≤9223372036854775807):=⟨by
       have h1:=HFIT.out.lb t1 HT1.out
       rw[←HNEE.out,frm_len]
       omega⟩
      have HEN2:=Bx.mk (enc_any (HS8.out.keep hFe.2.2) HFIT.out (HO.out.ch HC9.out (fun h=>h)))
      clear hFe hT1 hNE HEN
      go_wp2_with fail
      refine HEN2.out.mono ?_
      rintro e w10 ⟨vf,t2,rfl,hT2,hFf⟩
      have HC10:=Bx.mk (HC9.out.trans hFf.2.2 (fun _ _ h=>h))
      obtain rfl:t1=t2:=HT1.out.det hT2
      obtain⟨Af2,cf2,rfl,_,_⟩:=fr_shape hFf HNEE.out
      have HFF:=Bx.mk hFf
      clear hFf hT2 HEN2
      go_wp2_with fail
      refine (same_yes (frm (bod es hs t1)) Ae Af2 NE NE ce cf2 _ HNB2.out HNB2.out ((Fresh.sl (Fresh.rw HFE.out) HNEE.out.symm).ch HFF.out.2.2 (fun _ _ _ h=>h)) (Fresh.sl (Fresh.rw HFF.out) HNEE.out.symm)).mono ?_
      rintro e w11 ⟨rfl,hcx⟩
      have HC11:=Bx.mk (HC10.out.trans hcx (fun _ _ h=>h))
      have HKN:=Bx.mk (known_any w11 (HW.out.keep HC11.out))
      clear hcx
      go_wp2_with fail
      refine HKN.out.mono ?_
      rintro e0 w12 ⟨rfl,hC12⟩
      have HC12:=Bx.mk (HC11.out.trans hC12 (fun _ _ h=>h))
      clear hC12 HKN
      go_wp2
      go_ret
      exact⟨rfl,HC12.out⟩
    ·have dq:decide ((q:Int)<(m:Int))=false:=decide_eq_false (by omega)
     have HOE:=Bx.mk hOD.out
     have hb0:=hOD.out.ch.cell (p:=⟨bx,0,none⟩) (fun h=>h) HBX0.out
     have hb1:=hOD.out.ch.cell (p:=⟨bx,1,none⟩) (fun h=>h) HBX1.out
     have HPN:=Bx.mk (new_any ds gs A B n c k d wr (HZ.out.ch HCW.out (fun _ _ _ h=>h)) (HG.out.ch HCW.out (fun _ _ _ h=>h)) HLT.out HBY.out (HW.out.keep HCW.out))
     clear hOD
     go_wp2_with fail
     refine HPN.out.mono ?_
     rintro e0 w7 ⟨ec,es1,hs1,hres,hC7,h7⟩
     obtain⟨e1,e2⟩:=HRES.out.same hres
     obtain⟨rfl,rfl⟩:=e2 rfl
     subst e1
     rcases h7 with ⟨h0,_⟩ | ⟨_,b7,rfl,hS7⟩
     ·exact absurd rfl h0
     have HMD:=Bx.mk (newres_yes HRES.out rfl).1
     have HLT2:=Bx.mk (HLT.out.perm HMD.out.pd HMD.out.pg)
     have HS7:=Bx.mk hS7
     have HC7:=Bx.mk hC7
     have HCW7:=Bx.mk (HCW.out.trans hC7 (fun _ _ h=>h))
     have HOF:=Bx.mk (HOE.out.keep hC7)
     have HBYD:Bx (∀ d∈docs,∀ x∈d.2,0≤x∧x<256):=⟨fun d hd=>HBY.out d (HOE.out.pd.mem_iff.1 hd)⟩
     have HPN2:=Bx.mk (new_any docs keys A5 A6 n c5 k c6 w7 HOF.out.dcs HOF.out.kss (HLT.out.perm HOE.out.pd HOE.out.pg) HBYD.out (HW.out.keep HCW7.out))
     clear hres hC7 hS7 HPN e2 hb0 hb1
     go_wp2_with fail
     refine HPN2.out.mono ?_
     rintro e0 w8 ⟨ec,es2,hs2,hres,hC8,h8⟩
     obtain⟨rfl,e1,e2⟩:=newres_perm HRES.out HOE.out.pd HOE.out.pg hres
     obtain rfl:=e1.symm
     obtain rfl:=e2.symm
     rcases h8 with ⟨h0,_⟩ | ⟨_,b8,rfl,hS8⟩
     ·exact absurd rfl h0
     have HCW8:=Bx.mk (HCW7.out.trans hC8 (fun _ _ h=>h))
     have HFIT:=Bx.mk (fit_of HLT2.out)
     have HS8:=Bx.mk hS8
     have HEN:=Bx.mk (enc_any (HS7.out.keep hC8) HFIT.out (HO.out.ch HCW8.out (fun h=>h)))
     clear hres hC8 hS8 HPN2
     go_wp2_with fail
     refine HEN.out.mono ?_
     rintro e w9 ⟨ve,t1,rfl,hT1,hFe⟩
     have HC9:=Bx.mk (HCW8.out.trans hFe.2.2 (fun _ _ h=>h))
     obtain⟨NE,hNE⟩:∃ N,(frm (bod es hs t1)).length=N:=⟨_,rfl⟩
     obtain⟨Ae,ce,rfl,_,_⟩:=fr_shape hFe hNE
     have HFE:=Bx.mk hFe
     have HT1:=Bx.mk hT1
     have HNEE:=Bx.mk hNE
     have HNB2:Bx (NE≤9223372036854775807):=⟨by
      have h1:=HFIT.out.lb t1 HT1.out
      rw[←HNEE.out,frm_len]
      omega⟩
     have HEN2:=Bx.mk (enc_any (HS8.out.keep hFe.2.2) HFIT.out (HO.out.ch HC9.out (fun h=>h)))
     clear hFe hT1 hNE HEN
     go_wp2_with fail
     refine HEN2.out.mono ?_
     rintro e w10 ⟨vf,t2,rfl,hT2,hFf⟩
     have HC10:=Bx.mk (HC9.out.trans hFf.2.2 (fun _ _ h=>h))
     obtain rfl:t1=t2:=HT1.out.det hT2
     obtain⟨Af2,cf2,rfl,_,_⟩:=fr_shape hFf HNEE.out
     have HFF:=Bx.mk hFf
     clear hFf hT2 HEN2
     go_wp2_with fail
     refine (same_yes (frm (bod es hs t1)) Ae Af2 NE NE ce cf2 _ HNB2.out HNB2.out ((Fresh.sl (Fresh.rw HFE.out) HNEE.out.symm).ch HFF.out.2.2 (fun _ _ _ h=>h)) (Fresh.sl (Fresh.rw HFF.out) HNEE.out.symm)).mono ?_
     rintro e w11 ⟨rfl,hcx⟩
     have HC11:=Bx.mk (HC10.out.trans hcx (fun _ _ h=>h))
     have HKN:=Bx.mk (known_any w11 (HW.out.keep HC11.out))
     clear hcx
     go_wp2_with fail
     refine HKN.out.mono ?_
     rintro e0 w12 ⟨rfl,hC12⟩
     have HC12:=Bx.mk (HC11.out.trans hC12 (fun _ _ h=>h))
     clear hC12 HKN
     go_wp2
     go_ret
     exact⟨rfl,HC12.out⟩
end Go.Proofs.YtambgjpfoceieaaGreatDoor
