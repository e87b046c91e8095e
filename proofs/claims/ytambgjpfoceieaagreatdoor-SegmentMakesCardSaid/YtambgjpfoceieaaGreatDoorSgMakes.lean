/- Lemmas and contracts of this proof. Conditions: said at each. -/
import Derived.Test.YtambgjpfoceieaaGreatDoorSgDocs
set_option maxHeartbeats 8000000
set_option maxRecDepth 100000
namespace Go.Proofs.YtambgjpfoceieaaGreatDoor
open Go.RowKit Go.Oct Go.Su Go.Sg Go.Fr
def SpB (vs:List Value) (g:Nat):Prop:=∃ (i:Nat) (u:Value),vs[i]? = some u∧u.ownBlock=some g
structure Spt (w6 wr:World) (vs:List Value) (ds:List Dc) (q:Nat):Prop where
 ch:Ch (SpB vs) w6 wr
 rows:∀ (i:Nat) (u:Value) (d:Dc),q≤i→vs[i]? = some u→ds[i]? = some d→wr.ownsRow 0 5 1 u d.2.length (d.2.map (Value.int .u8))
theorem Spt.next {w6 wr w7 w8:World} {vs:List Value} {ds:List Dc} {q:Nat} {u:Value} (h:Spt w6 wr vs ds q) (hc:Ch (fun _=>False) wr w7) (hu:vs[q]? = some u) (h8:Ch (fun k=>u.ownBlock=some k) w7 w8) (ha:∀ (i:Nat) (x:Value),vs[i]? = some x→i≠q→∀ g,x.ownBlock=some g→u.ownBlock=some g→False):Spt w6 w8 vs ds (q+1) :=
 ⟨h.ch.trans ((hc.mono (fun _ _ h=>h.elim)).trans h8 (fun i _ e=>e)) (fun i _ (e:u.ownBlock=some i)=>⟨q,u,hu,e⟩),fun i x d hi hx hd=>h8.own (hc.own (h.rows i x d (by omega) hx hd) (fun _ _ h=>h)) (fun g gx gu=>ha i x hx (by omega) g gx gu)⟩
theorem makes_law (s:Go.Sg.St) (cs:List Value) (p:List Int) (P:Option Addr) (m e:Nat) (w:World) (hE:SetE w (fun _=>True) cs s) (hok:SetOk s) (hp:Sl w (fun _=>True) .u8 P m p) (hbp:∀ x∈p,0≤x∧x<256) (hm:m≤9223372036854775807) (ho:O.Tab w) (hw:W.Tab w) :
  Calls Tryz.prog 3 #[.agg cs.toArray, .slice P m e] w fun e w'=>e = .returned (.bool true)∧Ch (fun _=>False) w w':=by
 obtain⟨ds,gs⟩:=s
 obtain⟨A,c,B,d,rfl,hz,hg,h1,h2,h3,h4⟩:=hE
 simp only at hz hg h1 h3
 obtain⟨n,hn⟩:∃ n,ds.length=n:=⟨_,rfl⟩
 obtain⟨k,hk⟩:∃ k,gs.length=k:=⟨_,rfl⟩
 simp only[hn,hk] at hz hg h1 h3 ⊢
 have HZ:=Bx.mk hz
 have HG:=Bx.mk hg
 have HOK:=Bx.mk hok
 have HP:=Bx.mk hp
 have HBP:=Bx.mk hbp
 have HO:=Bx.mk ho
 have HW:=Bx.mk hw
 have HDM:=Bx.mk h4
 clear hz hg hok hp hbp ho hw hn hk
 go_enter Tryz.func3,Tryz.ntmps3
 go_wp2_with fail
 obtain⟨w1,hw1⟩:∃ w1,w.alloc (.cells #[.slice A n c, .slice B k d] 25)=w1:=⟨_,rfl⟩
 have hs1:w1.heap.size=w.heap.size+1:=by rw[←hw1]; exact World.size_alloc ..
 have hC1:Ch (fun _=>False) w w1:=by rw[←hw1]; exact (Ch.refl _ w).alloc _
 have hcs:=cells_two w (.slice A n c) (.slice B k d) 25
 rw[hw1] at hcs ⊢
 rw[←hs1]
 obtain⟨bx,hbx⟩:∃ bx,w.heap.size=bx:=⟨_,rfl⟩
 rw[hbx] at hcs ⊢
 have HH:=Bx.mk (heavyset_any [(ds,gs)] _ 1 1 _ (sts_one 25 (HZ.out.ch hC1 (fun _ _ _ h=>h)) (HG.out.ch hC1 (fun _ _ _ h=>h)) h1 h2 h3 h4) (by intro s hs; simp at hs; subst hs; exact HOK.out) (Nat.le_refl _) (by unfold maxLen; omega))
 have HC2:=Bx.mk (hC1.alloc (.cells #[.slice A n c, .slice B k d] 25))
 have HCS:=Bx.mk hcs
 have HC12:=Bx.mk ((Ch.refl (fun _=>False) w1).alloc (.cells #[.slice A n c, .slice B k d] 25))
 clear hw1 hs1 hC1 hcs hbx
 generalize w1.alloc (.cells #[.slice A n c, .slice B k d] 25)=w2 at *
 refine HH.out.mono ?_
 rintro e0 w3 ⟨o,rfl,hC3,hslim⟩
 have HSL:=Bx.mk hslim
 have HC3:=Bx.mk (HC2.out.trans hC3 (fun _ _ h=>h))
 have hb0:=(HC12.out.trans hC3 (fun _ _ h=>h)).cell (p:=⟨bx,0,none⟩) (fun h=>h) HCS.out.1
 have hb1:=(HC12.out.trans hC3 (fun _ _ h=>h)).cell (p:=⟨bx,1,none⟩) (fun h=>h) HCS.out.2
 clear hslim HH HC12 HCS HC2 hC3
 cases o with
 | true =>
  go_wp2_with fail
  go_ret
  exact⟨rfl,HC3.out⟩
 | false =>
  have HWS:Bx (wD ds+wK gs≤1500):=⟨by have h:=(HSL.out rfl).1; rwa[wS_one] at h⟩
  have HLT:=Bx.mk (lite_of HWS.out)
  have HBY:Bx (∀ d∈ds,∀ x∈d.2,0≤x∧x<256):=⟨fun d hd=>(HOK.out.1 d hd).2.2⟩
  have HB0:=Bx.mk hb0
  have HB1:=Bx.mk hb1
  clear HSL
  by_cases hm1:100<m
  ·have d1:decide ((100:Int)<(m:Int))=true:=decide_eq_true (by omega)
   have d2:decide (100<m)=true:=decide_eq_true hm1
   go_wp2_with fail
   go_ret
   exact⟨rfl,HC3.out⟩
  have d1:decide ((100:Int)<(m:Int))=false:=decide_eq_false (by omega)
  have d2:decide (100<m)=false:=decide_eq_false hm1
  have HM:Bx (m≤100):=⟨by omega⟩
  clear hm1 hb0 hb1
  have HTL:Bx (∀ dd∈ds,dd.2.length≤60000):=⟨fun dd hd=>by
   obtain⟨i,hi⟩:=List.getElem?_of_mem hd
   have hil:=(List.getElem?_eq_some_iff.1 hi).1
   have h1:=beg_next (ts ds) i (by rw[ts_len]; exact hil)
   have h2:=beg_mono (ts ds) (show i+1≤ds.length by omega) (by rw[ts_len]; exact Nat.le_refl _)
   rw[ts_at hi] at h1
   have:=HLT.out.b
   omega⟩
  have HNB:Bx (n≤10000):=⟨by rw[←HZ.out.len]; exact HLT.out.n⟩
  have hb0:=HB0.out
  have HDX:=Bx.mk (lawdocs_any ds A n c w3 (HZ.out.ch HC3.out (fun _ _ _ h=>h)) HNB.out HTL.out)
  go_wp2_with fail
  refine HDX.out.mono ?_
  rintro e0 w4 ⟨A5,c5,vs,rfl,hCD,h51,h52⟩
  have HCD:=Bx.mk hCD
  have HC34:=Bx.mk hCD.dg.ch
  have HC4:=Bx.mk (HC3.out.trans hCD.dg.ch (fun _ _ h=>h))
  have hb1:=HC34.out.cell (p:=⟨bx,1,none⟩) (fun h=>h) HB1.out
  have HPN:=Bx.mk (new_any ds gs A5 B n c5 k d w4 hCD.dcs (HG.out.ch HC4.out (fun _ _ _ h=>h)) HLT.out HBY.out (HW.out.keep HC4.out))
  clear hCD HDX hb0
  go_wp2_with fail
  refine HPN.out.mono ?_
  rintro e0 w5 ⟨ec,es,hs,hres,hC5,h5⟩
  have HC45:=Bx.mk hC5
  have HC35:=Bx.mk (HC34.out.trans hC5 (fun _ _ h=>h))
  have hb0:=HC35.out.cell (p:=⟨bx,0,none⟩) (fun h=>h) HB0.out
  have hb1:=HC35.out.cell (p:=⟨bx,1,none⟩) (fun h=>h) HB1.out
  have HC5:=Bx.mk (HC4.out.trans hC5 (fun _ _ h=>h))
  have HRES:=Bx.mk hres
  have HRN:=Bx.mk (rnew_any ds gs A B n c k d w5 (HZ.out.ch HC5.out (fun _ _ _ h=>h)) (HG.out.ch HC5.out (fun _ _ _ h=>h)) HLT.out h3 HDM.out HBY.out)
  clear hres hC5 HPN
  rcases h5 with ⟨hec,rfl⟩ | ⟨rfl,b,rfl,hS⟩
  ·go_wp2_with fail
   refine HRN.out.mono ?_
   rintro e0 w6 ⟨ec',es',hs',hres',hC6,h6⟩
   obtain⟨rfl,_⟩:=HRES.out.same hres'
   rcases h6 with ⟨_,rfl⟩ | ⟨h0,_⟩
   ·have n1:((ec:Int) != (ec:Int))=false:=by simp
    have n2:((ec:Int) != 0)=true:=by simpa using hec
    have HC6:=Bx.mk (HC5.out.trans hC6 (fun _ _ h=>h))
    have HC46:=Bx.mk (HC45.out.trans hC6 (fun _ _ h=>h))
    have HC36:=Bx.mk (HC35.out.trans hC6 (fun _ _ h=>h))
    clear hres' hC6 HRN hec hb0 hb1
    go_wp2_with fail
    go_loopw [10] (fun i wr=>∃ q:Nat,q≤n∧i = .int .i64 q∧Bx (Spt w6 wr vs ds q)) (fun i _=>n-(intOf i).toNat)
    case atStart=>exact⟨0,Nat.zero_le _,rfl,⟨⟨Ch.refl _ _,fun i u dd _ hu hd=>HC46.out.own (HCD.out.rows i u dd hu hd).1 (fun _ _ h=>h)⟩⟩⟩
    case round =>
     obtain⟨q,hq,rfl,hX⟩:=hrel
     by_cases hlt:q<n
     ·have dk:decide ((q:Int)<(n:Int))=true:=decide_eq_true (by omega)
      obtain⟨bd,od,dc,Bt,ct,rfl,_,hd,hck0,hct0,hst0,hl1,hl2⟩:=HZ.out.get hlt
      obtain⟨g5,rfl⟩:=own_some HCD.out.dg.own (by omega)
      have hSB:∀ g,SpB vs g→w3.heap.size≤g∧g≠g5:=fun g ⟨i,u,hu,hg⟩=>by
       obtain⟨dd,hdd⟩:∃ dd,ds[i]? = some dd:=⟨_,List.getElem?_eq_getElem (by rw[HCD.out.kl]; exact (List.getElem?_eq_some_iff.1 hu).1)⟩
       have h5:=(HCD.out.rows i u dd hu hdd).2 g hg
       exact⟨h5.1,fun e=>h5.2 (by rw[e]; rfl)⟩
      have HWS3:Bx (w.heap.size≤w3.heap.size):=⟨HC3.out.size⟩
      have HCW:Bx (Ch (fun _=>False) w wr):=⟨HC6.out.trans hX.out.ch (fun i hi h=>by have:=(hSB i h).1; have:=HWS3.out; omega)⟩
      obtain⟨u,hu⟩:∃ u,vs[q]? = some u:=⟨_,List.getElem?_eq_getElem (by rw[←HCD.out.kl,HCD.out.len.symm]; exact hlt)⟩
      have hown:=hX.out.rows q u dc (Nat.le_refl _) hu hd.out
      obtain⟨tl,htl⟩:∃ tl,dc.2.length=tl:=⟨_,rfl⟩
      rw[htl] at hown hct0 hst0 hl1
      obtain⟨Au,cu,rfl,_,_⟩:=own_shape hown
      obtain⟨SK,hSK⟩:∃ S:ByteArray,kv dc.1 = .string S:=⟨_,rfl⟩
      rw[hSK] at hck0
      have hcd:=dcV_at (ks ds) vs q dc.1 _ (ks_get hd.out) hu
      rw[hSK] at hcd
      have hdw:=hX.out.ch.own (HC46.out.own HCD.out.dg.own (fun _ _ h=>h)) (fun g hg h=>by injection hg with hg; exact (hSB g h).2 hg.symm)
      have x0:=hdw.cellAt (q*2) (by omega)
      have x1:=hdw.cellAt (q*2+1) (by omega)
      rw[hcd.1] at x0
      rw[hcd.2] at x1
      have hbx:bx<w3.heap.size:=lt_of_cell HB0.out
      have x2:=hX.out.ch.cell (p:=⟨bx,0,none⟩) (fun h=>by have h5:=(hSB bx h).1; omega) (HC36.out.cell (fun h=>h) HB0.out)
      have x3:=HCW.out.cell (p:=⟨bd,od+q*2,none⟩) (fun h=>h) hck0
      have x4:=HCW.out.cell (p:=⟨bd,od+q*2+1,none⟩) (fun h=>h) hct0
      have htb:tl≤60000:=by rw[←htl]; exact HTL.out dc (List.mem_of_getElem? hd.out)
      have HSAME:Bx (∀ W,Ch (fun _=>False) wr W→Calls Tryz.prog 16 #[.slice Au tl cu, .slice Bt tl ct] W fun e w'=>e = .returned (.bool true)∧Ch (fun _=>False) wr w'):=⟨fun W hc=>(same_yes dc.2 Au Bt tl tl cu ct W (by omega) (by omega) ((Sl.of_own hown).ch hc (fun _ _ _ h=>h)) (hst0.ch (HCW.out.trans hc (fun _ _ h=>h)) (fun _ _ _ h=>h))).mono fun e w' h=>⟨h.1,hc.trans h.2 (fun _ _ h=>h)⟩⟩
      have HOWN:=Bx.mk hown
      have HU:=Bx.mk hu
      have HDD:=Bx.mk hd.out
      have HTLE:=Bx.mk htl
      have e7:(SK.toList==SK.toList)=true:=by simp
      have e8:(SK.toList != SK.toList)=false:=by simp
      have hcc:=Ch.refl (fun _=>False) wr
      have i1:(q:Int)<(n:Int):=by omega
      have hnb:=HNB.out
      clear hd hck0 hct0 hst0 hl1 hown hu hcd hdw hSK htl hSB
      go_wp2_with fail
      go_region_held3 (fun w'=>w'.cell? ⟨g5,q*2,none⟩=some (.string SK)∧w'.cell? ⟨g5,q*2+1,none⟩=some (.slice Au tl cu)∧w'.cell? ⟨bx,0,none⟩=some (.slice (some ⟨bd,od,none⟩) n c)∧w'.cell? ⟨bd,od+q*2,none⟩=some (.string SK)∧w'.cell? ⟨bd,od+q*2+1,none⟩=some (.slice Bt tl ct)) (first | go_keep | exact s2 | exact⟨x0,x1,x2,x3,x4⟩) ((go_at_call 16; (with_reducible (refine (HSAME.out _ (by first | exact hcc | exact hcc.drew)).mono ?_)); rintro e w7 ⟨rfl,hcc⟩; have s2:w7.cell? ⟨g5,q*2,none⟩=some (.string SK)∧w7.cell? ⟨g5,q*2+1,none⟩=some (.slice Au tl cu)∧w7.cell? ⟨bx,0,none⟩=some (.slice (some ⟨bd,od,none⟩) n c)∧w7.cell? ⟨bd,od+q*2,none⟩=some (.string SK)∧w7.cell? ⟨bd,od+q*2+1,none⟩=some (.slice Bt tl ct):=⟨hcc.cell (fun h=>h) x0,hcc.cell (fun h=>h) x1,hcc.cell (fun h=>h) x2,hcc.cell (fun h=>h) x3,hcc.cell (fun h=>h) x4⟩))
      all_goals
       have HCC:=Bx.mk hcc
       have y1:=hcc.cell (p:=⟨g5,q*2+1,none⟩) (fun h=>h) x1
       have HSP:=Bx.mk (spoil_any (.slice Au tl cu) tl _ w7 (by omega) (hcc.own HOWN.out (fun _ _ h=>h)))
       clear hcc s2 x0 x1 x2 x3 x4 HSAME e7 e8
       go_wp2_with fail
       refine HSP.out.mono ?_
       rintro e w8 ⟨rfl,hC8⟩
       have HX8:Bx (Spt w6 w8 vs ds (q+1)):=⟨hX.out.next HCC.out HU.out hC8 (fun i x hx hne g gx gu=>hne (HCD.out.apart i q x _ g hx HU.out gx gu))⟩
       clear hC8 HSP y1
       go_wp2
       go_roundw
       case rel=>exact⟨q+1,by omega,by go_num,HX8⟩
       case measure=>simp[intOf]; omega
     ·obtain rfl:n=q:=by omega
      have dk:decide ((n:Int)<(n:Int))=false:=decide_eq_false (by omega)
      have HSB:Bx (∀ g,SpB vs g→w3.heap.size≤g∧g<w4.heap.size):=⟨fun g ⟨i,u,hu,hg⟩=>by
       obtain⟨dd,hdd⟩:∃ dd,ds[i]? = some dd:=⟨_,List.getElem?_eq_getElem (by rw[HCD.out.kl]; exact (List.getElem?_eq_some_iff.1 hu).1)⟩
       have h5:=HCD.out.rows i u dd hu hdd
       exact⟨(h5.2 g hg).1,own_lt h5.1 g hg⟩⟩
      have HX:=Bx.mk hX.out.ch
      have HCW:Bx (Ch (fun _=>False) w wr):=⟨HC6.out.trans hX.out.ch (fun i hi h=>by have:=(HSB.out i h).1; have:=HC3.out.size; omega)⟩
      clear hX
      have HKN:=Bx.mk (known_any wr (HW.out.keep HCW.out))
      go_wp2_with fail
      refine HKN.out.mono ?_
      rintro e0 w9 ⟨rfl,hC9⟩
      have HC9:=Bx.mk (HCW.out.trans hC9 (fun _ _ h=>h))
      clear hC9 HKN
      go_wp2
      go_ret
      exact⟨rfl,HC9.out⟩
   ·exact absurd h0 hec
  ·have HS:=Bx.mk hS
   clear hS
   go_wp2_with fail
   refine HRN.out.mono ?_
   rintro e0 w6 ⟨ec',es',hs',hres',hC6,h6⟩
   obtain⟨e1,e2⟩:=HRES.out.same hres'
   obtain⟨rfl,rfl⟩:=e2 rfl
   subst e1
   rcases h6 with ⟨h0,_⟩ | ⟨_,b',rfl,hR⟩
   ·exact absurd rfl h0
   have HSEG:=Bx.mk (newres_seg HRES.out rfl HBY.out)
   have HMD:=Bx.mk (newres_yes HRES.out rfl).1
   have HLT2:=Bx.mk (HLT.out.perm HMD.out.pd HMD.out.pg)
   have HC6:=Bx.mk (HC5.out.trans hC6 (fun _ _ h=>h))
   have HC46:=Bx.mk (HC45.out.trans hC6 (fun _ _ h=>h))
   have HC36:=Bx.mk (HC35.out.trans hC6 (fun _ _ h=>h))
   have HS6:=Bx.mk (HS.out.keep hC6)
   have HR6:=Bx.mk hR
   clear hres' hC6 HRN e2 hR HS hb0 hb1
   go_wp2_with fail
   go_loopw [10] (fun i wr=>∃ q:Nat,q≤n∧i = .int .i64 q∧Bx (Spt w6 wr vs ds q)) (fun i _=>n-(intOf i).toNat)
   case atStart=>exact⟨0,Nat.zero_le _,rfl,⟨⟨Ch.refl _ _,fun i u dd _ hu hd=>HC46.out.own (HCD.out.rows i u dd hu hd).1 (fun _ _ h=>h)⟩⟩⟩
   case round =>
    obtain⟨q,hq,rfl,hX⟩:=hrel
    by_cases hlt:q<n
    ·have dk:decide ((q:Int)<(n:Int))=true:=decide_eq_true (by omega)
     obtain⟨bd,od,dc,Bt,ct,rfl,_,hd,hck0,hct0,hst0,hl1,hl2⟩:=HZ.out.get hlt
     obtain⟨g5,rfl⟩:=own_some HCD.out.dg.own (by omega)
     have hSB:∀ g,SpB vs g→w3.heap.size≤g∧g≠g5:=fun g ⟨i,u,hu,hg⟩=>by
      obtain⟨dd,hdd⟩:∃ dd,ds[i]? = some dd:=⟨_,List.getElem?_eq_getElem (by rw[HCD.out.kl]; exact (List.getElem?_eq_some_iff.1 hu).1)⟩
      have h5:=(HCD.out.rows i u dd hu hdd).2 g hg
      exact⟨h5.1,fun e=>h5.2 (by rw[e]; rfl)⟩
     have HWS3:Bx (w.heap.size≤w3.heap.size):=⟨HC3.out.size⟩
     have HCW:Bx (Ch (fun _=>False) w wr):=⟨HC6.out.trans hX.out.ch (fun i hi h=>by have:=(hSB i h).1; have:=HWS3.out; omega)⟩
     obtain⟨u,hu⟩:∃ u,vs[q]? = some u:=⟨_,List.getElem?_eq_getElem (by rw[←HCD.out.kl,HCD.out.len.symm]; exact hlt)⟩
     have hown:=hX.out.rows q u dc (Nat.le_refl _) hu hd.out
     obtain⟨tl,htl⟩:∃ tl,dc.2.length=tl:=⟨_,rfl⟩
     rw[htl] at hown hct0 hst0 hl1
     obtain⟨Au,cu,rfl,_,_⟩:=own_shape hown
     obtain⟨SK,hSK⟩:∃ S:ByteArray,kv dc.1 = .string S:=⟨_,rfl⟩
     rw[hSK] at hck0
     have hcd:=dcV_at (ks ds) vs q dc.1 _ (ks_get hd.out) hu
     rw[hSK] at hcd
     have hdw:=hX.out.ch.own (HC46.out.own HCD.out.dg.own (fun _ _ h=>h)) (fun g hg h=>by injection hg with hg; exact (hSB g h).2 hg.symm)
     have x0:=hdw.cellAt (q*2) (by omega)
     have x1:=hdw.cellAt (q*2+1) (by omega)
     rw[hcd.1] at x0
     rw[hcd.2] at x1
     have hbx:bx<w3.heap.size:=lt_of_cell HB0.out
     have x2:=hX.out.ch.cell (p:=⟨bx,0,none⟩) (fun h=>by have h5:=(hSB bx h).1; omega) (HC36.out.cell (fun h=>h) HB0.out)
     have x3:=HCW.out.cell (p:=⟨bd,od+q*2,none⟩) (fun h=>h) hck0
     have x4:=HCW.out.cell (p:=⟨bd,od+q*2+1,none⟩) (fun h=>h) hct0
     have htb:tl≤60000:=by rw[←htl]; exact HTL.out dc (List.mem_of_getElem? hd.out)
     have HSAME:Bx (∀ W,Ch (fun _=>False) wr W→Calls Tryz.prog 16 #[.slice Au tl cu, .slice Bt tl ct] W fun e w'=>e = .returned (.bool true)∧Ch (fun _=>False) wr w'):=⟨fun W hc=>(same_yes dc.2 Au Bt tl tl cu ct W (by omega) (by omega) ((Sl.of_own hown).ch hc (fun _ _ _ h=>h)) (hst0.ch (HCW.out.trans hc (fun _ _ h=>h)) (fun _ _ _ h=>h))).mono fun e w' h=>⟨h.1,hc.trans h.2 (fun _ _ h=>h)⟩⟩
     have HOWN:=Bx.mk hown
     have HU:=Bx.mk hu
     have HDD:=Bx.mk hd.out
     have HTLE:=Bx.mk htl
     have e7:(SK.toList==SK.toList)=true:=by simp
     have e8:(SK.toList != SK.toList)=false:=by simp
     have hcc:=Ch.refl (fun _=>False) wr
     have i1:(q:Int)<(n:Int):=by omega
     have hnb:=HNB.out
     clear hd hck0 hct0 hst0 hl1 hown hu hcd hdw hSK htl hSB
     go_wp2_with fail
     go_region_held3 (fun w'=>w'.cell? ⟨g5,q*2,none⟩=some (.string SK)∧w'.cell? ⟨g5,q*2+1,none⟩=some (.slice Au tl cu)∧w'.cell? ⟨bx,0,none⟩=some (.slice (some ⟨bd,od,none⟩) n c)∧w'.cell? ⟨bd,od+q*2,none⟩=some (.string SK)∧w'.cell? ⟨bd,od+q*2+1,none⟩=some (.slice Bt tl ct)) (first | go_keep | exact s2 | exact⟨x0,x1,x2,x3,x4⟩) ((go_at_call 16; (with_reducible (refine (HSAME.out _ (by first | exact hcc | exact hcc.drew)).mono ?_)); rintro e w7 ⟨rfl,hcc⟩; have s2:w7.cell? ⟨g5,q*2,none⟩=some (.string SK)∧w7.cell? ⟨g5,q*2+1,none⟩=some (.slice Au tl cu)∧w7.cell? ⟨bx,0,none⟩=some (.slice (some ⟨bd,od,none⟩) n c)∧w7.cell? ⟨bd,od+q*2,none⟩=some (.string SK)∧w7.cell? ⟨bd,od+q*2+1,none⟩=some (.slice Bt tl ct):=⟨hcc.cell (fun h=>h) x0,hcc.cell (fun h=>h) x1,hcc.cell (fun h=>h) x2,hcc.cell (fun h=>h) x3,hcc.cell (fun h=>h) x4⟩))
     all_goals
      have HCC:=Bx.mk hcc
      have y1:=hcc.cell (p:=⟨g5,q*2+1,none⟩) (fun h=>h) x1
      have HSP:=Bx.mk (spoil_any (.slice Au tl cu) tl _ w7 (by omega) (hcc.own HOWN.out (fun _ _ h=>h)))
      clear hcc s2 x0 x1 x2 x3 x4 HSAME e7 e8
      go_wp2_with fail
      refine HSP.out.mono ?_
      rintro e w8 ⟨rfl,hC8⟩
      have HX8:Bx (Spt w6 w8 vs ds (q+1)):=⟨hX.out.next HCC.out HU.out hC8 (fun i x hx hne g gx gu=>hne (HCD.out.apart i q x _ g hx HU.out gx gu))⟩
      clear hC8 HSP y1
      go_wp2
      go_roundw
      case rel=>exact⟨q+1,by omega,by go_num,HX8⟩
      case measure=>simp[intOf]; omega
    ·obtain rfl:n=q:=by omega
     have dk:decide ((n:Int)<(n:Int))=false:=decide_eq_false (by omega)
     have HSB:Bx (∀ g,SpB vs g→w3.heap.size≤g∧g<w4.heap.size):=⟨fun g ⟨i,u,hu,hg⟩=>by
      obtain⟨dd,hdd⟩:∃ dd,ds[i]? = some dd:=⟨_,List.getElem?_eq_getElem (by rw[HCD.out.kl]; exact (List.getElem?_eq_some_iff.1 hu).1)⟩
      have h5:=HCD.out.rows i u dd hu hdd
      exact⟨(h5.2 g hg).1,own_lt h5.1 g hg⟩⟩
     have HX:=Bx.mk hX.out.ch
     have HCW:Bx (Ch (fun _=>False) w wr):=⟨HC6.out.trans hX.out.ch (fun i hi h=>by have:=(HSB.out i h).1; have:=HC3.out.size; omega)⟩
     clear hX
     have HS8:Bx (Sp wr (fun i=>w4.heap.size≤i) b es hs):=⟨HS6.out.chS HX.out (fun i hi _ h=>by have h5:=(HSB.out i h).2; omega) (fun h=>by have h5:=(HSB.out _ h).1; have h6:=wtab_lt (HW.out.keep HC3.out); omega)⟩
     have HR8:Bx (Rs wr (fun i=>w5.heap.size≤i) b' es hs):=⟨HR6.out.ch HX.out (fun i hi _ h=>by have h5:=(HSB.out i h).2; have h6:=HC45.out.size; omega)⟩
     have HAL:=Bx.mk (alike_any HS8.out HR8.out HSEG.out HLT2.out p P m e (HP.out.ch HCW.out (fun _ _ _ h=>h)) HBP.out (by have:=HM.out; omega) (HO.out.ch HCW.out (fun h=>h)))
     go_wp2_with fail
     refine HAL.out.mono ?_
     rintro e0 w9 ⟨rfl,hC9⟩
     have HC9:=Bx.mk (HCW.out.trans hC9 (fun _ _ h=>h))
     have HKN:=Bx.mk (known_any w9 (HW.out.keep HC9.out))
     clear hC9 HAL
     go_wp2_with fail
     refine HKN.out.mono ?_
     rintro e0 w10 ⟨rfl,hC10⟩
     have HC10:=Bx.mk (HC9.out.trans hC10 (fun _ _ h=>h))
     clear hC10 HKN
     go_wp2
     go_ret
     exact⟨rfl,HC10.out⟩
end Go.Proofs.YtambgjpfoceieaaGreatDoor
