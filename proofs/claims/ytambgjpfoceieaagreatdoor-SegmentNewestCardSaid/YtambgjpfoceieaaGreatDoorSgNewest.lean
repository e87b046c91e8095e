/- Lemmas and contracts of this proof. Conditions: said at each. -/
import Derived.Test.YtambgjpfoceieaaGreatDoorGSgAlike
set_option maxHeartbeats 16000000
set_option maxRecDepth 100000
namespace Go.Proofs.YtambgjpfoceieaaGreatDoor
open Go.RowKit Go.Oct Go.Su Go.Sg Go.Fr
theorem sts_two {w:World} {A B A' B':Option Addr} {n c k d n' c' k' d':Nat} {ds es:List Dc} {gs hs:List Key} (T:TypeId) (hz:Dcs w (fun _=>True) A n ds) (hg:Kss w (fun _=>True) B k gs) (h1:n≤c) (h2:c≤maxLen) (h3:k≤d) (h4:d≤maxLen)
  (hz':Dcs w (fun _=>True) A' n' es) (hg':Kss w (fun _=>True) B' k' hs) (h1':n'≤c') (h2':c'≤maxLen) (h3':k'≤d') (h4':d'≤maxLen) :
  Sts (w.alloc (.cells #[.slice A n c, .slice B k d, .slice A' n' c', .slice B' k' d'] T)) (fun _=>True) (some ⟨w.heap.size,0,none⟩) 2 [(ds,gs),(es,hs)]:=by
 obtain rfl:=hz.len
 obtain rfl:=hg.len
 obtain rfl:=hz'.len
 obtain rfl:=hg'.len
 refine⟨rfl,fun _=>⟨w.heap.size,0,rfl,trivial,fun j s hs=>?_⟩⟩
 match j,hs with
 | 0,hs =>
  simp at hs
  subst hs
  refine⟨[.slice A ds.length c, .slice B gs.length d],rfl,⟨A,c,B,d,rfl,hz.alloc _,hg.alloc _,h1,h2,h3,h4⟩,fun i u hu=>?_⟩
  match i,hu with
  | 0,hu=>simp at hu; subst hu; exact (World.cell?_alloc_at _ _ _ _ rfl).trans rfl
  | 1,hu=>simp at hu; subst hu; exact (World.cell?_alloc_at _ _ _ _ rfl).trans rfl
 | 1,hs =>
  simp at hs
  subst hs
  refine⟨[.slice A' es.length c', .slice B' _ d'],rfl,⟨A',c',B',d',rfl,hz'.alloc _,hg'.alloc _,h1',h2',h3',h4'⟩,fun i u hu=>?_⟩
  match i,hu with
  | 0,hu=>simp at hu; subst hu; exact (World.cell?_alloc_at _ _ _ _ rfl).trans rfl
  | 1,hu=>simp at hu; subst hu; exact (World.cell?_alloc_at _ _ _ _ rfl).trans rfl
 | j+2,hs=>simp at hs
theorem sps_two {w:World} {b1 b2:Nat} {ds es:List Dc} {gs hs:List Key} (T:TypeId) (h1:Sp w (fun _=>True) b1 ds gs) (h2:Sp w (fun _=>True) b2 es hs) :
  Sps (w.alloc (.cells #[.pointer (some ⟨b1,0,none⟩), .pointer (some ⟨b2,0,none⟩)] T)) (fun _=>True) (some ⟨w.heap.size,0,none⟩) 2 [some (ds,gs),some (es,hs)]:=by
 have hc:=(Ch.refl (fun _=>False) w).alloc (.cells #[.pointer (some ⟨b1,0,none⟩), .pointer (some ⟨b2,0,none⟩)] T)
 refine⟨[.pointer (some ⟨b1,0,none⟩), .pointer (some ⟨b2,0,none⟩)],(Vs.built w T [.pointer (some ⟨b1,0,none⟩), .pointer (some ⟨b2,0,none⟩)]).mono (fun _ _ _=>trivial),rfl,fun i u o hu ho=>?_⟩
 match i,hu,ho with
 | 0,hu,ho =>
  simp at hu ho
  subst hu ho
  exact⟨b1,rfl,h1.keep hc⟩
 | 1,hu,ho =>
  simp at hu ho
  subst hu ho
  exact⟨b2,rfl,h2.keep hc⟩
 | i+2,hu,_=>simp at hu
theorem wS_two (s r:List Dc×List Key):wS [s,r]=wD s.1+wK s.2+(wD r.1+wK r.2):=by simp[wS]
theorem newest_law (s r:Go.Sg.St) (cs cs':List Value) (last:Bool) (w:World) (hE:SetE w (fun _=>True) cs s) (hok:SetOk s) (hE':SetE w (fun _=>True) cs' r) (hok':SetOk r) (hw:W.Tab w) :
  Calls Tryz.prog 11 #[.agg cs.toArray, .agg cs'.toArray, .bool last] w fun e w'=>e = .returned (.bool true)∧Ch (fun _=>False) w w':=by
 obtain⟨ds,gs⟩:=s
 obtain⟨A,c,B,d,rfl,hz,hg,h1,h2,h3,h4⟩:=hE
 obtain⟨es,hs⟩:=r
 obtain⟨A',c',B',d',rfl,hz',hg',h1',h2',h3',h4'⟩:=hE'
 simp only at hz hg h1 h3 hz' hg' h1' h3'
 obtain⟨n,hn⟩:∃ n,ds.length=n:=⟨_,rfl⟩
 obtain⟨k,hk⟩:∃ k,gs.length=k:=⟨_,rfl⟩
 obtain⟨n',hn'⟩:∃ n,es.length=n:=⟨_,rfl⟩
 obtain⟨k',hk'⟩:∃ k,hs.length=k:=⟨_,rfl⟩
 simp only[hn,hk,hn',hk'] at hz hg h1 h3 hz' hg' h1' h3' ⊢
 have HZ:=Bx.mk hz
 have HG:=Bx.mk hg
 have HOK:=Bx.mk hok
 have HZ':=Bx.mk hz'
 have HG':=Bx.mk hg'
 have HOK':=Bx.mk hok'
 have HW:=Bx.mk hw
 have HDM:=Bx.mk h4
 have HDM':=Bx.mk h4'
 clear hz hg hok hz' hg' hok' hw hn hk hn' hk'
 go_enter Tryz.func11,Tryz.ntmps11
 go_wp2_with fail
 obtain⟨w1,hw1⟩:∃ w1,w.alloc (.cells #[.slice A n c, .slice B k d] 25)=w1:=⟨_,rfl⟩
 have hs1:w1.heap.size=w.heap.size+1:=by rw[←hw1]; exact World.size_alloc ..
 have hC1:Ch (fun _=>False) w w1:=by rw[←hw1]; exact (Ch.refl _ w).alloc _
 have hcs:=cells_two w (.slice A n c) (.slice B k d) 25
 rw[hw1] at hcs ⊢
 rw[←hs1]
 obtain⟨w2,hw2⟩:∃ w2,w1.alloc (.cells #[.slice A' n' c', .slice B' k' d'] 25)=w2:=⟨_,rfl⟩
 have hs2:w2.heap.size=w1.heap.size+1:=by rw[←hw2]; exact World.size_alloc ..
 have hC12:Ch (fun _=>False) w1 w2:=by rw[←hw2]; exact (Ch.refl _ w1).alloc _
 have hcs':=cells_two w1 (.slice A' n' c') (.slice B' k' d') 25
 rw[hw2] at hcs' ⊢
 rw[←hs2]
 obtain⟨bx,hbx⟩:∃ bx,w.heap.size=bx:=⟨_,rfl⟩
 obtain⟨by',hby⟩:∃ by',w1.heap.size=by':=⟨_,rfl⟩
 rw[hbx] at hcs
 rw[hby] at hcs'
 rw[hbx,hby]
 have hC2:=hC1.trans hC12 (fun _ _ h=>h)
 have HH:=Bx.mk (heavyset_any [(ds,gs),(es,hs)] _ 2 2 _ (sts_two 25 (HZ.out.ch hC2 (fun _ _ _ h=>h)) (HG.out.ch hC2 (fun _ _ _ h=>h)) h1 h2 h3 h4 (HZ'.out.ch hC2 (fun _ _ _ h=>h)) (HG'.out.ch hC2 (fun _ _ _ h=>h)) h1' h2' h3' h4') (by intro s hs; simp at hs; rcases hs with rfl | rfl; exact HOK.out; exact HOK'.out) (Nat.le_refl _) (by unfold maxLen; omega))
 have HCX:=Bx.mk ((Ch.refl (fun _=>False) w2).alloc (.cells #[.slice A n c, .slice B k d, .slice A' n' c', .slice B' k' d'] 25))
 have HC2:=Bx.mk (hC2.trans HCX.out (fun _ _ h=>h))
 have HCS:=Bx.mk hcs
 have HCS':=Bx.mk hcs'
 have HC12:=Bx.mk hC12
 clear hw1 hs1 hC1 hcs hbx hw2 hs2 hC12 hcs' hby hC2
 generalize w2.alloc (.cells #[.slice A n c, .slice B k d, .slice A' n' c', .slice B' k' d'] 25)=w3 at *
 refine HH.out.mono ?_
 rintro e0 w4 ⟨o,rfl,hC4,hslim⟩
 have HSL:=Bx.mk hslim
 have HC4:=Bx.mk (HC2.out.trans hC4 (fun _ _ h=>h))
 have hC24:=HCX.out.trans hC4 (fun _ _ h=>h)
 have hb2:=hC24.cell (p:=⟨by',0,none⟩) (fun h=>h) HCS'.out.1
 have hb3:=hC24.cell (p:=⟨by',1,none⟩) (fun h=>h) HCS'.out.2
 have hC14:=HC12.out.trans hC24 (fun _ _ h=>h)
 have hb0:=hC14.cell (p:=⟨bx,0,none⟩) (fun h=>h) HCS.out.1
 have hb1:=hC14.cell (p:=⟨bx,1,none⟩) (fun h=>h) HCS.out.2
 clear hslim HH HC12 HCS HC2 hC4 HCX hC24 hC14 HCS'
 cases o with
 | true =>
  go_wp2_with fail
  go_ret
  exact⟨rfl,HC4.out⟩
 | false =>
  have HWS:Bx (wD ds+wK gs+(wD es+wK hs)≤1500):=⟨by have h:=(HSL.out rfl).1; rwa[wS_two] at h⟩
  have HLT:=Bx.mk (lite_of (docs:=ds) (gone:=gs) (by have:=HWS.out; omega))
  have HLT':=Bx.mk (lite_of (docs:=es) (gone:=hs) (by have:=HWS.out; omega))
  have HBY:Bx (∀ d∈ds,∀ x∈d.2,0≤x∧x<256):=⟨fun d hd=>(HOK.out.1 d hd).2.2⟩
  have HBY':Bx (∀ d∈es,∀ x∈d.2,0≤x∧x<256):=⟨fun d hd=>(HOK'.out.1 d hd).2.2⟩
  have HB0:=Bx.mk hb0
  have HB1:=Bx.mk hb1
  have HB2:=Bx.mk hb2
  have HB3:=Bx.mk hb3
  have HRA:=Bx.mk (rnew_any ds gs A B n c k d w4 (HZ.out.ch HC4.out (fun _ _ _ h=>h)) (HG.out.ch HC4.out (fun _ _ _ h=>h)) HLT.out h3 HDM.out HBY.out)
  clear HSL hb2 hb3
  go_wp2_with fail
  refine HRA.out.mono ?_
  rintro e0 w5 ⟨ec,ds1,gs1,hres,hC5,h6⟩
  have HRES:=Bx.mk hres
  have HC45:=Bx.mk hC5
  have HC5:=Bx.mk (HC4.out.trans hC5 (fun _ _ h=>h))
  have hb2:=hC5.cell (p:=⟨by',0,none⟩) (fun h=>h) HB2.out
  have hb3:=hC5.cell (p:=⟨by',1,none⟩) (fun h=>h) HB3.out
  have HRB:=Bx.mk (rnew_any es hs A' B' n' c' k' d' w5 (HZ'.out.ch HC5.out (fun _ _ _ h=>h)) (HG'.out.ch HC5.out (fun _ _ _ h=>h)) HLT'.out h3' HDM'.out HBY'.out)
  clear hres hC5 HRA hb0 hb1
  rcases h6 with ⟨hec,rfl⟩ | ⟨rfl,ba,rfl,hRa⟩
  ·have n2:((ec:Int) != 0)=true:=by simpa using hec
   clear hec
   go_wp2_with fail
   refine HRB.out.mono ?_
   intro e0 w6 hr
   have hr':=hr
   obtain⟨ec2,ds2,gs2,_,hC6,h7⟩:=hr
   have HC6:=Bx.mk (HC5.out.trans hC6 (fun _ _ h=>h))
   have HKN:=Bx.mk (known_any w6 (HW.out.keep HC6.out))
   clear hr' hC6 HRB hb2 hb3
   have h8:∃ v:Value,e0 = .returned (.tuple #[v, .int .i64 ec2]):=by
    rcases h7 with ⟨_,rfl⟩ | ⟨rfl,_,rfl,_⟩
    ·exact⟨_,rfl⟩
    ·exact⟨_,rfl⟩
   clear h7
   obtain⟨v8,rfl⟩:=h8
   go_wp2_with fail
   refine HKN.out.mono ?_
   rintro e0 w7 ⟨rfl,hC7⟩
   have HC7:=Bx.mk (HC6.out.trans hC7 (fun _ _ h=>h))
   clear hC7 HKN
   go_wp2
   go_ret
   exact⟨rfl,HC7.out⟩
  have HRa:=Bx.mk hRa
  clear hRa
  go_wp2_with fail
  refine HRB.out.mono ?_
  rintro e0 w6 ⟨ec,ds2,gs2,hres2,hC6,h7⟩
  have HRES2:=Bx.mk hres2
  have HC6:=Bx.mk (HC5.out.trans hC6 (fun _ _ h=>h))
  have HC46:=Bx.mk (HC45.out.trans hC6 (fun _ _ h=>h))
  have HRa6:=Bx.mk (HRa.out.keep hC6)
  clear hres2 hC6 HRB hb2 hb3 HRa
  rcases h7 with ⟨hec,rfl⟩ | ⟨rfl,bb,rfl,hRb⟩
  ·have n2:((ec:Int) != 0)=true:=by simpa using hec
   have HKN:=Bx.mk (known_any w6 (HW.out.keep HC6.out))
   clear hec
   go_wp2_with fail
   refine HKN.out.mono ?_
   rintro e0 w7 ⟨rfl,hC7⟩
   have HC7:=Bx.mk (HC6.out.trans hC7 (fun _ _ h=>h))
   clear hC7 HKN
   go_wp2
   go_ret
   exact⟨rfl,HC7.out⟩
  have HRb6:=Bx.mk hRb
  have HSEG:=Bx.mk (newres_seg HRES.out rfl HBY.out)
  have HSEG2:=Bx.mk (newres_seg HRES2.out rfl HBY'.out)
  have HMD:=Bx.mk (newres_yes HRES.out rfl).1
  have HMD2:=Bx.mk (newres_yes HRES2.out rfl).1
  have hb0:=HC46.out.cell (p:=⟨bx,0,none⟩) (fun h=>h) HB0.out
  have hb1:=HC46.out.cell (p:=⟨bx,1,none⟩) (fun h=>h) HB1.out
  have HPA:=Bx.mk (new_any ds gs A B n c k d w6 (HZ.out.ch HC6.out (fun _ _ _ h=>h)) (HG.out.ch HC6.out (fun _ _ _ h=>h)) HLT.out HBY.out (HW.out.keep HC6.out))
  clear hRb
  go_wp2_with fail
  refine HPA.out.mono ?_
  rintro e0 w7 ⟨ec,ds',gs',hres,hC7,h8⟩
  obtain⟨e1,e2⟩:=HRES.out.same hres
  obtain⟨rfl,rfl⟩:=e2 rfl
  subst e1
  rcases h8 with ⟨h0,_⟩ | ⟨_,b1,rfl,hS1⟩
  ·exact absurd rfl h0
  have HC7:=Bx.mk (HC6.out.trans hC7 (fun _ _ h=>h))
  have HC67:=Bx.mk hC7
  have hb2:=(HC46.out.trans hC7 (fun _ _ h=>h)).cell (p:=⟨by',0,none⟩) (fun h=>h) HB2.out
  have hb3:=(HC46.out.trans hC7 (fun _ _ h=>h)).cell (p:=⟨by',1,none⟩) (fun h=>h) HB3.out
  have HS1:=Bx.mk hS1
  have HPB:=Bx.mk (new_any es hs A' B' n' c' k' d' w7 (HZ'.out.ch HC7.out (fun _ _ _ h=>h)) (HG'.out.ch HC7.out (fun _ _ _ h=>h)) HLT'.out HBY'.out (HW.out.keep HC7.out))
  clear hres hC7 HPA hS1 e2 hb0 hb1
  go_wp2_with fail
  refine HPB.out.mono ?_
  rintro e0 w8 ⟨ec,ds',gs',hres,hC8,h9⟩
  obtain⟨e1,e2⟩:=HRES2.out.same hres
  obtain⟨rfl,rfl⟩:=e2 rfl
  subst e1
  rcases h9 with ⟨h0,_⟩ | ⟨_,b2,rfl,hS2⟩
  ·exact absurd rfl h0
  have HC8:=Bx.mk (HC7.out.trans hC8 (fun _ _ h=>h))
  have HC68:=Bx.mk (HC67.out.trans hC8 (fun _ _ h=>h))
  have HS18:=Bx.mk ((HS1.out.keep hC8).mono (G:=fun _=>True) (fun _ _ _=>trivial))
  have HS28:=Bx.mk (hS2.mono (G:=fun _=>True) (fun _ _ _=>trivial))
  have HRa8:=Bx.mk (HRa6.out.keep HC68.out)
  have HRb8:=Bx.mk (HRb6.out.keep HC68.out)
  clear hres hC8 HPB hS2 e2 hb2 hb3 HS1 HRa6 HRb6
  go_wp2_with fail
  have hsp:=sps_two 29 HS18.out HS28.out
  have HC89:=Bx.mk ((Ch.refl (fun _=>False) w8).alloc (.cells #[.pointer (some ⟨b1,0,none⟩), .pointer (some ⟨b2,0,none⟩)] 29))
  have HWM:Bx (wD (fD [(ds1,gs1),(ds2,gs2)])+wK (fK [(ds1,gs1),(ds2,gs2)])≤1500):=⟨by
   rw[wS_flat,wS_two]
   show wD ds1+wK gs1+(wD ds2+wK gs2)≤1500
   have q1:=wD_perm HMD.out.pd
   have q2:=wK_perm HMD.out.pg
   have q3:=wD_perm HMD2.out.pd
   have q4:=wK_perm HMD2.out.pg
   have q5:=HWS.out
   omega⟩
  have HLM:=Bx.mk (lite_of HWM.out)
  have HSEGS:Bx (∀ s∈[(ds1,gs1),(ds2,gs2)],Seg s.1 s.2):=⟨by intro s hs; simp at hs; rcases hs with rfl | rfl; exact HSEG.out; exact HSEG2.out⟩
  have HMG:=Bx.mk (pmerge_any [some (ds1,gs1),some (ds2,gs2)] last _ 2 2 _ hsp HLM.out HSEGS.out (by omega) (HW.out.keep (HC8.out.trans HC89.out (fun _ _ h=>h))))
  have HC9:=Bx.mk (HC8.out.trans HC89.out (fun _ _ h=>h))
  clear hsp
  generalize w8.alloc (.cells #[.pointer (some ⟨b1,0,none⟩), .pointer (some ⟨b2,0,none⟩)] 29)=w9 at *
  refine HMG.out.mono ?_
  rintro e0 wa (⟨hnn,_⟩ | ⟨_,docs,gone,hmgu,hsd,hsk,ec,ms,ns,hres,hCa,h10⟩)
  ·simp at hnn
  obtain⟨e1,hmerged⟩:=newres_mgu hres hmgu HSEGS.out
  subst e1
  rcases h10 with ⟨h0,_⟩ | ⟨_,b3,rfl,hS3⟩
  ·exact absurd rfl h0
  have HMER:=Bx.mk hmerged
  have HMD3:=Bx.mk (newres_yes hres rfl).1
  have HLT3:=Bx.mk ((HLM.out.sub hsd hsk).perm HMD3.out.pd HMD3.out.pg)
  have HCa:=Bx.mk (HC9.out.trans hCa (fun _ _ h=>h))
  have HC8a:=Bx.mk (HC89.out.trans hCa (fun _ _ h=>h))
  have HRaa:=Bx.mk (HRa8.out.keep HC8a.out)
  have HRba:=Bx.mk (HRb8.out.keep HC8a.out)
  have HS3:=Bx.mk hS3
  have HSEG3:=Bx.mk (hmerged.seg HSEGS.out)
  have HMGET:Bx (∀ W,Ch (fun _=>False) wa W→∀ key,Calls Tryz.prog 34 #[.pointer (some ⟨b3,0,none⟩),kv key] W (GetOf ms ns key W)):=⟨fun W hc key=>get_any (HS3.out.keep hc) HSEG3.out.rd HSEG3.out.rg (by have:=HLT3.out.n; omega) (by have:=HLT3.out.m; omega) key⟩
  have HLT1:=Bx.mk (HLT.out.perm HMD.out.pd HMD.out.pg)
  have HLT2:=Bx.mk (HLT'.out.perm HMD2.out.pd HMD2.out.pg)
  have HTL1:Bx (∀ dc∈ds1,dc.2.length≤60000):=⟨lite_each HLT1.out⟩
  have HTL2:Bx (∀ dc∈ds2,dc.2.length≤60000):=⟨lite_each HLT2.out⟩
  have HAGET:Bx (∀ W,Ch (fun _=>False) wa W→∀ key,Calls Tryz.prog 38 #[.pointer (some ⟨ba,0,none⟩),kv key] W (GetOf ds1 gs1 key W)):=⟨fun W hc key=>rget_any (HRaa.out.keep hc) (by have:=HLT1.out.n; omega) (by have:=HLT1.out.m; omega) (fun dc hd=>by have:=HTL1.out dc hd; omega) key⟩
  obtain⟨D1,f1,_,_,r1,_,r3,_,r5,r6,_,_,_⟩:=HRaa.out
  obtain⟨D2,f2,_,_,t1,_,t3,_,t5,t6,_,_,_⟩:=HRba.out
  obtain⟨m1,hm1⟩:∃ m,ds1.length=m:=⟨_,rfl⟩
  obtain⟨m2,hm2⟩:∃ m,ds2.length=m:=⟨_,rfl⟩
  rw[hm1] at r1 r3 r5
  rw[hm2] at t1 t3 t5
  have HR1:=Bx.mk r1
  have HT1:=Bx.mk t1
  have HD1:=Bx.mk r3
  have HD2:=Bx.mk t3
  have HM1:=Bx.mk hm1
  have HM2:=Bx.mk hm2
  have hm1b:m1≤10000:=by rw[←hm1]; exact HLT1.out.n
  have hm2b:m2≤10000:=by rw[←hm2]; exact HLT2.out.n
  clear hmgu hsd hsk hres hmerged hCa hS3 HMG r1 r3 t1 t3 hm1 hm2
  go_wp2_with fail
  go_loopw [17,18,19,20,21] (fun v i _ _ _ wr=>∃ q:Nat,q≤m1∧i = .int .i64 q∧v = .int .i64 q∧Ch (fun _=>False) wa wr) (fun _ i _ _ _ _=>m1-(intOf i).toNat)
  case atStart=>exact⟨0,Nat.zero_le _,rfl,rfl,Ch.refl _ _⟩
  case round =>
   obtain⟨q,hq,rfl,rfl,hC⟩:=hrel
   have hg0:=hC.cell (p:=⟨ba,0,none⟩) (fun h=>h) HR1.out
   by_cases hlt:q<m1
   ·have dk:decide ((q:Int)<(m1:Int))=true:=decide_eq_true (by omega)
    obtain⟨bd,od,dc,Bt,ct,rfl,_,hd,hck0,hct0,hst0,hl1,hl2⟩:=HD1.out.get hlt
    have hck:=hC.cell (p:=⟨bd,od+q*2,none⟩) (fun h=>h) hck0
    obtain⟨SK,hSK⟩:∃ S:ByteArray,kv dc.1 = .string S:=⟨_,rfl⟩
    rw[hSK] at hck
    have HGT:=Bx.mk (HMGET.out wr hC dc.1)
    rw[hSK] at HGT
    have HD:=Bx.mk hd.out
    have HCT0:=Bx.mk hct0
    have HST0:=Bx.mk hst0
    have HCQ:=Bx.mk hC
    have HAT:=Bx.mk (newest_one HMER.out HSEG.out (List.mem_of_getElem? hd.out))
    have htb:=HTL1.out dc (List.mem_of_getElem? hd.out)
    obtain⟨tl,htl⟩:∃ tl,dc.2.length=tl:=⟨_,rfl⟩
    have HTLE:=Bx.mk htl
    rw[htl] at HCT0 HST0 htb hl1
    have i1:(q:Int)<(m1:Int):=by omega
    clear hd hck0 hct0 hst0 htl hSK hC
    go_wp2_with fail
    refine HGT.out.mono ?_
    rintro e0 wb ⟨vb,tb,hsb,knb,rfl,hFb,hGR⟩
    obtain⟨rfl,rfl,rfl⟩:tb=dc.2∧hsb=true∧knb=true:=by
     have h:=hGR
     unfold GR at h
     rw[HAT.out] at h
     exact h
    obtain⟨Ab,cb,rfl,_,_⟩:=fr_shape hFb HTLE.out
    have HCB:=Bx.mk (HCQ.out.trans hFb.2.2 (fun _ _ h=>h))
    have g0:=HCB.out.cell (p:=⟨ba,0,none⟩) (fun h=>h) HR1.out
    have g1:=HCB.out.cell (p:=⟨bd,od+q*2+1,none⟩) (fun h=>h) HCT0.out
    have HSM:=Bx.mk (same_yes dc.2 Ab Bt tl tl cb ct wb (by omega) (by omega) (Fresh.sl hFb HTLE.out.symm) (HST0.out.ch HCB.out (fun _ _ _ h=>h)))
    clear hFb hGR HGT hg0 hck
    go_wp2_with fail
    refine HSM.out.mono ?_
    rintro e0 wd ⟨rfl,hCd⟩
    have HCD:=Bx.mk (HCB.out.trans hCd (fun _ _ h=>h))
    clear hCd HSM g0 g1
    go_wp2
    go_roundw
    case rel=>exact⟨q+1,by omega,by go_num,by go_num,HCD.out⟩
    case measure=>simp[intOf]; omega
   ·obtain rfl:m1=q:=by omega
    have dk:decide ((m1:Int)<(m1:Int))=false:=decide_eq_false (by omega)
    have HCQ:=Bx.mk hC
    obtain⟨wq,rfl⟩:∃ wq:World,wq=wr:=⟨_,rfl⟩
    clear hC
    go_wp2_with fail
    go_loopw [17,22,23,24,25,26,27,28] (fun v i _ _ _ _ _ _ wr=>∃ q z:Nat,q≤m2∧i = .int .i64 q∧v = .int .i64 z∧z≤m1+q∧Bx (z=m1+(newOf (ds1,gs1) (ds2.take q)).length)∧Ch (fun _=>False) wa wr) (fun _ i _ _ _ _ _ _ _=>m2-(intOf i).toNat)
    case atStart=>exact⟨0,m1,Nat.zero_le _,rfl,rfl,by omega,⟨by simp[newOf]⟩,HCQ.out⟩
    case round =>
     obtain⟨q,z,hq,rfl,rfl,hzq,hzz,hC⟩:=hrel
     have ht0:=hC.cell (p:=⟨bb,0,none⟩) (fun h=>h) HT1.out
     by_cases hlt:q<m2
     ·have dk2:decide ((q:Int)<(m2:Int))=true:=decide_eq_true (by omega)
      obtain⟨bd,od,dc,Bt,ct,rfl,_,hd,hck0,hct0,hst0,hl1,hl2⟩:=HD2.out.get hlt
      have hck:=hC.cell (p:=⟨bd,od+q*2,none⟩) (fun h=>h) hck0
      obtain⟨SK,hSK⟩:∃ S:ByteArray,kv dc.1 = .string S:=⟨_,rfl⟩
      rw[hSK] at hck
      have HSK:=Bx.mk hSK
      have HGA:=Bx.mk (HAGET.out wr hC dc.1)
      rw[hSK] at HGA
      have HD:=Bx.mk hd.out
      have HCK0:=Bx.mk hck0
      have HCT0:=Bx.mk hct0
      have HST0:=Bx.mk hst0
      have HCR:=Bx.mk hC
      have HTWO:Bx (know (ds1,gs1) dc.1=none→at_ ms dc.1=some dc.2):=⟨fun hkn=>newest_two HMER.out HSEG2.out (List.mem_of_getElem? hd.out) hkn⟩
      have htb:=HTL2.out dc (List.mem_of_getElem? hd.out)
      obtain⟨tl,htl⟩:∃ tl,dc.2.length=tl:=⟨_,rfl⟩
      have HTLE:=Bx.mk htl
      rw[htl] at HCT0 HST0 htb hl1
      have i1:(q:Int)<(m2:Int):=by omega
      clear hd hck0 hct0 hst0 htl hSK hC
      go_wp2_with fail
      refine HGA.out.mono ?_
      rintro e0 wb ⟨vb,tb,hsb,knb,rfl,hFb,hGR⟩
      have HKN:=Bx.mk hGR.known
      have HCB:=Bx.mk (HCR.out.trans hFb.2.2 (fun _ _ h=>h))
      have g0:=HCB.out.cell (p:=⟨bb,0,none⟩) (fun h=>h) HT1.out
      have hck:=HCB.out.cell (p:=⟨bd,od+q*2,none⟩) (fun h=>h) HCK0.out
      rw[HSK.out] at hck
      have HGM:=Bx.mk (HMGET.out wb HCB.out dc.1)
      rw[HSK.out] at HGM
      clear hFb hGR HGA ht0
      go_wp2_with fail
      refine HGM.out.mono ?_
      rintro e0 wd ⟨vd,td,hsd,knd,rfl,hFd,hGR⟩
      have HCD:=Bx.mk (HCB.out.trans hFd.2.2 (fun _ _ h=>h))
      cases knb with
      | true =>
       have HZN:Bx (z=m1+(newOf (ds1,gs1) (ds2.take (q+1))).length):=⟨by
        rw[newOf_take HD.out]
        have h:=HKN.out
        cases hk:know (ds1,gs1) dc.1 with
        | none=>rw[hk] at h; simp at h
        | some x=>simpa using hzz.out⟩
       clear hFd hGR HGM g0 hck hzz
       go_wp2_with fail
       go_roundw
       case rel=>exact⟨q+1,z,by omega,by go_num,rfl,by omega,HZN,HCD.out⟩
       case measure=>simp[intOf]; omega
      | false =>
       have hkno:know (ds1,gs1) dc.1=none:=by
        have h:=HKN.out
        cases hk:know (ds1,gs1) dc.1 with
        | none=>rfl
        | some x=>rw[hk] at h; simp at h
       obtain⟨rfl,rfl,rfl⟩:td=dc.2∧hsd=true∧knd=true:=by
        have h:=hGR
        unfold GR at h
        rw[HTWO.out hkno] at h
        exact h
       have HZN:Bx (z+1=m1+(newOf (ds1,gs1) (ds2.take (q+1))).length):=⟨by
        rw[newOf_take HD.out,hkno]
        have:=hzz.out
        simp
        omega⟩
       obtain⟨Ad,cd,rfl,_,_⟩:=fr_shape hFd HTLE.out
       have g1:=HCD.out.cell (p:=⟨bb,0,none⟩) (fun h=>h) HT1.out
       have g2:=HCD.out.cell (p:=⟨bd,od+q*2+1,none⟩) (fun h=>h) HCT0.out
       have HSM:=Bx.mk (same_yes dc.2 Ad Bt tl tl cd ct wd (by omega) (by omega) (Fresh.sl hFd HTLE.out.symm) (HST0.out.ch HCD.out (fun _ _ _ h=>h)))
       clear hFd hGR HGM g0 hck hzz hkno
       go_wp2_with fail
       refine HSM.out.mono ?_
       rintro e0 wf ⟨rfl,hCf⟩
       have HCF:=Bx.mk (HCD.out.trans hCf (fun _ _ h=>h))
       clear hCf HSM g1 g2
       go_wp2
       go_roundw
       case rel=>exact⟨q+1,z+1,by omega,by go_num,by go_num,by omega,HZN,HCF.out⟩
       case measure=>simp[intOf]; omega
     ·obtain rfl:m2=q:=by omega
      have dk2:decide ((m2:Int)<(m2:Int))=false:=decide_eq_false (by omega)
      have HML:Bx (ms.length=z):=⟨by
       have h:=newest_len HMER.out HSEG.out HSEG2.out
       have h1:=hzz.out
       rw[List.take_of_length_le (Nat.le_of_eq HM2.out)] at h1
       simp only at h
       rw[HM1.out] at h
       omega⟩
      have HCR:=Bx.mk hC
      obtain⟨wt,rfl⟩:∃ wt:World,wt=wr:=⟨_,rfl⟩
      have HKY:=Bx.mk (keys_any (HS3.out.keep hC) (by have:=HLT3.out.n; omega))
      rw[HML.out] at HKY
      have ez:((z:Int)==(z:Int))=true:=by simp
      clear hC hzz
      go_wp2_with fail
      refine HKY.out.mono ?_
      rintro e0 wu ⟨Au,cu,rfl,hGu,_,_⟩
      have HCU:=Bx.mk (HCR.out.trans hGu.ch (fun _ _ h=>h))
      clear hGu HKY ht0
      cases last with
      | false =>
       have HCW:=Bx.mk (HCa.out.trans HCU.out (fun _ _ h=>h))
       have HKN:=Bx.mk (known_any wu (HW.out.keep HCW.out))
       go_wp2_with fail
       refine HKN.out.mono ?_
       rintro e0 wv ⟨rfl,hCv⟩
       have HCV:=Bx.mk (HCW.out.trans hCv (fun _ _ h=>h))
       clear hCv HKN
       go_wp2
       go_ret
       exact⟨rfl,HCV.out⟩
      | true =>
       have HNS:=Bx.mk (newest_gone HMER.out)
       have HGN:=Bx.mk (gone_any (HS3.out.keep HCU.out) (by have:=HLT3.out.m; omega))
       rw[HNS.out] at HGN
       go_wp2_with fail
       refine HGN.out.mono ?_
       rintro e0 wv ⟨Av,cv,rfl,hGv,_,_⟩
       have HCW:=Bx.mk (HCa.out.trans (HCU.out.trans hGv.ch (fun _ _ h=>h)) (fun _ _ h=>h))
       have HKN:=Bx.mk (known_any wv (HW.out.keep HCW.out))
       clear hGv HGN
       go_wp2_with fail
       refine HKN.out.mono ?_
       rintro e0 wx ⟨rfl,hCx⟩
       have HCX:=Bx.mk (HCW.out.trans hCx (fun _ _ h=>h))
       clear hCx HKN
       go_wp2
       go_ret
       exact⟨rfl,HCX.out⟩
end Go.Proofs.YtambgjpfoceieaaGreatDoor
