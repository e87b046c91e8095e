/- Lemmas and contracts of this proof. Conditions: said at each. -/
import Derived.Test.YtambgjpfoceieaaGreatDoorSgPair
import Derived.Test.YtambgjpfoceieaaGreatDoorSgSwap
set_option maxHeartbeats 16000000
set_option maxRecDepth 100000
namespace Go.Proofs.YtambgjpfoceieaaGreatDoor
open Go.RowKit Go.Oct Go.Su Go.Sg Go.Fr
theorem sps_pair {w:World} {b1 b2:Nat} {ds es:List Dc} {gs hs:List Key} (T:TypeId) (h1:Sp w (fun _=>True) b1 ds gs) (h2:Sp w (fun _=>True) b2 es hs) :
  Sps (w.alloc (.cells #[.pointer (some ⟨b1,0,none⟩), .pointer (some ⟨b2,0,none⟩)] T)) (fun _=>True) (some ⟨w.heap.size,0,none⟩) 2 [some (ds,gs),some (es,hs)]:=by
 have hc:=(Ch.refl (fun _=>False) w).alloc (.cells #[.pointer (some ⟨b1,0,none⟩), .pointer (some ⟨b2,0,none⟩)] T)
 refine⟨[.pointer (some ⟨b1,0,none⟩), .pointer (some ⟨b2,0,none⟩)],(Vs.built w T [.pointer (some ⟨b1,0,none⟩), .pointer (some ⟨b2,0,none⟩)]).mono (fun _ _ _=>trivial),rfl,fun i u o hu ho=>?_⟩
 match i,hu,ho with
 | 0,hu,ho =>
  simp at hu ho
  subst hu ho
  exact⟨b1,rfl,h1.keep hc⟩
 | 1,hu,ho =>
  simp at hu ho
  subst hu ho
  exact⟨b2,rfl,h2.keep hc⟩
 | i+2,hu,_=>simp at hu
theorem Sps.rest {w:World} {F:Nat→Prop} {g n k:Nat} {os:List (Option (List Dc×List Key))} (h:Sps w F (some ⟨g,0,none⟩) n os) (hk:k≤n):Sps w F (some ⟨g,k,none⟩) (n-k) (os.drop k):=by
 have:=h.drop hk
 rwa[Nat.zero_add] at this
theorem merged_w {l:Sets} {docs ds:List Dc} {gone gs:List Key} (hsd:docs.Sublist (fD l)) (hsk:gone.Sublist (fK l)) (h:Made docs gone ds gs):wD ds+wK gs≤wS l:=by
 have h1:=wD_sub hsd
 have h2:=wK_sub hsk
 have h3:=wD_perm h.pd
 have h4:=wK_perm h.pg
 have h5:=wS_flat l
 omega
theorem low10 (x:Int):∃ a:Nat,bits .and .i64 x 1023=(a:Int)∧a<1024:=by
 refine⟨(x%((1024:Nat):Int)).toNat,sg_and_low x 10 (by decide),?_⟩
 have:=Int.emod_lt_of_pos x (show (0:Int)<((1024:Nat):Int) by omega)
 have:=Int.emod_nonneg x (show ((1024:Nat):Int)≠0 by omega)
 omega
theorem tmod_nat (a n:Nat):(a:Int).tmod ((n:Int)+1)=((a%(n+1):Nat):Int):=by
 rw[Int.tmod_eq_emod_of_nonneg (by omega),Int.natCast_emod]
 rfl
theorem parts_law (l:Sets) (z1:Int) (last:Bool) (p:List Int) (A:Option Addr) (n c:Nat) (P:Option Addr) (m e:Nat) (w:World) (hs:Sts w (fun _=>True) A n l) (hl:n≤c) (hcm:c≤maxLen) (hok:∀ s∈l,SetOk s) (hp:Sl w (fun _=>True) .u8 P m p) (hbp:∀ x∈p,0≤x∧x<256) (hm:m≤9223372036854775807) (ho:O.Tab w) (hw:W.Tab w) :
  Calls Tryz.prog 7 #[.slice A n c, .int .i64 z1, .bool last, .slice P m e] w fun e w'=>e = .returned (.bool true)∧Ch (fun _=>False) w w':=by
 have HL:=Bx.mk hs.len
 have HZ:=Bx.mk hs
 have HOK:=Bx.mk hok
 have HP:=Bx.mk hp
 have HBP:=Bx.mk hbp
 have HO:=Bx.mk ho
 have HW:=Bx.mk hw
 have HH:=Bx.mk (heavyset_any l A n c w hs hok hl hcm)
 clear hs hok hp hbp ho hw
 go_enter Tryz.func7,Tryz.ntmps7
 go_wp2_with fail
 refine HH.out.mono ?_
 rintro e0 w3 ⟨o,rfl,hC3,hslim⟩
 have HSL:=Bx.mk hslim
 have HC3:=Bx.mk hC3
 clear hslim HH hC3
 cases o with
 | true =>
  go_wp2_with fail
  go_ret
  exact⟨rfl,HC3.out⟩
 | false =>
  have HWS:Bx (wS l≤1500):=⟨(HSL.out rfl).1⟩
  have hn8:n≤8:=by rw[←HL.out]; exact (HSL.out rfl).2
  clear HSL
  by_cases hm1:100<m
  ·have d1:decide ((100:Int)<(m:Int))=true:=decide_eq_true (by omega)
   have d2:decide (100<m)=true:=decide_eq_true hm1
   go_wp2_with fail
   go_ret
   exact⟨rfl,HC3.out⟩
  have d1:decide ((100:Int)<(m:Int))=false:=decide_eq_false (by omega)
  have d2:decide (100<m)=false:=decide_eq_false hm1
  have HM:Bx (m≤100):=⟨by omega⟩
  clear hm1
  go_wp2_with fail
  go_loopw [9,10,11,12,13,14,15] (fun va vb i _ _ _ _ wr=>∃ (k q:Nat) (os:Sets) (us xs:List Value),k≤n∧q≤k∧i = .int .i64 k∧Bx (Pg w3 wr va vb q os us xs)∧Bx (wS os≤wS (l.take k))∧Bx (∀ s∈os,Seg s.1 s.2)) (fun _ _ i _ _ _ _ _=>n-(intOf i).toNat)
  case atStart=>exact⟨0,0,[],[],[],Nat.zero_le _,Nat.le_refl _,rfl,⟨Pg.start _⟩,⟨Nat.zero_le _⟩,⟨fun s h=>by cases h⟩⟩
  case round =>
   obtain⟨k,q,os,us,xs,hk,hqk,rfl,hPG,hWO,hSG⟩:=hrel
   have HCW:=Bx.mk (HC3.out.trans hPG.out.ga.ch (fun _ _ h=>h))
   by_cases hkn:k<n
   ·have dk:decide ((k:Int)<(n:Int))=true:=decide_eq_true (by omega)
    obtain⟨bd,od,st,B1,c1,D1,d1,rfl,_,hst,hc0,hc1,hzd,hzk,g1,g2,g3,g4⟩:=HZ.out.get hkn
    have HST:=Bx.mk hst.out
    have x0:=HCW.out.cell (p:=⟨bd,od+k*2,none⟩) (fun h=>h) hc0
    have x1:=HCW.out.cell (p:=⟨bd,od+k*2+1,none⟩) (fun h=>h) hc1
    have HWT:Bx (wD st.1+wK st.2≤1500):=⟨by
     have h1:=wS_take HST.out
     have h2:=wS_take_le l (k+1)
     have:=HWS.out
     omega⟩
    have HLT:=Bx.mk (lite_of HWT.out)
    have HBY:Bx (∀ d∈st.1,∀ x∈d.2,0≤x∧x<256):=⟨fun d hd=>((HOK.out st (List.mem_of_getElem? HST.out)).1 d hd).2.2⟩
    obtain⟨nd,hnd⟩:∃ nd,st.1.length=nd:=⟨_,rfl⟩
    obtain⟨nk,hnk⟩:∃ nk,st.2.length=nk:=⟨_,rfl⟩
    rw[hnd] at x0 hzd g1
    rw[hnk] at x1 hzk g3
    have HRNW:Bx (∀ W,Ch (fun _=>False) wr W→Calls Tryz.prog 15 #[.slice B1 nd c1, .slice D1 nk d1] W fun e w'=>∃ (v:Value) (ec:Int),e = .returned (.tuple #[v, .int .i64 ec])∧Ch (fun _=>False) wr w'∧Bx (RNw st.1 st.2 wr w' v ec)):=⟨fun W hc=>(rnew_any st.1 st.2 B1 D1 nd c1 nk d1 W (hzd.ch (HCW.out.trans hc (fun _ _ h=>h)) (fun _ _ _ h=>h)) (hzk.ch (HCW.out.trans hc (fun _ _ h=>h)) (fun _ _ _ h=>h)) HLT.out g3 g4 HBY.out).mono fun e w' h=>(h.back hc).two⟩
    have HZD:=Bx.mk hzd
    have HZK:=Bx.mk hzk
    have hcc:=Ch.refl (fun _=>False) wr
    have i1:(k:Int)<(n:Int):=by omega
    clear hst hc0 hc1 hzd hzk hnd hnk g1 g2 g3 g4
    go_wp2_with fail
    go_region_held3 (fun w'=>w'.cell? ⟨bd,od+k*2,none⟩=some (.slice B1 nd c1)∧w'.cell? ⟨bd,od+k*2+1,none⟩=some (.slice D1 nk d1)) (first | go_keep | exact s2 | exact⟨x0,x1⟩) ((go_at_call 15; (with_reducible (refine (HRNW.out _ (by first | exact hcc | exact hcc.drew)).mono ?_)); rintro e w4 ⟨v4,ec,rfl,hcc,hP4⟩; have s2:w4.cell? ⟨bd,od+k*2,none⟩=some (.slice B1 nd c1)∧w4.cell? ⟨bd,od+k*2+1,none⟩=some (.slice D1 nk d1):=⟨hcc.cell (fun h=>h) x0,hcc.cell (fun h=>h) x1⟩))
    all_goals
     have HC4:=Bx.mk hcc
     have HCV:=Bx.mk (HCW.out.trans hcc (fun _ _ h=>h))
     have y0:=s2.1
     have y1:=s2.2
     clear HRNW s2 x0 x1 hcc
     obtain⟨es,gs,hres,hv4⟩:=hP4.out.h
     have HRES:=Bx.mk hres
     clear hres hP4
     rcases hv4 with ⟨hec,rfl⟩ | ⟨rfl,b',rfl,hR⟩
     ·have n2:((ec:Int) != 0)=true:=by simpa using hec
      have HPK:=Bx.mk (hPG.out.keep HC4.out)
      have HWO:Bx (wS os≤wS (l.take (k+1))):=⟨by
       have h1:=wS_take HST.out
       have h2:=hWO.out
       omega⟩
      clear hec y0 y1
      go_wp2_with fail
      go_roundw
      case rel=>exact⟨k+1,q,os,us,xs,by omega,by omega,by go_num,HPK,HWO,hSG⟩
      case measure=>simp[intOf]; omega
     ·have HR4:=Bx.mk hR
      have HNEW:Bx (∀ W,Ch (fun _=>False) w4 W→Calls Tryz.prog 14 #[.slice B1 nd c1, .slice D1 nk d1] W fun e w'=>∃ (v:Value) (ec:Int),e = .returned (.tuple #[v, .int .i64 ec])∧Ch (fun _=>False) w4 w'∧Bx (PNw st.1 st.2 w4 w' v ec)):=⟨fun W hc=>(new_any st.1 st.2 B1 D1 nd c1 nk d1 W (HZD.out.ch (HCV.out.trans hc (fun _ _ h=>h)) (fun _ _ _ h=>h)) (HZK.out.ch (HCV.out.trans hc (fun _ _ h=>h)) (fun _ _ _ h=>h)) HLT.out HBY.out (HW.out.keep (HCV.out.trans hc (fun _ _ h=>h)))).mono fun e w' h=>(h.back hc).two⟩
      have hcd:=Ch.refl (fun _=>False) w4
      clear hR
      go_wp2_with fail
      go_region_held3 (fun w'=>w'.cell? ⟨bd,od+k*2,none⟩=some (.slice B1 nd c1)∧w'.cell? ⟨bd,od+k*2+1,none⟩=some (.slice D1 nk d1)) (first | go_keep | exact s3 | exact⟨y0,y1⟩) ((go_at_call 14; (with_reducible (refine (HNEW.out _ (by first | exact hcd | exact hcd.drew)).mono ?_)); rintro e w5 ⟨v5,ed,rfl,hcd,hP5⟩; have s3:w5.cell? ⟨bd,od+k*2,none⟩=some (.slice B1 nd c1)∧w5.cell? ⟨bd,od+k*2+1,none⟩=some (.slice D1 nk d1):=⟨hcd.cell (fun h=>h) y0,hcd.cell (fun h=>h) y1⟩))
      all_goals
       have HC45:=Bx.mk hcd
       have HC5:=Bx.mk (HC4.out.trans hcd (fun _ _ h=>h))
       clear HNEW s3 y0 y1 hcd
       obtain⟨es',gs',hres',hv5⟩:=hP5.out.h
       obtain⟨e1,e2⟩:=HRES.out.same hres'
       subst e1
       rcases hv5 with ⟨h0,_⟩ | ⟨_,b,rfl,hS⟩
       ·exact absurd rfl h0
       obtain⟨rfl,rfl⟩:=e2 rfl
       have HMD:=Bx.mk (newres_yes HRES.out rfl).1
       have HSEG:=Bx.mk (newres_seg HRES.out rfl HBY.out)
       have HS5:Bx (Sp _ (fun i=>wr.heap.size≤i) b es gs):=⟨hS.mono (fun _ _ hb=>Nat.le_trans HC4.out.size hb)⟩
       have HR5:Bx (Rs _ (fun i=>wr.heap.size≤i) b' es gs):=⟨HR4.out.keep HC45.out⟩
       have HWO:Bx (wS (os++[(es,gs)])≤wS (l.take (k+1))):=⟨by
        have h1:=wS_take HST.out
        have h2:=hWO.out
        have h3:=wD_perm HMD.out.pd
        have h4:=wK_perm HMD.out.pg
        have e:wS [(es,gs)]=wD es+wK gs:=wS_one _
        rw[wS_app,e]
        omega⟩
       have HSGN:Bx (∀ s∈os++[(es,gs)],Seg s.1 s.2):=⟨by
        intro s hs
        rcases List.mem_append.1 hs with hs | hs
        ·exact hSG.out s hs
        ·simp at hs
         subst hs
         exact HSEG.out⟩
       have HPK:=Bx.mk (hPG.out.keep HC5.out)
       clear hS e2 hres' hP5
       go_wp2_with (at_builtin; refine wp_app rfl (.tmp 70) (.tmp 72) elemPA rfl rfl (HPK.out.ga.own.alloc _) rfl (Vs.one _ _ _) ?c1 ?c2 ?c3 ?_)
       case c1=>first | rfl | (intro u hu; simp at hu; subst hu; rfl)
       case c2=>omega
       case c3=>omega
       intro va6 w6 ho6 hg6 hb6
       have HO6:=Bx.mk ho6
       have HG6:=Bx.mk hg6
       have HB6:=Bx.mk hb6
       have HMI:=Bx.mk (hPG.out.mid (HC5.out.alloc _) hg6)
       clear ho6 hg6 hb6
       go_wp2_with (at_builtin; refine wp_app rfl (.tmp 74) (.tmp 76) elemPB rfl rfl (HMI.out.alloc _) rfl (Vs.one _ _ _) ?c1 ?c2 ?c3 ?_)
       case c1=>first | rfl | (intro u hu; simp at hu; subst hu; rfl)
       case c2=>omega
       case c3=>omega
       intro vb7 w7 ho7 hg7 hb7
       have HPN:=Bx.mk (hPG.out.add (s:=(es,gs)) (HW.out.keep HC3.out) HC5.out HS5.out HR5.out ((Ch.refl (fun _=>False) _).alloc _) HO6.out HG6.out (by rw[World.size_alloc]; exact HB6.out) ((Ch.refl (fun _=>False) w6).alloc _) ho7 hg7 (by first | exact hb7 | (rw[World.size_alloc]; exact hb7)))
       clear ho7 hg7 hb7 HPK HMI HO6 HG6 HB6
       go_wp2_with fail
       go_roundw
       case rel=>exact⟨k+1,q+1,_,_,_,by omega,by omega,by go_num,HPN,HWO,HSGN⟩
       case measure=>simp[intOf]; omega
   ·obtain rfl:n=k:=by omega
    have dk:decide ((n:Int)<(n:Int))=false:=decide_eq_false (by omega)
    obtain⟨Aa,ca,rfl,ha1,ha2⟩:=hPG.out.ga.shape
    obtain⟨Ab,cb,rfl,hb1,hb2⟩:=hPG.out.gb.shape
    have HWM:Bx (wS os≤1500):=⟨by
     have h1:=hWO.out
     have h2:=wS_take_le l n
     have:=HWS.out
     omega⟩
    have HLM:=Bx.mk (lite_of (docs:=fD os) (gone:=fK os) (by rw[wS_flat]; exact HWM.out))
    have HBM:Bx (∀ d∈fD os,∀ x∈d.2,0≤x∧x<256):=⟨by
     intro d hd
     obtain⟨s,hs,hd⟩:=List.mem_flatMap.1 hd
     exact (hSG.out s hs).byts d hd⟩
    obtain⟨aN,hand,haN⟩:=low10 z1
    obtain⟨kk,hkk⟩:∃ kk,aN%(q+1)=kk:=⟨_,rfl⟩
    have hkq:kk≤q:=by rw[←hkk]; have:=Nat.mod_lt aN (show 0<q+1 by omega); omega
    have htm:=tmod_nat aN q
    rw[hkk] at htm
    have hq8:q≤8:=by omega
    clear hb1 hb2 hWO hkk
    have HTK:Bx (Sps wr (fun g=>w3.heap.size≤g) Aa kk ((os.take kk).map some)):=⟨by rw[List.map_take]; exact hPG.out.sps.take hkq⟩
    have HWA:Bx (wS (os.take kk)+wS (os.drop kk)≤1500):=⟨by rw[←wS_app,List.take_append_drop]; exact HWM.out⟩
    have HLA:=Bx.mk (lite_of (docs:=fD (os.take kk)) (gone:=fK (os.take kk)) (by rw[wS_flat]; have:=HWA.out; omega))
    have HLB:=Bx.mk (lite_of (docs:=fD (os.drop kk)) (gone:=fK (os.drop kk)) (by rw[wS_flat]; have:=HWA.out; omega))
    have HSA:Bx (∀ s∈os.take kk,Seg s.1 s.2):=⟨fun s hs=>hSG.out s (List.mem_of_mem_take hs)⟩
    have HSB:Bx (∀ s∈os.drop kk,Seg s.1 s.2):=⟨fun s hs=>hSG.out s (List.mem_of_mem_drop hs)⟩
    have HPM:=Bx.mk (pmerge_any ((os.take kk).map some) false Aa kk ca wr HTK.out (by rw[lv_some]; exact HLA.out) (by rw[lv_some]; exact HSA.out) (by omega) (HW.out.keep HCW.out))
    go_wp2_with fail
    refine HPM.out.mono ?_
    rintro e0 w5 (⟨hnn,_⟩ | ⟨_,docs,gone,hmgu,hsd,hsk,ec,ds1,gs1,hres,hC5,h5⟩)
    ·exact absurd hnn (some_none _)
    rw[lv_some] at hmgu hsd hsk
    obtain⟨e1,hmerged⟩:=newres_mgu hres hmgu HSA.out
    subst e1
    rcases h5 with ⟨h0,_⟩ | ⟨_,b5,rfl,hS5⟩
    ·exact absurd rfl h0
    have HM1:=Bx.mk hmerged
    have HW1:=Bx.mk (merged_w hsd hsk (newres_yes hres rfl).1)
    have HC5:=Bx.mk hC5
    have HS5:=Bx.mk hS5
    clear hmgu hsd hsk hres hmerged hC5 hS5 HPM HTK
    have HPG5:=Bx.mk (hPG.out.keep HC5.out)
    have HCW5:=Bx.mk (HCW.out.trans HC5.out (fun _ _ h=>h))
    have HZ2:Bx (∀ A2:Option Addr,(0<q-kk→∃ g:Nat,Aa=some ⟨g,0,none⟩∧A2=some ⟨g,kk,none⟩)→Sps w5 (fun g=>w3.heap.size≤g) A2 (q-kk) ((os.drop kk).map some)):=⟨fun A2 h=>by
     by_cases h0:0<q-kk
     ·obtain⟨g,e1,e2⟩:=h h0
      have h5:=HPG5.out.sps
      rw[e1] at h5
      rw[List.map_drop,e2]
      exact h5.rest hkq
     ·have e1:q-kk=0:=by omega
      have e2:os.drop kk=[]:=List.drop_eq_nil_of_le (by rw[hPG.out.lo]; omega)
      rw[e1,e2]
      exact⟨[],Vs.nil _ _ _,rfl,fun i u o hu _=>by simp at hu⟩⟩
    have HPM2:Bx (∀ (A2:Option Addr) (n2 c2:Nat),n2=q-kk→(0<q-kk→∃ g:Nat,Aa=some ⟨g,0,none⟩∧A2=some ⟨g,kk,none⟩)→Calls Tryz.prog 25 #[.bool false, .slice A2 n2 c2] w5 (PMergeOf ((os.drop kk).map some) false w5)):=⟨fun A2 n2 c2 hn2 h=>by
     rw[hn2]
     exact pmerge_any ((os.drop kk).map some) false A2 (q-kk) c2 w5 (HZ2.out A2 h) (by rw[lv_some]; exact HLB.out) (by rw[lv_some]; exact HSB.out) (by omega) (HW.out.keep HCW5.out)⟩
    have hsh:Aa=none∧q=0∧ca=0∧kk=0∨∃ g:Nat,Aa=some ⟨g,0,none⟩:=by
     rcases hPG.out.ga.own.2 with ⟨hv,h0⟩ | ⟨g,cap,cur,hv,_⟩
     ·injection hv with h1 h2 h3
      exact .inl ⟨h1,by omega,h3,by omega⟩
     ·injection hv with h1 h2 h3
      exact .inr ⟨g,h1⟩
    clear HZ2 htm hand haN
    rcases hsh with ⟨rfl,hq0,rfl,rfl⟩ | ⟨g,rfl⟩
    ·have HE:Bx (0=q-0):=⟨by omega⟩
     have HF:Bx (0<q-0→∃ g:Nat,(none:Option Addr)=some ⟨g,0,none⟩∧(none:Option Addr)=some ⟨g,0,none⟩):=⟨fun h=>by omega⟩
     have HPX:=Bx.mk (fun c2=>HPM2.out none 0 c2 HE.out HF.out)
     obtain rfl:q=0:=hq0
     clear HPM2 HE HF
     go_wp2_with fail
     refine (HPX.out _).mono ?_
     rintro e0 w6 (⟨hnn,_⟩ | ⟨_,docs,gone,hmgu,hsd,hsk,ec,ds2,gs2,hres,hC6,h6⟩)
     ·exact absurd hnn (some_none _)
     rw[lv_some] at hmgu hsd hsk
     obtain⟨e1,hmerged⟩:=newres_mgu hres hmgu HSB.out
     subst e1
     rcases h6 with ⟨h0,_⟩ | ⟨_,b6,rfl,hS6⟩
     ·exact absurd rfl h0
     have HM2:=Bx.mk hmerged
     have HW2:=Bx.mk (merged_w hsd hsk (newres_yes hres rfl).1)
     have HC6:=Bx.mk hC6
     have HCW6:=Bx.mk (HCW5.out.trans hC6 (fun _ _ h=>h))
     have HP1:=Bx.mk (sps_pair 29 ((HS5.out.keep hC6).mono (fun _ _ _=>trivial)) (hS6.mono (fun _ _ _=>trivial)))
     have HPG6:=Bx.mk (HPG5.out.keep hC6)
     clear hmgu hsd hsk hres hmerged hC6 hS6 HPX HPG5
     have HWP:Bx (wS [(ds1,gs1),(ds2,gs2)]≤1500):=⟨by
      have h1:=HW1.out
      have h2:=HW2.out
      have h3:=HWA.out
      have e:wS [(ds1,gs1),(ds2,gs2)]=wD ds1+wK gs1+(wD ds2+wK gs2):=by simp[wS]
      rw[e]
      omega⟩
     have HLP:=Bx.mk (lite_of (docs:=fD [(ds1,gs1),(ds2,gs2)]) (gone:=fK [(ds1,gs1),(ds2,gs2)]) (by rw[wS_flat]; exact HWP.out))
     have HSP:Bx (∀ s∈[(ds1,gs1),(ds2,gs2)],Seg s.1 s.2):=⟨by
      intro s hs
      simp at hs
      rcases hs with rfl | rfl
      ·exact HM1.out.seg HSA.out
      ·exact HM2.out.seg HSB.out⟩
     have HCX:=Bx.mk ((Ch.refl (fun _=>False) w6).alloc (.cells #[.pointer (some ⟨b5,0,none⟩), .pointer (some ⟨b6,0,none⟩)] 29))
     go_wp2_with fail
     refine (pmerge_any [some (ds1,gs1),some (ds2,gs2)] last _ 2 _ _ HP1.out HLP.out HSP.out (by omega) (HW.out.keep (HCW6.out.trans HCX.out (fun _ _ h=>h)))).mono ?_
     rintro e0 w7 (⟨hnn,_⟩ | ⟨_,docs,gone,hmgu,hsd,hsk,ec,ds3,gs3,hres,hC7,h7⟩)
     ·simp at hnn
     obtain⟨e1,hmerged⟩:=newres_mgu hres hmgu HSP.out
     subst e1
     rcases h7 with ⟨h0,_⟩ | ⟨_,b7,rfl,hS7⟩
     ·exact absurd rfl h0
     have HMP:=Bx.mk (HM1.out.parts HM2.out HSA.out HSB.out hmerged)
     have HMD:=Bx.mk (newres_yes hres rfl).1
     have HLT7:=Bx.mk ((HLP.out.sub hsd hsk).perm HMD.out.pd HMD.out.pg)
     have HSEG7:=Bx.mk (hmerged.seg HSP.out)
     have HC7:=Bx.mk (HCX.out.trans hC7 (fun _ _ h=>h))
     have HCW7:=Bx.mk (HCW6.out.trans HC7.out (fun _ _ h=>h))
     have HS7:=Bx.mk hS7
     have HRM:=Bx.mk (rmerge_any (os.map some) last Ab _ cb w7 (HPG6.out.keep HC7.out).rps (by rw[lv_some]; exact HLM.out) (by rw[lv_some]; exact HBM.out) (by omega))
     clear hmgu hsd hsk hres hmerged hC7 hS7 HP1
     go_wp2_with fail
     refine HRM.out.mono ?_
     rintro e0 w8 (⟨hnn,_⟩ | ⟨_,docs,gone,hmgu,hsd,hsk,ec,ds4,gs4,hres,hC8,h8⟩)
     ·exact absurd hnn (some_none _)
     rw[lv_some] at hmgu hsd hsk
     obtain⟨e1,hmerged⟩:=newres_mgu hres hmgu hSG.out
     subst e1
     have HMP2:=HMP.out
     rw[List.take_append_drop] at HMP2
     obtain⟨rfl,rfl⟩:=HMP2.uniq hmerged
     rcases h8 with ⟨h0,_⟩ | ⟨_,b8,rfl,hR8⟩
     ·exact absurd rfl h0
     have HCW8:=Bx.mk (HCW7.out.trans hC8 (fun _ _ h=>h))
     have HAL:=Bx.mk (alike_any (HS7.out.keep hC8) hR8 HSEG7.out HLT7.out p P m e (HP.out.ch HCW8.out (fun _ _ _ h=>h)) HBP.out (by have:=HM.out; omega) (HO.out.ch HCW8.out (fun h=>h)))
     clear hmgu hsd hsk hres hmerged hC8 hR8 HRM HMP2
     go_wp2_with fail
     refine HAL.out.mono ?_
     rintro e0 w9 ⟨rfl,hC9⟩
     have HC9:=Bx.mk (HCW8.out.trans hC9 (fun _ _ h=>h))
     have HKN:=Bx.mk (known_any w9 (HW.out.keep HC9.out))
     clear hC9 HAL
     go_wp2_with fail
     refine HKN.out.mono ?_
     rintro e0 w10 ⟨rfl,hC10⟩
     have HC10:=Bx.mk (HC9.out.trans hC10 (fun _ _ h=>h))
     clear hC10 HKN
     go_wp2
     go_ret
     exact⟨rfl,HC10.out⟩
    ·by_cases hkc:kk=ca
     ·have HE:Bx (0=q-kk):=⟨by omega⟩
      have HF:Bx (0<q-kk→∃ g':Nat,(some ⟨g,0,none⟩:Option Addr)=some ⟨g',0,none⟩∧(some ⟨g,0,none⟩:Option Addr)=some ⟨g',kk,none⟩):=⟨fun h=>by omega⟩
      have HPX:=Bx.mk (fun c2=>HPM2.out (some ⟨g,0,none⟩) 0 c2 HE.out HF.out)
      obtain rfl:ca=kk:=hkc.symm
      obtain rfl:q=ca:=by omega
      clear HPM2 HE HF
      go_wp2_with fail
      refine (HPX.out _).mono ?_
      rintro e0 w6 (⟨hnn,_⟩ | ⟨_,docs,gone,hmgu,hsd,hsk,ec,ds2,gs2,hres,hC6,h6⟩)
      ·exact absurd hnn (some_none _)
      rw[lv_some] at hmgu hsd hsk
      obtain⟨e1,hmerged⟩:=newres_mgu hres hmgu HSB.out
      subst e1
      rcases h6 with ⟨h0,_⟩ | ⟨_,b6,rfl,hS6⟩
      ·exact absurd rfl h0
      have HM2:=Bx.mk hmerged
      have HW2:=Bx.mk (merged_w hsd hsk (newres_yes hres rfl).1)
      have HC6:=Bx.mk hC6
      have HCW6:=Bx.mk (HCW5.out.trans hC6 (fun _ _ h=>h))
      have HP1:=Bx.mk (sps_pair 29 ((HS5.out.keep hC6).mono (fun _ _ _=>trivial)) (hS6.mono (fun _ _ _=>trivial)))
      have HPG6:=Bx.mk (HPG5.out.keep hC6)
      clear hmgu hsd hsk hres hmerged hC6 hS6 HPX HPG5
      have HWP:Bx (wS [(ds1,gs1),(ds2,gs2)]≤1500):=⟨by
       have h1:=HW1.out
       have h2:=HW2.out
       have h3:=HWA.out
       have e:wS [(ds1,gs1),(ds2,gs2)]=wD ds1+wK gs1+(wD ds2+wK gs2):=by simp[wS]
       rw[e]
       omega⟩
      have HLP:=Bx.mk (lite_of (docs:=fD [(ds1,gs1),(ds2,gs2)]) (gone:=fK [(ds1,gs1),(ds2,gs2)]) (by rw[wS_flat]; exact HWP.out))
      have HSP:Bx (∀ s∈[(ds1,gs1),(ds2,gs2)],Seg s.1 s.2):=⟨by
       intro s hs
       simp at hs
       rcases hs with rfl | rfl
       ·exact HM1.out.seg HSA.out
       ·exact HM2.out.seg HSB.out⟩
      have HCX:=Bx.mk ((Ch.refl (fun _=>False) w6).alloc (.cells #[.pointer (some ⟨b5,0,none⟩), .pointer (some ⟨b6,0,none⟩)] 29))
      go_wp2_with fail
      refine (pmerge_any [some (ds1,gs1),some (ds2,gs2)] last _ 2 _ _ HP1.out HLP.out HSP.out (by omega) (HW.out.keep (HCW6.out.trans HCX.out (fun _ _ h=>h)))).mono ?_
      rintro e0 w7 (⟨hnn,_⟩ | ⟨_,docs,gone,hmgu,hsd,hsk,ec,ds3,gs3,hres,hC7,h7⟩)
      ·simp at hnn
      obtain⟨e1,hmerged⟩:=newres_mgu hres hmgu HSP.out
      subst e1
      rcases h7 with ⟨h0,_⟩ | ⟨_,b7,rfl,hS7⟩
      ·exact absurd rfl h0
      have HMP:=Bx.mk (HM1.out.parts HM2.out HSA.out HSB.out hmerged)
      have HMD:=Bx.mk (newres_yes hres rfl).1
      have HLT7:=Bx.mk ((HLP.out.sub hsd hsk).perm HMD.out.pd HMD.out.pg)
      have HSEG7:=Bx.mk (hmerged.seg HSP.out)
      have HC7:=Bx.mk (HCX.out.trans hC7 (fun _ _ h=>h))
      have HCW7:=Bx.mk (HCW6.out.trans HC7.out (fun _ _ h=>h))
      have HS7:=Bx.mk hS7
      have HRM:=Bx.mk (rmerge_any (os.map some) last Ab _ cb w7 (HPG6.out.keep HC7.out).rps (by rw[lv_some]; exact HLM.out) (by rw[lv_some]; exact HBM.out) (by omega))
      clear hmgu hsd hsk hres hmerged hC7 hS7 HP1
      go_wp2_with fail
      refine HRM.out.mono ?_
      rintro e0 w8 (⟨hnn,_⟩ | ⟨_,docs,gone,hmgu,hsd,hsk,ec,ds4,gs4,hres,hC8,h8⟩)
      ·exact absurd hnn (some_none _)
      rw[lv_some] at hmgu hsd hsk
      obtain⟨e1,hmerged⟩:=newres_mgu hres hmgu hSG.out
      subst e1
      have HMP2:=HMP.out
      rw[List.take_append_drop] at HMP2
      obtain⟨rfl,rfl⟩:=HMP2.uniq hmerged
      rcases h8 with ⟨h0,_⟩ | ⟨_,b8,rfl,hR8⟩
      ·exact absurd rfl h0
      have HCW8:=Bx.mk (HCW7.out.trans hC8 (fun _ _ h=>h))
      have HAL:=Bx.mk (alike_any (HS7.out.keep hC8) hR8 HSEG7.out HLT7.out p P m e (HP.out.ch HCW8.out (fun _ _ _ h=>h)) HBP.out (by have:=HM.out; omega) (HO.out.ch HCW8.out (fun h=>h)))
      clear hmgu hsd hsk hres hmerged hC8 hR8 HRM HMP2
      go_wp2_with fail
      refine HAL.out.mono ?_
      rintro e0 w9 ⟨rfl,hC9⟩
      have HC9:=Bx.mk (HCW8.out.trans hC9 (fun _ _ h=>h))
      have HKN:=Bx.mk (known_any w9 (HW.out.keep HC9.out))
      clear hC9 HAL
      go_wp2_with fail
      refine HKN.out.mono ?_
      rintro e0 w10 ⟨rfl,hC10⟩
      have HC10:=Bx.mk (HC9.out.trans hC10 (fun _ _ h=>h))
      clear hC10 HKN
      go_wp2
      go_ret
      exact⟨rfl,HC10.out⟩
     ·have HE:Bx (q-kk=q-kk):=⟨rfl⟩
      have HF:Bx (0<q-kk→∃ g':Nat,(some ⟨g,0,none⟩:Option Addr)=some ⟨g',0,none⟩∧(some ⟨g,kk,none⟩:Option Addr)=some ⟨g',kk,none⟩):=⟨fun _=>⟨g,rfl,rfl⟩⟩
      have HPX:=Bx.mk (fun c2=>HPM2.out (some ⟨g,kk,none⟩) (q-kk) c2 HE.out HF.out)
      clear HPM2 HE HF
      go_wp2_with fail
      refine (HPX.out _).mono ?_
      rintro e0 w6 (⟨hnn,_⟩ | ⟨_,docs,gone,hmgu,hsd,hsk,ec,ds2,gs2,hres,hC6,h6⟩)
      ·exact absurd hnn (some_none _)
      rw[lv_some] at hmgu hsd hsk
      obtain⟨e1,hmerged⟩:=newres_mgu hres hmgu HSB.out
      subst e1
      rcases h6 with ⟨h0,_⟩ | ⟨_,b6,rfl,hS6⟩
      ·exact absurd rfl h0
      have HM2:=Bx.mk hmerged
      have HW2:=Bx.mk (merged_w hsd hsk (newres_yes hres rfl).1)
      have HC6:=Bx.mk hC6
      have HCW6:=Bx.mk (HCW5.out.trans hC6 (fun _ _ h=>h))
      have HP1:=Bx.mk (sps_pair 29 ((HS5.out.keep hC6).mono (fun _ _ _=>trivial)) (hS6.mono (fun _ _ _=>trivial)))
      have HPG6:=Bx.mk (HPG5.out.keep hC6)
      clear hmgu hsd hsk hres hmerged hC6 hS6 HPX HPG5
      have HWP:Bx (wS [(ds1,gs1),(ds2,gs2)]≤1500):=⟨by
       have h1:=HW1.out
       have h2:=HW2.out
       have h3:=HWA.out
       have e:wS [(ds1,gs1),(ds2,gs2)]=wD ds1+wK gs1+(wD ds2+wK gs2):=by simp[wS]
       rw[e]
       omega⟩
      have HLP:=Bx.mk (lite_of (docs:=fD [(ds1,gs1),(ds2,gs2)]) (gone:=fK [(ds1,gs1),(ds2,gs2)]) (by rw[wS_flat]; exact HWP.out))
      have HSP:Bx (∀ s∈[(ds1,gs1),(ds2,gs2)],Seg s.1 s.2):=⟨by
       intro s hs
       simp at hs
       rcases hs with rfl | rfl
       ·exact HM1.out.seg HSA.out
       ·exact HM2.out.seg HSB.out⟩
      have HCX:=Bx.mk ((Ch.refl (fun _=>False) w6).alloc (.cells #[.pointer (some ⟨b5,0,none⟩), .pointer (some ⟨b6,0,none⟩)] 29))
      go_wp2_with fail
      refine (pmerge_any [some (ds1,gs1),some (ds2,gs2)] last _ 2 _ _ HP1.out HLP.out HSP.out (by omega) (HW.out.keep (HCW6.out.trans HCX.out (fun _ _ h=>h)))).mono ?_
      rintro e0 w7 (⟨hnn,_⟩ | ⟨_,docs,gone,hmgu,hsd,hsk,ec,ds3,gs3,hres,hC7,h7⟩)
      ·simp at hnn
      obtain⟨e1,hmerged⟩:=newres_mgu hres hmgu HSP.out
      subst e1
      rcases h7 with ⟨h0,_⟩ | ⟨_,b7,rfl,hS7⟩
      ·exact absurd rfl h0
      have HMP:=Bx.mk (HM1.out.parts HM2.out HSA.out HSB.out hmerged)
      have HMD:=Bx.mk (newres_yes hres rfl).1
      have HLT7:=Bx.mk ((HLP.out.sub hsd hsk).perm HMD.out.pd HMD.out.pg)
      have HSEG7:=Bx.mk (hmerged.seg HSP.out)
      have HC7:=Bx.mk (HCX.out.trans hC7 (fun _ _ h=>h))
      have HCW7:=Bx.mk (HCW6.out.trans HC7.out (fun _ _ h=>h))
      have HS7:=Bx.mk hS7
      have HRM:=Bx.mk (rmerge_any (os.map some) last Ab _ cb w7 (HPG6.out.keep HC7.out).rps (by rw[lv_some]; exact HLM.out) (by rw[lv_some]; exact HBM.out) (by omega))
      clear hmgu hsd hsk hres hmerged hC7 hS7 HP1
      go_wp2_with fail
      refine HRM.out.mono ?_
      rintro e0 w8 (⟨hnn,_⟩ | ⟨_,docs,gone,hmgu,hsd,hsk,ec,ds4,gs4,hres,hC8,h8⟩)
      ·exact absurd hnn (some_none _)
      rw[lv_some] at hmgu hsd hsk
      obtain⟨e1,hmerged⟩:=newres_mgu hres hmgu hSG.out
      subst e1
      have HMP2:=HMP.out
      rw[List.take_append_drop] at HMP2
      obtain⟨rfl,rfl⟩:=HMP2.uniq hmerged
      rcases h8 with ⟨h0,_⟩ | ⟨_,b8,rfl,hR8⟩
      ·exact absurd rfl h0
      have HCW8:=Bx.mk (HCW7.out.trans hC8 (fun _ _ h=>h))
      have HAL:=Bx.mk (alike_any (HS7.out.keep hC8) hR8 HSEG7.out HLT7.out p P m e (HP.out.ch HCW8.out (fun _ _ _ h=>h)) HBP.out (by have:=HM.out; omega) (HO.out.ch HCW8.out (fun h=>h)))
      clear hmgu hsd hsk hres hmerged hC8 hR8 HRM HMP2
      go_wp2_with fail
      refine HAL.out.mono ?_
      rintro e0 w9 ⟨rfl,hC9⟩
      have HC9:=Bx.mk (HCW8.out.trans hC9 (fun _ _ h=>h))
      have HKN:=Bx.mk (known_any w9 (HW.out.keep HC9.out))
      clear hC9 HAL
      go_wp2_with fail
      refine HKN.out.mono ?_
      rintro e0 w10 ⟨rfl,hC10⟩
      have HC10:=Bx.mk (HC9.out.trans hC10 (fun _ _ h=>h))
      clear hC10 HKN
      go_wp2
      go_ret
      exact⟨rfl,HC10.out⟩
end Go.Proofs.YtambgjpfoceieaaGreatDoor
