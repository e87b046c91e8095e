/- Lemmas and contracts of this proof. Conditions: said at each. -/
import Derived.Test.YtambgjpfoceieaaGreatDoorSgPair
set_option maxHeartbeats 16000000
set_option maxRecDepth 100000
namespace Go.Proofs.YtambgjpfoceieaaGreatDoor
open Go.RowKit Go.Oct Go.Su Go.Sg Go.Fr
theorem merges_law (l:Sets) (last:Bool) (p:List Int) (A:Option Addr) (n c:Nat) (P:Option Addr) (m e:Nat) (w:World) (hs:Sts w (fun _=>True) A n l) (hl:n≤c) (hcm:c≤maxLen) (hok:∀ s∈l,SetOk s) (hp:Sl w (fun _=>True) .u8 P m p) (hbp:∀ x∈p,0≤x∧x<256) (hm:m≤9223372036854775807) (ho:O.Tab w) (hw:W.Tab w) :
  Calls Tryz.prog 6 #[.slice A n c, .bool last, .slice P m e] w fun e w'=>e = .returned (.bool true)∧Ch (fun _=>False) w w':=by
 have HL:=Bx.mk hs.len
 have HZ:=Bx.mk hs
 have HOK:=Bx.mk hok
 have HP:=Bx.mk hp
 have HBP:=Bx.mk hbp
 have HO:=Bx.mk ho
 have HW:=Bx.mk hw
 have HH:=Bx.mk (heavyset_any l A n c w hs hok hl hcm)
 clear hs hok hp hbp ho hw
 go_enter Tryz.func6,Tryz.ntmps6
 go_wp2_with fail
 refine HH.out.mono ?_
 rintro e0 w3 ⟨o,rfl,hC3,hslim⟩
 have HSL:=Bx.mk hslim
 have HC3:=Bx.mk hC3
 clear hslim HH hC3
 cases o with
 | true =>
  go_wp2_with fail
  go_ret
  exact⟨rfl,HC3.out⟩
 | false =>
  have HWS:Bx (wS l≤1500):=⟨(HSL.out rfl).1⟩
  have hn8:n≤8:=by rw[←HL.out]; exact (HSL.out rfl).2
  clear HSL
  by_cases hm1:100<m
  ·have d1:decide ((100:Int)<(m:Int))=true:=decide_eq_true (by omega)
   have d2:decide (100<m)=true:=decide_eq_true hm1
   go_wp2_with fail
   go_ret
   exact⟨rfl,HC3.out⟩
  have d1:decide ((100:Int)<(m:Int))=false:=decide_eq_false (by omega)
  have d2:decide (100<m)=false:=decide_eq_false hm1
  have HM:Bx (m≤100):=⟨by omega⟩
  clear hm1
  go_wp2_with fail
  go_loopw [7,8,9,10,11,12,13] (fun va vb i _ _ _ _ wr=>∃ (k q:Nat) (os:Sets) (us xs:List Value),k≤n∧q≤k∧i = .int .i64 k∧Bx (Pg w3 wr va vb q os us xs)∧Bx (wS os≤wS (l.take k))∧Bx (∀ s∈os,Seg s.1 s.2)) (fun _ _ i _ _ _ _ _=>n-(intOf i).toNat)
  case atStart=>exact⟨0,0,[],[],[],Nat.zero_le _,Nat.le_refl _,rfl,⟨Pg.start _⟩,⟨Nat.zero_le _⟩,⟨fun s h=>by cases h⟩⟩
  case round =>
   obtain⟨k,q,os,us,xs,hk,hqk,rfl,hPG,hWO,hSG⟩:=hrel
   have HCW:=Bx.mk (HC3.out.trans hPG.out.ga.ch (fun _ _ h=>h))
   by_cases hkn:k<n
   ·have dk:decide ((k:Int)<(n:Int))=true:=decide_eq_true (by omega)
    obtain⟨bd,od,st,B1,c1,D1,d1,rfl,_,hst,hc0,hc1,hzd,hzk,g1,g2,g3,g4⟩:=HZ.out.get hkn
    have HST:=Bx.mk hst.out
    have x0:=HCW.out.cell (p:=⟨bd,od+k*2,none⟩) (fun h=>h) hc0
    have x1:=HCW.out.cell (p:=⟨bd,od+k*2+1,none⟩) (fun h=>h) hc1
    have HWT:Bx (wD st.1+wK st.2≤1500):=⟨by
     have h1:=wS_take HST.out
     have h2:=wS_take_le l (k+1)
     have:=HWS.out
     omega⟩
    have HLT:=Bx.mk (lite_of HWT.out)
    have HBY:Bx (∀ d∈st.1,∀ x∈d.2,0≤x∧x<256):=⟨fun d hd=>((HOK.out st (List.mem_of_getElem? HST.out)).1 d hd).2.2⟩
    obtain⟨nd,hnd⟩:∃ nd,st.1.length=nd:=⟨_,rfl⟩
    obtain⟨nk,hnk⟩:∃ nk,st.2.length=nk:=⟨_,rfl⟩
    rw[hnd] at x0 hzd g1
    rw[hnk] at x1 hzk g3
    have HNEW:Bx (∀ W,Ch (fun _=>False) wr W→Calls Tryz.prog 14 #[.slice B1 nd c1, .slice D1 nk d1] W fun e w'=>∃ (v:Value) (ec:Int),e = .returned (.tuple #[v, .int .i64 ec])∧Ch (fun _=>False) wr w'∧Bx (PNw st.1 st.2 wr w' v ec)):=⟨fun W hc=>(new_any st.1 st.2 B1 D1 nd c1 nk d1 W (hzd.ch (HCW.out.trans hc (fun _ _ h=>h)) (fun _ _ _ h=>h)) (hzk.ch (HCW.out.trans hc (fun _ _ h=>h)) (fun _ _ _ h=>h)) HLT.out HBY.out (HW.out.keep (HCW.out.trans hc (fun _ _ h=>h)))).mono fun e w' h=>(h.back hc).two⟩
    have HZD:=Bx.mk hzd
    have HZK:=Bx.mk hzk
    have HG3:=Bx.mk g3
    have HG4:=Bx.mk g4
    have hcc:=Ch.refl (fun _=>False) wr
    have i1:(k:Int)<(n:Int):=by omega
    clear hst hc0 hc1 hzd hzk hnd hnk g1 g2 g3 g4
    go_wp2_with fail
    go_region_held3 (fun w'=>w'.cell? ⟨bd,od+k*2,none⟩=some (.slice B1 nd c1)∧w'.cell? ⟨bd,od+k*2+1,none⟩=some (.slice D1 nk d1)) (first | go_keep | exact s2 | exact⟨x0,x1⟩) ((go_at_call 14; (with_reducible (refine (HNEW.out _ (by first | exact hcc | exact hcc.drew)).mono ?_)); rintro e w4 ⟨v4,ec,rfl,hcc,hP4⟩; have s2:w4.cell? ⟨bd,od+k*2,none⟩=some (.slice B1 nd c1)∧w4.cell? ⟨bd,od+k*2+1,none⟩=some (.slice D1 nk d1):=⟨hcc.cell (fun h=>h) x0,hcc.cell (fun h=>h) x1⟩))
    all_goals
     have HC4:=Bx.mk hcc
     have HCV:=Bx.mk (HCW.out.trans hcc (fun _ _ h=>h))
     have y0:=s2.1
     have y1:=s2.2
     have HRNW:Bx (∀ W,Ch (fun _=>False) w4 W→Calls Tryz.prog 15 #[.slice B1 nd c1, .slice D1 nk d1] W fun e w'=>∃ (v:Value) (ec:Int),e = .returned (.tuple #[v, .int .i64 ec])∧Ch (fun _=>False) w4 w'∧Bx (RNw st.1 st.2 w4 w' v ec)):=⟨fun W hc=>(rnew_any st.1 st.2 B1 D1 nd c1 nk d1 W (HZD.out.ch (HCV.out.trans hc (fun _ _ h=>h)) (fun _ _ _ h=>h)) (HZK.out.ch (HCV.out.trans hc (fun _ _ h=>h)) (fun _ _ _ h=>h)) HLT.out HG3.out HG4.out HBY.out).mono fun e w' h=>(h.back hc).two⟩
     have hcd:=Ch.refl (fun _=>False) w4
     clear HNEW s2 x0 x1 hcc
     go_wp2_with fail
     go_region_held3 (fun w'=>w'.cell? ⟨bd,od+k*2,none⟩=some (.slice B1 nd c1)∧w'.cell? ⟨bd,od+k*2+1,none⟩=some (.slice D1 nk d1)) (first | go_keep | exact s3 | exact⟨y0,y1⟩) ((go_at_call 15; (with_reducible (refine (HRNW.out _ (by first | exact hcd | exact hcd.drew)).mono ?_)); rintro e w5 ⟨v5,ed,rfl,hcd,hP5⟩; have s3:w5.cell? ⟨bd,od+k*2,none⟩=some (.slice B1 nd c1)∧w5.cell? ⟨bd,od+k*2+1,none⟩=some (.slice D1 nk d1):=⟨hcd.cell (fun h=>h) y0,hcd.cell (fun h=>h) y1⟩))
     all_goals
      have HC45:=Bx.mk hcd
      have HC5:=Bx.mk (HC4.out.trans hcd (fun _ _ h=>h))
      clear HRNW s3 y0 y1 hcd
      obtain⟨es,gs,hres,hv4⟩:=hP4.out.h
      obtain⟨es',gs',hres',hv5⟩:=hP5.out.h
      obtain⟨e1,e2⟩:=hres.same hres'
      subst e1
      have HRES:=Bx.mk hres
      have n1:((ec:Int) != (ec:Int))=false:=by simp
      clear hres hres' hP4 hP5
      rcases hv4 with ⟨hec,rfl⟩ | ⟨rfl,b,rfl,hS⟩
      ·have n2:((ec:Int) != 0)=true:=by simpa using hec
       have HPK:=Bx.mk (hPG.out.keep HC5.out)
       have HWO:Bx (wS os≤wS (l.take (k+1))):=⟨by
        have h1:=wS_take HST.out
        have h2:=hWO.out
        omega⟩
       clear hec hv5 e2
       go_wp2_with fail
       go_roundw
       case rel=>exact⟨k+1,q,os,us,xs,by omega,by omega,by go_num,HPK,HWO,hSG⟩
       case measure=>simp[intOf]; omega
      ·rcases hv5 with ⟨h0,_⟩ | ⟨_,b',rfl,hR⟩
       ·exact absurd rfl h0
       obtain⟨rfl,rfl⟩:=e2 rfl
       have HMD:=Bx.mk (newres_yes HRES.out rfl).1
       have HSEG:=Bx.mk (newres_seg HRES.out rfl HBY.out)
       have HS5:Bx (Sp _ (fun i=>wr.heap.size≤i) b es gs):=⟨hS.keep HC45.out⟩
       have HR5:Bx (Rs _ (fun i=>wr.heap.size≤i) b' es gs):=⟨hR.mono (fun _ _ hb=>Nat.le_trans HC4.out.size hb)⟩
       have HWO:Bx (wS (os++[(es,gs)])≤wS (l.take (k+1))):=⟨by
        have h1:=wS_take HST.out
        have h2:=hWO.out
        have h3:=wD_perm HMD.out.pd
        have h4:=wK_perm HMD.out.pg
        have e:wS [(es,gs)]=wD es+wK gs:=wS_one _
        rw[wS_app,e]
        omega⟩
       have HSGN:Bx (∀ s∈os++[(es,gs)],Seg s.1 s.2):=⟨by
        intro s hs
        rcases List.mem_append.1 hs with hs | hs
        ·exact hSG.out s hs
        ·simp at hs
         subst hs
         exact HSEG.out⟩
       have HPK:=Bx.mk (hPG.out.keep HC5.out)
       clear hS hR e2
       go_wp2_with (at_builtin; refine wp_app rfl (.tmp 65) (.tmp 67) elemPA rfl rfl (HPK.out.ga.own.alloc _) rfl (Vs.one _ _ _) ?c1 ?c2 ?c3 ?_)
       case c1=>first | rfl | (intro u hu; simp at hu; subst hu; rfl)
       case c2=>omega
       case c3=>omega
       intro va6 w6 ho6 hg6 hb6
       have HO6:=Bx.mk ho6
       have HG6:=Bx.mk hg6
       have HB6:=Bx.mk hb6
       have HMI:=Bx.mk (hPG.out.mid (HC5.out.alloc _) hg6)
       clear ho6 hg6 hb6
       go_wp2_with (at_builtin; refine wp_app rfl (.tmp 69) (.tmp 71) elemPB rfl rfl (HMI.out.alloc _) rfl (Vs.one _ _ _) ?c1 ?c2 ?c3 ?_)
       case c1=>first | rfl | (intro u hu; simp at hu; subst hu; rfl)
       case c2=>omega
       case c3=>omega
       intro vb7 w7 ho7 hg7 hb7
       have HPN:=Bx.mk (hPG.out.add (s:=(es,gs)) (HW.out.keep HC3.out) HC5.out HS5.out HR5.out ((Ch.refl (fun _=>False) _).alloc _) HO6.out HG6.out (by rw[World.size_alloc]; exact HB6.out) ((Ch.refl (fun _=>False) w6).alloc _) ho7 hg7 (by first | exact hb7 | (rw[World.size_alloc]; exact hb7)))
       clear ho7 hg7 hb7 HPK HMI HO6 HG6 HB6
       go_wp2_with fail
       go_roundw
       case rel=>exact⟨k+1,q+1,_,_,_,by omega,by omega,by go_num,HPN,HWO,HSGN⟩
       case measure=>simp[intOf]; omega
   ·obtain rfl:n=k:=by omega
    have dk:decide ((n:Int)<(n:Int))=false:=decide_eq_false (by omega)
    obtain⟨Aa,ca,rfl,ha1,ha2⟩:=hPG.out.ga.shape
    obtain⟨Ab,cb,rfl,hb1,hb2⟩:=hPG.out.gb.shape
    have HWM:Bx (wS os≤1500):=⟨by
     have h1:=hWO.out
     have h2:=wS_take_le l n
     have:=HWS.out
     omega⟩
    have HLM:=Bx.mk (lite_of (docs:=fD os) (gone:=fK os) (by rw[wS_flat]; exact HWM.out))
    have HBM:Bx (∀ d∈fD os,∀ x∈d.2,0≤x∧x<256):=⟨by
     intro d hd
     obtain⟨s,hs,hd⟩:=List.mem_flatMap.1 hd
     exact (hSG.out s hs).byts d hd⟩
    have HPM:=Bx.mk (pmerge_any (os.map some) last Aa q ca wr hPG.out.sps (by rw[lv_some]; exact HLM.out) (by rw[lv_some]; exact hSG.out) (by omega) (HW.out.keep HCW.out))
    clear ha1 ha2 hb1 hb2 hWO
    go_wp2_with fail
    refine HPM.out.mono ?_
    rintro e0 w5 (⟨hnn,_⟩ | ⟨_,docs,gone,hmgu,hsd,hsk,ec,ms,ns,hres,hC5,h5⟩)
    ·exact absurd hnn (some_none os)
    rw[lv_some] at hmgu hsd hsk
    obtain⟨e1,hmerged⟩:=newres_mgu hres hmgu hSG.out
    subst e1
    rcases h5 with ⟨h0,_⟩ | ⟨_,b5,rfl,hS5⟩
    ·exact absurd rfl h0
    have HMER:=Bx.mk hmerged
    have HMD:=Bx.mk (newres_yes hres rfl).1
    have HLT5:=Bx.mk ((HLM.out.sub hsd hsk).perm HMD.out.pd HMD.out.pg)
    have HSEG5:=Bx.mk (hmerged.seg hSG.out)
    have HC5:=Bx.mk hC5
    have HS5:=Bx.mk hS5
    have HRM:=Bx.mk (rmerge_any (os.map some) last Ab q cb w5 (hPG.out.keep hC5).rps (by rw[lv_some]; exact HLM.out) (by rw[lv_some]; exact HBM.out) (by omega))
    clear hmgu hsd hsk hres hmerged hC5 hS5 HPM
    go_wp2_with fail
    refine HRM.out.mono ?_
    rintro e0 w6 (⟨hnn,_⟩ | ⟨_,docs',gone',hmgu,hsd,hsk,ec,ms',ns',hres,hC6,h6⟩)
    ·exact absurd hnn (some_none os)
    rw[lv_some] at hmgu hsd hsk
    obtain⟨e1,hmerged⟩:=newres_mgu hres hmgu hSG.out
    subst e1
    obtain⟨rfl,rfl⟩:=HMER.out.uniq hmerged
    rcases h6 with ⟨h0,_⟩ | ⟨_,b6,rfl,hR6⟩
    ·exact absurd rfl h0
    have HC6:=Bx.mk (HC5.out.trans hC6 (fun _ _ h=>h))
    have HPG6:=Bx.mk (hPG.out.keep HC6.out)
    have HS6:=Bx.mk (HS5.out.keep hC6)
    have HR6:=Bx.mk hR6
    have HCV:=Bx.mk (HCW.out.trans HC6.out (fun _ _ h=>h))
    have HP6:=Bx.mk (HP.out.ch HCV.out (fun _ _ _ h=>h))
    have HO6:=Bx.mk (HO.out.ch HCV.out (fun h=>h))
    clear hmgu hsd hsk hres hmerged hC6 hR6 HRM HS5 HC5
    go_wp2_with fail
    go_loopw [18] (fun i wr=>∃ j:Nat,j≤q∧i = .int .i64 j∧Ch (fun _=>False) w6 wr) (fun i _=>q-(intOf i).toNat)
    case atStart=>exact⟨0,Nat.zero_le _,rfl,Ch.refl _ _⟩
    case round =>
     obtain⟨j,hj,rfl,hC⟩:=hrel
     by_cases hjq:j<q
     ·have dj:decide ((j:Int)<(q:Int))=true:=decide_eq_true (by omega)
      obtain⟨ga,gb,bj,bj',s,rfl,rfl,hs,c1,c2,hSj,hRj⟩:=HPG6.out.get hjq
      have HSM:=Bx.mk (List.mem_of_getElem? hs.out)
      have HLJ:=Bx.mk (lite_of (docs:=s.1) (gone:=s.2) (by have h1:=wS_mem HSM.out; have:=HWM.out; omega))
      have x0:=hC.cell (p:=⟨ga,j,none⟩) (fun h=>h) c1
      have x1:=hC.cell (p:=⟨gb,j,none⟩) (fun h=>h) c2
      have HAL:Bx (∀ W,Ch (fun _=>False) wr W→Calls Tryz.prog 18 #[.pointer (some ⟨bj,0,none⟩), .pointer (some ⟨bj',0,none⟩), .slice P m e] W fun e w'=>e = .returned (.bool true)∧Ch (fun _=>False) wr w'):=⟨fun W hc=>(alike_any (hSj.keep (hC.trans hc (fun _ _ h=>h))) (hRj.keep (hC.trans hc (fun _ _ h=>h))) (hSG.out s HSM.out) HLJ.out p P m e (HP6.out.ch (hC.trans hc (fun _ _ h=>h)) (fun _ _ _ h=>h)) HBP.out (by have:=HM.out; omega) (HO6.out.ch (hC.trans hc (fun _ _ h=>h)) (fun h=>h))).mono fun e w' h=>⟨h.1,hc.trans h.2 (fun _ _ h=>h)⟩⟩
      have HCJ:=Bx.mk hC
      have hcc:=Ch.refl (fun _=>False) wr
      have i1:(j:Int)<(q:Int):=by omega
      have hq8:q≤8:=by omega
      clear hs c1 c2 hSj hRj hC
      go_wp2_with fail
      go_region_held3 (fun w'=>w'.cell? ⟨ga,j,none⟩=some (.pointer (some ⟨bj,0,none⟩))∧w'.cell? ⟨gb,j,none⟩=some (.pointer (some ⟨bj',0,none⟩))) (first | go_keep | exact s2 | exact⟨x0,x1⟩) ((go_at_call 18; (with_reducible (refine (HAL.out _ (by first | exact hcc | exact hcc.drew)).mono ?_)); rintro e w7 ⟨rfl,hcc⟩; have s2:w7.cell? ⟨ga,j,none⟩=some (.pointer (some ⟨bj,0,none⟩))∧w7.cell? ⟨gb,j,none⟩=some (.pointer (some ⟨bj',0,none⟩)):=⟨hcc.cell (fun h=>h) x0,hcc.cell (fun h=>h) x1⟩))
      all_goals
       have HCN:=Bx.mk (HCJ.out.trans hcc (fun _ _ h=>h))
       clear hcc s2 x0 x1 HAL
       go_wp2
       go_roundw
       case rel=>exact⟨j+1,by omega,by go_num,HCN.out⟩
       case measure=>simp[intOf]; omega
     ·obtain rfl:q=j:=by omega
      have dj:decide ((q:Int)<(q:Int))=false:=decide_eq_false (by omega)
      have HCJ:=Bx.mk hC
      have HAL:=Bx.mk (alike_any (HS6.out.keep hC) (HR6.out.keep hC) HSEG5.out HLT5.out p P m e (HP6.out.ch hC (fun _ _ _ h=>h)) HBP.out (by have:=HM.out; omega) (HO6.out.ch hC (fun h=>h)))
      clear hC
      go_wp2_with fail
      refine HAL.out.mono ?_
      rintro e0 w8 ⟨rfl,hC8⟩
      have HC8:=Bx.mk (HCV.out.trans (HCJ.out.trans hC8 (fun _ _ h=>h)) (fun _ _ h=>h))
      have HKN:=Bx.mk (known_any w8 (HW.out.keep HC8.out))
      clear hC8 HAL
      go_wp2_with fail
      refine HKN.out.mono ?_
      rintro e0 w9 ⟨rfl,hC9⟩
      have HC9:=Bx.mk (HC8.out.trans hC9 (fun _ _ h=>h))
      clear hC9 HKN
      go_wp2
      go_ret
      exact⟨rfl,HC9.out⟩
end Go.Proofs.YtambgjpfoceieaaGreatDoor
