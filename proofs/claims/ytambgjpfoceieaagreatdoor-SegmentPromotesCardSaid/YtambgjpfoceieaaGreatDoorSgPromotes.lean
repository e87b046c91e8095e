/- Lemmas and contracts of this proof. Conditions: said at each. -/
import Derived.Test.YtambgjpfoceieaaGreatDoorGSgAlike
set_option maxHeartbeats 8000000
set_option maxRecDepth 100000
namespace Go.Proofs.YtambgjpfoceieaaGreatDoor
open Go.RowKit Go.Oct Go.Su Go.Sg Go.Fr
theorem promotes_law (s:Go.Sg.St) (cs:List Value) (p:List Int) (P:Option Addr) (m e:Nat) (z1 z2 z3:Int) (w:World) (hE:SetE w (fun _=>True) cs s) (hok:SetOk s) (hp:Sl w (fun _=>True) .u8 P m p) (hbp:∀ x∈p,0≤x∧x<256) (hm:m≤9223372036854775807) (hw:W.Tab w) :
  Calls Tryz.prog 8 #[.agg cs.toArray, .slice P m e, .int .i64 z1, .int .i64 z2, .int .i64 z3] w fun e w'=>e = .returned (.bool true)∧Ch (fun _=>False) w w':=by
 obtain⟨ds,gs⟩:=s
 obtain⟨A,c,B,d,rfl,hz,hg,h1,h2,h3,h4⟩:=hE
 simp only at hz hg h1 h3
 obtain⟨n,hn⟩:∃ n,ds.length=n:=⟨_,rfl⟩
 obtain⟨k,hk⟩:∃ k,gs.length=k:=⟨_,rfl⟩
 simp only[hn,hk] at hz hg h1 h3 ⊢
 have HZ:=Bx.mk hz
 have HG:=Bx.mk hg
 have HOK:=Bx.mk hok
 have HP:=Bx.mk hp
 have HBP:=Bx.mk hbp
 have HW:=Bx.mk hw
 have HDM:=Bx.mk h4
 clear hz hg hok hp hbp hw hn hk
 go_enter Tryz.func8,Tryz.ntmps8
 go_wp2_with fail
 obtain⟨w1,hw1⟩:∃ w1,w.alloc (.cells #[.slice A n c, .slice B k d] 25)=w1:=⟨_,rfl⟩
 have hs1:w1.heap.size=w.heap.size+1:=by rw[←hw1]; exact World.size_alloc ..
 have hC1:Ch (fun _=>False) w w1:=by rw[←hw1]; exact (Ch.refl _ w).alloc _
 have hcs:=cells_two w (.slice A n c) (.slice B k d) 25
 rw[hw1] at hcs ⊢
 rw[←hs1]
 obtain⟨bx,hbx⟩:∃ bx,w.heap.size=bx:=⟨_,rfl⟩
 rw[hbx] at hcs ⊢
 have HH:=Bx.mk (heavyset_any [(ds,gs)] _ 1 1 _ (sts_one 25 (HZ.out.ch hC1 (fun _ _ _ h=>h)) (HG.out.ch hC1 (fun _ _ _ h=>h)) h1 h2 h3 h4) (by intro s hs; simp at hs; subst hs; exact HOK.out) (Nat.le_refl _) (by unfold maxLen; omega))
 have HC2:=Bx.mk (hC1.alloc (.cells #[.slice A n c, .slice B k d] 25))
 have HCS:=Bx.mk hcs
 have HC12:=Bx.mk ((Ch.refl (fun _=>False) w1).alloc (.cells #[.slice A n c, .slice B k d] 25))
 clear hw1 hs1 hC1 hcs hbx
 generalize w1.alloc (.cells #[.slice A n c, .slice B k d] 25)=w2 at *
 refine HH.out.mono ?_
 rintro e0 w3 ⟨o,rfl,hC3,hslim⟩
 have HSL:=Bx.mk hslim
 have HC3:=Bx.mk (HC2.out.trans hC3 (fun _ _ h=>h))
 have hb0:=(HC12.out.trans hC3 (fun _ _ h=>h)).cell (p:=⟨bx,0,none⟩) (fun h=>h) HCS.out.1
 have hb1:=(HC12.out.trans hC3 (fun _ _ h=>h)).cell (p:=⟨bx,1,none⟩) (fun h=>h) HCS.out.2
 clear hslim HH HC12 HCS HC2 hC3
 cases o with
 | true =>
  go_wp2_with fail
  go_ret
  exact⟨rfl,HC3.out⟩
 | false =>
  have HWS:Bx (wD ds+wK gs≤1500):=⟨by have h:=(HSL.out rfl).1; rwa[wS_one] at h⟩
  have HLT:=Bx.mk (lite_of HWS.out)
  have HBY:Bx (∀ d∈ds,∀ x∈d.2,0≤x∧x<256):=⟨fun d hd=>(HOK.out.1 d hd).2.2⟩
  have HB0:=Bx.mk hb0
  have HB1:=Bx.mk hb1
  clear HSL
  by_cases hm1:100<m
  ·have d1:decide ((100:Int)<(m:Int))=true:=decide_eq_true (by omega)
   have d2:decide (100<m)=true:=decide_eq_true hm1
   go_wp2_with fail
   go_ret
   exact⟨rfl,HC3.out⟩
  have d1:decide ((100:Int)<(m:Int))=false:=decide_eq_false (by omega)
  have d2:decide (100<m)=false:=decide_eq_false hm1
  have HM:Bx (m≤100):=⟨by omega⟩
  clear hm1 hb0 hb1
  have hb0:=HB0.out
  have hb1:=HB1.out
  have HPN:=Bx.mk (new_any ds gs A B n c k d w3 (HZ.out.ch HC3.out (fun _ _ _ h=>h)) (HG.out.ch HC3.out (fun _ _ _ h=>h)) HLT.out HBY.out (HW.out.keep HC3.out))
  go_wp2_with fail
  refine HPN.out.mono ?_
  rintro e0 w4 ⟨ec,es,hs,hres,hC4,h5⟩
  have hb0:=hC4.cell (p:=⟨bx,0,none⟩) (fun h=>h) HB0.out
  have hb1:=hC4.cell (p:=⟨bx,1,none⟩) (fun h=>h) HB1.out
  have HC4:=Bx.mk (HC3.out.trans hC4 (fun _ _ h=>h))
  have HRES:=Bx.mk hres
  have HRN:=Bx.mk (rnew_any ds gs A B n c k d w4 (HZ.out.ch HC4.out (fun _ _ _ h=>h)) (HG.out.ch HC4.out (fun _ _ _ h=>h)) HLT.out h3 HDM.out HBY.out)
  clear hres hC4 HPN
  rcases h5 with ⟨hec,rfl⟩ | ⟨rfl,b,rfl,hS⟩
  ·go_wp2_with fail
   refine HRN.out.mono ?_
   rintro e0 w5 ⟨ec',es',hs',hres',hC5,h6⟩
   obtain⟨rfl,_⟩:=HRES.out.same hres'
   rcases h6 with ⟨_,rfl⟩ | ⟨h0,_⟩
   ·have n1:((ec:Int) != (ec:Int))=false:=by simp
    have n2:((ec:Int) != 0)=true:=by simpa using hec
    have HC5:=Bx.mk (HC4.out.trans hC5 (fun _ _ h=>h))
    have HKN:=Bx.mk (known_any w5 (HW.out.keep HC5.out))
    clear hres' hC5 HRN hec
    go_wp2_with fail
    refine HKN.out.mono ?_
    rintro e0 w6 ⟨rfl,hC6⟩
    have HC6:=Bx.mk (HC5.out.trans hC6 (fun _ _ h=>h))
    clear hC6 HKN
    go_wp2
    go_ret
    exact⟨rfl,HC6.out⟩
   ·exact absurd h0 hec
  ·have HS:=Bx.mk hS
   clear hS
   go_wp2_with fail
   refine HRN.out.mono ?_
   rintro e0 w5 ⟨ec',es',hs',hres',hC5,h6⟩
   obtain⟨e1,e2⟩:=HRES.out.same hres'
   obtain⟨rfl,rfl⟩:=e2 rfl
   subst e1
   rcases h6 with ⟨h0,_⟩ | ⟨_,b',rfl,hR⟩
   ·exact absurd rfl h0
   have HSEG:=Bx.mk (newres_seg HRES.out rfl HBY.out)
   have HMD:=Bx.mk (newres_yes HRES.out rfl).1
   have HLT2:=Bx.mk (HLT.out.perm HMD.out.pd HMD.out.pg)
   have HC5:=Bx.mk (HC4.out.trans hC5 (fun _ _ h=>h))
   have HS5:=Bx.mk (HS.out.keep hC5)
   have HR5:=Bx.mk hR
   clear hres' hC5 HRN e2 hR HS
   obtain⟨x,A1,n1,c1,A2,n2,c2,h0⟩:=HS5.out
   have g0:=h0.c0
   have HI:=Bx.mk h0.ix
   have HG0:=Bx.mk g0
   have HPB:=Bx.mk (HP.out.ch HC5.out (fun _ _ _ h=>h))
   obtain⟨en,hen⟩:∃ en,es.length=en:=⟨_,rfl⟩
   have HEN:=Bx.mk hen
   have henb:en≤10000:=by rw[←hen]; exact HLT2.out.n
   have HBG:Bx (beg (ts es) en≤60000):=⟨by rw[←hen]; exact HLT2.out.b⟩
   have HBT:=Bx.mk (seg_bytsT HSEG.out)
   have HTX:=Bx.mk (texts_any HR5.out (by rw[hen]; omega))
   have HMM:Bx (m≤1048576):=⟨by have:=HM.out; omega⟩
   obtain⟨LL,hLL⟩:∃ LL,(locs (ts es) p 0).length=LL:=⟨_,rfl⟩
   have HLL:=Bx.mk hLL
   have HLB:Bx (LL≤60000):=⟨by rw[←hLL,finds_len]; have h1:=finds_le p es; rw[hen] at h1; have:=HBG.out; omega⟩
   have HLC:Bx (∀ W,Ch (fun _=>False) w5 W→Calls Tryz.prog 28 #[.pointer (some ⟨x,0,none⟩), .slice P m e] W (X.LocOf (ts es) p W)):=⟨fun W hc=>X.locate_any (HI.out.keep hc) p P m e (HPB.out.ch hc (fun _ _ _ h=>h)) HBP.out HMM.out⟩
   have HCT:Bx (∀ W,Ch (fun _=>False) w5 W→Calls Tryz.prog 30 #[.pointer (some ⟨x,0,none⟩), .slice P m e] W fun e w'=>e = .returned (.int .i64 (LL:Nat))∧Ch (fun _=>False) w5 w'):=⟨fun W hc=>(X.count_any (HI.out.keep hc) p P m e (HPB.out.ch hc (fun _ _ _ h=>h)) HBP.out HMM.out).mono fun e w' h=>⟨by rw[h.1,HLL.out],hc.trans h.2 (fun _ _ h=>h)⟩⟩
   have HDO:Bx (∀ W,Ch (fun _=>False) w5 W→Calls Tryz.prog 31 #[.pointer (some ⟨x,0,none⟩)] W fun e w'=>e = .returned (.int .i64 en)∧Ch (fun _=>False) w5 w'):=⟨fun W hc=>(X.docs_same (HI.out.keep hc) en (by rw[ts_len]; exact HEN.out)).mono fun e w' h=>⟨h.1,by rw[←h.2]; exact hc⟩⟩
   have HEX:Bx (∀ W,Ch (fun _=>False) w5 W→Calls Tryz.prog 32 #[.pointer (some ⟨x,0,none⟩), .int .i64 z1, .int .i64 z2, .int .i64 z3] W (X.ExtOf (ext (ts es) z1 z2 z3) W)):=⟨fun W hc=>X.extract_any (HI.out.keep hc) z1 z2 z3⟩
   have HTL:Bx (∀ t∈ts es,t.length≤60000):=⟨fun t ht=>by
    obtain⟨i,hi⟩:=List.getElem?_of_mem ht
    have hil:=(List.getElem?_eq_some_iff.1 hi).1
    rw[ts_len,HEN.out] at hil
    have h1:=beg_next (ts es) i (by rw[ts_len,HEN.out]; exact hil)
    have h2:=beg_mono (ts es) (show i+1≤en by omega) (by rw[ts_len,HEN.out]; exact Nat.le_refl _)
    have e1:(ts es).getD i []=t:=by rw[List.getD_eq_getElem?_getD,hi]; rfl
    rw[e1] at h1
    have:=HBG.out
    omega⟩
   clear h0 hen hLL
   go_wp2_with fail
   refine HTX.out.mono ?_
   rintro e0 w6 ⟨At,ct,rfl,hSt,h61,h62,hC6⟩
   rw[HEN.out] at hSt h61
   rw[HEN.out]
   have HST:Bx (Sls w6 (fun _=>True) At en (ts es)):=⟨hSt.mono (fun _ _ _=>trivial)⟩
   have HQ6:=Bx.mk hC6
   have g1:=hC6.cell (p:=⟨b,0,none⟩) (fun h=>h) HG0.out
   have HL6:=Bx.mk (HLC.out w6 hC6)
   clear hSt hC6 HTX g0
   go_wp2_with fail
   refine HL6.out.mono ?_
   rintro e0 w7 ⟨Ah,ch,nh,rfl,hH,hC7⟩
   obtain rfl:LL=nh:=by rw[←HLL.out]; exact hH.len
   have HH:=Bx.mk hH
   have HQ7:=Bx.mk (HQ6.out.trans hC7 (fun _ _ h=>h))
   have HC67:=Bx.mk hC7
   have HR7:=Bx.mk (refloc_any (ts es) p At P en ct m e w7 (HST.out.ch hC7 (fun _ _ _ h=>h)) (HPB.out.ch HQ7.out (fun _ _ _ h=>h)) HBT.out HBP.out (by have:=HBG.out; omega) (by omega) HMM.out)
   clear hH hC7 HL6 g1
   go_wp2_with fail
   refine HR7.out.mono ?_
   rintro e0 w8 ⟨v8,rfl,hG8⟩
   rw[HLL.out] at hG8
   obtain⟨A8,c8,rfl,_,_⟩:=hG8.shape
   have HH8:=Bx.mk (hG8.hits HLL.out)
   have HH7:=Bx.mk (HH.out.ch hG8.ch (fun _ _ _ h=>h))
   have HQ8:=Bx.mk (HQ7.out.trans hG8.ch (fun _ _ h=>h))
   have HC68:=Bx.mk (HC67.out.trans hG8.ch (fun _ _ h=>h))
   have g8:=HQ8.out.cell (p:=⟨b,0,none⟩) (fun h=>h) HG0.out
   have hcc:=HQ8.out
   have h8:=Ch.refl (fun _=>False) w8
   have e1:((LL:Int) != (LL:Int))=false:=by simp
   have e2:((en:Int) != (en:Int))=false:=by simp
   have HCT8:Bx (∀ W,Ch (fun _=>False) w8 W→Calls Tryz.prog 30 #[.pointer (some ⟨x,0,none⟩), .slice P m e] W fun e w'=>e = .returned (.int .i64 (LL:Nat))∧Ch (fun _=>False) w8 w'):=⟨fun W hc=>(X.count_any (HI.out.keep (HQ8.out.trans hc (fun _ _ h=>h))) p P m e (HPB.out.ch (HQ8.out.trans hc (fun _ _ h=>h)) (fun _ _ _ h=>h)) HBP.out HMM.out).mono fun e w' h=>⟨by rw[h.1,HLL.out],hc.trans h.2 (fun _ _ h=>h)⟩⟩
   have HDO8:Bx (∀ W,Ch (fun _=>False) w8 W→Calls Tryz.prog 31 #[.pointer (some ⟨x,0,none⟩)] W fun e w'=>e = .returned (.int .i64 en)∧Ch (fun _=>False) w8 w'):=⟨fun W hc=>(X.docs_same (HI.out.keep (HQ8.out.trans hc (fun _ _ h=>h))) en (by rw[ts_len]; exact HEN.out)).mono fun e w' h=>⟨h.1,by rw[←h.2]; exact hc⟩⟩
   clear hG8 HR7 hcc
   go_wp2_with fail
   go_region_held3 (fun w'=>w'.cell? ⟨b,0,none⟩=some (.pointer (some ⟨x,0,none⟩))) (first | go_keep | exact s2 | exact g8) (first
    | (go_at_call 30; (with_reducible (refine (HCT8.out _ (by first | exact h8 | exact h8.drew)).mono ?_)); rintro e w9 ⟨rfl,h8⟩; have s2:w9.cell? ⟨b,0,none⟩=some (.pointer (some ⟨x,0,none⟩)):=h8.cell (fun h=>h) g8)
    | (go_at_call 31; (with_reducible (refine (HDO8.out _ (by first | exact h8 | exact h8.drew)).mono ?_)); rintro e w9 ⟨rfl,h8⟩; have s2:w9.cell? ⟨b,0,none⟩=some (.pointer (some ⟨x,0,none⟩)):=h8.cell (fun h=>h) g8))
   all_goals
    have HQ9:=Bx.mk (HQ8.out.trans h8 (fun _ _ h=>h))
    have HX9:=Bx.mk (HH7.out.ch h8 (fun _ _ _ h=>h))
    have HY9:=Bx.mk (HH8.out.ch h8 (fun _ _ _ h=>h))
    have HC69:=Bx.mk (HC68.out.trans h8 (fun _ _ h=>h))
    have hlb:=HLB.out
    clear h8 s2 g8 HCT8 HDO8
    go_wp2_with fail
    go_loopw [18] (fun i wr=>∃ q z:Nat,q≤LL∧i = .int .i64 q∧wr=w9.drewN z) (fun i _=>LL-(intOf i).toNat)
    case atStart=>exact⟨0,0,Nat.zero_le _,rfl,rfl⟩
    case round =>
     obtain⟨q,z,hq,rfl,rfl⟩:=hrel
     by_cases hlt:q<LL
     ·obtain⟨b1,o1,rfl,_,hc1⟩:=HX9.out.at_ (by omega)
      obtain⟨b2,o2,rfl,_,hc2⟩:=HY9.out.at_ (by omega)
      obtain⟨hh,hhh⟩:∃ h,(locs (ts es) p 0)[q]? = some h:=⟨_,List.getElem?_eq_getElem (by rw[HLL.out]; exact hlt)⟩
      obtain⟨dd,aa⟩:=hh
      obtain⟨k1,k2⟩:=hc1 q _ hhh
      obtain⟨k3,k4⟩:=hc2 q _ hhh
      clear hc1 hc2 hhh
      go_wp2
      go_quiet (fail)
      go_wp2
      go_roundw
      case rel=>exact⟨q+1,_,by omega,by go_num,rfl⟩
      case measure=>simp[intOf]; omega
     ·have HQA:=Bx.mk (HQ9.out.drewN z)
      have HCA:=Bx.mk (HC69.out.drewN z)
      have gA:=HQA.out.cell (p:=⟨b,0,none⟩) (fun h=>h) HG0.out
      obtain⟨wa,hwa⟩:∃ wa,w9.drewN z=wa:=⟨_,rfl⟩
      rw[hwa] at HQA HCA gA ⊢
      have HEX9:=Bx.mk (HEX.out wa HQA.out)
      clear hwa
      go_wp2_with fail
      refine HEX9.out.mono ?_
      rintro e0 wb ⟨Ab,cb,rfl,hsb,hb1,hb2,hCb,_,_⟩
      obtain⟨el,hel⟩:∃ el,(ext (ts es) z1 z2 z3).length=el:=⟨_,rfl⟩
      rw[hel] at hsb hb1
      rw[hel]
      have HSB:=Bx.mk hsb
      have HEL:=Bx.mk hel
      have HELB:Bx (el≤60000):=⟨by
       rw[←hel]
       unfold ext
       split
       ·simp
       ·rename_i hne
        have hd0:z1.toNat<(ts es).length:=by omega
        have h5:=HTL.out ((ts es).getD z1.toNat []) (by rw[List.getD_eq_getElem?_getD,List.getElem?_eq_getElem hd0]; exact List.getElem_mem hd0)
        rw[List.length_take,List.length_drop]
        omega⟩
      have HQB:=Bx.mk (HQA.out.trans hCb (fun _ _ h=>h))
      have HRX:=Bx.mk (refext_any (ts es) At en ct z1 z2 z3 wb (HST.out.ch (HCA.out.trans hCb (fun _ _ h=>h)) (fun _ _ _ h=>h)) (fun t ht=>by have:=HTL.out t ht; omega))
      clear hsb hb1 hb2 hCb HEX9 hel gA
      go_wp2_with fail
      refine HRX.out.mono ?_
      rintro e0 wd ⟨vd,rfl,hFd⟩
      obtain⟨Ad,cd,rfl,_,_⟩:=fr_shape hFd HEL.out
      have HQD:=Bx.mk (HQB.out.trans hFd.2.2 (fun _ _ h=>h))
      have HSM:=Bx.mk (same_yes (ext (ts es) z1 z2 z3) Ab Ad el el cb cd wd (by have:=HELB.out; omega) (by have:=HELB.out; omega) (HSB.out.ch hFd.2.2 (fun _ _ _ h=>h)) (Fresh.sl hFd HEL.out.symm))
      clear hFd HRX
      go_wp2_with fail
      refine HSM.out.mono ?_
      rintro e0 wf ⟨rfl,hCf⟩
      have HCF:=Bx.mk (HC5.out.trans (HQD.out.trans hCf (fun _ _ h=>h)) (fun _ _ h=>h))
      have HKN:=Bx.mk (known_any wf (HW.out.keep HCF.out))
      clear hCf HSM
      go_wp2_with fail
      refine HKN.out.mono ?_
      rintro e0 wg ⟨rfl,hCg⟩
      have HCG:=Bx.mk (HCF.out.trans hCg (fun _ _ h=>h))
      clear hCg HKN
      go_wp2
      go_ret
      exact⟨rfl,HCG.out⟩
end Go.Proofs.YtambgjpfoceieaaGreatDoor
