/- Lemmas and contracts of this proof. Conditions: said at each. -/
import Derived.Test.YtambgjpfoceieaaGreatDoorGSgAlike
import Derived.Test.YtambgjpfoceieaaGreatDoorGSxEncd
set_option maxHeartbeats 8000000
set_option maxRecDepth 100000
namespace Go.Proofs.YtambgjpfoceieaaGreatDoor
open Go.RowKit Go.Oct Go.Su Go.Sg Go.Fr
theorem back_law (s:Go.Sg.St) (cs:List Value) (p:List Int) (P:Option Addr) (m e:Nat) (w:World) (hE:SetE w (fun _=>True) cs s) (hok:SetOk s) (hp:Sl w (fun _=>True) .u8 P m p) (hbp:∀ x∈p,0≤x∧x<256) (hm:m≤9223372036854775807) (ho:O.Tab w) (hw:W.Tab w) :
  Calls Tryz.prog 4 #[.agg cs.toArray, .slice P m e] w fun e w'=>e = .returned (.bool true)∧Ch (fun _=>False) w w':=by
 obtain⟨ds,gs⟩:=s
 obtain⟨A,c,B,d,rfl,hz,hg,h1,h2,h3,h4⟩:=hE
 simp only at hz hg h1 h3
 obtain⟨n,hn⟩:∃ n,ds.length=n:=⟨_,rfl⟩
 obtain⟨k,hk⟩:∃ k,gs.length=k:=⟨_,rfl⟩
 simp only[hn,hk] at hz hg h1 h3 ⊢
 have HZ:=Bx.mk hz
 have HG:=Bx.mk hg
 have HOK:=Bx.mk hok
 have HP:=Bx.mk hp
 have HBP:=Bx.mk hbp
 have HO:=Bx.mk ho
 have HW:=Bx.mk hw
 have HDM:=Bx.mk h4
 clear hz hg hok hp hbp ho hw hn hk
 go_enter Tryz.func4,Tryz.ntmps4
 go_wp2_with fail
 obtain⟨w1,hw1⟩:∃ w1,w.alloc (.cells #[.slice A n c, .slice B k d] 25)=w1:=⟨_,rfl⟩
 have hs1:w1.heap.size=w.heap.size+1:=by rw[←hw1]; exact World.size_alloc ..
 have hC1:Ch (fun _=>False) w w1:=by rw[←hw1]; exact (Ch.refl _ w).alloc _
 have hcs:=cells_two w (.slice A n c) (.slice B k d) 25
 rw[hw1] at hcs ⊢
 rw[←hs1]
 obtain⟨bx,hbx⟩:∃ bx,w.heap.size=bx:=⟨_,rfl⟩
 rw[hbx] at hcs ⊢
 have HH:=Bx.mk (heavyset_any [(ds,gs)] _ 1 1 _ (sts_one 25 (HZ.out.ch hC1 (fun _ _ _ h=>h)) (HG.out.ch hC1 (fun _ _ _ h=>h)) h1 h2 h3 h4) (by intro s hs; simp at hs; subst hs; exact HOK.out) (Nat.le_refl _) (by unfold maxLen; omega))
 have HC2:=Bx.mk (hC1.alloc (.cells #[.slice A n c, .slice B k d] 25))
 have HCS:=Bx.mk hcs
 have HC12:=Bx.mk ((Ch.refl (fun _=>False) w1).alloc (.cells #[.slice A n c, .slice B k d] 25))
 clear hw1 hs1 hC1 hcs hbx
 generalize w1.alloc (.cells #[.slice A n c, .slice B k d] 25)=w2 at *
 refine HH.out.mono ?_
 rintro e0 w3 ⟨o,rfl,hC3,hslim⟩
 have HSL:=Bx.mk hslim
 have HC3:=Bx.mk (HC2.out.trans hC3 (fun _ _ h=>h))
 have hb0:=(HC12.out.trans hC3 (fun _ _ h=>h)).cell (p:=⟨bx,0,none⟩) (fun h=>h) HCS.out.1
 have hb1:=(HC12.out.trans hC3 (fun _ _ h=>h)).cell (p:=⟨bx,1,none⟩) (fun h=>h) HCS.out.2
 clear hslim HH HC12 HCS HC2 hC3
 cases o with
 | true =>
  go_wp2_with fail
  go_ret
  exact⟨rfl,HC3.out⟩
 | false =>
  have HWS:Bx (wD ds+wK gs≤1500):=⟨by have h:=(HSL.out rfl).1; rwa[wS_one] at h⟩
  have HLT:=Bx.mk (lite_of HWS.out)
  have HBY:Bx (∀ d∈ds,∀ x∈d.2,0≤x∧x<256):=⟨fun d hd=>(HOK.out.1 d hd).2.2⟩
  have HB0:=Bx.mk hb0
  have HB1:=Bx.mk hb1
  clear HSL
  by_cases hm1:100<m
  ·have d1:decide ((100:Int)<(m:Int))=true:=decide_eq_true (by omega)
   have d2:decide (100<m)=true:=decide_eq_true hm1
   go_wp2_with fail
   go_ret
   exact⟨rfl,HC3.out⟩
  have d1:decide ((100:Int)<(m:Int))=false:=decide_eq_false (by omega)
  have d2:decide (100<m)=false:=decide_eq_false hm1
  have HM:Bx (m≤100):=⟨by omega⟩
  clear hm1 hb0 hb1
  have hb0:=HB0.out
  have hb1:=HB1.out
  have HPN:=Bx.mk (new_any ds gs A B n c k d w3 (HZ.out.ch HC3.out (fun _ _ _ h=>h)) (HG.out.ch HC3.out (fun _ _ _ h=>h)) HLT.out HBY.out (HW.out.keep HC3.out))
  go_wp2_with fail
  refine HPN.out.mono ?_
  rintro e0 w4 ⟨ec,es,hs,hres,hC4,h5⟩
  have hb0:=hC4.cell (p:=⟨bx,0,none⟩) (fun h=>h) HB0.out
  have hb1:=hC4.cell (p:=⟨bx,1,none⟩) (fun h=>h) HB1.out
  have HC4:=Bx.mk (HC3.out.trans hC4 (fun _ _ h=>h))
  have HRES:=Bx.mk hres
  have HRN:=Bx.mk (rnew_any ds gs A B n c k d w4 (HZ.out.ch HC4.out (fun _ _ _ h=>h)) (HG.out.ch HC4.out (fun _ _ _ h=>h)) HLT.out h3 HDM.out HBY.out)
  clear hres hC4 HPN
  rcases h5 with ⟨hec,rfl⟩ | ⟨rfl,b,rfl,hS⟩
  ·go_wp2_with fail
   refine HRN.out.mono ?_
   rintro e0 w5 ⟨ec',es',hs',hres',hC5,h6⟩
   obtain⟨rfl,_⟩:=HRES.out.same hres'
   rcases h6 with ⟨_,rfl⟩ | ⟨h0,_⟩
   ·have n1:((ec:Int) != (ec:Int))=false:=by simp
    have n2:((ec:Int) != 0)=true:=by simpa using hec
    have HC5:=Bx.mk (HC4.out.trans hC5 (fun _ _ h=>h))
    have HKN:=Bx.mk (known_any w5 (HW.out.keep HC5.out))
    clear hres' hC5 HRN hec
    go_wp2_with fail
    refine HKN.out.mono ?_
    rintro e0 w6 ⟨rfl,hC6⟩
    have HC6:=Bx.mk (HC5.out.trans hC6 (fun _ _ h=>h))
    clear hC6 HKN
    go_wp2
    go_ret
    exact⟨rfl,HC6.out⟩
   ·exact absurd h0 hec
  ·have HS:=Bx.mk hS
   clear hS
   go_wp2_with fail
   refine HRN.out.mono ?_
   rintro e0 w5 ⟨ec',es',hs',hres',hC5,h6⟩
   obtain⟨e1,e2⟩:=HRES.out.same hres'
   obtain⟨rfl,rfl⟩:=e2 rfl
   subst e1
   rcases h6 with ⟨h0,_⟩ | ⟨_,b',rfl,hR⟩
   ·exact absurd rfl h0
   have HSEG:=Bx.mk (newres_seg HRES.out rfl HBY.out)
   have HMD:=Bx.mk (newres_yes HRES.out rfl).1
   have HLT2:=Bx.mk (HLT.out.perm HMD.out.pd HMD.out.pg)
   have HC5:=Bx.mk (HC4.out.trans hC5 (fun _ _ h=>h))
   have HS5:=Bx.mk (HS.out.keep hC5)
   have HR5:=Bx.mk hR
   clear hres' hC5 HRN e2 hR HS
   have HEN:=Bx.mk (enc_any HS5.out (fit_of HLT2.out) (HO.out.ch HC5.out (fun h=>h)))
   have HRB:Bx (Rs w5 (fun i=>i<w5.heap.size) b' es hs):=⟨HR5.out.mono (fun i hi _=>hi)⟩
   have HPB:Bx (Sl w5 (fun i=>i<w5.heap.size) .u8 P m p):=⟨(HP.out.ch HC5.out (fun _ _ _ h=>h)).mono (fun i hi _=>hi)⟩
   go_wp2_with fail
   refine HEN.out.mono ?_
   rintro e0 w6 ⟨v6,t,rfl,hT,hF6⟩
   obtain⟨N,hN⟩:∃ N,(frm (bod es hs t)).length=N:=⟨_,rfl⟩
   have hNb:N≤50000:=by
    have h5:=bod_slim (ds:=es) (gs:=hs) (t:=t) (by rw[wD_perm HMD.out.pd,wK_perm HMD.out.pg]; exact HWS.out) hT
    rw[frm_len] at hN
    omega
   obtain⟨A6,c6,rfl,h61,h62⟩:=fr_shape hF6 hN
   have HF6:=Bx.mk hF6
   have HC6:=Bx.mk (HC5.out.trans hF6.2.2 (fun _ _ h=>h))
   have HDE:=Bx.mk (decode_any (frm (bod es hs t)) A6 N c6 w6 (Fresh.sl hF6 hN.symm) h61 h62 hNb (frm_byt (bod_byt es hs t)) (HO.out.ch HC6.out (fun h=>h)) (HW.out.keep HC6.out))
   have HGOOD:Bx (Good (frm (bod es hs t)) es hs):=⟨⟨HSEG.out,t,hT,rfl,(fit_of HLT2.out).lb t hT⟩⟩
   have HN:=Bx.mk hN
   clear hT hF6 hN h61 h62 HEN
   go_wp2_with fail
   refine HDE.out.mono ?_
   rintro e0 w7 (⟨hno,_⟩ | ⟨b7,ds7,gs7,hg7,rfl,hS7,hC7⟩)
   ·exact absurd HGOOD.out (hno es hs)
   obtain⟨rfl,rfl⟩:=HGOOD.out.uniq hg7
   have HC7:=Bx.mk (HC6.out.trans hC7 (fun _ _ h=>h))
   have hown:=hC7.own HF6.out.1 (fun _ _ h=>h)
   rw[HN.out] at hown
   have HSP:=Bx.mk (spoil_any (.slice A6 N c6) N _ w7 (by omega) hown)
   have HLT6:Bx (∀ i,(Value.slice A6 N c6).ownBlock=some i→i<w6.heap.size∧w5.heap.size≤i):=⟨fun i hi=>⟨own_lt HF6.out.1 i hi,HF6.out.2.1 i hi⟩⟩
   have HS7:=Bx.mk hS7
   have HC57:=Bx.mk (HF6.out.2.2.trans hC7 (fun _ _ h=>h))
   clear hg7 hS7 hC7 hown HDE
   go_wp2_with fail
   refine HSP.out.mono ?_
   rintro e0 w8 ⟨rfl,hC8⟩
   have hgw:∀ i,i<w5.heap.size→¬ (Value.slice A6 N c6).ownBlock=some i:=fun i hi e=>by have h5:=(HLT6.out i e).2; omega
   have HC8:Bx (Ch (fun _=>False) w w8):=⟨HC7.out.trans hC8 (fun i hi e=>by have h5:=(HLT6.out i e).2; have h6:=HC5.out.size; omega)⟩
   have HS8:Bx (Sp w8 (fun i=>w6.heap.size≤i) b7 es hs):=⟨HS7.out.chS hC8 (fun i hi _ e=>by have h5:=(HLT6.out i e).1; omega) (fun e=>by have h5:=(HLT6.out _ e).2; have h6:=wtab_lt (HW.out.keep HC5.out); omega)⟩
   have HR8:Bx (Rs w8 (fun i=>i<w5.heap.size) b' es hs):=⟨(HRB.out.keep HC57.out).ch hC8 (fun i hi _=>hgw i hi)⟩
   have HP8:Bx (Sl w8 (fun i=>i<w5.heap.size) .u8 P m p):=⟨(HPB.out.ch HC57.out (fun _ _ _ h=>h)).ch hC8 (fun i hi _=>hgw i hi)⟩
   have HAL:=Bx.mk (alike_any HS8.out HR8.out HSEG.out HLT2.out p P m e HP8.out HBP.out (by have:=HM.out; omega) (HO.out.ch HC8.out (fun h=>h)))
   clear hC8 HSP hgw
   go_wp2_with fail
   refine HAL.out.mono ?_
   rintro e0 w9 ⟨rfl,hC9⟩
   have HC9:=Bx.mk (HC8.out.trans hC9 (fun _ _ h=>h))
   have HKN:=Bx.mk (known_any w9 (HW.out.keep HC9.out))
   clear hC9 HAL
   go_wp2_with fail
   refine HKN.out.mono ?_
   rintro e0 w10 ⟨rfl,hC10⟩
   have HC10:=Bx.mk (HC9.out.trans hC10 (fun _ _ h=>h))
   clear hC10 HKN
   go_wp2
   go_ret
   exact⟨rfl,HC10.out⟩
end Go.Proofs.YtambgjpfoceieaaGreatDoor
