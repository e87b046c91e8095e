/- Lemmas and contracts of this proof. Conditions: said at each. -/
import Derived.Test.YtambgjpfoceieaaGreatDoorFmRoomy
import Derived.Test.YtambgjpfoceieaaGreatDoorGSgAlike
import Derived.Test.YtambgjpfoceieaaGreatDoorGSxEncd
import Derived.Test.YtambgjpfoceieaaGreatDoorSgDec
set_option maxHeartbeats 8000000
set_option maxRecDepth 100000
namespace Go.Proofs.YtambgjpfoceieaaGreatDoor
open Go.RowKit Go.Oct Go.Su Go.Sg Go.Fr
theorem decodes_law (b p:List Int) (A P:Option Addr) (n c m e:Nat) (w:World) (hb:Sl w (fun _=>True) .u8 A n b) (hby:∀ x∈b,0≤x∧x<256) (hc:n≤c) (hcm:c≤maxLen) (hp:Sl w (fun _=>True) .u8 P m p) (hbp:∀ x∈p,0≤x∧x<256) (hm:m≤9223372036854775807) (ho:O.Tab w) (hw:W.Tab w) :
  Calls Tryz.prog 5 #[.slice A n c, .slice P m e] w fun e w'=>e = .returned (.bool true)∧Ch (fun _=>False) w w':=by
 have hn:n≤9223372036854775807:=by unfold maxLen at hcm; omega
 have hc2:c≤9223372036854775807:=by unfold maxLen at hcm; omega
 have HB:=Bx.mk hb
 have HBY:=Bx.mk hby
 have HP:=Bx.mk hp
 have HBP:=Bx.mk hbp
 have HO:=Bx.mk ho
 have HW:=Bx.mk hw
 have HCM:=Bx.mk hcm
 have HLN:=Bx.mk hb.len
 clear hb hby hp hbp ho hw hcm
 by_cases hn6:6000<n
 ·have d1:decide ((6000:Int)<(n:Int))=true:=decide_eq_true (by omega)
  have d2:decide (6000<n)=true:=decide_eq_true hn6
  go_enter Tryz.func5,Tryz.ntmps5
  go_wp2_with fail
  go_ret
  exact⟨rfl,Ch.refl _ _⟩
 have d1:decide ((6000:Int)<(n:Int))=false:=decide_eq_false (by omega)
 have d2:decide (6000<n)=false:=decide_eq_false hn6
 by_cases hm1:100<m
 ·have d3:decide ((100:Int)<(m:Int))=true:=decide_eq_true (by omega)
  have d4:decide (100<m)=true:=decide_eq_true hm1
  go_enter Tryz.func5,Tryz.ntmps5
  go_wp2_with fail
  go_ret
  exact⟨rfl,Ch.refl _ _⟩
 have d3:decide ((100:Int)<(m:Int))=false:=decide_eq_false (by omega)
 have d4:decide (100<m)=false:=decide_eq_false hm1
 have HM:Bx (m≤100):=⟨by omega⟩
 have hn6':n≤6000:=by omega
 have HRM:=Bx.mk (roomy_any b A n c w _ (by omega) HB.out)
 clear hn6 hm1
 go_enter Tryz.func5,Tryz.ntmps5
 go_wp2_with fail
 refine HRM.out.mono ?_
 rintro e0 w1 ⟨g,k,rfl,hg,hk,hkm,hown,hC1⟩
 have HOW:=Bx.mk hown
 have HC1:=Bx.mk hC1
 have HKM:=Bx.mk hkm
 have hk2:k≤9223372036854775807:=by unfold maxLen at hkm; omega
 have hsl:Sl w1 (fun i=>(Value.slice (some ⟨g,0,none⟩) n k).ownBlock=some i) .u8 (some ⟨g,0,none⟩) n b:=by
  have h1:=own_takeB hown (k:=n) (by omega)
  rw[List.take_append_of_le_length (by rw[List.length_map,HLN.out]; exact Nat.le_refl _),List.take_of_length_le (by rw[List.length_map,HLN.out]; exact Nat.le_refl _)] at h1
  exact Sl.of_own h1
 have HDE:=Bx.mk (decode_any b (some ⟨g,0,none⟩) n k w1 hsl (by omega) hkm (by omega) HBY.out (HO.out.ch hC1 (fun h=>h)) (HW.out.keep hC1))
 have i1:((n:Nat):Int)≤((n+1:Nat):Int):=by omega
 have i2:((n:Nat):Int)≤(k:Int):=by omega
 have i3:(0:Int)≤(n:Int):=by omega
 clear hown hC1 hkm hsl HRM
 go_wp2_with fail
 refine HDE.out.mono ?_
 intro e0 w2 hd2
 have hC12:Ch (fun _=>False) w1 w2:=by
  rcases hd2 with ⟨_,_,h⟩ | ⟨_,_,_,_,_,_,h⟩
  ·exact h
  ·exact h
 have HC12:=Bx.mk hC12
 have HC2:=Bx.mk (HC1.out.trans hC12 (fun _ _ h=>h))
 have HRD:=Bx.mk (rdec_any b A n c w2 (HB.out.ch HC2.out (fun _ _ _ h=>h)) hc HCM.out hn6' HBY.out)
 clear hC12 HDE
 rcases hd2 with ⟨hno,rfl,_⟩ | ⟨bs,ds,gs,hgood,rfl,hS,_⟩
 ·have HNO:=Bx.mk hno
  clear hno
  go_wp2_with fail
  refine HRD.out.mono ?_
  rintro e0 w3 (⟨_,rfl,hC3⟩ | ⟨_,ds,gs,hg,_⟩)
  ·have HC3:=Bx.mk (HC2.out.trans hC3 (fun _ _ h=>h))
   have HST:=Bx.mk (stands_any b A n c g k w3 _ (by omega) hk HKM.out (HB.out.ch HC3.out (fun _ _ _ h=>h)) ((HC12.out.trans hC3 (fun _ _ h=>h)).own HOW.out (fun _ _ h=>h)))
   clear hC3 HRD
   go_wp2_with fail
   refine HST.out.mono ?_
   rintro e0 w4 ⟨rfl,q4,hq4⟩
   have HC4:Bx (Ch (fun _=>False) w w4):=⟨by rw[hq4]; exact HC3.out.drewN _⟩
   have HKN:=Bx.mk (known_any w4 (HW.out.keep HC4.out))
   clear hq4 HST
   go_wp2_with fail
   refine HKN.out.mono ?_
   rintro e0 w5 ⟨rfl,hC5⟩
   have HC5:=Bx.mk (HC4.out.trans hC5 (fun _ _ h=>h))
   clear hC5 HKN
   go_wp2
   go_ret
   exact⟨rfl,HC5.out⟩
  ·exact absurd hg (HNO.out ds gs)
 ·have HGD:=Bx.mk hgood
  have HS:=Bx.mk hS
  clear hgood hS
  go_wp2_with fail
  refine HRD.out.mono ?_
  rintro e0 w3 (⟨hno,_⟩ | ⟨b',ds',gs',hg,rfl,hR,hC3⟩)
  ·exact absurd HGD.out (hno ds gs)
  obtain⟨rfl,rfl⟩:=HGD.out.uniq hg
  have HC3:=Bx.mk (HC2.out.trans hC3 (fun _ _ h=>h))
  have HST:=Bx.mk (stands_any b A n c g k w3 _ (by omega) hk HKM.out (HB.out.ch HC3.out (fun _ _ _ h=>h)) ((HC12.out.trans hC3 (fun _ _ h=>h)).own HOW.out (fun _ _ h=>h)))
  have HS3:=Bx.mk (HS.out.keep hC3)
  have HR3:=Bx.mk hR
  have HLT:=Bx.mk (HGD.out.lite (by rw[HLN.out]; omega))
  clear hg hR hC3 HRD HS
  go_wp2_with fail
  refine HST.out.mono ?_
  rintro e0 w4 ⟨rfl,q4,hq4⟩
  have HC34:Bx (Ch (fun _=>False) w3 w4):=⟨by rw[hq4]; exact (Ch.refl _ w3).drewN _⟩
  have HC4:=Bx.mk (HC3.out.trans HC34.out (fun _ _ h=>h))
  have HAL:=Bx.mk (alike_any (HS3.out.keep HC34.out) (HR3.out.keep HC34.out) HGD.out.1 HLT.out p P m e (HP.out.ch HC4.out (fun _ _ _ h=>h)) HBP.out (by have:=HM.out; omega) (HO.out.ch HC4.out (fun h=>h)))
  clear hq4 HST
  go_wp2_with fail
  refine HAL.out.mono ?_
  rintro e0 w5 ⟨rfl,hC5⟩
  have HC5:=Bx.mk (HC4.out.trans hC5 (fun _ _ h=>h))
  have HEN:=Bx.mk (enc_any (HS3.out.keep (HC34.out.trans hC5 (fun _ _ h=>h))) (fit_of HLT.out) (HO.out.ch HC5.out (fun h=>h)))
  clear hC5 HAL
  go_wp2_with fail
  refine HEN.out.mono ?_
  rintro e0 w6 ⟨v6,t,rfl,hT,hF6⟩
  have HXE:Bx (frm (bod ds gs t)=b):=⟨by
   obtain⟨_,t',ht',hx',_⟩:=HGD.out
   rw[hT.det ht',hx']⟩
  rw[HXE.out] at hF6
  obtain⟨A6,c6,rfl,_,_⟩:=fr_shape hF6 HLN.out
  have HC6:=Bx.mk (HC5.out.trans hF6.2.2 (fun _ _ h=>h))
  have HSM:=Bx.mk (same_yes b A6 A n n c6 c w6 hn hn (Fresh.sl hF6 HLN.out.symm) (HB.out.ch HC6.out (fun _ _ _ h=>h)))
  clear hT hF6 HEN HXE
  go_wp2_with fail
  refine HSM.out.mono ?_
  rintro e0 w7 ⟨rfl,hC7⟩
  have HC7:=Bx.mk (HC6.out.trans hC7 (fun _ _ h=>h))
  have HKN:=Bx.mk (known_any w7 (HW.out.keep HC7.out))
  clear hC7 HSM
  go_wp2_with fail
  refine HKN.out.mono ?_
  rintro e0 w8 ⟨rfl,hC8⟩
  have HC8:=Bx.mk (HC7.out.trans hC8 (fun _ _ h=>h))
  clear hC8 HKN
  go_wp2
  go_ret
  exact⟨rfl,HC8.out⟩
end Go.Proofs.YtambgjpfoceieaaGreatDoor
