/- Lemmas and contracts of this proof. Conditions: said at each. -/
import Derived.Test.YtambgjpfoceieaaGreatDoorGSgAlike
set_option maxHeartbeats 8000000
set_option maxRecDepth 100000
namespace Go.Proofs.YtambgjpfoceieaaGreatDoor
open Go.RowKit Go.Oct Go.Su Go.Sg Go.Fr
theorem sps_nil (w:World):Sps (w.alloc (.cells #[.pointer none] 29)) (fun _=>True) (some ⟨w.heap.size,0,none⟩) 1 [none] :=
 ⟨[.pointer none],Vs.mono (Vs.one w 29 (.pointer none)) (fun _ _ _=>trivial),rfl,fun i u o hu ho=>by
  match i,hu,ho with
  | 0,hu,ho =>
   simp at hu ho
   subst hu ho
   rfl
  | i+1,hu,_=>simp at hu⟩
theorem nothing_law (key:Key) (P:Option Addr) (m e:Nat) (w:World) (hk:key.length≤140737488351232) (hm:m≤140737488351232) (hw:W.Tab w) :
  Calls Tryz.prog 9 #[kv key, .slice P m e] w fun e w'=>e = .returned (.bool true)∧Ch (fun _=>False) w w':=by
 have HW:=Bx.mk hw
 obtain⟨SK,hSK,hz⟩:∃ S:ByteArray,kv key = .string S∧S.size=key.length:=⟨_,rfl,kv_size key⟩
 have HG:=Bx.mk (fun W=>get_nil key W)
 rw[hSK] at HG ⊢
 obtain⟨kl,hkl⟩:∃ kl,key.length=kl:=⟨_,rfl⟩
 rw[hkl] at hz hk
 clear hw hSK hkl
 have hsum:IntKind.i64.wrap ((kl:Int)+(m:Int))=((kl+m:Nat):Int):=by rw[IntWalk.i64_in _ (by omega)]; omega
 by_cases hbig:1500<kl+m
 ·have d1:decide ((1500:Int)<(kl:Int)+(m:Int))=true:=decide_eq_true (by omega)
  have d2:decide (1500<kl+m)=true:=decide_eq_true hbig
  have d3:decide ((1500:Int)<((kl+m:Nat):Int))=true:=decide_eq_true (by omega)
  go_enter Tryz.func9,Tryz.ntmps9
  go_wp2_with fail
  go_ret
  exact⟨rfl,Ch.refl _ _⟩
 have d1:decide ((1500:Int)<(kl:Int)+(m:Int))=false:=decide_eq_false (by omega)
 have d2:decide (1500<kl+m)=false:=decide_eq_false hbig
 have d3:decide ((1500:Int)<((kl+m:Nat):Int))=false:=decide_eq_false (by omega)
 go_enter Tryz.func9,Tryz.ntmps9
 go_wp2_with fail
 clear hsum hbig d1 d2 d3
 refine (HG.out w).mono ?_
 rintro e0 w1 ⟨rfl,hC1⟩
 have HC1:=Bx.mk hC1
 clear hC1 HG
 go_wp2_with fail
 have hC2:Ch (fun _=>False) w (w1.alloc (.cells #[.pointer none] 29)):=HC1.out.alloc _
 have HMG:=Bx.mk (pmerge_any [none] true _ 1 1 _ (sps_nil w1) (lite_of (by decide)) (by simp[lv]) (by omega) (HW.out.keep hC2))
 have HC2:=Bx.mk hC2
 clear hC2
 generalize w1.alloc (.cells #[.pointer none] 29)=w2 at *
 refine HMG.out.mono ?_
 rintro e0 w3 (⟨_,rfl,hC3⟩ | ⟨h,_⟩)
 ·have HC3:=Bx.mk (HC2.out.trans hC3 (fun _ _ h=>h))
  clear hC3 HMG
  go_wp2_with fail
  refine (keys_nil w3).mono ?_
  rintro e0 w4 ⟨rfl,hC4⟩
  have HC4:=Bx.mk (HC3.out.trans hC4 (fun _ _ h=>h))
  clear hC4
  go_wp2_with fail
  refine (gone_nil w4).mono ?_
  rintro e0 w5 ⟨rfl,hC5⟩
  have HC5:=Bx.mk (HC4.out.trans hC5 (fun _ _ h=>h))
  clear hC5
  go_wp2_with fail
  refine (find_nil w5 P m e).mono ?_
  rintro e0 w6 ⟨rfl,hC6⟩
  have HC6:=Bx.mk (HC5.out.trans hC6 (fun _ _ h=>h))
  clear hC6
  go_wp2_with fail
  refine (encode_nil w6).mono ?_
  rintro e0 w7 ⟨rfl,hC7⟩
  have HC7:=Bx.mk (HC6.out.trans hC7 (fun _ _ h=>h))
  have HKN:=Bx.mk (known_any w7 (HW.out.keep HC7.out))
  clear hC7
  go_wp2_with fail
  refine HKN.out.mono ?_
  rintro e0 w8 ⟨rfl,hC8⟩
  have HC8:=Bx.mk (HC7.out.trans hC8 (fun _ _ h=>h))
  clear hC8 HKN
  go_wp2
  go_ret
  exact⟨rfl,HC8.out⟩
 ·exact absurd (by simp) h
end Go.Proofs.YtambgjpfoceieaaGreatDoor
