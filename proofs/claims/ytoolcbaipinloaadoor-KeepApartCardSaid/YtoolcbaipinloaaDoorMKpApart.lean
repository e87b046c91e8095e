/- Lemmas and contracts of this proof. Conditions: said at each. -/
import Derived.Test.YtoolcbaipinloaaDoorGKpApM
import Derived.Test.YtoolcbaipinloaaDoorMKpAppG
set_option maxHeartbeats 8000000
set_option maxRecDepth 100000
namespace Go.Proofs.YtoolcbaipinloaaDoor
open Go.RowKit Go.Oct Go.Su Go.Dk Go.Maps Go.Fr
section
variable {F0 F1 F2:Nat→Prop}
theorem keepapart_law (a b c:List Int) (A B C:Option Addr) (n m q ca cb cc:Nat) (dr:Int) (w:World) (ht:O.Tab w) (ha:Sl w F0 .u8 A n a) (hb:Sl w F1 .u8 B m b) (hc:Sl w F2 .u8 C q c)
  (ka:n≤ca∧ca≤maxLen) (kb:m≤cb∧cb≤maxLen) (kc:q≤cc∧cc≤maxLen) (hn:n≤140737488351232) (hm:m≤140737488351232) (hq:q≤140737488351232) (hdr : -9223372036854775808≤dr∧dr≤9223372036854775807)
  (ba:Byt a) (bb:Byt b) (bc:Byt c) :
  Calls Tryd.prog 6 #[.slice A n ca, .slice B m cb, .slice C q cc, .int .i64 dr] w (True_ w):=by
 have HT:=Bx.mk ht
 have HA:=Bx.mk ha
 have HB:=Bx.mk hb
 have HC:=Bx.mk hc
 have KA:=Bx.mk ka
 have KB:=Bx.mk kb
 have KC:=Bx.mk kc
 have BA:=Bx.mk ba
 have BB:=Bx.mk bb
 have BC:=Bx.mk bc
 have HDR:=Bx.mk hdr
 clear ht ha hb hc ka kb kc ba bb bc hdr
 by_cases hbig:5000<n+m+q
 ·have e1:decide ((5000:Int)<(n:Int)+(m:Int)+(q:Int))=true:=decide_eq_true (by omega)
  go_enter Tryd.func6,Tryd.ntmps6
  go_wp2_with fail
  go_ret
  exact⟨rfl,Ch.refl _ _⟩
 ·have e1:decide ((5000:Int)<(n:Int)+(m:Int)+(q:Int))=false:=decide_eq_false (by omega)
  have HNB:Bx (n+m+q≤5000):=⟨by omega⟩
  go_enter Tryd.func6,Tryd.ntmps6
  go_wp2_with fail
  refine (new_any 1048576 w (by omega)).mono ?_
  rintro e w1 (⟨h1,_,_⟩ | ⟨_,_,S,rfl,hpd,hS,hc1⟩)
  ·omega
  obtain⟨g,mb,ad,hd,hgS⟩:=hpd.open_
  obtain⟨d,hdd⟩:∃ d,w.heap.size=d:=⟨_,rfl⟩
  have H0:Bx (Stt w w1 d g mb ad ⟨1048576,[],none⟩):=⟨by rw[←hdd]; exact hd,hc1.mono (fun _ _ h=>h.elim),fun b hb=>hS b (hgS b hb)⟩
  rw[hdd,show pv d = .pointer (some ⟨d,0,none⟩) from rfl]
  have AP0:Bx (Aps ⟨1048576,[],none⟩ 0 0 none none none):=⟨Aps.new⟩
  clear hpd hS hgS hd hc1 hdd
  have hl1:a.length=n:=HA.out.len
  obtain⟨z1,ap1⟩:=AP0.out.save1 (p:=a) BA.out (by have:=HNB.out; omega) (by have:=HNB.out; have:=HA.out.len; have:=HB.out.len; have:=HC.out.len; omega) (by omega)
  have HS:=Bx.mk (Stt.one (c:=ca) (k:=[112,45,49]) H0.out HT.out (by simp) (H0.out.sl (by rw[hl1]; exact HA.out)) (by rw[hl1]; exact KA.out.1) KA.out.2 (by have:=HNB.out; omega) BA.out)
  rw[show pv d = .pointer (some ⟨d,0,none⟩) from rfl,show kv [112,45,49] = .string ⟨#[112,45,49]⟩ from rfl,z1,hl1] at HS
  obtain⟨s1,hs⟩:∃ s',(opSaveL ⟨1048576,[],none⟩ [112,45,49] a).2=s':=⟨_,rfl⟩
  rw[hs] at HS ap1
  have AP1:=Bx.mk ap1
  clear hs ap1 z1 hl1 AP0
  go_wp2_with fail
  refine HS.out.mono ?_
  rintro e w2 ⟨rfl,g1,mb1,ad1,hst⟩
  have H1:=Bx.mk hst
  clear hst HS H0
  have hl2:b.length=m:=HB.out.len
  obtain⟨z2,ap2⟩:=AP1.out.save2 (p:=b) BB.out (by have:=HNB.out; omega) (by have:=HNB.out; have:=HA.out.len; have:=HB.out.len; have:=HC.out.len; omega) (by omega)
  have HS:=Bx.mk (Stt.one (c:=cb) (k:=[112,45,50]) H1.out HT.out (by simp) (H1.out.sl (by rw[hl2]; exact HB.out)) (by rw[hl2]; exact KB.out.1) KB.out.2 (by have:=HNB.out; omega) BB.out)
  rw[show pv d = .pointer (some ⟨d,0,none⟩) from rfl,show kv [112,45,50] = .string ⟨#[112,45,50]⟩ from rfl,z2,hl2] at HS
  obtain⟨s2,hs⟩:∃ s',(opSaveL s1 [112,45,50] b).2=s':=⟨_,rfl⟩
  rw[hs] at HS ap2
  have AP2:=Bx.mk ap2
  clear hs ap2 z2 hl2 AP1
  go_wp2_with fail
  refine HS.out.mono ?_
  rintro e w3 ⟨rfl,g2,mb2,ad2,hst⟩
  have H2:=Bx.mk hst
  clear hst HS H1
  have hl3:c.length=q:=HC.out.len
  obtain⟨z3,ap3⟩:=AP2.out.save3 (p:=c) BC.out (by have:=HNB.out; omega) (by have:=HNB.out; have:=HA.out.len; have:=HB.out.len; have:=HC.out.len; omega) (by omega)
  have HS:=Bx.mk (Stt.one (c:=cc) (k:=[113]) H2.out HT.out (by simp) (H2.out.sl (by rw[hl3]; exact HC.out)) (by rw[hl3]; exact KC.out.1) KC.out.2 (by have:=HNB.out; omega) BC.out)
  rw[show pv d = .pointer (some ⟨d,0,none⟩) from rfl,show kv [113] = .string ⟨#[113]⟩ from rfl,z3,hl3] at HS
  obtain⟨s3,hs⟩:∃ s',(opSaveL s2 [113] c).2=s':=⟨_,rfl⟩
  rw[hs] at HS ap3
  have AP3:=Bx.mk ap3
  clear hs ap3 z3 hl3 AP2
  go_wp2_with fail
  refine HS.out.mono ?_
  rintro e w4 ⟨rfl,g3,mb3,ad3,hst⟩
  have H3:=Bx.mk hst
  clear hst HS H2
  have hl4:b.length=m:=HB.out.len
  have hl4':a.length=n:=HA.out.len
  obtain⟨z4,ap4⟩:=AP3.out.save2 (p:=b++a) (by intro x hx; rcases List.mem_append.1 hx with h | h; exact BB.out x h; exact BA.out x h) (by rw[List.length_append]; have:=HNB.out; omega) (by have:=HNB.out; have:=HA.out.len; have:=HB.out.len; have:=HC.out.len; omega) (by omega)
  have HS:=Bx.mk (Stt.two (c1:=cb) (c2:=ca) (k:=[112,45,50]) H3.out HT.out (by simp) (H3.out.sl (by rw[hl4]; exact HB.out.mono (G:=fun _=>True) (fun _ _ _=>trivial))) (by rw[hl4]; exact KB.out.1) KB.out.2 (by have:=HNB.out; omega) BB.out (H3.out.sl (by rw[hl4']; exact HA.out.mono (G:=fun _=>True) (fun _ _ _=>trivial))) (by rw[hl4']; exact KA.out.1) KA.out.2 (by have:=HNB.out; omega) BA.out)
  rw[show pv d = .pointer (some ⟨d,0,none⟩) from rfl,show kv [112,45,50] = .string ⟨#[112,45,50]⟩ from rfl,z4,hl4,hl4'] at HS
  obtain⟨s4,hs⟩:∃ s',(opSaveL s3 [112,45,50] (b++a)).2=s':=⟨_,rfl⟩
  rw[hs] at HS ap4
  have AP4:=Bx.mk ap4
  clear hs ap4 z4 hl4 hl4' AP3
  go_wp2_with fail
  refine HS.out.mono ?_
  rintro e w5 ⟨rfl,g4,mb4,ad4,hst⟩
  have H4:=Bx.mk hst
  clear hst HS H3
  have HCR:=Bx.mk (crash_any H4.out.disk dr HDR.out)
  rw[show pv d = .pointer (some ⟨d,0,none⟩) from rfl] at HCR
  go_wp2_with fail
  refine HCR.out.mono ?_
  rintro e w6 ⟨rfl,hd6,hc6⟩
  have H5:=Bx.mk (H4.out.crash hd6 hc6)
  have AP5:=Bx.mk (AP4.out.crash dr)
  obtain⟨s5,hs⟩:∃ s',opCrash s4 dr=s':=⟨_,rfl⟩
  rw[hs] at H5 AP5
  clear hs hd6 hc6 HCR H4 AP4
  have HL1:=Bx.mk (pload_any H5.out.disk (H5.out.tab HT.out) [112,45,49] (by rw[AP5.out.free.room]; omega))
  rw[show pv d = .pointer (some ⟨d,0,none⟩) from rfl,show kv [112,45,49] = .string ⟨#[112,45,49]⟩ from rfl] at HL1
  go_wp2_with fail
  refine HL1.out.mono ?_
  rintro e w7 ⟨v,he,hf⟩
  rw[AP5.out.h1.load] at he hf
  have he:e = .returned (.tuple #[v, .int .i64 0]):=he
  have hf:Fresh w6 v a w7:=hf
  subst he
  obtain⟨A7,c7,rfl,_,_⟩:=own_shape hf.1
  have HX:Bx (Sl w7 (fun b=>(Value.slice A7 a.length c7).ownBlock=some b) .u8 A7 a.length a):=⟨Sl.of_own hf.1⟩
  have H6:=Bx.mk (H5.out.quiet hf.2.2)
  clear hf HL1 H5
  have hla:a.length=n:=HA.out.len
  rw[hla] at HX
  rw[hla]
  clear hla
  have HL2:=Bx.mk (pload_any H6.out.disk (H6.out.tab HT.out) [112,45,50] (by rw[AP5.out.free.room]; omega))
  rw[show pv d = .pointer (some ⟨d,0,none⟩) from rfl,show kv [112,45,50] = .string ⟨#[112,45,50]⟩ from rfl] at HL2
  go_wp2_with fail
  refine HL2.out.mono ?_
  rintro e w8 ⟨v,he,hf⟩
  rw[AP5.out.h2.load] at he hf
  have he:e = .returned (.tuple #[v, .int .i64 0]):=he
  have hf:Fresh w7 v (b++a) w8:=hf
  subst he
  obtain⟨A8,c8,rfl,_,_⟩:=own_shape hf.1
  have HY:Bx (Sl w8 (fun x=>(Value.slice A8 (b++a).length c8).ownBlock=some x) .u8 A8 (b++a).length (b++a)):=⟨Sl.of_own hf.1⟩
  have H7:=Bx.mk (H6.out.quiet hf.2.2)
  have HX8:=Bx.mk (HX.out.ch hf.2.2 (fun _ _ _ h=>h))
  have hlb:(b++a).length=m+n:=by rw[List.length_append,HB.out.len,HA.out.len]
  rw[hlb] at HY
  rw[hlb]
  clear hf HL2 H6 HX hlb
  have HSA:=Bx.mk (same_any A7 A n n c7 ca a a _ _ w8 (by omega) (by omega) HX8.out (H7.out.sl HA.out))
  have hdc:decide (a=a)=true:=by simp
  rw[hdc] at HSA
  clear hdc
  go_wp2_with fail
  refine HSA.out.mono ?_
  rintro e w9 ⟨rfl,q9,rfl⟩
  have H8:=Bx.mk (H7.out.quiet ((Ch.refl (fun _=>False) w8).drewN q9))
  have HY9:=Bx.mk (HY.out.ch ((Ch.refl (fun _=>False) w8).drewN q9) (fun _ _ _ h=>h))
  clear H7 HY HX8 HSA
  generalize w8.drewN q9=w9 at H8 HY9 ⊢
  have HOB:=Bx.mk (own_b0 w9)
  have HF0:=Bx.mk (fresh_b0 w9)
  have HSB:Bx (Sl (w9.alloc (.cells #[] 5)) F1 .u8 B m b):=⟨(H8.out.sl HB.out).ch ((Ch.refl (fun _=>False) w9).alloc _) (fun _ _ _ h=>h)⟩
  have HCLB:=Bx.mk (ints_cells .u8 b)
  have HCLA:=Bx.mk (ints_cells .u8 a)
  go_wp2_with (at_builtin; refine wp_appG (by rfl) (.tmp 92) (.tmp 93) Tb rfl rfl HOB.out rfl HSB.out HCLB.out ?c2 ?c3 ?_)
  case c2=>omega
  case c3=>omega
  intro v5 w5 ho5 hg5 hb5
  have hF5:=HF0.out.app (m:=m) (zs:=b) hg5 (by simpa using ho5) (by simpa using hb5)
  rw[List.nil_append] at hF5
  have HF5:=Bx.mk hF5
  have HO5:Bx (w5.ownsRow 0 5 1 v5 m (b.map (Value.int .u8))):=⟨by rw[←HB.out.len]; exact hF5.1⟩
  have HSA5:Bx (Sl w5 F0 .u8 A n a):=⟨(H8.out.sl HA.out).ch hF5.2.2 (fun _ _ _ h=>h)⟩
  clear hF5 ho5 hg5 hb5 HF0 HOB HSB
  go_wp2_with (at_builtin; refine wp_appG (by rfl) (.tmp 94) (.tmp 95) Tb rfl rfl HO5.out rfl HSA5.out HCLA.out ?c2 ?c3 ?_)
  case c2=>omega
  case c3=>omega
  intro v6 w10 ho6 hg6 hb6
  have hF6:=HF5.out.app (m:=n) (zs:=a) hg6 (by rw[HB.out.len]; exact ho6) hb6
  obtain⟨A10,c10,rfl,_,_⟩:=own_shape ho6
  have HZ10:Bx (Sl w10 (fun x=>(Value.slice A10 (m+n) c10).ownBlock=some x) .u8 A10 (m+n) (b++a)):=⟨by
   have h:=Sl.of_own (A:=A10) (c:=c10) (n:=m+n) (xs:=b++a) (K := .u8) (w:=w10) (by rw[List.map_append]; exact ho6)
   exact h⟩
  have H9:=Bx.mk (H8.out.quiet hF6.2.2)
  have HY10:=Bx.mk (HY9.out.ch hF6.2.2 (fun _ _ _ h=>h))
  clear hF6 ho6 hg6 hb6 HF5 HO5 HSA5 HY9 H8 HCLB HCLA
  have HSB:=Bx.mk (same_any A8 A10 (m+n) (m+n) c8 c10 (b++a) (b++a) _ _ w10 (by omega) (by omega) HY10.out HZ10.out)
  have hdc:decide (b++a=b++a)=true:=by simp
  rw[hdc] at HSB
  clear hdc
  go_wp2_with fail
  refine HSB.out.mono ?_
  rintro e w11 ⟨rfl,q11,rfl⟩
  have H10:=Bx.mk (H9.out.quiet ((Ch.refl (fun _=>False) w10).drewN q11))
  clear H9 HY10 HZ10 HSB
  generalize w10.drewN q11=w11 at H10 ⊢
  obtain⟨s6,cl1,cl2,cl3,cl4,cl5⟩:=AP5.out.clear
  have hcK:Ch (fun _=>False) w11 (w11.alloc (.cells #[kv [112,45,50],kv [113]] 9)):=(Ch.refl _ _).alloc _
  have H11:=Bx.mk (H10.out.quiet hcK)
  have HCL:=Bx.mk (pclear_any (c:=2) H11.out.disk [112,45] (Kss.two w11 9 [112,45,50] [113]) (by omega))
  rw[cl1,show pv d = .pointer (some ⟨d,0,none⟩) from rfl,show kv [112,45] = .string ⟨#[112,45]⟩ from rfl,show kv [112,45,50] = .string ⟨#[112,45,50]⟩ from rfl,show kv [113] = .string ⟨#[113]⟩ from rfl] at HCL
  rw[show kv [112,45,50] = .string ⟨#[112,45,50]⟩ from rfl,show kv [113] = .string ⟨#[113]⟩ from rfl] at H11
  have CL2:=Bx.mk cl2
  have CL3:=Bx.mk cl3
  have CL4:=Bx.mk cl4
  have CL5:=Bx.mk cl5
  clear hcK cl1 cl2 cl3 cl4 cl5 H10 AP5
  go_wp2_with fail
  refine HCL.out.mono ?_
  rintro e w12 ⟨rfl,g6,mb6,ad6,hd6,hg6⟩
  have H12:=Bx.mk (H11.out.turn hd6 hg6)
  clear hd6 hg6 HCL H11
  have HL3:=Bx.mk (pload_any H12.out.disk (H12.out.tab HT.out) [112,45,49] (by show s6.room≤_; rw[CL2.out]; omega))
  rw[show pv d = .pointer (some ⟨d,0,none⟩) from rfl,show kv [112,45,49] = .string ⟨#[112,45,49]⟩ from rfl] at HL3
  go_wp2_with fail
  refine HL3.out.mono ?_
  rintro e w13 ⟨v,he,hf⟩
  rw[CL3.out] at he hf
  have he:e = .returned (.tuple #[v, .int .i64 7]):=he
  have hf:Fresh w12 v [] w13:=hf
  subst he
  have H13:=Bx.mk (H12.out.quiet hf.2.2)
  clear hf HL3 H12
  have HL4:=Bx.mk (pload_any H13.out.disk (H13.out.tab HT.out) [113] (by show s6.room≤_; rw[CL2.out]; omega))
  rw[show pv d = .pointer (some ⟨d,0,none⟩) from rfl,show kv [113] = .string ⟨#[113]⟩ from rfl] at HL4
  go_wp2_with fail
  refine HL4.out.mono ?_
  rintro e w14 ⟨v',he,hf⟩
  rw[CL4.out] at he hf
  have he:e = .returned (.tuple #[v', .int .i64 0]):=he
  have hf:Fresh w13 v' c w14:=hf
  subst he
  obtain⟨A14,c14,rfl,_,_⟩:=own_shape hf.1
  have H14:=Bx.mk (H13.out.quiet hf.2.2)
  have HSC:=Bx.mk (same_any A14 C c.length q c14 cc c c _ _ w14 (by rw[HC.out.len]; omega) (by omega) (Sl.of_own hf.1) (H14.out.sl HC.out))
  have hdc:decide (c=c)=true:=by simp
  rw[hdc,HC.out.len] at HSC
  rw[HC.out.len]
  clear hdc hf HL4 H13
  go_wp2_with fail
  refine HSC.out.mono ?_
  rintro e w15 ⟨rfl,q15,rfl⟩
  have H15:=Bx.mk (H14.out.quiet ((Ch.refl (fun _=>False) w14).drewN q15))
  clear H14 HSC
  generalize w14.drewN q15=w15 at H15 ⊢
  have HLI:=Bx.mk (list_any H15.out.disk)
  rw[show pv d = .pointer (some ⟨d,0,none⟩) from rfl] at HLI
  go_wp2_with fail
  refine HLI.out.mono ?_
  rintro e w16 ⟨A16,n16,c16,rfl,hg,hnc,hcm⟩
  have H16:=Bx.mk (H15.out.quiet hg.ch)
  have hcK:Ch (fun _=>False) w16 (w16.alloc (.cells #[kv [112,45,50],kv [113]] 9)):=(Ch.refl _ _).alloc _
  have H17:=Bx.mk (H16.out.quiet hcK)
  have HTX:=Bx.mk (lawtexts_any (nms s6.fs) [[112,45,50],[113]] A16 _ n16 2 c16 2 _ ((show Kss w16 _ A16 n16 (nms s6.fs) from hg.vs).ch hcK (fun _ _ _ h=>h)) (Kss.two w16 9 [112,45,50] [113]) (by unfold maxLen at hcm; have:=hg.own.1; rw[CL5.out] at this; simp at this; omega) true (by rw[CL5.out]; simp))
  rw[show kv [112,45,50] = .string ⟨#[112,45,50]⟩ from rfl,show kv [113] = .string ⟨#[113]⟩ from rfl] at HTX H17
  clear hcK hg hnc hcm HLI H15 H16
  go_wp2_with fail
  refine HTX.out.mono ?_
  rintro e w18 ⟨rfl,q18,rfl⟩
  have H18:=Bx.mk (H17.out.quiet ((Ch.refl (fun _=>False) _).drewN q18))
  clear HTX H17
  generalize (w16.alloc (.cells #[.string ⟨#[112,45,50]⟩, .string ⟨#[113]⟩] 9)).drewN q18=w18 at H18 ⊢
  have HK:=Bx.mk (kknown_any w18 (H18.out.tab HT.out))
  go_wp2_with fail
  refine HK.out.mono ?_
  rintro e w19 ⟨rfl,hc19⟩
  have H19:=Bx.mk (H18.out.quiet hc19)
  clear hc19 H18 HK
  go_wp2
  go_ret
  exact⟨rfl,H19.out.done⟩
end
end Go.Proofs.YtoolcbaipinloaaDoor
