/- Lemmas and contracts of this proof. Conditions: said at each. -/
import Derived.Test.YtoolcbaipinloaaDoorQGFrRefEnc
import Derived.Test.YtoolcbaipinloaaDoorQRkRen
set_option maxHeartbeats 8000000
set_option maxRecDepth 100000
namespace Go.Proofs.YtoolcbaipinloaaDoor
section
open Go.RowKit Go.Oct Go.Su Go.Dk Go.Maps Go.Fr
section
variable {w w' w2:World} {h h' h2:Nat→Rt} {us vs:List Value} {fs gs:Fs} {S F:Nat→Prop} {x y:Fl} {k j:Key} {d:Nat} {s:Ds}
theorem rhas_any (H:Rdk w h d s) (k:Key):Calls Tryd.prog 59 #[pv d,kv k] w fun e w'=>e = .returned (.bool (fnd s.fs k).isSome)∧Ch (fun _=>False) w w':=by
 have hp:pv d = .pointer (some ⟨d,0,none⟩):=rfl
 have HC:=Bx.mk (rread_any H k)
 have HN:Bx (opRead s k=none→(fnd s.fs k).isSome=false):=⟨fun e=>by unfold opRead at e; cases hf:fnd s.fs k with | none=>rfl | some x=>rw[hf] at e; cases e⟩
 have HY:Bx (∀ b,opRead s k=some b→(fnd s.fs k).isSome=true):=⟨fun b e=>by unfold opRead at e; cases hf:fnd s.fs k with | none=>rw[hf] at e; cases e | some x=>rfl⟩
 obtain⟨S,hkv⟩:∃ S,kv k = .string S:=⟨_,rfl⟩
 rw[hp] at HC ⊢
 rw[hkv] at HC ⊢
 clear hp H hkv
 go_enter Tryd.func59,Tryd.ntmps59
 go_wp2_with fail
 refine HC.out.mono ?_
 rintro e w1 (⟨hn,rfl,hc⟩ | ⟨bs,v,hn,rfl,hf⟩)
 ·have HE:=Bx.mk (HN.out hn)
  go_wp2
  go_ret
  exact⟨by rw[HE.out]; rfl,hc⟩
 ·have HE:=Bx.mk (HY.out bs hn)
  go_wp2
  go_ret
  exact⟨by rw[HE.out]; rfl,hf.2.2⟩
theorem whole_of (s:Ds) (k:Key) (b:List Int) (r1:Nat×Ds) (h1:r1=if (fnd s.fs (way k)).isSome then opRem s (way k) else (0,s)) (h0:r1.1=0) :
  opWhole s k b=if (opApp r1.2 (way k) b).1≠0 then opApp r1.2 (way k) b else if (opSync (opApp r1.2 (way k) b).2 (way k)).1≠0 then opSync (opApp r1.2 (way k) b).2 (way k) else opRen (opSync (opApp r1.2 (way k) b).2 (way k)).2 (way k) k:=by
 show (if (if (fnd s.fs (way k)).isSome then opRem s (way k) else (0,s)).1≠0 then _ else _)=_
 rw[←h1,if_neg (by simp[h0])]
theorem rwhole_any {B:Option Addr} {mb cb:Nat} {bs:List Int} (H:Rdk w h d s) (hk:k.length≤1000000) (hz:Sl w F .u8 B mb bs) (hm47:mb≤281474976710656) (hF:∀ b,F b→h b = .no∧b<w.heap.size) (hby:∀ z∈bs,0≤z∧z<256) :
  Calls Tryd.prog 32 #[pv d,kv k, .slice B mb cb] w (PostR (opWhole s k bs) d w h):=by
 have hp:pv d = .pointer (some ⟨d,0,none⟩):=rfl
 have HH:=Bx.mk H
 have HKL:Bx (k.length≤9223372036854775807):=⟨by omega⟩
 have HTL:Bx ((way k).length≤9223372036854775807):=⟨by rw[way_len]; omega⟩
 have HZ:=Bx.mk hz
 have HFN:Bx (∀ b,F b→h b = .no):=⟨fun b hb=>(hF b hb).1⟩
 have HFL:Bx (∀ b,F b→b<w.heap.size):=⟨fun b hb=>(hF b hb).2⟩
 have HBY:=Bx.mk hby
 have HHA:=Bx.mk (rhas_any H (way k))
 have HRM:Bx (∀ w1,Ch (fun _=>False) w w1→Calls Tryd.prog 40 #[pv d,kv (way k)] w1 (PostR (opRem s (way k)) d w1 h)):=⟨fun w1 hc=>rrem_any (H.keep hc) HTL.out⟩
 have hadd:=str_add k
 obtain⟨S,hkv⟩:∃ S,(⟨k.toArray⟩:ByteArray)=S:=⟨_,rfl⟩
 obtain⟨T,htv⟩:∃ T,(⟨(way k).toArray⟩:ByteArray)=T:=⟨_,rfl⟩
 rw[hkv,htv] at hadd
 have HKV:Bx (kv k = .string S):=⟨by unfold kv; rw[hkv]⟩
 have HTV:Bx (kv (way k) = .string T):=⟨by unfold kv; rw[htv]⟩
 have hadd':S++(⟨#[126]⟩:ByteArray)=T:=hadd.symm
 have hs1:S.size≤1000000:=by rw[←hkv,key_size]; exact hk
 have hs2:(S.size:Int)+((⟨#[126]⟩:ByteArray).size:Int)≤9223372036854775807:=by have h1:(⟨#[126]⟩:ByteArray).size=1:=rfl; rw[h1]; omega
 have hs3:(S.size:Int)+1≤9223372036854775807:=by omega
 obtain⟨o,ho⟩:∃ o,(fnd s.fs (way k)).isSome=o:=⟨_,rfl⟩
 rw[hp,HTV.out] at HHA HRM
 rw[ho] at HHA
 rw[hp,HKV.out]
 clear hp H hk hz hF hby hkv htv hadd
 cases o with
 | false =>
  go_enter Tryd.func32,Tryd.ntmps32
  go_wp2_with fail
  refine HHA.out.mono ?_
  rintro e w1 ⟨rfl,hc1⟩
  obtain⟨s1,hs1⟩:∃ s1,s1=s:=⟨_,rfl⟩
  obtain⟨h1,hh1⟩:∃ h1,h1=h:=⟨_,rfl⟩
  have HD1:Bx (Rdk w1 h1 d s1):=⟨by rw[hs1,hh1]; exact HH.out.keep hc1⟩
  have HG1:Bx (Rgo w h w1 h1):=⟨by rw[hh1]; exact Rgo.quiet hc1⟩
  have HWH:Bx (opWhole s k bs=if (opApp s1 (way k) bs).1≠0 then opApp s1 (way k) bs else if (opSync (opApp s1 (way k) bs).2 (way k)).1≠0 then opSync (opApp s1 (way k) bs).2 (way k) else opRen (opSync (opApp s1 (way k) bs).2 (way k)).2 (way k) k):=⟨by rw[hs1]; exact whole_of s k bs (0,s) (by rw[ho]; rfl) rfl⟩
  clear hc1 hs1 hh1 HHA HRM ho
  have HZ1:=Bx.mk (HZ.out.ch HG1.out.ch (fun b hb _ hs=>hs (HFN.out b hb)))
  have HFN1:Bx (∀ b,(fun b=>F b∧b<w.heap.size) b→h1 b = .no):=⟨fun b hb=>by
   rcases hgt:h1 b with _ | _ | _ | _
   ·rfl
   all_goals
    rcases HG1.out.new b (by rw[hgt]; exact fun e=>by cases e) with h7 | h7
    ·exact absurd (HFN.out b hb.1) h7
    ·exact absurd hb.2 (by omega)⟩
  have HAP:=Bx.mk (rapp_any (cb:=cb) HD1.out HTL.out (HZ1.out.mono (G:=fun b=>F b∧b<w.heap.size) (fun b hl hb=>⟨hb,HFL.out b hb⟩)) hm47 HFN1.out HBY.out)
  rw[show pv d = .pointer (some ⟨d,0,none⟩) from rfl,HTV.out] at HAP
  go_wp2_with fail
  refine HAP.out.mono ?_
  rintro e w2 ⟨rfl,h2,hd2,hg2⟩
  obtain⟨m2,hm2⟩:∃ m,(opApp s1 (way k) bs).1=m:=⟨_,rfl⟩
  rw[hm2]
  have HG2:Bx (Rgo w h w2 h2):=⟨HG1.out.trans hg2⟩
  have HD2:=Bx.mk hd2
  obtain⟨s2,hs2⟩:∃ s2,(opApp s1 (way k) bs).2=s2:=⟨_,rfl⟩
  rw[hs2] at HD2
  have HM2:=Bx.mk hm2
  have HS2:=Bx.mk hs2
  clear hd2 hg2 hm2 hs2
  by_cases e2:m2=0
  ·subst e2
   have HSY:=Bx.mk (rsync_any HD2.out HTL.out)
   rw[show pv d = .pointer (some ⟨d,0,none⟩) from rfl,HTV.out] at HSY
   go_wp2_with fail
   refine HSY.out.mono ?_
   rintro e w3 ⟨rfl,h3,hd3,hg3⟩
   obtain⟨m3,hm3⟩:∃ m,(opSync s2 (way k)).1=m:=⟨_,rfl⟩
   rw[hm3]
   have HG3:Bx (Rgo w h w3 h3):=⟨HG2.out.trans hg3⟩
   have HD3:=Bx.mk hd3
   obtain⟨s3,hs3⟩:∃ s3,(opSync s2 (way k)).2=s3:=⟨_,rfl⟩
   rw[hs3] at HD3
   have HM3:=Bx.mk hm3
   have HS3:=Bx.mk hs3
   clear hd3 hg3 hm3 hs3
   by_cases e3:m3=0
   ·subst e3
    have HRE:=Bx.mk (rren_any HD3.out HTL.out HKL.out)
    rw[show pv d = .pointer (some ⟨d,0,none⟩) from rfl,HTV.out,HKV.out] at HRE
    have HEQ:Bx (opWhole s k bs=opRen s3 (way k) k):=⟨by rw[HWH.out,HM2.out,if_neg (by simp),HS2.out,HM3.out,if_neg (by simp),HS3.out]⟩
    go_wp2_with fail
    refine HRE.out.mono ?_
    rintro e w4 ⟨rfl,h4,hd4,hg4⟩
    go_wp2
    go_ret
    exact⟨by rw[HEQ.out]; rfl,h4,by rw[HEQ.out]; exact hd4,HG3.out.trans hg4⟩
   ·have e3':¬ (m3:Int)=0:=by omega
    have HEQ:Bx (opWhole s k bs=(m3,s3)):=⟨by rw[HWH.out,HM2.out,if_neg (by simp),HS2.out,HM3.out,if_pos e3,←HM3.out,←HS3.out]⟩
    clear hs1 hs2 hs3 hadd'
    go_wp2
    go_ret
    exact⟨by rw[HEQ.out]; rfl,h3,by rw[HEQ.out]; exact HD3.out,HG3.out⟩
  ·have e2':¬ (m2:Int)=0:=by omega
   have HEQ:Bx (opWhole s k bs=(m2,s2)):=⟨by rw[HWH.out,HM2.out,if_pos e2,←HM2.out,←HS2.out]⟩
   clear hs1 hs2 hs3 hadd'
   go_wp2
   go_ret
   exact⟨by rw[HEQ.out]; rfl,h2,by rw[HEQ.out]; exact HD2.out,HG2.out⟩
 | true =>
  go_enter Tryd.func32,Tryd.ntmps32
  go_wp2_with fail
  refine HHA.out.mono ?_
  rintro e w0 ⟨rfl,hc0⟩
  have HC0:=Bx.mk hc0
  have HRM0:=Bx.mk (HRM.out w0 hc0)
  clear hc0 HRM HHA
  go_wp2_with fail
  refine HRM0.out.mono ?_
  rintro e w1 ⟨rfl,h1,hd1,hg1⟩
  obtain⟨m1,hm1⟩:∃ m,(opRem s (way k)).1=m:=⟨_,rfl⟩
  obtain⟨s1,hs1⟩:∃ s1,(opRem s (way k)).2=s1:=⟨_,rfl⟩
  rw[hm1]
  rw[hs1] at hd1
  have HD1:=Bx.mk hd1
  have HG1:Bx (Rgo w h w1 h1):=⟨(Rgo.quiet HC0.out).trans hg1⟩
  by_cases e1:m1=0
  ·subst e1
   have HWH:Bx (opWhole s k bs=if (opApp s1 (way k) bs).1≠0 then opApp s1 (way k) bs else if (opSync (opApp s1 (way k) bs).2 (way k)).1≠0 then opSync (opApp s1 (way k) bs).2 (way k) else opRen (opSync (opApp s1 (way k) bs).2 (way k)).2 (way k) k):=⟨by rw[←hs1]; exact whole_of s k bs (opRem s (way k)) (by rw[ho]; rfl) hm1⟩
   clear hd1 hg1 hs1 hm1 ho HRM0
   have HZ1:=Bx.mk (HZ.out.ch HG1.out.ch (fun b hb _ hs=>hs (HFN.out b hb)))
   have HFN1:Bx (∀ b,(fun b=>F b∧b<w.heap.size) b→h1 b = .no):=⟨fun b hb=>by
    rcases hgt:h1 b with _ | _ | _ | _
    ·rfl
    all_goals
     rcases HG1.out.new b (by rw[hgt]; exact fun e=>by cases e) with h7 | h7
     ·exact absurd (HFN.out b hb.1) h7
     ·exact absurd hb.2 (by omega)⟩
   have HAP:=Bx.mk (rapp_any (cb:=cb) HD1.out HTL.out (HZ1.out.mono (G:=fun b=>F b∧b<w.heap.size) (fun b hl hb=>⟨hb,HFL.out b hb⟩)) hm47 HFN1.out HBY.out)
   rw[show pv d = .pointer (some ⟨d,0,none⟩) from rfl,HTV.out] at HAP
   go_wp2_with fail
   refine HAP.out.mono ?_
   rintro e w2 ⟨rfl,h2,hd2,hg2⟩
   obtain⟨m2,hm2⟩:∃ m,(opApp s1 (way k) bs).1=m:=⟨_,rfl⟩
   rw[hm2]
   have HG2:Bx (Rgo w h w2 h2):=⟨HG1.out.trans hg2⟩
   have HD2:=Bx.mk hd2
   obtain⟨s2,hs2⟩:∃ s2,(opApp s1 (way k) bs).2=s2:=⟨_,rfl⟩
   rw[hs2] at HD2
   have HM2:=Bx.mk hm2
   have HS2:=Bx.mk hs2
   clear hd2 hg2 hm2 hs2
   by_cases e2:m2=0
   ·subst e2
    have HSY:=Bx.mk (rsync_any HD2.out HTL.out)
    rw[show pv d = .pointer (some ⟨d,0,none⟩) from rfl,HTV.out] at HSY
    go_wp2_with fail
    refine HSY.out.mono ?_
    rintro e w3 ⟨rfl,h3,hd3,hg3⟩
    obtain⟨m3,hm3⟩:∃ m,(opSync s2 (way k)).1=m:=⟨_,rfl⟩
    rw[hm3]
    have HG3:Bx (Rgo w h w3 h3):=⟨HG2.out.trans hg3⟩
    have HD3:=Bx.mk hd3
    obtain⟨s3,hs3⟩:∃ s3,(opSync s2 (way k)).2=s3:=⟨_,rfl⟩
    rw[hs3] at HD3
    have HM3:=Bx.mk hm3
    have HS3:=Bx.mk hs3
    clear hd3 hg3 hm3 hs3
    by_cases e3:m3=0
    ·subst e3
     have HRE:=Bx.mk (rren_any HD3.out HTL.out HKL.out)
     rw[show pv d = .pointer (some ⟨d,0,none⟩) from rfl,HTV.out,HKV.out] at HRE
     have HEQ:Bx (opWhole s k bs=opRen s3 (way k) k):=⟨by rw[HWH.out,HM2.out,if_neg (by simp),HS2.out,HM3.out,if_neg (by simp),HS3.out]⟩
     go_wp2_with fail
     refine HRE.out.mono ?_
     rintro e w4 ⟨rfl,h4,hd4,hg4⟩
     go_wp2
     go_ret
     exact⟨by rw[HEQ.out]; rfl,h4,by rw[HEQ.out]; exact hd4,HG3.out.trans hg4⟩
    ·have e3':¬ (m3:Int)=0:=by omega
     have HEQ:Bx (opWhole s k bs=(m3,s3)):=⟨by rw[HWH.out,HM2.out,if_neg (by simp),HS2.out,HM3.out,if_pos e3,←HM3.out,←HS3.out]⟩
     clear hs1 hs2 hs3 hadd'
     go_wp2
     go_ret
     exact⟨by rw[HEQ.out]; rfl,h3,by rw[HEQ.out]; exact HD3.out,HG3.out⟩
   ·have e2':¬ (m2:Int)=0:=by omega
    have HEQ:Bx (opWhole s k bs=(m2,s2)):=⟨by rw[HWH.out,HM2.out,if_pos e2,←HM2.out,←HS2.out]⟩
    clear hs1 hs2 hs3 hadd'
    go_wp2
    go_ret
    exact⟨by rw[HEQ.out]; rfl,h2,by rw[HEQ.out]; exact HD2.out,HG2.out⟩
  ·have e1':¬ (m1:Int)=0:=by omega
   have HEQ:Bx (opWhole s k bs=(m1,s1)):=⟨by
    show (if (if (fnd s.fs (way k)).isSome then opRem s (way k) else (0,s)).1≠0 then (if (fnd s.fs (way k)).isSome then opRem s (way k) else (0,s)) else _)=_
    rw[ho,if_pos rfl,if_pos (by rw[hm1]; exact e1),←hm1,←hs1]⟩
   clear hd1 hg1 hs1 hm1 ho HRM0 hs2 hs3 hadd'
   go_wp2
   go_ret
   exact⟨by rw[HEQ.out]; rfl,h1,by rw[HEQ.out]; exact HD1.out,HG1.out⟩
end
end
section
open Go.RowKit Go.Oct Go.Su Go.Dk Go.Maps Go.Fr
section
variable {w w' w2:World} {h h' h2:Nat→Rt} {us vs:List Value} {fs gs:Fs} {S F:Nat→Prop} {x y:Fl} {k j:Key} {d:Nat} {s:Ds}
def loadF:Option (List Int)→List Int×Int
 | none=>([],7)
 | some b=>if (oneF b).2≠0 then ([],3) else ((oneF b).1,0)
def LoadP (o:Option (List Int)) (w:World) (e:Ending) (w':World):Prop:=∃ v,e = .returned (.tuple #[v, .int .i64 (loadF o).2])∧Fresh w v (loadF o).1 w'
theorem fresh_nil {w w':World} (hc:Ch (fun _=>False) w w'):Fresh w (.slice none 0 0) [] w':=⟨World.ownsRow_nil _ _ _ _,fun g hg=>by simp[Value.ownBlock] at hg,hc⟩
theorem rsave_any {B:Option Addr} {mb cb:Nat} {p:List Int} (H:Rdk w h d s) (hk:k.length≤1000000) (hz:Sl w F .u8 B mb p) (hm:mb≤1048576) (hby:Byt p) :
  Calls Tryd.prog 12 #[pv d,kv k, .slice B mb cb] w (PostR (opSave s k (frm p)) d w h):=by
 have hp:pv d = .pointer (some ⟨d,0,none⟩):=rfl
 have HH:=Bx.mk H
 have HEN:=Bx.mk (rencode_any p B mb cb w hz hm hby)
 have HBF:=Bx.mk (frm_byt hby)
 have hpl:=hz.len
 have hfl:=frm_len p
 have hsz:=key_size k
 obtain⟨S,hkv⟩:∃ S,(⟨k.toArray⟩:ByteArray)=S:=⟨_,rfl⟩
 obtain⟨kl,hkl⟩:∃ kl,k.length=kl:=⟨_,rfl⟩
 have HKL:=Bx.mk hkl
 have HKK:=Bx.mk hk
 rw[hkv,hkl] at hsz
 rw[hkl] at hk
 have HKV:Bx (kv k = .string S):=⟨by unfold kv; rw[hkv]⟩
 rw[hp,HKV.out]
 have HFQ:Bx ((frm p).length≤1048588):=⟨by omega⟩
 clear hp H hz hby hkv hkl hpl hfl hm
 by_cases h1:kl<1
 ·have HR:Bx (opSave s k (frm p)=(1,s)):=⟨by unfold opSave; rw[if_neg (fun e=>by unfold okS at e; rw[HKL.out] at e; omega)]⟩
  have i1:decide ((kl:Int)<1)=true:=decide_eq_true (by omega)
  have i1':decide (kl<1)=true:=decide_eq_true h1
  go_enter Tryd.func12,Tryd.ntmps12
  go_wp2
  go_ret
  exact⟨by rw[HR.out]; rfl,h,by rw[HR.out]; exact HH.out,Rgo.refl _ _⟩
 ·have i1:decide ((kl:Int)<1)=false:=decide_eq_false (by omega)
  have i1':decide (kl<1)=false:=decide_eq_false h1
  by_cases h2:60<kl
  ·have HR:Bx (opSave s k (frm p)=(1,s)):=⟨by unfold opSave; rw[if_neg (fun e=>by unfold okS at e; rw[HKL.out] at e; omega)]⟩
   have i2:decide ((60:Int)<(kl:Int))=true:=decide_eq_true (by omega)
   have i2':decide (60<kl)=true:=decide_eq_true h2
   go_enter Tryd.func12,Tryd.ntmps12
   go_wp2
   go_ret
   exact⟨by rw[HR.out]; rfl,h,by rw[HR.out]; exact HH.out,Rgo.refl _ _⟩
  ·have i2:decide ((60:Int)<(kl:Int))=false:=decide_eq_false (by omega)
   have i2':decide (60<kl)=false:=decide_eq_false h2
   have HR:Bx (opSave s k (frm p)=opWhole s k (frm p)):=⟨by unfold opSave; rw[if_pos (by unfold okS; rw[HKL.out]; omega)]⟩
   go_enter Tryd.func12,Tryd.ntmps12
   go_wp2_with fail
   refine HEN.out.mono ?_
   rintro e w1 ⟨v,rfl,hf⟩
   obtain⟨q,hq⟩:∃ q,(frm p).length=q:=⟨_,rfl⟩
   have hq9:q≤1048588:=by rw[←hq]; exact HFQ.out
   obtain⟨hf1,hf2,hf3⟩:=hf
   obtain⟨A,c,rfl,_,_⟩:=own_shape hf1
   have hsl:=Sl.of_own hf1
   have HW:=Bx.mk (rwhole_any (cb:=c) (bs:=frm p) (HH.out.keep hf3) HKK.out (F:=fun b=>(Value.slice A (frm p).length c).ownBlock=some b) hsl (by omega) (fun b hb=>⟨by
    rcases hgt:h b with _ | _ | _ | _
    ·rfl
    all_goals
     have h7:=HH.out.lt b (by rw[hgt]; exact fun e=>by cases e)
     have h8:=hf2 b hb
     omega,own_lt hf1 b hb⟩) HBF.out)
   rw[show pv d = .pointer (some ⟨d,0,none⟩) from rfl,HKV.out] at HW
   rw[hq] at HW ⊢
   have HC1:=Bx.mk hf3
   clear hf1 hf2 hf3 hsl hq
   go_wp2_with fail
   refine HW.out.mono ?_
   rintro e w2 ⟨rfl,h2',hd2,hg2⟩
   go_wp2
   go_ret
   exact⟨by rw[HR.out]; rfl,h2',by rw[HR.out]; exact hd2,(Rgo.quiet HC1.out).trans hg2⟩
theorem rload_any (H:Rdk w h d s) (k:Key) (hroom:s.room≤1048576):Calls Tryd.prog 14 #[pv d,kv k] w (LoadP (opRead s k) w):=by
 have hp:pv d = .pointer (some ⟨d,0,none⟩):=rfl
 have HC:=Bx.mk (rread_any H k)
 have HBB:Bx (∀ b,opRead s k=some b→b.length≤1048576∧Byt b):=⟨fun b e=>by
  unfold opRead at e
  cases hf:fnd s.fs k with
  | none=>rw[hf] at e; cases e
  | some x =>
   rw[hf] at e
   simp only[Option.map_some,Option.some.injEq] at e
   subst e
   obtain⟨hm,_⟩:=fnd_some hf
   have:=used_at H.ok.fine.rise hm
   have:=H.ok.used
   exact⟨by omega,H.ok.fine.byte x hm⟩⟩
 obtain⟨S,hkv⟩:∃ S,kv k = .string S:=⟨_,rfl⟩
 obtain⟨o,ho⟩:∃ o,opRead s k=o:=⟨_,rfl⟩
 rw[hp] at HC ⊢
 rw[hkv] at HC ⊢
 rw[ho] at HC HBB ⊢
 clear hp H hkv ho hroom
 go_enter Tryd.func14,Tryd.ntmps14
 go_wp2_with fail
 refine HC.out.mono ?_
 rintro e w1 (⟨rfl,rfl,hc⟩ | ⟨bs,v,rfl,rfl,hf⟩)
 ·go_wp2
  go_ret2
  exact⟨_,rfl,fresh_nil hc⟩
 ·obtain⟨hl,hb⟩:=HBB.out bs rfl
  obtain⟨hf1,hf2,hf3⟩:=hf
  obtain⟨A,c,rfl,hc1,hc2⟩:=own_shape hf1
  have HO:=Bx.mk (rone_any bs A bs.length c w1 (Sl.of_own hf1) hc1 hc2 (by omega) hb)
  obtain⟨q,hq⟩:∃ q,bs.length=q:=⟨_,rfl⟩
  rw[hq] at HO ⊢
  have HC1:=Bx.mk hf3
  clear hf1 hf2 hf3 hc1 hc2 hl hb hq HBB HC
  go_wp2_with fail
  refine HO.out.mono ?_
  rintro e w2 ⟨v2,rfl,hfr⟩
  obtain⟨ec,hec⟩:∃ ec,(oneF bs).2=ec:=⟨_,rfl⟩
  have HEC:=Bx.mk hec
  have HFR:=Bx.mk hfr
  rw[hec]
  clear hec hfr
  by_cases e0:ec=0
  ·subst e0
   have HL:Bx (loadF (some bs)=((oneF bs).1,0)):=⟨by show (if (oneF bs).2≠0 then (([]:List Int),(3:Int)) else ((oneF bs).1,0))=_; rw[if_neg (by simp[HEC.out])]⟩
   go_wp2
   go_ret2
   exact⟨v2,by rw[HL.out]; rfl,by rw[HL.out]; exact HFR.out.after HC1.out⟩
  ·have HL:Bx (loadF (some bs)=([],3)):=⟨by show (if (oneF bs).2≠0 then (([]:List Int),(3:Int)) else ((oneF bs).1,0))=_; rw[if_pos (by rw[HEC.out]; exact e0)]⟩
   go_wp2
   go_ret2
   exact⟨_,by rw[HL.out]; rfl,by rw[HL.out]; exact fresh_nil (HC1.out.trans HFR.out.2.2 (fun _ _ h=>h))⟩
end
end
section
open Go.RowKit Go.Oct Go.Su Go.Dk Go.Maps Go.Fr
section
variable {w w' w2:World} {h h' h2:Nat→Rt} {us vs:List Value} {fs gs:Fs} {S F:Nat→Prop} {x y:Fl} {k j:Key} {d:Nat} {s:Ds}
theorem gone_skip {p t:Key} {st l r:List Key} (hl:l=t::r) (h:¬ (t.take p.length=p∧p.length≤t.length∧t∉st)):gone p st l=gone p st r:=by
 subst hl
 unfold gone
 rw[List.filter_cons_of_neg (by simpa using h)]
theorem gone_take {p t:Key} {st l r:List Key} (hl:l=t::r) (h:t.take p.length=p∧p.length≤t.length∧t∉st):gone p st l=t::gone p st r:=by
 subst hl
 unfold gone
 rw[List.filter_cons_of_pos (by simpa using h)]
theorem each_cons (f:Ds→Key→Nat×Ds) (s:Ds) (t:Key) (r:List Key):opEach' f s (t::r)=if (f s t).1≠0 then f s t else opEach' f (f s t).2 r:=rfl
theorem drop_cons' {l:List Key} {i:Nat} {t:Key} (h:l[i]? = some t):l.drop i=t::l.drop (i+1):=by
 obtain⟨hi,rfl⟩:=List.getElem?_eq_some_iff.1 h
 exact List.drop_eq_getElem_cons hi
def ClLoop (w:World) (h:Nat→Rt) (d:Nat) (s0:Ds) (p:Key) (st l:List Key) (i:Nat) (wr:World) (h':Nat→Rt) (s':Ds):Prop :=
 Rdk wr h' d s'∧Rgo w h wr h'∧opEach' opRem s0 (gone p st l)=opEach' opRem s' (gone p st (l.drop i))
theorem rclear_any {A:Option Addr} {n c:Nat} {st:List Key} (H:Rdk w h d s) (p:Key) (hz:Kss w F A n st) (hn:n≤140737488351232) (hF:∀ b,F b→h b = .no∧b<w.heap.size) :
  Calls Tryd.prog 17 #[pv d,kv p, .slice A n c] w (PostR (opClear s p st) d w h):=by
 have hp:pv d = .pointer (some ⟨d,0,none⟩):=rfl
 have HH:=Bx.mk H
 have HZ:=Bx.mk hz
 have HSL:=Bx.mk hz.len
 have HFN:Bx (∀ b,F b→h b = .no):=⟨fun b hb=>(hF b hb).1⟩
 have HFL:Bx (∀ b,F b→b<w.heap.size):=⟨fun b hb=>(hF b hb).2⟩
 have HLI:=Bx.mk (rlist_any H)
 have hmost:=H.ok.most
 have HKL:Bx (∀ t∈nms s.fs,t.length≤64):=⟨fun t ht=>by
  unfold nms at ht
  obtain⟨f,hf,rfl⟩:=List.mem_map.1 ht
  exact (H.ok.fine.ok f hf).2⟩
 obtain⟨m,hm⟩:∃ m,s.fs.length=m:=⟨_,rfl⟩
 obtain⟨l,hl⟩:∃ l,nms s.fs=l:=⟨_,rfl⟩
 have HML:Bx (l.length=m):=⟨by rw[←hl,nms_len,hm]⟩
 rw[hm] at hmost
 have hpz:=key_size p
 obtain⟨PB,hpb⟩:∃ S,(⟨p.toArray⟩:ByteArray)=S:=⟨_,rfl⟩
 obtain⟨pl,hpl⟩:∃ pl,p.length=pl:=⟨_,rfl⟩
 rw[hpb,hpl] at hpz
 have HPB:=Bx.mk hpb
 have HPL:=Bx.mk hpl
 have HPV:Bx (kv p = .string PB):=⟨by unfold kv; rw[hpb]⟩
 have HOP:Bx (opClear s p st=opEach' opRem s (gone p st l)):=⟨by unfold opClear; rw[hl]⟩
 rw[hl] at HLI HKL
 rw[hp] at HLI ⊢
 rw[HPV.out]
 clear hp H hz hF hm hl hpb hpl
 go_enter Tryd.func17,Tryd.ntmps17
 go_wp2_with fail
 refine HLI.out.mono ?_
 rintro e w1 ⟨A1,n1,c1,rfl,hg,hnc,hcm⟩
 have HK1:Bx (Kss w1 (fun b=>w.heap.size≤b∧b<w1.heap.size) A1 n1 l):=⟨(Vs.of_own hg.own).mono (fun b hb hv=>⟨hg.lies b hv,hb⟩)⟩
 have hnm:n1=m:=by rw[←HK1.out.len,HML.out]
 subst hnm
 have HC1:=Bx.mk hg.ch
 have HNO:Bx (∀ b,w.heap.size≤b→h b = .no):=⟨fun b hb=>by
  rcases hgt:h b with _ | _ | _ | _
  ·rfl
  all_goals
   have h7:=HH.out.lt b (by rw[hgt]; exact fun e=>by cases e)
   omega⟩
 clear hg HLI
 go_wp2_with fail
 go_loopw [8,9,10,11] (fun i _ _ _ wr=>∃ (j:Nat) (h':Nat→Rt) (s':Ds),j≤n1∧i = .int .i64 j∧Bx (ClLoop w1 h d s p st l j wr h' s')) (fun i _ _ _ _=>n1-(intOf i).toNat)
 case atStart=>exact⟨0,h,s,Nat.zero_le _,rfl,⟨HH.out.keep HC1.out,Rgo.refl _ _,rfl⟩⟩
 case round =>
  obtain⟨j,h',s',hj,rfl,hR⟩:=hrel
  obtain⟨wo,rfl⟩:∃ wo:World,wo=wr:=⟨_,rfl⟩
  by_cases hlt:j<n1
  ·have dk:decide ((j:Int)<(n1:Int))=true:=decide_eq_true (by omega)
   have dk':decide (j<n1)=true:=decide_eq_true hlt
   have hzl:=HK1.out.ch hR.out.2.1.ch (fun b hb _ hs=>hs (HNO.out b hb.1))
   obtain⟨bt,ot,t,rfl,_,ht,hcell⟩:=hzl.at_ hlt
   have HTX:=Bx.mk ht.out
   have htl:=HKL.out t (List.mem_of_getElem? ht.out)
   have i2:(j:Int)<(n1:Int):=by omega
   have HDR:=Bx.mk (drop_cons' HTX.out)
   have htz:=key_size t
   obtain⟨TB,htb⟩:∃ S,(⟨t.toArray⟩:ByteArray)=S:=⟨_,rfl⟩
   obtain⟨tl,htl2⟩:∃ tl,t.length=tl:=⟨_,rfl⟩
   rw[htb,htl2] at htz
   rw[htl2] at htl
   have HTB:=Bx.mk htb
   have HTL:=Bx.mk htl2
   have HTV:Bx (kv t = .string TB):=⟨by unfold kv; rw[htb]⟩
   rw[HTV.out] at hcell
   clear ht hzl htb htl2
   by_cases h1:tl<pl
   ·have e1:decide ((tl:Int)<(pl:Int))=true:=decide_eq_true (by omega)
    have e1':decide (tl<pl)=true:=decide_eq_true h1
    have H1:Bx (ClLoop w1 h d s p st l (j+1) wo h' s'):=⟨hR.out.1,hR.out.2.1,by rw[hR.out.2.2,gone_skip HDR.out (fun e=>by have:=e.2.1; rw[HTL.out,HPL.out] at this; omega)]⟩
    clear hR
    go_wp2
    go_roundw
    case rel=>exact⟨j+1,h',s',by omega,by go_num,H1⟩
    case measure=>simp[intOf]; omega
   ·have e1:decide ((tl:Int)<(pl:Int))=false:=decide_eq_false (by omega)
    have e1':decide (tl<pl)=false:=decide_eq_false h1
    have hxq:((TB.extract 0 pl).toList==PB.toList)=decide (t.take pl=p):=by
     rw[←HTB.out,←HPB.out,←str_ne]
     congr 1
     rw[Lib.toList_data,Lib.toList_data]
     simp
    have hle:pl≤tl:=by omega
    by_cases h2:t.take pl=p
    ·have e2:((TB.extract 0 pl).toList==PB.toList)=true:=by rw[hxq]; exact decide_eq_true h2
     have H2:=Bx.mk h2
     clear hxq h2
     have HZo:Bx (Kss wo F A n st):=⟨(HZ.out.ch HC1.out (fun _ _ _ h=>h)).ch hR.out.2.1.ch (fun b hb _ hs=>hs (HFN.out b hb))⟩
     go_wp2_with fail
     go_loopw [9,10] (fun kv i wr=>∃ (q:Nat) (kp:Bool),q≤n∧kv = .bool kp∧i = .int .i64 q∧Bx (Ch (fun _=>False) wo wr∧kp=decide (t∈st.take q))) (fun _ i _=>n-(intOf i).toNat)
     case atStart=>exact⟨0,false,Nat.zero_le _,rfl,rfl,⟨Ch.refl _ _,by simp⟩⟩
     case round =>
      obtain⟨q,kp,hq,rfl,rfl,hQ⟩:=hrel
      have hcq:=hQ.out.1.cell (fun h=>h) hcell
      by_cases hqn:q<n
      ·have dq:decide ((q:Int)<(n:Int))=true:=decide_eq_true (by omega)
       have dq':decide (q<n)=true:=decide_eq_true hqn
       have iq:(q:Int)<(n:Int):=by omega
       obtain⟨bu,ou,u,rfl,_,hu,hcu⟩:=(HZo.out.ch hQ.out.1 (fun _ _ _ h=>h)).at_ hqn
       have HTM:Bx (st.take (q+1)=st.take q++[u]):=⟨Oct.take_more hu.out⟩
       obtain⟨UB,hub⟩:∃ S,(⟨u.toArray⟩:ByteArray)=S:=⟨_,rfl⟩
       have huq:(UB.toList==TB.toList)=decide (u=t):=by rw[←HTB.out,←hub,←str_ne]
       have HUV:kv u = .string UB:=by unfold kv; rw[hub]
       rw[HUV] at hcu
       have hlo:w1.heap.size≤wo.heap.size:=hR.out.2.1.ch.size
       clear hub hu HUV
       cases kp with
       | true =>
        have HN:Bx (true=decide (t∈st.take (q+1))):=⟨by
         symm; rw[HTM.out]
         have h7:t∈st.take q:=by simpa using hQ.out.2.symm
         simp[h7]⟩
        have HCQ:=Bx.mk hQ.out.1
        clear hQ huq hcu hcell
        go_wp2_with fail
        go_quiet (fail)
        go_wp2_with fail
        go_roundw
        case rel=>exact⟨q+1,true,by omega,rfl,by go_num,⟨HCQ.out.drewN _,HN.out⟩⟩
        case measure=>simp[intOf]; omega
       | false =>
        have hnt:t∉st.take q:=by simpa using hQ.out.2.symm
        have HN:Bx (decide (u=t)=decide (t∈st.take (q+1))):=⟨by
         rw[HTM.out]
         by_cases hut:u=t
         ·subst hut; simp
         ·have:¬ t=u:=fun e=>hut e.symm
          simp[hnt,hut,this]⟩
        have HCQ:=Bx.mk hQ.out.1
        obtain⟨kb,hkb⟩:∃ kb,decide (u=t)=kb:=⟨_,rfl⟩
        rw[hkb] at HN huq
        clear hQ hcell hnt hkb
        go_wp2_with fail
        go_quiet (fail)
        go_wp2_with fail
        go_roundw
        case rel=>exact⟨q+1,kb,by omega,rfl,by go_num,⟨HCQ.out.drewN _,HN.out⟩⟩
        case measure=>simp[intOf]; omega
      ·obtain rfl:q=n:=by omega
       have dq:decide ((q:Int)<(q:Int))=false:=decide_eq_false (by omega)
       have dq':decide (q<q)=false:=decide_eq_false (by omega)
       have hall:st.take q=st:=List.take_of_length_le (by rw[HSL.out]; exact Nat.le_refl _)
       have hkp:kp=decide (t∈st):=by rw[hQ.out.2,hall]
       have HCQ:=Bx.mk hQ.out.1
       clear hall hQ hcell
       cases kp with
       | true =>
        have H1:Bx (ClLoop w1 h d s p st l (j+1) wr h' s'):=⟨hR.out.1.keep HCQ.out,hR.out.2.1.trans (Rgo.quiet HCQ.out),by rw[hR.out.2.2,gone_skip HDR.out (fun e=>e.2.2 (by simpa using hkp.symm))]⟩
        clear hR hkp
        go_wp2
        go_roundw
        case rel=>exact⟨j+1,h',s',by omega,by go_num,H1⟩
        case measure=>simp[intOf]; omega
       | false =>
        have hns:t∉st:=by simpa using hkp.symm
        have HRM:=Bx.mk (rrem_any (hR.out.1.keep HCQ.out) (k:=t) (by rw[HTL.out]; omega))
        rw[show pv d = .pointer (some ⟨d,0,none⟩) from rfl,HTV.out] at HRM
        have HGT:Bx (gone p st (l.drop j)=t::gone p st (l.drop (j+1))):=⟨gone_take HDR.out ⟨by rw[HPL.out]; exact H2.out,by rw[HPL.out,HTL.out]; exact hle,hns⟩⟩
        clear hkp hns
        go_wp2_with fail
        refine HRM.out.mono ?_
        rintro e w3 ⟨rfl,h3,hd3,hg3⟩
        obtain⟨mm,hmm⟩:∃ mm,(opRem s' t).1=mm:=⟨_,rfl⟩
        rw[hmm]
        have HM:=Bx.mk hmm
        have HD3:=Bx.mk hd3
        have HG3:Bx (Rgo w1 h w3 h3):=⟨(hR.out.2.1.trans (Rgo.quiet HCQ.out)).trans hg3⟩
        have HE:Bx (opEach' opRem s (gone p st l)=if mm≠0 then opRem s' t else opEach' opRem (opRem s' t).2 (gone p st (l.drop (j+1)))):=⟨by rw[hR.out.2.2,HGT.out,each_cons,HM.out]⟩
        clear hd3 hg3 hmm hR HRM
        by_cases e0:mm=0
        ·subst e0
         have H1:Bx (ClLoop w1 h d s p st l (j+1) w3 h3 (opRem s' t).2):=⟨HD3.out,HG3.out,by rw[HE.out,if_neg (by simp)]⟩
         go_wp2
         go_roundw
         case rel=>exact⟨j+1,h3,(opRem s' t).2,by omega,by go_num,H1⟩
         case measure=>simp[intOf]; omega
        ·have e0':¬ (mm:Int)=0:=by omega
         go_wp2
         go_ret
         refine⟨by rw[HOP.out,HE.out,if_pos e0,HM.out]; rfl,h3,?_,(Rgo.quiet HC1.out).trans HG3.out⟩
         rw[HOP.out,HE.out,if_pos e0]
         exact HD3.out
    ·have e2:((TB.extract 0 pl).toList==PB.toList)=false:=by rw[hxq]; exact decide_eq_false h2
     have H1:Bx (ClLoop w1 h d s p st l (j+1) wo h' s'):=⟨hR.out.1,hR.out.2.1,by rw[hR.out.2.2,gone_skip HDR.out (fun e=>h2 (by rw[←HPL.out]; exact e.1))]⟩
     clear hxq h2 hR
     go_wp2
     go_roundw
     case rel=>exact⟨j+1,h',s',by omega,by go_num,H1⟩
     case measure=>simp[intOf]; omega
  ·obtain rfl:j=n1:=by omega
   have dk:decide ((j:Int)<(j:Int))=false:=decide_eq_false (by omega)
   have dk':decide (j<j)=false:=decide_eq_false (by omega)
   have HE:Bx (opClear s p st=(0,s')):=⟨by rw[HOP.out,hR.out.2.2,List.drop_of_length_le (by rw[HML.out]; exact Nat.le_refl _)]; rfl⟩
   go_wp2
   go_ret
   exact⟨by rw[HE.out]; rfl,h',by rw[HE.out]; exact hR.out.1,(Rgo.quiet HC1.out).trans hR.out.2.1⟩
end
end
section
open Go.RowKit Go.Oct Go.Su Go.Dk Go.Maps Go.Fr
def opSaveL (s:Ds) (k:Key) (p:List Int):Nat×Ds:=if ¬okS k then (1,s) else if 1048576<p.length then (5,s) else opWhole s k (frm p)
theorem saveL_short {s:Ds} {k:Key} {p:List Int} (h:p.length≤1048576):opSaveL s k p=opSave s k (frm p):=by
 unfold opSaveL opSave
 by_cases h1:okS k
 ·rw[if_neg (by simpa using h1),if_neg (by omega),if_pos h1]
 ·rw[if_pos h1,if_neg h1]
section
variable {w w' w2:World} {h h' h2:Nat→Rt} {us vs:List Value} {fs gs:Fs} {S F:Nat→Prop} {x y:Fl} {k j:Key} {d:Nat} {s:Ds}
theorem rencode_long (A:Option Addr) (n c:Nat) (w:World) (hn:1048576<n) :
  Calls Tryd.prog 31 #[.slice A n c] w fun e w'=>e = .returned (.tuple #[.slice none 0 0, .int .i64 5])∧w'=w:=by
 have d1:decide ((1048576:Int)<(n:Int))=true:=decide_eq_true (by omega)
 have d2:decide (1048576<n)=true:=decide_eq_true hn
 go_enter Tryd.func31,Tryd.ntmps31
 go_wp2
 go_ret2
 exact⟨rfl,rfl⟩
theorem rsave_long {B:Option Addr} {mb cb:Nat} {p:List Int} (H:Rdk w h d s) (hk:k.length≤9223372036854775807) (hl:p.length=mb) (hm:1048576<mb) :
  Calls Tryd.prog 12 #[pv d,kv k, .slice B mb cb] w (PostR (opSaveL s k p) d w h):=by
 have hp:pv d = .pointer (some ⟨d,0,none⟩):=rfl
 have HH:=Bx.mk H
 have HEN:=Bx.mk (rencode_long B mb cb w hm)
 have HL:=Bx.mk hl
 have hsz:=key_size k
 obtain⟨S,hkv⟩:∃ S,(⟨k.toArray⟩:ByteArray)=S:=⟨_,rfl⟩
 obtain⟨kl,hkl⟩:∃ kl,k.length=kl:=⟨_,rfl⟩
 have HKL:=Bx.mk hkl
 rw[hkv,hkl] at hsz
 rw[hkl] at hk
 have HKV:Bx (kv k = .string S):=⟨by unfold kv; rw[hkv]⟩
 have HM:=Bx.mk hm
 rw[hp,HKV.out]
 clear hp H hkv hkl hl hm
 by_cases h1:kl<1
 ·have HR:Bx (opSaveL s k p=(1,s)):=⟨by unfold opSaveL; rw[if_pos (fun e=>by unfold okS at e; rw[HKL.out] at e; omega)]⟩
  have i1:decide ((kl:Int)<1)=true:=decide_eq_true (by omega)
  have i1':decide (kl<1)=true:=decide_eq_true h1
  go_enter Tryd.func12,Tryd.ntmps12
  go_wp2
  go_ret
  exact⟨by rw[HR.out]; rfl,h,by rw[HR.out]; exact HH.out,Rgo.refl _ _⟩
 ·have i1:decide ((kl:Int)<1)=false:=decide_eq_false (by omega)
  have i1':decide (kl<1)=false:=decide_eq_false h1
  by_cases h2:60<kl
  ·have HR:Bx (opSaveL s k p=(1,s)):=⟨by unfold opSaveL; rw[if_pos (fun e=>by unfold okS at e; rw[HKL.out] at e; omega)]⟩
   have i2:decide ((60:Int)<(kl:Int))=true:=decide_eq_true (by omega)
   have i2':decide (60<kl)=true:=decide_eq_true h2
   go_enter Tryd.func12,Tryd.ntmps12
   go_wp2
   go_ret
   exact⟨by rw[HR.out]; rfl,h,by rw[HR.out]; exact HH.out,Rgo.refl _ _⟩
  ·have i2:decide ((60:Int)<(kl:Int))=false:=decide_eq_false (by omega)
   have i2':decide (60<kl)=false:=decide_eq_false h2
   have HR:Bx (opSaveL s k p=(5,s)):=⟨by
    unfold opSaveL
    rw[if_neg (fun e=>e (by unfold okS; rw[HKL.out]; omega)),if_pos (by rw[HL.out]; exact HM.out)]⟩
   go_enter Tryd.func12,Tryd.ntmps12
   go_wp2_with fail
   refine HEN.out.mono ?_
   rintro e w1 ⟨rfl,rfl⟩
   go_wp2
   go_ret
   exact⟨by rw[HR.out]; rfl,h,by rw[HR.out]; exact HH.out,Rgo.refl _ _⟩
theorem rsave_bad {B:Option Addr} {mb cb:Nat} {p:List Int} (H:Rdk w h d s) (hk:k.length≤9223372036854775807) (hno:¬ okS k) :
  Calls Tryd.prog 12 #[pv d,kv k, .slice B mb cb] w (PostR (opSaveL s k p) d w h):=by
 have hp:pv d = .pointer (some ⟨d,0,none⟩):=rfl
 have HH:=Bx.mk H
 have hsz:=key_size k
 obtain⟨S,hkv⟩:∃ S,(⟨k.toArray⟩:ByteArray)=S:=⟨_,rfl⟩
 obtain⟨kl,hkl⟩:∃ kl,k.length=kl:=⟨_,rfl⟩
 rw[hkv,hkl] at hsz
 have HR:Bx (opSaveL s k p=(1,s)):=⟨by unfold opSaveL; rw[if_pos hno]⟩
 have hcase:kl<1∨60<kl:=by unfold okS at hno; omega
 rw[hkl] at hk
 have HKV:Bx (kv k = .string S):=⟨by unfold kv; rw[hkv]⟩
 rw[hp,HKV.out]
 clear hp H hkv hkl hno
 by_cases h1:kl<1
 ·have i1:decide ((kl:Int)<1)=true:=decide_eq_true (by omega)
  have i1':decide (kl<1)=true:=decide_eq_true h1
  clear hcase
  go_enter Tryd.func12,Tryd.ntmps12
  go_wp2
  go_ret
  exact⟨by rw[HR.out]; rfl,h,by rw[HR.out]; exact HH.out,Rgo.refl _ _⟩
 ·have i1:decide ((kl:Int)<1)=false:=decide_eq_false (by omega)
  have i1':decide (kl<1)=false:=decide_eq_false h1
  have h2:60<kl:=by omega
  have i2:decide ((60:Int)<(kl:Int))=true:=decide_eq_true (by omega)
  have i2':decide (60<kl)=true:=decide_eq_true h2
  clear hcase
  go_enter Tryd.func12,Tryd.ntmps12
  go_wp2
  go_ret
  exact⟨by rw[HR.out]; rfl,h,by rw[HR.out]; exact HH.out,Rgo.refl _ _⟩
theorem rsave_all {B:Option Addr} {mb cb:Nat} {p:List Int} (H:Rdk w h d s) (hk:k.length≤9223372036854775807) (hz:Sl w F .u8 B mb p) (hby:Byt p) :
  Calls Tryd.prog 12 #[pv d,kv k, .slice B mb cb] w (PostR (opSaveL s k p) d w h):=by
 by_cases h1:okS k
 ·by_cases h2:1048576<mb
  ·exact rsave_long H hk hz.len h2
  ·rw[saveL_short (by rw[hz.len]; omega)]
   exact rsave_any H (by unfold okS at h1; omega) hz (by omega) hby
 ·exact rsave_bad H hk h1
end
end
section
open Go.RowKit Go.Oct Go.Su Go.Dk Go.Maps Go.Fr
structure Held (s:Ds) (k:Key) (o:Option (List Int)):Prop where
 ok:DsOk s
 file:fnd s.fs k=o.map fun p=>⟨k,frm p,(frm p).length⟩
 short:∀ p,o=some p→p.length≤1048576∧Byt p
section
variable {s:Ds} {k j:Key} {o:Option (List Int)} {p:List Int}
theorem Held.saved (h:Held s k o) (hl:p.length≤1048576) (hb:Byt p) (e:(opSaveL s k p).1=0):Held (opSaveL s k p).2 k (some p):=by
 rw[saveL_short hl] at e ⊢
 unfold opSave at e ⊢
 split at e
 ·rename_i h1
  rw[if_pos h1]
  exact⟨h.ok.whole (frm_byt hb),(whole_done h.ok (frm_byt hb) e).1,fun q hq=>by injection hq with hq; subst hq; exact⟨hl,hb⟩⟩
 ·cases e
theorem Held.crash (h:Held s k o) (n:Int):Held (opCrash s n) k o:=by
 refine⟨h.ok.crash n,?_,h.short⟩
 show fnd (s.fs.map (crashF n.toNat)) k=_
 rw[fnd_crash,h.file]
 cases o with
 | none=>rfl
 | some p=>exact congrArg some (crash_whole _ _ _)
theorem Held.load (h:Held s k o):loadF (opRead s k)=match o with | none=>([],7) | some p=>(p,0):=by
 unfold opRead
 rw[h.file]
 cases o with
 | none=>rfl
 | some p =>
  obtain⟨h1,h2⟩:=h.short p rfl
  show loadF (some (frm p))=_
  unfold loadF
  simp[oneF_frm h1]
end
end
section
open Go.RowKit Go.Oct Go.Su Go.Dk Go.Maps Go.Fr
section
variable {w w':World} {g g':Nat→Tg} {d:Nat} {mb:Option Nat} {ad:Key→Nat} {s s':Ds} {F S:Nat→Prop} {k:Key}
theorem may_val (s:Ds) (k:Key):may s k=0∨may s k=1∨may s k=9:=by
 unfold may
 split
 ·exact .inr (.inr rfl)
 ·split
  ·exact .inl rfl
  ·exact .inr (.inl rfl)
theorem whole_prog (s:Ds) (k:Key) (b:List Int):opWhole s k b =
  if (opRem s (way k)).1≠0∧(opRem s (way k)).1≠7 then opRem s (way k) else
  if (opApp (opRem s (way k)).2 (way k) b).1≠0 then opApp (opRem s (way k)).2 (way k) b else
  if (opSync (opApp (opRem s (way k)).2 (way k) b).2 (way k)).1≠0 then opSync (opApp (opRem s (way k)).2 (way k) b).2 (way k) else
  opRen (opSync (opApp (opRem s (way k)).2 (way k) b).2 (way k)).2 (way k) k:=by
 have hv:=may_val s (way k)
 rw[whole_steps]
 unfold wh1
 cases hf:fnd s.fs (way k) with
 | some f =>
  have h7:(opRem s (way k)).1≠7:=by
   unfold opRem
   split
   ·show may s (way k)≠7
    omega
   ·rw[hf]
    simp
  simp only[Option.isSome_some,if_true]
  by_cases h0:(opRem s (way k)).1=0
  ·rw[if_neg (show ¬(opRem s (way k)).1≠0 by simp[h0]),if_neg (show ¬((opRem s (way k)).1≠0∧(opRem s (way k)).1≠7) by simp[h0])]
  ·rw[if_pos h0,if_pos ⟨h0,h7⟩]
 | none =>
  simp only[Option.isSome_none,Bool.false_eq_true,if_false]
  by_cases hm:may s (way k)=0
  ·have e:opRem s (way k)=(7,s):=by
    unfold opRem
    rw[if_neg (by simp[hm]),hf]
   rw[e]
   simp
  ·have e:opRem s (way k)=(may s (way k),s):=by
    unfold opRem
    rw[if_pos hm]
   have e2:opApp s (way k) b=(may s (way k),s):=by
    unfold opApp
    rw[if_pos hm]
   have e7:may s (way k)≠7:=by omega
   rw[e]
   simp[hm,e7,e2]
theorem Dgo.no (h:Dgo w g w' g') {b:Nat} (hb:b<w.heap.size) (hn:g b = .no):g' b = .no:=by
 rcases hgt:g' b with _ | _ | _ | _
 ·rfl
 all_goals
  rcases h.new b (by rw[hgt]; exact fun e=>by cases e) with h7 | h7
  ·exact absurd hn h7
  ·omega
theorem Dsk.fresh (h:Dsk w g d mb ad s):∀ b,b=w.heap.size→g b = .no:=fun b hb=>by
 rcases hgt:g b with _ | _ | _ | _
 ·rfl
 all_goals
  have h7:=h.lt b (by rw[hgt]; exact fun e=>by cases e)
  omega
theorem removed1_any (h:Dsk w g d mb ad s) (hk:k.length≤9223372036854775807) :
  Calls Tryd.prog 38 #[pv d, .slice (some ⟨w.heap.size,0,none⟩) 1 1] (w.alloc (.cells #[kv k] 9)) (Post (opRem s k) d w g) :=
 (removed_any (c:=1) (l:=[k]) (h.keep ((Ch.refl (fun _=>False) w).alloc (.cells #[kv k] 9))) (Kss.one w 9 k) h.fresh (by omega) (fun j hj=>by simp at hj; subst hj; exact hk)).mono fun e w' ⟨h1,g',mb',ad',h2,h3⟩=>⟨by rw[h1,opEach_one],g',mb',ad',by rw[opEach_one] at h2; exact h2,(Dgo.quiet ((Ch.refl (fun _=>False) w).alloc (.cells #[kv k] 9))).trans h3⟩
theorem synced1_any (h:Dsk w g d mb ad s) (hk:k.length≤9223372036854775807) :
  Calls Tryd.prog 55 #[pv d, .slice (some ⟨w.heap.size,0,none⟩) 1 1] (w.alloc (.cells #[kv k] 9)) (Post (opSync s k) d w g) :=
 (synced_any (c:=1) (l:=[k]) (h.keep ((Ch.refl (fun _=>False) w).alloc (.cells #[kv k] 9))) (Kss.one w 9 k) h.fresh (by omega) (fun j hj=>by simp at hj; subst hj; exact hk)).mono fun e w' ⟨h1,g',mb',ad',h2,h3⟩=>⟨by rw[h1,opEach_one],g',mb',ad',by rw[opEach_one] at h2; exact h2,(Dgo.quiet ((Ch.refl (fun _=>False) w).alloc (.cells #[kv k] 9))).trans h3⟩
theorem append1_any {B:Option Addr} {cb:Nat} {bs:List Int} (h:Dsk w g d mb ad s) (hk:k.length≤9223372036854775807) (hz:Sl w F .u8 B bs.length bs) (h1:bs.length≤cb) (h2:cb≤maxLen) (hF:∀ b,b<w.heap.size→F b→g b = .no) (hby:Byt bs) :
  Calls Tryd.prog 22 #[pv d,kv k, .slice (some ⟨w.heap.size,0,none⟩) 1 1] (w.alloc (.cells #[.slice B bs.length cb] 32)) (Post (opApp s k bs) d w g):=by
 have hcA:Ch (fun _=>False) w (w.alloc (.cells #[.slice B bs.length cb] 32)):=(Ch.refl _ _).alloc _
 have hq:=Sls.one (F:=F) (G:=fun b=>(b<w.heap.size∧F b)∨b=w.heap.size) 32 hz h1 h2 (fun _ h h' => .inl ⟨h,h'⟩) (.inr rfl)
 refine (append_any (c:=1) (h.keep hcA) hk hq (fun b hb=>?_) (by omega) (fun xs hx=>by simp at hx; subst hx; exact hby)).mono fun e w' ⟨e1,g',mb',ad',e2,e3⟩=>?_
 ·rcases hb with hb | hb
  ·exact hF b hb.1 hb.2
  ·exact h.fresh b hb
 ·rw[show cat [bs]=bs from by simp[cat]] at e1 e2
  exact⟨e1,g',mb',ad',e2,(Dgo.quiet hcA).trans e3⟩
theorem pwrite_any {B:Option Addr} {m cb:Nat} {bs:List Int} (H:Dsk w g d mb ad s) (hk:k.length≤1000000) (hz:Sl w F .u8 B m bs) (hc1:m≤cb) (hc2:cb≤maxLen) (hF:∀ b,F b→g b = .no∧b<w.heap.size) (hby:Byt bs) :
  Calls Tryd.prog 30 #[pv d,kv k, .slice B m cb] w (Post (opWhole s k bs) d w g):=by
 obtain rfl:=hz.len
 have hp:pv d = .pointer (some ⟨d,0,none⟩):=rfl
 have HH:=Bx.mk H
 have HKL:Bx (k.length≤9223372036854775807):=⟨by omega⟩
 have HTL:Bx ((way k).length≤9223372036854775807):=⟨by rw[way_len]; omega⟩
 have HZ:=Bx.mk hz
 have HFN:Bx (∀ b,F b→g b = .no):=⟨fun b hb=>(hF b hb).1⟩
 have HFL:Bx (∀ b,F b→b<w.heap.size):=⟨fun b hb=>(hF b hb).2⟩
 have HBY:=Bx.mk hby
 have HC1:=Bx.mk hc1
 have HC2:=Bx.mk hc2
 have HRM:=Bx.mk (removed1_any H HTL.out)
 have HWP:=Bx.mk (whole_prog s k bs)
 have hadd:=str_add k
 obtain⟨S,hkv⟩:∃ S,(⟨k.toArray⟩:ByteArray)=S:=⟨_,rfl⟩
 obtain⟨T,htv⟩:∃ T,(⟨(way k).toArray⟩:ByteArray)=T:=⟨_,rfl⟩
 rw[hkv,htv] at hadd
 have HKV:Bx (kv k = .string S):=⟨by unfold kv; rw[hkv]⟩
 have HTV:Bx (kv (way k) = .string T):=⟨by unfold kv; rw[htv]⟩
 have hadd':S++(⟨#[126]⟩:ByteArray)=T:=hadd.symm
 have hs1:S.size≤1000000:=by rw[←hkv,key_size]; exact hk
 have hs2:(S.size:Int)+((⟨#[126]⟩:ByteArray).size:Int)≤9223372036854775807:=by have h1:(⟨#[126]⟩:ByteArray).size=1:=rfl; rw[h1]; omega
 have hs3:(S.size:Int)+1≤9223372036854775807:=by omega
 rw[hp,HTV.out] at HRM
 rw[hp,HKV.out]
 obtain⟨m,hm⟩:∃ m,bs.length=m:=⟨_,rfl⟩
 have HM:=Bx.mk hm
 rw[hm]
 clear hp H hk hz hF hby hkv htv hadd hc1 hc2 hm
 go_enter Tryd.func30,Tryd.ntmps30
 go_wp2_with fail
 refine HRM.out.mono ?_
 rintro e w1 ⟨rfl,g1,mb1,ad1,hd1,hg1⟩
 obtain⟨m1,hm1⟩:∃ m,(opRem s (way k)).1=m:=⟨_,rfl⟩
 obtain⟨s1,hs1'⟩:∃ s1,(opRem s (way k)).2=s1:=⟨_,rfl⟩
 have HR1:Bx (opRem s (way k)=(m1,s1)):=⟨by rw[←hm1,←hs1']⟩
 rw[hm1]
 rw[hs1'] at hd1
 have HD1:=Bx.mk hd1
 have HG1:=Bx.mk hg1
 clear hd1 hg1 hs1' hm1 HRM hs2 hs3 hadd' hs1
 by_cases hx:m1≠0∧m1≠7
 ·have e1:((m1:Int) != 0)=true:=by simp; omega
  have e2:((m1:Int) != 7)=true:=by simp; omega
  have HEQ:Bx (opWhole s k bs=(m1,s1)):=⟨by rw[HWP.out,HR1.out,if_pos hx]⟩
  go_wp2
  go_ret
  exact⟨by rw[HEQ.out]; rfl,g1,mb1,ad1,by rw[HEQ.out]; exact HD1.out,HG1.out⟩
 ·have HWH:Bx (opWhole s k bs=if (opApp s1 (way k) bs).1≠0 then opApp s1 (way k) bs else if (opSync (opApp s1 (way k) bs).2 (way k)).1≠0 then opSync (opApp s1 (way k) bs).2 (way k) else opRen (opSync (opApp s1 (way k) bs).2 (way k)).2 (way k) k):=⟨by rw[HWP.out,HR1.out,if_neg hx]⟩
  have hx':m1=0∨m1=7:=by omega
  have HZ1:=Bx.mk ((HZ.out.mono (G:=fun b=>F b∧b<w.heap.size) (fun b _ hb=>⟨hb,HFL.out b hb⟩)).ch HG1.out.ch (fun b hb _ hs=>hs (HFN.out b hb.1)))
  have HAP:=Bx.mk (append1_any (k:=way k) HD1.out HTL.out HZ1.out HC1.out HC2.out (fun b _ hb=>HG1.out.no hb.2 (HFN.out b hb.1)) HBY.out)
  rw[show pv d = .pointer (some ⟨d,0,none⟩) from rfl,HTV.out,HM.out] at HAP
  clear hx HR1
  rcases hx' with rfl | rfl
  all_goals
   go_wp2_with fail
   refine HAP.out.mono ?_
   rintro e w2 ⟨rfl,g2,mb2,ad2,hd2,hg2⟩
   obtain⟨m2,hm2⟩:∃ m,(opApp s1 (way k) bs).1=m:=⟨_,rfl⟩
   rw[hm2]
   have HG2:Bx (Dgo w g w2 g2):=⟨HG1.out.trans hg2⟩
   have HD2:=Bx.mk hd2
   obtain⟨s2,hs2⟩:∃ s2,(opApp s1 (way k) bs).2=s2:=⟨_,rfl⟩
   rw[hs2] at HD2
   have HM2:=Bx.mk hm2
   have HS2:=Bx.mk hs2
   clear hd2 hg2 hm2 hs2 HAP
   by_cases e2:m2=0
   ·subst e2
    have HSY:=Bx.mk (synced1_any HD2.out HTL.out)
    rw[show pv d = .pointer (some ⟨d,0,none⟩) from rfl,HTV.out] at HSY
    go_wp2_with fail
    refine HSY.out.mono ?_
    rintro e w3 ⟨rfl,g3,mb3,ad3,hd3,hg3⟩
    obtain⟨m3,hm3⟩:∃ m,(opSync s2 (way k)).1=m:=⟨_,rfl⟩
    rw[hm3]
    have HG3:Bx (Dgo w g w3 g3):=⟨HG2.out.trans hg3⟩
    have HD3:=Bx.mk hd3
    obtain⟨s3,hs3⟩:∃ s3,(opSync s2 (way k)).2=s3:=⟨_,rfl⟩
    rw[hs3] at HD3
    have HM3:=Bx.mk hm3
    have HS3:=Bx.mk hs3
    clear hd3 hg3 hm3 hs3 HSY
    by_cases e3:m3=0
    ·subst e3
     have HRE:=Bx.mk (rename_any HD3.out HTL.out HKL.out)
     rw[show pv d = .pointer (some ⟨d,0,none⟩) from rfl,HTV.out,HKV.out] at HRE
     have HEQ:Bx (opWhole s k bs=opRen s3 (way k) k):=⟨by rw[HWH.out,HM2.out,if_neg (by simp),HS2.out,HM3.out,if_neg (by simp),HS3.out]⟩
     go_wp2_with fail
     refine HRE.out.mono ?_
     rintro e w4 ⟨rfl,g4,mb4,ad4,hd4,hg4⟩
     go_wp2
     go_ret
     exact⟨by rw[HEQ.out]; rfl,g4,mb4,ad4,by rw[HEQ.out]; exact hd4,HG3.out.trans hg4⟩
    ·have e3':¬ (m3:Int)=0:=by omega
     have HEQ:Bx (opWhole s k bs=(m3,s3)):=⟨by rw[HWH.out,HM2.out,if_neg (by simp),HS2.out,HM3.out,if_pos e3,←HM3.out,←HS3.out]⟩
     go_wp2
     go_ret
     exact⟨by rw[HEQ.out]; rfl,g3,mb3,ad3,by rw[HEQ.out]; exact HD3.out,HG3.out⟩
   ·have e2':¬ (m2:Int)=0:=by omega
    have HEQ:Bx (opWhole s k bs=(m2,s2)):=⟨by rw[HWH.out,HM2.out,if_pos e2,←HM2.out,←HS2.out]⟩
    go_wp2
    go_ret
    exact⟨by rw[HEQ.out]; rfl,g2,mb2,ad2,by rw[HEQ.out]; exact HD2.out,HG2.out⟩
theorem psave_any {A:Option Addr} {n c:Nat} {xss:List (List Int)} (h:Dsk w g d mb ad s) (ht:O.Tab w) (hk:k.length≤9223372036854775807) (hz:Sls w F A n xss) (hn:n≤1000000) (hl:(cat xss).length≤281474976710656) (hby:∀ xs∈xss,Byt xs) :
  Calls Tryd.prog 11 #[pv d,kv k, .slice A n c] w (Post (opSaveL s k (cat xss)) d w g):=by
 have hp:pv d = .pointer (some ⟨d,0,none⟩):=rfl
 have HH:=Bx.mk h
 have hsz:=key_size k
 have HBY:Bx (Byt (cat xss)):=⟨fun x hx=>by
  obtain⟨y,hy,hxy⟩:=List.mem_flatten.1 hx
  exact hby y hy x hxy⟩
 obtain⟨S,hkv⟩:∃ S,(⟨k.toArray⟩:ByteArray)=S:=⟨_,rfl⟩
 obtain⟨kl,hkl⟩:∃ kl,k.length=kl:=⟨_,rfl⟩
 have HKL:=Bx.mk hkl
 rw[hkv,hkl] at hsz
 rw[hkl] at hk
 have HKV:Bx (kv k = .string S):=⟨by unfold kv; rw[hkv]⟩
 rw[hp,HKV.out]
 have HSHORT:Bx ((cat xss).length≤1048576→Calls Tryd.prog 29 #[.slice A n c] w (Encoded (cat xss) w)):=⟨fun h=>encode_any xss A n c w ht hz hn h hby⟩
 have HLONG:Bx (1048576<(cat xss).length→Calls Tryd.prog 29 #[.slice A n c] w fun e w'=>e = .returned (.tuple #[.slice none 0 0, .int .i64 5])∧w'=w):=⟨fun h=>encode_long xss A n c w hz (by omega) h hl⟩
 have hem:=str_empty k
 rw[hkv,hkl] at hem
 have HW:Bx (okS k→∀ (B:Option Addr) (cb:Nat) (w1:World),Fresh w (.slice B (frm (cat xss)).length cb) (frm (cat xss)) w1→Calls Tryd.prog 30 #[pv d,kv k, .slice B (frm (cat xss)).length cb] w1 (Post (opWhole s k (frm (cat xss))) d w g)):=⟨fun hok B cb w1 hf=>by
  obtain⟨hf1,hf2,hf3⟩:=hf
  obtain⟨A',c',e1,h1,h2⟩:=own_shape hf1
  cases e1
  refine (pwrite_any (HH.out.keep hf3) (by unfold okS at hok; omega) (Sl.of_own hf1) h1 h2 (fun b hb=>⟨?_,own_lt hf1 b hb⟩) (frm_byt HBY.out)).mono fun e w' ⟨e1,g',mb',ad',e2,e3⟩=>⟨e1,g',mb',ad',e2,(Dgo.quiet hf3).trans e3⟩
  rcases hgt:g b with _ | _ | _ | _
  ·rfl
  all_goals
   have h7:=HH.out.lt b (by rw[hgt]; exact fun e=>by cases e)
   have h8:=hf2 b hb
   omega⟩
 rw[hp,HKV.out] at HW
 clear hp h hz ht hby hkv hkl hl
 by_cases h1:kl=0
 ·have he':(S.toList==([]:List UInt8))=true:=by rw[hem]; simp[h1]
  have HR:Bx (opSaveL s k (cat xss)=(1,s)):=⟨by unfold opSaveL; rw[if_pos (fun e=>by unfold okS at e; rw[HKL.out] at e; omega)]⟩
  clear hem HW HSHORT HLONG
  go_enter Tryd.func11,Tryd.ntmps11
  go_wp2
  go_ret
  exact⟨by rw[HR.out]; rfl,g,mb,ad,by rw[HR.out]; exact HH.out,Dgo.refl _ _⟩
 ·have he':(S.toList==([]:List UInt8))=false:=by rw[hem]; simp[h1]
  clear hem
  by_cases h2:60<kl
  ·have HR:Bx (opSaveL s k (cat xss)=(1,s)):=⟨by unfold opSaveL; rw[if_pos (fun e=>by unfold okS at e; rw[HKL.out] at e; omega)]⟩
   have i2:decide ((60:Int)<(kl:Int))=true:=decide_eq_true (by omega)
   have i2':decide (60<kl)=true:=decide_eq_true h2
   clear HW HSHORT HLONG
   go_enter Tryd.func11,Tryd.ntmps11
   go_wp2
   go_ret
   exact⟨by rw[HR.out]; rfl,g,mb,ad,by rw[HR.out]; exact HH.out,Dgo.refl _ _⟩
  ·have i2:decide ((60:Int)<(kl:Int))=false:=decide_eq_false (by omega)
   have i2':decide (60<kl)=false:=decide_eq_false h2
   have hok:okS k:=by unfold okS; rw[HKL.out]; omega
   by_cases h3:1048576<(cat xss).length
   ·have HR:Bx (opSaveL s k (cat xss)=(5,s)):=⟨by unfold opSaveL; rw[if_neg (fun h=>h hok),if_pos h3]⟩
    have HEN:=Bx.mk (HLONG.out h3)
    clear HW HSHORT HLONG hok h3
    go_enter Tryd.func11,Tryd.ntmps11
    go_wp2_with fail
    refine HEN.out.mono ?_
    rintro e w1 ⟨rfl,rfl⟩
    go_wp2
    go_ret
    exact⟨by rw[HR.out]; rfl,g,mb,ad,by rw[HR.out]; exact HH.out,Dgo.refl _ _⟩
   ·have HR:Bx (opSaveL s k (cat xss)=opWhole s k (frm (cat xss))):=⟨by unfold opSaveL; rw[if_neg (fun h=>h hok),if_neg h3]⟩
    have HEN:=Bx.mk (HSHORT.out (by omega))
    have HWW:=Bx.mk (HW.out hok)
    have HLE:Bx (¬1048576<(cat xss).length):=⟨h3⟩
    clear HW HSHORT HLONG hok h3
    go_enter Tryd.func11,Tryd.ntmps11
    go_wp2_with fail
    refine HEN.out.mono ?_
    rintro e w1 (⟨hbig,_⟩ | ⟨_,v,rfl,hf⟩)
    ·exact absurd hbig HLE.out
    obtain⟨A1,c1,rfl,_,_⟩:=own_shape hf.1
    have HWC:=Bx.mk (HWW.out A1 c1 w1 hf)
    clear hf HWW HEN
    obtain⟨q,hq⟩:∃ q,(frm (cat xss)).length=q:=⟨_,rfl⟩
    rw[hq] at HWC ⊢
    clear hq
    go_wp2_with fail
    refine HWC.out.mono ?_
    rintro e w2 ⟨rfl,hpo⟩
    go_wp2
    go_ret
    exact⟨by rw[HR.out]; rfl,by rw[HR.out]; exact hpo⟩
theorem pload_any (h:Dsk w g d mb ad s) (ht:O.Tab w) (k:Key) (hroom:s.room≤1048576) (hk:k.length≤9223372036854775807:=by simp):Calls Tryd.prog 13 #[pv d,kv k] w (LoadP (opRead s k) w):=by
 have hp:pv d = .pointer (some ⟨d,0,none⟩):=rfl
 have HC:=Bx.mk (read_any h hk)
 have HT:=Bx.mk ht
 have HBB:Bx (∀ b,opRead s k=some b→b.length≤1048576∧Byt b):=⟨fun b e=>by
  unfold opRead at e
  cases hf:fnd s.fs k with
  | none=>rw[hf] at e; cases e
  | some x =>
   rw[hf] at e
   simp only[Option.map_some,Option.some.injEq] at e
   subst e
   obtain⟨hm,_⟩:=fnd_some hf
   have:=used_at h.ok.fine.rise hm
   have:=h.ok.used
   exact⟨by omega,h.ok.fine.byte x hm⟩⟩
 obtain⟨S,hkv⟩:∃ S,kv k = .string S:=⟨_,rfl⟩
 obtain⟨o,ho⟩:∃ o,opRead s k=o:=⟨_,rfl⟩
 rw[hp] at HC ⊢
 rw[hkv] at HC ⊢
 rw[ho] at HC HBB ⊢
 clear hp h hkv ho hroom hk ht
 go_enter Tryd.func13,Tryd.ntmps13
 go_wp2_with fail
 refine HC.out.mono ?_
 rintro e w1 (⟨rfl,rfl,hc⟩ | ⟨bs,v,rfl,rfl,hf⟩)
 ·go_wp2
  go_ret2
  exact⟨_,rfl,fresh_nil hc⟩
 ·obtain⟨hl,hb⟩:=HBB.out bs rfl
  obtain⟨hf1,hf2,hf3⟩:=hf
  obtain⟨A,c,rfl,hc1,hc2⟩:=own_shape hf1
  have HO:=Bx.mk (fone_any bs A bs.length c w1 (HT.out.ch hf3 (fun h=>h)) (Sl.of_own hf1) hc1 hc2 (by omega) hb)
  obtain⟨q,hq⟩:∃ q,bs.length=q:=⟨_,rfl⟩
  rw[hq] at HO ⊢
  have HC1:=Bx.mk hf3
  clear hf1 hf2 hf3 hc1 hc2 hl hb hq HBB HC
  go_wp2_with fail
  refine HO.out.mono ?_
  rintro e w2 ⟨v2,rfl,hfr⟩
  obtain⟨ec,hec⟩:∃ ec,(oneF bs).2=ec:=⟨_,rfl⟩
  have HEC:=Bx.mk hec
  have HFR:=Bx.mk hfr
  rw[hec]
  clear hec hfr
  by_cases e0:ec=0
  ·subst e0
   have HL:Bx (loadF (some bs)=((oneF bs).1,0)):=⟨by show (if (oneF bs).2≠0 then (([]:List Int),(3:Int)) else ((oneF bs).1,0))=_; rw[if_neg (by simp[HEC.out])]⟩
   go_wp2
   go_ret2
   exact⟨v2,by rw[HL.out]; rfl,by rw[HL.out]; exact HFR.out.after HC1.out⟩
  ·have HL:Bx (loadF (some bs)=([],3)):=⟨by show (if (oneF bs).2≠0 then (([]:List Int),(3:Int)) else ((oneF bs).1,0))=_; rw[if_pos (by rw[HEC.out]; exact e0)]⟩
   go_wp2
   go_ret2
   exact⟨_,by rw[HL.out]; rfl,by rw[HL.out]; exact fresh_nil (HC1.out.trans HFR.out.2.2 (fun _ _ h=>h))⟩
end
end
end Go.Proofs.YtoolcbaipinloaaDoor
