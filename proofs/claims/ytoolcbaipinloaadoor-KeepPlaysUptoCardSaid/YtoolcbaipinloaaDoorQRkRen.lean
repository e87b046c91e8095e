/- Lemmas and contracts of this proof. Conditions: said at each. -/
import Derived.Test.YtoolcbaipinloaaDoorQGRkAppd
set_option maxHeartbeats 16000000
set_option maxRecDepth 100000
namespace Go.Proofs.YtoolcbaipinloaaDoor
open Go.RowKit Go.Oct Go.Su Go.Dk Go.Maps
section
variable {w w' w2:World} {h h' h2:Nat→Rt} {us vs:List Value} {fs gs:Fs} {S F:Nat→Prop} {x y:Fl} {k j:Key} {d:Nat} {s:Ds}
theorem rren_any (H:Rdk w h d s) (hk:k.length≤9223372036854775807) (hj:j.length≤9223372036854775807):Calls Tryd.prog 61 #[pv d,kv k,kv j] w (PostR (opRen s k j) d w h):=by
 have hp:pv d = .pointer (some ⟨d,0,none⟩):=rfl
 have HM:=Bx.mk (rmay2_any H hk hj)
 have HH:=Bx.mk H
 have HSP:Bx (∀ w1,Ch (fun _=>False) w w1→Calls Tryd.prog 47 #[pv d,kv k] w1 fun e w'=>e = .returned (.tuple #[.int .i64 ((lo s.fs k).length:Int), .bool (fnd s.fs k).isSome])∧Ch (fun _=>False) w1 w'):=⟨fun w1 hc=>spot_any (H.keep hc) k⟩
 have HRA:Bx (∀ w1,Ch (fun _=>False) w w1→Calls Tryd.prog 69 #[pv d,kv k] w1 fun e w'=>e = .returned (.tuple #[])∧∃ h',Rdk w' h' d ⟨s.room,del s.fs k,s.left⟩∧Rgo w1 h w' h'∧Ch (fun b=>h b = .dk) w1 w'∧∀ b,h b = .by→h' b = .by):=⟨fun w1 hc=>rremove_any (H.keep hc) k⟩
 have HRB:Bx (∀ (w1:World) (h1:Nat→Rt) (s1:Ds),Rdk w1 h1 d s1→Calls Tryd.prog 69 #[pv d,kv j] w1 fun e w'=>e = .returned (.tuple #[])∧∃ h',Rdk w' h' d ⟨s1.room,del s1.fs j,s1.left⟩∧Rgo w1 h1 w' h'∧Ch (fun b=>h1 b = .dk) w1 w'∧∀ b,h1 b = .by→h' b = .by):=⟨fun w1 h1 s1 hr=>rremove_any hr j⟩
 have HSB:Bx (∀ (w1:World) (h1:Nat→Rt) (s1:Ds),Rdk w1 h1 d s1→Calls Tryd.prog 47 #[pv d,kv j] w1 fun e w'=>e = .returned (.tuple #[.int .i64 ((lo s1.fs j).length:Int), .bool (fnd s1.fs j).isSome])∧Ch (fun _=>False) w1 w'):=⟨fun w1 h1 s1 hr=>spot_any hr j⟩
 have hmost:=H.ok.most
 have hsn:=str_ne k j
 obtain⟨S,hkv⟩:∃ S,(⟨k.toArray⟩:ByteArray)=S:=⟨_,rfl⟩
 obtain⟨T,hjv⟩:∃ T,(⟨j.toArray⟩:ByteArray)=T:=⟨_,rfl⟩
 rw[hkv,hjv] at hsn
 have hkv:kv k = .string S:=by unfold kv; rw[hkv]
 have hjv:kv j = .string T:=by unfold kv; rw[hjv]
 have HJV:=Bx.mk hjv
 have HKV:=Bx.mk hkv
 obtain⟨m0,hm⟩:∃ m,mays s [k,j]=m:=⟨_,rfl⟩
 obtain⟨i,hi⟩:∃ i,(lo s.fs k).length=i:=⟨_,rfl⟩
 have HI:=Bx.mk hi
 rw[hp] at HM HSP HRA HRB HSB ⊢
 rw[hkv] at HSP HRA
 rw[hjv] at HRB HSB
 rw[hkv,hjv] at HM ⊢
 rw[hm] at HM
 rw[hi] at HSP
 rw[mays_two] at hm
 clear hp H hk hj hkv hjv hi
 by_cases h0:m0=0
 ·subst h0
  have HMK:Bx (may s k=0):=⟨by
   by_cases h:may s k=0
   ·exact h
   ·rw[if_pos h] at hm; exact absurd hm h⟩
  have HMJ:Bx (may s j=0):=⟨by rw[if_neg (by simp[HMK.out])] at hm; exact hm⟩
  clear hm
  cases hf:fnd s.fs k with
  | none =>
   have HR:=Bx.mk (ren_no (j:=j) HMK.out HMJ.out hf)
   rw[hf] at HSP
   clear hf hsn
   go_enter Tryd.func61,Tryd.ntmps61
   go_wp2_with fail
   refine HM.out.mono ?_
   rintro e w1 ⟨rfl,hc1⟩
   have HS1:=Bx.mk (HSP.out w1 hc1)
   have HC1:=Bx.mk hc1
   clear hc1 HSP HM
   go_wp2_with fail
   refine HS1.out.mono ?_
   rintro e w2 ⟨rfl,hc2⟩
   have hc12:=HC1.out.trans hc2 (fun _ _ h=>h)
   go_wp2
   go_ret
   exact⟨by rw[HR.out]; rfl,h,by rw[HR.out]; exact HH.out.keep hc12,Rgo.quiet hc12⟩
  | some x =>
   have HF:=Bx.mk hf
   rw[hf] at HSP
   by_cases hkj:k=j
   ·subst hkj
    have HR:=Bx.mk (ren_same HMK.out HF.out)
    have hsn2:(S.toList==T.toList)=true:=by rw[hsn]; simp
    clear hsn hf
    go_enter Tryd.func61,Tryd.ntmps61
    go_wp2_with fail
    refine HM.out.mono ?_
    rintro e w1 ⟨rfl,hc1⟩
    have HS1:=Bx.mk (HSP.out w1 hc1)
    have HC1:=Bx.mk hc1
    clear hc1 HSP HM
    go_wp2_with fail
    refine HS1.out.mono ?_
    rintro e w2 ⟨rfl,hc2⟩
    have hc12:=HC1.out.trans hc2 (fun _ _ h=>h)
    have HC2:=Bx.mk hc12
    have HD:=Bx.mk (rdid_any (HH.out.keep hc12) (may_ok HMK.out).1)
    rw[show pv d = .pointer (some ⟨d,0,none⟩) from rfl] at HD
    clear hc12 hc2
    go_wp2_with fail
    refine HD.out.mono ?_
    rintro e w4 ⟨rfl,hd4,hc4⟩
    go_wp2
    go_ret
    exact⟨by rw[HR.out]; rfl,h,by rw[HR.out]; exact hd4,(Rgo.quiet HC2.out).trans ⟨hc4.mono (fun i _ hi=>by rw[hi,HH.out.tag]; exact (fun e=>by cases e)),fun b hb => .inl hb⟩⟩
   ·have HR:=Bx.mk (ren_ok HMK.out HMJ.out HF.out hkj)
    have HKJ:=Bx.mk hkj
    have hsn2:(S.toList==T.toList)=false:=by rw[hsn]; simp[hkj]
    have hxi:=at_lo HH.out.ok.fine.rise hf
    rw[HI.out] at hxi
    have HX:=Bx.mk hxi
    have hil:i<s.fs.length:=(List.getElem?_eq_some_iff.1 hxi).1
    obtain⟨n,hn⟩:∃ n,s.fs.length=n:=⟨_,rfl⟩
    have HN:=Bx.mk hn
    rw[hn] at hil hmost
    clear hsn hf hkj hxi hn
    go_enter Tryd.func61,Tryd.ntmps61
    go_wp2_with fail
    refine HM.out.mono ?_
    rintro e w1 ⟨rfl,hc1⟩
    have HS1:=Bx.mk (HSP.out w1 hc1)
    have HC1:=Bx.mk hc1
    clear hc1 HSP HM
    go_wp2_with fail
    refine HS1.out.mono ?_
    rintro e w2 ⟨rfl,hc2⟩
    have hc12:=HC1.out.trans hc2 (fun _ _ h=>h)
    have HC2:=Bx.mk hc12
    obtain⟨b,c,x',A,cc,c1,hnc,hcm,_,hx,k1,k2,k3,hsl,hqc0,hccm,_⟩:=(HH.out.keep hc12).file (j:=i) (by rw[HN.out]; exact hil)
    obtain rfl:x=x':=by rw[HX.out] at hx; injection hx
    rw[HN.out] at c1 hnc
    have hnm:x.nm=k:=(fnd_some HF.out).2
    rw[hnm,HKV.out] at k1
    have i2':(i:Int)<(n:Int):=by omega
    have hc9':c≤9223372036854775807:=by unfold maxLen at hcm; omega
    have HSL:=Bx.mk hsl
    have HCCM:=Bx.mk hccm
    obtain⟨q,hq⟩:∃ q,x.bs.length=q:=⟨_,rfl⟩
    obtain⟨la,hla⟩:∃ la,x.la=la:=⟨_,rfl⟩
    rw[hq] at k2 hqc0 HSL
    rw[hla] at k3
    have hqc:=hqc0
    have HQ:=Bx.mk hq
    have HLA:=Bx.mk hla
    clear hx hcm hsl hccm hq hla hnm hc12 hc2 HS1 HC1
    go_wp2_with fail
    obtain⟨w3,hw3⟩:∃ w3,w2.alloc (.cells #[.string T, .slice A q cc, .int .i64 (la:Int)] 79)=w3:=⟨_,rfl⟩
    have hc3:Ch (fun _=>False) w w3:=by rw[←hw3]; exact HC2.out.alloc _
    have hc23:Ch (fun _=>False) w2 w3:=by rw[←hw3]; exact (Ch.refl _ w2).alloc _
    obtain⟨pf,hpf⟩:∃ pf,w2.heap.size=pf:=⟨_,rfl⟩
    have hpf3:pf<w3.heap.size:=by rw[←hw3,World.size_alloc]; omega
    have hp3:w3.cell? ⟨pf,0,none⟩=some (.string T)∧w3.cell? ⟨pf,1,none⟩=some (.slice A q cc)∧w3.cell? ⟨pf,2,none⟩=some (.int .i64 (la:Int)):=by
     rw[←hw3,←hpf]
     exact⟨cells_at (j:=0) rfl,cells_at (j:=1) rfl,cells_at (j:=2) rfl⟩
    have hno:h pf = .no:=by
     rcases hgt:h pf with _ | _ | _ | _
     ·rfl
     all_goals
      have h7:=HH.out.lt pf (by rw[hgt]; exact fun e=>by cases e)
      have h8:=HC2.out.size
      omega
    have HP3:=Bx.mk hp3
    have HNO:=Bx.mk hno
    have HC3:=Bx.mk hc3
    have HC23:=Bx.mk hc23
    rw[hw3,hpf]
    clear hw3 hpf hp3 hno hc23 k1 k2 k3 c1
    refine (HRA.out w3 hc3).mono ?_
    rintro e w4 ⟨rfl,h4,hd4,hg4,hb4,hy4⟩
    have HD4:=Bx.mk hd4
    have HG4:=Bx.mk hg4
    have HB4:=Bx.mk hb4
    have HY4:=Bx.mk hy4
    have HRB4:=Bx.mk (HRB.out w4 h4 _ hd4)
    clear hc3 HRA HRB hd4 hg4 hb4 hy4
    go_wp2_with fail
    refine HRB4.out.mono ?_
    rintro e w5 ⟨rfl,h5,hd5,hg5,hb5,hy5⟩
    obtain⟨s2,hs2⟩:∃ s2:Ds,s2=⟨s.room,del (del s.fs k) j,s.left⟩:=⟨_,rfl⟩
    have hd5':Rdk w5 h5 d s2:=by rw[hs2]; exact hd5
    have hf2:fnd s2.fs j=none:=by rw[hs2]; exact fnd_del_same _ _
    have HSB5:=Bx.mk (HSB.out w5 h5 s2 hd5')
    obtain⟨i2,hi2⟩:∃ i2,(lo s2.fs j).length=i2:=⟨_,rfl⟩
    have hil2:=lo_le s2.fs j
    obtain⟨n2,hn2⟩:∃ n2,s2.fs.length=n2:=⟨_,rfl⟩
    have hmo2:=hd5'.ok.most
    rw[hn2] at hmo2
    rw[hi2] at hil2
    rw[hn2] at hil2
    rw[hi2,hf2] at HSB5
    have HF2:=Bx.mk hf2
    have HN2:=Bx.mk hn2
    have HLF:Bx (s2.left≠some 0):=⟨by rw[hs2]; exact (may_ok HMK.out).1⟩
    have HOK2:Bx (DsOk ⟨s2.room,put s2.fs ⟨j,x.bs,x.la⟩,s2.left⟩):=⟨by rw[hs2]; exact DsOk.ren2 HH.out.ok HF.out (may_ok HMJ.out).2⟩
    have HP2:Bx (put s2.fs ⟨j,x.bs,x.la⟩=s2.fs.take i2++⟨j,x.bs,x.la⟩::s2.fs.drop i2):=⟨by
     have h9:=put_new (f:=⟨j,x.bs,x.la⟩) hd5'.ok.fine.rise hf2
     rw[h9]
     show s2.fs.take (lo s2.fs j).length++_::s2.fs.drop (lo s2.fs j).length=_
     rw[hi2]⟩
    have HPUT:Bx ((⟨s2.room,put s2.fs ⟨j,x.bs,x.la⟩,tick s2.left⟩:Ds)=⟨s.room,put (del s.fs k) ⟨j,x.bs,x.la⟩,tick s.left⟩):=⟨by
     rw[hs2]
     show Ds.mk s.room (put (del (del s.fs k) j) ⟨j,x.bs,x.la⟩) _=_
     have e:=put_del1 (rise_del HH.out.ok.fine.rise k) ⟨j,x.bs,x.la⟩
     have e2:put (del (del s.fs k) j) ⟨j,x.bs,x.la⟩=put (del s.fs k) ⟨j,x.bs,x.la⟩:=e
     rw[e2]⟩
    have hn4:h4 pf = .no:=by
     rcases hgt:h4 pf with _ | _ | _ | _
     ·rfl
     all_goals
      rcases HG4.out.new pf (by rw[hgt]; exact fun e=>by cases e) with h7 | h7
      ·exact absurd HNO.out h7
      ·omega
    have HPC5:Bx (w5.cell? ⟨pf,0,none⟩=some (.string T)∧w5.cell? ⟨pf,1,none⟩=some (.slice A q cc)∧w5.cell? ⟨pf,2,none⟩=some (.int .i64 (la:Int))):=⟨by
     have hk:∀ {o:Nat} {u:Value},w3.cell? ⟨pf,o,none⟩=some u→w5.cell? ⟨pf,o,none⟩=some u:=fun hu=>hg5.ch.cell (p:=⟨pf,_,none⟩) (fun e=>e hn4) (HG4.out.ch.cell (p:=⟨pf,_,none⟩) (fun e=>e HNO.out) hu)
     exact⟨hk HP3.out.1,hk HP3.out.2.1,hk HP3.out.2.2⟩⟩
    have HSL5:Bx (Sl w5 (fun b=>h5 b = .by) .u8 A q x.bs):=⟨by
     have e1:=HSL.out.ch HC23.out (fun _ _ _ h=>h)
     have e2:=(e1.ch HB4.out (fun b hb _ e=>by rw[show h b = .by from hb] at e; cases e)).mono (G:=fun b=>h4 b = .by) (fun b _ hb=>HY4.out b hb)
     exact (e2.ch hb5 (fun b hb _ e=>by rw[show h4 b = .by from hb] at e; cases e)).mono (fun b _ hb=>hy5 b hb)⟩
    have HG5:Bx (Rgo w h w5 h5):=⟨((Rgo.quiet HC3.out).trans HG4.out).trans hg5⟩
    have HD5:=Bx.mk hd5'
    clear hd5 hd5' hg5 hb5 hy5 hs2 hf2 hi2 hn2 hn4 HRB4 HSB
    go_wp2_with fail
    refine HSB5.out.mono ?_
    rintro e w6 ⟨rfl,hc6⟩
    have HH6:=Bx.mk (HD5.out.keep hc6)
    have HG6:Bx (Rgo w h w6 h5):=⟨HG5.out.trans (Rgo.quiet hc6)⟩
    have HSL6:=Bx.mk (HSL5.out.ch hc6 (fun _ _ _ h=>h))
    have HPC:Bx (∀ w',Ch (fun _=>False) w6 w'→w'.cell? ⟨pf,0,none⟩=some (.string T)∧w'.cell? ⟨pf,1,none⟩=some (.slice A q cc)∧w'.cell? ⟨pf,2,none⟩=some (.int .i64 (la:Int))):=⟨fun w' hc=>by
     have hcc:=hc6.trans hc (fun _ _ h=>h)
     exact⟨hcc.cell (p:=⟨pf,0,none⟩) (fun h=>h) HPC5.out.1,hcc.cell (p:=⟨pf,1,none⟩) (fun h=>h) HPC5.out.2.1,hcc.cell (p:=⟨pf,2,none⟩) (fun h=>h) HPC5.out.2.2⟩⟩
    have HSL6':Bx (Sl w6 (fun b=>h5 b = .by) .u8 A q x.bs):=HSL6
    have HONE:Bx (∀ w',Ch (fun _=>False) w6 w'→Fls w' h5 [Value.string T, .slice A q cc, .int .i64 (la:Int)] [⟨j,x.bs,x.la⟩]):=⟨fun w' hc=>by
     have h1:=Fls.one (w:=w') (h:=h5) (A:=A) (c:=cc) ⟨j,x.bs,x.la⟩ (by show Sl w' _ .u8 A x.bs.length x.bs; rw[HQ.out]; exact HSL6.out.ch hc (fun _ _ _ h=>h)) (by show x.bs.length≤cc; rw[HQ.out]; exact hqc) HCCM.out
     rw[←HLA.out,←HQ.out,←HJV.out]
     exact h1⟩
    clear hc6 HD5 HG5 HSL5 HPC5 HSB5 HSL HP3 HB4 HY4 HG4 HD4 HC3 HC23 HC2
    obtain⟨v,us,cr,ho,hrow,hfl⟩:=HH6.out.row
    rcases own_form ho with ⟨rfl,hz0⟩ | ⟨b2,c2,rfl,hnc2,hcm2⟩
    ·rw[HN2.out] at hz0
     obtain⟨c2,hc20⟩:∃ c2:Nat,c2=0:=⟨_,rfl⟩
     have HZ0:Bx (n2=0∧i2=0∧c2=0):=⟨by omega⟩
     have cr6:w6.cell? ⟨d,1,none⟩=some (.slice none n2 c2):=by rw[cr,hz0,hc20]
     have jn4:(n2:Int)≤(c2:Int):=by omega
     have jn5:c2≤9223372036854775807:=by omega
     clear cr ho hrow hfl hz0 hc20
     have jn1:(i2:Int)≤(c2:Int):=by omega
     have jn2:(i2:Int)≤(n2:Int):=by omega
     have jn3:(0:Int)≤(i2:Int):=by omega
     have HGA:=Bx.mk (gs_fl0 w6 79)
     have HOA:=Bx.mk (fl_set w6 79)
     have cra:=cell_alloc cr6 (.cells #[] 79)
     obtain⟨p0,p1,p2⟩:=HPC.out w6 (Ch.refl _ _)
     have p0a:=cell_alloc p0 (.cells #[] 79)
     have p1a:=cell_alloc p1 (.cells #[] 79)
     have p2a:=cell_alloc p2 (.cells #[] 79)
     have HOB1:=Bx.mk (HOA.out.alloc (.cells #[.string T, .slice A q cc, .int .i64 (la:Int)] 79))
     have HCB1:=Bx.mk (fl_cells (w6.alloc (.cells #[] 79)) T A q cc la)
     rw[World.size_alloc] at HCB1
     go_wp2_with (at_builtin; refine wp_appK rfl (.tmp 64) (.tmp 66) elemFl rfl rfl HOB1.out rfl (m:=1) rfl HCB1.out (fl_one _ _ _ _ _) (by omega) (by omega) ?_)
     all_goals first | (exfalso; have h0:=HZ0.out; omega) | skip
     obtain rfl:i2=0:=HZ0.out.2.1
     intro v7 w7 ho6 hg6 hb6
     have hG7:=HGA.out.app (m:=1) (news:=[Value.string T, .slice A q cc, .int .i64 (la:Int)]) ((Ch.refl _ (w6.alloc (.cells #[] 79))).alloc _) ho6 hg6 (by rw[World.size_alloc,World.size_alloc]; exact hb6)
     have hG7:Gs 79 3 w6 w7 v7 1 ([]++[Value.string T, .slice A q cc, .int .i64 (la:Int)]):=hG7
     have cr7:=hG7.ch.cell (p:=⟨d,1,none⟩) (fun h=>h) cr6
     obtain⟨g7,c7,rfl,h71,h72⟩:∃ g c,v7 = .slice (some ⟨g,0,none⟩) 1 c∧1≤c∧c≤9223372036854775807:=by
      rcases own_form hG7.own with ⟨_,e⟩ | ⟨g7,c7,e,h71,h72⟩
      ·omega
      ·exact⟨g7,c7,e,h71,by unfold maxLen at h72; omega⟩
     have h73:1+n2≤c7:=by have:=HZ0.out; omega
     clear ho6 hg6 hb6 cra p0a p1a p2a
     have hfl7:Fls w7 h5 ([]++[Value.string T, .slice A q cc, .int .i64 (la:Int)]) (s2.fs.take 0++⟨j,x.bs,x.la⟩::s2.fs.drop 0):=by
      have e6:s2.fs=[]:=List.eq_nil_of_length_eq_zero (by rw[HN2.out]; exact HZ0.out.1)
      rw[e6,List.take_nil,List.drop_nil]
      exact HONE.out w7 hG7.ch
     have hk1:=hG7.ch.cell (p:=⟨d,1,none⟩) (fun h=>h) cr6
     have hz1:=(hG7.ch.frozen (p:=⟨d,1,none⟩) (fun h=>h) HH6.out.lt_d).trans (HH6.out.zf 1)
     have hG7:Gs 79 3 w6 w7 (.slice (some ⟨g7,0,none⟩) (1+n2) c7) (1+n2) ([]++[Value.string T, .slice A q cc, .int .i64 (la:Int)]):=by rw[HZ0.out.1]; exact hG7
     have HN7:Bx ((put s2.fs ⟨j,x.bs,x.la⟩).length=1+n2):=⟨by rw[len_put_new (g:=⟨j,x.bs,x.la⟩) HH6.out.ok.fine.rise (fnd_none HF2.out),HN2.out]; try first | omega | (have:=HZ0.out; omega)⟩
     rw[←HN7.out] at hG7
     obtain⟨r1,r2⟩:=HH6.out.rerow hG7 (by rw[HP2.out]; exact hfl7) HOK2.out
     rw[HN7.out] at r1 r2
     have HD:=Bx.mk (rdid_any r1 HLF.out)
     rw[show pv d = .pointer (some ⟨d,0,none⟩) from rfl] at HD
     have HG8:Bx (Rgo w h (w7.setCell ⟨d,1,none⟩ (.slice (some ⟨g7,0,none⟩) (1+n2) c7)) (tagV h5 (.slice (some ⟨g7,0,none⟩) (1+n2) c7) .row)):=⟨HG6.out.trans r2⟩
     have HT8:=Bx.mk r1.tag
     clear r1 r2 hG7 hfl7
     go_wp2_with fail
     refine HD.out.mono ?_
     rintro e w9 ⟨rfl,hd9,hc9⟩
     go_wp2
     go_ret
     refine⟨by rw[HR.out]; rfl,_,?_,HG8.out.trans ⟨hc9.mono (fun j' _ hj'=>by rw[hj',HT8.out]; exact fun e=>by cases e),fun b hb => .inl hb⟩⟩
     rw[HR.out]
     have h9:Rdk w9 (tagV h5 (.slice (some ⟨g7,0,none⟩) (1+n2) c7) .row) d ⟨s2.room,put s2.fs ⟨j,x.bs,x.la⟩,tick s2.left⟩:=hd9
     rw[HPUT.out] at h9
     exact h9
    ·have HFLS:=Bx.mk hfl
     have HCE:Bx (∀ w',Ch (fun _=>False) w6 w'→∀ q u,us[q]? = some u→w'.cell? ⟨b2,q,none⟩=some u):=⟨fun w' hc q u hu=>hc.cell (p:=⟨b2,q,none⟩) (fun h=>h) (by
      have hl:=hfl.len
      obtain⟨hq,_⟩:=List.getElem?_eq_some_iff.1 hu
      rw[ho.cellAt q (by omega)]
      exact hu)⟩
     have cr6:w6.cell? ⟨d,1,none⟩=some (.slice (some ⟨b2,0,none⟩) n2 c2):=by rw[cr,HN2.out]
     rw[HN2.out] at hnc2
     have hcc9:c2≤9223372036854775807:=by unfold maxLen at hcm2; omega
     clear cr ho hrow hfl hcm2
     by_cases hcap:c2=i2
     ·obtain⟨m,hm⟩:∃ m,n2-i2=m:=⟨_,rfl⟩
      have him:i2+m=n2:=by omega
      have HTK:Bx (Fls w6 h5 (us.take (i2*3)) (s2.fs.take i2)∧Fls w6 h5 (us.drop (i2*3)) (s2.fs.drop i2)∧(us.take (i2*3)).length=i2*3∧(us.drop (i2*3)).length=m*3):=⟨by
       have h1:=HFLS.out.take (i:=i2) (by rw[HN2.out]; omega)
       have h2:=HFLS.out.drop (i:=i2) (by rw[HN2.out]; omega)
       have hl:=HFLS.out.len
       rw[HN2.out] at hl
       exact⟨h1,h2,by rw[List.length_take]; omega,by rw[List.length_drop]; omega⟩⟩
      have HCL:Bx ((∀ u∈us.take (i2*3),u.oneCell'=true)∧∀ u∈us.drop (i2*3),u.oneCell'=true):=⟨fun u hu=>HFLS.out.cells1 u (List.mem_of_mem_take hu),fun u hu=>HFLS.out.cells1 u (List.mem_of_mem_drop hu)⟩
      have HGA:=Bx.mk (gs_fl0 w6 79)
      have HOA:=Bx.mk (fl_set w6 79)
      have cra:=cell_alloc cr6 (.cells #[] 79)
      have HCA:=Bx.mk (HCE.out (w6.alloc (.cells #[] 79)) ((Ch.refl _ w6).alloc _))
      have j0:(0:Int)≤(i2:Int):=by omega
      have j1:(i2:Int)≤(c2:Int):=by omega
      have j3:(i2:Int)≤(n2:Int):=by omega
      have j4:(n2:Int)-(i2:Int)=(m:Int):=by omega
      obtain rfl:m=0:=by omega
      obtain rfl:i2=n2:=by omega
      obtain rfl:i2=c2:=hcap.symm
      have HNIL:Bx (us.drop (i2*3)=[]):=⟨List.eq_nil_of_length_eq_zero (by have:=HTK.out.2.2.2; omega)⟩
      go_wp2_with (at_builtin; refine wp_appK rfl (.tmp 56) (.tmp 62) elemFl rfl rfl HOA.out rfl (m:=i2) HTK.out.2.2.1 (take_cells HCA.out) HCL.out.1 (by omega) (by omega) ?_)
      intro v5 wa ho5 hg5 hb5
      have hG5:=HGA.out.app (m:=i2) (news:=us.take (i2*3)) (Ch.refl _ _) (by first | exact ho5 | simpa using ho5) hg5 (by rw[World.size_alloc]; exact hb5)
      rw[Nat.zero_add,List.nil_append] at hG5
      have HG5:=Bx.mk hG5
      obtain⟨p0,p1,p2⟩:=HPC.out wa hG5.ch
      have HOB1:=Bx.mk (hG5.own.alloc (.cells #[.string T, .slice A q cc, .int .i64 (la:Int)] 79))
      have HCB1:=Bx.mk (fl_cells wa T A q cc la)
      clear ho5 hg5 hb5 hG5 cra
      go_wp2_with (at_builtin; refine wp_appK rfl (.tmp 64) (.tmp 66) elemFl rfl rfl HOB1.out rfl (m:=1) rfl HCB1.out (fl_one _ _ _ _ _) (by omega) (by omega) ?_)
      intro v6 wb ho6 hg6 hb6
      have hG6:=HG5.out.app (m:=1) (news:=[Value.string T, .slice A q cc, .int .i64 (la:Int)]) ((Ch.refl _ wa).alloc _) (by first | exact ho6 | simpa using ho6) hg6 (by rw[World.size_alloc]; exact hb6)
      have HGB:=Bx.mk hG6
      have crb:=hG6.ch.cell (p:=⟨d,1,none⟩) (fun h=>h) cr6
      have HC6:=Bx.mk (HCE.out wb hG6.ch)
      clear ho6 hg6 hb6 hG6 p0 p1 p2
      go_wp2_with (at_builtin; refine wp_appK rfl (.tmp 69) (.tmp 75) elemFl rfl rfl HGB.out.own rfl (m:=0) HTK.out.2.2.2 (nil_cells HNIL.out) HCL.out.2 (by omega) (by omega) ?_)
      intro v7 w7 ho7 hg7 hb7
      have hG7:=HGB.out.app (m:=0) (news:=us.drop (i2*3)) (Ch.refl _ _) (by first | exact ho7 | simpa using ho7) hg7 hb7
      clear ho7 hg7 hb7 crb
      have hfl7:Fls w7 h5 (us.take (i2*3)++[Value.string T, .slice A q cc, .int .i64 (la:Int)]++us.drop (i2*3)) (s2.fs.take i2++⟨j,x.bs,x.la⟩::s2.fs.drop i2):=by
       have e7:s2.fs.take i2++(⟨j,x.bs,x.la⟩:Fl)::s2.fs.drop i2=s2.fs.take i2++[⟨j,x.bs,x.la⟩]++s2.fs.drop i2:=by simp
       rw[e7]
       exact ((HTK.out.1.ch hG7.ch (fun _ _ h=>h)).app (HONE.out w7 hG7.ch)).app (HTK.out.2.1.ch hG7.ch (fun _ _ h=>h))
      have hk1:=hG7.ch.cell (p:=⟨d,1,none⟩) (fun h=>h) cr6
      have hz1:=(hG7.ch.frozen (p:=⟨d,1,none⟩) (fun h=>h) HH6.out.lt_d).trans (HH6.out.zf 1)
      obtain⟨A7,c7,rfl,_,_⟩:=own_shape hG7.own
      have HN7:Bx ((put s2.fs ⟨j,x.bs,x.la⟩).length=i2+1+0):=⟨by rw[len_put_new (g:=⟨j,x.bs,x.la⟩) HH6.out.ok.fine.rise (fnd_none HF2.out),HN2.out]; try first | omega | (have:=HZ0.out; omega)⟩
      rw[←HN7.out] at hG7
      obtain⟨r1,r2⟩:=HH6.out.rerow hG7 (by rw[HP2.out]; exact hfl7) HOK2.out
      rw[HN7.out] at r1 r2
      have HD:=Bx.mk (rdid_any r1 HLF.out)
      rw[show pv d = .pointer (some ⟨d,0,none⟩) from rfl] at HD
      have HG8:Bx (Rgo w h (w7.setCell ⟨d,1,none⟩ (.slice A7 (i2+1+0) c7)) (tagV h5 (.slice A7 (i2+1+0) c7) .row)):=⟨HG6.out.trans r2⟩
      have HT8:=Bx.mk r1.tag
      clear r1 r2 hG7 hfl7
      go_wp2_with fail
      refine HD.out.mono ?_
      rintro e w9 ⟨rfl,hd9,hc9⟩
      go_wp2
      go_ret
      refine⟨by rw[HR.out]; rfl,_,?_,HG8.out.trans ⟨hc9.mono (fun j' _ hj'=>by rw[hj',HT8.out]; exact fun e=>by cases e),fun b hb => .inl hb⟩⟩
      rw[HR.out]
      have h9:Rdk w9 (tagV h5 (.slice A7 (i2+1+0) c7) .row) d ⟨s2.room,put s2.fs ⟨j,x.bs,x.la⟩,tick s2.left⟩:=hd9
      rw[HPUT.out] at h9
      exact h9
     ·obtain⟨m,hm⟩:∃ m,n2-i2=m:=⟨_,rfl⟩
      have him:i2+m=n2:=by omega
      have HTK:Bx (Fls w6 h5 (us.take (i2*3)) (s2.fs.take i2)∧Fls w6 h5 (us.drop (i2*3)) (s2.fs.drop i2)∧(us.take (i2*3)).length=i2*3∧(us.drop (i2*3)).length=m*3):=⟨by
       have h1:=HFLS.out.take (i:=i2) (by rw[HN2.out]; omega)
       have h2:=HFLS.out.drop (i:=i2) (by rw[HN2.out]; omega)
       have hl:=HFLS.out.len
       rw[HN2.out] at hl
       exact⟨h1,h2,by rw[List.length_take]; omega,by rw[List.length_drop]; omega⟩⟩
      have HCL:Bx ((∀ u∈us.take (i2*3),u.oneCell'=true)∧∀ u∈us.drop (i2*3),u.oneCell'=true):=⟨fun u hu=>HFLS.out.cells1 u (List.mem_of_mem_take hu),fun u hu=>HFLS.out.cells1 u (List.mem_of_mem_drop hu)⟩
      have HGA:=Bx.mk (gs_fl0 w6 79)
      have HOA:=Bx.mk (fl_set w6 79)
      have cra:=cell_alloc cr6 (.cells #[] 79)
      have HCA:=Bx.mk (HCE.out (w6.alloc (.cells #[] 79)) ((Ch.refl _ w6).alloc _))
      have j0:(0:Int)≤(i2:Int):=by omega
      have j1:(i2:Int)≤(c2:Int):=by omega
      have j3:(i2:Int)≤(n2:Int):=by omega
      have j4:(n2:Int)-(i2:Int)=(m:Int):=by omega
      have j5:¬ (c2:Int)=(i2:Int):=by omega
      go_wp2_with (at_builtin; refine wp_appK rfl (.tmp 56) (.tmp 62) elemFl rfl rfl HOA.out rfl (m:=i2) HTK.out.2.2.1 (take_cells HCA.out) HCL.out.1 (by omega) (by omega) ?_)
      intro v5 wa ho5 hg5 hb5
      have hG5:=HGA.out.app (m:=i2) (news:=us.take (i2*3)) (Ch.refl _ _) (by first | exact ho5 | simpa using ho5) hg5 (by rw[World.size_alloc]; exact hb5)
      rw[Nat.zero_add,List.nil_append] at hG5
      have HG5:=Bx.mk hG5
      obtain⟨p0,p1,p2⟩:=HPC.out wa hG5.ch
      have HOB1:=Bx.mk (hG5.own.alloc (.cells #[.string T, .slice A q cc, .int .i64 (la:Int)] 79))
      have HCB1:=Bx.mk (fl_cells wa T A q cc la)
      clear ho5 hg5 hb5 hG5 cra
      go_wp2_with (at_builtin; refine wp_appK rfl (.tmp 64) (.tmp 66) elemFl rfl rfl HOB1.out rfl (m:=1) rfl HCB1.out (fl_one _ _ _ _ _) (by omega) (by omega) ?_)
      intro v6 wb ho6 hg6 hb6
      have hG6:=HG5.out.app (m:=1) (news:=[Value.string T, .slice A q cc, .int .i64 (la:Int)]) ((Ch.refl _ wa).alloc _) (by first | exact ho6 | simpa using ho6) hg6 (by rw[World.size_alloc]; exact hb6)
      have HGB:=Bx.mk hG6
      have crb:=hG6.ch.cell (p:=⟨d,1,none⟩) (fun h=>h) cr6
      have HC6:=Bx.mk (HCE.out wb hG6.ch)
      clear ho6 hg6 hb6 hG6 p0 p1 p2
      go_wp2_with (at_builtin; refine wp_appK rfl (.tmp 69) (.tmp 75) elemFl rfl rfl HGB.out.own rfl (m:=m) HTK.out.2.2.2 (drop_cells HC6.out) HCL.out.2 (by omega) (by omega) ?_)
      intro v7 w7 ho7 hg7 hb7
      have hG7:=HGB.out.app (m:=m) (news:=us.drop (i2*3)) (Ch.refl _ _) (by first | exact ho7 | simpa using ho7) hg7 hb7
      clear ho7 hg7 hb7 crb
      have hfl7:Fls w7 h5 (us.take (i2*3)++[Value.string T, .slice A q cc, .int .i64 (la:Int)]++us.drop (i2*3)) (s2.fs.take i2++⟨j,x.bs,x.la⟩::s2.fs.drop i2):=by
       have e7:s2.fs.take i2++(⟨j,x.bs,x.la⟩:Fl)::s2.fs.drop i2=s2.fs.take i2++[⟨j,x.bs,x.la⟩]++s2.fs.drop i2:=by simp
       rw[e7]
       exact ((HTK.out.1.ch hG7.ch (fun _ _ h=>h)).app (HONE.out w7 hG7.ch)).app (HTK.out.2.1.ch hG7.ch (fun _ _ h=>h))
      have hk1:=hG7.ch.cell (p:=⟨d,1,none⟩) (fun h=>h) cr6
      have hz1:=(hG7.ch.frozen (p:=⟨d,1,none⟩) (fun h=>h) HH6.out.lt_d).trans (HH6.out.zf 1)
      obtain⟨A7,c7,rfl,_,_⟩:=own_shape hG7.own
      have HN7:Bx ((put s2.fs ⟨j,x.bs,x.la⟩).length=i2+1+m):=⟨by rw[len_put_new (g:=⟨j,x.bs,x.la⟩) HH6.out.ok.fine.rise (fnd_none HF2.out),HN2.out]; try first | omega | (have:=HZ0.out; omega)⟩
      rw[←HN7.out] at hG7
      obtain⟨r1,r2⟩:=HH6.out.rerow hG7 (by rw[HP2.out]; exact hfl7) HOK2.out
      rw[HN7.out] at r1 r2
      have HD:=Bx.mk (rdid_any r1 HLF.out)
      rw[show pv d = .pointer (some ⟨d,0,none⟩) from rfl] at HD
      have HG8:Bx (Rgo w h (w7.setCell ⟨d,1,none⟩ (.slice A7 (i2+1+m) c7)) (tagV h5 (.slice A7 (i2+1+m) c7) .row)):=⟨HG6.out.trans r2⟩
      have HT8:=Bx.mk r1.tag
      clear r1 r2 hG7 hfl7
      go_wp2_with fail
      refine HD.out.mono ?_
      rintro e w9 ⟨rfl,hd9,hc9⟩
      go_wp2
      go_ret
      refine⟨by rw[HR.out]; rfl,_,?_,HG8.out.trans ⟨hc9.mono (fun j' _ hj'=>by rw[hj',HT8.out]; exact fun e=>by cases e),fun b hb => .inl hb⟩⟩
      rw[HR.out]
      have h9:Rdk w9 (tagV h5 (.slice A7 (i2+1+m) c7) .row) d ⟨s2.room,put s2.fs ⟨j,x.bs,x.la⟩,tick s2.left⟩:=hd9
      rw[HPUT.out] at h9
      exact h9
 ·have HR:Bx (opRen s k j=(m0,s)):=⟨by
   by_cases h:may s k=0
   ·rw[if_neg (by simp[h])] at hm
    rw[ren_err2 h (by rw[hm]; exact h0),hm]
   ·rw[if_pos h] at hm
    rw[ren_err1 h,hm]⟩
  have h0':¬ (m0:Int)=0:=by omega
  clear hm hsn
  go_enter Tryd.func61,Tryd.ntmps61
  go_wp2_with fail
  refine HM.out.mono ?_
  rintro e w1 ⟨rfl,hc1⟩
  go_wp2
  go_ret
  exact⟨by rw[HR.out]; rfl,h,by rw[HR.out]; exact HH.out.keep hc1,Rgo.quiet hc1⟩
end
end Go.Proofs.YtoolcbaipinloaaDoor
