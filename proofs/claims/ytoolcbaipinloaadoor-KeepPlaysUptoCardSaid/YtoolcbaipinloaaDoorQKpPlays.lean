/- Lemmas and contracts of this proof. Conditions: said at each. -/
import Derived.Test.YtoolcbaipinloaaDoorQGKpDev
import Derived.Deep.DeepCutAuto
import Derived.Deep.CutBlock
set_option maxHeartbeats 16000000
set_option maxRecDepth 100000
namespace Go.Proofs.YtoolcbaipinloaaDoor
open Go.RowKit Go.Oct Go.Su Go.Dk Go.Maps Go.Fr
section
variable {F:Nat→Prop}
theorem keepplays_law (l:List Stp) (A:Option Addr) (n c:Nat) (room:Int) (w:World) (ht:O.Tab w) (hz:Stps w F A n l) (hok:∀ s∈l,StpSm s) (hn:n≤1048576) (hr : -9223372036854775808≤room∧room≤9223372036854775807) :
  Calls Tryd.prog 3 #[.int .i64 room, .slice A n c] w (True_ w):=by
 have HT:=Bx.mk ht
 have HHV:=Bx.mk (heavy_any l A n c w hz (fun s hs=>(hok s hs).ok) (by omega))
 have HZ:Bx (Stps w (fun b=>F b∧b<w.heap.size) A n l):=⟨hz.mono (fun b hb hf=>⟨hf,hb⟩)⟩
 have HOK:=Bx.mk hok
 have HK:=Bx.mk (fun w1 hc=>kknown_any w1 (ht.ch (S:=fun _=>False) (w':=w1) hc (fun h=>h)))
 clear ht hz hok
 go_enter Tryd.func3,Tryd.ntmps3
 go_wp2_with fail
 refine HHV.out.mono ?_
 rintro e w0 ⟨o,rfl,hc0⟩
 have HC0:=Bx.mk hc0
 have HK0:=Bx.mk (HK.out w0 hc0)
 clear hc0 HHV
 cases o with
 | true =>
  go_wp2_with fail
  refine HK0.out.mono ?_
  rintro e w1 ⟨rfl,hc1⟩
  have HC1:=Bx.mk (HC0.out.trans hc1 (fun _ _ h=>h))
  clear hc1
  go_wp2
  go_ret
  exact⟨rfl,HC1.out⟩
 | false =>
  by_cases hr0:room<0
  ·have d0:decide (room<0)=true:=decide_eq_true hr0
   go_wp2_with fail
   refine HK0.out.mono ?_
   rintro e w1 ⟨rfl,hc1⟩
   have HC1:=Bx.mk (HC0.out.trans hc1 (fun _ _ h=>h))
   clear hc1
   go_wp2
   go_ret
   exact⟨rfl,HC1.out⟩
  ·obtain⟨R,rfl⟩:∃ R:Nat,room=(R:Int):=⟨room.toNat,by omega⟩
   have d0:decide ((R:Int)<0)=false:=decide_eq_false hr0
   by_cases hr1:1048576<R
   ·have d1:decide ((1048576:Int)<(R:Int))=true:=decide_eq_true (by omega)
    have d1':decide (1048576<R)=true:=decide_eq_true hr1
    go_wp2_with fail
    refine HK0.out.mono ?_
    rintro e w1 ⟨rfl,hc1⟩
    have HC1:=Bx.mk (HC0.out.trans hc1 (fun _ _ h=>h))
    clear hc1
    go_wp2
    go_ret
    exact⟨rfl,HC1.out⟩
   ·have d1:decide ((1048576:Int)<(R:Int))=false:=decide_eq_false (by omega)
    have d1':decide (1048576<R)=false:=decide_eq_false hr1
    have HR:Bx (R≤1048576):=⟨by omega⟩
    have HNW:=Bx.mk (new_any (R:Int) w0 (by omega))
    clear hr0 hr1 hr HK0
    go_wp2_with fail
    refine HNW.out.mono ?_
    rintro e w1 (⟨h1,_,_⟩ | ⟨_,_,S,rfl,hpd,hS,hc1⟩)
    ·have:=HR.out
     omega
    obtain⟨g,mb,ad,hd,hgS⟩:=hpd.open_
    obtain⟨d,hdd⟩:∃ d,w0.heap.size=d:=⟨_,rfl⟩
    rw[hdd] at hd
    have H1:Bx (Stt w w1 d g mb ad ⟨R,[],none⟩):=⟨hd,(HC0.out.mono (fun _ _ h=>h.elim)).trans (hc1.mono (fun _ _ h=>h.elim)) (fun _ _ h=>h),fun b hb=>by have:=hS b (hgS b hb); have:=HC0.out.size; omega⟩
    rw[hdd,show pv d = .pointer (some ⟨d,0,none⟩) from rfl]
    have HNR:=Bx.mk (rnew10_any (R:Int) w1 (by have:=HR.out; omega))
    clear hpd hS hgS hd hc1 hdd HNW
    go_wp2_with fail
    refine HNR.out.mono ?_
    rintro e w2 (⟨h1,_,_⟩ | ⟨_,_,h,rfl,hrd,hrg⟩)
    ·have:=HR.out
     omega
    obtain⟨r,hrr⟩:∃ r,w1.heap.size=r:=⟨_,rfl⟩
    rw[hrr] at hrd
    have H2:Bx (Two w w2 d r g mb ad h ⟨R,[],none⟩ ⟨R,[],none⟩):=⟨by
     have hch:Ch (fun _=>False) w1 w2:=⟨hrg.ch.os,hrg.ch.tape,hrg.ch.output,hrg.ch.size,fun k hk _=>hrg.ch.block k hk (fun e=>e rfl)⟩
     have hnw:∀ b,h b ≠ .no→w1.heap.size≤b:=fun b hb=>by
      rcases hrg.new b hb with h1 | h1
      ·exact absurd rfl h1
      ·exact h1
     exact⟨H1.out.quiet hch,hrd,fun b hb=>by have:=hnw b hb; have:=H1.out.ch.size; omega,fun b hb=>by
      refine rno_of fun h2=>?_
      have:=H1.out.disk.lt b hb
      have:=hnw b h2
      omega⟩⟩
    rw[hrr,show pv r = .pointer (some ⟨r,0,none⟩) from rfl]
    clear hrd hrg hrr HNR H1
    go_wp2_with fail
    go_loopw [9,10,11,12,13,14,15,16,17,18,19,20,21] (fun i _ _ _ _ _ _ _ _ _ _ _ _ wr=>∃ (j:Nat) (g:Nat→Tg) (mb:Option Nat) (ad:Key→Nat) (h:Nat→Rt) (s:Ds),j≤n∧i = .int .i64 j∧Bx (Two w wr d r g mb ad h s s∧s.room≤1048576)) (fun i _ _ _ _ _ _ _ _ _ _ _ _ _=>n-(intOf i).toNat)
    case atStart=>exact⟨0,g,mb,ad,h,_,Nat.zero_le _,rfl,⟨H2.out,HR.out⟩⟩
    case round =>
     obtain⟨j,g,mb,ad,h,s,hj,rfl,hR⟩:=hrel
     have HK2:Bx (∀ w3,Ch (fun _=>False) wr w3→Calls Tryd.prog 8 #[] w3 fun e w'=>e = .returned (.bool true)∧Ch (fun _=>False) w3 w'):=⟨fun w3 hc=>kknown_any w3 ((hR.out.1.quiet hc).p.tab HT.out)⟩
     by_cases hjn:j<n
     ·have dj:decide ((j:Int)<(n:Int))=true:=decide_eq_true (by omega)
      have dj':decide (j<n)=true:=decide_eq_true hjn
      have i2:(j:Int)<(n:Int):=by omega
      by_cases hj8:j<80
      ·have d8:decide ((j:Int)<80)=true:=decide_eq_true (by omega)
       have d8':decide (j<80)=true:=decide_eq_true hj8
       have hzr:=HZ.out.ch hR.out.1.p.ch (fun b hb _ hs=>by omega)
       obtain⟨b,off,x,B,c1,D,c2,E,c3,rfl,hFb,hx,hat⟩:=hzr.get hjn
       have HSM:=Bx.mk (HOK.out x (List.mem_of_getElem? hx.out))
       obtain⟨SN,hSN⟩:∃ S:ByteArray,(⟨x.name.toArray⟩:ByteArray)=S:=⟨_,rfl⟩
       have HKV:Bx (kv x.name = .string SN):=⟨by unfold kv; rw[hSN]⟩
       have HAT:=Bx.mk hat
       have k0:=hat.c0
       have k1:=hat.c1
       have k2:=hat.c2
       have k3:=hat.c3
       have k4:=hat.c4
       have k5:=hat.c5
       rw[HKV.out] at k2
       obtain⟨al,hal⟩:∃ q,x.a.length=q:=⟨_,rfl⟩
       obtain⟨bl,hbl⟩:∃ q,x.b.length=q:=⟨_,rfl⟩
       obtain⟨sl,hsl⟩:∃ q,x.stay.length=q:=⟨_,rfl⟩
       obtain⟨kd,hkd⟩:∃ q,x.kind=q:=⟨_,rfl⟩
       obtain⟨nm,hnm⟩:∃ q,x.num=q:=⟨_,rfl⟩
       rw[hkd] at k0
       rw[hnm] at k1
       rw[hal] at k3
       rw[hbl] at k4
       rw[hsl] at k5
       have HAL:=Bx.mk hal
       have HBL:=Bx.mk hbl
       have HSL:=Bx.mk hsl
       have HKD:=Bx.mk hkd
       have HNM:=Bx.mk hnm
       clear hzr hx hat hSN hal hbl hsl hkd hnm
       go_upto_block 2 with fail
       have HZC:Bx (StpAt (wr.alloc (.cells #[.int .i64 kd, .int .i64 nm, .string SN, .slice B al c1, .slice D bl c2, .slice E sl c3] 35)) (fun b=>F b∧b<w.heap.size) b (off+j*6) x B c1 D c2 E c3):=⟨HAT.out.ch ((Ch.refl (fun _=>False) wr).alloc _) (fun h=>h) (fun _ _ _ h=>h)⟩
       have H3:Bx (Two w (wr.alloc (.cells #[.int .i64 kd, .int .i64 nm, .string SN, .slice B al c1, .slice D bl c2, .slice E sl c3] 35)) d r g mb ad h s s):=⟨hR.out.1.quiet ((Ch.refl (fun _=>False) wr).alloc _)⟩
       have HFR:=Bx.mk (hR.out.1.fresh (.cells #[.int .i64 kd, .int .i64 nm, .string SN, .slice B al c1, .slice D bl c2, .slice E sl c3] 35))
       have q1:=cells_at (w:=wr) (e := 35) (cs:=#[.int .i64 kd, .int .i64 nm, .string SN, .slice B al c1, .slice D bl c2, .slice E sl c3]) (j:=1) (u := .int .i64 nm) rfl
       have q2:=cells_at (w:=wr) (e := 35) (cs:=#[.int .i64 kd, .int .i64 nm, .string SN, .slice B al c1, .slice D bl c2, .slice E sl c3]) (j:=2) (u := .string SN) rfl
       have q3:=cells_at (w:=wr) (e := 35) (cs:=#[.int .i64 kd, .int .i64 nm, .string SN, .slice B al c1, .slice D bl c2, .slice E sl c3]) (j:=3) (u := .slice B al c1) rfl
       have q4:=cells_at (w:=wr) (e := 35) (cs:=#[.int .i64 kd, .int .i64 nm, .string SN, .slice B al c1, .slice D bl c2, .slice E sl c3]) (j:=4) (u := .slice D bl c2) rfl
       have q5:=cells_at (w:=wr) (e := 35) (cs:=#[.int .i64 kd, .int .i64 nm, .string SN, .slice B al c1, .slice D bl c2, .slice E sl c3]) (j:=5) (u := .slice E sl c3) rfl
       have HRM:Bx (s.room≤1048576):=⟨hR.out.2⟩
       clear k0 k1 k2 k3 k4 k5 HAT hR HK2 HK HZ
       generalize wr.alloc (.cells #[.int .i64 kd, .int .i64 nm, .string SN, .slice B al c1, .slice D bl c2, .slice E sl c3] 35)=w4 at HZC H3 HFR q1 q2 q3 q4 q5 ⊢
       generalize wr.heap.size=bx at HFR q1 q2 q3 q4 q5 ⊢
       go_cut [11] (fun s11 wx=>∃ (g:Nat→Tg) (mb:Option Nat) (ad:Key→Nat) (h:Nat→Rt) (s:Ds),s11 = .bool true∧Bx (Two w wx d r g mb ad h s s∧s.room≤1048576))
       case first =>
        by_cases e1:kd=1
        ·subst e1
         have HZA:Bx (Sl w4 (fun b=>F b∧b<w.heap.size) .u8 B al x.a):=⟨by rw[←HAL.out]; exact HZC.out.sa⟩
         have HZB:Bx (Sl w4 (fun b=>F b∧b<w.heap.size) .u8 D bl x.b):=⟨by rw[←HBL.out]; exact HZC.out.sb⟩
         have hal:al≤1048576:=by rw[←HAL.out]; exact HSM.out.a
         have hbl:bl≤1048576:=by rw[←HBL.out]; exact HSM.out.b
         have HSL2:Bx (∀ W,Ch (fun _=>False) w4 W→Sls (W.alloc (.cells #[.slice B al c1, .slice D bl c2] 32)) (fun _=>True) (some ⟨W.heap.size,0,none⟩) 2 [x.a,x.b]):=⟨fun W hc=>by
          have h:=Sls.two (w:=W) (F:=fun _=>True) (G:=fun _=>True) (A:=B) (B:=D) (c:=c1) (d:=c2) (xs:=x.a) (ys:=x.b) 32 ((HZC.out.sa.mono (G:=fun _=>True) (fun _ _ _=>trivial)).ch hc (fun _ _ _ h=>h)) HZC.out.ca.1 HZC.out.ca.2 ((HZC.out.sb.mono (G:=fun _=>True) (fun _ _ _=>trivial)).ch hc (fun _ _ _ h=>h)) HZC.out.cb.1 HZC.out.cb.2 (fun _ _ _=>trivial) trivial
          rw[HAL.out,HBL.out] at h
          exact h⟩
         have HSV:Bx (∀ W a,Ch (fun _=>False) w4 W→Sls W (fun _=>True) (some ⟨a,0,none⟩) 2 [x.a,x.b]→Calls Tryd.prog 11 #[.pointer (some ⟨d,0,none⟩), .string SN, .slice (some ⟨a,0,none⟩) 2 2] W (Post (opSaveL s x.name (x.a++x.b)) d W g)):=⟨fun W a hc hs=>by
          have h:=psave_any (c:=2) (k:=x.name) (H3.out.quiet hc).p.disk ((H3.out.quiet hc).p.tab HT.out) (by have:=HSM.out.name; omega) hs (by omega) (by simp[cat]; have:=HSM.out.a; have:=HSM.out.b; omega) (fun zs hy=>by
           simp at hy
           rcases hy with rfl | rfl
           ·exact HSM.out.ba
           ·exact HSM.out.bb)
          rw[show cat [x.a,x.b]=x.a++x.b by simp[cat],show pv d = .pointer (some ⟨d,0,none⟩) from rfl,HKV.out] at h
          exact h⟩
         have HRS:Bx (∀ W g' mb' ad' A7 c7,Two w W d r g' mb' ad' h (opSaveL s x.name (x.a++x.b)).2 s→Bw w w4.heap.size W g' h (.slice A7 (al+bl) c7) (al+bl) (x.a++x.b)→Calls Tryd.prog 12 #[.pointer (some ⟨r,0,none⟩), .string SN, .slice A7 (al+bl) c7] W (PostR (opSaveL s x.name (x.a++x.b)) r W h)):=⟨fun W g' mb' ad' A7 c7 hT hB=>by
          have h:=rsave_all (cb:=c7) (k:=x.name) hT.q (by have:=HSM.out.name; omega) (Sl.of_own hB.own) (by
           intro z hz
           rcases List.mem_append.1 hz with hz | hz
           ·exact HSM.out.ba z hz
           ·exact HSM.out.bb z hz)
          rw[show pv r = .pointer (some ⟨r,0,none⟩) from rfl,HKV.out] at h
          exact h⟩
         have HCLA:=Bx.mk (ints_cells .u8 x.a)
         have HCLB:=Bx.mk (ints_cells .u8 x.b)
         go_wp2_with fail
         have HSL3:Bx (Sls ((w4.alloc (.cells #[] 5)).alloc (.cells #[.slice B al c1, .slice D bl c2] 32)) (fun _=>True) (some ⟨w4.heap.size+1,0,none⟩) 2 [x.a,x.b]):=⟨by
          have h:=HSL2.out (w4.alloc (.cells #[] 5)) ((Ch.refl _ _).alloc _)
          rw[World.size_alloc] at h
          exact h⟩
         have HN4:Bx (bx<w4.heap.size):=⟨HFR.out.lt⟩
         go_region_held3 (fun w'=>w'.cell? ⟨bx,2,none⟩=some (.string SN)∧w'.cell? ⟨bx,3,none⟩=some (.slice B al c1)∧w'.cell? ⟨bx,4,none⟩=some (.slice D bl c2)) (first | go_keep | exact k5 | exact k6 | exact k7 | exact k8 | exact⟨q2,q3,q4⟩)
          (first
           | (go_at_call 11; refine (HSV.out _ _ (by (repeat (first | with_reducible refine Ch.alloc ?_ _ | with_reducible refine Ch.drew ?_)); exact Ch.refl _ _) (by first | (with_reducible exact (HSL2.out w4 (Ch.refl _ _)).ch ((Ch.refl (fun _=>False) _).drew) (fun _ _ _ h=>h)) | (with_reducible exact (HSL2.out w4 (Ch.refl _ _)).ch (((Ch.refl (fun _=>False) _).alloc _).drew) (fun _ _ _ h=>h)) | (with_reducible exact HSL3.out.ch ((Ch.refl (fun _=>False) _).drew) (fun _ _ _ h=>h)))).mono ?_; rintro e w5 ⟨rfl,g5,mb5,ad5,hd5,hg5⟩; have HCW:=Bx.mk (dgo_ch (S:=fun _=>False) (w0:=w4) hg5 (by (repeat (first | with_reducible refine Ch.alloc ?_ _ | with_reducible refine Ch.drew ?_)); exact Ch.refl _ _)); have HP5:=Bx.mk ((H3.out.quiet HCW.out).left hd5 hg5); have k5:w5.cell? ⟨bx,2,none⟩=some (.string SN)∧w5.cell? ⟨bx,3,none⟩=some (.slice B al c1)∧w5.cell? ⟨bx,4,none⟩=some (.slice D bl c2):=⟨hg5.ch.cell (p:=⟨bx,2,none⟩) (fun h=>h HFR.out.g) (HCW.out.cell (p:=⟨bx,2,none⟩) (fun h=>h) q2),hg5.ch.cell (p:=⟨bx,3,none⟩) (fun h=>h HFR.out.g) (HCW.out.cell (p:=⟨bx,3,none⟩) (fun h=>h) q3),hg5.ch.cell (p:=⟨bx,4,none⟩) (fun h=>h HFR.out.g) (HCW.out.cell (p:=⟨bx,4,none⟩) (fun h=>h) q4)⟩; have HA5:Bx (Sl w5 (fun b=>F b∧b<w.heap.size) .u8 B al x.a):=⟨(HZA.out.ch HCW.out (fun _ _ _ h=>h)).ch hg5.ch (fun b hb _ hs=>by have:=H3.out.p.new b hs; have:=hb.2; omega)⟩; have HB5:Bx (Sl w5 (fun b=>F b∧b<w.heap.size) .u8 D bl x.b):=⟨(HZB.out.ch HCW.out (fun _ _ _ h=>h)).ch hg5.ch (fun b hb _ hs=>by have:=H3.out.p.new b hs; have:=hb.2; omega)⟩; have HN5:Bx (w4.heap.size≤w5.heap.size):=⟨Nat.le_trans HCW.out.size hg5.ch.size⟩; (first | (have HE5:=Bx.mk ((((H3.out.quiet ((Ch.refl (fun _=>False) w4).alloc (.cells #[.slice B al c1, .slice D bl c2] 32))).empty (N:=w4.heap.size) (by simp)).2.keep (w':=((w4.alloc (.cells #[.slice B al c1, .slice D bl c2] 32)).alloc (.cells #[] 5)).drew) ((Ch.refl (fun _=>False) _).drew)).left (by with_reducible exact hg5)); rw[World.size_alloc] at HE5) | (have HE5:=Bx.mk (((H3.out.empty (N:=w4.heap.size) (Nat.le_refl _)).2.keep (w':=((w4.alloc (.cells #[] 5)).alloc (.cells #[.slice B al c1, .slice D bl c2] 32)).drew) (((Ch.refl (fun _=>False) _).alloc (.cells #[.slice B al c1, .slice D bl c2] 32)).drew)).left (by with_reducible exact hg5))) | skip); clear hd5 hg5 HCW)
           | (refine step_app rfl (.tmp 79) (.tmp 81) Tb rfl rfl HE5.out.own rfl HA5.out HCLA.out (by omega) (by omega) ?_; intro v6 w6 ho6 hg6 hb6; obtain⟨hP6,hB6,hc56⟩:=Bw.app HP5.out HE5.out HN5.out ho6 hg6 hb6; have k6:w6.cell? ⟨bx,2,none⟩=some (.string SN)∧w6.cell? ⟨bx,3,none⟩=some (.slice B al c1)∧w6.cell? ⟨bx,4,none⟩=some (.slice D bl c2):=⟨hc56.cell (p:=⟨bx,2,none⟩) (fun h=>absurd HN4.out (Nat.not_lt_of_le h)) k5.1,hc56.cell (p:=⟨bx,3,none⟩) (fun h=>absurd HN4.out (Nat.not_lt_of_le h)) k5.2.1,hc56.cell (p:=⟨bx,4,none⟩) (fun h=>absurd HN4.out (Nat.not_lt_of_le h)) k5.2.2⟩; have HD6:Bx (Sl w6 (fun b=>F b∧b<w.heap.size) .u8 D bl x.b):=⟨HB5.out.ch hc56 (fun b hb _ hs=>by have:=H3.out.size; have:=hb.2; omega)⟩; have HN6:Bx (w4.heap.size≤w6.heap.size):=⟨Nat.le_trans HN5.out hc56.size⟩; rw[Nat.zero_add,List.nil_append] at hB6; have HP6:=Bx.mk hP6; have HB6:=Bx.mk hB6; clear ho6 hg6 hb6 hc56 hP6 hB6)
           | (refine step_app rfl (.tmp 79) (.tmp 81) Tb rfl rfl (own_b0 w5) rfl (HA5.out.ch ((Ch.refl (fun _=>False) w5).alloc _) (fun _ _ _ h=>h)) HCLA.out (by omega) (by omega) ?_; intro v6 w6 ho6 hg6 hb6; obtain⟨hP6,hB6,hc6⟩:=Bw.app (HP5.out.empty HN5.out).1 (HP5.out.empty HN5.out).2 (by have:=HN5.out; simp; omega) ho6 hg6 hb6; have hc56:Ch (fun b=>w4.heap.size≤b) w5 w6:=(((Ch.refl (fun b=>w4.heap.size≤b) w5).alloc _).trans hc6 (fun _ _ h=>h)); have k6:w6.cell? ⟨bx,2,none⟩=some (.string SN)∧w6.cell? ⟨bx,3,none⟩=some (.slice B al c1)∧w6.cell? ⟨bx,4,none⟩=some (.slice D bl c2):=⟨hc56.cell (p:=⟨bx,2,none⟩) (fun h=>absurd HN4.out (Nat.not_lt_of_le h)) k5.1,hc56.cell (p:=⟨bx,3,none⟩) (fun h=>absurd HN4.out (Nat.not_lt_of_le h)) k5.2.1,hc56.cell (p:=⟨bx,4,none⟩) (fun h=>absurd HN4.out (Nat.not_lt_of_le h)) k5.2.2⟩; have HD6:Bx (Sl w6 (fun b=>F b∧b<w.heap.size) .u8 D bl x.b):=⟨HB5.out.ch hc56 (fun b hb _ hs=>by have:=H3.out.size; have:=hb.2; omega)⟩; have HN6:Bx (w4.heap.size≤w6.heap.size):=⟨Nat.le_trans HN5.out hc56.size⟩; rw[Nat.zero_add,List.nil_append] at hB6; have HP6:=Bx.mk hP6; have HB6:=Bx.mk hB6; clear ho6 hg6 hb6 hc6 hc56 hP6 hB6)
           | (refine step_app rfl (.tmp 82) (.tmp 84) Tb rfl rfl HB6.out.own rfl HD6.out HCLB.out (by omega) (by omega) ?_; intro v7 w7 ho7 hg7 hb7; obtain⟨A7,c7,rfl,_,_⟩:=own_shape ho7; obtain⟨hP7,hB7,hc7⟩:=Bw.app HP6.out HB6.out HN6.out ho7 hg7 hb7; have k7:w7.cell? ⟨bx,2,none⟩=some (.string SN)∧w7.cell? ⟨bx,3,none⟩=some (.slice B al c1)∧w7.cell? ⟨bx,4,none⟩=some (.slice D bl c2):=⟨hc7.cell (p:=⟨bx,2,none⟩) (fun h=>absurd HN4.out (Nat.not_lt_of_le h)) k6.1,hc7.cell (p:=⟨bx,3,none⟩) (fun h=>absurd HN4.out (Nat.not_lt_of_le h)) k6.2.1,hc7.cell (p:=⟨bx,4,none⟩) (fun h=>absurd HN4.out (Nat.not_lt_of_le h)) k6.2.2⟩; have HP7:=Bx.mk hP7; have HB7:=Bx.mk hB7; clear ho7 hg7 hb7 hc7 hP7 hB7)
           | (go_at_call 12; refine (HRS.out w7 g5 mb5 ad5 A7 c7 HP7.out HB7.out).mono ?_; rintro e w8 ⟨rfl,h8,hr8,hg8⟩; have HP8:=Bx.mk (HP7.out.right hr8 hg8); have k8:w8.cell? ⟨bx,2,none⟩=some (.string SN)∧w8.cell? ⟨bx,3,none⟩=some (.slice B al c1)∧w8.cell? ⟨bx,4,none⟩=some (.slice D bl c2):=⟨hg8.ch.cell (p:=⟨bx,2,none⟩) (fun hh=>hh HFR.out.h) k7.1,hg8.ch.cell (p:=⟨bx,3,none⟩) (fun hh=>hh HFR.out.h) k7.2.1,hg8.ch.cell (p:=⟨bx,4,none⟩) (fun hh=>hh HFR.out.h) k7.2.2⟩; clear hr8 hg8))
         all_goals
          go_wp2_with fail
          go_meet
          exact⟨g5,mb5,ad5,h8,_,rfl,⟨HP8.out,by rw[opSaveL_room]; exact HRM.out⟩⟩
        have n1:(kd==1)=false:=beq_false_of_ne e1
        by_cases e2:kd=2
        ·subst e2
         have HLP:=Bx.mk (pload_any H3.out.p.disk (H3.out.p.tab HT.out) x.name HRM.out (by have:=HSM.out.name; omega))
         rw[show pv d = .pointer (some ⟨d,0,none⟩) from rfl,HKV.out] at HLP
         obtain⟨P,ec,hPe⟩:∃ P ec,loadF (opRead s x.name)=(P,ec):=⟨_,_,rfl⟩
         have HPE:=Bx.mk hPe
         clear n1 e1 hPe
         go_wp2_with fail
         refine HLP.out.mono ?_
         rintro e w5 ⟨v,he,hf⟩
         rw[HPE.out] at he hf
         have he:e = .returned (.tuple #[v, .int .i64 ec]):=he
         have hf:Fresh w4 v P w5:=hf
         subst he
         obtain⟨A5,c5,rfl,_,_⟩:=own_shape hf.1
         have HX:Bx (Sl w5 (fun b=>(Value.slice A5 P.length c5).ownBlock=some b) .u8 A5 P.length P):=⟨Sl.of_own hf.1⟩
         have H4:=Bx.mk (H3.out.quiet hf.2.2)
         have q2':=hf.2.2.cell (fun h=>h) q2
         have HLR:=Bx.mk (rload_any H4.out.q x.name HRM.out)
         rw[show pv r = .pointer (some ⟨r,0,none⟩) from rfl,HKV.out] at HLR
         have HPL:Bx (P.length≤1048576):=⟨by
          have h1:P=(loadF (opRead s x.name)).1:=by rw[HPE.out]
          rw[h1]
          unfold opRead
          cases hfx:fnd s.fs x.name with
          | none=>exact Nat.zero_le _
          | some f =>
           obtain⟨hm,_⟩:=fnd_some hfx
           have h2:=used_at H3.out.q.ok.fine.rise hm
           have h3:=H3.out.q.ok.used
           have h4:=HRM.out
           show (loadF (some f.bs)).1.length≤_
           have h5:=oneF_le f.bs
           have h6:loadF (some f.bs)=if (oneF f.bs).2≠0 then ([],3) else ((oneF f.bs).1,0):=rfl
           rw[h6]
           split
           ·exact Nat.zero_le _
           ·show (oneF f.bs).1.length≤_
            omega⟩
         obtain⟨pl,hpl⟩:∃ q,P.length=q:=⟨_,rfl⟩
         rw[hpl] at HX HPL ⊢
         have HPN:=Bx.mk hpl
         clear hf q2 HLP hpl
         go_wp2_with fail
         refine HLR.out.mono ?_
         rintro e w6 ⟨v,he,hf⟩
         rw[HPE.out] at he hf
         have he:e = .returned (.tuple #[v, .int .i64 ec]):=he
         have hf:Fresh w5 v P w6:=hf
         subst he
         obtain⟨A6,c6,rfl,_,_⟩:=own_shape hf.1
         have HY:Bx (Sl w6 (fun b=>(Value.slice A6 P.length c6).ownBlock=some b) .u8 A6 P.length P):=⟨Sl.of_own hf.1⟩
         have H5:=Bx.mk (H4.out.quiet hf.2.2)
         have HX6:=Bx.mk (HX.out.ch hf.2.2 (fun _ _ _ h=>h))
         rw[HPN.out] at HY ⊢
         clear hf H4 HX HLR q2'
         have HSA:=Bx.mk (same_any A5 A6 pl pl c5 c6 P P _ _ w6 (by have:=HPL.out; omega) (by have:=HPL.out; omega) HX6.out HY.out)
         rw[show decide (P=P)=true by simp] at HSA
         have hec:(ec==ec)=true:=by simp
         go_wp2_with fail
         refine HSA.out.mono ?_
         rintro e w7 ⟨rfl,q7,rfl⟩
         have H6:=Bx.mk (H5.out.quiet ((Ch.refl (fun _=>False) w6).drewN q7))
         clear HSA H5 HX6 HY
         go_wp2_with fail
         go_meet
         exact⟨g,mb,ad,h,s,rfl,⟨H6.out,HRM.out⟩⟩
        have n2:(kd==2)=false:=beq_false_of_ne e2
        by_cases e3:kd=3
        ·subst e3
         have HKS:Bx (Kss w4 (fun b=>F b∧b<w.heap.size) E sl x.stay):=⟨by rw[←HSL.out]; exact HZC.out.ss⟩
         have HCL:Bx (∀ W,Ch (fun _=>False) w4 W→Calls Tryd.prog 16 #[.pointer (some ⟨d,0,none⟩), .string SN, .slice E sl c3] W (Post (opClear s x.name x.stay) d W g)):=⟨fun W hc=>by
          have h:=pclear_any (c:=c3) (H3.out.quiet hc).p.disk x.name (HKS.out.ch hc (fun _ _ _ h=>h)) (by have:=HSM.out.stay; rw[HSL.out] at this; omega)
          rw[show pv d = .pointer (some ⟨d,0,none⟩) from rfl,HKV.out] at h
          exact h⟩
         have HCR:Bx (∀ W g' mb' ad',Two w W d r g' mb' ad' h (opClear s x.name x.stay).2 s→Kss W (fun b=>F b∧b<w.heap.size) E sl x.stay→Calls Tryd.prog 17 #[.pointer (some ⟨r,0,none⟩), .string SN, .slice E sl c3] W (PostR (opClear s x.name x.stay) r W h)):=⟨fun W g' mb' ad' hT hK=>by
          have h:=rclear_any (c:=c3) hT.q x.name hK (by have:=HSM.out.stay; rw[HSL.out] at this; omega) (fun b hb=>⟨rno_of fun h2=>by have:=hT.new b h2; have:=hb.2; omega,by have:=hT.size; have:=hb.2; omega⟩)
          rw[show pv r = .pointer (some ⟨r,0,none⟩) from rfl,HKV.out] at h
          exact h⟩
         clear n1 n2 e1 e2
         go_wp2_with fail
         go_region_held3 (fun w'=>w'.cell? ⟨bx,2,none⟩=some (.string SN)∧w'.cell? ⟨bx,5,none⟩=some (.slice E sl c3)) (first | go_keep | exact⟨s5a,s5b⟩ | exact⟨q2,q5⟩ | exact⟨s6a,s6b⟩)
          (first
           | (go_at_call 16; refine (HCL.out _ ((Ch.refl (fun _=>False) w4).drew)).mono ?_; rintro e w5 ⟨rfl,g5,mb5,ad5,hd5,hg5⟩; have HP5:=Bx.mk ((H3.out.quiet ((Ch.refl (fun _=>False) w4).drew)).left hd5 hg5); have s5a:=hg5.ch.cell (p:=⟨bx,2,none⟩) (fun h=>h HFR.out.g) ((Ch.refl (fun _=>False) w4).drew.cell (p:=⟨bx,2,none⟩) (fun h=>h) q2); have s5b:=hg5.ch.cell (p:=⟨bx,5,none⟩) (fun h=>h HFR.out.g) ((Ch.refl (fun _=>False) w4).drew.cell (p:=⟨bx,5,none⟩) (fun h=>h) q5); have HK5:Bx (Kss w5 (fun b=>F b∧b<w.heap.size) E sl x.stay):=⟨(HKS.out.ch ((Ch.refl (fun _=>False) w4).drew) (fun _ _ _ h=>h)).ch hg5.ch (fun b hb _ hs=>by have:=H3.out.p.new b hs; have:=hb.2; omega)⟩; clear hd5 hg5)
           | (go_at_call 17; refine (HCR.out w5 g5 mb5 ad5 HP5.out HK5.out).mono ?_; rintro e w6 ⟨rfl,h6,hr6,hg6⟩; have HP6:=Bx.mk (HP5.out.right hr6 hg6); have s6a:=hg6.ch.cell (p:=⟨bx,2,none⟩) (fun hh=>hh HFR.out.h) s5a; have s6b:=hg6.ch.cell (p:=⟨bx,5,none⟩) (fun hh=>hh HFR.out.h) s5b; clear hr6 hg6))
         all_goals
          go_wp2_with fail
          go_meet
          exact⟨g5,mb5,ad5,h6,_,rfl,⟨HP6.out,by rw[opClear_room]; exact HRM.out⟩⟩
        have n3:(kd==3)=false:=beq_false_of_ne e3
        by_cases e4:kd=4
        ·subst e4
         have HCR:=Bx.mk (crash_any H3.out.p.disk nm (by have:=HSM.out.num; rw[HNM.out] at this; exact this))
         rw[show pv d = .pointer (some ⟨d,0,none⟩) from rfl] at HCR
         clear n1 n2 n3 e1 e2 e3
         go_wp2_with fail
         refine HCR.out.mono ?_
         rintro e w5 ⟨rfl,hd5,hc5⟩
         have q1':=hc5.cell (p:=⟨bx,1,none⟩) (fun h=>h HFR.out.g) q1
         have H4:=Bx.mk (H3.out.leftc hd5 hc5)
         have HRC:=Bx.mk (rcrash_any H4.out.q nm (by have:=HSM.out.num; rw[HNM.out] at this; exact this))
         rw[show pv r = .pointer (some ⟨r,0,none⟩) from rfl] at HRC
         clear hd5 hc5 q1 HCR
         go_wp2_with fail
         refine HRC.out.mono ?_
         rintro e w6 ⟨rfl,h6,hr6,hg6⟩
         have H5:=Bx.mk (H4.out.right hr6 hg6)
         clear hr6 hg6 HRC H4
         go_wp2_with fail
         go_meet
         exact⟨g,mb,ad,h6,_,rfl,⟨H5.out,HRM.out⟩⟩
        have n4:(kd==4)=false:=beq_false_of_ne e4
        by_cases e5:kd=5
        ·subst e5
         have HCR:=Bx.mk (fuse_any H3.out.p.disk nm (by have:=HSM.out.num; rw[HNM.out] at this; exact this.2))
         rw[show pv d = .pointer (some ⟨d,0,none⟩) from rfl] at HCR
         clear n1 n2 n3 n4 e1 e2 e3 e4
         go_wp2_with fail
         refine HCR.out.mono ?_
         rintro e w5 ⟨rfl,hd5,hc5⟩
         have q1':=hc5.cell (p:=⟨bx,1,none⟩) (fun (h:bx=d)=>by have h1:=HFR.out.g; rw[h,H3.out.p.disk.tag] at h1; cases h1) q1
         have H4:=Bx.mk (H3.out.leftc hd5 (hc5.mono (fun b _ (hb:b=d)=>by rw[hb,H3.out.p.disk.tag]; exact fun e=>by cases e)))
         have HRC:=Bx.mk (rfuse_any H4.out.q nm (by have:=HSM.out.num; rw[HNM.out] at this; exact this.2))
         rw[show pv r = .pointer (some ⟨r,0,none⟩) from rfl] at HRC
         clear hd5 hc5 q1 HCR
         go_wp2_with fail
         refine HRC.out.mono ?_
         rintro e w6 ⟨rfl,hr6,hc6⟩
         have H5:=Bx.mk (H4.out.right hr6 ⟨hc6.mono (fun b _ (hb:b=r)=>by rw[hb,H4.out.q.tag]; exact fun e=>by cases e),fun b hb => .inl hb⟩)
         clear hr6 hc6 HRC H4
         go_wp2_with fail
         go_meet
         exact⟨g,mb,ad,h,_,rfl,⟨H5.out,HRM.out⟩⟩
        have n5:(kd==5)=false:=beq_false_of_ne e5
        by_cases e6:kd=6
        ·subst e6
         have HZA:Bx (Sl w4 (fun b=>F b∧b<w.heap.size) .u8 B al x.a):=⟨by rw[←HAL.out]; exact HZC.out.sa⟩
         have HPA:Bx (∀ W,Ch (fun _=>False) w4 W→Calls Tryd.prog 22 #[.pointer (some ⟨d,0,none⟩), .string SN, .slice (some ⟨W.heap.size,0,none⟩) 1 1] (W.alloc (.cells #[.slice B al c1] 32)) (Post (opApp s x.name x.a) d W g)):=⟨fun W hc=>by
          have h:=append1_any (cb:=c1) (k:=x.name) (F:=fun b=>F b∧b<w.heap.size) (H3.out.quiet hc).p.disk (by have:=HSM.out.name; omega) (HZC.out.sa.ch hc (fun _ _ _ h=>h)) HZC.out.ca.1 HZC.out.ca.2 (fun b _ hb=>H3.out.p.no hb.2) HSM.out.ba
          rw[show pv d = .pointer (some ⟨d,0,none⟩) from rfl,HKV.out,HAL.out] at h
          exact h⟩
         have HRA:Bx (∀ W g' mb' ad',Two w W d r g' mb' ad' h (opApp s x.name x.a).2 s→Sl W (fun b=>F b∧b<w.heap.size) .u8 B al x.a→Calls Tryd.prog 23 #[.pointer (some ⟨r,0,none⟩), .string SN, .slice B al c1] W (PostR (opApp s x.name x.a) r W h)):=⟨fun W g' mb' ad' hT hS=>by
          have h:=rapp_any (cb:=c1) (k:=x.name) hT.q (by have:=HSM.out.name; omega) hS (by have:=HSM.out.a; rw[HAL.out] at this; omega) (fun b hb=>rno_of fun h2=>by have:=hT.new b h2; have:=hb.2; omega) HSM.out.ba
          rw[show pv r = .pointer (some ⟨r,0,none⟩) from rfl,HKV.out] at h
          exact h⟩
         clear n1 n2 n3 n4 n5 e1 e2 e3 e4 e5
         go_wp2_with fail
         go_region_held3 (fun w'=>w'.cell? ⟨bx,2,none⟩=some (.string SN)∧w'.cell? ⟨bx,3,none⟩=some (.slice B al c1)) (first | go_keep | exact⟨s5a,s5b⟩ | exact⟨q2,q3⟩ | exact⟨s6a,s6b⟩)
          (first
           | (go_at_call 22; refine (HPA.out _ ((Ch.refl (fun _=>False) w4).drew)).mono ?_; rintro e w5 ⟨rfl,g5,mb5,ad5,hd5,hg5⟩; have HP5:=Bx.mk ((H3.out.quiet ((Ch.refl (fun _=>False) w4).drew)).left hd5 hg5); have s5a:=hg5.ch.cell (p:=⟨bx,2,none⟩) (fun h=>h HFR.out.g) ((Ch.refl (fun _=>False) w4).drew.cell (p:=⟨bx,2,none⟩) (fun h=>h) q2); have s5b:=hg5.ch.cell (p:=⟨bx,3,none⟩) (fun h=>h HFR.out.g) ((Ch.refl (fun _=>False) w4).drew.cell (p:=⟨bx,3,none⟩) (fun h=>h) q3); have HA5:Bx (Sl w5 (fun b=>F b∧b<w.heap.size) .u8 B al x.a):=⟨(HZA.out.ch ((Ch.refl (fun _=>False) w4).drew) (fun _ _ _ h=>h)).ch hg5.ch (fun b hb _ hs=>by have:=H3.out.p.new b hs; have:=hb.2; omega)⟩; clear hd5 hg5)
           | (go_at_call 23; refine (HRA.out w5 g5 mb5 ad5 HP5.out HA5.out).mono ?_; rintro e w6 ⟨rfl,h6,hr6,hg6⟩; have HP6:=Bx.mk (HP5.out.right hr6 hg6); have s6a:=hg6.ch.cell (p:=⟨bx,2,none⟩) (fun hh=>hh HFR.out.h) s5a; have s6b:=hg6.ch.cell (p:=⟨bx,3,none⟩) (fun hh=>hh HFR.out.h) s5b; clear hr6 hg6))
         all_goals
          go_wp2_with fail
          go_meet
          exact⟨g5,mb5,ad5,h6,_,rfl,⟨HP6.out,by rw[app_room]; exact HRM.out⟩⟩
        have n6:(kd==6)=false:=beq_false_of_ne e6
        clear e1 e2 e3 e4 e5 e6
        go_wp2_with fail
        go_meet
        exact⟨g,mb,ad,h,s,rfl,⟨H3.out,HRM.out⟩⟩
       case rest =>
        clear HZC H3 HFR q1 q2 q3 q4 q5 HRM HSM HAL HBL HSL HKD HNM HKV
        obtain⟨g,mb,ad,h,s,rfl,hT⟩:=hcut
        have HLN:=Bx.mk (rlist_any hT.out.1.q)
        rw[show pv r = .pointer (some ⟨r,0,none⟩) from rfl] at HLN
        go_wp2_with fail
        refine HLN.out.mono ?_
        rintro e w5 ⟨A5,m,c5,rfl,hg5,hnc,hcm⟩
        have H5:=Bx.mk (hT.out.1.quiet hg5.ch)
        have HN5:Bx (Kss w5 (fun _=>True) A5 m (nms s.fs)):=⟨hg5.vs.mono (fun _ _ _=>trivial)⟩
        have hm9:m≤9223372036854775806:=by have:=hg5.own.1; have:=hT.out.1.q.ok.most; unfold nms at *; simp at *; omega
        have HLP:=Bx.mk (list_any H5.out.p.disk)
        rw[show pv d = .pointer (some ⟨d,0,none⟩) from rfl] at HLP
        clear hg5 hnc hcm HLN
        go_wp2_with fail
        refine HLP.out.mono ?_
        rintro e w6 ⟨A6,m6,c6,rfl,hg6,hnc,hcm⟩
        have H6:=Bx.mk (H5.out.quiet hg6.ch)
        have HN6:=Bx.mk (HN5.out.ch hg6.ch (fun _ _ _ h=>h))
        have hm69:m6≤9223372036854775806:=by have:=hg6.own.1; have:=hT.out.1.q.ok.most; unfold nms at *; simp at *; omega
        have HTX:=Bx.mk (lawtexts_any (nms s.fs) (nms s.fs) A6 A5 m6 m c6 c5 w6 (show Kss w6 _ A6 m6 (nms s.fs) from hg6.vs) HN6.out hm69 true (by simp))
        clear hg6 hnc hcm HLP H5 HN5
        go_wp2_with fail
        refine HTX.out.mono ?_
        rintro e w7 ⟨rfl,q7,rfl⟩
        have H7:=Bx.mk (H6.out.quiet ((Ch.refl (fun _=>False) w6).drewN q7))
        have HN7:=Bx.mk (HN6.out.ch ((Ch.refl (fun _=>False) w6).drewN q7) (fun _ _ _ h=>h))
        clear H6 HN6 HTX
        generalize w6.drewN q7=w7 at H7 HN7 ⊢
        go_wp2_with fail
        go_loopw [17,18,19,20,21] (fun kv _ _ _ _ wr=>∃ q:Nat,q≤m∧kv = .int .i64 q∧Bx (Ch (fun _=>False) w7 wr)) (fun kv _ _ _ _ _=>m-(intOf kv).toNat)
        case atStart=>exact⟨0,Nat.zero_le _,rfl,⟨Ch.refl _ _⟩⟩
        case round =>
         obtain⟨q,hq,rfl,hC⟩:=hrel
         obtain⟨wo,rfl⟩:∃ wo:World,wo=wr:=⟨_,rfl⟩
         have H8:=Bx.mk (H7.out.quiet hC.out)
         by_cases hqm:q<m
         ·have dq:decide ((q:Int)<(m:Int))=true:=decide_eq_true (by omega)
          have dq':decide (q<m)=true:=decide_eq_true hqm
          have iq:(q:Int)<(m:Int):=by omega
          obtain⟨bt,ot,t,rfl,_,ht,hcell⟩:=(HN7.out.ch hC.out (fun _ _ _ h=>h)).at_ hqm
          have HTL:Bx (t.length≤9223372036854775807):=⟨by have:=nms_len64 H8.out.q.ok (List.mem_of_getElem? ht.out); omega⟩
          obtain⟨P,hP⟩:∃ P,(opRead s t).getD []=P:=⟨_,rfl⟩
          have HPL:Bx (P.length≤1048576):=⟨by rw[←hP]; exact Nat.le_trans (read_len H8.out.q.ok t) hT.out.2⟩
          have HPP:=Bx.mk hP
          obtain⟨TB,htb⟩:∃ S,(⟨t.toArray⟩:ByteArray)=S:=⟨_,rfl⟩
          have HTV:Bx (kv t = .string TB):=⟨by unfold kv; rw[htb]⟩
          rw[HTV.out] at hcell
          have HRP:=Bx.mk (read_any H8.out.p.disk HTL.out)
          rw[show pv d = .pointer (some ⟨d,0,none⟩) from rfl,HTV.out] at HRP
          clear ht hP htb
          go_wp2_with fail
          refine HRP.out.mono ?_
          rintro e w8 hro
          obtain⟨v8,ec8,rfl,hf8⟩:=hro.fresh
          rw[HPP.out] at hf8
          obtain⟨A8,c8,rfl,_,_⟩:=own_shape hf8.1
          have HX8:Bx (Sl w8 (fun b=>(Value.slice A8 P.length c8).ownBlock=some b) .u8 A8 P.length P):=⟨Sl.of_own hf8.1⟩
          have H9:=Bx.mk (H8.out.quiet hf8.2.2)
          have hcell9:=hf8.2.2.cell (p:=⟨bt,ot+q,none⟩) (fun h=>h) hcell
          have HC9:=Bx.mk (hC.out.trans hf8.2.2 (fun _ _ h=>h))
          obtain⟨pl,hpl⟩:∃ z,P.length=z:=⟨_,rfl⟩
          have HPN:=Bx.mk hpl
          rw[hpl] at HX8 HPL ⊢
          have HRR:=Bx.mk (rread_any H9.out.q t)
          rw[show pv r = .pointer (some ⟨r,0,none⟩) from rfl,HTV.out] at HRR
          clear hro hf8 hpl hcell HRP H8 hC
          go_wp2_with fail
          refine HRR.out.mono ?_
          rintro e w9 hro
          obtain⟨v9,ec9,rfl,hf9⟩:=hro.fresh
          rw[HPP.out] at hf9
          obtain⟨A9,c9,rfl,_,_⟩:=own_shape hf9.1
          have HY9:Bx (Sl w9 (fun b=>(Value.slice A9 P.length c9).ownBlock=some b) .u8 A9 P.length P):=⟨Sl.of_own hf9.1⟩
          have HX9:=Bx.mk (HX8.out.ch hf9.2.2 (fun _ _ _ h=>h))
          have HC10:=Bx.mk (HC9.out.trans hf9.2.2 (fun _ _ h=>h))
          rw[HPN.out] at HY9 ⊢
          have HSA:=Bx.mk (same_any A8 A9 pl pl c8 c9 P P _ _ w9 (by have:=HPL.out; omega) (by have:=HPL.out; omega) HX9.out HY9.out)
          rw[show decide (P=P)=true by simp] at HSA
          clear hro hf9 hcell9 HRR H9 HC9 HX8
          go_wp2_with fail
          refine HSA.out.mono ?_
          rintro e w10 ⟨rfl,q10,rfl⟩
          have HC11:=Bx.mk (HC10.out.drewN q10)
          clear HSA HX9 HY9 HC10
          go_wp2_with fail
          go_roundw
          case rel=>exact⟨q+1,by omega,by go_num,HC11⟩
          case measure=>simp[intOf]; omega
         ·obtain rfl:q=m:=by omega
          have dq:decide ((q:Int)<(q:Int))=false:=decide_eq_false (by omega)
          have dq':decide (q<q)=false:=decide_eq_false (by omega)
          have HRM:=Bx.mk hT.out.2
          clear H7 HN7 hC hT
          go_wp2_with fail
          go_roundw
          case rel=>exact⟨j+1,g,mb,ad,h,s,by omega,by go_num,⟨H8.out,HRM.out⟩⟩
          case measure=>simp[intOf]; omega
      ·have d8:decide ((j:Int)<80)=false:=decide_eq_false (by omega)
       have d8':decide (j<80)=false:=decide_eq_false hj8
       have HKN:=Bx.mk (HK2.out wr (Ch.refl _ _))
       clear HK HZ HK2
       go_wp2_with fail
       refine HKN.out.mono ?_
       rintro e w7 ⟨rfl,hc7⟩
       have H9:=Bx.mk (hR.out.1.quiet hc7)
       clear hc7 hR HKN
       go_wp2
       go_ret
       exact⟨rfl,H9.out.p.done⟩
     ·obtain rfl:j=n:=by omega
      have dj:decide ((j:Int)<(j:Int))=false:=decide_eq_false (by omega)
      have dj':decide (j<j)=false:=decide_eq_false (by omega)
      have HKN:=Bx.mk (HK2.out wr (Ch.refl _ _))
      clear HK HZ HK2
      go_wp2_with fail
      refine HKN.out.mono ?_
      rintro e w7 ⟨rfl,hc7⟩
      have H9:=Bx.mk (hR.out.1.quiet hc7)
      clear hc7 hR HKN
      go_wp2
      go_ret
      exact⟨rfl,H9.out.p.done⟩
end
end Go.Proofs.YtoolcbaipinloaaDoor
