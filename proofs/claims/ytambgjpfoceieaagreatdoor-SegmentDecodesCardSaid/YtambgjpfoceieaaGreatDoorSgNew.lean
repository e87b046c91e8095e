/- Lemmas and contracts of this proof. Conditions: said at each. -/
import Derived.Test.YtambgjpfoceieaaGreatDoorGSgBody
import Derived.StringKeys
set_option maxHeartbeats 4000000
set_option maxRecDepth 100000
namespace Go.Proofs.YtambgjpfoceieaaGreatDoor
open Go.RowKit Go.Oct Go.Su Go.Sg Go.Fr Go.Mp
/-! ### a map beside a row -/
theorem not_both {P:Program} {K:TypeId} {w:World} {mb n m s:Nat} {f:Lit→Option Value} {e:TypeId} {v:Value} {us:List Value} (hm:Mp P K w mb n f) (ho:w.ownsRow 0 e s v m us):v.ownBlock≠some mb:=fun h=>by
 obtain⟨es,c,h1⟩:=hm.isMap
 rcases ho.2 with ⟨rfl,_⟩ | ⟨g,cap,cur,rfl,_,h2,_⟩
 ·simp[Value.ownBlock] at h
 ·simp[Value.ownBlock] at h
  subst h
  rw[h1] at h2
  simp at h2
theorem Mp.grown {P:Program} {K:TypeId} {wr wm w2:World} {mb n m s:Nat} {f:Lit→Option Value} {e:TypeId} {v:Value} {us:List Value} (hm:Mp P K wr mb n f) (ho:wr.ownsRow 0 e s v m us) (hc:Ch (fun _=>False) wr wm) (hg:wm.grownBy w2 v.ownBlock):Mp P K w2 mb n f :=
 hm.ch (S:=fun k=>v.ownBlock=some k) (((Ch.refl _ wr).trans hc (fun _ _ h=>h.elim)).grown hg (fun _ h => .inl h)) (not_both hm ho)
theorem Gs.mapped {P:Program} {K:TypeId} {e:TypeId} {s mb n q:Nat} {w wr w':World} {v:Value} {us:List Value} {f:Lit→Option Value} (h:Gs e s w wr v n us) (hm:Mp P K wr mb q f) (hc:Ch (fun g=>g=mb) wr w') (hmb:w.heap.size≤mb):Gs e s w w' v n us :=
 ⟨hc.own h.own (fun g hg e=>not_both hm h.own (e ▸ hg)),h.lies,h.ch.trans hc (fun i hi e=>by omega)⟩
def TM (w:World) (F:Nat→Prop) (docs:List Dc) (k:Nat) (f:Lit→Option Value):Prop:=∀ key,key∈ks (docs.take k)→∃ d∈docs,d.1=key∧∃ B c,f (.string key)=some (.slice B d.2.length c)∧Sl w F .u8 B d.2.length d.2∧d.2.length≤c∧c≤maxLen
theorem TM.more {w:World} {F:Nat→Prop} {docs:List Dc} {k:Nat} {f:Lit→Option Value} (h:TM w F docs k f) {d:Dc} (hd:docs[k]? = some d) {B:Option Addr} {c:Nat} (hs:Sl w F .u8 B d.2.length d.2) (h1:d.2.length≤c) (h2:c≤maxLen):TM w F docs (k+1) (put f (.string d.1) (.slice B d.2.length c)):=by
 intro key hk
 unfold put
 by_cases he:key=d.1
 ·subst he
  exact⟨d,List.mem_of_getElem? hd,rfl,B,c,by rw[if_pos rfl],hs,h1,h2⟩
 ·rw[ks_take hd] at hk
  rcases List.mem_append.1 hk with hk | hk
  ·obtain⟨d',hd',e,B',c',hf,r⟩:=h key hk
   exact⟨d',hd',e,B',c',by rw[if_neg (fun h=>he (by injection h))]; exact hf,r⟩
  ·simp at hk
   exact absurd hk he
structure Lite (docs:List Dc) (gone:List Key):Prop where
 n:docs.length≤10000
 m:gone.length≤10000
 b:beg (ts docs) docs.length≤60000
 k:((ks docs).flatMap kB).length≤100000
 g:(gone.flatMap kB).length≤100000
def RNewOf (docs:List Dc) (gone:List Key) (w:World) (e:Ending) (w':World):Prop:=∃ (ec:Int) (ds:List Dc) (gs:List Key),NewRes docs gone ec ds gs∧Ch (fun _=>False) w w' ∧
 ((ec≠0∧e = .returned (.tuple #[.pointer none, .int .i64 ec]))∨(ec=0∧∃ b:Nat,e = .returned (.tuple #[.pointer (some ⟨b,0,none⟩), .int .i64 0])∧Rs w' (fun k=>w.heap.size≤k) b ds gs))
theorem RNewOf.arg {docs:List Dc} {gone:List Key} {w w':World} (h:¬ ArgOk docs gone) (hc:Ch (fun _=>False) w w'):RNewOf docs gone w (.returned (.tuple #[.pointer none, .int .i64 1])) w':=⟨1,[],[], .inl ⟨h,rfl⟩,hc, .inl ⟨by omega,rfl⟩⟩
def CkTo (l:List Key) (k:Nat):Prop:=(∀ j a,j<k→l[j]? = some a→okK a)∧(∀ j a b,j+1<k→l[j]? = some a→l[j+1]? = some b→a≠b)
theorem CkTo.zero (l:List Key):CkTo l 0:=⟨fun j a h=>by omega,fun j a b h=>by omega⟩
theorem CkTo.next {l:List Key} {k:Nat} (h:CkTo l k) {a:Key} (ha:l[k]? = some a) (ho:okK a) (hb:∀ b,0<k→l[k-1]? = some b→b≠a):CkTo l (k+1):=by
 refine⟨fun j x hj hx=>?_,fun j x y hj hx hy=>?_⟩
 ·by_cases hjk:j<k
  ·exact h.1 j x hjk hx
  ·obtain rfl:j=k:=by omega
   rw[ha] at hx
   injection hx with hx
   exact hx ▸ ho
 ·by_cases hjk:j+1<k
  ·exact h.2 j x y hjk hx hy
  ·obtain rfl:k=j+1:=by omega
   rw[ha] at hy
   injection hy with hy
   exact hy ▸ hb x (by omega) hx
theorem argok_iff {docs:List Dc} {gone m1 m2 m3:List Key} (h1:m1.Perm (ks docs)) (h2:m2.Perm gone) (h3:m3.Perm (m1++m2)) (hs:Srt m3):ArgOk docs gone↔CkTo m3 m3.length:=by
 have hp:m3.Perm (ks docs++gone):=h3.trans (h1.append h2)
 constructor
 ·intro h
  have hr:Rise m3:=hs.rise (hp.nodup_iff.2 h.2)
  exact⟨fun j a _ ha=>h.1 a (hp.mem_iff.1 (List.mem_of_getElem? ha)),fun j a b _ ha hb=>(srt_adj hs).1 hr j a b ha hb⟩
 ·intro h
  refine⟨fun k hk=>?_,hp.nodup_iff.1 ?_⟩
  ·obtain⟨j,hj,rfl⟩:=List.mem_iff_getElem.1 (hp.mem_iff.2 hk)
   exact h.1 j _ hj (List.getElem?_eq_getElem hj)
  ·exact ((srt_adj hs).2 fun i a b ha hb=>h.2 i a b (List.getElem?_eq_some_iff.1 hb).1 ha hb).nodup
theorem ck_bad {l:List Key} {k:Nat} {a:Key} (ha:l[k]? = some a) (ho:¬ okK a):¬ CkTo l l.length:=fun h=>ho (h.1 k a (List.getElem?_eq_some_iff.1 ha).1 ha)
theorem ck_twice {l:List Key} {k:Nat} {a:Key} (ha:l[k]? = some a) (hb:l[k-1]? = some a) (h0:0<k):¬ CkTo l l.length:=fun h=>h.2 (k-1) a a (by have:=(List.getElem?_eq_some_iff.1 ha).1; omega) hb (by rw[show k-1+1=k by omega]; exact ha) rfl
theorem key_val (k:Key) (w:World) (hk:k.length≤9223372036854775807) (o:Bool) (ho:decide (okK k)=o) {S:ByteArray} (hS:kv k = .string S) (q:Nat):Calls Tryz.prog 51 #[.string S] (w.drewN q) fun e w'=>e = .returned (.bool o)∧∃ q,w'=w.drewN q:=by
 rw[←hS]
 exact (key_any k (w.drewN q) hk o ho).mono fun e w' h=>⟨h.1,q,h.2.symm⟩
theorem tm_of {w:World} {F:Nat→Prop} {docs ds:List Dc} {f:Lit→Option Value} (h:TM w F docs docs.length f) (hn:(ks docs).Nodup) (hp:ds.Perm docs):∀ (k:Nat) (d:Dc),ds[k]? = some d→∃ B c,f (.string d.1)=some (.slice B d.2.length c)∧Sl w F .u8 B d.2.length d.2∧d.2.length≤c∧c≤maxLen:=by
 intro k d hd
 have hm:d∈docs:=hp.mem_iff.1 (List.mem_of_getElem? hd)
 obtain⟨d',hd',e,B,c,r⟩:=h d.1 (by rw[List.take_of_length_le (Nat.le_refl _)]; exact List.mem_map.2 ⟨d,hm,rfl⟩)
 obtain rfl:=key_one hn hd' hm e
 exact⟨B,c,r⟩
theorem doc_cells (w:World) (S:ByteArray) (u v:Value) (_:u = .string S):∀ j x,[u,v][j]? = some x→(w.alloc (.cells #[u,v] 37)).cell? ((⟨w.heap.size,0,none⟩:Addr).add j)=some x:=by
 intro j x hx
 match j,hx with
 | 0,hx =>
  simp at hx
  subst hx
  rw[show (⟨w.heap.size,0,none⟩:Addr).add 0=⟨w.heap.size,0,none⟩ by simp[Addr.add],World.cell?_alloc_at _ _ _ _ rfl]
  rfl
 | 1,hx =>
  simp at hx
  subst hx
  rw[show (⟨w.heap.size,0,none⟩:Addr).add 1=⟨w.heap.size,1,none⟩ by simp[Addr.add],World.cell?_alloc_at _ _ _ _ rfl]
  rfl
 | j+2,hx=>simp at hx
section
variable {F G:Nat→Prop}
theorem rnew_any (docs:List Dc) (gone:List Key) (A B:Option Addr) (n c m d:Nat) (w:World) (hz:Dcs w F A n docs) (hg:Kss w G B m gone) (hlt:Lite docs gone) (hc:m≤d) (hcm:d≤maxLen) (hby:∀ d∈docs,∀ x∈d.2,0≤x∧x<256) :
  Calls Tryz.prog 15 #[.slice A n c, .slice B m d] w (RNewOf docs gone w):=by
 have hln:=hz.len
 have hlm:=hg.len
 have hn:n≤10000:=by rw[←hln]; exact hlt.n
 have hm:m≤10000:=by rw[←hlm]; exact hlt.m
 have HL:=Bx.mk hln
 have HM:=Bx.mk hlm
 have HZ:=Bx.mk hz
 have HG:=Bx.mk hg
 have HLT:=Bx.mk hlt
 have HCM:=Bx.mk hcm
 have HBY:=Bx.mk hby
 have HKL:Bx (∀ d∈docs,d.1.length≤100000):=⟨fun d hd=>by
  have h1:=flat_kB_le (l:=ks docs) (List.mem_map.2 ⟨d,hd,rfl⟩)
  have h2:=kB_len d.1
  have h3:=hlt.k
  omega⟩
 clear hz hg hlt hcm hby hln hlm
 have hmm := @run_makeMap Tryz.prog
 go_enter Tryz.func15,Tryz.ntmps15
 go_wp2_with fail
 clear hmm
 have HMP0:=Bx.mk (Mp.made Tryz.prog 9 w)
 have HC0:=Bx.mk ((Ch.refl (fun _=>False) w).alloc (.map #[] 0))
 generalize hmb:w.heap.size=mb at *
 have HMB:=Bx.mk hmb
 generalize w.alloc (.map #[] 0)=w0 at *
 clear hmb
 go_loopw [6,9] (fun v i wr=>∃ (k:Nat) (f:Lit→Option Value),k≤n∧i = .int .i64 k∧Gs 9 1 w wr v k ((ks (docs.take k)).map kv)∧Bx (Mp Tryz.prog 9 wr mb k f)∧Bx (TM w F docs k f)) (fun _ i _=>n-(intOf i).toNat)
 case atStart=>exact⟨0,_,Nat.zero_le _,rfl,Gs.nilAt _ _ HC0.out,HMP0,⟨fun key hk=>by simp[ks] at hk⟩⟩
 case round =>
  obtain⟨k,f,hk,rfl,hGs,hMp,hTM⟩:=hrel
  by_cases hlt:k<n
  ·have dk:decide ((k:Int)<(n:Int))=true:=decide_eq_true (by omega)
   obtain⟨bd,od,dc,Bt,ct,rfl,_,hd,hck0,hct0,hst,hlt2,hctm⟩:=HZ.out.get hlt
   have hck:=hGs.ch.cell (p:=⟨bd,od+k*2,none⟩) (fun h=>h) hck0
   have HTM:=Bx.mk (hTM.out.more hd.out hst hlt2 hctm)
   have HKT:=Bx.mk (ks_take hd.out)
   have hkm:dc.1.length≤maxLen:=by have:=HKL.out dc (List.mem_of_getElem? hd.out); unfold maxLen; omega
   have HKM:=Bx.mk hkm
   obtain⟨tl,htl⟩:∃ tl,dc.2.length=tl:=⟨_,rfl⟩
   rw[htl] at hct0 HTM
   obtain⟨SD,hSD⟩:∃ S:ByteArray,(⟨dc.1.toArray⟩:ByteArray)=S:=⟨_,rfl⟩
   have hkv:kv dc.1 = .string SD:=by unfold kv; rw[hSD]
   have hSDk:SD.data.toList=dc.1:=by rw[←hSD]
   rw[hkv] at hck hck0
   have HKV:=Bx.mk hkv
   have HSDK:=Bx.mk hSDk
   have HCT0:=Bx.mk hct0
   have HCK0:=Bx.mk hck0
   have HGs:=Bx.mk hGs
   obtain⟨A1,c1,rfl,_,_⟩:=hGs.shape
   have i2:(k:Int)<(n:Int):=by omega
   clear hGs hd hst hlt2 hctm hTM htl hSD hkv hSDk hkm hct0 hck0
   go_wp2_with (at_builtin; refine wp_app rfl (.tmp 22) (.tmp 28) elemS rfl rfl (HGs.out.own.alloc _) rfl (Vs.one _ _ _) ?c1 ?c2 ?c3 ?_)
   case c1=>intro u hu; simp at hu; subst hu; rfl
   case c2=>omega
   case c3=>omega
   intro v5 w5 ho1 hg1 hb1
   have HG5:Bx (Gs 9 1 w w5 v5 (k+1) ((ks (docs.take (k+1))).map kv)):=⟨by
    have:=HGs.out.app ((Ch.refl (fun _=>False) wr).alloc _) ho1 hg1 (by rw[World.size_alloc]; exact hb1)
    rw[HKT.out,List.map_append]
    show Gs _ _ _ _ _ _ (_++[kv dc.1])
    rw[HKV.out]
    exact this⟩
   have HMp5:=Bx.mk (Mp.grown hMp.out HGs.out.own ((Ch.refl (fun _=>False) wr).alloc _) hg1)
   have hct5:=HG5.out.ch.cell (p:=⟨bd,od+k*2+1,none⟩) (fun h=>h) HCT0.out
   have hck5:=HG5.out.ch.cell (p:=⟨bd,od+k*2,none⟩) (fun h=>h) HCK0.out
   clear ho1 hg1 hb1 HGs hck hMp
   go_wp2_with fail
   refine wp_region_still_tail 11 (by kernel_rfl) (by kernel_rfl) ?_
   simp only[List.take_succ_cons,List.take_zero,List.drop_succ_cons,List.drop_zero]
   repeat still_step
   refine wpStill_nil ?_
   change wpList _ _ _ _ _ w5.drew
   refine wp_put rfl (.tmp 30) (.tmp 35) (.tmp 40) rfl (Maps.string_keyed Tryz.underlying9) Tryz.underlying89 (by unfold maxLen; omega) rfl HMp5.out.drew (.string SD) (.slice Bt tl ct) (.string SD.data.toList) rfl rfl (Go.WideMaps.keyOf_string_mk Tryz.underlying9 (by
    have h1:=HSDK.out
    have h2:=HKM.out
    rw[←h1] at h2
    simpa using h2)) trivial ?_
   intro w6 hMp6 hC6
   have HG6:=Bx.mk (HG5.out.mapped HMp5.out ((Ch.refl _ w5).drew.trans hC6 (fun _ _ h=>h)) (Nat.le_of_eq HMB.out))
   have HMp6:=Bx.mk hMp6
   clear hMp6 hC6 HG5 HMp5
   go_wp2_with fail
   go_roundw
   case rel =>
    have h1:=HTM.out
    rw[←HSDK.out] at h1
    exact⟨k+1,_,by omega,by go_num,HG6.out,HMp6,⟨h1⟩⟩
   case measure=>simp[intOf]; omega
  ·obtain rfl:n=k:=by omega
   have dk:decide ((n:Int)<(n:Int))=false:=decide_eq_false (by omega)
   obtain⟨A1,c1,rfl,hc1,hd1⟩:=hGs.shape
   have HKD:Bx (Kss wr (fun b=>w.heap.size≤b) A1 n (ks docs)):=⟨by
    have h1:=hGs.vs
    rw[List.take_of_length_le (Nat.le_of_eq HL.out)] at h1
    exact h1⟩
   have HS1:=Bx.mk (refsorted_any n (ks docs) A1 n c1 wr _ (Nat.le_of_eq (by rw[ks_len,HL.out])) HKD.out hc1 hd1 (by omega))
   have HG1:Bx (Kss wr G B m gone):=⟨HG.out.ch hGs.ch (fun _ _ _ h=>h)⟩
   have HMp:=hMp
   have HTM:=hTM
   have HCW:=Bx.mk hGs.ch
   clear hGs hMp hTM HKD hd1
   go_wp2_with fail
   refine HS1.out.mono ?_
   rintro e w1 ⟨A2,c2,m1,rfl,hm1,hp1,hG1,hc2,hd2⟩
   have HC1:Bx (Ch (fun _=>False) w w1):=⟨HCW.out.trans hG1.ch (fun _ _ h=>h)⟩
   have HMp1:=Bx.mk (HMp.out.ch hG1.ch (fun h=>h))
   have HK1:Bx (Kss w1 (fun b=>w.heap.size≤b) A2 n m1):=⟨Kss.mono hG1.vs (fun _ _ h=>Nat.le_trans HCW.out.size h)⟩
   have HS2:=Bx.mk (refsorted_any m gone B m d w1 G (Nat.le_of_eq HM.out) (HG1.out.ch hG1.ch (fun _ _ _ h=>h)) hc HCM.out (by omega))
   have HP1:=Bx.mk hp1
   have HM1:=Bx.mk hm1
   clear hG1 hp1 hm1 HS1 HG1 HMp HCW hc1
   have hc2':=Bx.mk hd2
   clear hd2
   go_wp2_with fail
   refine HS2.out.mono ?_
   rintro e w2 ⟨A3,c3,m2,rfl,hm2,hp2,hG2,hc3,hd3⟩
   have HC2:Bx (Ch (fun _=>False) w w2):=⟨HC1.out.trans hG2.ch (fun _ _ h=>h)⟩
   have HMp2:=Bx.mk (HMp1.out.ch hG2.ch (fun h=>h))
   have HK2:=Bx.mk (HK1.out.ch hG2.ch (fun _ _ _ h=>h))
   have HL2:Bx (Kss w2 (fun b=>w.heap.size≤b) A3 m m2):=⟨Kss.mono hG2.vs (fun _ _ h=>Nat.le_trans HC1.out.size h)⟩
   have HP2:=Bx.mk hp2
   have HM2:=Bx.mk hm2
   have HG0:=Bx.mk (gs_s0 w2 9)
   have HK2a:=Bx.mk (HK2.out.alloc (.cells #[] 9))
   have HL2a:=Bx.mk (HL2.out.alloc (.cells #[] 9))
   have hd3':=Bx.mk hd3
   clear hd3 hG2 hp2 hm2 HS2 HC1 HMp1 HK1
   go_wp2_with (at_builtin; refine wp_app rfl (.tmp 45) (.tmp 46) elemS rfl rfl HG0.out.own rfl HK2a.out ?c1 ?c2 ?c3 ?_)
   case c1=>exact kv_cells _
   case c2=>omega
   case c3=>omega
   intro v3 w3 ho3 hg3 hb3
   have HG3:=Bx.mk (HG0.out.app0 ho3 hg3 (by rw[World.size_alloc]; exact hb3))
   have HL3:=Bx.mk (HL2.out.ch HG3.out.ch (fun _ _ _ h=>h))
   obtain⟨A4,c4,rfl,_,_⟩:=HG3.out.shape
   clear ho3 hg3 hb3 HG0 HK2a HL2a
   go_wp2_with (at_builtin; refine wp_app rfl (.tmp 47) (.tmp 48) elemS rfl rfl HG3.out.own rfl HL3.out ?c1 ?c2 ?c3 ?_)
   case c1=>exact kv_cells _
   case c2=>omega
   case c3=>omega
   intro v4 w4 ho4 hg4 hb4
   have HG4:=Bx.mk (HG3.out.app (Ch.refl _ _) ho4 hg4 hb4)
   obtain⟨A5,c5,rfl,hc5,hd5⟩:=HG4.out.shape
   have HS3:=Bx.mk (refsorted_any (n+m) (m1++m2) A5 (n+m) c5 w4 _ (Nat.le_of_eq (by rw[List.length_append,HK2.out.len,HL2.out.len])) (by unfold Kss; rw[List.map_append]; exact HG4.out.vs) hc5 hd5 (by omega))
   clear ho4 hg4 hb4 HG3 hd5
   go_wp2_with fail
   refine HS3.out.mono ?_
   rintro e w5 ⟨A6,c6,m3,rfl,hm3,hp3,hG5,hc6,hd6⟩
   have HC5:Bx (Ch (fun _=>False) w2 w5):=⟨HG4.out.ch.trans hG5.ch (fun _ _ h=>h)⟩
   have HK5:=Bx.mk (HK2.out.ch HC5.out (fun _ _ _ h=>h))
   have HL5:=Bx.mk (HL2.out.ch HC5.out (fun _ _ _ h=>h))
   have HM5:Bx (Kss w5 (fun b=>w.heap.size≤b) A6 (n+m) m3):=⟨Kss.mono hG5.vs (fun _ _ h=>Nat.le_trans HC2.out.size (Nat.le_trans HG4.out.ch.size h))⟩
   have HMp5:=Bx.mk (HMp2.out.ch HC5.out (fun h=>h))
   have HCW:=Bx.mk (HC2.out.trans HC5.out (fun _ _ h=>h))
   have HAR:=Bx.mk (argok_iff HP1.out HP2.out hp3 hm3)
   have HKL3:Bx (∀ a∈m3,a.length≤100000):=⟨fun a ha=>by
    rcases List.mem_append.1 ((hp3.trans (HP1.out.append HP2.out)).mem_iff.1 ha) with h | h
    ·obtain⟨d,hd,rfl⟩:=List.mem_map.1 h
     exact HKL.out d hd
    ·have h1:=flat_kB_le h
     have h2:=kB_len a
     have h3:=HLT.out.g
     omega⟩
   have HN3:Bx (m3.length=n+m):=⟨HM5.out.len⟩
   have hd6':c6≤9223372036854775807:=by unfold maxLen at hd6; omega
   clear hp3 hm3 hG5 HG4 HK2 HL2 HMp2 HC2 HC5 HS3 HL3 hd6 hc5
   obtain⟨nm,hnm⟩:∃ q,n+m=q:=⟨_,rfl⟩
   have hnm2:nm≤20000:=by omega
   rw[hnm] at HM5 HN3 hc6
   have hci:(n:Int)+(m:Int)=(nm:Int):=by omega
   rw[hnm]
   go_wp2_with fail
   go_loopw [10] (fun i wr=>∃ k:Nat,k≤nm∧i = .int .i64 k∧Ch (fun _=>False) w5 wr∧Bx (CkTo m3 k)) (fun i _=>nm-(intOf i).toNat)
   case atStart=>exact⟨0,Nat.zero_le _,rfl,Ch.refl _ _,⟨CkTo.zero _⟩⟩
   case round =>
    obtain⟨k,hk,rfl,hCr,hck⟩:=hrel
    by_cases hkl:k<nm
    ·have dk:decide ((k:Int)<(nm:Int))=true:=decide_eq_true (by omega)
     obtain⟨b6,o6,a,rfl,_,ha,hca0⟩:=HM5.out.at_ hkl
     have hca:=hCr.cell (fun h=>h) hca0
     obtain⟨SA,hSA⟩:∃ S:ByteArray,(⟨a.toArray⟩:ByteArray)=S:=⟨_,rfl⟩
     have hkv:kv a = .string SA:=by unfold kv; rw[hSA]
     rw[hkv] at hca
     have hka:a.length≤9223372036854775807:=by have:=HKL3.out a (List.mem_of_getElem? ha.out); omega
     have HCR:=Bx.mk hCr
     have HA:=Bx.mk ha.out
     by_cases hok:okK a
     ·have HV:=Bx.mk (fun q=>key_val a wr hka true (decide_eq_true hok) hkv q)
      have HOK:=Bx.mk hok
      rcases Nat.eq_zero_or_pos k with h0 | h0
      ·subst h0
       rw[Nat.add_zero] at hca
       clear hok hka hkv hca0 hSA ha hCr
       go_wp2_with fail
       go_quiet ((first | (go_at_call 51; exact HV.out _)))
       have HQ:=Bx.mk (HCR.out.drewN nq)
       go_wp2_with fail
       go_roundw
       case rel=>exact⟨1,by omega,by go_num,HQ.out,⟨hck.out.next HA.out HOK.out (fun b h=>by omega)⟩⟩
       case measure=>simp[intOf]; omega
      ·obtain⟨j,hj⟩:∃ j,k=j+1:=⟨k-1,by omega⟩
       have hjn:j<nm:=by omega
       obtain⟨b7,o7,b,hb7,_,hb,hcb0⟩:=HM5.out.at_ hjn
       obtain⟨rfl,rfl⟩:b6=b7∧o6=o7:=by
        injection hb7 with h
        injection h with h1 h2
        exact⟨h1,h2⟩
       have hcb:=hCr.cell (fun h=>h) hcb0
       obtain⟨SB,hSB⟩:∃ S:ByteArray,(⟨b.toArray⟩:ByteArray)=S:=⟨_,rfl⟩
       have hkb:kv b = .string SB:=by unfold kv; rw[hSB]
       rw[hkb] at hcb
       have HSQ:Bx ((SA.toList==SB.toList)=decide (a=b)):=⟨by rw[←hSA,←hSB]; exact str_beq a b⟩
       have HB:=Bx.mk hb.out
       have HJ:=Bx.mk hj
       have g0:decide ((0:Int)<(k:Int))=true:=decide_eq_true (by omega)
       have g1:IntKind.i64.wrap ((k:Int)-1)=(j:Int):=by rw[IntWalk.i64_in _ (by omega)]; omega
       have g2:(j:Int)<(nm:Int):=by omega
       have g3:(k:Int)<(nm:Int):=by omega
       by_cases hab:a=b
       ·have hq:(SA.toList==SB.toList)=true:=by rw[HSQ.out]; exact decide_eq_true hab
        have HAB:=Bx.mk hab
        clear hok hka hkv hca0 hSA ha hCr hab hj hb hb7 hSB hkb hcb0
        go_wp2_with fail
        go_quiet ((first | (go_at_call 51; exact HV.out _)))
        have HQ:=Bx.mk (HCR.out.drewN nq)
        go_wp2_with fail
        go_ret2
        exact RNewOf.arg (fun h=>ck_twice HA.out (by rw[show k-1=j by have:=HJ.out; omega,HAB.out]; exact HB.out) h0 (HAR.out.1 h)) (HCW.out.trans HQ.out (fun _ _ h=>h))
       ·have hq:(SA.toList==SB.toList)=false:=by rw[HSQ.out]; exact decide_eq_false hab
        have HAB:=Bx.mk hab
        clear hok hka hkv hca0 hSA ha hCr hab hj hb hb7 hSB hkb hcb0
        go_wp2_with fail
        go_quiet ((first | (go_at_call 51; exact HV.out _)))
        have HQ:=Bx.mk (HCR.out.drewN nq)
        go_wp2_with fail
        go_roundw
        case rel=>exact⟨k+1,by omega,by go_num,HQ.out,⟨hck.out.next HA.out HOK.out (fun x h0 hx=>by
         rw[show k-1=j by have:=HJ.out; omega,HB.out] at hx
         injection hx with hx
         exact hx ▸ fun h=>HAB.out h.symm)⟩⟩
        case measure=>simp[intOf]; omega
     ·have HV:=Bx.mk (fun q=>key_val a wr hka false (decide_eq_false hok) hkv q)
      have HOK:=Bx.mk hok
      clear hok hka hkv hca0 hSA ha hCr
      go_wp2_with fail
      go_quiet ((first | (go_at_call 51; exact HV.out _)))
      have HQ:=Bx.mk (HCR.out.drewN nq)
      go_wp2_with fail
      go_ret2
      exact RNewOf.arg (fun h=>ck_bad HA.out HOK.out (HAR.out.1 h)) (HCW.out.trans HQ.out (fun _ _ h=>h))
    ·obtain rfl:k=nm:=by omega
     have dk:decide ((k:Int)<(k:Int))=false:=decide_eq_false (by omega)
     have hck2:=hck.out
     rw[←HN3.out] at hck2
     have harg:=HAR.out.2 hck2
     obtain⟨ds,hds,hkd⟩:=docs_of m1 docs HP1.out
     subst hkd
     have HDS:=Bx.mk hds
     have HARG:=Bx.mk harg
     have HCR:=Bx.mk (HCW.out.trans hCr (fun _ _ h=>h))
     have HKR:=Bx.mk (HK5.out.ch hCr (fun _ _ _ h=>h))
     have HLR:=Bx.mk (HL5.out.ch hCr (fun _ _ _ h=>h))
     have HMR:=Bx.mk (HMp5.out.ch hCr (fun h=>h))
     have HDN:Bx (ds.length=n):=⟨by rw[hds.length_eq,HL.out]⟩
     have HNW:=Bx.mk (Nw.start wr (.slice A3 m c3))
     clear hck hck2 harg hds hCr HK5 HL5 HMp5 HCW HM5 HAR HN3 HKL3
     have HBS0:Bx (mb<wr.heap.size):=⟨HMR.out.lt⟩
     have HC3:=Bx.mk (HCR.out.alloc (.cells #[.slice none 0 0, .slice A3 m c3] 78))
     have HK3:Bx (Kss (wr.alloc (.cells #[.slice none 0 0, .slice A3 m c3] 78)) (fun b=>w.heap.size≤b∧b<wr.heap.size) A2 n (ks ds)):=⟨(Kss.mono HKR.out (fun b h1 h2=>⟨h2,h1⟩)).alloc _⟩
     have HL3:Bx (Kss (wr.alloc (.cells #[.slice none 0 0, .slice A3 m c3] 78)) (fun b=>w.heap.size≤b∧b<wr.heap.size) A3 m m2):=⟨(Kss.mono HLR.out (fun b h1 h2=>⟨h2,h1⟩)).alloc _⟩
     have HM3:=Bx.mk (HMR.out.alloc (.cells #[.slice none 0 0, .slice A3 m c3] 78))
     have HTX:Bx (∀ (k:Nat) (d:Dc),ds[k]? = some d→∃ B c,f (.string d.1)=some (.slice B d.2.length c)∧Sl w F .u8 B d.2.length d.2∧d.2.length≤c∧c≤maxLen):=⟨tm_of (by rw[HL.out]; exact HTM.out) (List.nodup_append.1 HARG.out.2).1 HDS.out⟩
     have HGE:Bx (w.heap.size≤wr.heap.size):=⟨HCR.out.size⟩
     clear HKR HLR HMR HCR HTM
     go_wp2_with fail
     generalize hbs:wr.heap.size=bs at *
     generalize hw3:wr.alloc (.cells #[.slice none 0 0, .slice A3 m c3] 78)=w3 at *
     clear hbs hw3
     go_loopw [12,13] (fun tv i wq=>∃ (k:Nat) (vd:Value) (us vs:List Value),k≤n∧i = .int .i64 k∧Bx (Nw w3 wq bs (.slice A3 m c3) tv vd k k us vs (ts (ds.take k)) (ts (ds.take k)) (ks (ds.take k)))∧Bx (∀ d∈ds.take k,d.2.length≤4096)) (fun _ i _=>n-(intOf i).toNat)
     case atStart=>exact⟨0,_,[],[],Nat.zero_le _,rfl,HNW,⟨fun d hd=>by simp at hd⟩⟩
     case round =>
      obtain⟨k,vd,us,vs,hk,rfl,hNw,hsm⟩:=hrel
      by_cases hlt:k<n
      ·have dk:decide ((k:Int)<(n:Int))=true:=decide_eq_true (by omega)
       obtain⟨b2,o2,key,rfl,hb2,hkk,hck0⟩:=HK3.out.at_ hlt
       obtain⟨dc,hdc⟩:∃ dc,ds[k]? = some dc:=⟨_,List.getElem?_eq_getElem (by rw[HDN.out]; exact hlt)⟩
       obtain rfl:dc.1=key:=by
        have h1:=ks_get hdc
        rw[hkk.out] at h1
        injection h1 with h1
        exact h1.symm
       obtain⟨Bt,ct,hft,hst0,ht1,ht2⟩:=HTX.out k dc hdc
       have hchw:=HC3.out.trans hNw.out.ch (fun i hi (e:i=bs)=>by have:=HGE.out; omega)
       have hst:=hst0.ch hchw (fun _ _ _ h=>h)
       have hck:=hNw.out.ch.cell (p:=⟨b2,o2+k,none⟩) (fun (e:b2=bs)=>by have:=hb2.2; omega) hck0
       have hmp:=HM3.out.ch hNw.out.ch (fun (e:mb=bs)=>by have:=HBS0.out; omega)
       obtain⟨tl,htl⟩:∃ tl,dc.2.length=tl:=⟨_,rfl⟩
       rw[htl] at hft hst ht1
       have htb:tl≤100000:=by
        have h1:=beg_next (ts ds) k (by rw[ts_len,HDN.out]; exact hlt)
        have h2:=beg_mono (ts ds) (show k+1≤n by omega) (by rw[ts_len,HDN.out]; exact Nat.le_refl _)
        have h3:(ts ds).getD k []=dc.2:=by unfold ts; rw[List.getD_eq_getElem?_getD,List.getElem?_map,hdc]; rfl
        have h4:=beg_perm (HDS.out.map (·.2))
        have h5:beg (ts ds) n=beg (ts docs) docs.length:=by
         have e1:(List.map (·.2) ds).length=n:=by rw[List.length_map,HDN.out]
         have e2:(List.map (·.2) docs).length=docs.length:=by rw[List.length_map]
         rw[e1,e2] at h4
         exact h4
        have h6:=HLT.out.b
        rw[h3,htl] at h1
        omega
       obtain⟨SK,hSK⟩:∃ S:ByteArray,(⟨dc.1.toArray⟩:ByteArray)=S:=⟨_,rfl⟩
       have hkv:kv dc.1 = .string SK:=by unfold kv; rw[hSK]
       have hSKk:SK.data.toList=dc.1:=by rw[←hSK]
       rw[hkv] at hck
       rw[←hSKk] at hft
       have hsz:SK.size≤maxLen:=by
        have h1:=HKL.out dc (HDS.out.mem_iff.1 (List.mem_of_getElem? hdc))
        have h2:SK.size=dc.1.length:=by rw[←hSKk]; simp
        unfold maxLen
        omega
       have hcs:=((Ch.refl (fun _=>False) wr).alloc (.cells #[] 5)).cell (p:=⟨b2,o2+k,none⟩) (fun h=>h) hck
       have HST:=Bx.mk (hst.alloc (.cells #[] 5))
       have HON:=Bx.mk (own_none8 wr)
       have HMPa:=Bx.mk (hmp.alloc (.cells #[] 5))
       have HFT:=Bx.mk hft
       have HSZ:=Bx.mk hsz
       have HKV:=Bx.mk hkv
       have HCK:=Bx.mk hck
       have HCK0:Bx (w3.cell? ⟨b2,o2+k,none⟩=some (.string SK)):=⟨by rw[←hkv]; exact hck0⟩
       have HDC:=Bx.mk hdc
       have HTL:=Bx.mk htl
       have i2:(k:Int)<(n:Int):=by omega
       have hct2:ct≤9223372036854775807:=by unfold maxLen at ht2; omega
       have HCHW:=Bx.mk hchw
       obtain⟨A8,c8,rfl,_,_⟩:=own_shape' hNw.out.tw
       obtain⟨A9,c9,rfl,_,_⟩:=own_shape' hNw.out.dw
       clear hst hst0 hmp hft hsz hkv hSK hSKk hdc htl hck0 hkk ht2 hchw
       have hlk:(Instr.lookup 89 (.map (some mb)) (.string SK) false).run Tryz.prog (wr.alloc (.cells #[] 5)) = .ok (.slice Bt tl ct) (wr.alloc (.cells #[] 5)):=by
        have h1:=HMPa.out.look (z := .slice none 0 0) (key := .string SK) (Maps.string_keyed Tryz.underlying9) Tryz.underlying89 (by kernel_rfl) (Go.WideMaps.keyOf_string_mk Tryz.underlying9 HSZ.out)
        rw[HFT.out] at h1
        exact h1
       go_wp2_with (at_builtin; refine wp_app rfl (.tmp 88) (.tmp 94) Tb rfl rfl HON.out rfl HST.out ?c1 ?c2 ?c3 ?_)
       case c1=>exact ints_cells _ _
       case c2=>omega
       case c3=>omega
       intro v5 w5 ho5 hg5 hb5
       have HF:Bx (Fresh wr v5 dc.2 w5):=⟨(fresh_none8 wr).app8 (by rw[HTL.out]; exact ho5) hg5 (by rw[World.size_alloc]; exact hb5)⟩
       obtain⟨A7,c7,rfl,hc7,hd7⟩:=fr_shape (ys:=dc.2) HF.out HTL.out
       have HNW5:=Bx.mk (hNw.out.keep HF.out.2.2)
       have HCH5:Bx (Ch (fun _=>False) w w5):=⟨HCHW.out.trans HF.out.2.2 (fun _ _ h=>h)⟩
       clear ho5 hg5 hb5 hlk HST HON HMPa hcs
       by_cases hbig:4096<tl
       ·have e1:decide ((4096:Int)<(tl:Int))=true:=decide_eq_true (by omega)
        have e2:decide (4096<tl)=true:=decide_eq_true hbig
        have HBG:=Bx.mk hbig
        clear hbig
        go_wp2_with fail
        go_ret2
        exact⟨5,[],[], .inr (.inl ⟨HARG.out,⟨dc.2,List.mem_map.2 ⟨dc,HDS.out.mem_iff.1 (List.mem_of_getElem? HDC.out),rfl⟩,by rw[HTL.out]; exact HBG.out⟩,rfl⟩),HCH5.out, .inl ⟨by omega,rfl⟩⟩
       ·have e1:decide ((4096:Int)<(tl:Int))=false:=decide_eq_false (by omega)
        have e2:decide (4096<tl)=false:=decide_eq_false hbig
        have HBG:=Bx.mk hbig
        have hSL5:Sl w5 (fun b=>w3.heap.size≤b∧(Value.slice A8 k c8).ownBlock≠some b∧(Value.slice A9 k c9).ownBlock≠some b) .u8 A7 tl dc.2:=(Fresh.sl (Fresh.rw HF.out) HTL.out.symm).mono (fun b _ (hb:wr.heap.size≤b)=>⟨Nat.le_trans hNw.out.ch.size hb,fun e=>by have:=lt_blk hNw.out.tw e; omega,fun e=>by have:=lt_blk hNw.out.dw e; omega⟩)
        have HSL5:=Bx.mk hSL5
        clear hbig hSL5
        go_wp2_with (at_builtin; refine wp_app rfl (.tmp 99) (.tmp 101) elemT rfl rfl (HNW5.out.tw.alloc _) rfl (Vs.one _ _ _) ?c1 ?c2 ?c3 ?_)
        case c1=>intro x hx; simp at hx; subst hx; rfl
        case c2=>omega
        case c3=>omega
        intro v6 w6 ho6 hg6 hb6
        have HNW6:=Bx.mk (HNW5.out.text (t:=dc.2) (A:=A7) (c:=c7) (by rw[HTL.out]; exact HSL5.out) (by rw[HTL.out]; exact hc7) hd7 ((Ch.refl _ w5).alloc _) (by rw[HTL.out]; exact ho6) hg6 (by rw[World.size_alloc]; exact hb6))
        have hlu:us.length=k:=by have:=HNW5.out.tw.1; omega
        have HSL6:Bx (Sl w6 (fun b=>w3.heap.size≤b∧v6.ownBlock≠some b∧(Value.slice A9 k c9).ownBlock≠some b) .u8 A7 dc.2.length dc.2):=⟨by
         have hlt2:(ts (ds.take k)).length=k:=by rw[ts_len,List.length_take,HDN.out]; omega
         obtain⟨B,cB,eu,hsl,_⟩:=HNW6.out.rt.2 k (.slice A7 dc.2.length c7) dc.2 (by rw[List.getElem?_append_right (by omega),hlu]; simp) (by rw[List.getElem?_append_right (by omega),hlt2]; simp)
         injection eu with e1
         subst e1
         exact hsl⟩
        have hcb0:w6.cell? ⟨bs,0,none⟩=some (.slice A9 k c9):=by unfold World.cell?; rw[HNW6.out.seg]; rfl
        have hck6:=HNW6.out.ch.cell (p:=⟨b2,o2+k,none⟩) (fun (e:b2=bs)=>by have:=hb2.2; omega) HCK0.out
        have HAP:Bx (∀ v7 w7,w7.ownsRow 0 37 2 v7 (k+1) (dcV (ks (ds.take k)) vs++[Value.string SK, .slice A7 tl c7])→(w6.alloc (.cells #[.string SK, .slice A7 tl c7] 37)).drew.grownBy w7 (Value.slice A9 k c9).ownBlock→(v7.ownBlock=(Value.slice A9 k c9).ownBlock∨v7.ownBlock=some (w6.alloc (.cells #[.string SK, .slice A7 tl c7] 37)).drew.heap.size)→w7.cell? ⟨bs,0,none⟩=some (.slice A9 k c9)∧w7.frozen? ⟨bs,0,none⟩=false∧Nw w3 (w7.setCell ⟨bs,0,none⟩ v7) bs (.slice A3 m c3) v6 v7 (k+1) (k+1) (us++[.slice A7 dc.2.length c7]) (vs++[.slice A7 dc.2.length c7]) (ts (ds.take (k+1))) (ts (ds.take (k+1))) (ks (ds.take (k+1)))):=⟨fun v7 w7 ho7 hg7 hb7=>by
         have hca:Ch (fun _=>False) w6 (w6.alloc (.cells #[.string SK, .slice A7 tl c7] 37)).drew:=((Ch.refl (fun _=>False) w6).alloc _).drew
         have hcg:Ch (fun b=>(Value.slice A9 k c9).ownBlock=some b) w6 w7:=(hca.mono (fun _ _ h=>h.elim)).grown hg7 (fun _ h => .inl h)
         have hsg:w7.heap[bs]? = some (.cells #[.slice A9 k c9, .slice A3 m c3] 78 (0,0)):=(hcg.block bs (Array.getElem?_eq_some_iff.1 HNW6.out.seg).1 (fun e=>by
          have h1:=HNW6.out.dl bs e
          have h2:=HNW6.out.bsl
          omega)).trans HNW6.out.seg
         refine⟨by simp[World.cell?,hsg],by simp[World.frozen?,hsg],?_⟩
         ·rw[ts_take HDC.out,ks_take HDC.out]
          exact HNW6.out.doc HSL6.out (by rw[HTL.out]; exact hc7) hd7 hca (by rw[HTL.out,HKV.out]; exact ho7) hg7 hb7⟩
        have hcb1:=((Ch.refl (fun _=>False) w6).alloc (.cells #[.string SK, .slice A7 tl c7] 37)).cell (p:=⟨bs,0,none⟩) (fun h=>h) hcb0
        have HSM:Bx (∀ d∈ds.take (k+1),d.2.length≤4096):=⟨fun d hd=>by
         rw[Oct.take_more HDC.out] at hd
         rcases List.mem_append.1 hd with h | h
         ·exact hsm.out d h
         ·simp at h
          subst h
          have h1:=HTL.out
          have h2:=HBG.out
          omega⟩
        clear ho6 hg6 hb6 HNW5 HSL5 hsm
        go_wp2_with fail
        go_region_law ((refine step_appK rfl (.tmp 107) (.tmp 114) elemD rfl rfl (HNW6.out.dw.alloc _) rfl (m:=1) rfl (doc_cells w6 SK _ _ rfl) (by intro u hu; simp at hu; rcases hu with hu | hu <;> (subst hu; rfl)) (by omega) (by omega) ?_; intro v7 w7 ho7 hg7 hb7; obtain⟨A10,c10,rfl,_,_⟩:=own_shape' ho7; obtain⟨hcb7,hfz7,hnw7⟩:=HAP.out _ w7 ho7 hg7 hb7; have HNW7:=Bx.mk hnw7; clear hnw7 ho7 hg7 hb7))
        all_goals
         go_wp2
         go_roundw
         case rel=>exact⟨k+1,_,_,_,by omega,by go_num,HNW7,HSM⟩
         case measure=>simp[intOf]; omega
      ·obtain rfl:n=k:=by omega
       have dk:decide ((n:Int)<(n:Int))=false:=decide_eq_false (by omega)
       have hall:ds.take n=ds:=List.take_of_length_le (Nat.le_of_eq HDN.out)
       rw[hall] at hNw hsm
       obtain⟨A8,c8,rfl,_,_⟩:=own_shape' hNw.out.tw
       obtain⟨A9,c9,rfl,hj9,hDc,hc9,hd9⟩:=hNw.out.dcs rfl rfl
       have hl2:m2.length=m:=HL3.out.len
       have hchw:=HC3.out.trans hNw.out.ch (fun i hi (e:i=bs)=>by have:=HGE.out; omega)
       have hRs:Rs wr (fun k=>w.heap.size≤k) bs ds m2:=by
        refine⟨A9,c9,A3,c3,by unfold World.cell?; rw[hNw.out.seg]; rfl,by unfold World.cell?; rw[hNw.out.seg,hl2]; rfl,hDc.mono (fun b _ hb=>Nat.le_trans HC3.out.size hb),?_,hc9,by unfold maxLen at hd9; omega,by omega,by have:=hd3'.out; unfold maxLen at this; omega,HGE.out⟩
        rw[hl2]
        exact Kss.mono (HL3.out.ch hNw.out.ch (fun b hb _ (e:b=bs)=>by have:=hb.2; omega)) (fun b _ hb=>hb.1)
       have htx:(txt (ts ds)).length≤65536:=by
        have h4:=beg_perm (HDS.out.map (·.2))
        have h6:=HLT.out.b
        have e1:(ts docs).length=docs.length:=ts_len docs
        rw[txt_len]
        have h5:beg (ts ds) (ts ds).length=beg (ts docs) (ts docs).length:=h4
        rw[h5,e1]
        omega
       have hbts:Byts (ts ds):=fun t ht=>by
        obtain⟨d,hd,rfl⟩:=List.mem_map.1 ht
        exact HBY.out d (HDS.out.mem_iff.1 hd)
       have hpk:(ks ds).Perm (ks docs):=HDS.out.map _
       have hk1:((ks ds).flatMap kB).length≤100000:=by rw[flat_perm hpk]; exact HLT.out.k
       have hg1:(m2.flatMap kB).length≤100000:=by rw[flat_perm HP2.out]; exact HLT.out.g
       have HLO:=Bx.mk (rlong_no (F:=fun _=>True) (ts ds) A8 n c8 wr ⟨us,(Vs.of_own hNw.out.tw).mono (fun _ _ _=>trivial),hNw.out.rt.mono (fun _ _ _=>trivial)⟩ htx)
       have HBO:=Bx.mk (rbody_any hRs hbts htx (by rw[HDN.out]; omega) (by omega) (by omega) (by omega))
       have HBL:Bx (∀ t,Turned (txt (ts ds)) t→(bod ds m2 t).length≤1000000):=⟨fun t ht=>bod_len (by rw[HDN.out]; omega) (by omega) hk1 hg1 (by rw[ht.len]; exact htx)⟩
       have HRS:=Bx.mk hRs
       have HCH:=Bx.mk hchw
       have HRES:Bx (NewRes docs gone 0 ds m2):=⟨.inr (.inr ⟨HARG.out,fun ⟨t,ht,h4⟩=>by
        obtain⟨d,hd,rfl⟩:=List.mem_map.1 ht
        have:=hsm.out d (HDS.out.mem_iff.2 hd)
        omega,rfl,⟨HDS.out,HM1.out.rise (hpk.nodup_iff.2 (List.nodup_append.1 HARG.out.2).1),HP2.out,HM2.out.rise (HP2.out.nodup_iff.2 (List.nodup_append.1 HARG.out.2).2.1)⟩⟩)⟩
       clear hj9 hNw hsm hall hRs htx hbts hk1 hg1 hpk hDc hc9 hd9 hchw hl2 HTX HK3 HL3 HM3 HC3 HDS HARG
       go_wp2_with fail
       refine HLO.out.mono ?_
       rintro e wl ⟨rfl,rfl⟩
       go_wp2_with fail
       refine HBO.out.mono ?_
       rintro e w9 ⟨v9,t,rfl,ht,hf9⟩
       obtain⟨N,hN⟩:∃ N,(bod ds m2 t).length=N:=⟨_,rfl⟩
       have hNb:N≤1000000:=by rw[←hN]; exact HBL.out t ht
       obtain⟨A10,c10,rfl,_,_⟩:=fr_shape (ys:=bod ds m2 t) hf9 hN
       have e1:decide ((1048512:Int)<(N:Int))=false:=decide_eq_false (by omega)
       have e2:decide (1048512<N)=false:=decide_eq_false (by omega)
       have HCH9:=Bx.mk (HCH.out.trans hf9.2.2 (fun _ _ h=>h))
       have HRS9:=Bx.mk (HRS.out.keep hf9.2.2)
       clear hf9 hN ht HBO HLO HBL
       go_wp2_with fail
       go_ret2
       exact⟨0,ds,m2,HRES.out,HCH9.out, .inr ⟨rfl,bs,rfl,HRS9.out⟩⟩
end
end Go.Proofs.YtambgjpfoceieaaGreatDoor
