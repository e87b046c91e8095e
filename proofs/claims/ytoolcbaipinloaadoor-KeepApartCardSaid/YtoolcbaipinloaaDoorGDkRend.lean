/- Lemmas and contracts of this proof. Conditions: said at each. -/
import Derived.Test.YtoolcbaipinloaaDoorGDkRead
import Derived.Sort.Row
set_option maxHeartbeats 8000000
set_option maxRecDepth 100000
namespace Go.Proofs.YtoolcbaipinloaaDoor
section
open Go.RowKit Go.Oct Go.Su Go.Dk Go.Maps
section
variable {w w':World} {g g':Nat→Tg} {d:Nat} {mb:Option Nat} {ad:Key→Nat} {s s':Ds} {F S:Nat→Prop} {x y:Fl} {k j:Key}
theorem rename_any (h:Dsk w g d mb ad s) (hk:k.length≤9223372036854775807) (hj:j.length≤9223372036854775807):Calls Tryd.prog 56 #[pv d,kv k,kv j] w (Post (opRen s k j) d w g):=by
 have hp:pv d = .pointer (some ⟨d,0,none⟩):=rfl
 have HM:=Bx.mk (may2_any h hk hj)
 have H:=Bx.mk h
 have HKL:=Bx.mk hk
 have HJL:=Bx.mk hj
 have HDR:Bx (∀ w1,Ch (fun _=>False) w w1→Calls Tryd.prog 77 #[pv d,kv j] w1 fun e w'=>e = .returned (.tuple #[])∧Dsk w' g d mb ad ⟨s.room,del s.fs j,s.left⟩∧Dgo w1 g w' g):=⟨fun w1 hc=>drop_any (h.keep hc) hj⟩
 have hsn:=str_ne j k
 obtain⟨S,hkv⟩:∃ S,(⟨k.toArray⟩:ByteArray)=S:=⟨_,rfl⟩
 obtain⟨T,hjv⟩:∃ T,(⟨j.toArray⟩:ByteArray)=T:=⟨_,rfl⟩
 rw[hkv,hjv] at hsn
 have hkv:kv k = .string S:=by unfold kv; rw[hkv]
 have hjv:kv j = .string T:=by unfold kv; rw[hjv]
 obtain⟨m,hm⟩:∃ m,mays s [k,j]=m:=⟨_,rfl⟩
 have HKV:=Bx.mk hkv
 have HJV:=Bx.mk hjv
 rw[hp] at HM HDR ⊢
 rw[hkv,hjv] at HM ⊢
 rw[hjv] at HDR
 rw[hm] at HM
 rw[mays_two] at hm
 clear hp h hk hj hkv hjv
 by_cases h0:m=0
 ·subst h0
  have HMK:Bx (may s k=0):=⟨by
   by_cases h:may s k=0
   ·exact h
   ·rw[if_pos h] at hm; exact absurd hm h⟩
  have HMJ:Bx (may s j=0):=⟨by rw[if_neg (by simp[HMK.out])] at hm; exact hm⟩
  clear hm
  cases hf:fnd s.fs k with
  | none =>
   have HR:=Bx.mk (ren_no (j:=j) HMK.out HMJ.out hf)
   have HF:=Bx.mk hf
   clear hf hsn
   go_enter Tryd.func56,Tryd.ntmps56
   go_wp2_with fail
   refine HM.out.mono ?_
   rintro e w1 ⟨rfl,hc1⟩
   have H1:=Bx.mk (H.out.keep hc1)
   have hlk:=H1.out.look_no HF.out (by unfold maxLen; exact HKL.out)
   have c0:=H1.out.c0
   rw[HKV.out] at hlk
   have HC1:=Bx.mk hc1
   clear hc1
   go_wp2
   go_ret
   exact⟨by rw[HR.out]; rfl,g,mb,ad,by rw[HR.out]; exact H1.out,Dgo.quiet HC1.out⟩
  | some x =>
   have HF:=Bx.mk hf
   clear hf
   by_cases hkj:k=j
   ·subst hkj
    have HR:=Bx.mk (ren_same HMK.out HF.out)
    have hsn2:(T.toList==S.toList)=true:=by rw[hsn]; simp
    clear hsn
    go_enter Tryd.func56,Tryd.ntmps56
    go_wp2_with fail
    refine HM.out.mono ?_
    rintro e w1 ⟨rfl,hc1⟩
    have H1:=Bx.mk (H.out.keep hc1)
    have hlk:=H1.out.look_yes HF.out (by unfold maxLen; exact HKL.out)
    have c0:=H1.out.c0
    rw[HKV.out] at hlk
    have HC1:=Bx.mk hc1
    have HD:=Bx.mk (done_any H1.out (may_ok HMK.out).1)
    rw[show pv d = .pointer (some ⟨d,0,none⟩) from rfl] at HD
    clear hc1
    go_wp2_with fail
    refine HD.out.mono ?_
    rintro e w4 ⟨rfl,hd4,hc4⟩
    go_wp2
    go_ret
    exact⟨by rw[HR.out]; rfl,g,mb,ad,by rw[HR.out]; exact hd4,(Dgo.quiet HC1.out).trans ⟨hc4.mono (fun i _ hi=>by rw[hi,H.out.tag]; exact (fun e=>by cases e)),fun b hb => .inl hb⟩⟩
   ·have HR:=Bx.mk (ren_ok HMK.out HMJ.out HF.out hkj)
    have HKJ:=Bx.mk hkj
    have hsn2:(T.toList==S.toList)=false:=by rw[hsn]; simp; exact fun e=>hkj e.symm
    obtain⟨hxm,hxn⟩:=fnd_some HF.out
    have HXM:=Bx.mk hxm
    have HXN:=Bx.mk hxn
    obtain⟨b,rfl⟩:∃ b,mb=some b:=by
     cases mb with
     | none=>rw[H.out.none_ rfl] at hxm; simp at hxm
     | some b=>exact⟨b,rfl⟩
    clear hsn hkj hxm hxn
    go_enter Tryd.func56,Tryd.ntmps56
    go_wp2_with fail
    refine HM.out.mono ?_
    rintro e w1 ⟨rfl,hc1⟩
    have H1:=Bx.mk (H.out.keep hc1)
    have hlk:=H1.out.look_yes HF.out (by unfold maxLen; exact HKL.out)
    have c0:=H1.out.c0
    rw[HKV.out] at hlk
    have HC1:=Bx.mk hc1
    have HDR1:=Bx.mk (HDR.out w1 hc1)
    obtain⟨a,ha⟩:∃ a,ad k=a:=⟨_,rfl⟩
    rw[ha] at hlk
    have HA:=Bx.mk ha
    clear hc1 HM HDR ha
    go_wp2_with fail
    refine HDR1.out.mono ?_
    rintro e w2 ⟨rfl,hd2,hg2⟩
    have HX2:Bx (x∈del s.fs j):=⟨mem_del.2 ⟨HXM.out,by rw[HXN.out]; exact HKJ.out⟩⟩
    have c02:=hd2.c0
    have hown:=(hd2.some_ b rfl).2
    have HBT:=Bx.mk (hd2.some_ b rfl).1
    obtain⟨w3,hdel,hown3,hturn3⟩:=hown.drop mapLaw mapT (key := .string S) (kl := .string k) (by rw[←HKV.out]; exact key_of (by unfold maxLen; exact HKL.out)) 0
    have hc3:=ch_turned hturn3
    have hle:(del s.fs j).length<maxLen:=by
     have:=hd2.ok.most
     have e:(Ds.mk s.room (del s.fs j) s.left).fs=del s.fs j:=rfl
     rw[e] at this
     unfold maxLen
     omega
    obtain⟨w4,hup,hown4,hg4⟩:=hown3.update (val:=pv (ad k)) (d := .held (pv (ad k))) (ps:=[]) (key := .string T) (kl := .string j) mapLaw mapT hle (by rw[←HJV.out]; exact key_of (by unfold maxLen; exact HJL.out)) rfl
    have hc4:Ch (fun i=>i=b) w3 w4:=⟨hg4.os,hg4.tape,hg4.output,hg4.size,fun i hi hn=>hg4.block i hi (fun e=>hn (by injection e))⟩
    have c03:w3.cell? ⟨d,0,none⟩=some (.map (some b)):=hc3.cell (p:=⟨d,0,none⟩) (fun e=>by have:=hd2.tag; rw[show d=b from e,HBT.out] at this; cases this) c02
    have HR4:Bx (Dsk w4 (tagR g k j) d (some b) (at1 ad j (ad k)) ⟨s.room,put (del s.fs k) ⟨j,x.bs,x.la⟩,s.left⟩∧Ch (fun i=>i=b) w2 w4):=⟨by
     have hc:=hc3.trans hc4 (fun _ _ h=>h)
     refine⟨?_,hc⟩
     have h5:=hd2.renamed (x:=x) (j:=j) HX2.out (may_ok HMJ.out).2 (fnd_del_same _ _) hc (by rw[HXN.out]; exact hown4) ⟨w3,_,by rw[HXN.out]; exact hown3⟩
     have e:=put_del2 H.out.ok.fine.rise k ⟨j,x.bs,x.la⟩
     rw[HXN.out] at h5
     have h6:Dsk w4 (tagR g k j) d (some b) (at1 ad j (ad k)) ⟨s.room,put (del (del s.fs j) k) ⟨j,x.bs,x.la⟩,s.left⟩:=h5
     rw[e] at h6
     exact h6⟩
    have hup':(Instr.mapUpdate 57 (.map (some b)) (.string T) (.pointer (some ⟨a,0,none⟩))).run Tryd.prog w3 = .ok () w4:=by rw[←HA.out]; exact hup
    have HG2:=Bx.mk hg2
    have HD:=Bx.mk (done_any HR4.out.1 (may_ok HMK.out).1)
    rw[show pv d = .pointer (some ⟨d,0,none⟩) from rfl] at HD
    clear hlk c0 hd2 hg2 hown hown3 hturn3 hc3 hle hup hown4 hg4 hc4
    go_wp2_with fail
    refine HD.out.mono ?_
    rintro e w5 ⟨rfl,hd5,hc5⟩
    go_wp2
    go_ret
    refine⟨by rw[HR.out]; rfl,tagR g k j,some b,at1 ad j (ad k),by rw[HR.out]; exact hd5,?_⟩
    have e1:Dgo w g w4 (tagR g k j):=((Dgo.quiet HC1.out).trans HG2.out).trans ⟨HR4.out.2.mono (fun i _ hi=>by rw[hi,HBT.out]; exact (fun e=>by cases e)),fun i hi => .inl (tagR_no.1 hi)⟩
    exact e1.trans ⟨hc5.mono (fun i _ hi=>by rw[hi,HR4.out.1.tag]; exact (fun e=>by cases e)),fun i hi => .inl hi⟩
 ·have HR:Bx (opRen s k j=(m,s)):=⟨by
   by_cases h:may s k=0
   ·rw[if_neg (by simp[h])] at hm
    rw[ren_err2 h (by rw[hm]; exact h0),hm]
   ·rw[if_pos h] at hm
    rw[ren_err1 h,hm]⟩
  have h0':¬ (m:Int)=0:=by omega
  clear hm hsn
  go_enter Tryd.func56,Tryd.ntmps56
  go_wp2_with fail
  refine HM.out.mono ?_
  rintro e w1 ⟨rfl,hc1⟩
  go_wp2
  go_ret
  exact⟨by rw[HR.out]; rfl,g,mb,ad,by rw[HR.out]; exact H.out.keep hc1,Dgo.quiet hc1⟩
end
end
section
open Go.RowKit Go.Oct Go.Su Go.Dk Go.Maps
inductive Rt where
 | no | dk | row | by
structure Fls (w:World) (h:Nat→Rt) (us:List Value) (fs:Fs):Prop where
 len:us.length=fs.length*3
 at_:∀ j x,fs[j]? = some x→∃ A c,us[j*3]? = some (kv x.nm)∧us[j*3+1]? = some (.slice A x.bs.length c)∧us[j*3+2]? = some (.int .i64 (x.la:Int))∧Sl w (fun b=>h b = .by) .u8 A x.bs.length x.bs∧x.bs.length≤c∧c≤maxLen
section
variable {w w' w2:World} {h h' h2:Nat→Rt} {us vs:List Value} {fs gs:Fs} {S:Nat→Prop} {x y:Fl} {k:Key}
def leftI:Option Nat→Int
 | none => -1
 | some n=>n
structure Rdk (w:World) (h:Nat→Rt) (d:Nat) (s:Ds):Prop where
 ok:DsOk s
 lt:∀ b,h b ≠ .no→b<w.heap.size
 tag:h d = .dk
 zf:∀ j,w.frozen? ⟨d,j,none⟩=false
 c0:w.cell? ⟨d,0,none⟩=some (.int .i64 (s.room:Int))
 c2:w.cell? ⟨d,2,none⟩=some (.int .i64 (leftI s.left))
 lb:∀ n,s.left=some n→n≤9223372036854775807
 row:∃ v us,w.cell? ⟨d,1,none⟩=some v∧w.ownsRow 0 79 3 v s.fs.length us∧(∀ r,v.ownBlock=some r→h r = .row)∧Fls w h us s.fs
end
end
section
open Go.RowKit Go.Oct Go.Su Go.Dk Go.Maps
section
variable {w w' w2:World} {h h' h2:Nat→Rt} {us vs:List Value} {fs gs:Fs} {S F:Nat→Prop} {x y:Fl} {k:Key} {d:Nat} {s:Ds}
end
end
section
open Go.RowKit Go.Oct Go.Su Go.Dk Go.Maps
structure Ro {α:Type} (w:World) (F:Nat→Prop) (k:Nat) (E:List Value→α→Prop) (A:Option Addr) (n:Nat) (av:List α):Prop where
 len:av.length=n
 at_:0<n→∃ b off,A=some ⟨b,off,none⟩∧F b∧∀ j a,av[j]? = some a→∃ cs,cs.length=k∧E cs a∧∀ i u,cs[i]? = some u→w.cell? ⟨b,off+j*k+i,none⟩=some u
section
variable {α:Type} {w w':World} {F G S:Nat→Prop} {k:Nat} {E E':List Value→α→Prop} {A:Option Addr} {n:Nat} {av:List α}
theorem Ro.nil (w:World) (F:Nat→Prop) (k:Nat) (E:List Value→α→Prop) (A:Option Addr):Ro w F k E A 0 []:=⟨rfl,fun h=>absurd h (by omega)⟩
theorem Ro.get (h:Ro w F k E A n av) {j:Nat} (hj:j<n):∃ b off a cs,A=some ⟨b,off,none⟩∧F b∧av[j]? = some a∧cs.length=k∧E cs a∧∀ i u,cs[i]? = some u→w.cell? ⟨b,off+j*k+i,none⟩=some u:=by
 obtain⟨b,off,e,hb,hc⟩:=h.at_ (by omega)
 have h0:av[j]? = some (av[j]'(by have:=h.len; omega)):=List.getElem?_eq_getElem _
 obtain⟨cs,hl,he,hi⟩:=hc j _ h0
 exact⟨b,off,_,cs,e,hb,h0,hl,he,hi⟩
end
structure Stp where
 kind:Int
 num:Int
 name:Key
 a:List Int
 b:List Int
 stay:List Key
def StpE (w:World) (F:Nat→Prop) (cs:List Value) (s:Stp):Prop:=∃ A c B d E e,cs=[.int .i64 s.kind, .int .i64 s.num,kv s.name, .slice A s.a.length c, .slice B s.b.length d, .slice E s.stay.length e] ∧
 Sl w F .u8 A s.a.length s.a∧Sl w F .u8 B s.b.length s.b∧Kss w F E s.stay.length s.stay∧(s.a.length≤c∧c≤maxLen)∧(s.b.length≤d∧d≤maxLen)∧s.stay.length≤e∧e≤maxLen
structure StpOk (s:Stp):Prop where
 kind : -9223372036854775808≤s.kind∧s.kind≤9223372036854775807
 num : -9223372036854775808≤s.num∧s.num≤9223372036854775807
 name:s.name.length≤140737488351232
 a:s.a.length≤140737488351232
 b:s.b.length≤140737488351232
 stay:s.stay.length≤140737488351232
 each:∀ k∈s.stay,k.length≤140737488351232
 ba:∀ x∈s.a,0≤x∧x<256
 bb:∀ x∈s.b,0≤x∧x<256
def Stps (w:World) (F:Nat→Prop) (A:Option Addr) (n:Nat) (l:List Stp):Prop:=Ro w F 6 (StpE w F) A n l
section
variable {w w':World} {F G S:Nat→Prop} {A:Option Addr} {n:Nat} {l:List Stp} {s:Stp} {cs:List Value}
end
end
section
open Go.RowKit Go.Oct Go.Su Go.Dk Go.Maps
section
variable {F:Nat→Prop}
end
end
end Go.Proofs.YtoolcbaipinloaaDoor
