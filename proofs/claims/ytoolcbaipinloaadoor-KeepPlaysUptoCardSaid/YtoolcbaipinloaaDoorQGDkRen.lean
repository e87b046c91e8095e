/- Lemmas and contracts of this proof. Conditions: said at each. -/
import Derived.Test.YtoolcbaipinloaaDoorQGDkEach
set_option maxHeartbeats 8000000
set_option maxRecDepth 100000
namespace Go.Proofs.YtoolcbaipinloaaDoor
section
open Go.RowKit Go.Oct Go.Su Go.Dk Go.Maps
section
variable {w w':World} {g g':Nat→Tg} {d:Nat} {mb:Option Nat} {ad:Key→Nat} {s s':Ds} {F S:Nat→Prop} {x y:Fl} {k j:Key}
open Classical in
noncomputable def tagR (g:Nat→Tg) (k j:Key):Nat→Tg:=fun i=>if g i = .fl k then .fl j else if g i = .rw k then .rw j else g i
theorem tagR_no {g:Nat→Tg} {k j:Key} {i:Nat}:tagR g k j i ≠ .no↔g i ≠ .no:=by
 unfold tagR
 by_cases h1:g i = .fl k
 ·rw[if_pos h1,h1]; simp
 ·by_cases h2:g i = .rw k
  ·rw[if_neg h1,if_pos h2,h2]; simp
  ·rw[if_neg h1,if_neg h2]
theorem tagR_same {g:Nat→Tg} {k j:Key} {i:Nat} (h1:g i ≠ .fl k) (h2:g i ≠ .rw k):tagR g k j i=g i:=by
 unfold tagR
 rw[if_neg h1,if_neg h2]
theorem Dsk.renamed {b n:Nat} (h:Dsk w g d (some b) ad s) (hx:x∈s.fs) (hj:okN j) (hno:fnd s.fs j=none) (hc:Ch (fun i=>i=b) w w') (hm:w'.ownsMap Tryd.prog 9 heldR b n (((mapD s.fs ad).del (.string x.nm)).put (.string j) (.held (pv (ad x.nm)))))
  (hm0:∃ w0 n0,World.ownsMap w0 Tryd.prog 9 heldR b n0 ((mapD s.fs ad).del (.string x.nm))) :
  Dsk w' (tagR g x.nm j) d (some b) (at1 ad j (ad x.nm)) ⟨s.room,put (del s.fs x.nm) ⟨j,x.bs,x.la⟩,s.left⟩:=by
 obtain⟨hb,ho⟩:=h.some_ b rfl
 have hdb:d≠b:=fun e=>by have:=h.tag; rw[e,hb] at this; cases this
 obtain⟨fz,lf,c3,c4,hf⟩:=h.fuse
 have hcd:∀ {q:Nat} {u:Value},w.cell? ⟨d,q,none⟩=some u→w'.cell? ⟨d,q,none⟩=some u:=fun hu=>hc.cell (p:=⟨d,_,none⟩) hdb hu
 have hrd:=rise_del h.ok.fine.rise x.nm
 have hnod:∀ f∈del s.fs x.nm,f.nm≠j:=fun f hf=>fnd_none hno f (mem_del.1 hf).1
 have hu:=used_at h.ok.fine.rise hx
 have hl:=len_del h.ok.fine.rise hx
 have hus:used (put (del s.fs x.nm) ⟨j,x.bs,x.la⟩)=used s.fs:=by
  rw[used_put,del_no hrd hnod,hu]
 have hF:=h.files x hx
 have ok:DsOk ⟨s.room,put (del s.fs x.nm) ⟨j,x.bs,x.la⟩,s.left⟩:=⟨(h.ok.fine.del _).put hj (h.ok.fine.la x hx) (h.ok.fine.byte x hx),by show used (put (del s.fs x.nm) ⟨j,x.bs,x.la⟩)≤s.room; rw[hus]; exact h.ok.used,h.ok.room,by
  show (put (del s.fs x.nm) ⟨j,x.bs,x.la⟩).length≤4096
  rw[len_put_new (g:=⟨j,x.bs,x.la⟩) hrd hnod]
  have:=h.ok.most
  omega⟩
 have hsame:∀ {i:Nat} {t:Tg},g i=t→t ≠ .fl x.nm→t ≠ .rw x.nm→tagR g x.nm j i=t:=fun hg h1 h2=>(tagR_same (by rw[hg]; exact h1) (by rw[hg]; exact h2)).trans hg
 refine⟨ok,fun i hi=>Nat.lt_of_lt_of_le (h.lt i (tagR_no.1 hi)) hc.size,hsame h.tag (fun e=>by cases e) (fun e=>by cases e),fun q=>?_,hcd h.c0,hcd h.c1,?_,⟨fz,lf,hcd c3,hcd c4,hf⟩,(fun e=>by cases e),fun i hi=>?_,fun z hz=>?_⟩
 ·rw[hc.frozen (p:=⟨d,q,none⟩) hdb h.lt_d]; exact h.zf q
 ·rw[hcd h.c2]
  show _=some (Value.int .i64 (used (put (del s.fs x.nm) ⟨j,x.bs,x.la⟩):Int))
  rw[hus]
 ·injection hi with hi
  subst hi
  refine⟨hsame hb (fun e=>by cases e) (fun e=>by cases e),?_⟩
  obtain⟨w0,n0,hm0⟩:=hm0
  have h1:=own_tight hm
  rw[del_canon mapLaw h.ok.fine.rise hm0] at h1 hm
  have h2:(mapD (del s.fs x.nm) ad).put (.string j) (.held (pv (ad x.nm)))=mapD (put (del s.fs x.nm) ⟨j,x.bs,x.la⟩) (at1 ad j (ad x.nm)):=put_canon (f:=⟨j,x.bs,x.la⟩) mapLaw hrd hm
  rw[h2,size_mapD] at h1
  exact h1
 ·rcases mem_put.1 hz with rfl | ⟨hz,hzn⟩
  ·have hat:at1 ad j (ad x.nm) j=ad x.nm:=if_pos rfl
   show Fil w' _ (at1 ad j (ad x.nm) j) _
   rw[hat]
   have hF':=hF.ch hc (fun i hi e=>by subst e; rw[hb] at hi; rcases hi with hi | hi <;> cases hi)
   obtain⟨v,b0,b1,hown,hr⟩:=hF'.row
   exact⟨by show tagR g x.nm j (ad x.nm) = .fl j; unfold tagR; rw[if_pos hF.tag],hF'.zf,v,b0,b1,hown,fun r hv=>by
    have:=hr r hv
    show tagR g x.nm j r = .rw j
    unfold tagR
    rw[if_neg (by rw[this]; exact fun e=>by cases e),if_pos this]⟩
  ·obtain⟨hz1,hz2⟩:=mem_del.1 hz
   have hat:at1 ad j (ad x.nm) z.nm=ad z.nm:=if_neg hzn
   rw[hat]
   refine (((h.files z hz1).ch hc fun i hi e=>?_).tags fun i hi=>?_)
   ·subst e
    rw[hb] at hi
    rcases hi with hi | hi <;> cases hi
   ·rcases hi with hi | hi
    ·exact tagR_same (by rw[hi]; intro e; injection e with e; exact hz2 e) (by rw[hi]; exact fun e=>by cases e)
    ·exact tagR_same (by rw[hi]; exact fun e=>by cases e) (by rw[hi]; intro e; injection e with e; exact hz2 e)
theorem Kss.two (w:World) (e:TypeId) (k j:Key):Kss (w.alloc (.cells #[kv k,kv j] e)) (fun b=>b=w.heap.size) (some ⟨w.heap.size,0,none⟩) 2 [k,j]:=Vs.built w e [kv k,kv j]
theorem mays_two (s:Ds) (k j:Key):mays s [k,j]=if may s k≠0 then may s k else may s j:=by
 unfold mays may
 by_cases h1:s.left=some 0
 ·simp[h1]
 ·by_cases h2:okN k
  ·by_cases h3:okN j <;> simp[h1,h2,h3]
  ·simp[h1,h2]
theorem may2_any (h:Dsk w g d mb ad s) (hk:k.length≤9223372036854775807) (hj:j.length≤9223372036854775807) :
  Calls Tryd.prog 42 #[pv d, .slice (some ⟨w.heap.size,0,none⟩) 2 2] (w.alloc (.cells #[kv k,kv j] 9)) fun e w'=>e = .returned (.int .i64 (mays s [k,j]:Nat))∧Ch (fun _=>False) w w' :=
 (may_any [k,j] _ 2 2 (w.alloc (.cells #[kv k,kv j] 9)) (h.keep ((Ch.refl (fun _=>False) w).alloc _)) (Kss.two w 9 k j) (by decide) (fun i hi=>by simp at hi; rcases hi with rfl | rfl <;> assumption)).mono fun e w' ⟨h1,h2⟩=>⟨h1,((Ch.refl (fun _=>False) w).alloc _).trans h2 (fun _ _ h=>h)⟩
theorem fs_ext:∀ {a b:Fs},Rise (nms a)→Rise (nms b)→(∀ f,f∈a↔f∈b)→a=b
 | [],[],_,_,_=>rfl
 | [],y::r,_,_,h=>by have:=(h y).2 (by simp); simp at this
 | x::r,[],_,_,h=>by have:=(h x).1 (by simp); simp at this
 | x::r,y::q,h1,h2,h=>by
  obtain⟨a1,a2⟩:=List.pairwise_cons.1 (show List.Pairwise (fun a b:Key=>a<b) (x.nm::nms r) from h1)
  obtain⟨b1,b2⟩:=List.pairwise_cons.1 (show List.Pairwise (fun a b:Key=>a<b) (y.nm::nms q) from h2)
  have hxy:x=y:=by
   rcases List.mem_cons.1 ((h x).1 (by simp)) with e | hx
   ·exact e
   ·rcases List.mem_cons.1 ((h y).2 (by simp)) with e | hy
    ·exact e.symm
    ·exact absurd (key_trans (a1 y.nm (List.mem_map_of_mem hy)) (b1 x.nm (List.mem_map_of_mem hx))) (key_irrefl _)
  subst hxy
  rw[fs_ext a2 b2 (fun p=>⟨fun hp=>by
   rcases List.mem_cons.1 ((h p).1 (by simp[hp])) with e | hp'
   ·exact absurd (a1 p.nm (List.mem_map_of_mem hp)) (by rw[e]; exact key_irrefl _)
   ·exact hp',fun hp=>by
   rcases List.mem_cons.1 ((h p).2 (by simp[hp])) with e | hp'
   ·exact absurd (b1 p.nm (List.mem_map_of_mem hp)) (by rw[e]; exact key_irrefl _)
   ·exact hp'⟩)]
theorem put_del2 {fs:Fs} (h:Rise (nms fs)) (a:Key) (f:Fl):put (del (del fs f.nm) a) f=put (del fs a) f :=
 fs_ext (rise_put (rise_del (rise_del h _) _) _) (rise_put (rise_del h _) _) fun z=>by
  rw[mem_put,mem_put,mem_del,mem_del,mem_del]
  constructor
  ·rintro (e | ⟨⟨⟨h1,h2⟩,h3⟩,h4⟩)
   ·exact .inl e
   ·exact .inr ⟨⟨h1,h3⟩,h4⟩
  ·rintro (e | ⟨⟨h1,h2⟩,h3⟩)
   ·exact .inl e
   ·exact .inr ⟨⟨⟨h1,h3⟩,h2⟩,h3⟩
theorem str_ne (a b:Key):((⟨a.toArray⟩:ByteArray).toList==(⟨b.toArray⟩:ByteArray).toList)=decide (a=b):=by
 rw[Lib.toList_data,Lib.toList_data]
 rw[Bool.eq_iff_iff]
 simp
theorem ren_err1 (h:may s k≠0):opRen s k j=(may s k,s):=by unfold opRen; rw[if_pos h]
theorem ren_err2 (h:may s k=0) (h2:may s j≠0):opRen s k j=(may s j,s):=by unfold opRen; rw[if_neg (by simp[h]),if_pos h2]
theorem ren_no (h:may s k=0) (h2:may s j=0) (hf:fnd s.fs k=none):opRen s k j=(7,s):=by unfold opRen; rw[if_neg (by simp[h]),if_neg (by simp[h2]),hf]
theorem ren_same (h:may s k=0) (hf:fnd s.fs k=some x):opRen s k k=(0,⟨s.room,s.fs,tick s.left⟩):=by unfold opRen; rw[if_neg (by simp[h]),if_neg (by simp[h]),hf]; simp
theorem ren_ok (h:may s k=0) (h2:may s j=0) (hf:fnd s.fs k=some x) (hne:k≠j):opRen s k j=(0,⟨s.room,put (del s.fs k) ⟨j,x.bs,x.la⟩,tick s.left⟩):=by unfold opRen; rw[if_neg (by simp[h]),if_neg (by simp[h2]),hf]; simp[hne]
end
end
section
open Go.RowKit Go.Oct Go.Su Go.Dk Go.Maps
section
variable {w w':World} {g g':Nat→Tg} {d:Nat} {mb:Option Nat} {ad:Key→Nat} {s s':Ds} {F S:Nat→Prop} {x y:Fl} {k j:Key}
theorem rename_any (h:Dsk w g d mb ad s) (hk:k.length≤9223372036854775807) (hj:j.length≤9223372036854775807):Calls Tryd.prog 56 #[pv d,kv k,kv j] w (Post (opRen s k j) d w g):=by
 have hp:pv d = .pointer (some ⟨d,0,none⟩):=rfl
 have HM:=Bx.mk (may2_any h hk hj)
 have H:=Bx.mk h
 have HKL:=Bx.mk hk
 have HJL:=Bx.mk hj
 have HDR:Bx (∀ w1,Ch (fun _=>False) w w1→Calls Tryd.prog 77 #[pv d,kv j] w1 fun e w'=>e = .returned (.tuple #[])∧Dsk w' g d mb ad ⟨s.room,del s.fs j,s.left⟩∧Dgo w1 g w' g):=⟨fun w1 hc=>drop_any (h.keep hc) hj⟩
 have hsn:=str_ne j k
 obtain⟨S,hkv⟩:∃ S,(⟨k.toArray⟩:ByteArray)=S:=⟨_,rfl⟩
 obtain⟨T,hjv⟩:∃ T,(⟨j.toArray⟩:ByteArray)=T:=⟨_,rfl⟩
 rw[hkv,hjv] at hsn
 have hkv:kv k = .string S:=by unfold kv; rw[hkv]
 have hjv:kv j = .string T:=by unfold kv; rw[hjv]
 obtain⟨m,hm⟩:∃ m,mays s [k,j]=m:=⟨_,rfl⟩
 have HKV:=Bx.mk hkv
 have HJV:=Bx.mk hjv
 rw[hp] at HM HDR ⊢
 rw[hkv,hjv] at HM ⊢
 rw[hjv] at HDR
 rw[hm] at HM
 rw[mays_two] at hm
 clear hp h hk hj hkv hjv
 by_cases h0:m=0
 ·subst h0
  have HMK:Bx (may s k=0):=⟨by
   by_cases h:may s k=0
   ·exact h
   ·rw[if_pos h] at hm; exact absurd hm h⟩
  have HMJ:Bx (may s j=0):=⟨by rw[if_neg (by simp[HMK.out])] at hm; exact hm⟩
  clear hm
  cases hf:fnd s.fs k with
  | none =>
   have HR:=Bx.mk (ren_no (j:=j) HMK.out HMJ.out hf)
   have HF:=Bx.mk hf
   clear hf hsn
   go_enter Tryd.func56,Tryd.ntmps56
   go_wp2_with fail
   refine HM.out.mono ?_
   rintro e w1 ⟨rfl,hc1⟩
   have H1:=Bx.mk (H.out.keep hc1)
   have hlk:=H1.out.look_no HF.out (by unfold maxLen; exact HKL.out)
   have c0:=H1.out.c0
   rw[HKV.out] at hlk
   have HC1:=Bx.mk hc1
   clear hc1
   go_wp2
   go_ret
   exact⟨by rw[HR.out]; rfl,g,mb,ad,by rw[HR.out]; exact H1.out,Dgo.quiet HC1.out⟩
  | some x =>
   have HF:=Bx.mk hf
   clear hf
   by_cases hkj:k=j
   ·subst hkj
    have HR:=Bx.mk (ren_same HMK.out HF.out)
    have hsn2:(T.toList==S.toList)=true:=by rw[hsn]; simp
    clear hsn
    go_enter Tryd.func56,Tryd.ntmps56
    go_wp2_with fail
    refine HM.out.mono ?_
    rintro e w1 ⟨rfl,hc1⟩
    have H1:=Bx.mk (H.out.keep hc1)
    have hlk:=H1.out.look_yes HF.out (by unfold maxLen; exact HKL.out)
    have c0:=H1.out.c0
    rw[HKV.out] at hlk
    have HC1:=Bx.mk hc1
    have HD:=Bx.mk (done_any H1.out (may_ok HMK.out).1)
    rw[show pv d = .pointer (some ⟨d,0,none⟩) from rfl] at HD
    clear hc1
    go_wp2_with fail
    refine HD.out.mono ?_
    rintro e w4 ⟨rfl,hd4,hc4⟩
    go_wp2
    go_ret
    exact⟨by rw[HR.out]; rfl,g,mb,ad,by rw[HR.out]; exact hd4,(Dgo.quiet HC1.out).trans ⟨hc4.mono (fun i _ hi=>by rw[hi,H.out.tag]; exact (fun e=>by cases e)),fun b hb => .inl hb⟩⟩
   ·have HR:=Bx.mk (ren_ok HMK.out HMJ.out HF.out hkj)
    have HKJ:=Bx.mk hkj
    have hsn2:(T.toList==S.toList)=false:=by rw[hsn]; simp; exact fun e=>hkj e.symm
    obtain⟨hxm,hxn⟩:=fnd_some HF.out
    have HXM:=Bx.mk hxm
    have HXN:=Bx.mk hxn
    obtain⟨b,rfl⟩:∃ b,mb=some b:=by
     cases mb with
     | none=>rw[H.out.none_ rfl] at hxm; simp at hxm
     | some b=>exact⟨b,rfl⟩
    clear hsn hkj hxm hxn
    go_enter Tryd.func56,Tryd.ntmps56
    go_wp2_with fail
    refine HM.out.mono ?_
    rintro e w1 ⟨rfl,hc1⟩
    have H1:=Bx.mk (H.out.keep hc1)
    have hlk:=H1.out.look_yes HF.out (by unfold maxLen; exact HKL.out)
    have c0:=H1.out.c0
    rw[HKV.out] at hlk
    have HC1:=Bx.mk hc1
    have HDR1:=Bx.mk (HDR.out w1 hc1)
    obtain⟨a,ha⟩:∃ a,ad k=a:=⟨_,rfl⟩
    rw[ha] at hlk
    have HA:=Bx.mk ha
    clear hc1 HM HDR ha
    go_wp2_with fail
    refine HDR1.out.mono ?_
    rintro e w2 ⟨rfl,hd2,hg2⟩
    have HX2:Bx (x∈del s.fs j):=⟨mem_del.2 ⟨HXM.out,by rw[HXN.out]; exact HKJ.out⟩⟩
    have c02:=hd2.c0
    have hown:=(hd2.some_ b rfl).2
    have HBT:=Bx.mk (hd2.some_ b rfl).1
    obtain⟨w3,hdel,hown3,hturn3⟩:=hown.drop mapLaw mapT (key := .string S) (kl := .string k) (by rw[←HKV.out]; exact key_of (by unfold maxLen; exact HKL.out)) 0
    have hc3:=ch_turned hturn3
    have hle:(del s.fs j).length<maxLen:=by
     have:=hd2.ok.most
     have e:(Ds.mk s.room (del s.fs j) s.left).fs=del s.fs j:=rfl
     rw[e] at this
     unfold maxLen
     omega
    obtain⟨w4,hup,hown4,hg4⟩:=hown3.update (val:=pv (ad k)) (d := .held (pv (ad k))) (ps:=[]) (key := .string T) (kl := .string j) mapLaw mapT hle (by rw[←HJV.out]; exact key_of (by unfold maxLen; exact HJL.out)) rfl
    have hc4:Ch (fun i=>i=b) w3 w4:=⟨hg4.os,hg4.tape,hg4.output,hg4.size,fun i hi hn=>hg4.block i hi (fun e=>hn (by injection e))⟩
    have c03:w3.cell? ⟨d,0,none⟩=some (.map (some b)):=hc3.cell (p:=⟨d,0,none⟩) (fun e=>by have:=hd2.tag; rw[show d=b from e,HBT.out] at this; cases this) c02
    have HR4:Bx (Dsk w4 (tagR g k j) d (some b) (at1 ad j (ad k)) ⟨s.room,put (del s.fs k) ⟨j,x.bs,x.la⟩,s.left⟩∧Ch (fun i=>i=b) w2 w4):=⟨by
     have hc:=hc3.trans hc4 (fun _ _ h=>h)
     refine⟨?_,hc⟩
     have h5:=hd2.renamed (x:=x) (j:=j) HX2.out (may_ok HMJ.out).2 (fnd_del_same _ _) hc (by rw[HXN.out]; exact hown4) ⟨w3,_,by rw[HXN.out]; exact hown3⟩
     have e:=put_del2 H.out.ok.fine.rise k ⟨j,x.bs,x.la⟩
     rw[HXN.out] at h5
     have h6:Dsk w4 (tagR g k j) d (some b) (at1 ad j (ad k)) ⟨s.room,put (del (del s.fs j) k) ⟨j,x.bs,x.la⟩,s.left⟩:=h5
     rw[e] at h6
     exact h6⟩
    have hup':(Instr.mapUpdate 57 (.map (some b)) (.string T) (.pointer (some ⟨a,0,none⟩))).run Tryd.prog w3 = .ok () w4:=by rw[←HA.out]; exact hup
    have HG2:=Bx.mk hg2
    have HD:=Bx.mk (done_any HR4.out.1 (may_ok HMK.out).1)
    rw[show pv d = .pointer (some ⟨d,0,none⟩) from rfl] at HD
    clear hlk c0 hd2 hg2 hown hown3 hturn3 hc3 hle hup hown4 hg4 hc4
    go_wp2_with fail
    refine HD.out.mono ?_
    rintro e w5 ⟨rfl,hd5,hc5⟩
    go_wp2
    go_ret
    refine⟨by rw[HR.out]; rfl,tagR g k j,some b,at1 ad j (ad k),by rw[HR.out]; exact hd5,?_⟩
    have e1:Dgo w g w4 (tagR g k j):=((Dgo.quiet HC1.out).trans HG2.out).trans ⟨HR4.out.2.mono (fun i _ hi=>by rw[hi,HBT.out]; exact (fun e=>by cases e)),fun i hi => .inl (tagR_no.1 hi)⟩
    exact e1.trans ⟨hc5.mono (fun i _ hi=>by rw[hi,HR4.out.1.tag]; exact (fun e=>by cases e)),fun i hi => .inl hi⟩
 ·have HR:Bx (opRen s k j=(m,s)):=⟨by
   by_cases h:may s k=0
   ·rw[if_neg (by simp[h])] at hm
    rw[ren_err2 h (by rw[hm]; exact h0),hm]
   ·rw[if_pos h] at hm
    rw[ren_err1 h,hm]⟩
  have h0':¬ (m:Int)=0:=by omega
  clear hm hsn
  go_enter Tryd.func56,Tryd.ntmps56
  go_wp2_with fail
  refine HM.out.mono ?_
  rintro e w1 ⟨rfl,hc1⟩
  go_wp2
  go_ret
  exact⟨by rw[HR.out]; rfl,g,mb,ad,by rw[HR.out]; exact H.out.keep hc1,Dgo.quiet hc1⟩
end
end
section
open Go.RowKit Go.Oct Go.Su Go.Dk Go.Maps
inductive Rt where
 | no | dk | row | by
theorem elemFl:ElemK Tryd.prog 60 79 (.agg #[.string ByteArray.empty, .slice none 0 0, .int .i64 0]) 3 48:=⟨Tryd.underlying60,by kernel_rfl,rfl,by decide⟩
structure Fls (w:World) (h:Nat→Rt) (us:List Value) (fs:Fs):Prop where
 len:us.length=fs.length*3
 at_:∀ j x,fs[j]? = some x→∃ A c,us[j*3]? = some (kv x.nm)∧us[j*3+1]? = some (.slice A x.bs.length c)∧us[j*3+2]? = some (.int .i64 (x.la:Int))∧Sl w (fun b=>h b = .by) .u8 A x.bs.length x.bs∧x.bs.length≤c∧c≤maxLen
section
variable {w w' w2:World} {h h' h2:Nat→Rt} {us vs:List Value} {fs gs:Fs} {S:Nat→Prop} {x y:Fl} {k:Key}
theorem Fls.nil (w:World) (h:Nat→Rt):Fls w h [] []:=⟨rfl,fun j x hx=>by simp at hx⟩
theorem Fls.ch (H:Fls w h us fs) (hc:Ch S w w') (hS:∀ b,h b = .by→¬ S b):Fls w' h us fs :=
 ⟨H.len,fun j x hx=>by
  obtain⟨A,c,h1,h2,h3,h4,r⟩:=H.at_ j x hx
  exact⟨A,c,h1,h2,h3,h4.ch hc (fun b hb _=>hS b hb),r⟩⟩
theorem Fls.tags (H:Fls w h us fs) (ht:∀ b,b<w.heap.size→h b = .by→h' b = .by):Fls w h' us fs :=
 ⟨H.len,fun j x hx=>by
  obtain⟨A,c,h1,h2,h3,h4,r⟩:=H.at_ j x hx
  exact⟨A,c,h1,h2,h3,h4.mono (fun b hl hb=>ht b hl hb),r⟩⟩
theorem Fls.app (H:Fls w h us fs) (K:Fls w h vs gs):Fls w h (us++vs) (fs++gs):=by
 refine⟨by rw[List.length_append,List.length_append,H.len,K.len]; omega,fun j x hx=>?_⟩
 have hl:=H.len
 rcases Nat.lt_or_ge j fs.length with hj | hj
 ·rw[List.getElem?_append_left hj] at hx
  obtain⟨A,c,h1,h2,h3,r⟩:=H.at_ j x hx
  exact⟨A,c,by rw[List.getElem?_append_left (by omega)]; exact h1,by rw[List.getElem?_append_left (by omega)]; exact h2,by rw[List.getElem?_append_left (by omega)]; exact h3,r⟩
 ·rw[List.getElem?_append_right hj] at hx
  obtain⟨A,c,h1,h2,h3,r⟩:=K.at_ _ x hx
  refine⟨A,c,?_,?_,?_,r⟩
  ·rw[List.getElem?_append_right (by omega),hl,show j*3-fs.length*3=(j-fs.length)*3 by omega]; exact h1
  ·rw[List.getElem?_append_right (by omega),hl,show j*3+1-fs.length*3=(j-fs.length)*3+1 by omega]; exact h2
  ·rw[List.getElem?_append_right (by omega),hl,show j*3+2-fs.length*3=(j-fs.length)*3+2 by omega]; exact h3
theorem Fls.take (H:Fls w h us fs) {i:Nat} (hi:i≤fs.length):Fls w h (us.take (i*3)) (fs.take i):=by
 have hl:=H.len
 refine⟨by rw[List.length_take,List.length_take]; omega,fun j x hx=>?_⟩
 rw[List.getElem?_take] at hx
 split at hx
 ·rename_i hj
  obtain⟨A,c,h1,h2,h3,r⟩:=H.at_ j x hx
  exact⟨A,c,by rw[List.getElem?_take,if_pos (by omega)]; exact h1,by rw[List.getElem?_take,if_pos (by omega)]; exact h2,by rw[List.getElem?_take,if_pos (by omega)]; exact h3,r⟩
 ·cases hx
theorem Fls.drop (H:Fls w h us fs) {i:Nat} (hi:i≤fs.length):Fls w h (us.drop (i*3)) (fs.drop i):=by
 have hl:=H.len
 refine⟨by rw[List.length_drop,List.length_drop]; omega,fun j x hx=>?_⟩
 rw[List.getElem?_drop] at hx
 obtain⟨A,c,h1,h2,h3,r⟩:=H.at_ _ x hx
 exact⟨A,c,by rw[List.getElem?_drop,show i*3+j*3=(i+j)*3 by omega]; exact h1,by rw[List.getElem?_drop,show i*3+(j*3+1)=(i+j)*3+1 by omega]; exact h2,by rw[List.getElem?_drop,show i*3+(j*3+2)=(i+j)*3+2 by omega]; exact h3,r⟩
theorem Fls.one {A:Option Addr} {c:Nat} (x:Fl) (h4:Sl w (fun b=>h b = .by) .u8 A x.bs.length x.bs) (h5:x.bs.length≤c) (h6:c≤maxLen):Fls w h [kv x.nm, .slice A x.bs.length c, .int .i64 (x.la:Int)] [x]:=by
 refine⟨rfl,fun j y hy=>?_⟩
 match j,hy with
 | 0,hy =>
  obtain rfl:x=y:=by simpa using hy
  exact⟨A,c,rfl,rfl,rfl,h4,h5,h6⟩
theorem set_at {l:List Value} {i j:Nat} {u v:Value} (hij:i≠j) (h:l[j]? = some u):(l.set i v)[j]? = some u:=by rw[List.getElem?_set_ne hij]; exact h
theorem Fls.setB (H:Fls w h us fs) {i:Nat} (hx:fs[i]? = some x) (hy:y.nm=x.nm∧y.la=x.la) {A:Option Addr} {c:Nat} (h4:Sl w (fun b=>h b = .by) .u8 A y.bs.length y.bs) (h5:y.bs.length≤c) (h6:c≤maxLen):Fls w h (us.set (i*3+1) (.slice A y.bs.length c)) (fs.set i y):=by
 have hl:=H.len
 obtain⟨hi,_⟩:=List.getElem?_eq_some_iff.1 hx
 refine⟨by simp[hl],fun j z hz=>?_⟩
 by_cases e:j=i
 ·subst e
  obtain rfl:y=z:=by rw[List.getElem?_set_self hi] at hz; injection hz
  obtain⟨A0,c0,h1,h2,h3,_⟩:=H.at_ _ x hx
  exact⟨A,c,by rw[hy.1]; exact set_at (by omega) h1,by rw[List.getElem?_set_self (by omega)],by rw[hy.2]; exact set_at (by omega) h3,h4,h5,h6⟩
 ·rw[List.getElem?_set_ne (fun e2=>e e2.symm)] at hz
  obtain⟨A0,c0,h1,h2,h3,r⟩:=H.at_ _ z hz
  exact⟨A0,c0,set_at (by omega) h1,set_at (by omega) h2,set_at (by omega) h3,r⟩
theorem Fls.setL (H:Fls w h us fs) {i:Nat} (hx:fs[i]? = some x) (n:Nat):Fls w h (us.set (i*3+2) (.int .i64 (n:Int))) (fs.set i ⟨x.nm,x.bs,n⟩):=by
 have hl:=H.len
 obtain⟨hi,_⟩:=List.getElem?_eq_some_iff.1 hx
 refine⟨by simp[hl],fun j z hz=>?_⟩
 by_cases e:j=i
 ·subst e
  obtain rfl:(⟨x.nm,x.bs,n⟩:Fl)=z:=by rw[List.getElem?_set_self hi] at hz; injection hz
  obtain⟨A0,c0,h1,h2,h3,r⟩:=H.at_ _ x hx
  exact⟨A0,c0,set_at (by omega) h1,set_at (by omega) h2,by rw[List.getElem?_set_self (by omega)],r⟩
 ·rw[List.getElem?_set_ne (fun e2=>e e2.symm)] at hz
  obtain⟨A0,c0,h1,h2,h3,r⟩:=H.at_ _ z hz
  exact⟨A0,c0,set_at (by omega) h1,set_at (by omega) h2,set_at (by omega) h3,r⟩
theorem Fls.cells1 (H:Fls w h us fs):∀ u∈us,u.oneCell'=true:=by
 intro u hu
 obtain⟨i,hi,rfl⟩:=List.mem_iff_getElem.1 hu
 have hl:=H.len
 have hj:i/3<fs.length:=by omega
 obtain⟨A,c,h1,h2,h3,_⟩:=H.at_ (i/3) _ (List.getElem?_eq_getElem hj)
 have hm:i=i/3*3∨i=i/3*3+1∨i=i/3*3+2:=by omega
 rcases hm with e | e | e
 ·rw[←e,List.getElem?_eq_getElem hi] at h1
  injection h1 with h1
  rw[h1]; rfl
 ·rw[←e,List.getElem?_eq_getElem hi] at h2
  injection h2 with h2
  rw[h2]; rfl
 ·rw[←e,List.getElem?_eq_getElem hi] at h3
  injection h3 with h3
  rw[h3]; rfl
/-! ### where a name stands -/
theorem lo_take {fs:Fs} {k:Key} {i:Nat} (hr:Rise (nms fs)) (h1:∀ j x,j<i→fs[j]? = some x→x.nm<k) (h2:∀ x,fs[i]? = some x→¬ x.nm<k) (hi:i≤fs.length):lo fs k=fs.take i∧(lo fs k).length=i:=by
 have e:lo fs k=fs.take i:=by
  unfold lo
  have hsp:fs=fs.take i++fs.drop i:=(List.take_append_drop i fs).symm
  have ha:∀ x∈fs.take i,x.nm<k:=fun x hx=>by
   obtain⟨j,hj⟩:=List.getElem?_of_mem hx
   rw[List.getElem?_take] at hj
   split at hj
   ·rename_i hlt; exact h1 j x hlt hj
   ·cases hj
  have hb:∀ x∈fs.drop i,¬x.nm<k:=fun x hx=>by
   obtain⟨j,hj⟩:=List.getElem?_of_mem hx
   rw[List.getElem?_drop] at hj
   rcases Nat.eq_zero_or_pos j with h0 | h0
   ·subst h0; exact h2 x hj
   ·obtain⟨hl,he⟩:=List.getElem?_eq_some_iff.1 hj
    have hil:i<fs.length:=by omega
    have h3:=h2 fs[i] (List.getElem?_eq_getElem hil)
    have hr':=hr
    unfold Rise nms at hr'
    rw[List.pairwise_map] at hr'
    have h4:=List.pairwise_iff_getElem.1 hr' i (i+j) hil hl (by omega)
    intro h5
    rw[←he] at h5
    exact h3 (key_trans h4 h5)
  have:fs.filter (fun f=>decide (f.nm<k))=(fs.take i++fs.drop i).filter (fun f=>decide (f.nm<k)):=by rw[←hsp]
  rw[this,List.filter_append,List.filter_eq_self.2 (fun x hx=>by simpa using ha x hx),List.filter_eq_nil_iff.2 (fun x hx=>by simpa using hb x hx),List.append_nil]
 exact⟨e,by rw[e,List.length_take]; omega⟩
theorem at_lo {fs:Fs} {k:Key} {x:Fl} (hr:Rise (nms fs)) (hf:fnd fs k=some x):fs[(lo fs k).length]? = some x:=by
 obtain⟨hm,rfl⟩:=fnd_some hf
 have e:=split_at hr hm
 have:fs[(lo fs x.nm).length]? = (lo fs x.nm++x::hi fs x.nm)[(lo fs x.nm).length]? := by rw[←e]
 rw[this,List.getElem?_append_right (Nat.le_refl _),Nat.sub_self]
 rfl
theorem lo_le (fs:Fs) (k:Key):(lo fs k).length≤fs.length:=List.length_filter_le _ _
theorem put_at {fs:Fs} {f:Fl} {x:Fl} (hr:Rise (nms fs)) (hf:fnd fs f.nm=some x):put fs f=fs.set (lo fs f.nm).length f:=by
 obtain⟨hm,hn⟩:=fnd_some hf
 have e:=split_at hr hm
 rw[hn] at e
 have:fs.set (lo fs f.nm).length f=(lo fs f.nm++x::hi fs f.nm).set (lo fs f.nm).length f:=by rw[←e]
 rw[this,List.set_append_right _ _ (Nat.le_refl _),Nat.sub_self]
 rfl
theorem put_new {fs:Fs} {f:Fl} (hr:Rise (nms fs)) (hf:fnd fs f.nm=none):put fs f=fs.take (lo fs f.nm).length++f::fs.drop (lo fs f.nm).length:=by
 have e:=split_no hr (fnd_none hf)
 have e1:fs.take (lo fs f.nm).length=lo fs f.nm:=by
  have:fs.take (lo fs f.nm).length=(lo fs f.nm++hi fs f.nm).take (lo fs f.nm).length:=by rw[←e]
  rw[this,List.take_left]
 have e2:fs.drop (lo fs f.nm).length=hi fs f.nm:=by
  have:fs.drop (lo fs f.nm).length=(lo fs f.nm++hi fs f.nm).drop (lo fs f.nm).length:=by rw[←e]
  rw[this,List.drop_left]
 rw[e1,e2]
 rfl
theorem del_at {fs:Fs} {k:Key} {x:Fl} (hr:Rise (nms fs)) (hf:fnd fs k=some x):del fs k=fs.take (lo fs k).length++fs.drop ((lo fs k).length+1):=by
 obtain⟨hm,rfl⟩:=fnd_some hf
 have e:=split_at hr hm
 have e1:fs.take (lo fs x.nm).length=lo fs x.nm:=by
  have:fs.take (lo fs x.nm).length=(lo fs x.nm++x::hi fs x.nm).take (lo fs x.nm).length:=by rw[←e]
  rw[this,List.take_left]
 have e2:fs.drop ((lo fs x.nm).length+1)=hi fs x.nm:=by
  have:fs.drop ((lo fs x.nm).length+1)=(lo fs x.nm++x::hi fs x.nm).drop ((lo fs x.nm).length+1):=by rw[←e]
  rw[this,←List.drop_drop,List.drop_left]
  rfl
 rw[e1,e2]
 rfl
/-! ### the disk -/
def leftI:Option Nat→Int
 | none => -1
 | some n=>n
structure Rdk (w:World) (h:Nat→Rt) (d:Nat) (s:Ds):Prop where
 ok:DsOk s
 lt:∀ b,h b ≠ .no→b<w.heap.size
 tag:h d = .dk
 zf:∀ j,w.frozen? ⟨d,j,none⟩=false
 c0:w.cell? ⟨d,0,none⟩=some (.int .i64 (s.room:Int))
 c2:w.cell? ⟨d,2,none⟩=some (.int .i64 (leftI s.left))
 lb:∀ n,s.left=some n→n≤9223372036854775807
 row:∃ v us,w.cell? ⟨d,1,none⟩=some v∧w.ownsRow 0 79 3 v s.fs.length us∧(∀ r,v.ownBlock=some r→h r = .row)∧Fls w h us s.fs
structure Rgo (w:World) (h:Nat→Rt) (w':World) (h':Nat→Rt):Prop where
 ch:Ch (fun b=>h b ≠ .no) w w'
 new:∀ b,h' b ≠ .no→h b ≠ .no∨w.heap.size≤b
theorem Rgo.refl (w:World) (h:Nat→Rt):Rgo w h w h:=⟨Ch.refl _ _,fun _ h => .inl h⟩
theorem Rgo.quiet (hc:Ch (fun _=>False) w w'):Rgo w h w' h:=⟨hc.mono (fun _ _ h=>h.elim),fun _ h => .inl h⟩
theorem Rgo.trans (H:Rgo w h w' h') (K:Rgo w' h' w2 h2):Rgo w h w2 h2 :=
 ⟨H.ch.trans K.ch fun i hi hs=>by
  rcases H.new i hs with h1 | h1
  ·exact h1
  ·omega,fun b hb=>by
  rcases K.new b hb with h1 | h1
  ·exact H.new b h1
  ·exact .inr (Nat.le_trans H.ch.size h1)⟩
theorem Rdk.lt_d {d:Nat} {s:Ds} (H:Rdk w h d s):d<w.heap.size:=lt_of_cell H.c0
theorem Rdk.ch {d:Nat} {s:Ds} (H:Rdk w h d s) (hc:Ch S w w') (hS:∀ b,h b ≠ .no→¬ S b):Rdk w' h d s:=by
 have hd:¬ S d:=hS d (by rw[H.tag]; exact fun e=>by cases e)
 obtain⟨v,us,c1,ho,hr,hf⟩:=H.row
 exact⟨H.ok,fun b hb=>Nat.lt_of_lt_of_le (H.lt b hb) hc.size,H.tag,fun j=>by rw[hc.frozen (p:=⟨d,j,none⟩) hd H.lt_d]; exact H.zf j,hc.cell (p:=⟨d,0,none⟩) hd H.c0,hc.cell (p:=⟨d,2,none⟩) hd H.c2,H.lb,
  v,us,hc.cell (p:=⟨d,1,none⟩) hd c1,hc.own ho (fun r hv=>hS r (by rw[hr r hv]; exact fun e=>by cases e)),hr,hf.ch hc (fun b hb=>hS b (by rw[hb]; exact fun e=>by cases e))⟩
theorem Rdk.keep {d:Nat} {s:Ds} (H:Rdk w h d s) (hc:Ch (fun _=>False) w w'):Rdk w' h d s:=H.ch hc (fun _ _ h=>h)
def PostR (op:Nat×Ds) (d:Nat) (w:World) (h:Nat→Rt) (e:Ending) (w':World):Prop:=e = .returned (.int .i64 (op.1:Int))∧∃ h',Rdk w' h' d op.2∧Rgo w h w' h'
end
end
section
open Go.RowKit Go.Oct Go.Su Go.Dk Go.Maps
section
variable {w w' w2:World} {h h' h2:Nat→Rt} {us vs:List Value} {fs gs:Fs} {S F:Nat→Prop} {x y:Fl} {k:Key} {d:Nat} {s:Ds}
theorem bless_eq (x:List UInt8):∀ y:List UInt8,Op.bytesLess x y=decide (x<y):=by
 induction x with
 | nil=>intro y; cases y <;> simp[Op.bytesLess]
 | cons a x ih =>
  intro y
  cases y with
  | nil=>simp[Op.bytesLess]
  | cons b y =>
   unfold Op.bytesLess
   rw[ih y,Bool.eq_iff_iff]
   simp only[List.cons_lt_cons_iff,Bool.or_eq_true,Bool.and_eq_true,decide_eq_true_eq,beq_iff_eq]
theorem less_str (a b:Key):Op.bytesLess (⟨a.toArray⟩:ByteArray).toList (⟨b.toArray⟩:ByteArray).toList=decide (a<b):=by
 rw[bless_eq,Lib.toList_data,Lib.toList_data]
theorem Rdk.file (H:Rdk w h d s) {j:Nat} (hj:j<s.fs.length):∃ b c x A cc,w.cell? ⟨d,1,none⟩=some (.slice (some ⟨b,0,none⟩) s.fs.length c)∧s.fs.length≤c∧c≤maxLen∧h b = .row∧s.fs[j]? = some x∧w.cell? ⟨b,j*3,none⟩=some (kv x.nm)∧w.cell? ⟨b,j*3+1,none⟩=some (.slice A x.bs.length cc)∧w.cell? ⟨b,j*3+2,none⟩=some (.int .i64 (x.la:Int)) ∧
  Sl w (fun b=>h b = .by) .u8 A x.bs.length x.bs∧x.bs.length≤cc∧cc≤maxLen∧∀ q,w.frozen? ⟨b,q,none⟩=false:=by
 obtain⟨v,us,c1,ho,hr,hf⟩:=H.row
 rcases own_form ho with ⟨_,e⟩ | ⟨b,c,rfl,h1,h2⟩
 ·omega
 ·obtain⟨A,cc,k1,k2,k3,k4,k5,k6⟩:=hf.at_ j _ (List.getElem?_eq_getElem hj)
  exact⟨b,c,s.fs[j],A,cc,c1,h1,h2,hr b rfl,List.getElem?_eq_getElem hj,by rw[ho.cellAt _ (by omega)]; exact k1,by rw[ho.cellAt _ (by omega)]; exact k2,by rw[ho.cellAt _ (by omega)]; exact k3,k4,k5,k6,fun q=>ho.frozenAt q⟩
theorem Rdk.row_len (H:Rdk w h d s):∃ A c,w.cell? ⟨d,1,none⟩=some (.slice A s.fs.length c)∧s.fs.length≤c∧c≤maxLen:=by
 obtain⟨v,us,c1,ho,_⟩:=H.row
 obtain⟨A,c,rfl,h1,h2⟩:=own_shape ho
 exact⟨A,c,c1,h1,h2⟩
theorem spot_any (H:Rdk w h d s) (k:Key):Calls Tryd.prog 47 #[pv d,kv k] w fun e w'=>e = .returned (.tuple #[.int .i64 ((lo s.fs k).length:Int), .bool (fnd s.fs k).isSome])∧Ch (fun _=>False) w w':=by
 have hp:pv d = .pointer (some ⟨d,0,none⟩):=rfl
 have HH:=Bx.mk H
 have hmost:=H.ok.most
 have HLT:Bx (∀ x∈s.fs,Op.bytesLess (⟨x.nm.toArray⟩:ByteArray).toList (⟨k.toArray⟩:ByteArray).toList=decide (x.nm<k)):=⟨fun x _=>less_str _ _⟩
 have HEQ:Bx (∀ x∈s.fs,((⟨x.nm.toArray⟩:ByteArray).toList==(⟨k.toArray⟩:ByteArray).toList)=decide (x.nm=k)):=⟨fun x _=>str_ne _ _⟩
 obtain⟨S,hkv⟩:∃ S,(⟨k.toArray⟩:ByteArray)=S:=⟨_,rfl⟩
 rw[hkv] at HLT HEQ
 have hkv:kv k = .string S:=by unfold kv; rw[hkv]
 obtain⟨n,hn⟩:∃ n,s.fs.length=n:=⟨_,rfl⟩
 have HN:=Bx.mk hn
 rw[hn] at hmost
 rw[hp,hkv]
 clear hp hkv H hn
 go_enter Tryd.func47,Tryd.ntmps47
 go_wp2_with fail
 go_loop [6] (fun i=>∃ j:Nat,j≤n∧i = .int .i64 j∧Bx (∀ q x,q<j→s.fs[q]? = some x→x.nm<k)) (fun i=>n-(intOf i).toNat)
 case atStart=>exact⟨0,Nat.zero_le _,rfl,⟨fun q x h=>by omega⟩⟩
 case round =>
  obtain⟨j,hj,rfl,hR⟩:=hrel
  by_cases hlt:j<n
  ·have dk:decide ((j:Int)<(n:Int))=true:=decide_eq_true (by omega)
   have dk':decide (j<n)=true:=decide_eq_true hlt
   obtain⟨b,c,x,A,cc,c1,hnc,hcm,_,hx,k1,_,_,_,_,_,_⟩:=HH.out.file (j:=j) (by rw[HN.out]; exact hlt)
   rw[HN.out] at c1 hnc
   have HX:=Bx.mk hx
   have hls:=HLT.out x (List.mem_of_getElem? hx)
   have heq:=HEQ.out x (List.mem_of_getElem? hx)
   have i2:(j:Int)<(n:Int):=by omega
   have hc9:c≤9223372036854775807:=by unfold maxLen at hcm; omega
   obtain⟨T,hT⟩:∃ T,(⟨x.nm.toArray⟩:ByteArray)=T:=⟨_,rfl⟩
   rw[hT] at hls heq
   have k1':w.cell? ⟨b,j*3,none⟩=some (.string T):=by rw[k1]; unfold kv; rw[hT]
   clear k1 hT hx hcm
   by_cases hxk:x.nm<k
   ·have hls':Op.bytesLess T.toList S.toList=true:=by rw[hls]; exact decide_eq_true hxk
    have HN1:Bx (∀ q y,q<j+1→s.fs[q]? = some y→y.nm<k):=⟨fun q y hq hy=>by
     rcases Nat.lt_or_ge q j with h | h
     ·exact hR.out q y h hy
     ·obtain rfl:q=j:=by omega
      rw[HX.out] at hy
      injection hy with hy
      rw[←hy]; exact hxk⟩
    clear hls heq hxk hR
    go_wp2
    go_round
    case rel=>exact⟨j+1,by omega,by go_num,HN1⟩
    case measure=>simp[intOf]; omega
   ·have hls':Op.bytesLess T.toList S.toList=false:=by rw[hls]; exact decide_eq_false hxk
    have hlo:=lo_take HH.out.ok.fine.rise hR.out (fun y hy=>by rw[HX.out] at hy; injection hy with hy; rw[←hy]; exact hxk) (by rw[HN.out]; exact hj)
    have HJ:=Bx.mk hlo.2
    obtain⟨o,ho⟩:∃ o,decide (x.nm=k)=o:=⟨_,rfl⟩
    rw[ho] at heq
    have HO:Bx (o=(fnd s.fs k).isSome):=⟨by
     rw[←ho]
     cases hf:fnd s.fs k with
     | none=>exact decide_eq_false (fnd_none hf x (List.mem_of_getElem? HX.out))
     | some y =>
      have h1:=at_lo HH.out.ok.fine.rise hf
      rw[HJ.out,HX.out] at h1
      injection h1 with h1
      exact decide_eq_true (by rw[h1]; exact (fnd_some hf).2)⟩
    clear hls hxk hR hlo ho
    go_wp2_with fail
    go_quiet (fail)
    go_wp2
    go_ret2
    exact⟨by rw[HJ.out,←HO.out]; rfl,by first | exact (Ch.refl _ w).drewN _ | exact (Ch.refl _ w).drew | exact Ch.refl _ w⟩
  ·obtain rfl:j=n:=by omega
   have dk:decide ((j:Int)<(j:Int))=false:=decide_eq_false (by omega)
   have dk':decide (j<j)=false:=decide_eq_false (by omega)
   obtain⟨A,c,c1,_,_⟩:=HH.out.row_len
   rw[HN.out] at c1
   have hlo:=lo_take HH.out.ok.fine.rise hR.out (fun y hy=>by have:=(List.getElem?_eq_some_iff.1 hy).1; have:=HN.out; omega) (by rw[HN.out]; exact Nat.le_refl _)
   have HJ:=Bx.mk hlo.2
   have HO:Bx (false=(fnd s.fs k).isSome):=⟨by
    cases hf:fnd s.fs k with
    | none=>rfl
    | some y =>
     have h1:=at_lo HH.out.ok.fine.rise hf
     rw[HJ.out] at h1
     have:=(List.getElem?_eq_some_iff.1 h1).1
     have:=HN.out
     omega⟩
   clear hR hlo
   go_wp2_with fail
   go_quiet (fail)
   go_wp2
   go_ret2
   exact⟨by rw[HJ.out,←HO.out]; rfl,by first | exact (Ch.refl _ w).drewN _ | exact (Ch.refl _ w).drew | exact Ch.refl _ w⟩
theorem used_take {fs:Fs} {j:Nat} {x:Fl} (hx:fs[j]? = some x):used (fs.take (j+1))=used (fs.take j)+x.bs.length:=by
 rw[Oct.take_more hx,used_app]
 simp[used]
theorem used_take_le (fs:Fs) (j:Nat):used (fs.take j)≤used fs:=by
 have:used fs=used (fs.take j++fs.drop j):=by rw[List.take_append_drop]
 rw[this,used_app]
 omega
theorem rused_any (H:Rdk w h d s):Calls Tryd.prog 48 #[pv d] w fun e w'=>e = .returned (.int .i64 (used s.fs:Int))∧w=w':=by
 have hp:pv d = .pointer (some ⟨d,0,none⟩):=rfl
 have HH:=Bx.mk H
 have hmost:=H.ok.most
 have hu:=Nat.le_trans H.ok.used H.ok.room
 obtain⟨n,hn⟩:∃ n,s.fs.length=n:=⟨_,rfl⟩
 have HN:=Bx.mk hn
 have HU:=Bx.mk hu
 rw[hn] at hmost
 rw[hp]
 clear hp H hn hu
 go_enter Tryd.func48,Tryd.ntmps48
 go_wp2_with fail
 go_loop [3,4] (fun u i=>∃ j q:Nat,j≤n∧i = .int .i64 j∧u = .int .i64 q∧q≤1073741824∧Bx (used (s.fs.take j)=q)) (fun _ i=>n-(intOf i).toNat)
 case atStart=>exact⟨0,0,Nat.zero_le _,rfl,rfl,by omega,⟨rfl⟩⟩
 case round =>
  obtain⟨j,q,hj,rfl,rfl,hq,hR⟩:=hrel
  by_cases hlt:j<n
  ·have dk:decide ((j:Int)<(n:Int))=true:=decide_eq_true (by omega)
   have dk':decide (j<n)=true:=decide_eq_true hlt
   obtain⟨b,c,x,A,cc,c1,hnc,hcm,_,hx,_,k2,_,_,_,_,_⟩:=HH.out.file (j:=j) (by rw[HN.out]; exact hlt)
   rw[HN.out] at c1 hnc
   have i2:(j:Int)<(n:Int):=by omega
   have hc9:c≤9223372036854775807:=by unfold maxLen at hcm; omega
   obtain⟨m,hm⟩:∃ m,x.bs.length=m:=⟨_,rfl⟩
   rw[hm] at k2
   have HQ:Bx (used (s.fs.take (j+1))=q+m):=⟨by rw[used_take hx,hR.out,hm]⟩
   have hqm:q+m≤1073741824:=by have h1:=used_take_le s.fs (j+1); have h2:=HU.out; rw[HQ.out] at h1; omega
   clear hx hm hcm hR
   have i3:wrap64 ((q:Int)+(m:Int))=((q+m:Nat):Int):=by rw[w64_of (by omega)]; omega
   go_wp2
   clear i3
   go_round
   case rel=>exact⟨j+1,q+m,by omega,by go_num,by first | rfl | go_num,hqm,HQ⟩
   case measure=>simp[intOf]; omega
  ·obtain rfl:j=n:=by omega
   have dk:decide ((j:Int)<(j:Int))=false:=decide_eq_false (by omega)
   have dk':decide (j<j)=false:=decide_eq_false (by omega)
   obtain⟨A,c,c1,_,_⟩:=HH.out.row_len
   rw[HN.out] at c1
   have HQ:Bx (used s.fs=q):=⟨by have:=hR.out; rwa[List.take_of_length_le (by rw[HN.out]; exact Nat.le_refl _)] at this⟩
   clear hR
   go_wp2
   go_ret
   exact⟨by rw[HQ.out]; rfl,rfl⟩
theorem rmay_any (l:List Key) (A:Option Addr) (n c:Nat) (H:Rdk w h d s) (hz:Kss w F A n l) (hn:n≤1048576) (hk:∀ k∈l,k.length≤9223372036854775807) :
  Calls Tryd.prog 46 #[pv d, .slice A n c] w fun e w'=>e = .returned (.int .i64 (mays s l:Nat))∧w=w':=by
 have hp:pv d = .pointer (some ⟨d,0,none⟩):=rfl
 have c2:=H.c2
 have HM:Bx (∀ m:Nat,m=mays s l→Ending.returned (.int .i64 (m:Int)) = .returned (.int .i64 (mays s l:Nat))):=⟨fun m e=>by rw[e]⟩
 have HU:Bx (mays s l=if s.left=some 0 then 9 else if ∀ k∈l,okN k then 0 else 1):=⟨rfl⟩
 have HL:=Bx.mk hz.len
 have HZ:=Bx.mk hz
 have HK:=Bx.mk hk
 obtain⟨lf,hlf⟩:∃ lf,leftI s.left=lf:=⟨_,rfl⟩
 have hl0:lf=0↔s.left=some 0:=by
  rw[←hlf]
  cases s.left with
  | none=>simp[leftI]
  | some m=>simp[leftI]
 rw[hlf] at c2
 rw[hp]
 clear hp H hz hk hlf
 by_cases h0:lf=0
 ·have HV:Bx ((9:Nat)=mays s l):=⟨by rw[HU.out,if_pos (hl0.1 h0)]⟩
  subst h0
  clear hl0
  go_enter Tryd.func46,Tryd.ntmps46
  go_wp2
  go_ret
  exact⟨HM.out 9 HV.out,rfl⟩
 ·have HV:Bx (mays s l=if ∀ k∈l,okN k then 0 else 1):=⟨by rw[HU.out,if_neg (fun e=>h0 (hl0.2 e))]⟩
  clear hl0
  go_enter Tryd.func46,Tryd.ntmps46
  go_wp2_with fail
  go_loop [5] (fun i=>∃ k:Nat,k≤n∧i = .int .i64 k∧Bx (∀ j t,j<k→l[j]? = some t→okN t)) (fun i=>n-(intOf i).toNat)
  case atStart=>exact⟨0,Nat.zero_le _,rfl,⟨fun j t h=>by omega⟩⟩
  case round =>
   obtain⟨k,hk,rfl,hno⟩:=hrel
   by_cases hlt:k<n
   ·have dk:decide ((k:Int)<(n:Int))=true:=decide_eq_true (by omega)
    have dk':decide (k<n)=true:=decide_eq_true hlt
    obtain⟨bt,ot,t,rfl,_,ht,hcell⟩:=HZ.out.at_ hlt
    have HTX:=Bx.mk ht.out
    have HLN:=HK.out t (List.mem_of_getElem? ht.out)
    have i2:(k:Int)<(n:Int):=by omega
    have hsz:=key_size t
    obtain⟨T,hT⟩:∃ T,(⟨t.toArray⟩:ByteArray)=T:=⟨_,rfl⟩
    obtain⟨tl,htl⟩:∃ tl,t.length=tl:=⟨_,rfl⟩
    have HTL:=Bx.mk htl
    rw[hT,htl] at hsz
    rw[htl] at HLN
    have hcell':w.cell? ⟨bt,ot+k,none⟩=some (.string T):=by rw[hcell]; unfold kv; rw[hT]
    clear ht hcell hT htl
    by_cases h1:tl<1
    ·have HE:Bx ((1:Nat)=mays s l):=⟨by rw[HV.out,if_neg (fun hall=>by have:=hall t (List.mem_of_getElem? HTX.out); unfold okN at this; have:=HTL.out; omega)]⟩
     have j1:decide ((tl:Int)<1)=true:=decide_eq_true (by omega)
     have j1':decide (tl<1)=true:=decide_eq_true h1
     clear hno
     go_wp2
     go_ret
     exact⟨HM.out 1 HE.out,rfl⟩
    ·have j1:decide ((tl:Int)<1)=false:=decide_eq_false (by omega)
     have j1':decide (tl<1)=false:=decide_eq_false h1
     by_cases h2:64<tl
     ·have HE:Bx ((1:Nat)=mays s l):=⟨by rw[HV.out,if_neg (fun hall=>by have:=hall t (List.mem_of_getElem? HTX.out); unfold okN at this; have:=HTL.out; omega)]⟩
      have j2:decide ((64:Int)<(tl:Int))=true:=decide_eq_true (by omega)
      have j2':decide (64<tl)=true:=decide_eq_true h2
      clear hno
      go_wp2
      go_ret
      exact⟨HM.out 1 HE.out,rfl⟩
     ·have j2:decide ((64:Int)<(tl:Int))=false:=decide_eq_false (by omega)
      have j2':decide (64<tl)=false:=decide_eq_false h2
      have HN:Bx (∀ j u,j<k+1→l[j]? = some u→okN u):=⟨fun j u hj hu=>by
       rcases Nat.lt_or_ge j k with h | h
       ·exact hno.out j u h hu
       ·obtain rfl:j=k:=by omega
        rw[HTX.out] at hu
        injection hu with hu
        rw[←hu]
        unfold okN
        have:=HTL.out
        omega⟩
      clear hno
      go_wp2
      go_round
      case rel=>exact⟨k+1,by omega,by go_num,HN⟩
      case measure=>simp[intOf]; omega
   ·obtain rfl:k=n:=by omega
    have dk:decide ((k:Int)<(k:Int))=false:=decide_eq_false (by omega)
    have dk':decide (k<k)=false:=decide_eq_false (by omega)
    have HE:Bx ((0:Nat)=mays s l):=⟨by
     rw[HV.out,if_pos (fun t ht=>by
      obtain⟨j,hj⟩:=List.getElem?_of_mem ht
      exact hno.out j t (by rw[←HL.out]; exact (List.getElem?_eq_some_iff.1 hj).1) hj)]⟩
    clear hno
    go_wp2
    go_ret
    exact⟨HM.out 0 HE.out,rfl⟩
theorem rmay1_any (H:Rdk w h d s) (hk:k.length≤9223372036854775807) :
  Calls Tryd.prog 46 #[pv d, .slice (some ⟨w.heap.size,0,none⟩) 1 1] (w.alloc (.cells #[kv k] 9)) fun e w'=>e = .returned (.int .i64 (may s k:Nat))∧Ch (fun _=>False) w w' :=
 (rmay_any [k] _ 1 1 (H.keep ((Ch.refl (fun _=>False) w).alloc _)) (Kss.one w 9 k) (by decide) (fun j hj=>by simp at hj; subst hj; exact hk)).mono fun e w' ⟨h1,h2⟩=>⟨by rw[h1,mays_one],by rw[←h2]; exact (Ch.refl (fun _=>False) w).alloc _⟩
theorem rmay2_any {j:Key} (H:Rdk w h d s) (hk:k.length≤9223372036854775807) (hj:j.length≤9223372036854775807) :
  Calls Tryd.prog 46 #[pv d, .slice (some ⟨w.heap.size,0,none⟩) 2 2] (w.alloc (.cells #[kv k,kv j] 9)) fun e w'=>e = .returned (.int .i64 (mays s [k,j]:Nat))∧Ch (fun _=>False) w w' :=
 (rmay_any [k,j] _ 2 2 (H.keep ((Ch.refl (fun _=>False) w).alloc _)) (Kss.two w 9 k j) (by decide) (fun i hi=>by simp at hi; rcases hi with rfl | rfl <;> assumption)).mono fun e w' ⟨h1,h2⟩=>⟨h1,by rw[←h2]; exact (Ch.refl (fun _=>False) w).alloc _⟩
theorem Rdk.setLeft (H:Rdk w h d s) (o:Option Nat) (ho:∀ n,o=some n→n≤9223372036854775807):Rdk (w.setCell ⟨d,2,none⟩ (.int .i64 (leftI o))) h d ⟨s.room,s.fs,o⟩∧Ch (fun b=>b=d) w (w.setCell ⟨d,2,none⟩ (.int .i64 (leftI o))):=by
 have hc:=ch_set w d 2 (.int .i64 (leftI o))
 obtain⟨v,us,c1,hown,hr,hf⟩:=H.row
 refine⟨⟨DsOk.left H.ok _,fun b hb=>Nat.lt_of_lt_of_le (H.lt b hb) hc.size,H.tag,fun j=>(World.frozen?_setCell _ _ _ _).trans (H.zf j),(set_off (by decide)).trans H.c0,set_same H.c2,ho,v,us,(set_off (by decide)).trans c1,hc.own hown (fun r hv e=>by have:=hr r hv; rw[e,H.tag] at this; cases this),hr,hf.ch hc (fun b hb e=>by rw[e,H.tag] at hb; cases hb)⟩,hc⟩
theorem rdid_any (H:Rdk w h d s) (hl:s.left≠some 0) :
  Calls Tryd.prog 49 #[pv d] w fun e w'=>e = .returned (.int .i64 0)∧Rdk w' h d ⟨s.room,s.fs,tick s.left⟩∧Ch (fun b=>b=d) w w':=by
 have hp:pv d = .pointer (some ⟨d,0,none⟩):=rfl
 have HH:=Bx.mk H
 have c2:=H.c2
 have z2:=H.zf 2
 have hlb:=H.lb
 rw[hp]
 clear hp H
 cases hs:s.left with
 | none =>
  rw[hs] at c2
  have c2':w.cell? ⟨d,2,none⟩=some (.int .i64 (-1)):=c2
  have HR:Bx (Rdk w h d ⟨s.room,s.fs,tick none⟩):=⟨by have:=HH.out; obtain⟨a,b,l⟩:=s; subst hs; exact this⟩
  clear hl hs c2 hlb
  go_enter Tryd.func49,Tryd.ntmps49
  go_wp2
  go_ret
  exact⟨rfl,HR.out,Ch.refl _ _⟩
 | some n =>
  have hn9:=hlb n hs
  have hn0:n≠0:=fun e=>hl (by rw[hs,e])
  obtain⟨m,rfl⟩:∃ m,n=m+1:=⟨n-1,by omega⟩
  rw[hs] at c2
  have c2':w.cell? ⟨d,2,none⟩=some (.int .i64 ((m+1:Nat):Int)):=c2
  have HR:Bx (Rdk (w.setCell ⟨d,2,none⟩ (.int .i64 (m:Int))) h d ⟨s.room,s.fs,tick (some (m+1))⟩):=⟨(HH.out.setLeft (some m) (fun q e=>by injection e with e; omega)).1⟩
  obtain⟨x,hx⟩:∃ x:Int,((m+1:Nat):Int)=x:=⟨_,rfl⟩
  have hx2:x-1=(m:Int):=by omega
  have hx4:decide (0<x)=true:=decide_eq_true (by omega)
  have hx3:wrap64 (m:Int)=(m:Int):=w64_of (by omega)
  rw[hx] at c2'
  clear hl hs hx hn0 c2 hlb hn9
  go_enter Tryd.func49,Tryd.ntmps49
  go_wp2
  go_ret
  exact⟨rfl,HR.out,ch_set _ _ _ _⟩
end
end
end Go.Proofs.YtoolcbaipinloaaDoor
