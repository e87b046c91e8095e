/- Lemmas and contracts of this proof. Conditions: said at each. -/
import Derived.Test.YtoolcbaipinloaaDoorQGDkRen
import Derived.Test.YtoolcbaipinloaaDoorDkLaid
set_option maxHeartbeats 8000000
set_option maxRecDepth 100000
namespace Go.Proofs.YtoolcbaipinloaaDoor
section
open Go.RowKit Go.Oct Go.Su Go.Dk Go.Maps Go.Sort Go.Shelf
section
variable {w w':World} {g g':Nat→Tg} {d:Nat} {mb:Option Nat} {ad:Key→Nat} {s s':Ds} {F S:Nat→Prop} {x y:Fl} {k j:Key}
theorem dkSorts (m:Nat):AnyZ.SortsIn Tryd.prog Tryd.dkSorted_ren Fence.wide m :=
 ⟨fun blk off cap ss W hH hblk hsz=>callsIn_wide.2 (AnyM.slices_Sort_string Tryd.dkSort blk off cap ss W hH hblk hsz),
  fun p cap W=>callsIn_wide.2 (AnyM.slices_Sort_string_none Tryd.dkSort p cap W)⟩
theorem keys_any (mb:Option Nat) (W:World):Calls Tryd.prog 51 #[.map mb] W fun e w'=>e = .returned (.func (.func 74) #[] #[.pointer (some ⟨W.heap.size,0,none⟩)])∧w'=W.alloc (.cells #[.map mb] 57) :=
 callsIn_wide.1 (AnyZ.keys_in Tryd.dkKeys Fence.wide 5 trivial rfl mb W)
theorem merge_uniq {ss l:List Key} (hp:ss.Perm l) (hl:Rise l):ss.mergeSort (fun x y=>decide (x≤y))=l:=by
 refine srt_uniq ?_ hl.srt ((List.mergeSort_perm _ _).trans hp)
 have h:=List.pairwise_mergeSort (le:=fun x y:Key=>decide (x≤y)) (fun a b c h1 h2=>by
  simp only[decide_eq_true_eq] at *
  exact List.le_trans h1 h2) (fun a b=>by
  simp only[Bool.or_eq_true,decide_eq_true_eq]
  exact List.le_total a b) ss
 exact h.imp fun {a b} hab=>by
  simp only[decide_eq_true_eq] at hab
  exact List.not_lt.2 hab
def ListOf (l:List Key) (w:World) (e:Ending) (w':World):Prop:=∃ A n c,e = .returned (.slice A n c)∧Gs 9 1 w w' (.slice A n c) n (l.map kv)∧n≤c∧c≤maxLen
theorem sortedk_any (h:Dsk w g d mb ad s):Calls Tryd.prog 50 #[.func (.func 74) #[] #[.pointer (some ⟨w.heap.size,0,none⟩)]] (w.alloc (.cells #[.map mb] 57)) (ListOf (nms s.fs) w):=by
 have hmost:=h.ok.most
 have hok:∀ {v:Value} {ss:List (List UInt8)} {w':World},ss.Perm (nms s.fs)→w'.ownsRow (w.alloc (.cells #[.map mb] 57)).heap.size 9 1 v ss.length ((ss.mergeSort (fun x y=>decide (x≤y))).map encStr)→Below (w.alloc (.cells #[.map mb] 57)).heap.size (w.alloc (.cells #[.map mb] 57)) w'→ListOf (nms s.fs) w (.returned v) w':=by
  intro v ss w' hp ho hb
  rw[merge_uniq hp h.ok.fine.rise] at ho
  have hl:ss.length=(nms s.fs).length:=hp.length_eq
  have hch:Ch (fun _=>False) w w':=((Ch.refl (fun _=>False) w).alloc _).trans (Ch.of_below hb (fun k h1 h2=>absurd h2 (by omega))) (fun _ _ h=>h)
  obtain⟨A,c,rfl,h1,h2⟩:=own_shape ho
  exact⟨A,ss.length,c,rfl,⟨⟨ho.1,ho.2.imp id (fun ⟨g,cap,cur,e,_,r⟩=>⟨g,cap,cur,e,Nat.zero_le _,r⟩)⟩,fun q hq=>by have:=(ho.lt q hq).1; rw[World.size_alloc] at this; omega,hch⟩,h1,h2⟩
 cases mb with
 | none =>
  have hseq:SeqGives Fence.wide 2 Tryd.prog 74 #[.pointer (some ⟨w.heap.size,0,none⟩)] encStr (fun ss:List (List UInt8)=>ss=[]) 0 (w.alloc (.cells #[.map none] 57)) :=
   AnyZ.keys_gives_nil (ρ := Tryd.dkKeys_ren) { Tryd.dkKeys with } Fence.wide _ trivial rfl w.heap.size _ (by simp) (by simp)
  refine (callsIn_wide.1 (AnyZ.sorted_in Tryd.dkSorted Fence.wide 5 trivial trivial trivial trivial rfl (by omega) (dkSorts _) (enters_of Tryd.func73 (by kernel_rfl) rfl) 74 #[.pointer (some ⟨w.heap.size,0,none⟩)] trivial (enters_of Tryd.func74 (by kernel_rfl) rfl) _ 0 (Nat.zero_le _) (by omega) _ hseq)).mono ?_
  rintro e w' ⟨v,ss,rfl,rfl,ho,_,hb⟩
  exact hok (by rw[h.none_ rfl]; exact List.Perm.refl _) ho hb
 | some b =>
  have hown:=(h.some_ b rfl).2
  have hbl:=hown.lt
  have hsz:Maps.size (mapD s.fs ad)=s.fs.length:=size_mapD _ _
  have hseq:SeqGives Fence.wide 2 Tryd.prog 74 #[.pointer (some ⟨w.heap.size,0,none⟩)] encStr (fun ss=>ss.Perm (strKeys (mapD s.fs ad))) (Maps.size (mapD s.fs ad)) (w.alloc (.cells #[.map (some b)] 57)) :=
   AnyZ.keys_gives (ρ := Tryd.dkKeys_ren) { Tryd.dkKeys with } Fence.wide _ trivial rfl (by omega) w.heap.size b s.fs.length (mapD s.fs ad) _ (by simp) (by simp) (by
    obtain⟨es,clock,hb,Ft,hs,hD⟩:=hown
    exact⟨es,clock,(Below.heap_alloc _ _ b hbl).trans hb,Ft,hs,hD⟩)
  refine (callsIn_wide.1 (AnyZ.sorted_in Tryd.dkSorted Fence.wide 5 trivial trivial trivial trivial rfl (by omega) (dkSorts _) (enters_of Tryd.func73 (by kernel_rfl) rfl) 74 #[.pointer (some ⟨w.heap.size,0,none⟩)] trivial (enters_of Tryd.func74 (by kernel_rfl) rfl) _ _ (by rw[hsz]; unfold maxLen; omega) (by rw[hsz]; omega) _ hseq)).mono ?_
  rintro e w' ⟨v,ss,rfl,hS,ho,_,hb⟩
  exact hok (by rw[←strKeys_mapD s.fs ad]; exact hS) ho hb
theorem list_any (h:Dsk w g d mb ad s):Calls Tryd.prog 26 #[pv d] w (ListOf (nms s.fs) w):=by
 have hp:pv d = .pointer (some ⟨d,0,none⟩):=rfl
 have HK:=Bx.mk (keys_any mb w)
 have HS:=Bx.mk (sortedk_any h)
 have c0:=h.c0
 rw[hp]
 clear hp h
 go_enter Tryd.func26,Tryd.ntmps26
 go_wp2_with fail
 refine HK.out.mono ?_
 rintro e w1 ⟨rfl,rfl⟩
 go_wp2_with fail
 refine HS.out.mono ?_
 rintro e w2 ⟨A,n,c,rfl,hr⟩
 go_wp2
 go_ret
 exact⟨A,n,c,rfl,hr⟩
end
end
section
open Go.RowKit Go.Oct Go.Su Go.Dk Go.Maps
section
variable {w w':World} {g g':Nat→Tg} {d:Nat} {mb:Option Nat} {ad:Key→Nat} {s s':Ds} {F S:Nat→Prop} {x y:Fl} {k j:Key}
def crL (left:Lit→Bool) (D:Nat) (fs:Fs):Fs:=fs.map fun x=>if left (.string x.nm) then x else crashF D x
theorem nms_crL (left:Lit→Bool) (D:Nat) (fs:Fs):nms (crL left D fs)=nms fs:=by
 unfold nms crL
 rw[List.map_map]
 refine List.map_congr_left fun x _=>?_
 show (if left (.string x.nm)=true then x else crashF D x).nm=x.nm
 split <;> rfl
theorem crL_start {left:Lit→Bool} {fs:Fs} (h:∀ x∈fs,left (.string x.nm)=true) (D:Nat):crL left D fs=fs:=by
 unfold crL
 rw[List.map_congr_left (g:=id) (fun x hx=>by simp[h x hx]),List.map_id]
theorem crL_end {left:Lit→Bool} (h:∀ kl,left kl=false) (D:Nat) (fs:Fs):crL left D fs=fs.map (crashF D):=by
 unfold crL
 exact List.map_congr_left fun x _=>by simp[h]
theorem mem_crL {left:Lit→Bool} {D:Nat} {fs:Fs} {z:Fl}:z∈crL left D fs↔∃ x∈fs,z=if left (.string x.nm) then x else crashF D x:=by
 unfold crL
 rw[List.mem_map]
 exact⟨fun ⟨x,h,e⟩=>⟨x,h,e.symm⟩,fun ⟨x,h,e⟩=>⟨x,h,e.symm⟩⟩
theorem crL_step {left:Lit→Bool} {D:Nat} {fs:Fs} (h:Rise (nms fs)) (hx:x∈fs):crL (fun z=>left z&&!z.sameKey (.string x.nm)) D fs=put (crL left D fs) (crashF D x):=by
 refine fs_ext (by rw[nms_crL]; exact h) (rise_put (by rw[nms_crL]; exact h) _) fun z=>?_
 rw[mem_put,mem_crL,mem_crL]
 have hnm:∀ (l:Lit→Bool) (y:Fl),(if l (.string y.nm)=true then y else crashF D y).nm=y.nm:=fun l y=>by split <;> rfl
 constructor
 ·rintro ⟨y,hy,rfl⟩
  by_cases e:y.nm=x.nm
  ·left
   rw[uniq h hy hx e]
   have:(Lit.string x.nm).sameKey (.string x.nm)=true:=WideAt.sameKey_self (lit_key _)
   simp[this]
  ·right
   have h1:(Lit.string y.nm).sameKey (.string x.nm)=false:=sameKey_ne (fun e2=>e (by injection e2))
   refine⟨⟨y,hy,by simp[h1]⟩,?_⟩
   simp only[h1,Bool.not_false,Bool.and_true]
   rw[hnm left]
   exact e
 ·rintro (rfl | ⟨⟨y,hy,rfl⟩,hne⟩)
  ·refine⟨x,hx,?_⟩
   have:(Lit.string x.nm).sameKey (.string x.nm)=true:=WideAt.sameKey_self (lit_key _)
   simp[this]
  ·rw[hnm left] at hne
   have h1:(Lit.string y.nm).sameKey (.string x.nm)=false:=sameKey_ne (fun e2=>hne (by rw[show y.nm=x.nm by injection e2]; rfl))
   exact⟨y,hy,by simp[h1]⟩
theorem crL_mem {left:Lit→Bool} {D:Nat} {fs:Fs} (hx:x∈fs) (hl:left (.string x.nm)=true):x∈crL left D fs:=mem_crL.2 ⟨x,hx,by rw[if_pos hl]⟩
theorem crash_put {fs:Fs} {D:Nat} (hla:x.la≤x.bs.length):put (put fs (cutF x (stays D x))) ⟨(cutF x (stays D x)).nm,(cutF x (stays D x)).bs,(cutF x (stays D x)).bs.length⟩=put fs (crashF D x):=by
 rw[put_put _ (by rfl)]
 congr 1
 unfold crashF cutF
 have:=stays_le (d:=D) hla
 simp only[Fl.mk.injEq,true_and,List.length_take]
 omega
end
end
section
open Go.RowKit Go.Oct Go.Su Go.Dk Go.Maps
section
variable {w w':World} {g g':Nat→Tg} {d:Nat} {mb:Option Nat} {ad:Key→Nat} {s s':Ds} {F S:Nat→Prop} {x y:Fl} {k j:Key}
theorem key_str {P:Program} {kt:TypeId} (hk:P.underlying kt=some .string) {key:Value} {kl:Lit} (h:keyOf P kt key=some kl):∃ S:ByteArray,key = .string S∧kl = .string S.data.toList:=by
 cases key <;> simp[keyOf,hk,mapKey] at h
 obtain⟨_,rfl⟩:=h
 exact⟨_,rfl,rfl⟩
theorem ranges_ch {P:Program} {kt:TypeId} {R:Value→Option (DataW Value×List MemPlace)} {w w':World} {b r n:Nat} {D:DataW Value} {left:Lit→Bool} {cnt:Nat} (h:w.ranges P kt R b r n D left cnt) (hc:Ch S w w') (hb':¬ S b) (hr':¬ S r):w'.ranges P kt R b r n D left cnt:=by
 have h1:=h.owns.lt
 have h2:=h.lt
 obtain⟨es,clock,since,seen,c0,hb,F,hs,hD,hr,rest⟩:=h
 exact⟨es,clock,since,seen,c0,(hc.block b h1 hb').trans hb,F,hs,hD,(hc.block r h2 hr').trans hr,rest⟩
structure CrLoop (w:World) (g:Nat→Tg) (s:Ds) (D:Nat) (d b r:Nat) (ad:Key→Nat) (wr:World) (left:Lit→Bool) (cnt:Nat):Prop where
 rg:wr.ranges Tryd.prog 9 heldR b r s.fs.length (mapD s.fs ad) left cnt
 dsk:Dsk wr g d (some b) ad ⟨s.room,crL left D s.fs,s.left⟩
 ch:Ch (fun i=>g i ≠ .no) w wr
 new:g r = .no
 base:w.heap.size≤r
 ok:DsOk s
theorem CrLoop.entry {w wr w1:World} {g:Nat→Tg} {s:Ds} {D d b r cnt cnt1:Nat} {ad:Key→Nat} {left:Lit→Bool} {c:Value} {S:ByteArray} {kl:Lit} {y:DataW Value×List MemPlace} (h:CrLoop w g s D d b r ad wr left cnt) (hkey:keyOf Tryd.prog 9 (.string S)=some kl) (hl:left kl=true) (hc:heldR c=some y) (hat:∀ zd,(mapD s.fs ad).atKey kl zd=y.1)
  (hr:w1.ranges Tryd.prog 9 heldR b r s.fs.length (mapD s.fs ad) (fun z=>left z&&!z.sameKey kl) cnt1) (hg:wr.grownBy w1 (some r)):∃ x a A q cc,x∈s.fs∧x∈crL left D s.fs∧kl = .string x.nm∧ad x.nm=a∧c = .pointer (some ⟨a,0,none⟩)∧x.bs.length=q∧x.la≤q∧q≤1073741824∧w1.cell? ⟨a,0,none⟩=some (.slice A q cc)∧w1.cell? ⟨a,1,none⟩=some (.int .i64 (x.la:Int))∧Dsk w1 g d (some b) ad ⟨s.room,crL left D s.fs,s.left⟩∧Ch (fun i=>i=r) wr w1:=by
 obtain⟨S',e1,rfl⟩:=key_str Tryd.underlying9 hkey
 have hh:=has_true_of_atKey hat
 rw[has_mapD] at hh
 obtain⟨x,hx⟩:=Option.isSome_iff_exists.1 hh
 have h1:=hat .nil
 rw[at_mapD h.ok.fine.rise hx] at h1
 obtain⟨hxm,hxn⟩:=fnd_some hx
 have hy:y=(.held c,[]):=(Option.some.inj hc).symm
 rw[hy] at h1
 have hcv:pv (ad S'.data.toList)=c:=DataW.held.inj h1
 have hch:Ch (fun i=>i=r) wr w1:=⟨hg.os,hg.tape,hg.output,hg.size,fun i hi hn=>hg.block i hi (fun e=>hn (by injection e))⟩
 have hd1:=h.dsk.ch hch (fun i hi e=>hi (by rw[e]; exact h.new))
 have hxc:=crL_mem (left:=left) (D:=D) hxm (by rw[hxn]; exact hl)
 have hF:=hd1.files x hxc
 obtain⟨v,b0,b1,ho,_⟩:=hF.row
 obtain⟨A,cc,rfl,_,_⟩:=own_shape ho
 have hq:x.bs.length≤1073741824:=by have:=used_at h.ok.fine.rise hxm; have:=h.ok.used; have:=h.ok.room; omega
 exact⟨x,ad x.nm,A,x.bs.length,cc,hxm,hxc,by rw[hxn],rfl,by rw[←hcv,hxn]; rfl,rfl,h.ok.fine.la x hxm,hq,b0,b1,hd1,hch⟩
theorem crash_any (h:Dsk w g d mb ad s) (n:Int) (hn : -9223372036854775808≤n∧n≤9223372036854775807):Calls Tryd.prog 18 #[pv d, .int .i64 n] w fun e w'=>e = .returned (.tuple #[])∧Dsk w' g d mb ad (opCrash s n)∧Ch (fun i=>g i ≠ .no) w w':=by
 have hp:pv d = .pointer (some ⟨d,0,none⟩):=rfl
 have H:=Bx.mk h
 have c0:=h.c0
 obtain⟨D,hD⟩:∃ D:Nat,n.toNat=D:=⟨_,rfl⟩
 have hD9:D≤9223372036854775807:=by omega
 have HOP:Bx (∀ o,(opFuse ⟨s.room,s.fs.map (crashF D),o⟩ (-1):Ds)=opCrash s n):=⟨fun o=>by unfold opCrash opFuse; rw[hD]; rfl⟩
 have HFU:Bx (∀ (w1:World) (s1:Ds),Dsk w1 g d mb ad s1→Calls Tryd.prog 20 #[pv d, .int .i64 (-1)] w1 fun e w'=>e = .returned (.tuple #[])∧Dsk w' g d mb ad (opFuse s1 (-1))∧Ch (fun b=>b=d) w1 w'):=⟨fun w1 s1 h1=>fuse_any h1 (-1) (by omega)⟩
 have hmx:(max n 0=(D:Int)):=by omega
 rw[hp] at HFU ⊢
 clear hp h
 cases mb with
 | none =>
  have hrg:=run_range_nilMap (P := Tryd.prog) w 57 _ _ mapT
  have hnx:∀ ty,(Instr.next (.pointer (some ⟨w.heap.size,0,none⟩)) false ty).run Tryd.prog (w.alloc (.mapIter none 0 #[] 0)) = .ok (.tuple #[.bool false]) (w.alloc (.mapIter none 0 #[] 0)):=fun ty=>run_next_nilMap _ ty 0 0 #[]
  have HF:=Bx.mk (HFU.out (w.alloc (.mapIter none 0 #[] 0)) s (H.out.keep ((Ch.refl (fun _=>False) w).alloc _)))
  have HS:Bx (s=⟨s.room,s.fs.map (crashF D),s.left⟩):=⟨by
   have:=H.out.none_ rfl
   obtain⟨a,b,c⟩:=s
   obtain rfl:b=[]:=this
   rfl⟩
  clear HFU hn hD hD9 hmx
  go_enter Tryd.func18,Tryd.ntmps18
  go_wp2
  refine wp_loop_rounds 1 ?_
  rw[rounds_succ]
  go_wp2_with fail
  refine HF.out.mono ?_
  rintro e w2 ⟨rfl,hd2,hc2⟩
  go_wp2
  go_returns
  refine⟨rfl,by rw[HS.out,HOP.out] at hd2; exact hd2,((Ch.refl _ w).alloc _).trans hc2 (fun i _ hi=>by rw[hi,H.out.tag]; exact fun e=>by cases e)⟩
 | some b =>
  have hown:=(H.out.some_ b rfl).2
  have hbl:=hown.lt
  go_enter Tryd.func18,Tryd.ntmps18
  go_wp2_with (first
   | (at_range; refine wpList_range_own _ rfl _ 57 rfl 9 73 mapLaw mapT _ b _ _ rfl hown ?_; intro w0 hrg0 hg0 hs0)
   | go_in)
  go_frame
  have HB:Bx (CrLoop w g s D d b w.heap.size ad w0 (has (mapD s.fs ad)) (Maps.size (mapD s.fs ad))):=⟨by
   have hc0:Ch (fun _=>False) w w0:=⟨hg0.os,hg0.tape,hg0.output,hg0.size,fun i hi _=>hg0.block i hi (fun e=>by cases e)⟩
   refine⟨hrg0,?_,hc0.mono (fun _ _ h=>h.elim),?_,Nat.le_refl _,H.out.ok⟩
   ·rw[crL_start (fun x hx=>by rw[has_mapD,fnd_of H.out.ok.fine.rise hx]; rfl)]
    exact H.out.keep hc0
   ·rcases hgt:g w.heap.size with _ | _ | _ | k | k
    ·rfl
    all_goals exact absurd (H.out.lt w.heap.size (by rw[hgt]; exact fun e=>by cases e)) (Nat.lt_irrefl _)⟩
  obtain⟨r,hr⟩:∃ r,w.heap.size=r:=⟨_,rfl⟩
  rw[hr] at HB ⊢
  clear hrg0 hg0 hs0 hown hbl hr c0
  go_loopw [5,6] (fun _ _ wr=>∃ (left:Lit→Bool) (cnt:Nat),Bx (CrLoop w g s D d b r ad wr left cnt)) (fun _ _ wr=>wr.rangeLeft b r)
  case atStart=>exact⟨_,_,HB⟩
  case round =>
   obtain⟨left,cnt,hR⟩:=hrel
   have hrg:=hR.out.rg
   obtain⟨wo,rfl⟩:∃ wo:World,wo=wr:=⟨_,rfl⟩
   go_wp2_with (first
    | (at_next; refine wpList_next_ranges _ rfl _ rfl 9 mapLaw heldR Value.string id (fun key kl h=>(by obtain⟨S,e,_⟩:=key_str Tryd.underlying9 h; exact⟨S,e⟩)) (fun v y _=>⟨v,rfl⟩) b r s.fs.length _ _ _ rfl hrg ?_ ?_)
    | go_in)
   ·intro hc0 hl0
    have hd:=hR.out.dsk
    rw[crL_end hl0] at hd
    have HF:=Bx.mk (HFU.out wo _ hd)
    have HC:=Bx.mk hR.out.ch
    clear hrg hd
    go_wp2_with fail
    refine HF.out.mono ?_
    rintro e w2 ⟨rfl,hd2,hc2⟩
    go_wp2
    go_returns
    exact⟨rfl,by rw[HOP.out] at hd2; exact hd2,HC.out.trans hc2 (fun i _ hi=>by rw[hi,H.out.tag]; exact fun e=>by cases e)⟩
   ·intro S c kl y ps w1 cnt1 hkey hlk hc hat hrg1 hlt hg1 hs1 hen
    obtain⟨x,a,A,q,cc,hxm,hxc,hkl,ha,rfl,hq,hla,hq9,b0,b1,hd1,hc1⟩:=hR.out.entry (y:=(y,ps)) hkey hlk hc hat hrg1 hg1
    have HLT:=Bx.mk hlt
    have HRG1:=Bx.mk hrg1
    have HXM:=Bx.mk hxm
    have HXC:=Bx.mk hxc
    have HKL:=Bx.mk hkl
    have HA:=Bx.mk ha
    have HD1:=Bx.mk hd1
    have HC1:=Bx.mk hc1
    have HQ:=Bx.mk hq
    obtain⟨la,hla2⟩:∃ la,x.la=la:=⟨_,rfl⟩
    rw[hla2] at hla b1
    have HLA:=Bx.mk hla2
    clear hrg hrg1 hlt hg1 hs1 hxm hxc hkl ha hd1 hc1 hq hla2 hc hat hlk hkey
    obtain⟨o,ho⟩:∃ o,q-la=o:=⟨_,rfl⟩
    obtain⟨o1,ho1⟩:∃ o1,o+1=o1:=⟨_,rfl⟩
    obtain⟨m,hm⟩:∃ m,D%o1=m:=⟨_,rfl⟩
    obtain⟨z,hz⟩:∃ z,la+m=z:=⟨_,rfl⟩
    have hmo:m<o1:=by rw[←hm]; exact Nat.mod_lt _ (by omega)
    have hzq:z≤q:=by omega
    have i1:(q:Int)-(la:Int)=(o:Int):=by omega
    have i3:(o:Int)+1=(o1:Int):=by omega
    have i5:Int.tmod (D:Int) (o1:Int)=(m:Int):=by rw[Int.tmod_eq_emod_of_nonneg (by omega)]; omega
    have i6:(la:Int)+(m:Int)=(z:Int):=by omega
    have i7:¬ (o1:Int)=0:=by omega
    have i8:((o1:Int)==0)=false:=beq_false_of_ne i7
    have HZ:Bx (stays D x=z):=⟨by unfold stays; rw[HQ.out,HLA.out,ho,ho1,hm,hz]⟩
    go_wp2_with fail
    have j1:IntKind.i64.wrap (o:Int)=(o:Int):=IntWalk.i64_in _ (by omega)
    go_quiet (fail)
    clear j1
    have hb9:o1≤1073741825∧m≤1073741825∧z≤1073741824:=by omega
    have HCUT:Bx (∀ w2:World,Dsk w2 g d (some b) ad ⟨s.room,crL left D s.fs,s.left⟩→Calls Tryd.prog 41 #[.pointer (some ⟨d,0,none⟩), .pointer (some ⟨a,0,none⟩), .int .i64 (z:Int)] w2 fun e w'=>e = .returned (.tuple #[])∧Dsk w' g d (some b) ad ⟨s.room,put (crL left D s.fs) (cutF x z),s.left⟩∧Ch (fun b=>b=d∨b=a) w2 w'):=⟨fun w2 h2=>by
     have:=cut_any h2 HXC.out (n:=z) (by rw[HQ.out]; exact hzq)
     rw[HA.out] at this
     exact this⟩
    go_wp2_with fail
    obtain⟨w2,hw2⟩:∃ w2,w1.drewN nq=w2:=⟨_,rfl⟩
    have HC2:Bx (Ch (fun i=>i=r) wo w2):=⟨by rw[←hw2]; exact HC1.out.drewN nq⟩
    have hc12:Ch (fun _=>False) w1 w2:=by rw[←hw2]; exact (Ch.refl _ w1).drewN nq
    have HRG2:Bx (w2.ranges Tryd.prog 9 heldR b r s.fs.length (mapD s.fs ad) (fun z=>left z&&!z.sameKey kl) cnt1):=⟨by rw[←hw2]; exact HRG1.out⟩
    have k1:w2.cell? ⟨a,1,none⟩=some (.int .i64 (la:Int)):=by rw[←hw2]; exact b1
    have HD2:=Bx.mk (HD1.out.keep (hc12.trans ((Ch.refl (fun _=>False) w2).drew) (fun _ _ h=>h)))
    have HCUT2:=Bx.mk (HCUT.out w2.drew HD2.out)
    rw[hw2]
    clear hw2 b0 b1 hen hc12 HRG1 HC1 HD1 HCUT i1
    have j3:IntKind.i64.wrap (o1:Int)=(o1:Int):=IntWalk.i64_in _ (by omega)
    have j6:IntKind.i64.wrap (z:Int)=(z:Int):=IntWalk.i64_in _ (by omega)
    have j4:IntKind.i64.wrap (m:Int)=(m:Int):=IntWalk.i64_in _ (by omega)
    have j7:¬ o1=0:=by omega
    have j8:(D:Int)%(o1:Int)=(m:Int):=by omega
    have j9:((o1:Nat):Int)≠0:=i7
    refine wp_region_still_tail 12 (by kernel_rfl) (by kernel_rfl) ?_
    simp only[List.take_succ_cons,List.take_zero,List.drop_succ_cons,List.drop_zero]
    repeat still_step
    refine wpStill_nil ?_
    clear j3 j6 j4 j7 j8 j9
    change wpList _ _ _ _ _ w2.drew
    go_wp2_with fail
    refine HCUT2.out.mono ?_
    rintro e w3 ⟨rfl,hd3,hc3⟩
    have hym:cutF x z∈put (crL left D s.fs) (cutF x z):=mem_put.2 (.inl rfl)
    have hF3:=hd3.files _ hym
    have hbl:(cutF x z).bs.length=z:=by show (x.bs.take z).length=z; rw[List.length_take,HQ.out]; omega
    rw[show ad (cutF x z).nm=a from HA.out] at hF3
    obtain⟨v3,b30,b31,ho3,_⟩:=hF3.row
    rw[hbl] at ho3
    obtain⟨A3,c3,rfl,_,_⟩:=own_shape ho3
    have z31:=hF3.zf 1
    have HD4:Bx (Dsk (w3.setCell ⟨a,1,none⟩ (.int .i64 (z:Int))) g d (some b) ad ⟨s.room,crL (fun z=>left z&&!z.sameKey kl) D s.fs,s.left⟩):=⟨by
     have h5:=hd3.last hym
     rw[show ad (cutF x z).nm=a from HA.out,hbl] at h5
     have e1:=crL_step (left:=left) (D:=D) hR.out.ok.fine.rise HXM.out
     have e2:=crash_put (fs:=crL left D s.fs) (D:=D) (x:=x) (hR.out.ok.fine.la x HXM.out)
     rw[HZ.out,hbl] at e2
     rw[←HKL.out] at e1
     rw[e1,←e2]
     exact h5⟩
    have hga:g a = .fl (cutF x z).nm:=hF3.tag
    have HC4:Bx (Ch (fun b=>b=d∨b=a) w2 (w3.setCell ⟨a,1,none⟩ (.int .i64 (z:Int)))):=⟨(((Ch.refl (fun b=>b=d∨b=a) w2).drew).trans hc3 (fun _ _ h=>h)).setCell (p:=⟨a,1,none⟩) (.inl (.inr rfl)) _⟩
    have hgb:g b = .mp:=(hd3.some_ b rfl).1
    have HNB:Bx ((¬(b=d∨b=a))∧¬ (r=d∨r=a)):=⟨by
     constructor
     ·rintro (e | e)
      ·rw[e,H.out.tag] at hgb; cases hgb
      ·rw[e,hga] at hgb; cases hgb
     ·have h7:=hR.out.new
      rintro (e | e)
      ·rw[e,H.out.tag] at h7; cases h7
      ·rw[e,hga] at h7; cases h7⟩
    have HCR:Bx (CrLoop w g s D d b r ad (w3.setCell ⟨a,1,none⟩ (.int .i64 (z:Int))) (fun z=>left z&&!z.sameKey kl) cnt1):=⟨⟨ranges_ch HRG2.out HC4.out HNB.out.1 HNB.out.2,HD4.out,(hR.out.ch.trans HC2.out (fun i hi e=>absurd hi (by have:=hR.out.base; omega))).trans HC4.out (fun i _ hi=>by
     rcases hi with hi | hi
     ·rw[hi,H.out.tag]; exact fun e=>by cases e
     ·rw[hi,hga]; exact fun e=>by cases e),hR.out.new,hR.out.base,hR.out.ok⟩⟩
    have HLQ:=Bx.mk (HCR.out.rg.left_eq)
    have HLO:=Bx.mk (hR.out.rg.left_eq)
    clear hd3 hc3 hym hF3 ho3 hbl hga hgb i3 i5 i6 i7 i8 hmx
    go_wp2
    go_roundw
    case rel=>exact⟨_,cnt1,HCR⟩
    case measure=>rw[HLQ.out,HLO.out]; exact HLT.out
end
end
section
open Go.RowKit Go.Oct Go.Su Go.Dk Go.Maps
section
variable {w w' w2:World} {h h' h2:Nat→Rt} {us vs:List Value} {fs gs:Fs} {S F:Nat→Prop} {x y:Fl} {k:Key} {d:Nat} {s:Ds}
def RNewOf10 (room:Int) (w:World) (e:Ending) (w':World):Prop :=
 ((room<0∨1073741824<room)∧e = .returned (.tuple #[.pointer none, .int .i64 1])∧Ch (fun _=>False) w w') ∨
 (0≤room∧room≤1073741824∧∃ h',e = .returned (.tuple #[pv w.heap.size, .int .i64 0])∧Rdk w' h' w.heap.size ⟨room.toNat,[],none⟩∧Rgo w (fun _ => .no) w' h')
theorem fresh_rdk (w:World) (n:Nat) (hn:n≤1073741824):Rdk (w.alloc (.cells #[.int .i64 (n:Int), .slice none 0 0, .int .i64 (-1)] 62)) (fun b=>if b=w.heap.size then .dk else .no) w.heap.size ⟨n,[],none⟩:=by
 refine⟨⟨Fine.nil,Nat.zero_le _,hn,Nat.zero_le _⟩,fun b hb=>?_,if_pos rfl,fun j=>frozen_new j,cells_at (j:=0) rfl,cells_at (j:=2) rfl,(fun n e=>by cases e), .slice none 0 0,[],cells_at (j:=1) rfl,World.ownsRow_nil _ _ _ _,(fun r hr=>by simp[Value.ownBlock] at hr),Fls.nil _ _⟩
 rw[World.size_alloc]
 by_cases e:b=w.heap.size
 ·omega
 ·exact absurd (if_neg e) hb
theorem rnew10_any (room:Int) (w:World) (hr : -9223372036854775808≤room∧room≤9223372036854775807):Calls Tryd.prog 10 #[.int .i64 room] w (RNewOf10 room w):=by
 by_cases h0:room<0
 ·have HA:Bx (room<0∨1073741824<room):=⟨.inl h0⟩
  clear hr
  go_enter Tryd.func10,Tryd.ntmps10
  go_wp2
  go_ret2
  exact .inl ⟨HA.out,rfl,Ch.refl _ _⟩
 ·by_cases h1:1073741824<room
  ·have HA:Bx (room<0∨1073741824<room):=⟨.inr h1⟩
   clear hr
   go_enter Tryd.func10,Tryd.ntmps10
   go_wp2
   go_ret2
   exact .inl ⟨HA.out,rfl,Ch.refl _ _⟩
  ·obtain⟨n,rfl⟩:∃ n:Nat,room=(n:Int):=⟨room.toNat,by omega⟩
   have HF:=Bx.mk (fresh_rdk w n (by omega))
   have HN:Bx (0≤(n:Int)∧(n:Int)≤1073741824):=⟨by omega⟩
   clear hr
   go_enter Tryd.func10,Tryd.ntmps10
   go_wp2
   go_ret2
   refine .inr ⟨HN.out.1,HN.out.2,_,rfl,HF.out,(Ch.refl _ _).alloc _,fun b hb=>?_⟩
   by_cases e:b=w.heap.size
   ·exact .inr (by omega)
   ·exact absurd (if_neg e) hb
theorem rfuse_any (H:Rdk w h d s) (n:Int) (hn:n≤9223372036854775807):Calls Tryd.prog 21 #[pv d, .int .i64 n] w fun e w'=>e = .returned (.tuple #[])∧Rdk w' h d (opFuse s n)∧Ch (fun b=>b=d) w w':=by
 have hp:pv d = .pointer (some ⟨d,0,none⟩):=rfl
 have c2:=H.c2
 have z2:=H.zf 2
 have HS:=Bx.mk (H.setLeft (if n<0 then none else some n.toNat) (fun m e=>by
  by_cases h0:n<0
  ·rw[if_pos h0] at e; cases e
  ·rw[if_neg h0] at e; injection e with e; omega))
 have hl:leftI (if n<0 then none else some n.toNat)=max (-1) n:=by
  by_cases h0:n<0
  ·rw[if_pos h0]; show (-1:Int)=_; omega
  ·rw[if_neg h0]; show ((n.toNat:Nat):Int)=_; omega
 rw[hl] at HS
 have HQ:Bx (opFuse s n=⟨s.room,s.fs,if n<0 then none else some n.toNat⟩):=⟨rfl⟩
 obtain⟨m,hm⟩:∃ m:Int,max (-1) n=m:=⟨_,rfl⟩
 rw[hm] at HS
 have HM:Bx (∀ a:Int,a=m→Rdk (w.setCell ⟨d,2,none⟩ (.int .i64 a)) h d (opFuse s n)∧Ch (fun b=>b=d) w (w.setCell ⟨d,2,none⟩ (.int .i64 a))):=⟨fun a ha=>by subst ha; rw[HQ.out]; exact HS.out⟩
 rw[hp]
 clear hp H hl HS hn HQ
 by_cases h0:n<0
 ·have i1:max (-1) n=(-1:Int):=by omega
  have i2:¬ (-1:Int)<n:=by omega
  have HE:Bx ((-1:Int)=m):=⟨by omega⟩
  clear hm
  go_enter Tryd.func21,Tryd.ntmps21
  go_wp2
  go_returns
  exact⟨rfl,HM.out _ HE.out⟩
 ·have i1:max (-1) n=n:=by omega
  have i2:(-1:Int)<n:=by omega
  have HE:Bx (n=m):=⟨by omega⟩
  clear hm
  go_enter Tryd.func21,Tryd.ntmps21
  go_wp2
  go_returns
  exact⟨rfl,HM.out _ HE.out⟩
theorem fresh_b0 (w:World):Fresh w (.slice (some ⟨w.heap.size,0,none⟩) 0 0) [] (w.alloc (.cells #[] 5)):=⟨own_b0 w,fun g hg=>by simp[Value.ownBlock] at hg; omega,(Ch.refl _ _).alloc _⟩
theorem rread_any (H:Rdk w h d s) (k:Key):Calls Tryd.prog 28 #[pv d,kv k] w (ReadOf (opRead s k) w):=by
 have hp:pv d = .pointer (some ⟨d,0,none⟩):=rfl
 have HH:=Bx.mk H
 have HC:=Bx.mk (spot_any H k)
 have hle:=lo_le s.fs k
 have hmost:=H.ok.most
 obtain⟨S,hkv⟩:∃ S,kv k = .string S:=⟨_,rfl⟩
 obtain⟨i,hi⟩:∃ i,(lo s.fs k).length=i:=⟨_,rfl⟩
 have HI:=Bx.mk hi
 rw[hp] at HC ⊢
 rw[hkv] at HC ⊢
 rw[hi] at HC hle
 clear hp H hkv hi
 cases hf:fnd s.fs k with
 | none =>
  have HR:Bx (opRead s k=none):=⟨by unfold opRead; rw[hf]; rfl⟩
  rw[hf] at HC
  clear hf
  go_enter Tryd.func28,Tryd.ntmps28
  go_wp2_with fail
  refine HC.out.mono ?_
  rintro e w1 ⟨rfl,hc1⟩
  go_wp2
  go_ret2
  exact .inl ⟨HR.out,rfl,hc1⟩
 | some x =>
  have HR:Bx (opRead s k=some x.bs):=⟨by unfold opRead; rw[hf]; rfl⟩
  have hxi:=at_lo HH.out.ok.fine.rise hf
  rw[HI.out] at hxi
  have HX:=Bx.mk hxi
  have hil:i<s.fs.length:=(List.getElem?_eq_some_iff.1 hxi).1
  have hq:x.bs.length≤1073741824:=by have:=used_at HH.out.ok.fine.rise (fnd_some hf).1; have:=HH.out.ok.used; have:=HH.out.ok.room; omega
  rw[hf] at HC
  obtain⟨n,hn⟩:∃ n,s.fs.length=n:=⟨_,rfl⟩
  have HN:=Bx.mk hn
  rw[hn] at hil hmost
  clear hf hxi hn hle
  go_enter Tryd.func28,Tryd.ntmps28
  go_wp2_with fail
  refine HC.out.mono ?_
  rintro e w1 ⟨rfl,hc1⟩
  obtain⟨b,c,x',A,cc,c1,hnc,hcm,_,hx,_,k2,_,hsl,_,_,_⟩:=(HH.out.keep hc1).file (j:=i) (by rw[HN.out]; exact hil)
  obtain rfl:x=x':=by rw[HX.out] at hx; injection hx
  rw[HN.out] at c1 hnc
  have i2:(i:Int)<(n:Int):=by omega
  have hc9:c≤9223372036854775807:=by unfold maxLen at hcm; omega
  have HSL:=Bx.mk (hsl.alloc (.cells #[] 5))
  have HF:=Bx.mk (fresh_b0 w1)
  have HO:=Bx.mk (own_b0 w1)
  have HC1:=Bx.mk hc1
  obtain⟨q,hq2⟩:∃ q,x.bs.length=q:=⟨_,rfl⟩
  have HQ:=Bx.mk hq2
  have c1a:=cell_alloc c1 (.cells #[] 5)
  have k2a:=cell_alloc k2 (.cells #[] 5)
  rw[hq2] at k2a hq HSL
  clear hx hcm hsl hc1 hq2 c1 k2
  go_wp2_with (at_builtin; refine wp_app rfl (.tmp 16) (.tmp 24) Tb rfl rfl HO.out rfl HSL.out ?c1 ?c2 ?c3 ?_)
  case c1=>exact ints_cells _ _
  case c2=>omega
  case c3=>omega
  intro v5 w5 ho hg hb
  have HF5:=Bx.mk (HF.out.app (m:=q) (zs:=x.bs) hg (by simpa using ho) (by rw[World.size_alloc]; exact hb))
  clear ho hg hb
  go_wp2
  go_ret2
  exact .inr ⟨x.bs,v5,HR.out,rfl,HF5.out.after HC1.out⟩
theorem elemS11:Elem Tryd.prog 33 9 (.string ByteArray.empty) 16:=⟨Tryd.underlying33,by kernel_rfl,rfl⟩
theorem rlist_any (H:Rdk w h d s):Calls Tryd.prog 24 #[pv d] w (ListOf (nms s.fs) w):=by
 have hp:pv d = .pointer (some ⟨d,0,none⟩):=rfl
 have HH:=Bx.mk H
 have hmost:=H.ok.most
 obtain⟨n,hn⟩:∃ n,s.fs.length=n:=⟨_,rfl⟩
 have HN:=Bx.mk hn
 rw[hn] at hmost
 rw[hp]
 clear hp H hn
 go_enter Tryd.func24,Tryd.ntmps24
 go_wp2_with fail
 go_loopw [3,4] (fun v i wr=>∃ j:Nat,j≤n∧i = .int .i64 j∧Bx (Gs 9 1 w wr v j (((nms s.fs).take j).map kv))) (fun _ i _=>n-(intOf i).toNat)
 case atStart=>exact⟨0,Nat.zero_le _,rfl,⟨Gs.nil _ _ _⟩⟩
 case round =>
  obtain⟨j,hj,rfl,hR⟩:=hrel
  obtain⟨wo,rfl⟩:∃ wo:World,wo=wr:=⟨_,rfl⟩
  by_cases hlt:j<n
  ·have dk:decide ((j:Int)<(n:Int))=true:=decide_eq_true (by omega)
   have dk':decide (j<n)=true:=decide_eq_true hlt
   obtain⟨b,c,x,A,cc,c1,hnc,hcm,_,hx,k1,_,_,_,_,_,_⟩:=(HH.out.keep hR.out.ch).file (j:=j) (by rw[HN.out]; exact hlt)
   rw[HN.out] at c1 hnc
   have i2:(j:Int)<(n:Int):=by omega
   have hc9:c≤9223372036854775807:=by unfold maxLen at hcm; omega
   have hkj:(nms s.fs)[j]? = some x.nm:=by unfold nms; rw[List.getElem?_map,hx]; rfl
   have HT:Bx (((nms s.fs).take (j+1)).map kv=((nms s.fs).take j).map kv++[kv x.nm]):=⟨by rw[Oct.take_more hkj,List.map_append]; rfl⟩
   obtain⟨T,hT⟩:∃ T,kv x.nm = .string T:=⟨_,rfl⟩
   rw[hT] at k1 HT
   have HO:=Bx.mk (hR.out.own.alloc (.cells #[.string T] 9))
   have HV:=Bx.mk (Vs.one wo 9 (.string T))
   have HG:=hR
   obtain⟨us,hus⟩:∃ us,((nms s.fs).take j).map kv=us:=⟨_,rfl⟩
   rw[hus] at HO HT HG
   obtain⟨A3,c3,rfl,_,_⟩:=hR.out.shape
   clear hx hcm hkj hT hR hus
   go_wp2_with (at_builtin; refine wp_app rfl (.tmp 14) (.tmp 23) elemS11 rfl rfl HO.out rfl HV.out ?c1 ?c2 ?c3 ?_)
   case c1=>intro u hu; simp at hu; subst hu; rfl
   case c2=>omega
   case c3=>omega
   intro v1 w1 ho1 hg1 hb1
   have HN1:Bx (Gs 9 1 w w1 v1 (j+1) (((nms s.fs).take (j+1)).map kv)):=⟨by rw[HT.out]; exact HG.out.app ((Ch.refl _ wo).alloc _) ho1 hg1 (by rw[World.size_alloc]; exact hb1)⟩
   clear ho1 hg1 hb1
   go_wp2
   go_roundw
   case rel=>exact⟨j+1,by omega,by go_num,HN1⟩
   case measure=>simp[intOf]; omega
  ·obtain rfl:j=n:=by omega
   have dk:decide ((j:Int)<(j:Int))=false:=decide_eq_false (by omega)
   have dk':decide (j<j)=false:=decide_eq_false (by omega)
   obtain⟨A,c,c1,_,_⟩:=(HH.out.keep hR.out.ch).row_len
   rw[HN.out] at c1
   have hall:(nms s.fs).take j=nms s.fs:=List.take_of_length_le (by rw[nms_len,HN.out]; exact Nat.le_refl _)
   rw[hall] at hR
   obtain⟨A2,c2,rfl,h1,h2⟩:=hR.out.shape
   have HR2:=hR
   clear hR hall
   go_wp2
   go_ret
   exact⟨A2,j,c2,rfl,HR2.out,h1,h2⟩
end
end
section
open Go.RowKit Go.Oct Go.Su Go.Dk Go.Maps
section
variable {w w' w2:World} {h h' h2:Nat→Rt} {us vs:List Value} {fs gs:Fs} {S F:Nat→Prop} {x y:Fl} {k:Key} {d:Nat} {s:Ds}
theorem fl_set (w:World) (e:TypeId):(w.alloc (.cells #[] e)).ownsRow 0 e 3 (.slice (some ⟨w.heap.size,0,none⟩) 0 0) 0 []:=World.ownsRow_made w #[] 0 (Nat.zero_le _) (by unfold maxLen; omega) rfl
theorem gs_fl0 (w:World) (e:TypeId):Gs e 3 w (w.alloc (.cells #[] e)) (.slice (some ⟨w.heap.size,0,none⟩) 0 0) 0 []:=⟨fl_set w _,fun g hg=>by simp[Value.ownBlock] at hg; omega,(Ch.refl _ _).alloc _⟩
noncomputable def tagV (h:Nat→Rt) (v:Value) (t:Rt):Nat→Rt:=fun i=>if v.ownBlock=some i then t else h i
theorem tagV_old {h:Nat→Rt} {v:Value} {t:Rt} {i:Nat} (hi:v.ownBlock≠some i):tagV h v t i=h i:=if_neg hi
theorem Rdk.rerow (H:Rdk w h d s) {v:Value} (G:Gs 79 3 w w2 v fs.length us) (hf:Fls w2 h us fs) (ok:DsOk ⟨s.room,fs,s.left⟩) :
  Rdk (w2.setCell ⟨d,1,none⟩ v) (tagV h v .row) d ⟨s.room,fs,s.left⟩∧Rgo w h (w2.setCell ⟨d,1,none⟩ v) (tagV h v .row):=by
 have hd:=H.lt_d
 have hnew:∀ i,i<w.heap.size→v.ownBlock≠some i:=fun i hi e=>by have:=G.lies i e; omega
 have hlt:∀ i,h i ≠ .no→v.ownBlock≠some i:=fun i hi=>hnew i (H.lt i hi)
 have H2:=H.keep G.ch
 have hc2:=ch_set w2 d 1 v
 have hc:Ch (fun b=>h b ≠ .no) w (w2.setCell ⟨d,1,none⟩ v):=(G.ch.mono (fun _ _ h=>h.elim)).trans hc2 (fun i _ hi=>by rw[hi,H.tag]; exact fun e=>by cases e)
 have hsz:(w2.setCell ⟨d,1,none⟩ v).heap.size=w2.heap.size:=by simp[World.setCell]
 obtain⟨v0,us0,c1,_⟩:=H2.row
 refine⟨⟨ok,fun b hb=>?_,(tagV_old (hnew d hd)).trans H.tag,fun j=>(World.frozen?_setCell _ _ _ _).trans (H2.zf j),(set_off (by decide)).trans H2.c0,(set_off (by decide)).trans H2.c2,H.lb,v,us,set_same c1,hc2.own G.own (fun r hv e=>hnew d hd (e ▸ hv)),fun r hv=>if_pos hv,?_⟩,hc,fun b hb=>?_⟩
 ·rw[hsz]
  by_cases e:v.ownBlock=some b
  ·exact own_lt G.own b e
  ·exact Nat.lt_of_lt_of_le (H.lt b (fun e2=>hb ((tagV_old e).trans e2))) G.ch.size
 ·refine (hf.ch hc2 (fun b hb e=>by rw[e,H.tag] at hb; cases hb)).tags fun b _ hb=>?_
  exact (tagV_old (hlt b (by rw[hb]; exact fun e=>by cases e))).trans hb
 ·by_cases e:v.ownBlock=some b
  ·exact .inr (G.lies b e)
  ·exact .inl (fun e2=>hb ((tagV_old e).trans e2))
theorem Rdk.rerow2 (H:Rdk w h d s) {v:Value} (G:Gs 79 3 w w2 v fs.length us) :
  Ch (fun b=>h b = .dk) w (w2.setCell ⟨d,1,none⟩ v)∧∀ b,h b = .by→tagV h v .row b = .by :=
 ⟨(G.ch.mono (fun _ _ h=>h.elim)).trans (ch_set w2 d 1 v) (fun i _ hi=>by rw[hi]; exact H.tag),fun b hb=>(tagV_old (fun e=>by have h1:=G.lies b e; have h2:=H.lt b (by rw[hb]; exact fun e=>by cases e); omega)).trans hb⟩
theorem Rdk.rebytes (H:Rdk w h d s) {i:Nat} (hx:s.fs[i]? = some x) (hy:y.nm=x.nm∧y.la=x.la) {v:Value} (G:Fresh w v y.bs w2) {b c:Nat} (hrow:w.cell? ⟨d,1,none⟩=some (.slice (some ⟨b,0,none⟩) s.fs.length c)) (ok:DsOk ⟨s.room,s.fs.set i y,s.left⟩) :
  Rdk (w2.setCell ⟨b,i*3+1,none⟩ v) (tagV h v .by) d ⟨s.room,s.fs.set i y,s.left⟩∧Rgo w h (w2.setCell ⟨b,i*3+1,none⟩ v) (tagV h v .by)∧(w2.setCell ⟨b,i*3+1,none⟩ v).cell? ⟨d,1,none⟩=some (.slice (some ⟨b,0,none⟩) s.fs.length c):=by
 have hd:=H.lt_d
 obtain⟨G1,G2,G3⟩:=G
 have hnew:∀ i,i<w.heap.size→v.ownBlock≠some i:=fun i hi e=>by have:=G2 i e; omega
 have hlt:∀ i,h i ≠ .no→v.ownBlock≠some i:=fun i hi=>hnew i (H.lt i hi)
 have H2:=H.keep G3
 obtain⟨v0,us,c1,ho,hr,hf⟩:=H2.row
 have c1':=G3.cell (p:=⟨d,1,none⟩) (fun h=>h) hrow
 obtain rfl:v0 = .slice (some ⟨b,0,none⟩) s.fs.length c:=by rw[c1'] at c1; injection c1 with c1; exact c1.symm
 have hb:h b = .row:=hr b rfl
 have hbd:b≠d:=fun e=>by rw[e,H.tag] at hb; cases hb
 have hc2:=ch_set w2 b (i*3+1) v
 have hc:Ch (fun b=>h b ≠ .no) w (w2.setCell ⟨b,i*3+1,none⟩ v):=(G3.mono (fun _ _ h=>h.elim)).trans hc2 (fun i _ hi=>by rw[hi,hb]; exact fun e=>by cases e)
 have hsz:(w2.setCell ⟨b,i*3+1,none⟩ v).heap.size=w2.heap.size:=by simp[World.setCell]
 obtain⟨A,cc,rfl,hl1,hl2⟩:=own_shape G1
 have hsl:Sl (w2.setCell ⟨b,i*3+1,none⟩ (.slice A y.bs.length cc)) (fun b=>tagV h (.slice A y.bs.length cc) .by b = .by) .u8 A y.bs.length y.bs:=by
  refine Sl.mono (Sl.ch (Sl.of_own G1) hc2 (fun q hq _ e=>hlt b (by rw[hb]; exact fun e=>by cases e) (e ▸ hq))) fun q _ hq=>if_pos hq
 have hst:=(ho.stored (i*3+1) (.slice A y.bs.length cc)).1
 have hf2:Fls (w2.setCell ⟨b,i*3+1,none⟩ (.slice A y.bs.length cc)) (tagV h (.slice A y.bs.length cc) .by) us s.fs:=(hf.ch hc2 (fun q hq e=>by rw[e,hb] at hq; cases hq)).tags fun q _ hq=>(tagV_old (hlt q (by rw[hq]; exact fun e=>by cases e))).trans hq
 refine⟨⟨ok,fun q hq=>?_,(tagV_old (hnew d hd)).trans H.tag,fun j=>(World.frozen?_setCell _ _ _ _).trans (H2.zf j),(set_far hbd).trans H2.c0,(set_far hbd).trans H2.c2,H.lb, .slice (some ⟨b,0,none⟩) s.fs.length c,us.set (i*3+1) (.slice A y.bs.length cc),(set_far hbd).trans c1',?_,fun r hv=>?_,?_⟩,⟨hc,fun q hq=>?_⟩,(set_far hbd).trans c1'⟩
 ·rw[hsz]
  by_cases e:(Value.slice A y.bs.length cc).ownBlock=some q
  ·exact own_lt G1 q e
  ·exact Nat.lt_of_lt_of_le (H.lt q (fun e2=>hq ((tagV_old e).trans e2))) G3.size
 ·rw[show (Ds.mk s.room (s.fs.set i y) s.left).fs.length=s.fs.length from List.length_set]
  exact hst
 ·have:r=b:=by simp[Value.ownBlock] at hv; exact hv.symm
  rw[this]
  exact (tagV_old (hlt b (by rw[hb]; exact fun e=>by cases e))).trans hb
 ·exact hf2.setB hx hy hsl hl1 hl2
 ·by_cases e:(Value.slice A y.bs.length cc).ownBlock=some q
  ·exact .inr (G2 q e)
  ·exact .inl (fun e2=>hq ((tagV_old e).trans e2))
theorem Rdk.relast (H:Rdk w h d s) {i:Nat} (hx:s.fs[i]? = some x) {b c:Nat} (hrow:w.cell? ⟨d,1,none⟩=some (.slice (some ⟨b,0,none⟩) s.fs.length c)) (n:Nat) (ok:DsOk ⟨s.room,s.fs.set i ⟨x.nm,x.bs,n⟩,s.left⟩) :
  Rdk (w.setCell ⟨b,i*3+2,none⟩ (.int .i64 (n:Int))) h d ⟨s.room,s.fs.set i ⟨x.nm,x.bs,n⟩,s.left⟩∧Ch (fun q=>q=b) w (w.setCell ⟨b,i*3+2,none⟩ (.int .i64 (n:Int)))∧h b = .row:=by
 obtain⟨v0,us,c1,ho,hr,hf⟩:=H.row
 obtain rfl:v0 = .slice (some ⟨b,0,none⟩) s.fs.length c:=by rw[hrow] at c1; injection c1 with c1; exact c1.symm
 have hb:h b = .row:=hr b rfl
 have hbd:b≠d:=fun e=>by rw[e,H.tag] at hb; cases hb
 have hc2:=ch_set w b (i*3+2) (.int .i64 (n:Int))
 have hst:=(ho.stored (i*3+2) (.int .i64 (n:Int))).1
 refine⟨⟨ok,fun q hq=>Nat.lt_of_lt_of_le (H.lt q hq) hc2.size,H.tag,fun j=>(World.frozen?_setCell _ _ _ _).trans (H.zf j),(set_far hbd).trans H.c0,(set_far hbd).trans H.c2,H.lb, .slice (some ⟨b,0,none⟩) s.fs.length c,us.set (i*3+2) (.int .i64 (n:Int)),(set_far hbd).trans hrow,?_,hr,?_⟩,hc2,hb⟩
 ·rw[show (Ds.mk s.room (s.fs.set i ⟨x.nm,x.bs,n⟩) s.left).fs.length=s.fs.length from List.length_set]
  exact hst
 ·exact (hf.ch hc2 (fun q hq e=>by rw[e,hb] at hq; cases hq)).setL hx n
theorem rsync_any (H:Rdk w h d s) (hk:k.length≤9223372036854775807):Calls Tryd.prog 60 #[pv d,kv k] w (PostR (opSync s k) d w h):=by
 have hp:pv d = .pointer (some ⟨d,0,none⟩):=rfl
 have HM:=Bx.mk (rmay1_any H hk)
 have HH:=Bx.mk H
 have HSP:Bx (∀ w1,Ch (fun _=>False) w w1→Calls Tryd.prog 47 #[pv d,kv k] w1 fun e w'=>e = .returned (.tuple #[.int .i64 ((lo s.fs k).length:Int), .bool (fnd s.fs k).isSome])∧Ch (fun _=>False) w1 w'):=⟨fun w1 hc=>spot_any (H.keep hc) k⟩
 have hmost:=H.ok.most
 obtain⟨S,hkv⟩:∃ S,kv k = .string S:=⟨_,rfl⟩
 obtain⟨m,hm⟩:∃ m,may s k=m:=⟨_,rfl⟩
 obtain⟨i,hi⟩:∃ i,(lo s.fs k).length=i:=⟨_,rfl⟩
 have HI:=Bx.mk hi
 rw[hp] at HM HSP ⊢
 rw[hkv] at HM HSP ⊢
 rw[hm] at HM
 rw[hi] at HSP
 clear hp H hk hkv hi
 by_cases h0:m=0
 ·subst h0
  have HMY:=Bx.mk hm
  clear hm
  cases hf:fnd s.fs k with
  | none =>
   have HR:Bx (opSync s k=(7,s)):=⟨by unfold opSync; rw[if_neg (by simp[HMY.out]),hf]⟩
   rw[hf] at HSP
   clear hf
   go_enter Tryd.func60,Tryd.ntmps60
   go_wp2_with fail
   refine HM.out.mono ?_
   rintro e w1 ⟨rfl,hc1⟩
   have HS1:=Bx.mk (HSP.out w1 hc1)
   have HC1:=Bx.mk hc1
   clear hc1 HSP HM
   go_wp2_with fail
   refine HS1.out.mono ?_
   rintro e w2 ⟨rfl,hc2⟩
   have hc12:=HC1.out.trans hc2 (fun _ _ h=>h)
   go_wp2
   go_ret
   exact⟨by rw[HR.out]; rfl,h,by rw[HR.out]; exact HH.out.keep hc12,Rgo.quiet hc12⟩
  | some x =>
   have HR:Bx (opSync s k=(0,⟨s.room,put s.fs ⟨k,x.bs,x.bs.length⟩,tick s.left⟩)):=⟨by unfold opSync; rw[if_neg (by simp[HMY.out]),hf]⟩
   have hxi:=at_lo HH.out.ok.fine.rise hf
   rw[HI.out] at hxi
   have HX:=Bx.mk hxi
   have HF:=Bx.mk hf
   have HP:Bx (s.fs.set i ⟨x.nm,x.bs,x.bs.length⟩=put s.fs ⟨k,x.bs,x.bs.length⟩):=⟨by
    rw[put_at (f:=⟨k,x.bs,x.bs.length⟩) HH.out.ok.fine.rise hf,HI.out,(fnd_some hf).2]⟩
   have HOK:Bx (DsOk ⟨s.room,put s.fs ⟨k,x.bs,x.bs.length⟩,s.left⟩):=⟨by
    have:=DsOk.last HH.out.ok (fnd_some hf).1
    rwa[(fnd_some hf).2] at this⟩
   have hil:i<s.fs.length:=(List.getElem?_eq_some_iff.1 hxi).1
   have hq:x.bs.length≤1073741824:=by have:=used_at HH.out.ok.fine.rise (fnd_some hf).1; have:=HH.out.ok.used; have:=HH.out.ok.room; omega
   rw[hf] at HSP
   obtain⟨n,hn⟩:∃ n,s.fs.length=n:=⟨_,rfl⟩
   have HN:=Bx.mk hn
   rw[hn] at hil hmost
   clear hf hxi hn
   go_enter Tryd.func60,Tryd.ntmps60
   go_wp2_with fail
   refine HM.out.mono ?_
   rintro e w1 ⟨rfl,hc1⟩
   have HS1:=Bx.mk (HSP.out w1 hc1)
   have HC1:=Bx.mk hc1
   clear hc1 HSP HM
   go_wp2_with fail
   refine HS1.out.mono ?_
   rintro e w2 ⟨rfl,hc2⟩
   have hc12:=HC1.out.trans hc2 (fun _ _ h=>h)
   have HH2:=Bx.mk (HH.out.keep hc12)
   have HC2:=Bx.mk hc12
   obtain⟨b,c,x',A,cc,c1,hnc,hcm,hbr,hx,_,k2,k3,_,_,_,hfz⟩:=HH2.out.file (j:=i) (by rw[HN.out]; exact hil)
   obtain rfl:x=x':=by rw[HX.out] at hx; injection hx
   have HRL:=Bx.mk ((HH2.out.keep ((Ch.refl (fun _=>False) w2).drew)).relast HX.out c1 x.bs.length (by rw[HP.out]; exact HOK.out))
   rw[HP.out] at HRL
   rw[HN.out] at c1 hnc
   have i2:(i:Int)<(n:Int):=by omega
   have hc9:c≤9223372036854775807:=by unfold maxLen at hcm; omega
   have hfz2:=hfz (i*3+2)
   obtain⟨q,hq2⟩:∃ q,x.bs.length=q:=⟨_,rfl⟩
   rw[hq2] at k2 hq HRL
   have HQ:=Bx.mk hq2
   have HD:=Bx.mk (rdid_any HRL.out.1 (may_ok HMY.out).1)
   rw[show pv d = .pointer (some ⟨d,0,none⟩) from rfl] at HD
   have HBR:=Bx.mk hbr
   clear hx hcm hc2 hc12 hq2 hfz hbr HS1 HC1
   go_wp2_with fail
   refine wp_region_still_tail 16 (by kernel_rfl) (by kernel_rfl) ?_
   simp only[List.take_succ_cons,List.take_zero,List.drop_succ_cons,List.drop_zero]
   repeat still_step
   refine wpStill_nil ?_
   change wpList _ _ _ _ _ w2.drew
   go_wp2_with fail
   refine HD.out.mono ?_
   rintro e w3 ⟨rfl,hd3,hc3⟩
   go_wp2
   go_ret
   refine⟨by rw[HR.out]; rfl,h,by rw[HR.out,HQ.out]; exact hd3,?_,fun b hb => .inl hb⟩
   exact (((HC2.out.mono (fun _ _ h=>h.elim)).drew).trans HRL.out.2.1 (fun i _ hi=>by rw[hi,HBR.out]; exact fun e=>by cases e)).trans hc3 (fun i _ hi=>by rw[hi,HH.out.tag]; exact fun e=>by cases e)
 ·have HR:Bx (opSync s k=(m,s)):=⟨by unfold opSync; rw[if_pos (by rw[hm]; exact h0),hm]⟩
  have h0':¬ (m:Int)=0:=by omega
  clear hm
  go_enter Tryd.func60,Tryd.ntmps60
  go_wp2_with fail
  refine HM.out.mono ?_
  rintro e w1 ⟨rfl,hc1⟩
  go_wp2
  go_ret
  exact⟨by rw[HR.out]; rfl,h,by rw[HR.out]; exact HH.out.keep hc1,Rgo.quiet hc1⟩
end
end
end Go.Proofs.YtoolcbaipinloaaDoor
