/- Lemmas and contracts of this proof. Conditions: said at each. -/
import Derived.Test.YtambgjpfoceieaaGreatDoorGFmFrom
import Derived.Test.YtambgjpfoceieaaGreatDoorSuLaid
import Derived.Shelf.SlSortCmp.NoneTotal
import Derived.Lib.SortBridge
set_option maxHeartbeats 4000000
namespace Go.Proofs.YtambgjpfoceieaaGreatDoor
section
open Go.RowKit Go.Oct Go.Su
section
variable {F:Nat→Prop}
theorem same1_any (s:List Int) (A:Option Addr) (n c a b B:Nat) (w:World) (hs:Sl w F .i64 A n s) (hbx:w.cell? ⟨B,0,none⟩=some (.slice A n c)) (ha:a<n) (hb:b<n) :
  Calls Tryz.prog 233 #[.int .i64 a, .int .i64 b, .pointer (some ⟨B,0,none⟩)] w fun e w'=>e = .returned (.bool (decide (gs s a=gs s b)))∧∃ q,w'=w.drewN q:=by
 obtain⟨b1,o1,rfl,_,hca⟩:=Sl.gsAt hs ha
 obtain⟨b2,o2,hA,_,hcb⟩:=Sl.gsAt hs hb
 injection hA with hA
 injection hA with hA1 hA2
 subst hA1 hA2
 generalize gs s a=x at *
 generalize gs s b=y at *
 have i1:(0:Int)≤(a:Int):=by omega
 have i2:(a:Int)<(n:Int):=by omega
 have i3:(0:Int)≤(b:Int):=by omega
 have i4:(b:Int)<(n:Int):=by omega
 obtain⟨r,hr⟩:∃ r,decide (x=y)=r:=⟨_,rfl⟩
 have hb2:(x==y)=r:=by rw[←hr]; by_cases h:x=y <;> simp[h]
 rw[hr]
 clear hs hr
 go_enter Tryz.func233,Tryz.ntmps233
 go_wp2
 go_quiet (fail)
 go_wp2
 go_ret
 exact⟨rfl,_,rfl⟩
theorem rest_val (c:List Int) (A:Option Addr) (n d a k:Nat) (x:Int) (w:World) (m:Nat) (hs:Sl w F .i64 A n c) (hn:n≤1048576) (hk:k≤1048576) (ha:a<n) (hx:gs c (a+k)=x) :
  Calls Tryz.prog 237 #[.slice A n d, .int .i64 a, .int .i64 k] (w.drewN m) fun e w'=>e = .returned (.int .i64 x)∧∃ q,w'=w.drewN q:=by
 subst hx
 exact (rest_any c A n d a k (w.drewN m) (hs.drewN m) hn hk ha).mono fun e w' h=>⟨h.1,m,h.2.symm⟩
theorem same2_any (s:List Int) (A:Option Addr) (n c a b k B K:Nat) (w:World) (hs:Sl w F .i64 A n s) (hn:n≤1048576) (hk:k≤1048576) (hbx:w.cell? ⟨B,0,none⟩=some (.slice A n c)) (hkx:w.cell? ⟨K,0,none⟩=some (.int .i64 k)) (ha:a<n) (hb:b<n) :
  Calls Tryz.prog 236 #[.int .i64 a, .int .i64 b, .pointer (some ⟨B,0,none⟩), .pointer (some ⟨K,0,none⟩)] w fun e w'=>e = .returned (.bool (decide (gs s a=gs s b)&&decide (gs s (a+k)=gs s (b+k))))∧∃ q,w'=w.drewN q:=by
 obtain⟨g,hg⟩:∃ g:Nat→Int,∀ p,gs s (p+k)=g p:=⟨_,fun _=>rfl⟩
 have HR:Bx (∀ p m,p=a∨p=b→Calls Tryz.prog 237 #[.slice A n c, .int .i64 p, .int .i64 k] (w.drewN m) fun e w'=>e = .returned (.int .i64 (g p))∧∃ q,w'=w.drewN q):=⟨fun p m hp=>rest_val s A n c p k (g p) w m hs hn hk (by rcases hp with h | h <;> omega) (hg p)⟩
 rw[hg,hg]
 clear hg
 obtain⟨b1,o1,rfl,_,hca⟩:=Sl.gsAt hs ha
 obtain⟨b2,o2,hA,_,hcb⟩:=Sl.gsAt hs hb
 injection hA with hA
 injection hA with hA1 hA2
 subst hA1 hA2
 generalize gs s a=x at *
 generalize gs s b=y at *
 have i1:(0:Int)≤(a:Int):=by omega
 have i2:(a:Int)<(n:Int):=by omega
 have i3:(0:Int)≤(b:Int):=by omega
 have i4:(b:Int)<(n:Int):=by omega
 clear hs ha hb
 by_cases hxy:x=y
 ·subst hxy
  have hb2:(x==x)=true:=by simp
  obtain⟨r,hr⟩:∃ r,decide (g a=g b)=r:=⟨_,rfl⟩
  have hb3:(g a==g b)=r:=by rw[←hr]; by_cases h:g a=g b <;> simp[h]
  have hR:(decide (x=x)&&decide (g a=g b))=r:=by rw[←hr]; simp
  rw[hR]
  clear hR hr
  go_enter Tryz.func236,Tryz.ntmps236
  go_wp2_with fail
  go_quiet ((go_at_call 237; exact HR.out _ _ (by first | exact .inl rfl | exact .inr rfl)))
  go_wp2
  go_ret
  exact⟨rfl,_,rfl⟩
 ·have hb2:(x==y)=false:=by simpa using hxy
  have hR:(decide (x=y)&&decide (g a=g b))=false:=by simp[hxy]
  rw[hR]
  clear hR hxy
  go_enter Tryz.func236,Tryz.ntmps236
  go_wp2_with fail
  go_quiet (fail)
  go_wp2
  go_ret
  exact⟨rfl,_,rfl⟩
theorem cmp_val (x y:Int) (w:World) (m:Nat):Calls Tryz.prog 221 #[.int .i64 x, .int .i64 y] (w.drewN m) fun e w'=>e = .returned (.int .i64 (Lib.compareInt x y))∧∃ q,w'=w.drewN q :=
 (AnyG.cmp_Compare_int Tryz.suCmp x y (w.drewN m)).mono fun _ _ h=>⟨h.1,m,h.2⟩
theorem cmp_any (s:List Int) (A:Option Addr) (n c a b B:Nat) (w:World) (hs:Sl w F .i64 A n s) (hbx:w.cell? ⟨B,0,none⟩=some (.slice A n c)) (ha:a<n) (hb:b<n) :
  Calls Tryz.prog 247 #[.int .i64 a, .int .i64 b, .pointer (some ⟨B,0,none⟩)] w fun e w'=>e = .returned (.int .i64 (Lib.compareInt (gs s a) (gs s b)))∧∃ q,w'=w.drewN q:=by
 obtain⟨b1,o1,rfl,_,hca⟩:=Sl.gsAt hs ha
 obtain⟨b2,o2,hA,_,hcb⟩:=Sl.gsAt hs hb
 injection hA with hA
 injection hA with hA1 hA2
 subst hA1 hA2
 generalize gs s a=x at *
 generalize gs s b=y at *
 have i1:(0:Int)≤(a:Int):=by omega
 have i2:(a:Int)<(n:Int):=by omega
 have i3:(0:Int)≤(b:Int):=by omega
 have i4:(b:Int)<(n:Int):=by omega
 have hcc:=fun m=>cmp_val x y w m
 generalize Lib.compareInt x y=r at *
 clear hs
 go_enter Tryz.func247,Tryz.ntmps247
 go_wp2_with fail
 go_quiet ((go_at_call 221; exact hcc _))
 go_wp2
 go_ret
 exact⟨rfl,_,rfl⟩
end
end
section
open Go.RowKit Go.Oct Go.Su Go.Sort
theorem ch_grow {S:Nat→Prop} {a w:World} (h:Ch S a w) (os:Array Obj):Ch S a (grow w os) :=
 ⟨h.os,h.tape,h.output,Nat.le_trans h.size (by simp[grow]),fun k hk hn=>by
  have h1:=h.size
  rw[←h.block k hk hn]
  unfold grow
  exact Array.getElem?_append_left (by omega)⟩
theorem ch_sortWorld {α:Type} [Inhabited α] (enc:α→Value) (w:World) (blk off m:Nat) (d:Array α) (os:Array Obj):Ch (fun b=>b=blk) w (sortWorld enc w blk off m d os):=by
 unfold sortWorld
 have h0:Ch (fun b=>b=blk) w (putRow enc (Sort.ahead w m) blk off d):=by
  refine⟨rfl,rfl,rfl,?_,fun k hk hn=>?_⟩
  ·simp[putRow,mapBlock,Sort.ahead]
  ·unfold putRow mapBlock Sort.ahead
   show (w.heap.modify blk _)[k]? = w.heap[k]?
   rw[Array.getElem?_modify,if_neg (fun e=>hn e.symm)]
 exact ch_grow h0 os
theorem own_setCells {e:TypeId} {g n c:Nat}:∀ (vs:List Value) (off:Nat) (w:World) (us:List Value),Own w e 1 g n c us→off+vs.length≤n→Own (w.setCells g off vs) e 1 g n c (us.take off++(vs++us.drop (off+vs.length)))
 | [],off,w,us,h,_=>by simpa[World.setCells] using h
 | v::vs,off,w,us,h,hl=>by
  have hu:=h.len
  rw[List.length_cons] at hl
  have h1:=own_setCells vs (off+1) _ _ (h.stored off v).1 (by omega)
  rw[World.setCells]
  have e1:(us.set off v).take (off+1)=us.take off++[v]:=by
   rw[List.take_add_one,List.take_set_of_le (Nat.le_refl _),List.getElem?_set_self (by omega)]
   rfl
  have e2:(us.set off v).drop (off+1+vs.length)=us.drop (off+(vs.length+1)):=by
   rw[List.drop_set_of_lt (by omega),show off+1+vs.length=off+(vs.length+1) by omega]
  rw[e1,e2,List.append_assoc] at h1
  exact h1
theorem ltS (f:Nat→Int) {n:Nat} (x y:Fin n):ltOf (fun x y:Fin n=>Lib.compareInt (f x) (f y)) x y=decide (f x<f y):=by
 unfold ltOf Lib.compareInt
 by_cases h1:f x<f y
 ·simp[h1]
 ·by_cases h2:f y<f x <;> simp[h1,h2]
theorem swoS (f:Nat→Int) (n:Nat):SWO (ltOf (fun x y:Fin n=>Lib.compareInt (f x) (f y))) where
 irrefl x:=by rw[ltS]; simp
 trans x y z h1 h2:=by rw[ltS] at *; simp at *; omega
 ntrans x y z h1 h2:=by rw[ltS] at *; simp at *; omega
section
variable {F:Nat→Prop}
def Ordered (s:List Int) (n h:Nat) (w:World) (e:Ending) (w':World):Prop:=∃ (g:Nat) (L:List Nat),e = .returned (.slice (some ⟨g,0,none⟩) n n)∧Ord s L h∧Own w' 3 1 g n n (vals L)∧w.heap.size≤g∧Ch (fun _=>False) w w'
theorem ord_of_perm {s:List Int} {n:Nat} (hl:s.length=n) (d:Array (Fin n)) (hp:d.toList.Perm (Array.ofFn (fun i:Fin n=>i)).toList) (hs:∀ i j (hi:i<d.size) (hj:j<d.size),i<j→¬ gs s d[j]<gs s d[i]):Ord s (d.toList.map Fin.val) 1:=by
 have h1:(d.toList.map Fin.val).Perm (List.range n):=by
  refine (hp.map Fin.val).trans ?_
  have:(Array.ofFn (fun i:Fin n=>i)).toList.map Fin.val=List.range n:=by
   apply List.ext_getElem
   ·simp
   ·intro i h1 h2
    simp
  rw[this]
 refine⟨fun x=>by rw[h1.mem_iff,List.mem_range,hl],h1.symm.nodup List.nodup_range,?_⟩
 rw[List.pairwise_map,List.pairwise_iff_getElem]
 intro i j hi hj hij
 have h2:=hs i j (by simpa using hi) (by simpa using hj) hij
 rintro ⟨k,h0,_,h3⟩
 obtain rfl:k=0:=by omega
 simp only[Nat.add_zero,Array.getElem_toList] at h3
 exact h2 h3
end
end
section
open Go.RowKit Go.Oct Go.Su Go.Sort
section
variable {F:Nat→Prop}
theorem sortfn_any (s:List Int) (A:Option Addr) (n c B g:Nat) (w:World) (hs:Sl w F .i64 A n s) (hF:∀ b,F b→b≠g) (hn:n≤65536) (h0:0<n) (hbx:w.cell? ⟨B,0,none⟩=some (.slice A n c)) (hBg:B≠g) (hO:Own w 3 1 g n n (vals (List.range n))) :
  Calls Tryz.prog 246 #[.slice (some ⟨g,0,none⟩) n n, .func (.func 247) #[] #[.pointer (some ⟨B,0,none⟩)]] w fun e w' =>
   e = .returned (.tuple #[])∧∃ L,Ord s L 1∧Own w' 3 1 g n n (vals L)∧Ch (fun b=>b=g) w w':=by
 have hl:=hs.len
 haveI:Inhabited (Fin n):=⟨⟨0,h0⟩⟩
 have hd:(Array.ofFn (fun i:Fin n=>i)).size=n:=by simp
 have hdj:∀ j (h:j<n),(Array.ofFn (fun i:Fin n=>i))[j]! = ⟨j,h⟩:=fun j h=>by
  rw[getElem!_pos _ j (by rw[hd]; exact h)]
  simp
 have hHolds:Holds (fun x:Fin n=>Value.int .i64 ((x.val:Nat):Int)) w g 0 (Array.ofFn (fun i:Fin n=>i)):=by
  intro j hj
  rw[hd] at hj
  refine⟨?_,by rw[Nat.zero_add]; exact hO.frozenAt j⟩
  rw[hdj j hj,Nat.zero_add]
  have:=hO.cellN hj
  rw[this,gn_at (List.getElem?_range hj)]
 have eg:∀ args w,(callFunc 247 args).run Tryz.prog w = .ok (.enter 247 args) w:=enters_of Tryz.func247 (by kernel_rfl) rfl
 have hcmp:CmpReads Tryz.prog 247 #[.pointer (some ⟨B,0,none⟩)] (fun x:Fin n=>Value.int .i64 ((x.val:Nat):Int)) (fun x y:Fin n=>Lib.compareInt (gs s x) (gs s y)) g 0 (Array.ofFn (fun i:Fin n=>i)).size w:=by
  intro m os dk _ x y
  have hC:=ch_sortWorld (fun x:Fin n=>Value.int .i64 ((x.val:Nat):Int)) w g 0 m dk os
  exact cmp_any s A n c x.val y.val B _ (hs.ch hC (fun b hb _ e=>hF b hb e)) (hC.cell (p:=⟨B,0,none⟩) (fun e=>hBg e) hbx) x.isLt y.isLt
 have hcon:=Any.slices_SortFunc Tryz.suSort (fun x:Fin n=>Value.int .i64 ((x.val:Nat):Int)) (fun _=>rfl) (fun x y:Fin n=>Lib.compareInt (gs s x) (gs s y)) (swoS (gs s) n) 247 #[.pointer (some ⟨B,0,none⟩)] g 0 n (Array.ofFn (fun i:Fin n=>i)) w eg hcmp.lays hHolds hO.lt (by rw[hd]; omega)
 change Calls Tryz.prog 246 _ _ _ at hcon
 rw[hd] at hcon
 refine hcon.mono ?_
 rintro e w' ⟨rfl,d',k,os,hp,hsrt,rfl⟩
 have hds:d'.size=n:=by rw[hp.1,hd]
 have hperm:d'.toList.Perm (Array.ofFn (fun i:Fin n=>i)).toList:=by
  have:=hp.2.2
  have e1:d'.extract 0 n=d':=by
   apply Array.ext
   ·simp[hds]
   ·intro i h1 h2
    simp
  have e2:(Array.ofFn (fun i:Fin n=>i)).extract 0 n=Array.ofFn (fun i:Fin n=>i):=by
   apply Array.ext
   ·simp
   ·intro i h1 h2
    simp
  rwa[e1,e2] at this
 refine⟨rfl,d'.toList.map Fin.val,ord_of_perm hl d' hperm (fun i j hi hj hij=>?_),?_,ch_sortWorld _ w g 0 k d' os⟩
 ·have h1:=hsrt i j (Nat.zero_le _) hij (by rw[←hds]; exact hj)
  rw[ltS,getElem!_pos d' j hj,getElem!_pos d' i hi] at h1
  simpa using h1
 ·have hw:sortWorld (fun x:Fin n=>Value.int .i64 ((x.val:Nat):Int)) w g 0 k d' os=grow ((w.drewN k).setCells g 0 (d'.toList.map (fun x:Fin n=>Value.int .i64 ((x.val:Nat):Int)))) os:=by
   have:=Lib.sorted_world (fun x:Fin n=>Value.int .i64 ((x.val:Nat):Int)) w g 0 k (Array.ofFn (fun i:Fin n=>i)) d'.toList os hHolds (by rw[Array.length_toList,hds,hd])
   rw[Array.toArray_toList] at this
   exact this
  rw[hw]
  have hv:vals (d'.toList.map Fin.val)=d'.toList.map (fun x:Fin n=>Value.int .i64 ((x.val:Nat):Int)):=by unfold vals; rw[List.map_map]; rfl
  rw[hv]
  have hOd:Own (w.drewN k) 3 1 g n n (vals (List.range n)):=hO.keep ((Ch.refl (fun _=>False) w).drewN k)
  have hlen:(d'.toList.map (fun x:Fin n=>Value.int .i64 ((x.val:Nat):Int))).length=n:=by rw[List.length_map,Array.length_toList,hds]
  have h1:=own_setCells (d'.toList.map (fun x:Fin n=>Value.int .i64 ((x.val:Nat):Int))) 0 _ _ hOd (by omega)
  rw[List.take_zero,List.nil_append,hlen,List.drop_eq_nil_of_le (by unfold vals; simp),List.append_nil] at h1
  exact h1.keep (ch_grow (Ch.refl _ _) os)
theorem bysym_any (s:List Int) (A:Option Addr) (n c:Nat) (w:World) (hs:Sl w F .i64 A n s) (hn:n≤65536) :
  Calls Tryz.prog 231 #[.slice A n c] w (Ordered s n 1 w):=by
 have hl:=hs.len
 have HL:=Bx.mk hl
 have HS:=Bx.mk (hs.mono (G:=fun b=>b<w.heap.size) (fun b h _=>h))
 clear hs hl
 go_enter Tryz.func231,Tryz.ntmps231
 go_wp2_with fail
 obtain⟨B,hB⟩:∃ B,w.heap.size=B:=⟨_,rfl⟩
 have hbx0:(w.alloc (.cells #[.slice A n c] 75)).cell? ⟨w.heap.size,0,none⟩=some (.slice A n c):=by
  rw[World.cell?_alloc_at _ _ _ _ rfl]
  rfl
 refine (upto_any n _ (by omega)).mono ?_
 rintro e w1 ⟨g,rfl,hO1,hg,hC1⟩
 rw[World.size_alloc] at hg
 have hC1w:Ch (fun _=>False) w w1:=((Ch.refl (fun _=>False) w).alloc _).trans hC1 (fun _ _ h=>h)
 have hbx:=hC1.cell (p:=⟨w.heap.size,0,none⟩) (fun h=>h) hbx0
 rw[hB] at hbx hg
 have HS1:Bx (Sl w1 (fun b=>b<w.heap.size) .i64 A n s):=⟨HS.out.ch hC1w (fun _ _ _ h=>h)⟩
 have HO1:=Bx.mk hO1
 have HC1:=Bx.mk hC1w
 have HBX:=Bx.mk hbx
 have HBG:Bx (B<g∧w.heap.size=B):=⟨by omega⟩
 rw[hB]
 clear hO1 hg hC1 hC1w hbx hbx0 hB HS
 by_cases h0:n=0
 ·have hnone:=AnyF.slices_SortFunc_none (P := Tryz.prog) (ρ := Tryz.suSort_ren) { Tryz.suSort with } (some ⟨g,0,none⟩) n (.func (.func 247) #[] #[.pointer (some ⟨B,0,none⟩)]) w1
  change Calls Tryz.prog 246 _ _ _ at hnone
  have hnone2:Calls Tryz.prog 246 #[.slice (some ⟨g,0,none⟩) n n, .func (.func 247) #[] #[.pointer (some ⟨B,0,none⟩)]] w1 fun e w'=>e = .returned (.tuple #[])∧w1=w':=by
   rw[h0] at hnone ⊢
   exact hnone.mono fun _ _ h=>⟨h.1,h.2.symm⟩
  have hord:Ord s (List.range n) 1:=⟨fun x=>by rw[List.mem_range,HL.out],List.nodup_range,by rw[h0]; exact List.Pairwise.nil⟩
  have HORD:=Bx.mk hord
  clear hnone hord h0
  go_wp2_with fail
  refine hnone2.mono ?_
  rintro e w2 ⟨rfl,rfl⟩
  go_wp2
  go_ret
  exact⟨g,_,rfl,HORD.out,HO1.out,by have:=HBG.out; omega,HC1.out⟩
 ·have hsort:=sortfn_any s A n c B g w1 HS1.out (fun b hb e=>by have:=HBG.out; omega) hn (by omega) HBX.out (by have:=HBG.out; omega) HO1.out
  go_wp2_with fail
  refine hsort.mono ?_
  rintro e w2 ⟨rfl,L,hOrd,hO2,hC2⟩
  have HOrd:=Bx.mk hOrd
  have HO2:=Bx.mk hO2
  have HC2:=Bx.mk (HC1.out.trans hC2 (S:=fun _=>False) (fun i hi (e:i=g)=>by have:=HBG.out; omega))
  clear hOrd hO2 hC2 hsort
  go_wp2
  go_ret
  exact⟨g,L,rfl,HOrd.out,HO2.out,by have:=HBG.out; omega,HC2.out⟩
end
end
section
open Go.RowKit Go.Oct Go.Su
def kOf (v:Value) (w:World):Nat:=match v with
 | .pointer (some p)=>match w.cell? p with
  | some (.int _ z)=>z.toNat
  | _=>0
 | _=>0
theorem kOf_eq {w:World} {K k:Nat} (h:w.cell? ⟨K,0,none⟩=some (.int .i64 (k:Nat))):kOf (.pointer (some ⟨K,0,none⟩)) w=k:=by
 unfold kOf
 simp only[h]
 simp
theorem Own.slN {w:World} {e:TypeId} {g n c:Nat} {xs:List Nat} (h:Own w e 1 g n c (vals xs)):Sl w (fun b=>b=g) .i64 (some ⟨g,0,none⟩) n (asI xs):=by
 rw[←vals_asI] at h
 exact h.sl
theorem first_same {s:List Int} (x y:Nat):decide (gs s x=gs s y)=true↔EqK (gs s) 1 x y:=by
 rw[decide_eq_true_eq]
 constructor
 ·intro h j hj
  obtain rfl:j=0:=by omega
  exact h
 ·intro h
  exact h 0 (by omega)
theorem next_same {s:List Int} {c:List Nat} {k:Nat} (r:Rk s (zs c) k) (hs:Pos s) (h1:1≤k) (x y:Nat):(decide (gs (asI c) x=gs (asI c) y)&&decide (gs (asI c) (x+k)=gs (asI c) (y+k)))=true↔EqK (gs s) (k+k) x y:=by
 have e:asI c=zs c:=rfl
 rw[e,Bool.and_eq_true,decide_eq_true_eq,decide_eq_true_eq,r.eq hs h1,r.eq hs h1]
 constructor
 ·exact fun h=>h.1.add h.2
 ·exact fun h=>⟨h.mono (Nat.le_add_right k k),h.tail⟩
theorem clsUp_cls {s:List Int} {L cl:List Nat} {k n:Nat} {a:Bool} (h:ClsUp (EqK (gs s) k) n L L.length cl a) (hn:s.length=n):CK s L k cl:=by
 subst hn
 exact h.all
structure St (s:List Int) (n:Nat) (w wr:World) (k K g gc:Nat) (L cl:List Nat) (a:Bool):Prop where
 k1:1≤k
 kle:k≤131072
 kc:wr.cell? ⟨K,0,none⟩=some (.int .i64 (k:Nat))
 oL:Own wr 3 1 g n n (vals L)
 oC:Own wr 3 1 gc n n (vals cl)
 ord:Ord s L k
 cls:ClsUp (EqK (gs s) k) n L L.length cl a
 ch:Ch (fun _=>False) w wr
 lies:w.heap.size≤g∧w.heap.size≤gc∧w.heap.size≤K
def SortedAll (s:List Int) (n:Nat) (w:World) (e:Ending) (w':World):Prop:=∃ (g:Nat) (L:List Nat),e = .returned (.slice (some ⟨g,0,none⟩) n n)∧IsSA s L∧Own w' 3 1 g n n (vals L)∧w.heap.size≤g∧Ch (fun _=>False) w w'
theorem box_new (w:World) (v:Value) (e:TypeId):(w.alloc (.cells #[v] e)).cell? ⟨w.heap.size,0,none⟩=some v:=by
 rw[World.cell?_alloc_at _ _ _ _ rfl]
 rfl
section
variable {F:Nat→Prop}
theorem sorted_any (s:List Int) (A:Option Addr) (n c:Nat) (w:World) (hs:Sl w F .i64 A n s) (hn:n≤65536) (hp:Pos s) :
  Calls Tryz.prog 207 #[.slice A n c] w (SortedAll s n w):=by
 have hl:=hs.len
 have HL:=Bx.mk hl
 have HP:=Bx.mk hp
 have HS:=Bx.mk (hs.mono (G:=fun b=>b<w.heap.size) (fun b h _=>h))
 clear hs hl hp
 go_enter Tryz.func207,Tryz.ntmps207
 go_wp2_with fail
 obtain⟨B,hB⟩:∃ B,w.heap.size=B:=⟨_,rfl⟩
 have hbx0:=box_new w (.slice A n c) 75
 have hC0:=(Ch.refl (fun _=>False) w).alloc (.cells #[.slice A n c] 75)
 have hsz0:(w.alloc (.cells #[.slice A n c] 75)).heap.size=B+1:=by rw[World.size_alloc,hB]
 have hS0:=HS.out.ch hC0 (fun _ _ _ h=>h)
 rw[hB] at hbx0 ⊢
 generalize w.alloc (.cells #[.slice A n c] 75)=w0 at *
 refine (bysym_any s A n c w0 hS0 hn).mono ?_
 rintro e w1 ⟨g1,L,rfl,hOrd,hO1,hg1,hC1⟩
 have hC1w:=hC0.trans hC1 (fun _ _ h=>h)
 have hbx1:=hC1.cell (p:=⟨B,0,none⟩) (fun h=>h) hbx0
 have hS1:=hS0.ch hC1 (fun _ _ _ h=>h)
 have HOrd:=Bx.mk hOrd
 have HO1:=Bx.mk hO1
 have HC1:=Bx.mk hC1w
 have HS1:=Bx.mk hS1
 have HBX1:=Bx.mk hbx1
 have HG1:Bx (w.heap.size≤g1):=⟨by omega⟩
 clear hOrd hO1 hg1 hC1 hC1w hbx1 hS1 hS0 hC0 hbx0 hsz0 hB HS
 have hcla:=classify_any (EqK (gs s) 1) (fun x y=>decide (gs s x=gs s y)) (fun x y=>first_same x y) 233 #[.pointer (some ⟨B,0,none⟩)] L (some ⟨g1,0,none⟩) n n w1 HO1.out.slN (by omega) HOrd.out.nodup (fun x hx=>by rw[←HL.out]; exact (HOrd.out.mem x).1 hx) (enters_of Tryz.func233 (by kernel_rfl) rfl)
  (fun W hW x y hx hy=>same1_any s A n c x y B W (HS1.out.ch hW (fun _ _ _ h=>h)) (hW.cell (p:=⟨B,0,none⟩) (fun h=>h) HBX1.out) hx hy)
 go_wp2_with fail
 refine hcla.mono ?_
 rintro e w2 ⟨gc,cl,a,rfl,hcl,hOc,hgc,hC2⟩
 have hK2:=(Ch.refl (fun _=>False) w2).alloc (.cells #[.int .i64 1] 3)
 have hC2w:=(HC1.out.trans hC2 (fun _ _ h=>h)).trans hK2 (fun _ _ h=>h)
 have hSt:St s n w (w2.alloc (.cells #[.int .i64 1] 3)) 1 w2.heap.size g1 gc L cl a :=
  ⟨Nat.le_refl _,by omega,box_new w2 (.int .i64 1) 3,(HO1.out.keep hC2).keep hK2,hOc.keep hK2,HOrd.out,hcl,hC2w,HG1.out,by have:=HC1.out.size; omega,by have:=HC1.out.size; have:=hC2.size; omega⟩
 have HSt:=Bx.mk hSt
 clear hcl hOc hgc hC2 hcla HO1 HC1 hK2 hC2w hSt HOrd HG1 HS1 HBX1
 go_wp2_with fail
 generalize w2.heap.size=K0 at *
 generalize w2.alloc (.cells #[.int .i64 1] 3)=w3 at *
 go_loopw [3,4,5,6,7] (fun v3 v4 v5 v6 _ wr=>∃ (k K g gc:Nat) (L cl:List Nat) (a:Bool),v3 = .slice (some ⟨g,0,none⟩) n n∧v4 = .slice (some ⟨gc,0,none⟩) n n∧v5 = .bool a∧v6 = .pointer (some ⟨K,0,none⟩)∧St s n w wr k K g gc L cl a) (fun _ _ _ v6 _ wr=>n-kOf v6 wr)
 case atStart=>exact⟨1,K0,g1,gc,L,cl,a,rfl,rfl,rfl,rfl,HSt.out⟩
 case round =>
  obtain⟨k,K,g,gc,L,cl,a,rfl,rfl,rfl,rfl,hSt⟩:=hrel
  cases a with
  | true =>
   have hSA:IsSA s L:=hSt.ord.strict (hSt.cls.yesAll) (clsUp_cls hSt.cls HL.out)
   have HSA:=Bx.mk hSA
   have HST:=Bx.mk hSt
   clear hSA hSt
   go_wp2
   go_ret
   exact⟨g,L,rfl,HSA.out,HST.out.oL,HST.out.lies.1,HST.out.ch⟩
  | false =>
   have hkn:k<n:=by
    rw[←HL.out]
    exact not_apart HP.out hSt.ord (hSt.cls.no rfl)
   have hkc:=hSt.kc
   have hk1:=hSt.k1
   have hCK:=clsUp_cls hSt.cls HL.out
   have hbnd:∀ x,x<n→gn cl x<n:=fun x hx=>by
    obtain⟨j,hj⟩:=hSt.ord.find (x:=x) (by rw[HL.out]; exact hx)
    have h1:=(hCK.le hj).1
    obtain⟨h2,_⟩:=List.getElem?_eq_some_iff.1 hj
    have h3:=hSt.ord.len
    have h4:=HL.out
    omega
   have hrl:=rst_len hSt.ord HP.out (by rw[HL.out]; omega)
   have hrm:=rst_mem (s:=s) (k:=k) hSt.ord.mem (by rw[HL.out]; omega)
   have hcnt:=cls_cnt HP.out hSt.ord hCK (by rw[HL.out]; omega)
   have htw:=fun M=>Put.twice (M:=M) HP.out hSt.ord hCK (by rw[HL.out]; omega)
   have hrk:=hCK.rk hSt.ord
   rw[HL.out] at hrl hrm hcnt htw
   have hlt:∀ x∈L,x<n:=fun x hx=>by rw[←HL.out]; exact (hSt.ord.mem x).1 hx
   have HRM:Bx (∀ x∈rst n k L,x<n):=⟨fun x hx=>(hrm x).1 hx⟩
   have HCNT:=Bx.mk hcnt
   have HTW:=Bx.mk htw
   have HRK:=Bx.mk hrk
   have HBND:=Bx.mk hbnd
   have hrst:=byrest_any L (some ⟨g,0,none⟩) n n k wr hSt.oL.slN hn (by omega) hrl hlt
   have HST:=Bx.mk hSt
   obtain⟨wo,rfl⟩:∃ wo:World,wo=wr:=⟨_,rfl⟩
   clear hSt hCK hbnd hrl hrm hcnt htw hrk hlt
   go_wp2_with fail
   refine hrst.mono ?_
   rintro e w4 ⟨A4,c4,rfl,hs4,hc4,hcm4,hC4⟩
   have hcls:=byclass_any (rst n k L) cl A4 (some ⟨gc,0,none⟩) n c4 n w4 hs4 (HST.out.oC.keep hC4).slN hn HRM.out HBND.out HCNT.out
   have HC4:=Bx.mk hC4
   clear hs4 hrst hC4
   go_wp2_with fail
   refine hcls.mono ?_
   rintro e w5 ⟨g5,M,rfl,hPut,hO5,hg5,hC5⟩
   have HOrd5:=Bx.mk (HTW.out M hPut)
   have HC5:=Bx.mk (HC4.out.trans hC5 (fun _ _ h=>h))
   have HO5:=Bx.mk hO5
   have HG5:Bx (w.heap.size≤g5):=⟨by have:=HST.out.ch.size; have:=HC4.out.size; omega⟩
   clear hPut hO5 hg5 hC5 hcls HC4 HTW
   go_wp2_with fail
   obtain⟨V,hV⟩:∃ V,w5.heap.size=V:=⟨_,rfl⟩
   have hvb:=box_new w5 (.slice (some ⟨gc,0,none⟩) n n) 75
   have hC6:=(Ch.refl (fun _=>False) w5).alloc (.cells #[.slice (some ⟨gc,0,none⟩) n n] 75)
   rw[hV] at hvb ⊢
   generalize w5.alloc (.cells #[.slice (some ⟨gc,0,none⟩) n n] 75)=w6 at *
   have hCo6:=HC5.out.trans hC6 (fun _ _ h=>h)
   have hkc6:=hCo6.cell (p:=⟨K,0,none⟩) (fun h=>h) hkc
   have hcl6:=(HST.out.oC.keep hCo6).slN
   have hcla:=classify_any (EqK (gs s) (k+k)) (fun x y=>decide (gs (asI cl) x=gs (asI cl) y)&&decide (gs (asI cl) (x+k)=gs (asI cl) (y+k))) (fun x y=>next_same HRK.out HP.out hk1 x y) 236 #[.pointer (some ⟨V,0,none⟩), .pointer (some ⟨K,0,none⟩)] M (some ⟨g5,0,none⟩) n n w6 (HO5.out.keep hC6).slN (by omega) HOrd5.out.nodup (fun x hx=>by rw[←HL.out]; exact (HOrd5.out.mem x).1 hx) (enters_of Tryz.func236 (by kernel_rfl) rfl)
    (fun W hW x y hx hy=>same2_any (asI cl) _ n n x y k V K W (hcl6.ch hW (fun _ _ _ h=>h)) (by omega) (by omega) (hW.cell (p:=⟨V,0,none⟩) (fun h=>h) hvb) (hW.cell (p:=⟨K,0,none⟩) (fun h=>h) hkc6) hx hy)
   refine hcla.mono ?_
   rintro e w7 ⟨g7,cl7,a7,rfl,hcl7,hO7,hg7,hC7⟩
   have hCo7:=hCo6.trans hC7 (fun _ _ h=>h)
   have hkc7:=hCo7.cell (p:=⟨K,0,none⟩) (fun h=>h) hkc
   have HCo7:=Bx.mk hCo7
   have HCL7:=Bx.mk hcl7
   have HO7:=Bx.mk hO7
   have HO57:=Bx.mk ((HO5.out.keep hC6).keep hC7)
   have HG7:Bx (w.heap.size≤g7):=⟨by have:=HST.out.ch.size; have:=hCo6.size; omega⟩
   have hkk:(k:Int)*2=((k+k:Nat):Int):=by omega
   have HKK:=Bx.mk hkk
   clear hvb hC6 hCo6 hkc6 hcl6 hcla hcl7 hO7 hg7 hC7 hCo7 hV HO5 HC5 hkk
   go_wp2_with fail
   have hb:=box_new w7 (.int .i64 ((k:Int)*2)) 3
   have hA:=(Ch.refl (fun _=>False) w7).alloc (.cells #[.int .i64 ((k:Int)*2)] 3)
   rw[HKK.out] at hb hA ⊢
   have hw:=HST.out.ch.size
   have hw2:=HCo7.out.size
   refine⟨⟨k+k,w7.heap.size,g5,g7,M,cl7,a7,rfl,rfl,rfl,rfl,⟨by omega,by omega,hb,HO57.out.keep hA,HO7.out.keep hA,HOrd5.out,HCL7.out,(HST.out.ch.trans HCo7.out (fun _ _ h=>h)).trans hA (fun _ _ h=>h),HG5.out,HG7.out,by omega⟩⟩,?_⟩
   rw[kOf_eq hb,kOf_eq hkc]
   omega
end
end
section
open Go.RowKit Go.Oct Go.Su
section
variable {F:Nat→Prop}
theorem aErr_zero {s:List Int} (hn:s.length≤65536) (hp:Pos s):aErr s=0:=by
 unfold aErr
 rw[if_neg (by omega),if_pos]
 rw[List.all_eq_true]
 intro x hx
 simpa using hp x hx
def OwnSufs (s:List Int) (n:Nat) (w:World) (e:Ending) (w':World):Prop:=∃ (g:Nat) (L:List Nat),e = .returned (.tuple #[.slice (some ⟨g,0,none⟩) n n, .int .i64 0])∧IsSA s L∧Own w' 3 1 g n n (vals L)∧w.heap.size≤g∧Ch (fun _=>False) w w'
theorem array_own (s:List Int) (A:Option Addr) (n c:Nat) (w:World) (hs:Sl w F .i64 A n s) (hn:n≤65536) (hp:Pos s) :
  Calls Tryz.prog 157 #[.slice A n c] w (OwnSufs s n w):=by
 have hl:=hs.len
 have hch:=check_any s A n c w hs (by omega)
 rw[aErr_zero (by omega) hp] at hch
 have hsort:=sorted_any s A n c w hs hn hp
 clear hs hp hl
 go_enter Tryz.func157,Tryz.ntmps157
 go_wp2_with fail
 refine hch.mono ?_
 rintro e w' ⟨rfl,rfl⟩
 go_wp2_with fail
 refine hsort.mono ?_
 rintro e w2 ⟨g,L,rfl,hSA,hO,hg,hC⟩
 have HSA:=Bx.mk hSA
 have HO:=Bx.mk hO
 have HC:=Bx.mk hC
 have HG:=Bx.mk hg
 clear hSA hO hC hg hsort hch
 go_wp2
 go_returns
 exact⟨g,L,rfl,HSA.out,HO.out,HG.out,HC.out⟩
end
end
section
open Go.RowKit Go.Oct Go.Su
section
variable {F:Nat→Prop}
def tup (s:List Int) (L:List Nat) (j:Nat):List Int:=(trn s L).take j++(asI L).drop j
theorem tup_zero (s:List Int) (L:List Nat):tup s L 0=asI L:=by unfold tup; simp
theorem tup_all (s:List Int) (L:List Nat):tup s L L.length=trn s L:=by
 unfold tup
 rw[List.take_of_length_le (by rw[trn_len]; exact Nat.le_refl _),List.drop_of_length_le (by rw[asI_len]; exact Nat.le_refl _),List.append_nil]
theorem tup_here {s:List Int} {L:List Nat} {j x:Nat} (h:L[j]? = some x):(tup s L j).getD j 0=(x:Int):=by
 obtain⟨h1,_⟩:=List.getElem?_eq_some_iff.1 h
 unfold tup
 rw[List.getD_eq_getElem?_getD,List.getElem?_append_right (by rw[List.length_take,trn_len]; omega),List.length_take,trn_len,show j-min j L.length=0 by omega,List.getElem?_drop,Nat.add_zero]
 unfold asI
 rw[List.getElem?_map,h]
 rfl
theorem tup_next {s:List Int} {L:List Nat} {j x:Nat} (h:L[j]? = some x):(tup s L j).set j (gs s (prv s.length x))=tup s L (j+1):=by
 obtain⟨h1,_⟩:=List.getElem?_eq_some_iff.1 h
 have h2:=trn_at (s:=s) h
 unfold tup
 rw[List.set_append_right _ _ (by rw[List.length_take,trn_len]; omega),List.length_take,trn_len,show j-min j L.length=0 by omega,List.take_add_one,h2,Option.toList_some,List.append_assoc]
 congr 1
 rw[List.drop_eq_getElem_cons (by rw[asI_len]; exact h1),List.set_cons_zero]
 rfl
def TurnCap (s:List Int) (n:Nat) (w:World) (e:Ending) (w':World):Prop:=∃ (A:Option Addr) (c m:Nat) (ec:Int) (l:List Int),e = .returned (.tuple #[.slice A m c, .int .i64 ec])∧Sl w' (fun b=>w.heap.size≤b) .i64 A m l∧TRes s n ec m l∧m≤c∧c≤maxLen∧Ch (fun _=>False) w w'
theorem turn_cap (s:List Int) (A:Option Addr) (n c:Nat) (w:World) (hs:Sl w F .i64 A n s) (hn:n≤65536) :
  Calls Tryz.prog 98 #[.slice A n c] w (TurnCap s n w):=by
 have HS:=Bx.mk (hs.mono (G:=fun b=>b<w.heap.size) (fun b h _=>h))
 have HL:=Bx.mk hs.len
 have hcl:=closed_any s A n c w hs (by omega)
 have d1:decide (65536<(n:Int))=false:=by simp; omega
 clear hs
 go_enter Tryz.func98,Tryz.ntmps98
 go_wp2_with fail
 refine hcl.mono ?_
 rintro e w' ⟨b,rfl,hb,rfl⟩
 cases b with
 | false =>
  have HN:Bx (¬Closed s):=⟨fun h=>by have:=hb.2 h; cases this⟩
  clear hb
  go_wp2
  go_returns
  exact⟨none,0,0,1,[],rfl,Sl.nil _ _ _ _, .inr (.inl ⟨hn,HN.out,rfl,rfl,rfl⟩),Nat.le_refl _,Nat.zero_le _,Ch.refl _ _⟩
 | true =>
  have HC:=Bx.mk (hb.1 rfl)
  have har:=array_own s A n c w HS.out hn HC.out.pos
  have hn0:0<n:=by rw[←HL.out]; exact HC.out.full
  clear hb hcl
  go_wp2_with fail
  refine har.mono ?_
  rintro e w1 ⟨H,L,rfl,hSA,hO1,hg,hC1⟩
  have HSA:=Bx.mk hSA
  have HLn:Bx (L.length=n):=⟨by rw[hSA.len,HL.out]⟩
  have HA1:Bx (Sl w1 (fun b=>b<w.heap.size) .i64 A n s):=⟨HS.out.ch hC1 (fun _ _ _ h=>h)⟩
  have HO1:Bx (Own w1 3 1 H n n ((tup s L 0).map (Value.int .i64))):=⟨by rw[tup_zero,vals_asI]; exact hO1⟩
  have HC1:=Bx.mk hC1
  have HG:=Bx.mk hg
  clear hSA hO1 hC1 har hg
  go_wp2_with fail
  go_loopw [6,7,23] (fun _ _ i wr=>∃ j:Nat,j≤n∧i = .int .i64 j∧Own wr 3 1 H n n ((tup s L j).map (Value.int .i64))∧Ch (fun b=>b=H) w1 wr) (fun _ _ i _=>n-(intOf i).toNat)
  case atStart=>exact⟨0,Nat.zero_le _,rfl,HO1.out,Ch.refl _ _⟩
  case round =>
   obtain⟨j,hj,rfl,hO,hC⟩:=hrel
   by_cases hjn:j<n
   ·have dj:decide ((j:Int)<(n:Int))=true:=by simp; omega
    obtain⟨x,hx⟩:∃ x,L[j]? = some x:=⟨_,List.getElem?_eq_getElem (by rw[HLn.out]; exact hjn)⟩
    have hxn:x<n:=by rw[←HL.out]; exact (HSA.out.mem x).1 (List.mem_of_getElem? hx)
    have hcx:=hO.cellI hjn
    rw[tup_here hx] at hcx
    have hfo:=hO.frozenAt j
    have hah:=ahead_any s A n c x wr (HA1.out.ch hC (fun b hb _ (e:b=H)=>by have:=HG.out; omega)) (by omega) hxn
    have hst:=hO.storedI j (gs s (prv s.length x))
    rw[tup_next hx,HL.out] at hst
    obtain⟨v,hv⟩:∃ v,gs s (prv n x)=v:=⟨_,rfl⟩
    rw[hv] at hst hah
    have HST:=Bx.mk hst.1
    have HCC:=Bx.mk (hC.trans hst.2 (fun _ _ h=>h))
    have HAH:=Bx.mk hah
    have i2:(j:Int)<(n:Int):=by omega
    clear hO hC hx hst hv hah
    go_wp2_with fail
    refine HAH.out.mono ?_
    rintro e w2 ⟨rfl,rfl⟩
    clear HAH
    go_wp2
    go_roundw
    case rel=>exact⟨j+1,by omega,by go_num,HST.out,HCC.out⟩
    case measure=>simp[intOf]; omega
   ·have hjn':j=n:=by omega
    have dj:decide ((j:Int)<(n:Int))=false:=by simp; omega
    have e1:=tup_all s L
    rw[HLn.out] at e1
    rw[hjn',e1] at hO
    have HO:=Bx.mk hO
    have HCF:=Bx.mk (HC1.out.trans hC (S:=fun _=>False) (fun i hi (e:i=H)=>by have:=HG.out; omega))
    clear hO hC hjn' e1
    go_wp2
    go_returns
    exact⟨_,n,n,0,trn s L,rfl,HO.out.sl.mono (fun b _ hb=>by have:=HG.out; omega), .inr (.inr ⟨hn,rfl,rfl,trn_turned HC.out HSA.out⟩),Nat.le_refl _,by unfold maxLen; omega,HCF.out⟩
end
end
end Go.Proofs.YtambgjpfoceieaaGreatDoor
