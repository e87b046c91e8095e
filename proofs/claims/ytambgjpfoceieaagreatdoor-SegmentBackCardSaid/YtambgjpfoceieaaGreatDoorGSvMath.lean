/- Lemmas and contracts of this proof. Conditions: said at each. -/
import Derived.Test.YtambgjpfoceieaaGreatDoorGBiMath
namespace Go.Su
section
def gn (c:List Nat) (p:Nat):Nat:=c.getD p 0
theorem gn_at {c:List Nat} {p x:Nat} (h:c[p]? = some x):gn c p=x:=by
 unfold gn
 rw[List.getD_eq_getElem?_getD,h]
 rfl
theorem gn_some {c:List Nat} {p:Nat} (h:p<c.length):c[p]? = some (gn c p):=by
 unfold gn
 rw[List.getD_eq_getElem?_getD,List.getElem?_eq_getElem h]
 rfl
theorem gn_set {c:List Nat} {p q v:Nat} (hp:p<c.length):gn (c.set p v) q=if p=q then v else gn c q:=by
 unfold gn
 rw[List.getD_eq_getElem?_getD,List.getD_eq_getElem?_getD]
 by_cases h:p=q
 ·subst h
  rw[if_pos rfl,List.getElem?_set_self hp]
  rfl
 ·rw[if_neg h,List.getElem?_set_ne h]
def zs (c:List Nat):List Int:=c.map fun x:Nat=>(x:Int)
theorem zs_len (c:List Nat):(zs c).length=c.length:=List.length_map ..
theorem zs_gs {c:List Nat} {p:Nat} (h:p<c.length):gs (zs c) p=(gn c p:Int):=gs_at (by unfold zs; rw[List.getElem?_map,gn_some h]; rfl)
theorem sub_perm:∀ (A M:List Nat),A.Nodup→(∀ x∈A,x∈M)→M.length≤A.length→M.Perm A
 | [],M,_,_,hl=>by
  have h0:M.length≤0:=hl
  have:M=[]:=List.eq_nil_of_length_eq_zero (by omega)
  rw[this]
 | a::A,M,hn,hm,hl=>by
  rw[List.nodup_cons] at hn
  have ha:a∈M:=hm a (List.mem_cons_self ..)
  have hp:=List.perm_cons_erase ha
  have hle:=hp.length_eq
  rw[List.length_cons] at hle hl
  refine hp.trans (List.Perm.cons a (sub_perm A (M.erase a) hn.2 (fun x hx=>?_) (by omega)))
  have hne:x≠a:=fun e=>hn.1 (e ▸ hx)
  exact (List.mem_erase_of_ne hne).2 (hm x (List.mem_cons_of_mem _ hx))
theorem range_all {n:Nat} {M:List Nat} (hm:∀ x,x<n→x∈M) (hl:M.length≤n):M.Perm (List.range n) :=
 sub_perm _ M List.nodup_range (fun x hx=>hm x (List.mem_range.1 hx)) (by rw[List.length_range]; exact hl)
theorem range_of {n:Nat} {M:List Nat} (hn:M.Nodup) (hm:∀ x∈M,x<n) (hl:n≤M.length):M.Perm (List.range n) :=
 (sub_perm M (List.range n) hn (fun x hx=>List.mem_range.2 (hm x hx)) (by rw[List.length_range]; exact hl)).symm
structure ClsUp (E:Nat→Nat→Prop) (n:Nat) (L:List Nat) (j:Nat) (c:List Nat) (a:Bool):Prop where
 len:c.length=n
 zero:1≤j→∀ x,L[0]? = some x→gn c x=0
 same:∀ i x y,i+1<j→L[i]? = some x→L[i+1]? = some y→E x y→gn c y=gn c x
 diff:∀ i x y,i+1<j→L[i]? = some x→L[i+1]? = some y→¬ E x y→gn c y=i+1
 yes:a=true→∀ i x y,i+1<j→L[i]? = some x→L[i+1]? = some y→¬ E x y
 no:a=false→∃ i x y,L[i]? = some x∧L[i+1]? = some y∧E x y
section
variable {E:Nat→Nat→Prop} {n:Nat} {L c:List Nat} {j x y:Nat} {a:Bool}
theorem clsUp_start:ClsUp E n L 0 (List.replicate n 0) true :=
 ⟨List.length_replicate ..,fun h=>absurd h (by omega),fun _ _ _ h=>absurd h (by omega),fun _ _ _ h=>absurd h (by omega),fun _ _ _ _ h=>absurd h (by omega),fun h=>by cases h⟩
theorem ClsUp.first (h:ClsUp E n L 0 c a) (hL:∀ x∈L,x<n) (hx:L[0]? = some x):ClsUp E n L 1 (c.set x 0) a:=by
 have hxl:x<c.length:=by rw[h.len]; exact hL x (List.mem_of_getElem? hx)
 refine⟨by rw[List.length_set]; exact h.len,fun _ z hz=>?_,fun _ _ _ h=>absurd h (by omega),fun _ _ _ h=>absurd h (by omega),fun _ _ _ _ h=>absurd h (by omega),h.no⟩
 obtain rfl:z=x:=Option.some.inj (hz.symm.trans hx)
 rw[gn_set hxl,if_pos rfl]
theorem ClsUp.more (h:ClsUp E n L (j+1) c a) (hn:L.Nodup) (hL:∀ x∈L,x<n) (hx:L[j]? = some x) (hy:L[j+1]? = some y) {v:Nat} {a':Bool} (h1:E x y→v=gn c x∧a'=false) (h2:¬ E x y→v=j+1∧a'=a):ClsUp E n L (j+2) (c.set y v) a':=by
 have hyl:y<c.length:=by rw[h.len]; exact hL y (List.mem_of_getElem? hy)
 have ne:∀ {i z},i<j+1→L[i]? = some z→y≠z:=fun {i z} hi hz e=>by
  subst e
  have:=at_one hn hy hz
  omega
 refine⟨by rw[List.length_set]; exact h.len,fun _ z hz=>?_,fun i z u hi hz hu he=>?_,fun i z u hi hz hu he=>?_,fun ha i z u hi hz hu=>?_,fun ha=>?_⟩
 ·rw[gn_set hyl,if_neg (ne (by omega) hz)]
  exact h.zero (by omega) z hz
 ·rw[gn_set hyl,gn_set hyl,if_neg (ne (by omega) hz)]
  by_cases e:i=j
  ·subst e
   obtain rfl:u=y:=Option.some.inj (hu.symm.trans hy)
   obtain rfl:z=x:=Option.some.inj (hz.symm.trans hx)
   rw[if_pos rfl]
   exact (h1 he).1
  ·rw[if_neg (ne (by omega) hu)]
   exact h.same i z u (by omega) hz hu he
 ·rw[gn_set hyl]
  by_cases e:i=j
  ·subst e
   obtain rfl:u=y:=Option.some.inj (hu.symm.trans hy)
   obtain rfl:z=x:=Option.some.inj (hz.symm.trans hx)
   rw[if_pos rfl]
   exact (h2 he).1
  ·rw[if_neg (ne (by omega) hu)]
   exact h.diff i z u (by omega) hz hu he
 ·have hne:¬ E x y:=fun he=>by rw[(h1 he).2] at ha; cases ha
  by_cases e:i=j
  ·subst e
   obtain rfl:u=y:=Option.some.inj (hu.symm.trans hy)
   obtain rfl:z=x:=Option.some.inj (hz.symm.trans hx)
   exact hne
  ·rw[(h2 hne).2] at ha
   exact h.yes ha i z u (by omega) hz hu
 ·by_cases he:E x y
  ·exact⟨j,x,y,hx,hy,he⟩
  ·rw[(h2 he).2] at ha
   exact h.no ha
end
structure Cls (E:Nat→Nat→Prop) (n:Nat) (L c:List Nat):Prop where
 len:c.length=n
 zero:∀ x,L[0]? = some x→gn c x=0
 same:∀ i x y,L[i]? = some x→L[i+1]? = some y→E x y→gn c y=gn c x
 diff:∀ i x y,L[i]? = some x→L[i+1]? = some y→¬ E x y→gn c y=i+1
section
variable {E:Nat→Nat→Prop} {n:Nat} {L c:List Nat} {a:Bool}
theorem ClsUp.all (h:ClsUp E n L L.length c a):Cls E n L c:=by
 have key:∀ {i y},L[i+1]? = some y→i+1<L.length:=fun {i y} hy=>(List.getElem?_eq_some_iff.1 hy).1
 refine⟨h.len,fun x hx=>h.zero ?_ x hx,fun i x y hx hy he=>h.same i x y (key hy) hx hy he,fun i x y hx hy he=>h.diff i x y (key hy) hx hy he⟩
 obtain⟨h1,_⟩:=List.getElem?_eq_some_iff.1 hx
 omega
theorem ClsUp.yesAll (h:ClsUp E n L L.length c true):∀ i x y,L[i]? = some x→L[i+1]? = some y→¬ E x y :=
 fun i x y hx hy=>h.yes rfl i x y (List.getElem?_eq_some_iff.1 hy).1 hx hy
end
structure Ord (s:List Int) (L:List Nat) (h:Nat):Prop where
 mem:∀ x,x∈L↔x<s.length
 nodup:L.Nodup
 ord:L.Pairwise fun x y=>¬ LtK (gs s) h y x
section
variable {s:List Int} {L c:List Nat} {h:Nat}
theorem Ord.perm (o:Ord s L h):L.Perm (List.range s.length):=by
 rw[List.perm_ext_iff_of_nodup o.nodup List.nodup_range]
 intro a
 rw[o.mem,List.mem_range]
theorem Ord.len (o:Ord s L h):L.length=s.length:=by rw[o.perm.length_eq,List.length_range]
theorem Ord.lt (o:Ord s L h) {i x:Nat} (hx:L[i]? = some x):x<s.length:=(o.mem x).1 (List.mem_of_getElem? hx)
theorem Ord.find (o:Ord s L h) {x:Nat} (hx:x<s.length):∃ i:Nat,L[i]? = some x:=by
 obtain⟨i,h1,h2⟩:=List.getElem_of_mem ((o.mem x).2 hx)
 exact⟨i,by rw[List.getElem?_eq_getElem h1,h2]⟩
theorem Ord.not (o:Ord s L h) {i j x y:Nat} (hi:L[i]? = some x) (hj:L[j]? = some y) (hij:i≤j):¬ LtK (gs s) h y x:=by
 have hp:=o.ord
 rw[List.pairwise_iff_getElem] at hp
 obtain⟨e1,e2⟩:=List.getElem?_eq_some_iff.1 hi
 obtain⟨e3,e4⟩:=List.getElem?_eq_some_iff.1 hj
 rcases Nat.lt_or_ge i j with h6 | h6
 ·have:=hp i j e1 e3 h6
  rwa[e2,e4] at this
 ·have h7:i=j:=by omega
  subst h7
  obtain rfl:x=y:=Option.some.inj (hi.symm.trans hj)
  exact fun h8=>h8.asymm h8
abbrev CK (s:List Int) (L:List Nat) (h:Nat) (c:List Nat):Prop:=Cls (EqK (gs s) h) s.length L c
theorem Cls.le (k:CK s L h c):∀ {j y:Nat},L[j]? = some y→gn c y≤j∧∃ z,L[gn c y]? = some z∧EqK (gs s) h z y
 | 0,y,hy=>by
  rw[k.zero y hy]
  exact⟨Nat.le_refl _,y,hy,EqK.refl _ _⟩
 | j+1,y,hy=>by
  obtain⟨h1,_⟩:=List.getElem?_eq_some_iff.1 hy
  have hx:L[j]? = some (L[j]'(by omega)):=List.getElem?_eq_getElem _
  generalize L[j]'(by omega)=x at hx
  obtain⟨g1,z,g2,g3⟩:=Cls.le k hx
  by_cases e:EqK (gs s) h x y
  ·rw[k.same j x y hx hy e]
   exact⟨by omega,z,g2,g3.trans e⟩
  ·rw[k.diff j x y hx hy e]
   exact⟨Nat.le_refl _,y,hy,EqK.refl _ _⟩
theorem Cls.far (k:CK s L h c) {i x:Nat} (hx:L[i]? = some x):∀ {j y:Nat},i≤j→L[j]? = some y→¬ EqK (gs s) h x y→i<gn c y
 | 0,y,hij,hy,hne=>by
  obtain rfl:i=0:=by omega
  obtain rfl:x=y:=Option.some.inj (hx.symm.trans hy)
  exact absurd (EqK.refl _ _) hne
 | j+1,y,hij,hy,hne=>by
  rcases Nat.lt_or_ge j i with h0 | h0
  ·obtain rfl:i=j+1:=by omega
   obtain rfl:x=y:=Option.some.inj (hx.symm.trans hy)
   exact absurd (EqK.refl _ _) hne
  ·obtain⟨h1,_⟩:=List.getElem?_eq_some_iff.1 hy
   have hz:L[j]? = some (L[j]'(by omega)):=List.getElem?_eq_getElem _
   generalize L[j]'(by omega)=z at hz
   by_cases e:EqK (gs s) h z y
   ·rw[k.same j z y hz hy e]
    exact Cls.far k hx h0 hz (fun e2=>hne (e2.trans e))
   ·rw[k.diff j z y hz hy e]
    omega
theorem Cls.near (k:CK s L h c) (o:Ord s L h) {i x:Nat} (hx:L[i]? = some x):∀ {j y:Nat},i≤j→L[j]? = some y→EqK (gs s) h x y→gn c y=gn c x
 | 0,y,hij,hy,_=>by
  obtain rfl:i=0:=by omega
  obtain rfl:x=y:=Option.some.inj (hx.symm.trans hy)
  rfl
 | j+1,y,hij,hy,he=>by
  rcases Nat.lt_or_ge j i with h0 | h0
  ·obtain rfl:i=j+1:=by omega
   obtain rfl:x=y:=Option.some.inj (hx.symm.trans hy)
   rfl
  ·obtain⟨h1,_⟩:=List.getElem?_eq_some_iff.1 hy
   have hz:L[j]? = some (L[j]'(by omega)):=List.getElem?_eq_getElem _
   generalize L[j]'(by omega)=z at hz
   have n1:=o.not hx hz h0
   have n2:=o.not hz hy (by omega)
   have e1:EqK (gs s) h x z:=by
    rcases tri (gs s) x z h with h2 | h2 | h2
    ·exact absurd (h2.eq_left he.symm) n2
    ·exact h2
    ·exact absurd h2 n1
   rw[k.same j z y hz hy (e1.symm.trans he)]
   exact Cls.near k o hx h0 hz e1
theorem Cls.mono (k:CK s L h c) (o:Ord s L h) {i j x y:Nat} (hx:L[i]? = some x) (hy:L[j]? = some y) (hij:i≤j):gn c x≤gn c y:=by
 by_cases e:EqK (gs s) h x y
 ·rw[k.near o hx hij hy e]
  exact Nat.le_refl _
 ·have h1:=k.far hx hij hy e
  have h2:=(k.le hx).1
  omega
theorem Cls.lt_iff (k:CK s L h c) (o:Ord s L h) {x y:Nat} (hx:x<s.length) (hy:y<s.length):gn c x<gn c y↔LtK (gs s) h x y:=by
 obtain⟨i,hi⟩:=o.find hx
 obtain⟨j,hj⟩:=o.find hy
 rcases Nat.le_total i j with hij | hij
 ·constructor
  ·intro hlt
   rcases tri (gs s) x y h with h2 | h2 | h2
   ·exact h2
   ·rw[k.near o hi hij hj h2] at hlt
    omega
   ·exact absurd h2 (o.not hi hj hij)
  ·intro hlt
   have h1:=k.far hi hij hj (fun e=>hlt.not_eq e)
   have h2:=(k.le hi).1
   omega
 ·constructor
  ·intro hlt
   have:=k.mono o hj hi hij
   omega
  ·intro hlt
   exact absurd hlt (o.not hj hi hij)
theorem Cls.rk (k:CK s L h c) (o:Ord s L h):Rk s (zs c) h:=by
 refine⟨by rw[zs_len,k.len],fun x hx=>?_,fun a b ha hb=>?_⟩
 ·unfold zs at hx
  obtain⟨y,_,rfl⟩:=List.mem_map.1 hx
  omega
 ·rw[zs_gs (by rw[k.len]; exact ha),zs_gs (by rw[k.len]; exact hb),←k.lt_iff o ha hb]
  omega
theorem countP_split {p:Nat→Bool}:∀ {L:List Nat} {m:Nat},(∀ j y,j<m→L[j]? = some y→p y=true)→(∀ j y,m≤j→L[j]? = some y→p y=false)→m≤L.length→L.countP p=m
 | [],m,_,_,hm=>by
  have h0:m≤0:=hm
  simp
  omega
 | a::L,0,h1,h2,hm=>by
  have ha:=h2 0 a (Nat.le_refl _) rfl
  rw[List.countP_cons,ha]
  exact countP_split (m:=0) (fun j y hj=>absurd hj (by omega)) (fun j y _ hy=>h2 (j+1) y (by omega) (by simpa using hy)) (Nat.zero_le _)
 | a::L,m+1,h1,h2,hm=>by
  have ha:=h1 0 a (by omega) rfl
  rw[List.countP_cons,ha,countP_split (L:=L) (m:=m) (fun j y hj hy=>h1 (j+1) y (by omega) (by simpa using hy)) (fun j y hj hy=>h2 (j+1) y (by omega) (by simpa using hy)) (by simpa using hm)]
  rfl
theorem Cls.count (k:CK s L h c) (o:Ord s L h) {x:Nat} (hx:x<s.length):L.countP (fun y=>decide (gn c y<gn c x))=gn c x:=by
 obtain⟨j,hj⟩:=o.find hx
 obtain⟨h1,z,h2,h3⟩:=k.le hj
 have hz:gn c z=gn c x:=(k.near o h2 h1 hj h3).symm
 obtain⟨h4,_⟩:=List.getElem?_eq_some_iff.1 h2
 refine countP_split (fun i y hi hy=>?_) (fun i y hi hy=>?_) (by omega)
 ·have:=(k.le hy).1
  simp
  omega
 ·have:=k.mono o h2 hy hi
  simp
  omega
theorem Ord.strict (o:Ord s L h) (ha:∀ i x y,L[i]? = some x→L[i+1]? = some y→¬ EqK (gs s) h x y) (k:CK s L h c):IsSA s L:=by
 refine⟨o.len,o.mem,?_⟩
 rw[List.pairwise_iff_getElem]
 intro i j hi hj hij
 have e1:L[i]? = some L[i]:=List.getElem?_eq_getElem hi
 have e2:L[j]? = some L[j]:=List.getElem?_eq_getElem hj
 rcases tri (gs s) L[i] L[j] h with h4 | h4 | h4
 ·exact h4.lt
 · -- the place j-1 has class at most j-1,and j its own
  obtain⟨q,rfl⟩:∃ q,j=q+1:=⟨j-1,by omega⟩
  have e3:L[q]? = some (L[q]'(by omega)):=List.getElem?_eq_getElem _
  have h5:=k.diff q _ _ e3 e2 (ha q _ _ e3 e2)
  have h6:=k.near o e1 (by omega) e2 h4
  have h7:=(k.le e1).1
  omega
 ·exact absurd h4 (o.not e1 e2 (by omega))
theorem not_apart (hs:Pos s) (o:Ord s L h) (he:∃ i x y,L[i]? = some x∧L[i+1]? = some y∧EqK (gs s) h x y):h<s.length:=by
 obtain⟨i,x,y,hx,hy,e⟩:=he
 rcases Nat.lt_or_ge h s.length with h1 | h1
 ·exact h1
 ·refine absurd e (not_alike hs (o.lt hx) (o.lt hy) (fun e2=>?_) h1)
  subst e2
  have:=at_one o.nodup hx hy
  omega
end
def rst (n k:Nat) (L:List Nat):List Nat:=List.range' (n-k) k++(L.filter (fun x=>decide (k≤x))).map (fun x=>x-k)
section
variable {s:List Int} {L:List Nat} {k:Nat}
theorem rst_mem (hL:∀ x,x∈L↔x<s.length) (hk:k≤s.length) (x:Nat):x∈rst s.length k L↔x<s.length:=by
 unfold rst
 rw[List.mem_append,List.mem_range'_1,List.mem_map]
 constructor
 ·rintro (h | ⟨y,hy,rfl⟩)
  ·omega
  ·rw[List.mem_filter] at hy
   have:=(hL y).1 hy.1
   omega
 ·intro h
  rcases Nat.lt_or_ge x (s.length-k) with h1 | h1
  ·refine .inr ⟨x+k,?_,by omega⟩
   rw[List.mem_filter]
   exact⟨(hL _).2 (by omega),by simp⟩
  ·exact .inl (by omega)
theorem rst_ord (hs:Pos s) (o:Ord s L k) (hk:k≤s.length):(rst s.length k L).Pairwise fun x y=>x≠y∧¬ LtK (gs s) k (y+k) (x+k):=by
 have low:∀ p,-1≤gs s p:=fun p=>by
  rcases Nat.lt_or_ge p s.length with h7 | h7
  ·have:=gs_pos hs h7
   omega
  ·rw[gs_out h7]
   omega
 have beyond:∀ x y,s.length≤x+k→¬ LtK (gs s) k (y+k) (x+k):=by
  rintro x y hx ⟨q,_,_,h2⟩
  rw[gs_out (p:=x+k+q) (by omega)] at h2
  have:=low (y+k+q)
  omega
 unfold rst
 rw[List.pairwise_append]
 refine⟨?_,?_,?_⟩
 ·rw[List.pairwise_iff_getElem]
  intro i j hi hj hij
  simp only[List.getElem_range']
  refine⟨by omega,beyond _ _ (by omega)⟩
 ·rw[List.pairwise_map]
  have h1:L.Pairwise fun x y=>x≠y∧¬ LtK (gs s) k y x:=o.nodup.and o.ord
  refine (h1.filter _).imp_of_mem fun {a b} ha hb hab=>?_
  rw[List.mem_filter] at ha hb
  have ha2:k≤a:=by simpa using ha.2
  have hb2:k≤b:=by simpa using hb.2
  refine⟨fun e=>hab.1 (by omega),?_⟩
  rw[Nat.sub_add_cancel ha2,Nat.sub_add_cancel hb2]
  exact hab.2
 ·intro a ha b hb
  rw[List.mem_range'_1] at ha
  obtain⟨y,hy,rfl⟩:=List.mem_map.1 hb
  rw[List.mem_filter] at hy
  have:=(o.mem y).1 hy.1
  have hy2:k≤y:=by simpa using hy.2
  exact⟨by omega,beyond _ _ (by omega)⟩
theorem rst_len (o:Ord s L k) (hs:Pos s) (hk:k≤s.length):(rst s.length k L).length=s.length:=by
 have h1:(rst s.length k L).Nodup:=(rst_ord hs o hk).imp fun h=>h.1
 have h2:(rst s.length k L).Perm (List.range s.length):=by
  rw[List.perm_ext_iff_of_nodup h1 List.nodup_range]
  intro a
  rw[rst_mem o.mem hk,List.mem_range]
 rw[h2.length_eq,List.length_range]
end
def upTo (f:Nat→Nat) (R:List Nat) (i q:Nat):Nat:=(R.take i).countP fun y=>decide (f y=q)
def nxt (n:Nat) (f:Nat→Nat) (R:List Nat) (i:Nat):List Nat:=(List.range n).map fun q=>q+upTo f R i q
section
variable {f:Nat→Nat} {R:List Nat} {n i j x y:Nat}
theorem nxt_len:(nxt n f R i).length=n:=by unfold nxt; rw[List.length_map,List.length_range]
theorem nxt_at {q:Nat} (hq:q<n):(nxt n f R i)[q]? = some (q+upTo f R i q):=by
 unfold nxt
 rw[List.getElem?_map,List.getElem?_range hq]
 rfl
theorem upTo_next (hx:R[i]? = some x) (q:Nat):upTo f R (i+1) q=upTo f R i q+(if f x=q then 1 else 0):=by
 unfold upTo
 rw[List.take_add_one,hx,List.countP_append]
 simp[List.countP_cons]
theorem nxt_next (hx:R[i]? = some x):(nxt n f R i).set (f x) (f x+upTo f R i (f x)+1)=nxt n f R (i+1):=by
 apply List.ext_getElem?
 intro q
 rcases Nat.lt_or_ge q n with hq | hq
 ·rw[nxt_at hq,upTo_next hx]
  by_cases e:f x=q
  ·subst e
   rw[List.getElem?_set_self (by rw[nxt_len]; exact hq),if_pos rfl]
   rfl
  ·rw[List.getElem?_set_ne e,nxt_at hq,if_neg e]
   rfl
 ·rw[List.getElem?_eq_none (by rw[List.length_set,nxt_len]; exact hq),List.getElem?_eq_none (by rw[nxt_len]; exact hq)]
theorem upTo_mono (q:Nat) (hij:i≤j):upTo f R i q≤upTo f R j q:=by
 unfold upTo
 exact (List.take_sublist_take_left hij).countP_le
theorem upTo_lt (hx:R[i]? = some x) (hij:i<j):upTo f R i (f x)+1≤upTo f R j (f x):=by
 have h1:=upTo_next (f:=f) hx (f x)
 rw[if_pos rfl] at h1
 have h2:=upTo_mono (f:=f) (R:=R) (f x) (show i+1≤j by omega)
 omega
theorem lo_sum (f:Nat→Nat) (q q':Nat) (hq:q<q'):∀ R:List Nat,R.countP (fun y=>decide (f y<q))+R.countP (fun y=>decide (f y=q))≤R.countP (fun y=>decide (f y<q'))
 | []=>by simp
 | a::R=>by
  have:=lo_sum f q q' hq R
  rw[List.countP_cons,List.countP_cons,List.countP_cons]
  by_cases h1:f a<q
  ·have h2:¬ f a=q:=by omega
   have h3:f a<q':=by omega
   simp[h1,h2,h3]
   omega
  ·by_cases h2:f a=q
   ·have h3:f a<q':=by omega
    simp[h2,hq]
    omega
   ·by_cases h3:f a<q' <;> simp[h1,h2,h3] <;> omega
theorem lo_all (f:Nat→Nat) (q:Nat):∀ R:List Nat,R.countP (fun y=>decide (f y<q))+R.countP (fun y=>decide (f y=q))≤R.length
 | []=>by simp
 | a::R=>by
  have:=lo_all f q R
  rw[List.countP_cons,List.countP_cons,List.length_cons]
  by_cases h1:f a<q
  ·have h2:¬ f a=q:=by omega
   simp[h1,h2]
   omega
  ·by_cases h2:f a=q <;> simp[h1,h2] <;> omega
def Cnt (f:Nat→Nat) (R:List Nat):Prop:=∀ x∈R,R.countP (fun y=>decide (f y<f x))=f x
def pos (f:Nat→Nat) (R:List Nat) (i x:Nat):Nat:=f x+upTo f R i (f x)
theorem pos_top (hx:R[i]? = some x):pos f R i x+1≤f x+R.countP (fun y=>decide (f y=f x)):=by
 obtain⟨h1,_⟩:=List.getElem?_eq_some_iff.1 hx
 have h2:=upTo_lt (f:=f) hx h1
 unfold pos
 unfold upTo at *
 rw[List.take_length] at h2
 omega
theorem pos_lt (hc:Cnt f R) (hx:R[i]? = some x):pos f R i x<R.length:=by
 have h1:=pos_top (f:=f) hx
 have h2:=lo_all f (f x) R
 rw[hc x (List.mem_of_getElem? hx)] at h2
 omega
theorem pos_class (hc:Cnt f R) (hx:R[i]? = some x) (hy:R[j]? = some y) (h:f x<f y):pos f R i x<pos f R j y:=by
 have h1:=pos_top (f:=f) hx
 have h2:=lo_sum f (f x) (f y) h R
 rw[hc x (List.mem_of_getElem? hx),hc y (List.mem_of_getElem? hy)] at h2
 have h3:f y≤pos f R j y:=Nat.le_add_right _ _
 omega
theorem pos_same (hx:R[i]? = some x) (h:f x=f y) (hij:i<j):pos f R i x<pos f R j y:=by
 have h1:=upTo_lt (f:=f) hx hij
 unfold pos
 rw[←h]
 omega
theorem pos_inj (hc:Cnt f R) (hx:R[i]? = some x) (hy:R[j]? = some y) (h:i≠j):pos f R i x≠pos f R j y:=by
 rcases Nat.lt_trichotomy (f x) (f y) with h1 | h1 | h1
 ·have:=pos_class hc hx hy h1
  omega
 ·rcases Nat.lt_or_ge i j with h2 | h2
  ·have:=pos_same hx h1 h2
   omega
  ·have:=pos_same hy h1.symm (show j<i by omega)
   omega
 ·have:=pos_class hc hy hx h1
  omega
structure Put (f:Nat→Nat) (R:List Nat) (i:Nat) (M:List Nat):Prop where
 len:M.length=R.length
 at_:∀ j x,j<i→R[j]? = some x→M[pos f R j x]? = some x
theorem put_start:Put f R 0 (List.replicate R.length 0):=⟨List.length_replicate ..,fun _ _ h=>absurd h (by omega)⟩
theorem Put.next {M:List Nat} (p:Put f R i M) (hc:Cnt f R) (hx:R[i]? = some x):Put f R (i+1) (M.set (pos f R i x) x):=by
 refine⟨by rw[List.length_set]; exact p.len,fun j y hj hy=>?_⟩
 by_cases e:j=i
 ·subst e
  obtain rfl:x=y:=Option.some.inj (hx.symm.trans hy)
  rw[List.getElem?_set_self (by rw[p.len]; exact pos_lt hc hx)]
 ·rw[List.getElem?_set_ne (pos_inj hc hx hy (fun e2=>e e2.symm))]
  exact p.at_ j y (by omega) hy
end
section
variable {s:List Int} {L c M:List Nat} {k:Nat}
theorem cls_cnt (hs:Pos s) (o:Ord s L k) (q:CK s L k c) (hk:k≤s.length):Cnt (gn c) (rst s.length k L):=by
 intro x hx
 have hx2:=(rst_mem o.mem hk x).1 hx
 have h1:(rst s.length k L).Nodup:=(rst_ord hs o hk).imp fun h=>h.1
 have h2:(rst s.length k L).Perm L:=by
  rw[List.perm_ext_iff_of_nodup h1 o.nodup]
  intro a
  rw[rst_mem o.mem hk,o.mem]
 rw[h2.countP_eq]
 exact q.count o hx2
theorem Put.twice (hs:Pos s) (o:Ord s L k) (q:CK s L k c) (hk:k≤s.length) (p:Put (gn c) (rst s.length k L) s.length M):Ord s M (k+k):=by
 have hc:=cls_cnt hs o q hk
 have hR:=rst_ord hs o hk
 have hl:=rst_len o hs hk
 have hm:=rst_mem (s:=s) o.mem hk
 generalize rst s.length k L=R at *
 have look:∀ x,x<s.length→∃ i:Nat,R[i]? = some x∧M[pos (gn c) R i x]? = some x:=fun x hx=>by
  obtain⟨i,h1,h2⟩:=List.getElem_of_mem ((hm x).2 hx)
  have h3:R[i]? = some x:=by rw[List.getElem?_eq_getElem h1,h2]
  exact⟨i,h3,p.at_ i x (by omega) h3⟩
 have hM:M.Perm (List.range s.length):=range_all (fun x hx=>by
  obtain⟨i,_,h2⟩:=look x hx
  exact List.mem_of_getElem? h2) (by rw[p.len,hl]; exact Nat.le_refl _)
 have hMn:M.Nodup:=hM.symm.nodup List.nodup_range
 have hMm:∀ x,x∈M↔x<s.length:=fun x=>by rw[hM.mem_iff,List.mem_range]
 refine⟨hMm,hMn,?_⟩
 rw[List.pairwise_iff_getElem]
 intro a b ha hb hab
 have e1:M[a]? = some M[a]:=List.getElem?_eq_getElem ha
 have e2:M[b]? = some M[b]:=List.getElem?_eq_getElem hb
 generalize M[a]=x at *
 generalize M[b]=y at *
 have hx:x<s.length:=(hMm x).1 (List.mem_of_getElem? e1)
 have hy:y<s.length:=(hMm y).1 (List.mem_of_getElem? e2)
 obtain⟨i,hi,hi2⟩:=look x hx
 obtain⟨j,hj,hj2⟩:=look y hy
 have pa:=at_one hMn e1 hi2
 have pb:=at_one hMn e2 hj2
 rcases Nat.lt_trichotomy (gn c x) (gn c y) with h1 | h1 | h1
 ·have h2:=(q.lt_iff o hx hy).1 h1
  exact fun h3=>(h2.mono (Nat.le_add_right k k)).asymm h3
 ·have hij:i<j:=by
   rcases Nat.lt_or_ge i j with h2 | h2
   ·exact h2
   ·rcases Nat.lt_or_ge j i with h3 | h3
    ·have:=pos_same hj h1.symm h3
     omega
    ·obtain rfl:i=j:=by omega
     obtain rfl:x=y:=Option.some.inj (hi.symm.trans hj)
     omega
  have h3:¬ LtK (gs s) k (y+k) (x+k):=by
   rw[List.pairwise_iff_getElem] at hR
   obtain⟨g1,g2⟩:=List.getElem?_eq_some_iff.1 hi
   obtain⟨g3,g4⟩:=List.getElem?_eq_some_iff.1 hj
   have:=(hR i j g1 g3 hij).2
   rwa[g2,g4] at this
  intro h4
  rcases double.1 h4 with h5 | h5
  ·have:=(q.lt_iff o hy hx).2 h5
   omega
  ·exact h3 h5.2
 ·have:=pos_class hc hj hi h1
  omega
end
end
end Go.Su
namespace Go.Su
structure Closed (s:List Int):Prop where
 pos:Pos s
 full:0<s.length
 last:gs s (s.length-1)=0
 only:∀ p,p<s.length-1→gs s p≠0
def prv (n x:Nat):Nat:=if x=0 then n-1 else x-1
structure Turned (s l:List Int):Prop where
 closed:Closed s
 len:l.length=s.length
 at_:∀ L,IsSA s L→∀ i x,L[i]? = some x→gs l i=gs s (prv s.length x)
def Bef (l:List Int) (i j:Nat):Prop:=gs l i<gs l j∨(gs l i=gs l j∧i<j)
instance (l:List Int) (i j:Nat):Decidable (Bef l i j):=by unfold Bef; infer_instance
def lf (l:List Int) (i:Nat):Nat:=(List.range l.length).countP fun j=>decide (Bef l j i)
section
variable {l:List Int} {i j k:Nat}
theorem Bef.trans (h:Bef l i j) (g:Bef l j k):Bef l i k:=by
 unfold Bef at *
 omega
theorem Bef.irrefl (h:Bef l i i):False:=by
 unfold Bef at h
 omega
theorem bef_total (h:i≠j):Bef l i j∨Bef l j i:=by
 unfold Bef
 omega
theorem countP_lt {p q:Nat→Bool}:∀ {L:List Nat},(∀ x∈L,p x=true→q x=true)→(∃ x∈L,q x=true∧p x=false)→L.countP p<L.countP q
 | [],_,⟨x,hx,_⟩=>by cases hx
 | a::L,h,⟨x,hx,hq,hp⟩=>by
  have hle:L.countP p≤L.countP q:=List.countP_mono_left fun y hy hpy=>h y (List.mem_cons_of_mem _ hy) hpy
  rw[List.countP_cons,List.countP_cons]
  rcases List.mem_cons.1 hx with rfl | hx
  ·simp[hq,hp]
   omega
  ·have ih:=countP_lt (L:=L) (fun y hy=>h y (List.mem_cons_of_mem _ hy)) ⟨x,hx,hq,hp⟩
   have ha:=h a (List.mem_cons_self ..)
   cases hpa:p a
   ·cases hqa:q a <;> simp <;> omega
   ·simp[ha hpa]
    omega
theorem lf_lt_of (hi:i<l.length) (h:Bef l i j):lf l i<lf l j:=by
 unfold lf
 refine countP_lt (fun x _ hx=>?_) ⟨i,List.mem_range.2 hi,by simpa using h,by simpa using fun hb:Bef l i i=>hb.irrefl⟩
 simp only[decide_eq_true_eq] at hx ⊢
 exact hx.trans h
theorem lf_lt_iff (hi:i<l.length) (hj:j<l.length):lf l i<lf l j↔Bef l i j:=by
 refine⟨fun h=>?_,lf_lt_of hi⟩
 by_cases e:i=j
 ·subst e
  omega
 ·rcases bef_total (l:=l) e with h1 | h1
  ·exact h1
  ·have:=lf_lt_of hj h1
   omega
theorem lf_bound (hi:i<l.length):lf l i<l.length:=by
 have h:lf l i<(List.range l.length).countP (fun _=>true):=countP_lt (fun _ _ _=>rfl) ⟨i,List.mem_range.2 hi,rfl,by simpa using fun hb:Bef l i i=>hb.irrefl⟩
 simpa using h
end
theorem rank_unique {n:Nat} {f:Nat→Nat} (hf:∀ i,i<n→f i<n) (hinj:∀ i j,i<n→j<n→f i=f j→i=j) {i:Nat} (hi:i<n):(List.range n).countP (fun j=>decide (f j<f i))=f i:=by
 have hp:((List.range n).map f).Perm (List.range n):=by
  refine range_of ?_ (fun x hx=>?_) (by simp)
  ·rw[List.Nodup,List.pairwise_map]
   refine List.Pairwise.imp_of_mem (fun {a b} ha hb hab e=>?_) (List.nodup_range (n:=n))
   exact hab (hinj a b (List.mem_range.1 ha) (List.mem_range.1 hb) e)
  ·obtain⟨y,hy,rfl⟩:=List.mem_map.1 hx
   exact hf y (List.mem_range.1 hy)
 have h1:(List.range n).countP (fun j=>decide (f j<f i))=((List.range n).map f).countP (fun q=>decide (q<f i)):=by
  rw[List.countP_map]
  rfl
 rw[h1,hp.countP_eq]
 refine countP_split (fun j y hj hy=>?_) (fun j y hj hy=>?_) (by rw[List.length_range]; exact Nat.le_of_lt (hf i hi))
 ·obtain⟨h2,h3⟩:=List.getElem?_eq_some_iff.1 hy
  rw[List.getElem_range] at h3
  simp
  omega
 ·obtain⟨h2,h3⟩:=List.getElem?_eq_some_iff.1 hy
  rw[List.getElem_range] at h3
  simp
  omega
theorem lf_unique {l:List Int} {f:Nat→Nat} (hf:∀ i,i<l.length→f i<l.length) (hinj:∀ i j,i<l.length→j<l.length→f i=f j→i=j) (hm:∀ i j,i<l.length→j<l.length→(f i<f j↔Bef l i j)) {i:Nat} (hi:i<l.length):lf l i=f i:=by
 rw[←rank_unique hf hinj hi]
 unfold lf
 refine List.countP_congr fun j hj=>?_
 have:=hm j i (List.mem_range.1 hj) hi
 simp only[decide_eq_true_eq]
 exact this.symm
section
variable {s l:List Int} {L:List Nat}
theorem IsSA.has {s:List Int} {L:List Nat} (h:IsSA s L) {i:Nat} (hi:i<s.length):∃ x,L[i]? = some x∧x<s.length:=by
 have h1:i<L.length:=by rw[h.len]; exact hi
 exact⟨L[i],List.getElem?_eq_getElem h1,(h.mem _).1 (List.getElem_mem h1)⟩
theorem IsSA.lt_iff {s:List Int} {L:List Nat} (h:IsSA s L) {i j x y:Nat} (hi:L[i]? = some x) (hj:L[j]? = some y):i<j↔Lt (gs s) x y:=by
 refine⟨fun hij=>h.lt hij hi hj,fun hl=>?_⟩
 rcases Nat.lt_trichotomy i j with h1 | h1 | h1
 ·exact h1
 ·subst h1
  obtain rfl:x=y:=Option.some.inj (hi.symm.trans hj)
  exact hl.irrefl.elim
 ·exact (hl.asymm (h.lt h1 hj hi)).elim
theorem prv_lt {n x:Nat} (hn:0<n) (hx:x<n):prv n x<n:=by
 unfold prv
 split <;> omega
theorem prv_inj {n x y:Nat} (hx:x<n) (hy:y<n) (h:prv n x=prv n y):x=y:=by
 unfold prv at h
 split at h <;> split at h <;> omega
theorem Closed.first (hc:Closed s) (h:IsSA s L):L[0]? = some (s.length-1):=by
 obtain⟨x,hx,hxn⟩:=h.has (i:=0) hc.full
 by_cases e:x=s.length-1
 ·rw[hx,e]
 ·obtain⟨j,hj⟩:=h.find (x:=s.length-1) (by have:=hc.full; omega)
  have hj0:j≠0:=fun e2=>by
   subst e2
   exact e (Option.some.inj (hx.symm.trans hj))
  obtain⟨k,h1,h2⟩:=h.lt (show 0<j by omega) hx hj
  have h3:=gs_pos hc.pos hxn
  have h4:=hc.only x (by omega)
  rcases Nat.eq_zero_or_pos k with hk | hk
  ·subst hk
   simp only[Nat.add_zero] at h2
   rw[hc.last] at h2
   omega
  ·have h5:=h1 0 hk
   simp only[Nat.add_zero] at h5
   rw[hc.last] at h5
   omega
theorem lt_cons {g:Nat→Int} {a b:Nat}:Lt g a b↔g a<g b∨(g a=g b∧Lt g (a+1) (b+1)):=by
 constructor
 ·rintro ⟨k,h1,h2⟩
  rcases Nat.eq_zero_or_pos k with hk | hk
  ·subst hk
   exact .inl h2
  ·have h3:=h1 0 hk
   refine .inr ⟨h3,k-1,?_,?_⟩
   ·have:EqK g (1+(k-1)) a b:=h1.mono (by omega)
    exact this.tail
   ·rw[show a+1+(k-1)=a+k by omega,show b+1+(k-1)=b+k by omega]
    exact h2
 ·rintro (h | ⟨h,k,h1,h2⟩)
  ·exact⟨0,fun _ hj=>absurd hj (by omega),h⟩
  ·refine⟨1+k,EqK.add (h:=1) (fun j hj=>by
   have hj0:j=0:=by omega
   subst hj0
   exact h) h1,?_⟩
   rw[show a+(1+k)=a+1+k by omega,show b+(1+k)=b+1+k by omega]
   exact h2
theorem Turned.bef (t:Turned s l) (h:IsSA s L) {i j x y:Nat} (hi:L[i]? = some x) (hj:L[j]? = some y) (hxy:x≠y):Lt (gs s) (prv s.length x) (prv s.length y)↔Bef l i j:=by
 have hc:=t.closed
 have hx:x<s.length:=(h.mem x).1 (List.mem_of_getElem? hi)
 have hy:y<s.length:=(h.mem y).1 (List.mem_of_getElem? hj)
 have ex:=t.at_ L h i x hi
 have ey:=t.at_ L h j y hj
 have hne:i≠j:=fun e=>by
  subst e
  exact hxy (Option.some.inj (hi.symm.trans hj))
 have zero:∀ z,z<s.length→z≠0→gs s (prv s.length z)≠0:=fun z hz h0=>by
  refine hc.only _ ?_
  unfold prv
  rw[if_neg h0]
  omega
 have last:gs s (prv s.length 0)=0:=by
  unfold prv
  rw[if_pos rfl]
  exact hc.last
 rw[lt_cons,←ex,←ey]
 unfold Bef
 by_cases hx0:x=0
 ·subst hx0
  have h1:gs l i=0:=by rw[ex,last]
  have h2:=zero y hy (fun e=>hxy e.symm)
  rw[←ey] at h2
  omega
 ·by_cases hy0:y=0
  ·subst hy0
   have h1:gs l j=0:=by rw[ey,last]
   have h2:=zero x hx hx0
   rw[←ex] at h2
   omega
  ·have e1:prv s.length x+1=x:=by unfold prv; rw[if_neg hx0]; omega
   have e2:prv s.length y+1=y:=by unfold prv; rw[if_neg hy0]; omega
   rw[e1,e2,h.lt_iff hi hj]
theorem Turned.step (t:Turned s l) (h:IsSA s L) {i x:Nat} (hi:L[i]? = some x):L[lf l i]? = some (prv s.length x):=by
 have hn:=t.closed.full
 -- where the one ahead stands
 have look:∀ i,∃ p,i<s.length→∃ x,L[i]? = some x∧L[p]? = some (prv s.length x):=fun i=>by
  rcases Nat.lt_or_ge i s.length with h1 | h1
  ·obtain⟨x,hx,hxn⟩:=h.has h1
   obtain⟨p,hp⟩:=h.find (prv_lt hn hxn)
   exact⟨p,fun _=>⟨x,hx,hp⟩⟩
  ·exact⟨0,fun h2=>absurd h2 (by omega)⟩
 have hlen:=t.len
 have hin:i<s.length:=by
  obtain⟨h1,_⟩:=List.getElem?_eq_some_iff.1 hi
  rw[←h.len]
  exact h1
 obtain⟨f,hf⟩:=Classical.axiomOfChoice look
 have key:=lf_unique (l:=l) (f:=f) (fun j hj=>by
  obtain⟨x,_,hx⟩:=hf j (by omega)
  obtain⟨h1,_⟩:=List.getElem?_eq_some_iff.1 hx
  have:=h.len
  omega) (fun a b ha hb e=>by
  obtain⟨x,hx,hx2⟩:=hf a (by omega)
  obtain⟨y,hy,hy2⟩:=hf b (by omega)
  rw[e,hy2] at hx2
  have hxy:=prv_inj ((h.mem y).1 (List.mem_of_getElem? hy)) ((h.mem x).1 (List.mem_of_getElem? hx)) (Option.some.inj hx2)
  subst hxy
  exact at_one h.nodup hx hy) (fun a b ha hb=>by
  obtain⟨x,hx,hx2⟩:=hf a (by omega)
  obtain⟨y,hy,hy2⟩:=hf b (by omega)
  rw[h.lt_iff hx2 hy2]
  by_cases hxy:x=y
  ·subst hxy
   obtain rfl:=at_one h.nodup hx hy
   exact⟨fun h=>h.irrefl.elim,fun h=>h.irrefl.elim⟩
  ·exact t.bef h hx hy hxy) (i:=i) (by omega)
 rw[key]
 obtain⟨y,hy,hy2⟩:=hf i hin
 obtain rfl:y=x:=Option.some.inj (hy.symm.trans hi)
 exact hy2
def way (l:List Int):Nat→Nat
 | 0=>0
 | k+1=>lf l (way l k)
def bck (l:List Int):List Int:=(List.range l.length).map fun i=>if i+1=l.length then 0 else gs l (way l (l.length-2-i))
theorem bck_len:(bck l).length=l.length:=by unfold bck; simp
theorem bck_at {i:Nat} (hi:i<l.length):gs (bck l) i=if i+1=l.length then 0 else gs l (way l (l.length-2-i)):=gs_at (by unfold bck; rw[List.getElem?_map,List.getElem?_range hi]; rfl)
theorem Turned.way (t:Turned s l) (h:IsSA s L):∀ k,k<s.length→L[Go.Su.way l k]? = some (s.length-1-k)
 | 0,_=>t.closed.first h
 | k+1,hk=>by
  have h1:=t.step h (Turned.way t h k (by omega))
  have h2:prv s.length (s.length-1-k)=s.length-1-(k+1):=by
   unfold prv
   rw[if_neg (by omega)]
   omega
  rw[h2] at h1
  exact h1
theorem gs_ext {a b:List Int} (hl:a.length=b.length) (h:∀ p,p<a.length→gs a p=gs b p):a=b:=by
 apply List.ext_getElem?
 intro p
 rcases Nat.lt_or_ge p a.length with h1 | h1
 ·rw[gs_some h1,gs_some (by omega),h p h1]
 ·rw[List.getElem?_eq_none h1,List.getElem?_eq_none (by omega)]
theorem Turned.back (t:Turned s l) (h:IsSA s L):bck l=s:=by
 refine gs_ext (by rw[bck_len,t.len]) fun p hp=>?_
 rw[bck_len] at hp
 have hps:p<s.length:=by rw[←t.len]; exact hp
 rw[bck_at hp,t.len]
 by_cases e:p+1=s.length
 ·rw[if_pos e,show p=s.length-1 by omega,t.closed.last]
 ·rw[if_neg e]
  have h1:=t.way h (s.length-2-p) (by omega)
  rw[show s.length-1-(s.length-2-p)=p+1 by omega] at h1
  rw[t.at_ L h _ _ h1]
  unfold prv
  rw[if_neg (by omega)]
  rfl
end
end Go.Su
namespace Go.Su
section
variable {s l:List Int} {L:List Nat}
structure Round (l:List Int):Prop where
 pos:Pos l
 full:0<l.length
 zero:∃ z,z<l.length∧gs l z=0∧∀ p,p<l.length→gs l p=0→p=z
 all:∀ p,p<l.length→∃ k,k<l.length∧way l k=p
theorem way_lt (hn:0<l.length):∀ k,way l k<l.length
 | 0=>hn
 | k+1=>lf_bound (way_lt hn k)
theorem Round.inj (r:Round l) {j k:Nat} (hj:j<l.length) (hk:k<l.length) (h:way l j=way l k):j=k:=by
 have hp:((List.range l.length).map (way l)).Perm (List.range l.length):=range_all (fun x hx=>by
  obtain⟨k,hk,rfl⟩:=r.all x hx
  exact List.mem_map.2 ⟨k,List.mem_range.2 hk,rfl⟩) (by simp)
 have hn:=hp.symm.nodup List.nodup_range
 have h1:((List.range l.length).map (way l))[j]? = some (way l j):=by rw[List.getElem?_map,List.getElem?_range hj]; rfl
 have h2:((List.range l.length).map (way l))[k]? = some (way l k):=by rw[List.getElem?_map,List.getElem?_range hk]; rfl
 rw[←h] at h2
 exact at_one hn h1 h2
theorem lf_zero {z:Nat} (hp:Pos l) (h0:gs l z=0) (hu:∀ p,p<l.length→gs l p=0→p=z):lf l z=0:=by
 unfold lf
 rw[List.countP_eq_zero]
 intro x hx
 have hx2:=List.mem_range.1 hx
 have h1:=gs_pos hp hx2
 simp only[decide_eq_true_eq]
 unfold Bef
 rw[h0]
 by_cases e:gs l x=0
 ·have:=hu x hx2 e
  omega
 ·omega
theorem Round.notZero (r:Round l) {k:Nat} (hk:k+1<l.length):gs l (way l k)≠0:=by
 obtain⟨z,hz,h0,hu⟩:=r.zero
 intro e
 have h1:=hu _ (way_lt r.full k) e
 have h2:way l (k+1)=way l 0:=by
  show lf l (way l k)=0
  rw[h1]
  exact lf_zero r.pos h0 hu
 have:=r.inj hk r.full h2
 omega
theorem Round.lastZero (r:Round l):gs l (way l (l.length-1))=0:=by
 obtain⟨z,hz,h0,hu⟩:=r.zero
 obtain⟨k,hk,e⟩:=r.all z hz
 rcases Nat.lt_or_ge (k+1) l.length with h1 | h1
 ·have:=r.notZero h1
  rw[e] at this
  exact absurd h0 this
 ·rw[show l.length-1=k by omega,e]
  exact h0
theorem Round.closed (r:Round l):Closed (bck l):=by
 have hn:=r.full
 refine⟨fun x hx=>?_,by rw[bck_len]; exact hn,?_,fun p hp=>?_⟩
 ·obtain⟨p,hp,e⟩:=List.getElem_of_mem hx
  rw[bck_len] at hp
  have h1:=bck_at hp
  rw[gs_at (by rw[List.getElem?_eq_getElem (by rw[bck_len]; exact hp),e])] at h1
  rw[h1]
  split
  ·omega
  ·exact gs_pos r.pos (way_lt hn _)
 ·rw[bck_len,bck_at (by omega),if_pos (by omega)]
 ·rw[bck_len] at hp
  rw[bck_at (by omega),if_neg (by omega)]
  exact r.notZero (by omega)
theorem Round.rank (r:Round l):∀ (d i j:Nat),i<l.length→j<l.length→i≠j→l.length≤max i j+1+d→(way l (l.length-1-i)<way l (l.length-1-j)↔Lt (gs (bck l)) i j):=by
 have hc:=r.closed
 have hn:=r.full
 have lastS:gs (bck l) (l.length-1)=0:=by
  have:=hc.last
  rwa[bck_len] at this
 have other:∀ p,p<l.length→p≠l.length-1→0<gs (bck l) p:=fun p hp hne=>by
  have h1:=hc.only p (by rw[bck_len]; omega)
  have h2:=gs_pos hc.pos (p:=p) (by rw[bck_len]; exact hp)
  omega
 have w0:∀ p,p<l.length→p≠l.length-1→0<way l (l.length-1-p):=fun p hp hne=>by
  rcases Nat.eq_zero_or_pos (way l (l.length-1-p)) with h | h
  ·have:=r.inj (j:=l.length-1-p) (k:=0) (by omega) hn h
   omega
  ·exact h
 have step:∀ p,p+1<l.length→way l (l.length-1-p)=lf l (way l (l.length-1-(p+1))):=fun p hp=>by
  rw[show l.length-1-p=(l.length-1-(p+1))+1 by omega]
  rfl
 have sym:∀ p,p+1<l.length→gs (bck l) p=gs l (way l (l.length-1-(p+1))):=fun p hp=>by
  rw[bck_at (by omega),if_neg (by omega),show l.length-2-p=l.length-1-(p+1) by omega]
 intro d
 induction d with
 | zero =>
  intro i j hi hj hij hd
  by_cases e:i=l.length-1
  ·have hj2:j≠l.length-1:=by omega
   refine⟨fun _=>lt_cons.2 (.inl ?_),fun _=>?_⟩
   ·rw[e,lastS]
    exact other j hj hj2
   ·rw[e,Nat.sub_self]
    exact w0 j hj hj2
  ·have e2:j=l.length-1:=by omega
   refine⟨fun h=>?_,fun h=>?_⟩
   ·rw[e2,Nat.sub_self] at h
    exact absurd h (Nat.not_lt_zero _)
   ·have h1:=other i hi e
    rcases lt_cons.1 h with h2 | ⟨h2,_⟩
    ·rw[e2,lastS] at h2
     omega
    ·rw[e2,lastS] at h2
     omega
 | succ d ih =>
  intro i j hi hj hij hd
  by_cases e:i=l.length-1
  ·have hj2:j≠l.length-1:=by omega
   refine⟨fun _=>lt_cons.2 (.inl ?_),fun _=>?_⟩
   ·rw[e,lastS]
    exact other j hj hj2
   ·rw[e,Nat.sub_self]
    exact w0 j hj hj2
  ·by_cases e2:j=l.length-1
   ·refine⟨fun h=>?_,fun h=>?_⟩
    ·rw[e2,Nat.sub_self] at h
     exact absurd h (Nat.not_lt_zero _)
    ·have h1:=other i hi e
     rcases lt_cons.1 h with h2 | ⟨h2,_⟩
     ·rw[e2,lastS] at h2
      omega
     ·rw[e2,lastS] at h2
      omega
   ·rw[step i (by omega),step j (by omega),lf_lt_iff (way_lt hn _) (way_lt hn _),lt_cons,sym i (by omega),sym j (by omega)]
    unfold Bef
    rw[ih (i+1) (j+1) (by omega) (by omega) (by omega) (by omega)]
theorem Round.sa (r:Round l):∃ L,IsSA (bck l) L∧∀ i x,L[i]? = some x→way l (l.length-1-x)=i:=by
 have hn:=r.full
 have look:∀ p,∃ k,p<l.length→k<l.length∧way l (l.length-1-k)=p:=fun p=>by
  rcases Nat.lt_or_ge p l.length with h | h
  ·obtain⟨k,hk,e⟩:=r.all p h
   exact⟨l.length-1-k,fun _=>⟨by omega,by rw[show l.length-1-(l.length-1-k)=k by omega]; exact e⟩⟩
  ·exact⟨0,fun h2=>absurd h2 (by omega)⟩
 obtain⟨f,hf⟩:=Classical.axiomOfChoice look
 have hat:∀ i x,((List.range l.length).map f)[i]? = some x→i<l.length∧x=f i:=fun i x hx=>by
  rw[List.getElem?_map] at hx
  rcases Nat.lt_or_ge i l.length with h | h
  ·rw[List.getElem?_range h] at hx
   exact⟨h,(Option.some.inj hx).symm⟩
  ·rw[List.getElem?_eq_none (by simpa using h)] at hx
   cases hx
 refine⟨(List.range l.length).map f,⟨by rw[bck_len]; simp,fun x=>?_,?_⟩,fun i x hx=>?_⟩
 ·rw[bck_len,List.mem_map]
  constructor
  ·rintro ⟨p,hp,rfl⟩
   exact (hf p (List.mem_range.1 hp)).1
  ·intro hx
   refine⟨way l (l.length-1-x),List.mem_range.2 (way_lt hn _),?_⟩
   obtain⟨h1,h2⟩:=hf _ (way_lt hn (l.length-1-x))
   have:=r.inj (by omega) (by omega) h2
   omega
 ·rw[List.pairwise_map,List.pairwise_iff_getElem]
  intro i j hi hj hij
  simp only[List.getElem_range]
  rw[List.length_range] at hi hj
  obtain⟨h1,h2⟩:=hf i hi
  obtain⟨h3,h4⟩:=hf j hj
  refine (r.rank l.length (f i) (f j) h1 h3 (fun e=>?_) (by omega)).1 (by omega)
  rw[e,h4] at h2
  omega
 ·obtain⟨hi,rfl⟩:=hat i x hx
  exact (hf i hi).2
theorem Round.turned (r:Round l):Turned (bck l) l:=by
 obtain⟨L,hL,hw⟩:=r.sa
 refine⟨r.closed,by rw[bck_len],fun L' hL' i x hx=>?_⟩
 obtain rfl:=hL'.uniq hL
 have h1:=hw i x hx
 have hxn:=(hL.mem x).1 (List.mem_of_getElem? hx)
 rw[bck_len] at hxn ⊢
 have hn:=r.full
 unfold prv
 by_cases h0:x=0
 ·rw[if_pos h0,bck_at (by omega),if_pos (by omega),←h1,h0,Nat.sub_zero]
  exact r.lastZero
 ·rw[if_neg h0,bck_at (by omega),if_neg (by omega),show l.length-2-(x-1)=l.length-1-x by omega,h1]
theorem Turned.round (t:Turned s l) (h:IsSA s L):Round l:=by
 have hc:=t.closed
 have hl:=t.len
 have look:∀ p,p<l.length→∃ x,L[p]? = some x∧x<s.length∧gs l p=gs s (prv s.length x):=fun p hp=>by
  obtain⟨x,hx,hxn⟩:=h.has (i:=p) (by omega)
  exact⟨x,hx,hxn,t.at_ L h p x hx⟩
 refine⟨fun x hx=>?_,by have:=hc.full; omega,?_,fun p hp=>?_⟩
 ·obtain⟨p,hp,e⟩:=List.getElem_of_mem hx
  obtain⟨y,_,hyn,e2⟩:=look p hp
  rw[gs_at (by rw[List.getElem?_eq_getElem hp,e])] at e2
  rw[e2]
  exact gs_pos hc.pos (prv_lt hc.full hyn)
 ·obtain⟨z,hz⟩:=h.find (x:=0) hc.full
  obtain⟨hz1,_⟩:=List.getElem?_eq_some_iff.1 hz
  have hzl:z<l.length:=by rw[hl,←h.len]; exact hz1
  refine⟨z,hzl,?_,fun p hp e=>?_⟩
  ·rw[t.at_ L h z 0 hz]
   unfold prv
   rw[if_pos rfl]
   exact hc.last
  ·obtain⟨x,hx,hxn,e2⟩:=look p hp
   rw[e] at e2
   have h0:x=0:=by
    by_cases h0:x=0
    ·exact h0
    ·refine absurd e2.symm (hc.only _ ?_)
     unfold prv
     rw[if_neg h0]
     omega
   subst h0
   exact at_one h.nodup hx hz
 ·obtain⟨x,hx,hxn,_⟩:=look p hp
  refine⟨s.length-1-x,by omega,?_⟩
  have h1:=t.way h (s.length-1-x) (by omega)
  rw[show s.length-1-(s.length-1-x)=x by omega] at h1
  exact at_one h.nodup h1 hx
end
end Go.Su
namespace Go.Su
section
structure Srt (l:List Int) (P:List Nat):Prop where
 len:P.length=l.length
 lt:∀ x∈P,x<l.length
 ord:∀ (i j x y:Nat),i<j→P[i]? = some x→P[j]? = some y→Bef l x y
theorem Srt.nodup {l:List Int} {P:List Nat} (h:Srt l P):P.Nodup:=by
 rw[List.Nodup,List.pairwise_iff_getElem]
 intro i j hi hj hij e
 have:=h.ord i j _ _ hij (List.getElem?_eq_getElem hi) (List.getElem?_eq_getElem hj)
 rw[e] at this
 exact this.irrefl
theorem Srt.find {l:List Int} {P:List Nat} (h:Srt l P) {x:Nat} (hx:x<l.length):∃ i:Nat,P[i]? = some x:=by
 have hp:=range_of h.nodup h.lt (by rw[h.len]; exact Nat.le_refl _)
 obtain⟨i,hi,e⟩:=List.getElem_of_mem (hp.mem_iff.2 (List.mem_range.2 hx))
 exact⟨i,by rw[List.getElem?_eq_getElem hi,e]⟩
theorem Srt.lf {l:List Int} {P:List Nat} (h:Srt l P) {i x:Nat} (hi:P[i]? = some x):lf l x=i:=by
 have look:∀ x,∃ i,x<l.length→P[i]? = some x:=fun x=>by
  rcases Nat.lt_or_ge x l.length with h1 | h1
  ·obtain⟨i,hi⟩:=h.find h1
   exact⟨i,fun _=>hi⟩
  ·exact⟨0,fun h2=>absurd h2 (by omega)⟩
 obtain⟨f,hf⟩:=Classical.axiomOfChoice look
 have hx:x<l.length:=h.lt x (List.mem_of_getElem? hi)
 rw[lf_unique (f:=f) (fun a ha=>by
  obtain⟨h1,_⟩:=List.getElem?_eq_some_iff.1 (hf a ha)
  rw[←h.len]
  exact h1) (fun a b ha hb e=>by
  have h1:=hf a ha
  rw[e,hf b hb] at h1
  exact (Option.some.inj h1).symm) (fun a b ha hb=>by
  have h1:=hf a ha
  have h2:=hf b hb
  constructor
  ·intro h3
   exact h.ord _ _ a b h3 h1 h2
  ·intro h3
   rcases Nat.lt_trichotomy (f a) (f b) with h4 | h4 | h4
   ·exact h4
   ·rw[h4,h2] at h1
    obtain rfl:=Option.some.inj h1
    exact h3.irrefl.elim
   ·exact (h3.trans (h.ord _ _ b a h4 h2 h1)).irrefl.elim) hx]
 exact at_one h.nodup (hf x hx) hi
theorem mult_one {d a b t:Nat} (ha:d∣a) (hb:d∣b) (h1:a≤t) (h2:t<a+d) (h3:b≤t) (h4:t<b+d):a=b:=by
 rcases Nat.le_total a b with h | h
 ·have:=Nat.eq_zero_of_dvd_of_lt (Nat.dvd_sub hb ha) (show b-a<d by omega)
  omega
 ·have:=Nat.eq_zero_of_dvd_of_lt (Nat.dvd_sub ha hb) (show a-b<d by omega)
  omega
structure Wd (l:List Int) (w:Nat) (p:List Nat):Prop where
 lt:∀ x∈p,x<l.length
 blk:∀ (b:Nat),w∣b→∀ (i x:Nat),p[i]? = some x→b≤i→i<b+w→b≤x∧x<b+w
 ord:∀ (b:Nat),w∣b→∀ (i j x y:Nat),b≤i→i<j→j<b+w→p[i]? = some x→p[j]? = some y→Bef l x y
theorem wd_start (l:List Int):Wd l 1 (List.range l.length):=by
 refine⟨fun x hx=>List.mem_range.1 hx,fun b _ i x hx h1 h2=>?_,fun b _ i j x y h1 h2 h3=>absurd h2 (by omega)⟩
 obtain⟨h3,h4⟩:=List.getElem?_eq_some_iff.1 hx
 rw[List.getElem_range] at h4
 omega
theorem Wd.srt {l:List Int} {w:Nat} {p:List Nat} (h:Wd l w p) (hl:p.length=l.length) (hw:l.length≤w):Srt l p :=
 ⟨hl,h.lt,fun i j x y hij hx hy=>h.ord 0 (Nat.dvd_zero w) i j x y (Nat.zero_le _) hij (by
  obtain⟨h1,_⟩:=List.getElem?_eq_some_iff.1 hy
  omega) hx hy⟩
structure Mg (l:List Int) (w:Nat) (p:List Nat) (a m z i k:Nat) (q:List Nat):Prop where
 wd:Wd l (2*w) q
 len:q.length+m=i+k
 ai:a≤i
 im:i≤m
 mk2:m≤k
 kz:k≤z
 left:∀ (t x:Nat),a≤t→q[t]? = some x→∀ (j y:Nat),i≤j→j<m→p[j]? = some y→Bef l x y
 right:∀ (t x:Nat),a≤t→q[t]? = some x→∀ (j y:Nat),k≤j→j<z→p[j]? = some y→Bef l x y
section
variable {l:List Int} {w a m z i k:Nat} {p q:List Nat}
theorem mg_start (h:Wd l (2*w) q) (hq:q.length=a) (ham:a≤m) (hmz:m≤z):Mg l w p a m z a m q :=
 ⟨h,by omega,Nat.le_refl _,ham,Nat.le_refl _,hmz,fun t x ht hx=>by
  obtain⟨h1,_⟩:=List.getElem?_eq_some_iff.1 hx
  omega,fun t x ht hx=>by
  obtain⟨h1,_⟩:=List.getElem?_eq_some_iff.1 hx
  omega⟩
theorem snoc_at {q:List Nat} {v t x:Nat} (h:(q++[v])[t]? = some x):(t<q.length∧q[t]? = some x)∨(t=q.length∧x=v):=by
 rcases Nat.lt_trichotomy t q.length with h1 | h1 | h1
 ·rw[List.getElem?_append_left h1] at h
  exact .inl ⟨h1,h⟩
 ·subst h1
  rw[List.getElem?_append_right (Nat.le_refl _),Nat.sub_self] at h
  exact .inr ⟨rfl,(Option.some.inj h).symm⟩
 ·rw[List.getElem?_eq_none (by rw[List.length_append]; simp; omega)] at h
  cases h
theorem Wd.snoc {v:Nat} (h:Wd l (2*w) q) (ha:2*w∣a) (h1:a≤q.length) (h2:q.length<a+2*w) (hv:v<l.length) (hv1:a≤v) (hv2:v<a+2*w) (hb:∀ t x,a≤t→q[t]? = some x→Bef l x v):Wd l (2*w) (q++[v]):=by
 refine⟨fun x hx=>?_,fun b hbd t x hx h3 h4=>?_,fun b hbd s t x y h3 h4 h5 hx hy=>?_⟩
 ·rcases List.mem_append.1 hx with h6 | h6
  ·exact h.lt x h6
  ·simp at h6
   omega
 ·rcases snoc_at hx with ⟨_,h6⟩ | ⟨h6,h7⟩
  ·exact h.blk b hbd t x h6 h3 h4
  ·have:=mult_one ha hbd h1 h2 (by omega) (by omega)
   omega
 ·rcases snoc_at hy with ⟨h8,h6⟩ | ⟨h6,h7⟩
  ·rcases snoc_at hx with ⟨_,h9⟩ | ⟨h9,_⟩
   ·exact h.ord b hbd s t x y h3 h4 h5 h9 h6
   ·omega
  ·have hab:=mult_one ha hbd h1 h2 (by omega) (by omega)
   rcases snoc_at hx with ⟨_,h9⟩ | ⟨h9,_⟩
   ·rw[h7]
    exact hb s x (by omega) h9
   ·omega
theorem Mg.takeLeft {x:Nat} (g:Mg l w p a m z i k q) (h:Wd l w p) (ha:2*w∣a) (hm:m≤a+w) (hmk:m=a+w∨z≤m) (hz:z≤a+2*w) (him:i<m) (hx:p[i]? = some x) (hc:z≤k∨∀ y,p[k]? = some y→gs l x≤gs l y):Mg l w p a m z (i+1) k (q++[x]):=by
 have ha1:w∣a:=Nat.dvd_trans ⟨2,by omega⟩ ha
 have ha2:w∣a+w:=Nat.dvd_add ha1 (Nat.dvd_refl w)
 have g1:=g.ai
 have g2:=g.len
 have g3:=g.mk2
 have g4:=g.kz
 have hxb:=h.blk a ha1 i x hx g1 (by omega)
 have hxl:=h.lt x (List.mem_of_getElem? hx)
 have toLeft:∀ j y,i+1≤j→j<m→p[j]? = some y→Bef l x y:=fun j y h1 h2 hy=>h.ord a ha1 i j x y g1 (by omega) (by omega) hx hy
 have toRight:∀ j y,k≤j→j<z→p[j]? = some y→Bef l x y:=fun j y h1 h2 hy=>by
  have hkz:k<z:=by omega
  have hma:m=a+w:=by omega
  have hyb:=h.blk (a+w) ha2 j y hy (by omega) (by omega)
  rcases hc with hc | hc
  ·omega
  ·obtain⟨y0,hy0⟩:∃ y0,p[k]? = some y0:=by
    obtain⟨h5,_⟩:=List.getElem?_eq_some_iff.1 hy
    exact⟨p[k]'(by omega),List.getElem?_eq_getElem _⟩
   have h5:=hc y0 hy0
   have h6:gs l y0≤gs l y:=by
    rcases Nat.lt_or_ge k j with h7 | h7
    ·have:=h.ord (a+w) ha2 k j y0 y (by omega) h7 (by omega) hy0 hy
     unfold Bef at this
     omega
    ·obtain rfl:k=j:=by omega
     obtain rfl:=Option.some.inj (hy0.symm.trans hy)
     omega
   unfold Bef
   omega
 refine⟨g.wd.snoc ha (by omega) (by omega) hxl hxb.1 (by omega) (fun t y ht hy=>g.left t y ht hy i x (Nat.le_refl _) him hx),by rw[List.length_append]; simp; omega,by omega,him,g3,g4,fun t y ht hy j u h1 h2 hu=>?_,fun t y ht hy j u h1 h2 hu=>?_⟩
 ·rcases snoc_at hy with ⟨_,h6⟩ | ⟨_,rfl⟩
  ·exact g.left t y ht h6 j u (by omega) h2 hu
  ·exact toLeft j u h1 h2 hu
 ·rcases snoc_at hy with ⟨_,h6⟩ | ⟨_,rfl⟩
  ·exact g.right t y ht h6 j u h1 h2 hu
  ·exact toRight j u h1 h2 hu
theorem Mg.takeRight {y:Nat} (g:Mg l w p a m z i k q) (h:Wd l w p) (ha:2*w∣a) (hm:m=a+w) (hz:z≤a+2*w) (hkz:k<z) (hy:p[k]? = some y) (hc:m≤i∨∀ x,p[i]? = some x→gs l y<gs l x):Mg l w p a m z i (k+1) (q++[y]):=by
 have ha1:w∣a:=Nat.dvd_trans ⟨2,by omega⟩ ha
 have ha2:w∣a+w:=Nat.dvd_add ha1 (Nat.dvd_refl w)
 have g1:=g.ai
 have g2:=g.len
 have g3:=g.mk2
 have g4:=g.im
 have hyb:=h.blk (a+w) ha2 k y hy (by omega) (by omega)
 have hyl:=h.lt y (List.mem_of_getElem? hy)
 have toRight:∀ j u,k+1≤j→j<z→p[j]? = some u→Bef l y u:=fun j u h1 h2 hu=>h.ord (a+w) ha2 k j y u (by omega) (by omega) (by omega) hy hu
 have toLeft:∀ j u,i≤j→j<m→p[j]? = some u→Bef l y u:=fun j u h1 h2 hu=>by
  rcases hc with hc | hc
  ·omega
  ·obtain⟨x0,hx0⟩:∃ x0,p[i]? = some x0:=by
    obtain⟨h5,_⟩:=List.getElem?_eq_some_iff.1 hu
    exact⟨p[i]'(by omega),List.getElem?_eq_getElem _⟩
   have h5:=hc x0 hx0
   have h6:gs l x0≤gs l u:=by
    rcases Nat.lt_or_ge i j with h7 | h7
    ·have:=h.ord a ha1 i j x0 u g1 h7 (by omega) hx0 hu
     unfold Bef at this
     omega
    ·obtain rfl:i=j:=by omega
     obtain rfl:=Option.some.inj (hx0.symm.trans hu)
     omega
   unfold Bef
   omega
 refine⟨g.wd.snoc ha (by omega) (by omega) hyl (by omega) (by omega) (fun t x ht hx=>g.right t x ht hx k y (Nat.le_refl _) hkz hy),by rw[List.length_append]; simp; omega,g1,g4,by omega,hkz,fun t x ht hx j u h1 h2 hu=>?_,fun t x ht hx j u h1 h2 hu=>?_⟩
 ·rcases snoc_at hx with ⟨_,h6⟩ | ⟨_,rfl⟩
  ·exact g.left t x ht h6 j u h1 h2 hu
  ·exact toLeft j u h1 h2 hu
 ·rcases snoc_at hx with ⟨_,h6⟩ | ⟨_,rfl⟩
  ·exact g.right t x ht h6 j u (by omega) h2 hu
  ·exact toRight j u h1 h2 hu
theorem wd_nil (l:List Int) (w:Nat):Wd l w []:=⟨fun x hx=>(by cases hx),fun _ _ i x hx=>(by simp at hx),fun _ _ i j x y _ _ _ hx=>(by simp at hx)⟩
end
end
section
theorem sa_exists {s:List Int} (hp:Pos s):∃ L,IsSA s L:=by
 classical
 let f:Nat→Nat:=fun i=>(List.range s.length).countP fun j=>decide (Lt (gs s) j i)
 have mono:∀ i j,i<s.length→Lt (gs s) i j→f i<f j:=fun i j hi h=>by
  refine countP_lt (fun x _ hx=>?_) ⟨i,List.mem_range.2 hi,by simpa using h,by simpa using fun hb:Lt (gs s) i i=>hb.irrefl⟩
  simp only[decide_eq_true_eq] at hx ⊢
  exact hx.trans h
 have bound:∀ i,i<s.length→f i<s.length:=fun i hi=>by
  have h:f i<(List.range s.length).countP (fun _=>true):=countP_lt (fun _ _ _=>rfl) ⟨i,List.mem_range.2 hi,rfl,by simpa using fun hb:Lt (gs s) i i=>hb.irrefl⟩
  simpa using h
 have inj:∀ i j,i<s.length→j<s.length→f i=f j→i=j:=fun i j hi hj h=>by
  by_cases e:i=j
  ·exact e
  ·rcases lt_total hp hi hj e with h1 | h1
   ·have:=mono i j hi h1
    omega
   ·have:=mono j i hj h1
    omega
 have perm:((List.range s.length).map f).Perm (List.range s.length):=by
  refine range_of ?_ (fun x hx=>?_) (by simp)
  ·rw[List.Nodup,List.pairwise_map]
   refine List.Pairwise.imp_of_mem (fun {a b} ha hb hab e=>?_) (List.nodup_range (n:=s.length))
   exact hab (inj a b (List.mem_range.1 ha) (List.mem_range.1 hb) e)
  ·obtain⟨y,hy,rfl⟩:=List.mem_map.1 hx
   exact bound y (List.mem_range.1 hy)
 have look:∀ p,∃ i,p<s.length→i<s.length∧f i=p:=fun p=>by
  rcases Nat.lt_or_ge p s.length with h | h
  ·obtain⟨i,hi,e⟩:=List.mem_map.1 (perm.mem_iff.2 (List.mem_range.2 h))
   exact⟨i,fun _=>⟨List.mem_range.1 hi,e⟩⟩
  ·exact⟨0,fun h2=>absurd h2 (by omega)⟩
 obtain⟨g,hg⟩:=Classical.axiomOfChoice look
 refine⟨(List.range s.length).map g,by simp,fun x=>?_,?_⟩
 ·rw[List.mem_map]
  constructor
  ·rintro ⟨p,hp,rfl⟩
   exact (hg p (List.mem_range.1 hp)).1
  ·intro hx
   refine⟨f x,List.mem_range.2 (bound x hx),?_⟩
   obtain⟨h1,h2⟩:=hg (f x) (bound x hx)
   exact inj _ _ h1 hx h2
 ·rw[List.pairwise_map,List.pairwise_iff_getElem]
  intro i j hi hj hij
  simp only[List.getElem_range]
  rw[List.length_range] at hi hj
  obtain⟨h1,h2⟩:=hg i hi
  obtain⟨h3,h4⟩:=hg j hj
  have hne:g i≠g j:=fun e=>by
   rw[e,h4] at h2
   omega
  rcases lt_total hp h1 h3 hne with h5 | h5
  ·exact h5
  ·have:=mono _ _ h3 h5
   omega
section
variable {s l:List Int}
theorem Turned.rnd (t:Turned s l):Round l:=by
 obtain⟨L,hL⟩:=sa_exists t.closed.pos
 exact t.round hL
theorem Turned.bck (t:Turned s l):bck l=s:=by
 obtain⟨L,hL⟩:=sa_exists t.closed.pos
 exact t.back hL
theorem Turned.uniq {s':List Int} (t:Turned s l) (t':Turned s' l):s=s':=by rw[←t.bck,t'.bck]
theorem Turned.det {l':List Int} (t:Turned s l) (t':Turned s l'):l=l':=by
 obtain⟨L,hL⟩:=sa_exists t.closed.pos
 refine gs_ext (by rw[t.len,t'.len]) fun p hp=>?_
 rw[t.len] at hp
 obtain⟨x,hx,_⟩:=hL.has hp
 rw[t.at_ L hL p x hx,t'.at_ L hL p x hx]
def noughts (l:List Int) (k:Nat):Nat:=(l.take k).countP fun x=>decide (x=0)
theorem noughts_next {k:Nat} {x:Int} (h:l[k]? = some x):noughts l (k+1)=noughts l k+(if x=0 then 1 else 0):=by
 unfold noughts
 rw[List.take_add_one,h,Option.toList_some,List.countP_append]
 by_cases e:x=0 <;> simp[e]
theorem noughts_le (l:List Int) (k:Nat):noughts l k≤k:=by
 unfold noughts
 have h1:=List.countP_le_length (p:=fun x:Int=>decide (x=0)) (l:=l.take k)
 rw[List.length_take] at h1
 omega
theorem noughts_none:∀ (l:List Int),(∀ p,p<l.length→gs l p≠0)→l.countP (fun x=>decide (x=0))=0:=fun l h=>by
 rw[List.countP_eq_zero]
 intro x hx
 obtain⟨p,hp,e⟩:=List.getElem_of_mem hx
 have:=h p hp
 rw[gs_at (by rw[List.getElem?_eq_getElem hp,e])] at this
 simpa using this
theorem noughts_one:∀ (l:List Int) (z:Nat),z<l.length→gs l z=0→(∀ p,p<l.length→gs l p=0→p=z)→l.countP (fun x=>decide (x=0))=1
 | [],z,h,_,_=>absurd h (by simp)
 | a::l,0,_,h0,hu=>by
  have ha:a=0:=h0
  rw[List.countP_cons,noughts_none l (fun p hp e=>by
   have:=hu (p+1) (by simp; omega) e
   omega)]
  simp[ha]
 | a::l,z+1,hz,h0,hu=>by
  have ha:a≠0:=fun e=>by
   have:=hu 0 (by simp) e
   omega
  rw[List.countP_cons,noughts_one l z (by simpa using hz) h0 (fun p hp e=>by
   have:=hu (p+1) (by simp; omega) e
   omega)]
  simp[ha]
theorem Round.count (r:Round l):noughts l l.length=1:=by
 obtain⟨z,hz,h0,hu⟩:=r.zero
 unfold noughts
 rw[List.take_length]
 exact noughts_one l z hz h0 hu
end
end
end Go.Su
