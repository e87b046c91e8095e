/- Lemmas and contracts of this proof. Conditions: said at each. -/
import Derived.Test.YtambgjpfoceieaaGreatDoorGSvMath
namespace Go.Su
section
def Pre (s:List Int) (x:Nat) (q:List Int):Prop:=∀ j,j<q.length→gs s (x+j)=gs q j
def lsI (l:List Int) (c:Int):Nat:=l.countP fun x=>decide (x<c)
def oc (l:List Int) (c:Int) (k:Nat):Nat:=(l.take k).countP fun x=>decide (x=c)
section
variable {s l:List Int} {L:List Nat}
theorem pre_nil (s:List Int) (x:Nat):Pre s x []:=fun j hj=>absurd hj (by simp)
theorem pre_cons {x:Nat} {c:Int} {q:List Int}:Pre s x (c::q)↔gs s x=c∧Pre s (x+1) q:=by
 constructor
 ·intro h
  refine⟨h 0 (by simp),fun j hj=>?_⟩
  have:=h (j+1) (by simpa using hj)
  rw[show x+1+j=x+(j+1) by omega,this]
  rfl
 ·rintro ⟨h1,h2⟩ j hj
  cases j with
  | zero=>exact h1
  | succ j =>
   have:=h2 j (by simpa using hj)
   rw[show x+(j+1)=x+1+j by omega,this]
   rfl
theorem row_range (l:List Int):(List.range l.length).map (gs l)=l:=by
 refine List.ext_getElem? fun p=>?_
 rcases Nat.lt_or_ge p l.length with h | h
 ·rw[List.getElem?_map,List.getElem?_range h,gs_some h]
  rfl
 ·rw[List.getElem?_eq_none (by simpa using h),List.getElem?_eq_none h]
theorem take_range (l:List Int) {k:Nat} (hk:k≤l.length):(List.range k).map (gs l)=l.take k:=by
 have h:=row_range l
 have h2:((List.range l.length).map (gs l)).take k=l.take k:=by rw[h]
 rw[←h2,←List.map_take]
 congr 1
 rw[List.take_range,Nat.min_eq_left hk]
theorem countP_and (p q:Nat→Bool) (hpq:∀ x,p x=true→q x=true→False):∀ L:List Nat,L.countP (fun x=>p x||q x)=L.countP p+L.countP q
 | []=>rfl
 | a::L=>by
  rw[List.countP_cons,List.countP_cons,List.countP_cons,countP_and p q hpq L]
  cases hp:p a <;> cases hq:q a <;> simp
  ·omega
  ·omega
  ·exact (hpq a hp hq).elim
theorem lf_counts {i:Nat} (hi:i<l.length):lf l i=lsI l (gs l i)+oc l (gs l i) i:=by
 unfold lf lsI oc
 have e1:(List.range l.length).countP (fun j=>decide (Bef l j i))=(List.range l.length).countP (fun j=>decide (gs l j<gs l i)||decide (gs l j=gs l i∧j<i)):=by
  refine List.countP_congr fun j _=>?_
  simp only[decide_eq_true_eq,Bool.or_eq_true]
  exact Iff.rfl
 rw[e1,countP_and _ _ (fun x h1 h2=>by simp at h1 h2; omega)]
 congr 1
 ·conv=>rhs; rw[←row_range l]
  rw[List.countP_map]
  refine List.countP_congr fun j _=>?_
  simp[row_range]
 ·rw[←take_range l (Nat.le_of_lt hi),List.countP_map]
  have e2:List.range l.length=List.range i++(List.range (l.length-i)).map (fun x=>i+x):=by
   rw[←List.range_add,show i+(l.length-i)=l.length by omega]
  rw[e2,List.countP_append]
  have e3:((List.range (l.length-i)).map (fun x=>i+x)).countP (fun j=>decide (gs l j=gs l i∧j<i))=0:=by
   rw[List.countP_eq_zero]
   intro y hy
   obtain⟨z,_,rfl⟩:=List.mem_map.1 hy
   simp
  rw[e3,Nat.add_zero]
  refine List.countP_congr fun j hj=>?_
  have:=List.mem_range.1 hj
  simp
  omega
theorem oc_next {c x:Int} {k:Nat} (h:l[k]? = some x):oc l c (k+1)=oc l c k+(if x=c then 1 else 0):=by
 unfold oc
 rw[List.take_add_one,h,Option.toList_some,List.countP_append]
 by_cases e:x=c <;> simp[e]
theorem oc_next' {c:Int} {k:Nat} (h:k<l.length):oc l c (k+1)=oc l c k+(if gs l k=c then 1 else 0):=oc_next (gs_some h)
theorem oc_mono {c:Int} {j:Nat}:∀ {k:Nat},j≤k→k≤l.length→oc l c j≤oc l c k
 | 0,h,_=>by
  obtain rfl:j=0:=by omega
  exact Nat.le_refl _
 | k+1,h,hk=>by
  rcases Nat.lt_or_ge j (k+1) with h1 | h1
  ·have:=oc_mono (c:=c) (show j≤k by omega) (by omega)
   rw[oc_next' (by omega)]
   omega
  ·obtain rfl:j=k+1:=by omega
   exact Nat.le_refl _
theorem oc_find {c:Int} {a r:Nat}:∀ {b:Nat},a≤b→b≤l.length→oc l c a≤r→r<oc l c b→∃ i,a≤i∧i<b∧gs l i=c∧oc l c i=r
 | 0,h,_,h1,h2=>by
  obtain rfl:a=0:=by omega
  omega
 | b+1,h,hb,h1,h2=>by
  rcases Nat.lt_or_ge a (b+1) with h3 | h3
  ·rw[oc_next' (by omega)] at h2
   rcases Nat.lt_or_ge r (oc l c b) with h4 | h4
   ·obtain⟨i,g1,g2,g3⟩:=oc_find (show a≤b by omega) (by omega) h1 h4
    exact⟨i,g1,by omega,g3⟩
   ·by_cases e:gs l b=c
    ·rw[if_pos e] at h2
     exact⟨b,by omega,by omega,e,by omega⟩
    ·rw[if_neg e] at h2
     omega
  ·obtain rfl:a=b+1:=by omega
   omega
def Rng (s:List Int) (L:List Nat) (q:List Int) (lo hi:Nat):Prop:=lo≤hi∧hi≤s.length∧∀ i x,L[i]? = some x→(Pre s x q↔lo≤i∧i<hi)
theorem rng_start (h:IsSA s L):Rng s L [] 0 s.length:=⟨Nat.zero_le _,Nat.le_refl _,fun i x hx=>by
 obtain⟨h1,_⟩:=List.getElem?_eq_some_iff.1 hx
 have:=h.len
 exact⟨fun _=>by omega,fun _=>pre_nil s x⟩⟩
theorem Turned.at' (t:Turned s l) (h:IsSA s L) {i x:Nat} (hx:L[i]? = some x):gs l i=gs s (prv s.length x):=t.at_ L h i x hx
theorem lsI_oc_le (c:Int):lsI l c+oc l c l.length≤l.length:=by
 unfold lsI oc
 rw[List.take_length]
 have h1:l.countP (fun x=>decide (x<c))+l.countP (fun x=>decide (x=c))≤l.length:=by
  induction l with
  | nil=>simp
  | cons a l ih =>
   rw[List.countP_cons,List.countP_cons,List.length_cons]
   by_cases h1:a<c
   ·rw[if_pos (by simpa using h1),if_neg (by simp; omega)]
    omega
   ·rw[if_neg (by simpa using h1)]
    split <;> omega
 exact h1
theorem Rng.step (t:Turned s l) (h:IsSA s L) {q:List Int} {lo hi:Nat} (r:Rng s L q lo hi) {c:Int} (hc:c≠0):Rng s L (c::q) (lsI l c+oc l c lo) (lsI l c+oc l c hi):=by
 obtain⟨h1,h2,h3⟩:=r
 have hl:=t.len
 have hcl:=t.closed
 refine⟨by have:=oc_mono (l:=l) (c:=c) h1 (by omega); omega,?_,fun j x hx=>?_⟩
 ·have g1:=oc_mono (l:=l) (c:=c) (j:=hi) (k:=l.length) (by omega) (Nat.le_refl _)
  have g2:=lsI_oc_le (l:=l) c
  omega
 ·have hxn:x<s.length:=(h.mem x).1 (List.mem_of_getElem? hx)
  rw[pre_cons]
  constructor
  ·rintro ⟨e,hq⟩
   have hx1:x+1<s.length:=by
    rcases Nat.lt_or_ge (x+1) s.length with g | g
    ·exact g
    ·have hl2:=hcl.last
     rw[show s.length-1=x by omega] at hl2
     rw[hl2] at e
     exact absurd e.symm hc
   obtain⟨i,hi'⟩:=h.find hx1
   have hin:i<l.length:=by
    obtain⟨g,_⟩:=List.getElem?_eq_some_iff.1 hi'
    have:=h.len
    omega
   obtain⟨g1,g2⟩:=(h3 i _ hi').1 hq
   have hp:prv s.length (x+1)=x:=by unfold prv; rw[if_neg (by omega)]; omega
   have hli:gs l i=c:=by rw[t.at' h hi',hp,e]
   have hst:=t.step h hi'
   rw[hp] at hst
   have hj:=at_one h.nodup hst hx
   rw[lf_counts hin,hli] at hj
   have g3:=oc_mono (l:=l) (c:=c) g1 (by omega)
   have g4:=oc_mono (l:=l) (c:=c) (j:=i+1) (k:=hi) (by omega) (by omega)
   rw[oc_next' hin,if_pos hli] at g4
   omega
  ·rintro ⟨g1,g2⟩
   obtain⟨i,k1,k2,k3,k4⟩:=oc_find (l:=l) (c:=c) (a:=lo) (b:=hi) (r:=j-lsI l c) h1 (by omega) (by omega) (by omega)
   obtain⟨y,hy,hyn⟩:=h.has (i:=i) (by omega)
   have hst:=t.step h hy
   rw[lf_counts (by omega),k3,k4,show lsI l c+(j-lsI l c)=j by omega,hx] at hst
   have hxy:x=prv s.length y:=Option.some.inj hst
   have hly:=t.at' h hy
   rw[k3,←hxy] at hly
   have hy0:y≠0:=fun e=>by
    subst e
    have:x=s.length-1:=by rw[hxy]; unfold prv; rw[if_pos rfl]
    rw[this,hcl.last] at hly
    exact hc hly
   have hx1:x+1=y:=by rw[hxy]; unfold prv; rw[if_neg hy0]; omega
   refine⟨hly.symm,?_⟩
   rw[hx1]
   exact (h3 i y hy).2 ⟨k1,k2⟩
end
end
section
def body:List (List Int)→List Int
 | []=>[]
 | t::xss=>t.map (fun b=>b+2)++1::body xss
def txt (xss:List (List Int)):List Int:=body xss++[0]
def beg (xss:List (List Int)) (d:Nat):Nat:=((xss.take d).map fun t=>t.length+1).sum
def PosB (xss:List (List Int)):Prop:=∀ t∈xss,∀ x∈t,0≤x
structure Occ (xss:List (List Int)) (p:List Int) (d a:Nat):Prop where
 some:p≠[]
 doc:d<xss.length
 fits:a+p.length≤(xss.getD d []).length
 same:∀ j,j<p.length→gs (xss.getD d []) (a+j)=gs p j
def ats (t p:List Int):List Nat:=if p=[] then [] else (List.range (t.length+1-p.length)).filter fun a=>decide ((t.drop a).take p.length=p)
def locs:List (List Int)→List Int→Nat→List (Nat×Nat)
 | [],_,_=>[]
 | t::xss,p,d=>(ats t p).map (fun a=>(d,a))++locs xss p (d+1)
section
variable {xss:List (List Int)} {t p:List Int} {d a x:Nat}
theorem body_len:∀ xss:List (List Int),(body xss).length=beg xss xss.length
 | []=>rfl
 | t::xss=>by
  have ih:=body_len xss
  unfold beg at *
  rw[List.take_length] at ih ⊢
  simp only[body,List.length_append,List.length_map,List.length_cons,List.map_cons,List.sum_cons]
  omega
theorem txt_len (xss:List (List Int)):(txt xss).length=beg xss xss.length+1:=by
 unfold txt
 rw[List.length_append,body_len]
 rfl
theorem beg_zero (xss:List (List Int)):beg xss 0=0:=rfl
theorem beg_cons (t:List Int) (xss:List (List Int)) (d:Nat):beg (t::xss) (d+1)=t.length+1+beg xss d:=by
 unfold beg
 rw[List.take_succ_cons,List.map_cons,List.sum_cons]
theorem beg_next:∀ (xss:List (List Int)) (d:Nat),d<xss.length→beg xss (d+1)=beg xss d+((xss.getD d []).length+1)
 | [],d,h=>absurd h (by simp)
 | t::xss,0,_=>by
  rw[beg_cons,beg_zero,beg_zero]
  simp
 | t::xss,d+1,h=>by
  have:=beg_next xss d (by simpa using h)
  rw[beg_cons,beg_cons,this]
  simp
  omega
theorem gs_app_left {u v:List Int} {p:Nat} (h:p<u.length):gs (u++v) p=gs u p:=by
 unfold gs
 rw[List.getD_eq_getElem?_getD,List.getD_eq_getElem?_getD,List.getElem?_append_left h]
theorem gs_app_right {u v:List Int} {p:Nat} (h:u.length≤p):gs (u++v) p=gs v (p-u.length):=by
 unfold gs
 rw[List.getD_eq_getElem?_getD,List.getD_eq_getElem?_getD,List.getElem?_append_right h]
theorem gs_map2 {t:List Int} {a:Nat} (h:a<t.length):gs (t.map fun b=>b+2) a=gs t a+2:=gs_at (by rw[List.getElem?_map,gs_some h]; rfl)
theorem body_at:∀ (xss:List (List Int)) (d a:Nat),d<xss.length→a<(xss.getD d []).length→gs (body xss) (beg xss d+a)=gs (xss.getD d []) a+2
 | [],d,_,h,_=>absurd h (by simp)
 | t::xss,0,a,_,ha=>by
  have ha':a<t.length:=ha
  rw[beg_zero,Nat.zero_add]
  show gs (t.map (fun b=>b+2)++1::body xss) a=gs t a+2
  rw[gs_app_left (by simpa using ha'),gs_map2 ha']
 | t::xss,d+1,a,h,ha=>by
  have ih:=body_at xss d a (by simpa using h) (by simpa using ha)
  rw[beg_cons]
  show gs (t.map (fun b=>b+2)++1::body xss) _=_
  rw[gs_app_right (by simp; omega),List.length_map,show t.length+1+beg xss d+a-t.length=(beg xss d+a)+1 by omega]
  show gs (body xss) (beg xss d+a)=_
  rw[ih]
  simp
theorem body_end:∀ (xss:List (List Int)) (d:Nat),d<xss.length→gs (body xss) (beg xss d+(xss.getD d []).length)=1
 | [],d,h=>absurd h (by simp)
 | t::xss,0,_=>by
  rw[beg_zero,Nat.zero_add]
  show gs (t.map (fun b=>b+2)++1::body xss) t.length=1
  rw[gs_app_right (by simp),List.length_map,Nat.sub_self]
  rfl
 | t::xss,d+1,h=>by
  have ih:=body_end xss d (by simpa using h)
  rw[beg_cons]
  show gs (t.map (fun b=>b+2)++1::body xss) (t.length+1+beg xss d+(xss.getD d []).length)=_
  rw[gs_app_right (by simp; omega),List.length_map,show t.length+1+beg xss d+(xss.getD d []).length-t.length=(beg xss d+(xss.getD d []).length)+1 by omega]
  exact ih
theorem spot_find:∀ (xss:List (List Int)) (x:Nat),x<beg xss xss.length→∃ d a,d<xss.length∧a≤(xss.getD d []).length∧x=beg xss d+a
 | [],x,h=>absurd h (by simp[beg])
 | t::xss,x,h=>by
  rcases Nat.lt_or_ge x (t.length+1) with h1 | h1
  ·exact⟨0,x,by simp,by simpa using by omega,by rw[beg_zero,Nat.zero_add]⟩
  ·rw[List.length_cons,beg_cons] at h
   obtain⟨d,a,g1,g2,g3⟩:=spot_find xss (x-(t.length+1)) (by omega)
   exact⟨d+1,a,by simpa using g1,by simpa using g2,by rw[beg_cons]; omega⟩
theorem beg_mono (xss:List (List Int)) {d:Nat}:∀ {e:Nat},d≤e→e≤xss.length→beg xss d≤beg xss e
 | 0,h,_=>by
  obtain rfl:d=0:=by omega
  exact Nat.le_refl _
 | e+1,h,he=>by
  rcases Nat.lt_or_ge d (e+1) with h1 | h1
  ·have:=beg_mono xss (show d≤e by omega) (by omega)
   rw[beg_next xss e (by omega)]
   omega
  ·obtain rfl:d=e+1:=by omega
   exact Nat.le_refl _
theorem spot_lt {d e a b:Nat} (he:e<xss.length) (ha:a≤(xss.getD d []).length) (h:d<e∨(d=e∧a<b)):beg xss d+a<beg xss e+b:=by
 rcases h with h | ⟨rfl,h⟩
 ·have h1:=beg_next xss d (by omega)
  have h2:=beg_mono xss (show d+1≤e by omega) (by omega)
  omega
 ·omega
theorem txt_in (x:Nat) (h:x<beg xss xss.length):gs (txt xss) x=gs (body xss) x:=by
 unfold txt
 exact gs_app_left (by rw[body_len]; exact h)
theorem txt_last:gs (txt xss) (beg xss xss.length)=0:=by
 unfold txt
 rw[gs_app_right (by rw[body_len]; exact Nat.le_refl _),body_len,Nat.sub_self]
 rfl
theorem beg_lt {d a:Nat} (hd:d<xss.length) (ha:a≤(xss.getD d []).length):beg xss d+a<beg xss xss.length:=by
 have h1:=beg_next xss d hd
 have h2:=beg_mono xss (show d+1≤xss.length by omega) (Nat.le_refl _)
 omega
theorem txt_at {d a:Nat} (hd:d<xss.length) (ha:a<(xss.getD d []).length):gs (txt xss) (beg xss d+a)=gs (xss.getD d []) a+2:=by
 rw[txt_in _ (beg_lt hd (Nat.le_of_lt ha)),body_at _ _ _ hd ha]
theorem txt_end {d:Nat} (hd:d<xss.length):gs (txt xss) (beg xss d+(xss.getD d []).length)=1:=by
 rw[txt_in _ (beg_lt hd (Nat.le_refl _)),body_end _ _ hd]
theorem PosB.at_ (h:PosB xss) {d a:Nat} (hd:d<xss.length) (ha:a<(xss.getD d []).length):0≤gs (xss.getD d []) a:=by
 have e:xss.getD d []=xss[d]:=by rw[List.getD_eq_getElem?_getD,List.getElem?_eq_getElem hd]; rfl
 rw[e] at ha ⊢
 refine h xss[d] (List.getElem_mem hd) _ ?_
 rw[gs_at (List.getElem?_eq_getElem ha)]
 exact List.getElem_mem ha
theorem txt_closed (h:PosB xss):Closed (txt xss):=by
 have hn:=txt_len xss
 have key:∀ x,x<beg xss xss.length→0<gs (txt xss) x:=fun x hx=>by
  obtain⟨d,a,h1,h2,rfl⟩:=spot_find xss x hx
  rcases Nat.lt_or_ge a (xss.getD d []).length with h3 | h3
  ·have:=h.at_ h1 h3
   rw[txt_at h1 h3]
   omega
  ·obtain rfl:a=(xss.getD d []).length:=by omega
   rw[txt_end h1]
   omega
 refine⟨fun v hv=>?_,by omega,by rw[hn,Nat.add_sub_cancel]; exact txt_last,fun q hq=>?_⟩
 ·obtain⟨q,hq,e⟩:=List.getElem_of_mem hv
  have e2:=gs_at (by rw[List.getElem?_eq_getElem hq,e]:(txt xss)[q]? = some v)
  rcases Nat.lt_or_ge q (beg xss xss.length) with h1 | h1
  ·have:=key q h1
   omega
  ·rw[show q=beg xss xss.length by omega,txt_last] at e2
   omega
 ·have:=key q (by omega)
  omega
theorem pre_occ (hp:∀ b∈p,0≤b) (h0:p≠[]):Pre (txt xss) x (p.map fun b=>b+2)↔∃ d a,x=beg xss d+a∧Occ xss p d a:=by
 have hpl:0<p.length:=by
  rcases p with _ | ⟨b,q⟩
  ·exact absurd rfl h0
  ·simp
 have hp2:∀ j,j<p.length→2≤gs (p.map fun b=>b+2) j∧gs (p.map fun b=>b+2) j=gs p j+2:=fun j hj=>by
  have h1:=gs_map2 hj
  have h2:0≤gs p j:=hp _ (by rw[gs_at (List.getElem?_eq_getElem hj)]; exact List.getElem_mem hj)
  omega
 constructor
 ·intro h
  have hb:∀ j,j<p.length→2≤gs (txt xss) (x+j):=fun j hj=>by
   rw[h j (by rw[List.length_map]; exact hj)]
   exact (hp2 j hj).1
  have hlt:x<beg xss xss.length:=by
   have h1:=hb 0 hpl
   rw[Nat.add_zero] at h1
   rcases Nat.lt_trichotomy x (beg xss xss.length) with g | g | g
   ·exact g
   ·rw[g,txt_last] at h1
    omega
   ·rw[gs_out (by rw[txt_len]; omega)] at h1
    omega
  obtain⟨d,a,h1,h2,rfl⟩:=spot_find xss x hlt
  have hfit:∀ j,j≤p.length→a+j≤(xss.getD d []).length:=fun j=>by
   induction j with
   | zero=>intro _; exact h2
   | succ j ih =>
    intro hj
    have h3:=ih (by omega)
    rcases Nat.lt_or_ge (a+j) (xss.getD d []).length with h4 | h4
    ·omega
    ·have h5:=hb j (by omega)
     rw[Nat.add_assoc,show a+j=(xss.getD d []).length by omega,txt_end h1] at h5
     omega
  refine⟨d,a,rfl,h0,h1,hfit _ (Nat.le_refl _),fun j hj=>?_⟩
  have h3:=h j (by rw[List.length_map]; exact hj)
  rw[Nat.add_assoc,txt_at h1 (by have:=hfit (j+1) (by omega); omega),(hp2 j hj).2] at h3
  omega
 ·rintro ⟨d,a,rfl,ho⟩ j hj
  rw[List.length_map] at hj
  have h1:=ho.fits
  rw[Nat.add_assoc,txt_at ho.doc (by omega),(hp2 j hj).2,ho.same j hj]
theorem occ_lt {e b:Nat} (h:Occ xss p d a) (g:Occ xss p e b):beg xss d+a<beg xss e+b↔d<e∨(d=e∧a<b):=by
 have h1:=h.fits
 have g1:=g.fits
 constructor
 ·intro hl
  rcases Nat.lt_trichotomy d e with k | k | k
  ·exact .inl k
  ·subst k
   exact .inr ⟨rfl,by omega⟩
  ·have:=spot_lt (xss:=xss) (a:=b) (b:=a) h.doc (by omega) (.inl k)
   omega
 ·exact spot_lt g.doc (by omega)
theorem take_eq_iff (t p:List Int) (a:Nat) (h:a+p.length≤t.length):(t.drop a).take p.length=p↔∀ j,j<p.length→gs t (a+j)=gs p j:=by
 constructor
 ·intro e j hj
  have h1:((t.drop a).take p.length)[j]? = p[j]? := by rw[e]
  rw[List.getElem?_take_of_lt hj,List.getElem?_drop,gs_some (by omega),gs_some hj] at h1
  exact Option.some.inj h1
 ·intro g
  refine List.ext_getElem? fun j=>?_
  rcases Nat.lt_or_ge j p.length with h1 | h1
  ·rw[List.getElem?_take_of_lt h1,List.getElem?_drop,gs_some (by omega),gs_some h1,g j h1]
  ·rw[List.getElem?_eq_none (by rw[List.length_take]; omega),List.getElem?_eq_none h1]
theorem mem_ats:a∈ats t p↔p≠[]∧a+p.length≤t.length∧∀ j,j<p.length→gs t (a+j)=gs p j:=by
 unfold ats
 by_cases h0:p=[]
 ·rw[if_pos h0]
  simp[h0]
 ·rw[if_neg h0,List.mem_filter,List.mem_range,decide_eq_true_eq]
  constructor
  ·rintro ⟨h1,h2⟩
   have h3:a+p.length≤t.length:=by omega
   exact⟨h0,h3,(take_eq_iff t p a h3).1 h2⟩
  ·rintro ⟨_,h1,h2⟩
   exact⟨by omega,(take_eq_iff t p a h1).2 h2⟩
theorem mem_locs:∀ (xss:List (List Int)) (k:Nat) (d a:Nat),(d,a)∈locs xss p k↔k≤d∧Occ xss p (d-k) a
 | [],k,d,a=>by
  simp only[locs,List.not_mem_nil,false_iff]
  rintro ⟨_,h⟩
  have:=h.doc
  simp at this
 | t::xss,k,d,a=>by
  have ih:=mem_locs xss (k+1) d a
  simp only[locs,List.mem_append,List.mem_map,Prod.mk.injEq]
  rw[ih]
  constructor
  ·rintro (⟨b,hb,rfl,rfl⟩ | ⟨h1,h2⟩)
   ·obtain⟨g1,g2,g3⟩:=mem_ats.1 hb
    rw[Nat.sub_self]
    exact⟨Nat.le_refl _,g1,by simp,g2,g3⟩
   ·refine⟨by omega,h2.some,?_,?_,?_⟩
    ·have:=h2.doc
     simp
     omega
    ·have:=h2.fits
     rw[show d-k=(d-(k+1))+1 by omega]
     exact this
    ·have:=h2.same
     rw[show d-k=(d-(k+1))+1 by omega]
     exact this
  ·rintro ⟨h1,h2⟩
   by_cases e:d=k
   ·subst e
    rw[Nat.sub_self] at h2
    exact .inl ⟨a,mem_ats.2 ⟨h2.some,h2.fits,h2.same⟩,rfl,rfl⟩
   ·right
    have e2:d-k=(d-(k+1))+1:=by omega
    rw[e2] at h2
    refine⟨by omega,h2.some,?_,h2.fits,h2.same⟩
    have:=h2.doc
    simp at this
    omega
theorem ats_sorted (t p:List Int):(ats t p).Pairwise (fun a b=>a<b):=by
 unfold ats
 split
 ·exact List.Pairwise.nil
 ·exact List.Pairwise.filter _ List.pairwise_lt_range
theorem locs_sorted:∀ (xss:List (List Int)) (k:Nat),(locs xss p k).Pairwise (fun u v=>u.1<v.1∨(u.1=v.1∧u.2<v.2))
 | [],k=>List.Pairwise.nil
 | t::xss,k=>by
  simp only[locs]
  rw[List.pairwise_append]
  refine⟨?_,locs_sorted xss (k+1),fun u hu v hv=>?_⟩
  ·rw[List.pairwise_map]
   exact (ats_sorted t p).imp fun h => .inr ⟨rfl,h⟩
  ·obtain⟨b,_,rfl⟩:=List.mem_map.1 hu
   obtain⟨d,a⟩:=v
   have:=((mem_locs xss (k+1) d a).1 hv).1
   exact .inl (by show k<d; omega)
end
end
section
open Go.Bi (rk sel sel_eq IsSel)
def brd (s:List Int):List Bool:=s.map fun x=>decide (x=1)
theorem brd_rk (s:List Int) (i:Nat):rk (brd s) true i=(s.take i).countP fun x=>decide (x=1):=by
 rw[Go.Bi.rk_nat]
 unfold brd
 rw[←List.map_take,List.count_eq_countP,List.countP_map]
 refine List.countP_congr fun x _=>?_
 simp
theorem no_ones {t:List Int} (h:∀ x∈t,0≤x) (a:Nat):((t.map fun b=>b+2).take a).countP (fun x=>decide (x=1))=0:=by
 rw[List.countP_eq_zero]
 intro x hx
 obtain⟨b,hb,rfl⟩:=List.mem_map.1 (List.mem_of_mem_take hx)
 have:=h b hb
 simp
 omega
theorem ones_body:∀ (xss:List (List Int)) (u:List Int) (d a:Nat),PosB xss→d<xss.length→a≤(xss.getD d []).length→((body xss++u).take (beg xss d+a)).countP (fun x=>decide (x=1))=d
 | [],u,d,a,_,h,_=>absurd h (by simp)
 | t::xss,u,0,a,hb,_,ha=>by
  have ha':a≤t.length:=ha
  rw[beg_zero,Nat.zero_add]
  show ((t.map (fun b=>b+2)++1::body xss++u).take a).countP _=0
  rw[List.append_assoc,List.take_append_of_le_length (by simpa using ha')]
  exact no_ones (hb t (List.mem_cons_self ..)) a
 | t::xss,u,d+1,a,hb,h,ha=>by
  have ih:=ones_body xss u d a (fun v hv=>hb v (List.mem_cons_of_mem _ hv)) (by simpa using h) (by simpa using ha)
  have e:body (t::xss)++u=(t.map (fun b=>b+2)++[1])++(body xss++u):=by simp[body]
  have h0:=no_ones (hb t (List.mem_cons_self ..)) (t.map fun b=>b+2).length
  rw[List.take_length] at h0
  rw[e,beg_cons,show t.length+1+beg xss d+a=(t.map (fun b=>b+2)++[1]).length+(beg xss d+a) by simp; omega,List.take_length_add_append,List.countP_append,ih,List.countP_append,h0]
  simp
  omega
theorem ones_all:∀ (xss:List (List Int)),PosB xss→(body xss).countP (fun x=>decide (x=1))=xss.length
 | [],_=>rfl
 | t::xss,hb=>by
  have ih:=ones_all xss (fun v hv=>hb v (List.mem_cons_of_mem _ hv))
  have h0:=no_ones (hb t (List.mem_cons_self ..)) (t.map fun b=>b+2).length
  rw[List.take_length] at h0
  have e:body (t::xss)=(t.map (fun b=>b+2)++[1])++body xss:=by simp[body]
  rw[e,List.countP_append,ih,List.countP_append,h0]
  simp
  omega
section
variable {xss:List (List Int)} {p:List Int} {d a:Nat}
theorem brd_count (hb:PosB xss) (hd:d<xss.length) (ha:a≤(xss.getD d []).length):rk (brd (txt xss)) true ((beg xss d+a:Nat):Int)=d:=by
 rw[brd_rk]
 exact ones_body xss [0] d a hb hd ha
theorem brd_ones (hb:PosB xss):(brd (txt xss)).count true=xss.length:=by
 unfold brd txt
 rw[List.count_eq_countP,List.countP_map,List.countP_append]
 have e:=ones_all xss hb
 have e2:List.countP ((fun x=>x==true)∘fun x:Int=>decide (x=1)) (body xss)=(body xss).countP (fun x=>decide (x=1)):=List.countP_congr fun x _=>by simp
 rw[e2,e]
 simp
theorem brd_sel (hb:PosB xss) (hd:d<xss.length):sel (brd (txt xss)) true (d:Nat)=((beg xss d+(xss.getD d []).length:Nat):Int):=by
 refine sel_eq (.inl ⟨_,rfl,?_,?_⟩)
 ·have h1:=txt_end hd
  have h2:=beg_lt hd (Nat.le_refl _)
  unfold brd
  rw[List.getElem?_map,gs_some (by rw[txt_len]; omega),h1]
  rfl
 ·have:=brd_count hb hd (Nat.le_refl _)
  rw[Go.Bi.rk_nat] at this
  rw[this]
theorem brd_none (s:List Int):sel (brd s) true (-1) = -1:=sel_eq (.inr ⟨rfl, .inl (by omega)⟩)
theorem brd_start (hb:PosB xss) (hd:d<xss.length):sel (brd (txt xss)) true ((d:Int)-1)+1=(beg xss d:Nat):=by
 rcases d with _ | d
 ·rw[show ((0:Nat):Int)-1 = -1 by omega,brd_none,beg_zero]
  omega
 ·rw[show ((d+1:Nat):Int)-1=(d:Nat) by omega,brd_sel hb (by omega),beg_next xss d (by omega)]
  omega
def spot (xss:List (List Int)) (x:Nat):Nat×Nat:=(rk (brd (txt xss)) true x,x-beg xss (rk (brd (txt xss)) true x))
theorem spot_is (hb:PosB xss) (hd:d<xss.length) (ha:a≤(xss.getD d []).length):spot xss (beg xss d+a)=(d,a):=by
 unfold spot
 rw[brd_count hb hd ha,Nat.add_sub_cancel_left]
def Lex (u v:Nat×Nat):Prop:=u.1<v.1∨(u.1=v.1∧u.2<v.2)
theorem spots_are (hb:PosB xss) (hp:∀ b∈p,0≤b) (h0:p≠[]) {P:List Nat} (hs:P.Pairwise (fun x y=>x<y)) (hm:∀ x,x∈P↔Pre (txt xss) x (p.map fun b=>b+2)):P.map (spot xss)=locs xss p 0:=by
 refine pairwise_uniq (R:=Lex) (fun u v h g=>?_) ?_ (locs_sorted xss 0) fun u=>?_
 ·unfold Lex at h g
  omega
 ·rw[List.pairwise_map]
  refine List.Pairwise.imp_of_mem (fun {x y} hx hy h=>?_) hs
  obtain⟨d,a,rfl,ho⟩:=(pre_occ hp h0).1 ((hm x).1 hx)
  obtain⟨e,b,rfl,go⟩:=(pre_occ hp h0).1 ((hm y).1 hy)
  have h1:=ho.fits
  have h2:=go.fits
  rw[spot_is hb ho.doc (by omega),spot_is hb go.doc (by omega)]
  exact (occ_lt ho go).1 h
 ·obtain⟨d,a⟩:=u
  rw[List.mem_map,mem_locs]
  constructor
  ·rintro ⟨x,hx,e⟩
   obtain⟨d',a',rfl,ho⟩:=(pre_occ hp h0).1 ((hm x).1 hx)
   have h1:=ho.fits
   rw[spot_is hb ho.doc (by omega)] at e
   injection e with e1 e2
   subst e1 e2
   exact⟨Nat.zero_le _,by rwa[Nat.sub_zero]⟩
  ·rintro ⟨_,ho⟩
   rw[Nat.sub_zero] at ho
   have h1:=ho.fits
   exact⟨beg xss d+a,(hm _).2 ((pre_occ hp h0).2 ⟨d,a,rfl,ho⟩),spot_is hb ho.doc (by omega)⟩
def cutL (L:List Nat) (lo hi:Nat):List Nat:=(L.take hi).drop lo
theorem cutL_len {L:List Nat} {lo hi:Nat} (h:hi≤L.length):(cutL L lo hi).length=hi-lo:=by
 unfold cutL
 rw[List.length_drop,List.length_take]
 omega
theorem cutL_at {L:List Nat} {lo hi i:Nat} (h:lo+i<hi):(cutL L lo hi)[i]? = L[lo+i]? := by
 unfold cutL
 rw[List.getElem?_drop,List.getElem?_take_of_lt h]
theorem cutL_mem {L:List Nat} {lo hi x:Nat}:x∈cutL L lo hi↔∃ i,lo≤i∧i<hi∧L[i]? = some x:=by
 rw[List.mem_iff_getElem?]
 constructor
 ·rintro ⟨i,hi'⟩
  rcases Nat.lt_or_ge (lo+i) hi with h | h
  ·rw[cutL_at h] at hi'
   exact⟨lo+i,by omega,h,hi'⟩
  ·rw[List.getElem?_eq_none (by unfold cutL; rw[List.length_drop,List.length_take]; omega)] at hi'
   cases hi'
 ·rintro ⟨i,h1,h2,h3⟩
  refine⟨i-lo,?_⟩
  rw[cutL_at (by omega),show lo+(i-lo)=i by omega,h3]
theorem strict_of {l:List Nat} (h:l.Pairwise (fun x y=>x≤y)) (hn:l.Nodup):l.Pairwise (fun x y=>x<y):=by
 refine (List.pairwise_and_iff.2 ⟨h,hn⟩).imp fun {x y} h=>?_
 have:=h.1
 have:=h.2
 omega
theorem locs_cut (hb:PosB xss) (hp:∀ b∈p,0≤b) (h0:p≠[]) {L P:List Nat} {lo hi:Nat} (h:IsSA (txt xss) L) (r:Rng (txt xss) L (p.map fun b=>b+2) lo hi) (hP:P.Perm (cutL L lo hi)) (hs:P.Pairwise (fun x y=>x≤y)):P.map (spot xss)=locs xss p 0:=by
 have hn:(cutL L lo hi).Nodup:=by
  unfold cutL
  exact (List.drop_sublist _ _).nodup ((List.take_sublist _ _).nodup h.nodup)
 refine spots_are hb hp h0 (strict_of hs (hP.symm.nodup hn)) fun x=>?_
 rw[hP.mem_iff,cutL_mem]
 constructor
 ·rintro ⟨i,h1,h2,h3⟩
  exact (r.2.2 i x h3).2 ⟨h1,h2⟩
 ·intro hx
  have hlt:x<(txt xss).length:=by
   rcases Nat.lt_or_ge x (txt xss).length with g | g
   ·exact g
   ·obtain⟨d,a,rfl,ho⟩:=(pre_occ hp h0).1 hx
    have h1:=ho.fits
    have:=beg_lt ho.doc (a:=a) (by omega)
    rw[txt_len] at g
    omega
  obtain⟨i,hi'⟩:=h.find hlt
  obtain⟨h1,h2⟩:=(r.2.2 i x hi').1 hx
  exact⟨i,h1,h2,hi'⟩
theorem locs_count (hb:PosB xss) (hp:∀ b∈p,0≤b) (h0:p≠[]) {L:List Nat} {lo hi:Nat} (h:IsSA (txt xss) L) (r:Rng (txt xss) L (p.map fun b=>b+2) lo hi):(locs xss p 0).length=hi-lo:=by
 have e:=locs_cut hb hp h0 h r (P:=(cutL L lo hi).mergeSort) (List.mergeSort_perm _ _) ((List.pairwise_mergeSort (le:=fun x y:Nat=>decide (x≤y)) (fun a b c=>by simp; omega) (fun a b=>by simp; omega) _).imp fun {x y} h=>by simpa using h)
 rw[←e,List.length_map,(List.mergeSort_perm _ _).length_eq,cutL_len (by have:=r.2.1; have:=h.len; omega)]
theorem locs_empty:∀ (xss:List (List Int)) (k:Nat),locs xss [] k=[]
 | [],_=>rfl
 | t::xss,k=>by
  have ih:=locs_empty xss (k+1)
  simp[locs,ih,ats]
end
end
section
open Go.Bi (rk sel sel_eq IsSel)
def smp (n:Nat):Nat:=(n+7)/8
def knw (L:List Nat):List Bool:=L.map fun x=>decide (x%8=0)
def ords (l:List Int):List Nat:=(List.range (smp l.length)).map fun i=>way l (l.length-1-8*i)
def plcs (L:List Nat):List Nat:=(L.filter fun x=>decide (x%8=0)).map fun x=>x/8
theorem ords_len (l:List Int):(ords l).length=smp l.length:=by unfold ords; simp
theorem rk_step {α:Type} (f:α→Bool):∀ (L:List α) (j:Nat) (x:α),L[j]? = some x→f x=true→(L.filter f)[((L.map f).take j).count true]? = some x
 | [],_,_,h,_=>by simp at h
 | a::L,0,x,h,hf=>by
  obtain rfl:a=x:=by simpa using h
  simp[hf]
 | a::L,j+1,x,h,hf=>by
  have ih:=rk_step f L j x (by simpa using h) hf
  rw[List.map_cons,List.take_succ_cons,List.count_cons,List.filter_cons]
  cases hfa:f a
  ·simpa using ih
  ·simpa using ih
theorem plcs_at {L:List Nat} {j x:Nat} (h:L[j]? = some x) (hx:x%8=0):(plcs L)[rk (knw L) true j]? = some (x/8):=by
 unfold plcs
 rw[List.getElem?_map,Go.Bi.rk_nat]
 have:=rk_step (fun x=>decide (x%8=0)) L j x h (by simpa using hx)
 unfold knw
 rw[this]
 rfl
theorem knw_at {L:List Nat} {j x:Nat} (h:L[j]? = some x):(knw L)[j]? = some (decide (x%8=0)):=by
 unfold knw
 rw[List.getElem?_map,h]
 rfl
section
variable {s l:List Int} {L:List Nat}
theorem sa_perm (h:IsSA s L):L.Perm (List.range s.length):=range_of h.nodup (fun x hx=>(h.mem x).1 hx) (Nat.le_of_eq h.len.symm)
theorem count8:∀ n:Nat,(List.range n).countP (fun x=>decide (x%8=0))=smp n
 | 0=>rfl
 | n+1=>by
  rw[List.range_succ,List.countP_append,count8 n]
  unfold smp
  by_cases e:n%8=0
  ·simp[e]
   omega
  ·simp[e]
   omega
theorem plcs_len (h:IsSA s L):(plcs L).length=smp s.length:=by
 unfold plcs
 rw[List.length_map,←List.countP_eq_length_filter,(sa_perm h).countP_eq,count8]
theorem plcs_lt (h:IsSA s L):∀ v∈plcs L,v<smp s.length:=fun v hv=>by
 unfold plcs at hv
 obtain⟨x,hx,rfl⟩:=List.mem_map.1 hv
 rw[List.mem_filter] at hx
 have h1:=(h.mem x).1 hx.1
 have h2:x%8=0:=by simpa using hx.2
 unfold smp
 omega
theorem plcs_nodup (h:IsSA s L):(plcs L).Nodup:=by
 unfold plcs
 rw[List.Nodup,List.pairwise_map]
 refine List.Pairwise.imp_of_mem (fun {a b} ha hb hab e=>?_) (h.nodup.filter _)
 rw[List.mem_filter] at ha hb
 have h1:a%8=0:=by simpa using ha.2
 have h2:b%8=0:=by simpa using hb.2
 exact hab (by omega)
theorem way_at (t:Turned s l) (h:IsSA s L) {x:Nat} (hx:x<s.length):L[way l (l.length-1-x)]? = some x:=by
 have:=t.way h (s.length-1-x) (by omega)
 rw[t.len]
 rwa[show s.length-1-(s.length-1-x)=x by omega] at this
theorem ords_get {i:Nat} (hi:i<smp l.length):(ords l)[i]? = some (way l (l.length-1-8*i)):=by
 unfold ords
 rw[List.getElem?_map,List.getElem?_range hi]
 rfl
theorem smp_lt {n i:Nat} (h:i<smp n):8*i<n:=by unfold smp at h; omega
theorem lt_smp {n x:Nat} (h:x<n) (h8:x%8=0):x/8<smp n:=by unfold smp; omega
def upO (l:List Int) (p:Nat):List Nat:=(List.range (smp l.length)).map fun i=>if p≤8*i then way l (l.length-1-8*i) else 0
theorem upO_len (l:List Int) (p:Nat):(upO l p).length=smp l.length:=by unfold upO; simp
theorem upO_start (l:List Int):upO l l.length=List.replicate (smp l.length) 0:=by
 refine List.ext_getElem? fun i=>?_
 unfold upO
 rcases Nat.lt_or_ge i (smp l.length) with h | h
 ·have:=smp_lt h
  rw[List.getElem?_map,List.getElem?_range h,List.getElem?_replicate,if_pos h]
  simp
  omega
 ·rw[List.getElem?_eq_none (by simpa using h),List.getElem?_eq_none (by simpa using h)]
theorem upO_all (l:List Int):upO l 0=ords l:=by unfold upO ords; simp
theorem upO_no {p:Nat} (h:p%8≠0):upO l (p+1)=upO l p:=by
 unfold upO
 refine List.map_congr_left fun i _=>?_
 by_cases e:p≤8*i
 ·rw[if_pos e,if_pos (by omega)]
 ·rw[if_neg e,if_neg (by omega)]
theorem upO_yes {p:Nat} (hp:p<l.length) (h:p%8=0):(upO l (p+1)).set (p/8) (way l (l.length-1-p))=upO l p:=by
 refine List.ext_getElem? fun i=>?_
 rcases Nat.lt_or_ge i (smp l.length) with g | g
 ·rw[List.getElem?_set]
  unfold upO
  rw[List.getElem?_map,List.getElem?_map,List.getElem?_range g,List.length_map,List.length_range]
  have:=lt_smp hp h
  by_cases e:p/8=i
  ·rw[if_pos e,if_pos (by omega)]
   simp only[Option.map_some]
   rw[if_pos (by omega),show 8*i=p by omega]
  ·rw[if_neg e]
   simp only[Option.map_some]
   by_cases e2:p≤8*i
   ·rw[if_pos e2,if_pos (by omega)]
   ·rw[if_neg e2,if_neg (by omega)]
 ·rw[List.getElem?_eq_none (by rw[List.length_set,upO_len]; exact g),List.getElem?_eq_none (by rw[upO_len]; exact g)]
def upK (L:List Nat) (p:Nat):List Bool:=L.map fun x=>decide (p≤x∧x%8=0)
theorem upK_len (L:List Nat) (p:Nat):(upK L p).length=L.length:=List.length_map ..
theorem upK_start (h:IsSA s L):upK L s.length=List.replicate s.length false:=by
 refine List.ext_getElem? fun i=>?_
 unfold upK
 rcases Nat.lt_or_ge i s.length with g | g
 ·obtain⟨x,hx,hlt⟩:=h.has g
  rw[List.getElem?_map,hx,List.getElem?_replicate,if_pos g]
  simp
  omega
 ·rw[List.getElem?_eq_none (by rw[List.length_map,h.len]; exact g),List.getElem?_eq_none (by simpa using g)]
theorem upK_all (L:List Nat):upK L 0=knw L:=by unfold upK knw; simp
theorem upK_no {p:Nat} (h:p%8≠0):upK L (p+1)=upK L p:=by
 unfold upK
 refine List.map_congr_left fun x _=>?_
 rw[decide_eq_decide]
 constructor
 ·rintro ⟨a,b⟩; exact⟨by omega,b⟩
 ·rintro ⟨a,b⟩; exact⟨by omega,b⟩
theorem upK_yes (h:IsSA s L) {p j:Nat} (hj:L[j]? = some p) (h8:p%8=0):(upK L (p+1)).set j true=upK L p:=by
 obtain⟨hj1,_⟩:=List.getElem?_eq_some_iff.1 hj
 refine List.ext_getElem? fun i=>?_
 rw[List.getElem?_set]
 unfold upK
 rw[List.getElem?_map,List.getElem?_map,List.length_map]
 by_cases e:j=i
 ·subst e
  rw[if_pos rfl,if_pos hj1,hj]
  simp[h8]
 ·rw[if_neg e]
  cases hx:L[i]? with
  | none=>rfl
  | some x =>
   have hne:x≠p:=fun e2=>by
    subst e2
    exact e (at_one h.nodup hj hx)
   simp only[Option.map_some,Option.some.injEq]
   rw[decide_eq_decide]
   constructor
   ·rintro ⟨a,b⟩; exact⟨by omega,b⟩
   ·rintro ⟨a,b⟩; exact⟨by omega,b⟩
def upP (L:List Nat) (k:Nat):List Nat:=(plcs L).map fun v=>if v<k then v else 0
theorem upP_len (L:List Nat) (k:Nat):(upP L k).length=(plcs L).length:=List.length_map ..
theorem upP_start (L:List Nat):upP L 0=List.replicate (plcs L).length 0:=by
 unfold upP
 rw[←List.map_const']
 exact List.map_congr_left fun v _=>if_neg (by omega)
theorem upP_all (h:IsSA s L):upP L (smp s.length)=plcs L:=by
 unfold upP
 exact (List.map_congr_left (g:=id) fun v hv=>if_pos (plcs_lt h v hv)).trans (List.map_id _)
theorem upP_next (h:IsSA s L) {k r:Nat} (hr:(plcs L)[r]? = some k):(upP L k).set r k=upP L (k+1):=by
 obtain⟨hr1,_⟩:=List.getElem?_eq_some_iff.1 hr
 refine List.ext_getElem? fun i=>?_
 rw[List.getElem?_set]
 unfold upP
 rw[List.getElem?_map,List.getElem?_map,List.length_map]
 by_cases e:r=i
 ·subst e
  rw[if_pos rfl,if_pos hr1,hr]
  simp
 ·rw[if_neg e]
  cases hx:(plcs L)[i]? with
  | none=>rfl
  | some v =>
   have hne:v≠k:=fun e2=>by
    subst e2
    exact e (at_one (plcs_nodup h) hr hx)
   simp only[Option.map_some,Option.some.injEq]
   by_cases e2:v<k
   ·rw[if_pos e2,if_pos (by omega)]
   ·rw[if_neg e2,if_neg (by omega)]
theorem Turned.longer (t:Turned s l) (h:IsSA s L) {j x:Nat} (hj:L[j]? = some (x+1)):L[lf l j]? = some x:=by
 have:=t.step h hj
 rwa[show prv s.length (x+1)=x by unfold prv; rw[if_neg (by omega)]; omega] at this
theorem Turned.symAt (t:Turned s l) (h:IsSA s L) {j x:Nat} (hj:L[j]? = some (x+1)):gs l j=gs s x:=by
 have:=t.at' h hj
 rwa[show prv s.length (x+1)=x by unfold prv; rw[if_neg (by omega)]; omega] at this
end
end
section
def fw (P:List Nat):Nat→Nat
 | 0=>gn P 0
 | k+1=>gn P (fw P k)
def fol (l:List Int) (P:List Nat) (n:Nat):List Int:=(List.range n).map fun i=>gs l (fw P (i+1))
theorem fol_len (l:List Int) (P:List Nat) (n:Nat):(fol l P n).length=n:=by unfold fol; simp
theorem fol_get {l:List Int} {P:List Nat} {n i:Nat} (h:i<n):(fol l P n)[i]? = some (gs l (fw P (i+1))):=by
 unfold fol
 rw[List.getElem?_map,List.getElem?_range h]
 rfl
theorem fol_at {l:List Int} {P:List Nat} {n i:Nat} (h:i<n):gs (fol l P n) i=gs l (fw P (i+1)):=gs_at (fol_get h)
section
variable {l:List Int} {P:List Nat}
theorem Srt.gn_lt (h:Srt l P) {y:Nat} (hy:y<l.length):gn P y<l.length:=by
 have h1:y<P.length:=by rw[h.len]; exact hy
 exact h.lt _ (List.mem_of_getElem? (gn_some h1))
theorem Srt.lf_gn (h:Srt l P) {y:Nat} (hy:y<l.length):Go.Su.lf l (gn P y)=y:=h.lf (gn_some (by rw[h.len]; exact hy))
theorem Srt.gn_lf (h:Srt l P) {x:Nat} (hx:x<l.length):gn P (Go.Su.lf l x)=x:=by
 obtain⟨i,hi⟩:=h.find hx
 rw[h.lf hi]
 exact gn_at hi
theorem Srt.fw_lt (h:Srt l P) (hn:0<l.length):∀ k,fw P k<l.length
 | 0=>h.gn_lt hn
 | k+1=>h.gn_lt (Srt.fw_lt h hn k)
theorem Round.fw (r:Round l) (h:Srt l P):∀ k,k<l.length→fw P k=way l (l.length-1-k)
 | 0,_=>by
  obtain⟨z,hz,h0,hu⟩:=r.zero
  have h1:=hu _ (way_lt r.full _) r.lastZero
  have h2:=lf_zero r.pos h0 hu
  have h3:=h.gn_lf hz
  rw[h2] at h3
  show gn P 0=_
  rw[h3,Nat.sub_zero,h1]
 | k+1,hk=>by
  have ih:=Round.fw r h k (by omega)
  show gn P (Go.Su.fw P k)=_
  rw[ih,show l.length-1-k=(l.length-1-(k+1))+1 by omega]
  exact h.gn_lf (way_lt r.full _)
theorem Round.fol (r:Round l) (h:Srt l P):fol l P l.length=bck l:=by
 have hn:=r.full
 refine gs_ext (by rw[fol_len,bck_len]) fun p hp=>?_
 rw[fol_len] at hp
 rw[fol_at hp,bck_at hp]
 by_cases e:p+1=l.length
 ·rw[if_pos e,e]
  have h1:=r.fw h (l.length-1) (by omega)
  have h2:Go.Su.fw P l.length=gn P (Go.Su.fw P (l.length-1)):=by
   conv=>lhs; rw[show l.length=l.length-1+1 by omega]
   rfl
  have h3:=r.fw h 0 hn
  rw[Nat.sub_zero] at h3
  rw[h2,h1,Nat.sub_self]
  show gs l (gn P 0)=0
  have h4:gn P 0=Go.Su.fw P 0:=rfl
  rw[h4,h3]
  exact r.lastZero
 ·rw[if_neg e,r.fw h (p+1) (by omega),show l.length-1-(p+1)=l.length-2-p by omega]
theorem Turned.fol {s:List Int} (t:Turned s l) (h:Srt l P):fol l P l.length=s:=by
 rw[t.rnd.fol h,t.bck]
theorem fw_shift (h:Srt l P) (hn:0<l.length) {i j:Nat} (e:fw P i=fw P j):∀ t,fw P (i+t)=fw P (j+t)
 | 0=>e
 | t+1=>by
  show gn P (fw P (i+t))=gn P (fw P (j+t))
  rw[fw_shift h hn e t]
theorem closed_round (h:Srt l P) (hc:Closed (fol l P l.length)):Round l:=by
 have hn:0<l.length:=by have:=hc.full; rwa[fol_len] at this
 have sym:∀ i,i<l.length→gs (fol l P l.length) i=gs l (fw P (i+1)):=fun i hi=>fol_at hi
 have last:gs l (fw P l.length)=0:=by
  have h1:=hc.last
  rw[fol_len,sym _ (by omega),show l.length-1+1=l.length by omega] at h1
  exact h1
 have only:∀ k,1≤k→k<l.length→gs l (fw P k)≠0:=fun k h1 h2=>by
  have h3:=hc.only (k-1) (by rw[fol_len]; omega)
  rw[sym _ (by omega),show k-1+1=k by omega] at h3
  exact h3
 have inj:∀ i j,1≤i→i<j→j≤l.length→fw P i≠fw P j:=fun i j h1 h2 h3 e=>by
  have h4:=fw_shift h hn e (l.length-j)
  rw[show j+(l.length-j)=l.length by omega] at h4
  have h5:=only (i+(l.length-j)) (by omega) (by omega)
  rw[h4] at h5
  exact h5 last
 have perm:((List.range l.length).map fun i=>fw P (i+1)).Perm (List.range l.length):=by
  refine range_of ?_ (fun x hx=>?_) (by simp)
  ·rw[List.Nodup,List.pairwise_map,List.pairwise_iff_getElem]
   intro i j hi hj hij
   simp only[List.getElem_range]
   rw[List.length_range] at hi hj
   exact inj _ _ (by omega) (by omega) (by omega)
  ·obtain⟨y,_,rfl⟩:=List.mem_map.1 hx
   exact h.fw_lt hn _
 have find:∀ p,p<l.length→∃ k,1≤k∧k≤l.length∧fw P k=p:=fun p hp=>by
  obtain⟨i,hi,e⟩:=List.mem_map.1 (perm.mem_iff.2 (List.mem_range.2 hp))
  have:=List.mem_range.1 hi
  exact⟨i+1,by omega,by omega,e⟩
 have pos:Pos l:=fun x hx=>by
  obtain⟨p,hp,e⟩:=List.getElem_of_mem hx
  obtain⟨k,h1,h2,h3⟩:=find p hp
  have h4:=gs_pos hc.pos (p:=k-1) (by rw[fol_len]; omega)
  rw[sym _ (by omega),show k-1+1=k by omega,h3,gs_at (by rw[List.getElem?_eq_getElem hp,e])] at h4
  exact h4
 have uniq:∀ p,p<l.length→gs l p=0→p=fw P l.length:=fun p hp h0=>by
  obtain⟨k,h1,h2,h3⟩:=find p hp
  rcases Nat.lt_or_ge k l.length with h4 | h4
  ·rw[←h3] at h0
   exact absurd h0 (only k h1 h4)
  ·rw[←h3,show k=l.length by omega]
 have step:∀ k,lf l (fw P (k+1))=fw P k:=fun k=>h.lf_gn (h.fw_lt hn k)
 have zero:fw P (l.length-1)=0:=by
  have h1:=lf_zero pos last uniq
  rw[show l.length=l.length-1+1 by omega,step] at h1
  exact h1
 have along:∀ k,k<l.length→way l k=fw P (l.length-1-k):=fun k=>by
  induction k with
  | zero=>intro _; rw[Nat.sub_zero,zero]; rfl
  | succ k ih =>
   intro hk
   show lf l (way l k)=_
   rw[ih (by omega),show l.length-1-k=(l.length-1-(k+1))+1 by omega,step]
 refine⟨pos,hn,⟨_,h.fw_lt hn _,last,uniq⟩,fun p hp=>?_⟩
 obtain⟨k,h1,h2,h3⟩:=find p hp
 rcases Nat.lt_or_ge k l.length with h4 | h4
 ·exact⟨l.length-1-k,by omega,by rw[along _ (by omega),show l.length-1-(l.length-1-k)=k by omega,h3]⟩
 ·refine⟨l.length-1,by omega,?_⟩
  rw[along _ (by omega),Nat.sub_self,←h3,show k=l.length by omega]
  have e1:fw P l.length=gn P (fw P (l.length-1)):=by
   conv=>lhs; rw[show l.length=l.length-1+1 by omega]
   rfl
  rw[e1,zero]
  rfl
theorem closed_turned (h:Srt l P) (hc:Closed (fol l P l.length)):Turned (fol l P l.length) l:=by
 have r:=closed_round h hc
 rw[r.fol h]
 exact r.turned
end
end
end Go.Su
