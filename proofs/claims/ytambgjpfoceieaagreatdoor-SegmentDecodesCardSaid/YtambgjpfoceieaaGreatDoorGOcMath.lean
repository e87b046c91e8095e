/- Lemmas and contracts of this proof. Conditions: said at each. -/
import Derived.Test.YtambgjpfoceieaaGreatDoorGFmMath
import Derived.WalkKit
namespace Go.Oct
section
open Go.RowKit
def encN (n:Nat):List Int:=if h:n<128 then [(n:Int)] else ((n%128+128:Nat):Int)::encN (n/128)
termination_by n
decreasing_by omega
def top62:Nat:=4611686018427387904
theorem top62_eq:top62=4611686018427387904:=rfl
def clampI (v:Int):Nat:=if v<0 then 0 else if (top62:Int)<v then top62 else v.toNat
def encI (v:Int):List Int:=encN (clampI v)
theorem encN_small {n:Nat} (h:n<128):encN n=[(n:Int)]:=by rw[encN]; simp[h]
theorem encN_big {n:Nat} (h:128≤n):encN n=((n%128+128:Nat):Int)::encN (n/128):=by rw[encN]; simp[show ¬n<128 by omega]
theorem encN_pos (n:Nat):0<(encN n).length:=by
 by_cases h:n<128
 ·simp[encN_small h]
 ·simp[encN_big (by omega:128≤n)]
theorem encN_len:∀ (k n:Nat),n<128^(k+1)→(encN n).length≤k+1:=by
 intro k
 induction k with
 | zero=>intro n h; simp[encN_small (show n<128 by simpa using h)]
 | succ k ih =>
  intro n h
  by_cases hn:n<128
  ·simp[encN_small hn]
  ·rw[encN_big (by omega)]
   have h2:n/128<128^(k+1):=by
    rw[Nat.div_lt_iff_lt_mul (by omega),←Nat.pow_succ]
    exact h
   simpa using ih _ h2
theorem clampI_le (v:Int):clampI v≤top62:=by
 unfold clampI
 split
 ·exact Nat.zero_le _
 ·split
  ·exact Nat.le_refl _
  ·omega
theorem encI_len (v:Int):(encI v).length≤9:=encN_len 8 _ (Nat.lt_of_le_of_lt (clampI_le v) (by decide))
theorem flat_len (zs:List Int):∀ k,((zs.take k).flatMap encI).length≤9*k:=by
 intro k
 induction k generalizing zs with
 | zero=>simp
 | succ k ih =>
  cases zs with
  | nil=>simp
  | cons z zs =>
   have:=encI_len z
   have:=ih zs
   simp only[List.take_succ_cons,List.flatMap_cons,List.length_append]
   omega
theorem take_more {α:Type} {zs:List α} {k:Nat} {z:α} (h:zs[k]? = some z):zs.take (k+1)=zs.take k++[z]:=by
 rw[List.take_add_one,h]; rfl
theorem clampI_neg {v:Int} (h:v<0):clampI v=0:=by unfold clampI; rw[if_pos h]
theorem clampI_zero {v:Int} (h:v≤0):clampI v=0:=by
 unfold clampI
 by_cases h0:v<0
 ·rw[if_pos h0]
 ·rw[if_neg h0,if_neg (by omega)]
  omega
theorem clampI_top {v:Int} (h:4611686018427387904<v):clampI v=top62:=by
 unfold clampI
 rw[if_neg (by omega),if_pos (by rw[top62_eq]; omega)]
theorem clampI_nat {y:Nat} (h:(y:Int)≤4611686018427387904):clampI (y:Int)=y:=by
 unfold clampI
 rw[if_neg (by omega),if_neg (by rw[top62_eq]; omega)]
 simp
theorem encN_byte (n:Nat):∀ x∈encN n,0≤x∧x<256:=by
 induction n using encN.induct with
 | case1 n h=>rw[encN_small h]; intro x hx; simp at hx; omega
 | case2 n h ih =>
  rw[encN_big (by omega)]
  intro x hx
  rcases List.mem_cons.1 hx with rfl | hx
  ·omega
  ·exact ih x hx
def rowB (xs:List Int):List Int:=encN xs.length++xs
theorem flat_take {α:Type} (f:α→List Int) (l:List α):∀ k,((l.take k).flatMap f).length≤(l.flatMap f).length:=by
 intro k
 induction k generalizing l with
 | zero=>simp
 | succ k ih =>
  cases l with
  | nil=>simp
  | cons a l =>
   have:=ih l
   simp only[List.take_succ_cons,List.flatMap_cons,List.length_append]
   omega
theorem flat_more {α:Type} (f:α→List Int) {l:List α} {k:Nat} {a:α} (h:l[k]? = some a):(l.take (k+1)).flatMap f=(l.take k).flatMap f++f a:=by
 rw[take_more h]
 simp
theorem flat_room {α:Type} (f:α→List Int) {l:List α} {k:Nat} {a:α} (h:l[k]? = some a):((l.take k).flatMap f).length+(f a).length≤(l.flatMap f).length:=by
 have:=flat_take f l (k+1)
 rw[flat_more f h,List.length_append] at this
 exact this
def cat (xss:List (List Int)):List Int:=xss.flatten
theorem cat_more {l:List (List Int)} {k:Nat} {a:List Int} (h:l[k]? = some a):cat (l.take (k+1))=cat (l.take k)++a:=by
 unfold cat
 rw[take_more h]
 simp
theorem cat_app (a b:List (List Int)):cat (a++b)=cat a++cat b:=by simp[cat]
theorem cat_take (l:List (List Int)):∀ k,(cat (l.take k)).length≤(cat l).length:=by
 intro k
 have:cat l=cat (l.take k)++cat (l.drop k):=by rw[←cat_app,List.take_append_drop]
 rw[this,List.length_append]
 omega
theorem cat_room {l:List (List Int)} {k:Nat} {a:List Int} (h:l[k]? = some a):(cat (l.take k)).length+a.length≤(cat l).length:=by
 have:=cat_take l (k+1)
 rw[cat_more h,List.length_append] at this
 exact this
def takeN:Nat→Nat→List Int→Option (Nat×List Int)
 | _,_,[]=>none
 | i,n,b::r =>
  if i=9 then none
  else if 128≤b then takeN (i+1) (n+b.toNat%128*128^i) r
  else if top62<n+b.toNat%128*128^i∨(b=0∧0<i) then none
  else some (n+b.toNat%128*128^i,r)
theorem takeN_nine (n:Nat) (l:List Int):takeN 9 n l=none:=by
 cases l with
 | nil=>rfl
 | cons b r=>simp[takeN]
theorem takeN_more {i n x:Nat} {l:List Int} (hx:l[i]? = some (x:Int)) (hi:i≠9) (hb:128≤x):takeN i n (l.drop i)=takeN (i+1) (n+x%128*128^i) (l.drop (i+1)):=by
 obtain⟨h1,h2⟩:=List.getElem?_eq_some_iff.1 hx
 rw[List.drop_eq_getElem_cons h1,h2]
 simp[takeN,hi,show (128:Int)≤(x:Int) by omega]
theorem takeN_bad {i n x:Nat} {l:List Int} (hx:l[i]? = some (x:Int)) (hb:x<128) (h:top62<n+x%128*128^i∨(x=0∧0<i)):takeN i n (l.drop i)=none:=by
 obtain⟨h1,h2⟩:=List.getElem?_eq_some_iff.1 hx
 rw[List.drop_eq_getElem_cons h1,h2]
 by_cases hi:i=9
 ·subst hi
  exact takeN_nine _ _
 ·have h':top62<n+x%128*128^i∨((x:Int)=0∧0<i):=by
   rcases h with h | h
   ·exact .inl h
   ·exact .inr ⟨by omega,h.2⟩
  simp only[takeN,if_neg hi,if_neg (show ¬(128:Int)≤(x:Int) by omega),Int.toNat_natCast,if_pos h']
theorem takeN_done {i n x:Nat} {l:List Int} (hx:l[i]? = some (x:Int)) (hi:i≠9) (hb:x<128) (h1:n+x%128*128^i≤top62) (h2:x=0→i=0):takeN i n (l.drop i)=some (n+x%128*128^i,l.drop (i+1)):=by
 obtain⟨g1,g2⟩:=List.getElem?_eq_some_iff.1 hx
 rw[List.drop_eq_getElem_cons g1,g2]
 have h':¬ (top62<n+x%128*128^i∨((x:Int)=0∧0<i)):=by
  rintro (h | ⟨h,h3⟩)
  ·omega
  ·have:=h2 (by omega); omega
 simp only[takeN,if_neg hi,if_neg (show ¬(128:Int)≤(x:Int) by omega),Int.toNat_natCast,if_neg h']
theorem takeN_enc:∀ (m i n:Nat) (r:List Int),m*128^i+n≤top62→i+(encN m).length≤9→(0<i→0<m)→takeN i n (encN m++r)=some (m*128^i+n,r):=by
 intro m
 induction m using encN.induct with
 | case1 m h =>
  intro i n r h1 h2 h3
  rw[encN_small h] at h2 ⊢
  have h':¬ (top62<n+m%128*128^i∨((m:Int)=0∧0<i)):=by
   rw[Nat.mod_eq_of_lt h]
   rintro (h4 | ⟨h4,h5⟩)
   ·omega
   ·have:=h3 h5; omega
  simp only[List.length_cons,List.length_nil] at h2
  rw[Nat.mod_eq_of_lt h] at h'
  simp only[List.cons_append,List.nil_append,takeN,if_neg (show ¬i=9 by omega),if_neg (show ¬(128:Int)≤(m:Int) by omega),Int.toNat_natCast,Nat.mod_eq_of_lt h]
  rw[if_neg h',Nat.add_comm]
 | case2 m h ih =>
  intro i n r h1 h2 h3
  have hb:128≤m:=by omega
  rw[encN_big hb] at h2 ⊢
  simp only[List.length_cons] at h2
  have e:m*128^i=m/128*128^(i+1)+m%128*128^i:=by
   rw[Nat.pow_succ,←Nat.mul_assoc,Nat.mul_right_comm,←Nat.add_mul]
   congr 1
   omega
  have hmod:(m%128+128)%128=m%128:=by omega
  simp only[List.cons_append,takeN,if_neg (show ¬i=9 by omega),if_pos (show (128:Int)≤((m%128+128:Nat):Int) by omega),Int.toNat_natCast,hmod]
  rw[ih (i+1) (n+m%128*128^i) r (by omega) (by omega) (fun _=>by omega)]
  congr 2
  omega
theorem takeN_enc0 {m:Nat} (h:m≤top62) (r:List Int):takeN 0 0 (encN m++r)=some (m,r):=by
 have hl:(encN m).length≤9:=encN_len 8 m (Nat.lt_of_le_of_lt h (by decide))
 rw[takeN_enc m 0 0 r (by simpa using h) (by omega) (fun h=>absurd h (by omega))]
 simp
theorem pow_cast (k:Nat):(2:Int)^(7*k)=((128^k:Nat):Int):=by
 rw[Int.pow_mul]
 simp
theorem pow_le8 {k:Nat} (h:k≤8):128^k≤72057594037927936:=by
 have:128^k≤128^8:=Nat.pow_le_pow_right (by omega) h
 have e:128^8=72057594037927936:=by decide
 omega
theorem digit_lt {m x k:Nat} (hm:m<128^k):m+x%128*128^k<128^(k+1):=by
 have h1:x%128≤127:=by omega
 have h2:x%128*128^k≤127*128^k:=Nat.mul_le_mul_right _ h1
 rw[Nat.pow_succ]
 omega
theorem wrap_digit {m x k:Nat} (hm:m<128^k) (hk:k≤8):wrap64 ((m:Int)+wrap64 ((x:Int)%128*2^(7*k)))=((m+x%128*128^k:Nat):Int):=by
 have h8:=pow_le8 hk
 have hd:=digit_lt (x:=x) hm
 rw[Nat.pow_succ] at hd
 have e:(x:Int)%128*2^(7*k)=((x%128*128^k:Nat):Int):=by
  rw[pow_cast]
  simp
 have hb:x%128*128^k≤127*128^k:=Nat.mul_le_mul_right _ (by omega)
 have e2:wrap64 ((x%128*128^k:Nat):Int)=((x%128*128^k:Nat):Int):=IntWalk.wrap64_in _ ⟨by omega,by omega⟩
 rw[e,e2,IntWalk.wrap64_in _ ⟨by omega,by omega⟩]
 simp
def tabN:List Nat:=[0,498536548,997073096,651767980,1994146192,1802195444,1303535960,1342533948,3988292384,4027552580,3604390888,3412177804,2607071920,2262029012,2685067896,3183342108]
def nib (s:Nat):Nat:=(s/16) ^^^ tabN.getD (s%16) 0
def stepN (s x:Nat):Nat:=nib (nib (s ^^^ x))
def sumFrom (s:Nat) (xs:List Int):Nat:=xs.foldl (fun s x=>stepN s x.toNat) s
def sumN (xs:List Int):Nat:=4294967295-sumFrom 4294967295 xs
theorem tab_lt (i:Nat) (h:i<16):tabN.getD i 0<4294967296:=by
 have:∀ i:Fin 16,tabN.getD i.val 0<4294967296:=by decide
 exact this ⟨i,h⟩
theorem xor_lt32 {a b:Nat} (ha:a<4294967296) (hb:b<4294967296):a ^^^ b<4294967296:=Nat.xor_lt_two_pow (n:=32) ha hb
theorem sumFrom_more {xs:List Int} {k:Nat} {x:Int} (s:Nat) (h:xs[k]? = some x):sumFrom s (xs.take (k+1))=stepN (sumFrom s (xs.take k)) x.toNat:=by
 unfold sumFrom
 rw[take_more h,List.foldl_append]
 rfl
theorem sumFrom_app (s:Nat) (xs ys:List Int):sumFrom s (xs++ys)=sumFrom (sumFrom s xs) ys:=by
 unfold sumFrom
 rw[List.foldl_append]
def Byt (xs:List Int):Prop:=∀ x∈xs,0≤x∧x<256
theorem Byt.at_ {xs:List Int} (h:Byt xs) {k:Nat} {x:Int} (e:xs[k]? = some x):0≤x∧x<256:=h x (List.mem_of_getElem? e)
end
end Go.Oct
namespace Go.Fr
section
open Go.Oct Go.RowKit
def four (n:Nat):List Int:=[((n%256:Nat):Int),((n/256%256:Nat):Int),((n/65536%256:Nat):Int),((n/16777216%256:Nat):Int)]
def unf (b:List Int) (i:Nat):Nat:=(b.getD i 0).toNat+256*(b.getD (i+1) 0).toNat+65536*(b.getD (i+2) 0).toNat+16777216*(b.getD (i+3) 0).toNat
theorem four_len (n:Nat):(four n).length=4:=rfl
theorem four_byt (n:Nat):Byt (four n):=fun x hx=>by
 simp only[four,List.mem_cons,List.not_mem_nil,or_false] at hx
 omega
theorem unf_four {n:Nat} (h:n<4294967296) (a c:List Int):unf (a++(four n++c)) a.length=n:=by
 have e:∀ j,(a++(four n++c)).getD (a.length+j) 0=(four n++c).getD j 0:=fun j=>by
  rw[List.getD_eq_getElem?_getD,List.getElem?_append_right (by omega),List.getD_eq_getElem?_getD]
  congr 2
  omega
 unfold unf
 have e0:=e 0
 rw[Nat.add_zero] at e0
 rw[e0,e 1,e 2,e 3]
 simp only[four,List.cons_append,List.getD_cons_zero,List.getD_cons_succ,Int.toNat_natCast]
 omega
theorem four_unf {b:List Int} {i:Nat} (hb:Byt b) (hi:i+4≤b.length):four (unf b i)=(b.drop i).take 4:=by
 have g:∀ j,i+j<b.length→0≤b.getD (i+j) 0∧b.getD (i+j) 0<256:=fun j hj=>by
  rw[List.getD_eq_getElem?_getD,List.getElem?_eq_getElem hj]
  exact hb _ (List.getElem_mem hj)
 obtain⟨h0,h0'⟩:=g 0 (by omega)
 obtain⟨h1,h1'⟩:=g 1 (by omega)
 obtain⟨h2,h2'⟩:=g 2 (by omega)
 obtain⟨h3,h3'⟩:=g 3 (by omega)
 rw[Nat.add_zero] at h0 h0'
 have e:(b.drop i).take 4=[b.getD i 0,b.getD (i+1) 0,b.getD (i+2) 0,b.getD (i+3) 0]:=by
  refine List.ext_getElem? fun j=>?_
  rw[List.getElem?_take]
  rcases Nat.lt_or_ge j 4 with hj | hj
  ·rw[if_pos hj,List.getElem?_drop,List.getElem?_eq_getElem (by omega)]
   have:j=0∨j=1∨j=2∨j=3:=by omega
   rcases this with rfl | rfl | rfl | rfl <;> simp[List.getD_eq_getElem?_getD,List.getElem?_eq_getElem (show i<b.length by omega),List.getElem?_eq_getElem (show i+1<b.length by omega),List.getElem?_eq_getElem (show i+2<b.length by omega),List.getElem?_eq_getElem (show i+3<b.length by omega)]
  ·rw[if_neg (by omega),List.getElem?_eq_none (by simpa using hj)]
 rw[e]
 unfold four unf
 congr 1
 ·omega
 ·congr 1
  ·omega
  ·congr 1
   ·omega
   ·congr 1
    omega
theorem unf_lt {b:List Int} {i:Nat} (hb:Byt b) (hi:i+4≤b.length):unf b i<4294967296:=by
 have g:∀ j,i+j<b.length→0≤b.getD (i+j) 0∧b.getD (i+j) 0<256:=fun j hj=>by
  rw[List.getD_eq_getElem?_getD,List.getElem?_eq_getElem hj]
  exact hb _ (List.getElem_mem hj)
 have h0:=g 0 (by omega)
 have h1:=g 1 (by omega)
 have h2:=g 2 (by omega)
 have h3:=g 3 (by omega)
 rw[Nat.add_zero] at h0
 unfold unf
 omega
theorem sumN_lt {xs:List Int}:sumN xs<4294967296:=by unfold sumN; omega
def hd (n:Nat):List Int:=four n++four (sumN (four n))
def frm (p:List Int):List Int:=hd p.length++p++four (sumN (hd p.length++p))
theorem hd_len (n:Nat):(hd n).length=8:=rfl
theorem frm_len (p:List Int):(frm p).length=12+p.length:=by
 unfold frm
 simp[hd_len,four_len]
 omega
theorem hd_byt (n:Nat):Byt (hd n):=fun x hx=>by
 rcases List.mem_append.1 hx with h | h
 ·exact four_byt _ x h
 ·exact four_byt _ x h
theorem frm_byt {p:List Int} (hp:Byt p):Byt (frm p):=fun x hx=>by
 unfold frm at hx
 rcases List.mem_append.1 hx with h | h
 ·rcases List.mem_append.1 h with h | h
  ·exact hd_byt _ x h
  ·exact hp x h
 ·exact four_byt _ x h
def decF (b:List Int):List Int×Nat×Int :=
 if b.length<8 then ([],0,2)
 else if unf b 4≠sumN (b.take 4) then ([],0,4)
 else if 1048576<unf b 0 then ([],0,5)
 else if b.length<12+unf b 0 then ([],0,2)
 else if unf b (8+unf b 0)≠sumN (b.take (8+unf b 0)) then ([],0,4)
 else ((b.drop 8).take (unf b 0),12+unf b 0,0)
def oneF (b:List Int):List Int×Int:=if (decF b).2.2≠0 then ([],(decF b).2.2) else if (decF b).2.1≠b.length then ([],3) else ((decF b).1,0)
theorem decF_frm {p:List Int} (h:p.length≤1048576) (more:List Int):decF (frm p++more)=(p,12+p.length,0):=by
 have hl:(frm p++more).length=12+p.length+more.length:=by simp[frm_len]
 have e0:unf (frm p++more) 0=p.length:=by
  have:=unf_four (n:=p.length) (by omega) [] (four (sumN (four p.length))++p++four (sumN (hd p.length++p))++more)
  simpa[frm,hd] using this
 have e4:unf (frm p++more) 4=sumN (four p.length):=by
  have:=unf_four (n:=sumN (four p.length)) sumN_lt (four p.length) (p++four (sumN (hd p.length++p))++more)
  simpa[frm,hd,four_len] using this
 have t4:(frm p++more).take 4=four p.length:=by
  simp[frm,hd,List.take_append,four_len]
  exact List.take_of_length_le (Nat.le_refl _)
 have e8:unf (frm p++more) (8+p.length)=sumN (hd p.length++p):=by
  have:=unf_four (n:=sumN (hd p.length++p)) sumN_lt (hd p.length++p) more
  rw[show (hd p.length++p).length=8+p.length by simp[hd_len]] at this
  simpa[frm] using this
 have t8:(frm p++more).take (8+p.length)=hd p.length++p:=by
  have e:frm p++more=(hd p.length++p)++(four (sumN (hd p.length++p))++more):=by simp[frm]
  rw[e,List.take_append_of_le_length (by simp[hd_len]),List.take_of_length_le (by simp[hd_len])]
 have d8:((frm p++more).drop 8).take p.length=p:=by
  have e:frm p++more=hd p.length++(p++(four (sumN (hd p.length++p))++more)):=by simp[frm]
  rw[e,List.drop_append_of_le_length (by simp[hd_len]),List.drop_eq_nil_of_le (by simp[hd_len]),List.nil_append,List.take_append_of_le_length (by omega),List.take_of_length_le (by omega)]
 unfold decF
 rw[e0,e4,t4,e8,t8,d8,hl,if_neg (by omega),if_neg (by simp),if_neg (by omega),if_neg (by omega),if_neg (by simp)]
theorem oneF_frm {p:List Int} (h:p.length≤1048576):oneF (frm p)=(p,0):=by
 have:=decF_frm h []
 rw[List.append_nil] at this
 unfold oneF
 rw[this]
 simp[frm_len]
theorem oneF_ok {b p:List Int} (hb:Byt b) (h:oneF b=(p,0)):b=frm p∧p.length≤1048576:=by
 unfold oneF decF at h
 by_cases h1:b.length<8
 ·simp[h1] at h
 by_cases h2:unf b 4=sumN (b.take 4)
 ·by_cases h3:1048576<unf b 0
  ·simp[h1,h2,h3] at h
  by_cases h4:b.length<12+unf b 0
  ·simp[h1,h2,h3,h4] at h
  by_cases h5:unf b (8+unf b 0)=sumN (b.take (8+unf b 0))
  ·by_cases h6:12+unf b 0=b.length
   ·simp[h1,h2,h3,h5,h6] at h
    obtain⟨n,hn⟩:∃ n,unf b 0=n:=⟨_,rfl⟩
    rw[hn] at h h3 h4 h5 h6
    have hpl:p.length=n:=by
     rw[←h,List.length_take,List.length_drop]
     omega
    have f0:=four_unf hb (i:=0) (by omega)
    have f4:=four_unf hb (i:=4) (by omega)
    have f8:=four_unf hb (i:=8+n) (by omega)
    rw[hn,List.drop_zero] at f0
    rw[h2] at f4
    rw[h5] at f8
    have hhd:hd n=b.take 8:=by
     unfold hd
     rw[f0,f4,show (8:Nat)=4+4 by rfl,List.take_add]
    have hp8:hd n++p=b.take (8+n):=by rw[hhd,←h,List.take_add]
    refine⟨?_,by omega⟩
    unfold frm
    rw[hpl,hp8,f8]
    have:b=b.take (8+n)++b.drop (8+n):=(List.take_append_drop _ _).symm
    conv=>lhs; rw[this]
    congr 1
    rw[List.take_of_length_le]
    rw[List.length_drop]
    omega
   ·simp[h1,h2,h3,h4,h5,h6] at h
  ·simp[h1,h2,h3,h4,h5] at h
 ·simp[h1,h2] at h
end
end Go.Fr
namespace Go.Oct
section
def bitStep (s:Nat):Nat:=if s%2=1 then (s/2) ^^^ 3988292384 else s/2
def bitsN:Nat→Nat→Nat
 | 0,s=>s
 | k+1,s=>bitsN k (bitStep s)
theorem xor_mod2 (x y:Nat):(x ^^^ y)%2=(x%2) ^^^ (y%2):=by
 have:=Nat.xor_mod_two_pow (a:=x) (b:=y) (n:=1)
 simpa using this
theorem bitStep_xor (x y:Nat):bitStep (x ^^^ y)=bitStep x ^^^ bitStep y:=by
 unfold bitStep
 rw[xor_mod2,Nat.xor_div_two]
 have hx:x%2=0∨x%2=1:=by omega
 have hy:y%2=0∨y%2=1:=by omega
 rcases hx with hx | hx <;> rcases hy with hy | hy <;> rw[hx,hy]
 ·simp
 ·simp[Nat.xor_assoc]
 ·simp only[Nat.xor_zero,if_true,if_neg (show ¬(0=1) by omega)]
  rw[Nat.xor_assoc,Nat.xor_assoc,Nat.xor_comm (y/2)]
 ·simp only[Nat.xor_self,if_true,if_neg (show ¬(0=1) by omega)]
  rw[Nat.xor_assoc,Nat.xor_comm (y/2),←Nat.xor_assoc 3988292384,Nat.xor_self,Nat.zero_xor]
theorem bitsN_xor:∀ (k x y:Nat),bitsN k (x ^^^ y)=bitsN k x ^^^ bitsN k y:=by
 intro k
 induction k with
 | zero=>intro x y; rfl
 | succ k ih=>intro x y; simp only[bitsN]; rw[bitStep_xor,ih]
theorem bitStep_even (a:Nat):bitStep (2*a)=a:=by
 unfold bitStep
 rw[if_neg (by omega)]
 omega
theorem split16 (s:Nat):s=(16*(s/16)) ^^^ (s%16):=by
 apply Nat.eq_of_testBit_eq
 intro i
 rw[Nat.testBit_xor,show 16*(s/16)=2^4*(s/2^4) from rfl,show s%16=s%2^4 from rfl,Nat.testBit_two_pow_mul,Nat.testBit_mod_two_pow,Nat.testBit_div_two_pow]
 by_cases h:4≤i
 ·simp[h,show ¬i<4 by omega]
 ·simp[h,show i<4 by omega]
theorem four_bits (s:Nat):bitsN 4 s=nib s:=by
 have h:=split16 s
 have h1:bitsN 4 (16*(s/16))=s/16:=by
  simp only[bitsN]
  rw[show 16*(s/16)=2*(2*(2*(2*(s/16)))) by omega,bitStep_even,bitStep_even,bitStep_even,bitStep_even]
 have h2:∀ r:Fin 16,bitsN 4 r.val=tabN.getD r.val 0:=by decide +kernel
 have h3:=h2 ⟨s%16,by omega⟩
 have h4:bitsN 4 s=bitsN 4 ((16*(s/16)) ^^^ (s%16)):=congrArg (bitsN 4) h
 rw[h4,bitsN_xor,h1]
 unfold nib
 exact congrArg _ h3
theorem bitsN_add:∀ (j k s:Nat),bitsN (j+k) s=bitsN k (bitsN j s):=by
 intro j
 induction j with
 | zero=>intro k s; rw[Nat.zero_add]; rfl
 | succ j ih=>intro k s; rw[Nat.succ_add]; simp only[bitsN]; rw[ih]
theorem eight_bits (s x:Nat):bitsN 8 (s ^^^ x)=stepN s x:=by
 rw[show 8=4+4 from rfl,bitsN_add,four_bits,four_bits]
 rfl
theorem bitsN_more (k s:Nat):bitsN (k+1) s=bitStep (bitsN k s):=by
 rw[bitsN_add]
 rfl
end
end Go.Oct
namespace Go.Sg
section
open Go.Oct Go.Su Go.RowKit
abbrev Key:=List UInt8
abbrev Dc:=Key×List Int
def kI (k:Key):List Int:=k.map fun b=>(b.toNat:Int)
def ks (ds:List Dc):List Key:=ds.map (·.1)
def ts (ds:List Dc):List (List Int):=ds.map (·.2)
def okK (k:Key):Prop:=1≤k.length∧k.length≤64
instance (k:Key):Decidable (okK k):=by unfold okK; exact inferInstance
/-! ### the order -/
theorem key_irrefl (a:Key):¬ a<a:=List.lt_irrefl a
theorem key_trans {a b c:Key} (h:a<b) (k:b<c):a<c:=List.lt_trans h k
theorem key_tri (a b:Key):a<b∨a=b∨b<a:=by
 by_cases h:a<b
 ·exact .inl h
 ·by_cases k:b<a
  ·exact .inr (.inr k)
  ·exact .inr (.inl (List.le_antisymm (List.not_lt.1 k) (List.not_lt.1 h)))
theorem key_le_trans {a b c:Key} (h:¬ b<a) (k:¬ c<b):¬ c<a:=fun hc=>by
 rcases key_tri a b with h1 | h1 | h1
 ·exact k (key_trans hc h1)
 ·subst h1; exact k hc
 ·exact h h1
theorem key_le_of_lt {a b:Key} (h:a<b):¬ b<a:=fun k=>key_irrefl a (key_trans h k)
def Srt (l:List Key):Prop:=l.Pairwise fun a b=>¬ b<a
def Rise (l:List Key):Prop:=l.Pairwise fun a b=>a<b
theorem Rise.srt {l:List Key} (h:Rise l):Srt l:=h.imp key_le_of_lt
theorem Rise.nodup {l:List Key} (h:Rise l):l.Nodup:=by
 unfold List.Nodup
 unfold Rise at h
 refine List.Pairwise.imp (fun {a b} (hab:a<b)=>?_) h
 rintro rfl
 exact key_irrefl _ hab
theorem Srt.rise {l:List Key} (h:Srt l) (hn:l.Nodup):Rise l:=by
 unfold Srt at h
 unfold List.Nodup at hn
 exact (h.and hn).imp fun {a b} hab=>by
  rcases key_tri a b with h1 | h1 | h1
  ·exact h1
  ·exact absurd h1 hab.2
  ·exact absurd h1 hab.1
theorem srt_uniq {l m:List Key} (hl:Srt l) (hm:Srt m) (hp:l.Perm m):l=m :=
 List.Perm.eq_of_pairwise (le:=fun a b=>¬ b<a) (fun a b _ _ h1 h2=>by
  rcases key_tri a b with h | h | h
  ·exact absurd h h2
  ·exact h
  ·exact absurd h h1) hl hm hp
theorem srt_adj {l:List Key} (h:Srt l):Rise l↔∀ i a b,l[i]? = some a→l[i+1]? = some b→a≠b:=by
 constructor
 ·intro hr i a b ha hb e
  obtain⟨h1,rfl⟩:=List.getElem?_eq_some_iff.1 ha
  obtain⟨h2,rfl⟩:=List.getElem?_eq_some_iff.1 hb
  have:=(List.pairwise_iff_getElem.1 hr) i (i+1) h1 h2 (by omega)
  rw[e] at this
  exact key_irrefl _ this
 ·intro hne
  refine h.rise ?_
  induction l with
  | nil=>exact List.Pairwise.nil
  | cons a l ih =>
   have h':=List.pairwise_cons.1 h
   refine List.pairwise_cons.2 ⟨fun b hb e=>?_,ih h'.2 (fun i x y hx hy=>hne (i+1) x y (by simpa using hx) (by simpa using hy))⟩
   subst e
   cases l with
   | nil=>simp at hb
   | cons c l =>
    rcases List.mem_cons.1 hb with rfl | hb
    ·exact hne 0 a a rfl rfl rfl
    ·have h1:=h'.1 c (by simp)
     have h2:=(List.pairwise_cons.1 h'.2).1 a hb
     rcases key_tri a c with k | k | k
     ·exact h2 k
     ·exact hne 0 a c rfl rfl k
     ·exact h1 k
/-! ### two sorted rows made one -/
structure Mrg (all out x y:List Key):Prop where
 perm:(out++(x++y)).Perm all
 so:Srt out
 sx:Srt x
 sy:Srt y
 le:∀ a∈out,∀ b∈x++y,¬b<a
theorem Mrg.start {x y all:List Key} (hx:Srt x) (hy:Srt y) (h:(x++y).Perm all):Mrg all [] x y:=⟨h,List.Pairwise.nil,hx,hy,fun a ha=>by simp at ha⟩
theorem srt_snoc {l:List Key} {a:Key} (h:Srt l) (ha:∀ b∈l,¬a<b):Srt (l++[a]) :=
 List.pairwise_append.2 ⟨h,List.pairwise_singleton _ _,fun b hb c hc=>by
  obtain rfl:c=a:=by simpa using hc
  exact ha b hb⟩
theorem Mrg.left {all out x y:List Key} {a:Key} (h:Mrg all out (a::x) y) (hy:∀ b∈y,¬b<a):Mrg all (out++[a]) x y:=by
 have hx:=List.pairwise_cons.1 h.sx
 refine⟨by simpa using h.perm,srt_snoc h.so (fun b hb=>h.le b hb a (by simp)),hx.2,h.sy,fun b hb c hc=>?_⟩
 rcases List.mem_append.1 hb with hb | hb
 ·refine h.le b hb c ?_
  rcases List.mem_append.1 hc with hc | hc
  ·simp[hc]
  ·simp[hc]
 ·obtain rfl:b=a:=by simpa using hb
  rcases List.mem_append.1 hc with hc | hc
  ·exact hx.1 c hc
  ·exact hy c hc
theorem Mrg.right {all out x y:List Key} {a:Key} (h:Mrg all out x (a::y)) (hx:∀ b∈x,¬b<a):Mrg all (out++[a]) x y:=by
 have hy:=List.pairwise_cons.1 h.sy
 refine⟨?_,srt_snoc h.so (fun b hb=>h.le b hb a (by simp)),h.sx,hy.2,fun b hb c hc=>?_⟩
 ·refine List.Perm.trans ?_ h.perm
  rw[List.append_assoc]
  refine List.Perm.append_left _ ?_
  exact (List.perm_middle (l₁:=x) (l₂:=y) (a:=a)).symm
 ·rcases List.mem_append.1 hb with hb | hb
  ·refine h.le b hb c ?_
   rcases List.mem_append.1 hc with hc | hc
   ·simp[hc]
   ·simp[hc]
  ·obtain rfl:b=a:=by simpa using hb
   rcases List.mem_append.1 hc with hc | hc
   ·exact hx c hc
   ·exact hy.1 c hc
theorem srt_head {a:Key} {l:List Key} (h:Srt (a::l)) {c:Key} (hc:¬ a<c):∀ b∈a::l,¬b<c:=fun b hb=>by
 rcases List.mem_cons.1 hb with rfl | hb
 ·exact hc
 ·exact key_le_trans hc ((List.pairwise_cons.1 h).1 b hb)
theorem Mrg.done {all out:List Key} (h:Mrg all out [] []):Srt out∧out.Perm all:=⟨h.so,by simpa using h.perm⟩
/-! ### documents -/
def ArgOk (ds:List Dc) (gs:List Key):Prop:=(∀ k∈ks ds++gs,okK k)∧(ks ds++gs).Nodup
structure Made (docs:List Dc) (gone:List Key) (ds:List Dc) (gs:List Key):Prop where
 pd:ds.Perm docs
 rd:Rise (ks ds)
 pg:gs.Perm gone
 rg:Rise gs
theorem ks_len (ds:List Dc):(ks ds).length=ds.length:=by simp[ks]
theorem ts_len (ds:List Dc):(ts ds).length=ds.length:=by simp[ts]
theorem ks_app (a b:List Dc):ks (a++b)=ks a++ks b:=by simp[ks]
theorem ts_app (a b:List Dc):ts (a++b)=ts a++ts b:=by simp[ts]
theorem docs_uniq:∀ {ds es:List Dc},ds.Perm es→Rise (ks ds)→Rise (ks es)→ds=es:=by
 intro ds es hp h1 h2
 have hk:ks ds=ks es:=srt_uniq h1.srt h2.srt (hp.map _)
 have hn:=h1.nodup
 refine List.ext_getElem? fun i=>?_
 cases hd:ds[i]? with
 | none =>
  have:ds.length≤i:=List.getElem?_eq_none_iff.1 hd
  rw[List.getElem?_eq_none (by rw[←hp.length_eq]; exact this)]
 | some d =>
  obtain⟨hi,rfl⟩:=List.getElem?_eq_some_iff.1 hd
  have hi2:i<es.length:=by rw[←hp.length_eq]; exact hi
  rw[List.getElem?_eq_getElem hi2]
  congr 1
  obtain⟨j,hj,hje⟩:=List.mem_iff_getElem.1 (hp.mem_iff.1 (List.getElem_mem hi))
  have e1:(ks es)[i]'(by rw[ks_len]; exact hi2)=(ds[i]).1:=by
   have:(ks ds)[i]'(by rw[ks_len]; exact hi)=(ds[i]).1:=by simp[ks]
   rw[←this]
   simp only[hk]
  have e2:(ks es)[j]'(by rw[ks_len]; exact hj)=(ds[i]).1:=by simp[ks,hje]
  have hij:i=j:=by
   have h2n:=h2.nodup
   exact (List.getElem_inj (xs:=ks es) (h₀:=by rw[ks_len]; exact hi2) (h₁:=by rw[ks_len]; exact hj) h2n).1 (e1.trans e2.symm)
  subst hij
  exact hje.symm
theorem Made.uniq {docs ds es:List Dc} {gone gs hs:List Key} (h:Made docs gone ds gs) (k:Made docs gone es hs):ds=es∧gs=hs :=
 ⟨docs_uniq (h.pd.trans k.pd.symm) h.rd k.rd,srt_uniq h.rg.srt k.rg.srt (h.pg.trans k.pg.symm)⟩
theorem ArgOk.perm {ds es:List Dc} {gs hs:List Key} (h:ArgOk ds gs) (p:es.Perm ds) (q:hs.Perm gs):ArgOk es hs:=by
 have hp:(ks es++hs).Perm (ks ds++gs):=(p.map _).append q
 exact⟨fun k hk=>h.1 k (hp.mem_iff.1 hk),hp.nodup_iff.2 h.2⟩
def at_ (ds:List Dc) (k:Key):Option (List Int):=(ds.find? fun d=>decide (d.1=k)).map (·.2)
/-! ### the record -/
def keysB (l:List Key):List Int:=encN l.length++l.flatMap fun k=>rowB (kI k)
def bod (ds:List Dc) (gs:List Key) (t:List Int):List Int:=[83,1]++keysB (ks ds)++keysB gs++(encN t.length++t.flatMap encI)
theorem kI_len (k:Key):(kI k).length=k.length:=by simp[kI]
theorem kI_byte (k:Key):∀ x∈kI k,0≤x∧x<256:=fun x hx=>by
 obtain⟨b,_,rfl⟩:=List.mem_map.1 hx
 have:=b.toNat_lt
 omega
theorem kI_inj {a b:Key} (h:kI a=kI b):a=b:=by
 unfold kI at h
 refine List.map_inj_right (f:=fun b:UInt8=>(b.toNat:Int)) (fun x y hxy=>?_) |>.1 h
 have:x.toNat=y.toNat:=Int.ofNat.inj hxy
 exact UInt8.toNat_inj.1 this
def Big (ds:List Dc):Prop:=∃ t∈ts ds,4096<t.length
def NewRes (docs:List Dc) (gone:List Key) (ec:Int) (ds:List Dc) (gs:List Key):Prop :=
 (¬ArgOk docs gone∧ec=1)∨(ArgOk docs gone∧Big docs∧ec=5)∨(ArgOk docs gone∧¬ Big docs∧ec=0∧Made docs gone ds gs)
theorem NewRes.same {docs ds es:List Dc} {gone gs hs:List Key} {ec ec':Int} (h:NewRes docs gone ec ds gs) (k:NewRes docs gone ec' es hs):ec=ec'∧(ec=0→ds=es∧gs=hs):=by
 rcases h with ⟨h1,rfl⟩ | ⟨h1,h2,rfl⟩ | ⟨h1,h2,rfl,h3⟩ <;> rcases k with ⟨k1,rfl⟩ | ⟨k1,k2,rfl⟩ | ⟨k1,k2,rfl,k3⟩
 ·exact⟨rfl,fun h=>absurd h (by omega)⟩
 ·exact absurd k1 h1
 ·exact absurd k1 h1
 ·exact absurd h1 k1
 ·exact⟨rfl,fun h=>absurd h (by omega)⟩
 ·exact absurd h2 k2
 ·exact absurd h1 k1
 ·exact absurd k2 h2
 ·exact⟨rfl,fun _=>h3.uniq k3⟩
end
section
open Go.Oct Go.Su Go.RowKit
structure Seg (ds:List Dc) (gs:List Key):Prop where
 ok:ArgOk ds gs
 rd:Rise (ks ds)
 rg:Rise gs
 small:¬ Big ds
 byts:∀ d∈ds,∀ x∈d.2,0≤x∧x<256
theorem Seg.nd {ds:List Dc} {gs:List Key} (h:Seg ds gs):(ks ds++gs).Nodup:=h.ok.2
theorem Seg.made {ds:List Dc} {gs:List Key} (h:Seg ds gs):Made ds gs ds gs:=⟨List.Perm.refl _,h.rd,List.Perm.refl _,h.rg⟩
theorem Made.seg {docs ds:List Dc} {gone gs:List Key} (h:Made docs gone ds gs) (ho:ArgOk docs gone) (hb:¬ Big docs) (hy:∀ d∈docs,∀ x∈d.2,0≤x∧x<256):Seg ds gs :=
 ⟨ho.perm h.pd h.pg,h.rd,h.rg,fun ⟨t,ht,hl⟩=>hb ⟨t,((h.pd.map _).mem_iff).1 ht,hl⟩,fun d hd=>hy d (h.pd.mem_iff.1 hd)⟩
theorem Seg.new {ds es:List Dc} {gs hs:List Key} {ec:Int} (h:Seg ds gs) (k:NewRes ds gs ec es hs):ec=0∧es=ds∧hs=gs:=by
 rcases k with ⟨k1,_⟩ | ⟨_,k2,_⟩ | ⟨_,_,k3,k4⟩
 ·exact absurd h.ok k1
 ·exact absurd k2 h.small
 ·obtain⟨e1,e2⟩:=k4.uniq h.made
  exact⟨k3,e1,e2⟩
/-! ### which key is known,and how -/
theorem at_mem {ds:List Dc} (hn:(ks ds).Nodup) {k:Key} {t:List Int}:at_ ds k=some t↔(k,t)∈ds:=by
 unfold at_
 induction ds with
 | nil=>simp
 | cons d ds ih =>
  have hn':=List.nodup_cons.1 hn
  rw[List.find?_cons]
  by_cases hd:d.1=k
  ·have hd':decide (d.1=k)=true:=by simpa using hd
   rw[hd']
   simp only[Option.map_some,Option.some.injEq,List.mem_cons]
   constructor
   ·rintro rfl
    exact .inl (by rw[←hd])
   ·rintro (h | h)
    ·rw[←h]
    ·exact absurd (List.mem_map.2 ⟨(k,t),h,hd.symm⟩) hn'.1
  ·have hd':decide (d.1=k)=false:=by simpa using hd
   rw[hd']
   simp only[List.mem_cons]
   rw[ih hn'.2]
   constructor
   ·exact .inr
   ·rintro (h | h)
    ·rw[←h] at hd; exact absurd rfl hd
    ·exact h
theorem at_none {ds:List Dc} {k:Key}:at_ ds k=none↔k∉ks ds:=by
 unfold at_ ks
 rw[Option.map_eq_none_iff,List.find?_eq_none]
 constructor
 ·intro h hm
  obtain⟨d,hd,e⟩:=List.mem_map.1 hm
  exact absurd e (by simpa using h d hd)
 ·intro h d hd
  simp only[decide_eq_true_eq]
  intro e
  exact h (List.mem_map.2 ⟨d,hd,e⟩)
def know (s:List Dc×List Key) (k:Key):Option (Option (List Int)):=match at_ s.1 k with | some t=>some (some t) | none=>if k∈s.2 then some none else none
def first (l:List (List Dc×List Key)) (k:Key):Option (Option (List Int)):=l.findSome? fun s=>know s k
theorem know_doc {s:List Dc×List Key} (hn:(ks s.1++s.2).Nodup) {k:Key} {t:List Int}:know s k=some (some t)↔(k,t)∈s.1:=by
 have h1:(ks s.1).Nodup:=(List.nodup_append.1 hn).1
 unfold know
 rw[←at_mem h1]
 cases h:at_ s.1 k with
 | some u=>simp
 | none =>
  simp only
  split <;> simp
theorem know_gone {s:List Dc×List Key} (hn:(ks s.1++s.2).Nodup) {k:Key}:know s k=some none↔k∈s.2:=by
 unfold know
 cases h:at_ s.1 k with
 | some u =>
  simp only[Option.some.injEq,reduceCtorEq,false_iff]
  intro hk
  have:(k,u)∈s.1:=(at_mem (List.nodup_append.1 hn).1).1 h
  exact (List.nodup_append.1 hn).2.2 k (List.mem_map.2 ⟨_,this,rfl⟩) k hk rfl
 | none =>
  simp only
  split <;> simp_all
theorem know_none {s:List Dc×List Key} {k:Key}:know s k=none↔k∉ks s.1∧k∉s.2:=by
 unfold know
 rw[←at_none]
 cases h:at_ s.1 k with
 | some u=>simp
 | none =>
  simp only[true_and]
  split <;> simp_all
structure Merged (l:List (List Dc×List Key)) (last:Bool) (ds:List Dc) (gs:List Key):Prop where
 rd:Rise (ks ds)
 rg:Rise gs
 doc:∀ k t,(k,t)∈ds↔first l k=some (some t)
 gone:∀ k,k∈gs↔last=false∧first l k=some none
theorem rise_ext {l m:List Key} (hl:Rise l) (hm:Rise m) (h:∀ k,k∈l↔k∈m):l=m :=
 srt_uniq hl.srt hm.srt ((List.perm_ext_iff_of_nodup hl.nodup hm.nodup).2 h)
theorem Merged.uniq {l:List (List Dc×List Key)} {last:Bool} {ds es:List Dc} {gs hs:List Key} (h:Merged l last ds gs) (k:Merged l last es hs):ds=es∧gs=hs:=by
 refine⟨docs_uniq ?_ h.rd k.rd,rise_ext h.rg k.rg fun x=>by rw[h.gone,k.gone]⟩
 have nd:∀ {xs:List Dc},Rise (ks xs)→xs.Nodup:=fun {xs} hx=>by
  have hn:=hx.nodup
  unfold ks List.Nodup at hn
  rw[List.pairwise_map] at hn
  exact hn.imp fun hne e=>hne (by rw[e])
 exact (List.perm_ext_iff_of_nodup (nd h.rd) (nd k.rd)).2 fun ⟨x,t⟩=>by rw[h.doc,k.doc]
theorem first_app (a b:List (List Dc×List Key)) (k:Key):first (a++b) k=(first a k).or (first b k):=by
 unfold first
 rw[List.findSome?_append]
theorem first_some {l:List (List Dc×List Key)} {k:Key} {x:Option (List Int)} (h:first l k=some x):∃ s∈l,know s k=some x:=by
 unfold first at h
 exact List.exists_of_findSome?_eq_some h
theorem Merged.seg {l:List (List Dc×List Key)} {last:Bool} {ds:List Dc} {gs:List Key} (h:Merged l last ds gs) (hl:∀ s∈l,Seg s.1 s.2):Seg ds gs:=by
 have hd:∀ k t,(k,t)∈ds→∃ s∈l,(k,t)∈s.1:=fun k t hk=>by
  obtain⟨s,hs,e⟩:=first_some ((h.doc k t).1 hk)
  exact⟨s,hs,(know_doc (hl s hs).nd).1 e⟩
 have hg:∀ k,k∈gs→∃ s∈l,k∈s.2:=fun k hk=>by
  obtain⟨s,hs,e⟩:=first_some ((h.gone k).1 hk).2
  exact⟨s,hs,(know_gone (hl s hs).nd).1 e⟩
 refine⟨⟨fun k hk=>?_,?_⟩,h.rd,h.rg,fun ⟨t,ht,hb⟩=>?_,fun ⟨k,t⟩ hk=>?_⟩
 ·rcases List.mem_append.1 hk with hk | hk
  ·obtain⟨⟨k',t⟩,hm,rfl⟩:=List.mem_map.1 hk
   obtain⟨s,hs,hm⟩:=hd _ _ hm
   exact (hl s hs).ok.1 _ (List.mem_append_left _ (List.mem_map.2 ⟨_,hm,rfl⟩))
  ·obtain⟨s,hs,hm⟩:=hg _ hk
   exact (hl s hs).ok.1 _ (List.mem_append_right _ hm)
 ·refine List.nodup_append.2 ⟨h.rd.nodup,h.rg.nodup,fun k hk k' hk' e=>?_⟩
  subst e
  obtain⟨⟨k',t⟩,hm,rfl⟩:=List.mem_map.1 hk
  have h1:=(h.doc _ _).1 hm
  have h2:=((h.gone _).1 hk').2
  rw[h1] at h2
  simp at h2
 ·obtain⟨⟨k,t'⟩,hm,rfl⟩:=List.mem_map.1 ht
  obtain⟨s,hs,hm⟩:=hd _ _ hm
  exact (hl s hs).small ⟨_,List.mem_map.2 ⟨_,hm,rfl⟩,hb⟩
 ·obtain⟨s,hs,hm⟩:=hd _ _ hk
  exact (hl s hs).byts _ hm
theorem Merged.know {l:List (List Dc×List Key)} {ds:List Dc} {gs:List Key} (h:Merged l false ds gs) (hl:∀ s∈l,Seg s.1 s.2) (k:Key):know (ds,gs) k=first l k:=by
 have hn:=(h.seg hl).nd
 cases hf:first l k with
 | none =>
  rw[know_none]
  refine⟨fun hk=>?_,fun hk=>?_⟩
  ·obtain⟨⟨k',t⟩,hm,rfl⟩:=List.mem_map.1 hk
   have:=(h.doc _ _).1 hm
   rw[hf] at this
   simp at this
  ·have:=((h.gone k).1 hk).2
   rw[hf] at this
   simp at this
 | some x =>
  cases x with
  | none=>exact (know_gone (s:=(ds,gs)) hn).2 ((h.gone k).2 ⟨rfl,hf⟩)
  | some t=>exact (know_doc (s:=(ds,gs)) hn).2 ((h.doc k t).2 hf)
theorem Merged.parts {a b:List (List Dc×List Key)} {last:Bool} {ds es fs:List Dc} {gs hs is:List Key} (ha:Merged a false ds gs) (hb:Merged b false es hs) (la:∀ s∈a,Seg s.1 s.2) (lb:∀ s∈b,Seg s.1 s.2)
  (h:Merged [(ds,gs),(es,hs)] last fs is):Merged (a++b) last fs is:=by
 have e:∀ k,first [(ds,gs),(es,hs)] k=first (a++b) k:=fun k=>by
  rw[first_app]
  have h1:=ha.know la k
  have h2:=hb.know lb k
  unfold first at h1 h2 ⊢
  rw[List.findSome?_cons,List.findSome?_cons,h1,h2,List.findSome?_nil]
  cases List.findSome? (fun s=>Go.Sg.know s k) a <;> cases List.findSome? (fun s=>Go.Sg.know s k) b <;> rfl
 exact⟨h.rd,h.rg,fun k t=>by rw[h.doc,e],fun k=>by rw[h.gone,e]⟩
/-! ### gone through,one by one -/
structure Mgu (f:Key→Option (Option (List Int))) (last:Bool) (docs:List Dc) (gone:List Key):Prop where
 nd:(ks docs).Nodup
 ng:gone.Nodup
 doc:∀ k t,(k,t)∈docs↔f k=some (some t)
 gone:∀ k,k∈gone↔last=false∧f k=some none
theorem Mgu.start (last:Bool):Mgu (fun _=>none) last [] []:=⟨List.nodup_nil,List.nodup_nil,fun k t=>by simp,fun k=>by simp⟩
section
open Classical
noncomputable def setK (f:Key→Option (Option (List Int))) (k:Key) (x:Option (List Int)):Key→Option (Option (List Int)):=fun q=>if q=k then some x else f q
theorem Mgu.push {f:Key→Option (Option (List Int))} {last:Bool} {docs:List Dc} {gone:List Key} (h:Mgu f last docs gone) {k:Key} (hk:f k=none) (t:List Int):Mgu (setK f k (some t)) last (docs++[(k,t)]) gone:=by
 have hno:k∉ks docs:=fun hm=>by
  obtain⟨⟨k',u⟩,hm2,e⟩:=List.mem_map.1 hm
  have:=(h.doc _ _).1 hm2
  rw[show k'=k from e,hk] at this
  simp at this
 refine⟨?_,h.ng,fun q u=>?_,fun q=>?_⟩
 ·rw[ks_app]
  refine List.nodup_append.2 ⟨h.nd,List.pairwise_singleton _ _,fun a ha b hb e=>?_⟩
  obtain rfl:b=k:=by simpa[ks] using hb
  subst e
  exact hno ha
 ·unfold setK
  by_cases hq:q=k
  ·subst hq
   rw[if_pos rfl]
   simp only[List.mem_append,List.mem_singleton,Prod.mk.injEq,true_and,Option.some.injEq]
   constructor
   ·rintro (hm | hm)
    ·exact absurd (List.mem_map.2 ⟨_,hm,rfl⟩) hno
    ·exact hm.symm
   ·intro e
    exact .inr e.symm
  ·rw[if_neg hq,←h.doc]
   simp[hq]
 ·unfold setK
  rw[h.gone]
  by_cases hq:q=k
  ·subst hq
   rw[if_pos rfl,hk]
   simp
  ·rw[if_neg hq]
theorem Mgu.drop {f:Key→Option (Option (List Int))} {docs:List Dc} {gone:List Key} (h:Mgu f false docs gone) {k:Key} (hk:f k=none):Mgu (setK f k none) false docs (gone++[k]):=by
 have hno:k∉gone:=fun hm=>by
  have:=((h.gone k).1 hm).2
  rw[hk] at this
  simp at this
 refine⟨h.nd,?_,fun q u=>?_,fun q=>?_⟩
 ·refine List.nodup_append.2 ⟨h.ng,List.pairwise_singleton _ _,fun a ha b hb e=>?_⟩
  obtain rfl:b=k:=by simpa using hb
  subst e
  exact hno ha
 ·unfold setK
  rw[h.doc]
  by_cases hq:q=k
  ·subst hq
   rw[if_pos rfl,hk]
   simp
  ·rw[if_neg hq]
 ·unfold setK
  by_cases hq:q=k
  ·subst hq
   rw[if_pos rfl]
   simp
  ·rw[if_neg hq]
   have:=h.gone q
   simp[hq,this]
theorem Mgu.lose {f:Key→Option (Option (List Int))} {docs:List Dc} {gone:List Key} (h:Mgu f true docs gone) {k:Key} (hk:f k=none):Mgu (setK f k none) true docs gone:=by
 refine⟨h.nd,h.ng,fun q u=>?_,fun q=>?_⟩
 ·unfold setK
  rw[h.doc]
  by_cases hq:q=k
  ·subst hq
   rw[if_pos rfl,hk]
   simp
  ·rw[if_neg hq]
 ·have:=h.gone q
  simp at this
  simp[this]
end
theorem Mgu.congr {f g:Key→Option (Option (List Int))} {last:Bool} {docs:List Dc} {gone:List Key} (h:Mgu f last docs gone) (e:∀ k,g k=f k):Mgu g last docs gone:=by
 have:g=f:=funext e
 rw[this]
 exact h
def upD (f:Key→Option (Option (List Int))) (ds:List Dc):Key→Option (Option (List Int)):=fun k=>(f k).or ((at_ ds k).map some)
def upG (f:Key→Option (Option (List Int))) (ds:List Dc) (gs:List Key):Key→Option (Option (List Int)):=fun k=>(f k).or (know (ds,gs) k)
theorem upD_zero (f:Key→Option (Option (List Int))) (k:Key):upD f [] k=f k:=by unfold upD at_; simp
theorem upG_zero (f:Key→Option (Option (List Int))) (ds:List Dc) (k:Key):upG f ds [] k=upD f ds k:=by
 unfold upG upD know
 cases at_ ds k <;> simp
theorem upG_all (a:List (List Dc×List Key)) (s:List Dc×List Key) (k:Key):upG (first a) s.1 s.2 k=first (a++[s]) k:=by
 rw[first_app]
 unfold upG first
 simp[List.findSome?_cons]
 cases know s k <;> simp
theorem upD_seen {f:Key→Option (Option (List Int))} {ds:List Dc} {d:Dc} (h:upD f ds d.1≠none) (k:Key):upD f (ds++[d]) k=upD f ds k:=by
 unfold upD at_ at *
 rw[List.find?_append]
 cases h1:f k with
 | some x=>simp
 | none =>
  simp only[Option.none_or]
  cases h2:ds.find? (fun e=>decide (e.1=k)) with
  | some x=>simp
  | none =>
   simp only[Option.none_or,List.find?_cons,List.find?_nil]
   by_cases hk:d.1=k
   ·subst hk
    rw[h1,h2] at h
    simp at h
   ·simp[hk]
theorem upD_new {f:Key→Option (Option (List Int))} {ds:List Dc} {d:Dc} (h:upD f ds d.1=none) (k:Key):upD f (ds++[d]) k=setK (upD f ds) d.1 (some d.2) k:=by
 unfold upD at_ setK at *
 rw[List.find?_append]
 by_cases hk:k=d.1
 ·subst hk
  rw[if_pos rfl]
  cases h1:f d.1 with
  | some x=>rw[h1] at h; simp at h
  | none =>
   rw[h1] at h
   simp only[Option.none_or,Option.map_eq_none_iff] at h
   rw[h]
   simp
 ·rw[if_neg hk]
  have hd:¬ d.1=k:=fun e=>hk e.symm
  have e1:[d].find? (fun e=>decide (e.1=k))=none:=by simp[hd]
  rw[e1,Option.or_none]
theorem know_snoc (ds:List Dc) (gs:List Key) (g k:Key):know (ds,gs++[g]) k=(know (ds,gs) k).or (if k=g then some none else none):=by
 unfold know
 cases at_ ds k with
 | some t=>simp
 | none =>
  simp only[List.mem_append,List.mem_singleton]
  by_cases h1:k∈gs
  ·simp[h1]
  ·by_cases h2:k=g
   ·subst h2
    simp[h1]
   ·simp[h1,h2]
theorem upG_seen {f:Key→Option (Option (List Int))} {ds:List Dc} {gs:List Key} {g:Key} (h:upG f ds gs g≠none) (k:Key):upG f ds (gs++[g]) k=upG f ds gs k:=by
 unfold upG at *
 rw[know_snoc,←Option.or_assoc]
 by_cases hk:k=g
 ·subst hk
  cases h1:(f k).or (know (ds,gs) k) with
  | some x=>simp
  | none=>exact absurd h1 h
 ·simp[hk]
theorem upG_new {f:Key→Option (Option (List Int))} {ds:List Dc} {gs:List Key} {g:Key} (h:upG f ds gs g=none) (k:Key):upG f ds (gs++[g]) k=setK (upG f ds gs) g none k:=by
 unfold setK
 unfold upG at *
 rw[know_snoc,←Option.or_assoc]
 by_cases hk:k=g
 ·subst hk
  rw[h]
  simp
 ·simp[hk]
theorem Mgu.merged {l:List (List Dc×List Key)} {last:Bool} {docs ds:List Dc} {gone gs:List Key} (h:Mgu (first l) last docs gone) (hm:Made docs gone ds gs):Merged l last ds gs :=
 ⟨hm.rd,hm.rg,fun k t=>by rw[←h.doc,hm.pd.mem_iff],fun k=>by rw[←h.gone,hm.pg.mem_iff]⟩
theorem Mgu.argOk {l:List (List Dc×List Key)} {last:Bool} {docs:List Dc} {gone:List Key} (h:Mgu (first l) last docs gone) (hl:∀ s∈l,Seg s.1 s.2):ArgOk docs gone∧¬ Big docs∧∀ d∈docs,∀ x∈d.2,0≤x∧x<256:=by
 have hd:∀ k t,(k,t)∈docs→∃ s∈l,(k,t)∈s.1:=fun k t hk=>by
  obtain⟨s,hs,e⟩:=first_some ((h.doc k t).1 hk)
  exact⟨s,hs,(know_doc (hl s hs).nd).1 e⟩
 have hg:∀ k,k∈gone→∃ s∈l,k∈s.2:=fun k hk=>by
  obtain⟨s,hs,e⟩:=first_some ((h.gone k).1 hk).2
  exact⟨s,hs,(know_gone (hl s hs).nd).1 e⟩
 refine⟨⟨fun k hk=>?_,?_⟩,fun ⟨t,ht,hb⟩=>?_,fun ⟨k,t⟩ hk=>?_⟩
 ·rcases List.mem_append.1 hk with hk | hk
  ·obtain⟨⟨k',t⟩,hm,rfl⟩:=List.mem_map.1 hk
   obtain⟨s,hs,hm⟩:=hd _ _ hm
   exact (hl s hs).ok.1 _ (List.mem_append_left _ (List.mem_map.2 ⟨_,hm,rfl⟩))
  ·obtain⟨s,hs,hm⟩:=hg _ hk
   exact (hl s hs).ok.1 _ (List.mem_append_right _ hm)
 ·refine List.nodup_append.2 ⟨h.nd,h.ng,fun k hk k' hk' e=>?_⟩
  subst e
  obtain⟨⟨k',t⟩,hm,rfl⟩:=List.mem_map.1 hk
  have h1:=(h.doc _ _).1 hm
  have h2:=((h.gone _).1 hk').2
  rw[h1] at h2
  simp at h2
 ·obtain⟨⟨k,t'⟩,hm,rfl⟩:=List.mem_map.1 ht
  obtain⟨s,hs,hm⟩:=hd _ _ hm
  exact (hl s hs).small ⟨_,List.mem_map.2 ⟨_,hm,rfl⟩,hb⟩
 ·obtain⟨s,hs,hm⟩:=hd _ _ hk
  exact (hl s hs).byts _ hm
/-! ### what is found -/
def finds (ds:List Dc) (p:List Int):List (Key×Nat):=ds.flatMap fun d=>(ats d.2 p).map fun a=>(d.1,a)
theorem finds_locs (p:List Int):∀ (ds pre:List Dc),(locs (ts ds) p pre.length).map (fun h=>((ks (pre++ds)).getD h.1 [],h.2))=finds ds p:=by
 intro ds
 induction ds with
 | nil=>intro pre; rfl
 | cons d ds ih =>
  intro pre
  have e1:locs (ts (d::ds)) p pre.length=(ats d.2 p).map (fun a=>(pre.length,a))++locs (ts ds) p (pre.length+1):=rfl
  rw[e1,List.map_append,List.map_map]
  have:=ih (pre++[d])
  rw[List.length_append,List.length_singleton,List.append_assoc,List.singleton_append] at this
  rw[this]
  unfold finds
  rw[List.flatMap_cons]
  congr 1
  refine List.map_congr_left fun a _=>?_
  simp[ks,List.getD_eq_getElem?_getD]
theorem finds_all (ds:List Dc) (p:List Int):(locs (ts ds) p 0).map (fun h=>((ks ds).getD h.1 [],h.2))=finds ds p:=finds_locs p ds []
end
end Go.Sg
namespace Go.Oct
section
theorem rowB_len (x:List Int):(rowB x).length=(encN x.length).length+x.length:=by simp[rowB]
theorem rowB_pos (x:List Int):0<(rowB x).length:=by rw[rowB_len]; have:=encN_pos x.length; omega
end
end Go.Oct
