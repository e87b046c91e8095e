/- Lemmas and contracts of this proof. Conditions: said at each. -/
import Derived.Test.YtambgjpfoceieaaGreatDoorGOcWords
import Derived.Lib.BitFns
namespace Go.Pk
open Go.RowKit Go.Oct
def dg (b:Nat) (l:List Nat) (p:Nat):Bool:=(l.getD (p/b) 0).testBit (p%b)
theorem dg_at {b i j p:Nat} (l:List Nat) (hj:j<b) (hp:p=i*b+j):dg b l p=(l.getD i 0).testBit j:=by
 subst hp
 unfold dg
 rw[Nat.mul_comm,Nat.mul_add_div (by omega),Nat.mul_add_mod,Nat.div_eq_of_lt hj,Nat.mod_eq_of_lt hj,Nat.add_zero]
structure Pk (ws:List Nat) (wd:Nat) (l:List Nat):Prop where
 lo:1≤wd
 hi:wd≤64
 len:ws.length=(wd*l.length+63)/64
 lt:∀ k,ws.getD k 0<18446744073709551616
 fit:∀ k,l.getD k 0<2^wd
 dig:∀ p,dg 64 ws p=dg wd l p
theorem big_bit {x j:Nat} (h:x<18446744073709551616) (hj:64≤j):x.testBit j=false :=
 Nat.testBit_lt_two_pow (Nat.lt_of_lt_of_le h (by rw[show (18446744073709551616:Nat)=2^64 by rfl]; exact Nat.pow_le_pow_right (by omega) hj))
theorem fit_bit {x w j:Nat} (h:x<2^w) (hj:w≤j):x.testBit j=false :=
 Nat.testBit_lt_two_pow (Nat.lt_of_lt_of_le h (Nat.pow_le_pow_right (by omega) hj))
theorem word_bit (ws:List Nat) (k:Nat) {j:Nat} (hj:j<64):(ws.getD k 0).testBit j=dg 64 ws (64*k+j):=(dg_at ws hj (by omega)).symm
theorem mod64 (x:Nat):x%18446744073709551616=x%2^64:=rfl
section
variable {ws l:List Nat} {wd:Nat}
theorem Pk.bit (h:Pk ws wd l) {i j:Nat} (hj:j<wd):(l.getD i 0).testBit j=dg 64 ws (i*wd+j):=by
 rw[h.dig,dg_at l hj rfl]
theorem get_one (h:Pk ws wd l) {i q r:Nat} (hq:i*wd=64*q+r) (hr:r+wd≤64):(ws.getD q 0/2^r) &&& (2^wd-1)=l.getD i 0:=by
 refine Nat.eq_of_testBit_eq fun j=>?_
 rw[Nat.testBit_and,Nat.testBit_div_two_pow,Nat.testBit_two_pow_sub_one]
 by_cases hj:j<wd
 ·rw[h.bit hj,hq,word_bit ws q (j:=j+r) (by omega),show 64*q+r+j=64*q+(j+r) by omega]
  simp[hj]
 ·rw[fit_bit (h.fit i) (by omega)]
  simp[hj]
theorem get_two (h:Pk ws wd l) {i q r:Nat} (hq:i*wd=64*q+r) (hr64:r<64) (hr:64<r+wd) :
  ((ws.getD q 0/2^r) ||| (ws.getD (q+1) 0*2^(64-r)%18446744073709551616)) &&& (2^wd-1)=l.getD i 0:=by
 have hwd:=h.hi
 refine Nat.eq_of_testBit_eq fun j=>?_
 rw[Nat.testBit_and,Nat.testBit_or,Nat.testBit_div_two_pow,Nat.testBit_two_pow_sub_one,mod64,Nat.testBit_mod_two_pow,Nat.testBit_mul_two_pow]
 by_cases hj:j<wd
 ·rw[h.bit hj,hq]
  by_cases hs:j+r<64
  ·rw[word_bit ws q (j:=j+r) hs,show 64*q+r+j=64*q+(j+r) by omega]
   have h1:¬ 64-r≤j:=by omega
   simp[hj,h1]
  ·rw[big_bit (h.lt q) (by omega),word_bit ws (q+1) (j:=j-(64-r)) (by omega),show 64*q+r+j=64*(q+1)+(j-(64-r)) by omega]
   have h1:64-r≤j:=by omega
   have h2:j<64:=by omega
   simp[hj,h1,h2]
 ·rw[fit_bit (h.fit i) (by omega)]
  simp[hj]
def layN (x m d:Nat):Nat:=(x &&& (18446744073709551615-m)) ||| d
theorem layN_bit {x m d j:Nat} (hm:m<18446744073709551616) (hj:j<64):(layN x m d).testBit j=((x.testBit j&&!m.testBit j)||d.testBit j):=by
 unfold layN
 rw[Nat.testBit_or,Nat.testBit_and,show 18446744073709551615-m=2^64-(m+1) by omega,Nat.testBit_two_pow_sub_succ (by simpa using hm)]
 simp[hj]
theorem layN_lt {x m d:Nat} (hx:x<18446744073709551616) (hd:d<18446744073709551616):layN x m d<18446744073709551616 :=
 Nat.or_lt_two_pow (n:=64) (Nat.lt_of_le_of_lt Nat.and_le_left hx) hd
theorem getD_set (ws:List Nat) (k x i:Nat):(ws.set k x).getD i 0=if k=i∧k<ws.length then x else ws.getD i 0:=by
 rw[List.getD_eq_getElem?_getD,List.getElem?_set,List.getD_eq_getElem?_getD]
 by_cases e:k=i
 ·subst e
  by_cases h:k<ws.length
  ·simp[h]
  ·simp[h]
 ·simp[e]
theorem dg_set {b:Nat} (hb:0<b) (l:List Nat) (i v p:Nat) (hi:i<l.length):dg b (l.set i v) p=if i*b≤p∧p<i*b+b then v.testBit (p-i*b) else dg b l p:=by
 have hp:=Nat.div_add_mod p b
 have hm:=Nat.mod_lt p hb
 unfold dg
 rw[getD_set]
 by_cases e:i=p/b
 ·subst e
  rw[Nat.mul_comm] at hp
  rw[if_pos ⟨rfl,hi⟩,if_pos (by omega),show p-p/b*b=p%b by omega]
 ·rw[if_neg (fun h=>e h.1),if_neg]
  rintro ⟨h1,h2⟩
  refine e ?_
  have h3:=(Nat.le_div_iff_mul_le hb).2 h1
  have h4:p/b<i+1:=(Nat.div_lt_iff_lt_mul hb).2 (by rw[Nat.add_mul,Nat.one_mul]; exact h2)
  omega
def put1 (ws:List Nat) (wd q r v:Nat):List Nat:=ws.set q (layN (ws.getD q 0) ((2^wd-1)*2^r%18446744073709551616) (v*2^r%18446744073709551616))
def put2 (ws:List Nat) (wd q r v:Nat):List Nat:=(put1 ws wd q r v).set (q+1) (layN (ws.getD (q+1) 0) ((2^wd-1)/2^(64-r)) (v/2^(64-r)))
theorem put1_len (ws:List Nat) (wd q r v:Nat):(put1 ws wd q r v).length=ws.length:=by unfold put1; rw[List.length_set]
theorem put2_len (ws:List Nat) (wd q r v:Nat):(put2 ws wd q r v).length=ws.length:=by unfold put2; rw[List.length_set,put1_len]
theorem put1_lt (h:∀ k,ws.getD k 0<18446744073709551616) (wd q r v:Nat):∀ k,(put1 ws wd q r v).getD k 0<18446744073709551616:=by
 intro k
 unfold put1
 rw[getD_set]
 split
 ·exact layN_lt (h q) (Nat.mod_lt _ (by omega))
 ·exact h k
theorem put2_lt (h:∀ k,ws.getD k 0<18446744073709551616) {wd q r v:Nat} (hv:v<18446744073709551616):∀ k,(put2 ws wd q r v).getD k 0<18446744073709551616:=by
 intro k
 unfold put2
 rw[getD_set]
 split
 ·exact layN_lt (h _) (Nat.lt_of_le_of_lt (Nat.div_le_self _ _) hv)
 ·exact put1_lt h wd q r v k
theorem put1_dg {q r v:Nat} (hwd:wd≤64) (hr:r<64) (hq:q<ws.length) (hv:v<2^wd) (p:Nat) :
  dg 64 (put1 ws wd q r v) p=if 64*q+r≤p∧p<64*q+r+wd∧p<64*(q+1) then v.testBit (p-(64*q+r)) else dg 64 ws p:=by
 unfold put1
 rw[dg_set (by omega) _ _ _ _ hq]
 by_cases h:q*64≤p∧p<q*64+64
 ·obtain⟨s,rfl⟩:∃ s,p=q*64+s:=⟨p-q*64,by omega⟩
  have hs:s<64:=by omega
  rw[if_pos h,show q*64+s-q*64=s by omega,layN_bit (Nat.mod_lt _ (by omega)) hs,mod64,mod64 (v*2^r),Nat.testBit_mod_two_pow,Nat.testBit_mod_two_pow,Nat.testBit_mul_two_pow,Nat.testBit_mul_two_pow,Nat.testBit_two_pow_sub_one,
   word_bit ws q hs,show q*64+s=64*q+s by omega]
  by_cases h1:r≤s
  ·by_cases h2:s-r<wd
   ·rw[if_pos (by omega),show 64*q+s-(64*q+r)=s-r by omega]
    simp[hs,h1,h2]
   ·rw[if_neg (by omega),fit_bit hv (by omega)]
    simp[h2]
  ·rw[if_neg (by omega)]
   simp[h1]
 ·rw[if_neg h,if_neg (by omega)]
theorem put2_dg {q r v:Nat} (hwd:wd≤64) (hr:r<64) (hrw:64<r+wd) (hq:q+1<ws.length) (hv:v<2^wd) (p:Nat) :
  dg 64 (put2 ws wd q r v) p=if 64*q+r≤p∧p<64*q+r+wd then v.testBit (p-(64*q+r)) else dg 64 ws p:=by
 unfold put2
 rw[dg_set (by omega) _ _ _ _ (by rw[put1_len]; exact hq),put1_dg hwd hr (by omega) hv]
 by_cases h:(q+1)*64≤p∧p<(q+1)*64+64
 ·obtain⟨s,rfl⟩:∃ s,p=(q+1)*64+s:=⟨p-(q+1)*64,by omega⟩
  have hs:s<64:=by omega
  have hm:(2^wd-1)/2^(64-r)<18446744073709551616:=by
   refine Nat.lt_of_le_of_lt (Nat.div_le_self _ _) ?_
   have:2^wd≤2^64:=Nat.pow_le_pow_right (by omega) hwd
   have:0<2^wd:=Nat.pow_pos (by omega)
   omega
  rw[if_pos h,show (q+1)*64+s-(q+1)*64=s by omega,layN_bit hm hs,Nat.testBit_div_two_pow,Nat.testBit_div_two_pow,Nat.testBit_two_pow_sub_one,word_bit ws (q+1) hs,show (q+1)*64+s=64*(q+1)+s by omega]
  by_cases h2:s+(64-r)<wd
  ·rw[if_pos (by omega),show 64*(q+1)+s-(64*q+r)=s+(64-r) by omega]
   simp[h2]
  ·rw[if_neg (by omega),fit_bit hv (by omega)]
   simp[h2]
 ·rw[if_neg h]
  by_cases h3:64*q+r≤p∧p<64*q+r+wd
  ·rw[if_pos (by omega),if_pos h3]
  ·rw[if_neg (by omega),if_neg h3]
theorem fit_set {l:List Nat} {i v wd:Nat} (h:∀ k,l.getD k 0<2^wd) (hv:v<2^wd):∀ k,(l.set i v).getD k 0<2^wd:=by
 intro k
 rw[getD_set]
 split
 ·exact hv
 ·exact h k
theorem words_in (h:Pk ws wd l) {i q r:Nat} (hi:i<l.length) (hq:i*wd=64*q+r) (hr:r<64):q<ws.length∧(64<r+wd→q+1<ws.length):=by
 have h1:=h.len
 have h2:=h.lo
 have h3:(i+1)*wd≤wd*l.length:=by rw[Nat.mul_comm wd]; exact Nat.mul_le_mul_right _ hi
 rw[Nat.add_mul] at h3
 omega
theorem pk_put1 (h:Pk ws wd l) {i q r v:Nat} (hi:i<l.length) (hq:i*wd=64*q+r) (hr:r+wd≤64) (hv:v<2^wd):Pk (put1 ws wd q r v) wd (l.set i v):=by
 have h2:=h.lo
 refine⟨h.lo,h.hi,by rw[put1_len,List.length_set]; exact h.len,put1_lt h.lt _ _ _ _,fit_set h.fit hv,fun p=>?_⟩
 rw[put1_dg h.hi (by omega) (words_in h hi hq (by omega)).1 hv,dg_set (by omega) _ _ _ _ hi,hq,h.dig]
 by_cases h1:64*q+r≤p∧p<64*q+r+wd
 ·rw[if_pos (by omega),if_pos h1]
 ·rw[if_neg (by omega),if_neg h1]
theorem pk_put2 (h:Pk ws wd l) {i q r v:Nat} (hi:i<l.length) (hq:i*wd=64*q+r) (hr64:r<64) (hr:64<r+wd) (hv:v<2^wd):Pk (put2 ws wd q r v) wd (l.set i v):=by
 have h2:=h.lo
 have hv64:v<18446744073709551616:=Nat.lt_of_lt_of_le hv (Nat.pow_le_pow_right (n:=2) (j:=64) (by omega) h.hi)
 refine⟨h.lo,h.hi,by rw[put2_len,List.length_set]; exact h.len,put2_lt h.lt hv64,fit_set h.fit hv,fun p=>?_⟩
 rw[put2_dg h.hi hr64 hr ((words_in h hi hq hr64).2 hr) hv,dg_set (by omega) _ _ _ _ hi,hq,h.dig]
theorem getD_rep (n k:Nat):(List.replicate n 0).getD k 0=0:=by
 rw[List.getD_eq_getElem?_getD,List.getElem?_replicate]
 split <;> rfl
theorem dg_rep (b n p:Nat):dg b (List.replicate n 0) p=false:=by
 unfold dg
 rw[getD_rep,Nat.zero_testBit]
theorem pk_blank {wd:Nat} (n:Nat) (h1:1≤wd) (h2:wd≤64):Pk (List.replicate ((wd*n+63)/64) 0) wd (List.replicate n 0) :=
 ⟨h1,h2,by rw[List.length_replicate,List.length_replicate],fun k=>by rw[getD_rep]; omega,fun k=>by rw[getD_rep]; exact Nat.pow_pos (by omega),fun p=>by rw[dg_rep,dg_rep]⟩
end
theorem great {wd:Nat} (h:wd≤64):18446744073709551615/2^(64-wd)=2^wd-1:=by
 have h1:2^wd*2^(64-wd)=18446744073709551616:=by rw[←Nat.pow_add,show wd+(64-wd)=64 by omega]
 have h2:0<2^(64-wd):=Nat.pow_pos (by omega)
 have h3:0<2^wd:=Nat.pow_pos (by omega)
 generalize 2^(64-wd)=b at *
 generalize 2^wd=a at *
 rw[Nat.div_eq_iff h2]
 obtain⟨c,rfl⟩:∃ c,a=c+1:=⟨a-1,by omega⟩
 rw[Nat.add_mul,Nat.one_mul] at h1
 rw[Nat.add_sub_cancel]
 omega
theorem great_lt {wd:Nat} (h:wd≤64):2^wd-1<18446744073709551616:=by
 have:2^wd≤2^64:=Nat.pow_le_pow_right (by omega) h
 have:0<2^wd:=Nat.pow_pos (by omega)
 omega
theorem pow_le64 {wd:Nat} (h:wd≤64):2^wd≤18446744073709551616:=Nat.pow_le_pow_right (n:=2) (j:=64) (by omega) h
theorem bits_lay (x m d:Nat) (hx:x<18446744073709551616) (hm:m<18446744073709551616) (hd:d<18446744073709551616) :
  bits .or .u64 (bits .andNot .u64 (x:Int) (m:Int)) (d:Int)=(layN x m d:Nat):=by
 have h1:(BitVec.ofInt 64 (x:Int)).toNat=x:=by rw[BitVec.ofInt_natCast,BitVec.toNat_ofNat]; exact Nat.mod_eq_of_lt (by omega)
 have h2:(BitVec.ofInt 64 (m:Int)).toNat=m:=by rw[BitVec.ofInt_natCast,BitVec.toNat_ofNat]; exact Nat.mod_eq_of_lt (by omega)
 have e:bits .andNot .u64 (x:Int) (m:Int)=((x &&& (18446744073709551615-m):Nat):Int):=by
  show IntKind.u64.wrap ((BitVec.ofInt 64 (x:Int) &&& ~~~BitVec.ofInt 64 (m:Int)).toNat:Int)=_
  have hx2:x &&& (18446744073709551615-m)<18446744073709551616:=Nat.lt_of_le_of_lt Nat.and_le_left hx
  rw[BitVec.toNat_and,BitVec.toNat_not,h1,h2,IntKind.wrap_u64]
  have:2^64-1-m=18446744073709551615-m:=by omega
  rw[this]
  omega
 rw[e,bits_or_u64_nat _ _ (Nat.lt_of_le_of_lt Nat.and_le_left hx) hd]
 rfl
structure Wid (v:List Nat) (w:Nat):Prop where
 lo:1≤w
 hi:w≤64
 iff:∀ k,1≤k→((∀ x∈v,x<2^k)↔w≤k)
theorem Wid.fit {v:List Nat} {w:Nat} (h:Wid v w):∀ k,v.getD k 0<2^w:=by
 intro k
 rw[List.getD_eq_getElem?_getD]
 rcases Nat.lt_or_ge k v.length with h1 | h1
 ·rw[List.getElem?_eq_getElem h1]
  exact (h.iff w h.lo).2 (Nat.le_refl _) _ (List.getElem_mem h1)
 ·rw[List.getElem?_eq_none h1]
  exact Nat.pow_pos (by omega)
theorem bitLen_le:∀ f x k,x<2^f→(Lib.bitLenAux f x≤k↔x<2^k)
 | 0,x,k,h=>by
  have:0<2^k:=Nat.pow_pos (by omega)
  simp[Lib.bitLenAux] at h ⊢
  omega
 | f+1,x,k,h=>by
  have hk:0<2^k:=Nat.pow_pos (by omega)
  unfold Lib.bitLenAux
  by_cases h0:x=0
  ·rw[if_pos h0]
   omega
  ·rw[if_neg h0]
   rw[Nat.pow_succ] at h
   rcases k with _ | k
   ·simp
    omega
   ·have:=bitLen_le f (x/2) k (by omega)
    rw[Nat.pow_succ]
    omega
theorem or_lt_iff (a b k:Nat):a ||| b<2^k↔a<2^k∧b<2^k :=
 ⟨fun h=>⟨Nat.lt_of_le_of_lt Nat.left_le_or h,Nat.lt_of_le_of_lt Nat.right_le_or h⟩,fun h=>Nat.or_lt_two_pow h.1 h.2⟩
def allOr (v:List Nat):Nat:=v.foldl (· ||| ·) 0
theorem allOr_next {v:List Nat} {k x:Nat} (h:v[k]? = some x):allOr (v.take (k+1))=allOr (v.take k) ||| x:=by
 unfold allOr
 rw[List.take_add_one,h,List.foldl_append]
 rfl
theorem foldl_lt (v:List Nat) (a k:Nat):v.foldl (· ||| ·) a<2^k↔a<2^k∧∀ x∈v,x<2^k:=by
 induction v generalizing a with
 | nil=>simp
 | cons y v ih =>
  rw[List.foldl_cons,ih,or_lt_iff]
  simp only[List.mem_cons,forall_eq_or_imp]
  exact and_assoc
theorem allOr_lt (v:List Nat) (k:Nat):allOr v<2^k↔∀ x∈v,x<2^k:=by
 unfold allOr
 rw[foldl_lt]
 have:0<2^k:=Nat.pow_pos (by omega)
 simp[this]
def widN (v:List Nat):Nat:=max (Lib.bitLen (allOr v)) 1
theorem wid_is {v:List Nat} (h:∀ x∈v,x<18446744073709551616):Wid v (widN v):=by
 have ha:allOr v<2^64:=(allOr_lt v 64).2 h
 have hb:∀ k,Lib.bitLen (allOr v)≤k↔∀ x∈v,x<2^k:=fun k=>(bitLen_le 64 _ k ha).trans (allOr_lt v k)
 have h64:=(hb 64).2 h
 unfold widN
 refine⟨by omega,by omega,fun k hk=>?_⟩
 rw[←hb k]
 omega
end Go.Pk
