/- Lemmas and contracts of this proof. Conditions: said at each. -/
import Derived.Test.YtambgjpfoceieaaGreatDoorGPkRaw
import Derived.Test.YtambgjpfoceieaaGreatDoorPkLen
set_option maxHeartbeats 1000000
namespace Go.Proofs.YtambgjpfoceieaaGreatDoor.K
open Go.RowKit Go.Oct Go.Pk
theorem len64_is (x b:Nat) (w:World) (hx:x<18446744073709551616) (hb:Lib.bitLen x=b) :
  Calls Tryz.prog 146 #[.int .u64 x] w fun e w'=>e = .returned (.int .i64 b)∧w=w':=by
 subst hb
 have h:=len64_int (x:Int) w (by omega) (by omega)
 rwa[Int.toNat_natCast] at h
theorem getD_some {l:List Nat} {k:Nat} (h:k<l.length):l[k]? = some (l.getD k 0):=by
 rw[List.getD_eq_getElem?_getD,List.getElem?_eq_getElem h]
 rfl
theorem allOr_64 {l:List Nat} (h:∀ x∈l,x<18446744073709551616):allOr l<18446744073709551616:=(allOr_lt l 64).2 h
theorem take_64 {l:List Nat} (h:∀ x∈l,x<18446744073709551616) (k:Nat):∀ x∈l.take k,x<18446744073709551616:=fun x hx=>h x (List.mem_of_mem_take hx)
theorem getD_64 {l:List Nat} (h:∀ x∈l,x<18446744073709551616) (k:Nat):l.getD k 0<18446744073709551616:=by
 rw[List.getD_eq_getElem?_getD]
 rcases Nat.lt_or_ge k l.length with h1 | h1
 ·rw[List.getElem?_eq_getElem h1]
  exact h _ (List.getElem_mem h1)
 ·rw[List.getElem?_eq_none h1]
  decide
theorem widest_any (l:List Nat) (A:Option Addr) (c:Nat) (w:World) (F:Nat→Prop) (hs:Sn w F A l) (hl:l.length≤1048576) (h64:∀ x∈l,x<18446744073709551616) :
  Calls Tryz.prog 239 #[.slice A l.length c] w fun e w'=>e = .returned (.int .i64 (widN l:Nat))∧w=w':=by
 have HS:=Bx.mk hs
 have H64:=Bx.mk h64
 clear hs h64
 go_enter Tryz.func239,Tryz.ntmps239
 go_wp2
 go_loop [3,5,8] (fun x _ y=>∃ k q:Nat,k≤l.length∧y = .int .i64 k∧x = .int .u64 q∧allOr (l.take k)=q) (fun _ _ y=>l.length-(intOf y).toNat)
 case atStart=>exact⟨0,0,Nat.zero_le _,rfl,rfl,rfl⟩
 case round =>
  obtain⟨k,q,hk,rfl,rfl,hq⟩:=hrel
  have hq64:q<18446744073709551616:=by rw[←hq]; exact allOr_64 (take_64 H64.out k)
  by_cases h1:k<l.length
  ·obtain⟨b,off,rfl,_,hc⟩:=Sn.at_ HS.out h1
   have hx:=getD_some h1
   have hx64:=getD_64 H64.out k
   have hn:=allOr_next hx
   rw[hq] at hn
   generalize l.getD k 0=x at *
   obtain⟨o,ho⟩:∃ o,q ||| x=o:=⟨_,rfl⟩
   rw[ho] at hn
   have hor:=or_nat ho hq64 hx64
   have HN:=Bx.mk hn
   clear hq hx hn ho
   go_wp2
   go_round
   case rel=>exact⟨k+1,o,by omega,by go_num,rfl,HN.out⟩
   case measure=>simp[intOf]; omega
  ·rw[List.take_of_length_le (by omega)] at hq
   obtain⟨m,hm⟩:∃ m,Lib.bitLen q=m:=⟨_,rfl⟩
   have hm64:m≤64:=by rw[←hm]; exact (bitLen_le 64 q 64 hq64).2 hq64
   have hwid:widN l=max m 1:=by unfold widN; rw[hq,hm]
   have HM:=Bx.mk hm
   have HW:=Bx.mk hwid
   clear hq hm hwid
   go_wp2_with fail
   refine (len64_is q m _ hq64 HM.out).mono ?_
   rintro e w' ⟨rfl,rfl⟩
   go_wp2
   go_ret
   exact⟨ret_int (by rw[HW.out]; omega),rfl⟩
def upL (l:List Nat) (k:Nat):List Nat:=l.take k++List.replicate (l.length-k) 0
theorem upL_zero (l:List Nat):upL l 0=List.replicate l.length 0:=by simp[upL]
theorem upL_all (l:List Nat):upL l l.length=l:=by simp[upL]
theorem upL_len {l:List Nat} {k:Nat} (h:k≤l.length):(upL l k).length=l.length:=by
 simp[upL]
 omega
theorem upL_next {l:List Nat} {k x:Nat} (h:l[k]? = some x):(upL l k).set k x=upL l (k+1):=by
 obtain⟨hk,hx⟩:=List.getElem?_eq_some_iff.1 h
 unfold upL
 have e:l.length-k=(l.length-(k+1))+1:=by omega
 rw[e,List.replicate_succ,List.set_append,if_neg (by simp; omega),List.take_add_one,h]
 have e2:k-(l.take k).length=0:=by rw[List.length_take]; omega
 rw[e2]
 simp
theorem blank_is (wd n:Nat) (wI nI:Int) (w:World) (h1:1≤wd) (h2:wd≤64) (hn:n≤1048576) (e1:wI=wd) (e2:nI=n) :
  Calls Tryz.prog 238 #[.int .i64 wI, .int .i64 nI] w fun e w'=>e = .returned (.pointer (some ⟨w.heap.size+1,0,none⟩))∧Raw w' (w.heap.size+1) w.heap.size wd n (List.replicate (need wd n) 0)∧Ch (fun _=>False) w w':=by
 subst e1 e2
 exact blank_any wd n w h1 h2 hn
def Made (wd:Nat) (l:List Nat) (w:World) (e:Ending) (w':World):Prop:=e = .returned (.pointer (some ⟨w.heap.size+1,0,none⟩))∧(∃ ws,Raw w' (w.heap.size+1) w.heap.size wd l.length ws∧Pk ws wd l)∧Ch (fun _=>False) w w'
theorem pack_any (l:List Nat) (A:Option Addr) (c:Nat) (w:World) (F:Nat→Prop) (hs:Sn w F A l) (hl:l.length≤1048576) (hc:l.length≤c) (h64:∀ x∈l,x<18446744073709551616) :
  Calls Tryz.prog 215 #[.slice A l.length c] w (Made (widN l) l w):=by
 have hwid:=wid_is h64
 have hlo:=hwid.lo
 have hhi:=hwid.hi
 have HF:=Bx.mk hwid.fit
 have HS:=Bx.mk hs
 have H64:=Bx.mk h64
 have HWID:Bx (widN l=widN l):=⟨rfl⟩
 generalize hw:widN l=wd at *
 have HW:=Bx.mk hw
 have hmin:min (l.length:Int) 1048576=l.length:=by omega
 clear hs h64 hw hwid HWID
 go_enter Tryz.func215,Tryz.ntmps215
 go_wp2_with fail
 refine (widest_any l A c _ F HS.out hl H64.out).mono ?_
 rintro e w' ⟨he,rfl⟩
 rw[HW.out] at he
 subst he
 go_wp2_with fail
 refine (blank_is wd l.length _ _ _ hlo hhi hl rfl rfl).mono ?_
 rintro e w1 ⟨rfl,hr,hC⟩
 have HR:=Bx.mk hr
 have HC:=Bx.mk hC
 clear hr hC
 go_wp2
 go_loopw [4,5,18] (fun _ _ i wr=>∃ (k:Nat) (ws:List Nat),k≤l.length∧i = .int .i64 k∧Raw wr (w.heap.size+1) w.heap.size wd l.length ws∧Pk ws wd (upL l k)∧Ch (fun _=>False) w wr) (fun _ _ i _=>l.length-(intOf i).toNat)
 case atStart=>exact⟨0,_,Nat.zero_le _,rfl,HR.out,by rw[upL_zero]; exact pk_blank l.length hlo hhi,HC.out⟩
 case round =>
  obtain⟨k,ws,hk,rfl,hr,hp,hC⟩:=hrel
  by_cases hlt:k<l.length
  ·obtain⟨b,off,rfl,_,hcx⟩:=Sn.at_ (Sl.ch HS.out hC (fun _ _ _ h=>h)) hlt
   have hx:=getD_some hlt
   have hxw:=HF.out k
   have hn:=upL_next hx
   have hul:=upL_len hk
   have hul2:=getD_64 H64.out k
   generalize l.getD k 0=x at *
   have HRR:=Bx.mk hr
   have HP:=Bx.mk hp
   have HCC:=Bx.mk hC
   have HN:=Bx.mk hn
   have HXW:=Bx.mk hxw
   have HUL:=Bx.mk hul
   clear hr hp hC hn hx hxw hul
   go_wp2_with fail
   refine (put_any _ _ wd l.length ws _ k x _ HRR.out HP.out HUL.out hlt HXW.out).mono ?_
   rintro e w2 ⟨rfl,⟨ws2,hr2,hp2⟩,hC2⟩
   rw[HN.out] at hp2
   have HR2:=Bx.mk hr2
   have HP2:=Bx.mk hp2
   have HC2:=Bx.mk (HCC.out.trans hC2 (fun i hi (e:i=w.heap.size)=>absurd hi (by omega)))
   clear hr2 hp2 hC2
   go_wp2
   go_roundw
   case rel=>exact⟨k+1,ws2,by omega,by go_num,HR2.out,HP2.out,HC2.out⟩
   case measure=>simp[intOf]; omega
  ·obtain rfl:k=l.length:=by omega
   rw[upL_all] at hp
   have HP:=Bx.mk hp
   have HC1:=Bx.mk hC
   have HRR:=Bx.mk hr
   clear hp hC hr
   go_wp2
   go_ret
   exact⟨rfl,⟨ws,HRR.out,HP.out⟩,HC1.out⟩
end Go.Proofs.YtambgjpfoceieaaGreatDoor.K
