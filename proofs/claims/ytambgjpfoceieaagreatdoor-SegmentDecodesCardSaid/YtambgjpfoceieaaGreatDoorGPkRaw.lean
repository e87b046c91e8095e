/- Lemmas and contracts of this proof. Conditions: said at each. -/
import Derived.Test.YtambgjpfoceieaaGreatDoorPkMath
import Derived.Deep.QuietTactic
import Derived.BigQuiet
import Derived.Outline
import Derived.RegionTactic
import Derived.ChangeAlike
import Derived.StillTailTactics
import Derived.Laws.CopyOwn
set_option maxHeartbeats 2000000
set_option maxRecDepth 100000
namespace Go.Proofs.YtambgjpfoceieaaGreatDoor.K
section
open Go.RowKit Go.Oct Go.Pk
structure Bx (p:Prop):Prop where
 out:p
theorem ret_int {k:IntKind} {a b:Int} (h:a=b):Ending.returned (.int k a) = .returned (.int k b):=by rw[h]
theorem ret_two {k m:IntKind} {a b c d:Int} (h:a=b) (h':c=d):Ending.returned (.tuple #[.int k a, .int m c]) = .returned (.tuple #[.int k b, .int m d]):=by rw[h,h']
theorem div_cast (x r:Nat):((x/2^r:Nat):Int)=(x:Int)/2^r:=by
 rw[Int.natCast_ediv,Int.natCast_pow]
 rfl
theorem and_nat {a b c:Nat} (h:a &&& b=c) (ha:a<18446744073709551616) (hb:b<18446744073709551616):bits .and .u64 (a:Int) (b:Int)=(c:Int):=by rw[bits_and_u64_nat a b ha hb,h]
theorem or_nat {a b c:Nat} (h:a ||| b=c) (ha:a<18446744073709551616) (hb:b<18446744073709551616):bits .or .u64 (a:Int) (b:Int)=(c:Int):=by rw[bits_or_u64_nat a b ha hb,h]
theorem wrap_nat (a:Nat):IntKind.u64.wrap (a:Int)=((a%18446744073709551616:Nat):Int):=by rw[IntKind.wrap_u64]; omega
theorem shl_nat (x r:Nat):IntKind.u64.wrap ((x:Int)*2^r)=((x*2^r%18446744073709551616:Nat):Int):=(congrArg IntKind.u64.wrap (by push_cast; rfl)).trans (wrap_nat _)
abbrev Sn (w:World) (F:Nat→Prop) (A:Option Addr) (xs:List Nat):Prop:=Sl w F .u64 A xs.length (xs.map fun x:Nat=>(x:Int))
theorem Sn.at_ {w:World} {F:Nat→Prop} {A:Option Addr} {xs:List Nat} (h:Sn w F A xs) {k:Nat} (hk:k<xs.length):∃ b off,A=some ⟨b,off,none⟩∧F b∧w.cell? ⟨b,off+k,none⟩=some (.int .u64 (xs.getD k 0:Nat)):=by
 obtain⟨b,off,x,e,hb,hx,hc⟩:=Sl.at_ h hk
 refine⟨b,off,e,hb,?_⟩
 have:=hx.out
 rw[List.getElem?_map,List.getElem?_eq_getElem hk] at this
 rw[hc,List.getD_eq_getElem?_getD,List.getElem?_eq_getElem hk]
 simp at this
 simp[this]
structure Raw (w:World) (bv bw wd n:Nat) (ws:List Nat):Prop where
 blk:w.heap[bv]? = some (.cells #[.int .i64 wd, .int .i64 n, .slice (some ⟨bw,0,none⟩) ws.length ws.length] 213 (0,0))
 own:w.ownsRow 0 163 1 (.slice (some ⟨bw,0,none⟩) ws.length ws.length) ws.length (ws.map fun x:Nat=>Value.int .u64 x)
 ne:bv≠bw
 lo:1≤wd
 hi:wd≤64
 most:n≤1048576
 len:ws.length=(wd*n+63)/64
 lt:∀ k,ws.getD k 0<18446744073709551616
theorem cells3 {w:World} {b:Nat} {u v x:Value} {t:TypeId} (h:w.heap[b]? = some (.cells #[u,v,x] t (0,0))) :
  w.cell? ⟨b,0,none⟩=some u∧w.cell? ⟨b,1,none⟩=some v∧w.cell? ⟨b,2,none⟩=some x:=by
 simp[World.cell?,h]
theorem Raw.ch {w w':World} {S:Nat→Prop} {bv bw wd n:Nat} {ws:List Nat} (h:Raw w bv bw wd n ws) (hc:Ch S w w') (h1:¬ S bv) (h2:¬ S bw):Raw w' bv bw wd n ws :=
 ⟨by rw[hc.block bv (Array.getElem?_eq_some_iff.1 h.blk).1 h1]; exact h.blk,hc.own h.own (fun g hg=>by simp[Value.ownBlock] at hg; subst hg; exact h2),h.ne,h.lo,h.hi,h.most,h.len,h.lt⟩
theorem Raw.keep {w w':World} {bv bw wd n:Nat} {ws:List Nat} (h:Raw w bv bw wd n ws) (hc:Ch (fun _=>False) w w'):Raw w' bv bw wd n ws:=h.ch hc (fun h=>h) (fun h=>h)
theorem Raw.drewN {w:World} {bv bw wd n:Nat} {ws:List Nat} (h:Raw w bv bw wd n ws) (m:Nat):Raw (w.drewN m) bv bw wd n ws:=h.keep ((Ch.refl (fun _=>False) w).drewN m)
theorem Raw.cellAt {w:World} {bv bw wd n:Nat} {ws:List Nat} (h:Raw w bv bw wd n ws) {j:Nat} (hj:j<ws.length):w.cell? ⟨bw,j,none⟩=some (.int .u64 (ws.getD j 0:Nat)):=by
 have:=h.own.cellAt j (by omega)
 rw[List.getElem?_map,List.getElem?_eq_getElem hj] at this
 rw[this,List.getD_eq_getElem?_getD,List.getElem?_eq_getElem hj]
 rfl
theorem Raw.frozenAt {w:World} {bv bw wd n:Nat} {ws:List Nat} (h:Raw w bv bw wd n ws) (j:Nat):w.frozen? ⟨bw,j,none⟩=false:=h.own.frozenAt j
theorem Raw.lts {w:World} {bv bw wd n:Nat} {ws:List Nat} (h:Raw w bv bw wd n ws):bv<w.heap.size∧bw<w.heap.size:=⟨(Array.getElem?_eq_some_iff.1 h.blk).1,(h.own.lt bw rfl).2⟩
theorem Raw.stored {w:World} {bv bw wd n:Nat} {ws:List Nat} (h:Raw w bv bw wd n ws) (j x:Nat) (hx:x<18446744073709551616):Raw (w.setCell ⟨bw,j,none⟩ (.int .u64 x)) bv bw wd n (ws.set j x)∧Ch (fun k=>k=bw) w (w.setCell ⟨bw,j,none⟩ (.int .u64 x)):=by
 have hC:Ch (fun k=>k=bw) w (w.setCell ⟨bw,j,none⟩ (.int .u64 x)):=(Ch.refl (fun k=>k=bw) w).setCell (p:=⟨bw,j,none⟩) (.inl rfl) _
 obtain⟨ho,_⟩:=h.own.stored j (.int .u64 x)
 refine⟨⟨?_,?_,h.ne,h.lo,h.hi,h.most,by rw[List.length_set]; exact h.len,fun k=>?_⟩,hC⟩
 ·rw[List.length_set,hC.block bv (Array.getElem?_eq_some_iff.1 h.blk).1 h.ne]
  exact h.blk
 ·rw[List.length_set,List.map_set]
  exact ho
 ·rw[getD_set]
  split
  ·exact hx
  ·exact h.lt k
section
variable (bv bw wd n:Nat) (ws:List Nat)
theorem len_any (w:World) (h:Raw w bv bw wd n ws):Calls Tryz.prog 133 #[.pointer (some ⟨bv,0,none⟩)] w fun e w'=>e = .returned (.int .i64 n)∧w=w':=by
 obtain⟨h0,h1,h2⟩:=cells3 h.blk
 have H:=Bx.mk h
 clear h
 go_enter Tryz.func133,Tryz.ntmps133
 go_wp2
 go_ret
 exact⟨rfl,rfl⟩
theorem has_in (i:Nat) (w:World) (h:Raw w bv bw wd n ws) (hi:i<n):Calls Tryz.prog 183 #[.pointer (some ⟨bv,0,none⟩), .int .i64 i] w fun e w'=>e = .returned (.bool true)∧w=w':=by
 have H:=Bx.mk h
 clear h
 go_enter Tryz.func183,Tryz.ntmps183
 go_wp2_with (go_at_call 133; refine (len_any bv bw wd n ws _ H.out).mono ?_; rintro e w' ⟨rfl,rfl⟩)
 go_ret
 exact⟨rfl,rfl⟩
theorem prod_in {i wd n:Nat} (hi:i<n) (hn:n≤1048576) (hw:wd≤64):(i:Int)*(wd:Int)=((i*wd:Nat):Int)∧i*wd≤67108864:=by
 refine⟨by push_cast; rfl,?_⟩
 calc i*wd≤1048576*64:=Nat.mul_le_mul (by omega) hw
  _=67108864:=rfl
theorem place_any (i q r:Nat) (w:World) (h:Raw w bv bw wd n ws) (hi:i<n) (hq:i*wd=64*q+r) (hr:r<64) :
  Calls Tryz.prog 184 #[.pointer (some ⟨bv,0,none⟩), .int .i64 i] w fun e w'=>e = .returned (.tuple #[.int .i64 q, .int .i64 r])∧w=w':=by
 obtain⟨h0,h1,h2⟩:=cells3 h.blk
 obtain⟨e1,e2⟩:=prod_in hi h.most h.hi
 rw[hq] at e1 e2
 have H:=Bx.mk h
 have HQ:=Bx.mk hq
 clear h hq
 go_enter Tryz.func184,Tryz.ntmps184
 go_wp2
 go_returns
 exact⟨ret_two (by omega) (by omega),rfl⟩
theorem greatest_any (w:World) (h:Raw w bv bw wd n ws):Calls Tryz.prog 185 #[.pointer (some ⟨bv,0,none⟩)] w fun e w'=>e = .returned (.int .u64 (2^wd-1:Nat))∧w=w':=by
 obtain⟨h0,h1,h2⟩:=cells3 h.blk
 have hg:=great h.hi
 have hhi:=h.hi
 have hlo:=h.lo
 have H:=Bx.mk h
 have HG:=Bx.mk hg
 clear h hg
 go_enter Tryz.func185,Tryz.ntmps185
 go_wp2
 go_ret
 exact⟨ret_int (by rw[←HG.out,div_cast]; rfl),rfl⟩
theorem greatest_is (g:Nat) (w:World) (h:Raw w bv bw wd n ws) (hg:2^wd-1=g):Calls Tryz.prog 185 #[.pointer (some ⟨bv,0,none⟩)] w fun e w'=>e = .returned (.int .u64 g)∧w=w':=by
 subst hg
 exact greatest_any bv bw wd n ws w h
theorem get_in (l:List Nat) (i:Nat) (w:World) (h:Raw w bv bw wd n ws) (hp:Pk ws wd l) (hl:l.length=n) (hi:i<n) :
  Calls Tryz.prog 129 #[.pointer (some ⟨bv,0,none⟩), .int .i64 i] w fun e w'=>e = .returned (.int .u64 (l.getD i 0:Nat))∧w=w':=by
 obtain⟨h0,h1,h2⟩:=cells3 h.blk
 obtain⟨q,r,hq,hr⟩:∃ q r,i*wd=64*q+r∧r<64:=⟨i*wd/64,i*wd%64,by omega,by omega⟩
 obtain⟨hq1,hq2⟩:=words_in hp (by omega) hq hr
 have hc1:=h.cellAt hq1
 have hx:=h.lt q
 have hwd:=h.hi
 have hlo:=h.lo
 have hlen:ws.length≤1048576:=by
  have h3:=h.len
  have h4:wd*n≤64*1048576:=Nat.mul_le_mul h.hi h.most
  omega
 have hg64:=great_lt h.hi
 have H:=Bx.mk h
 have HQ:=Bx.mk hq
 by_cases hrw:r+wd≤64
 ·have hv:=get_one hp hq hrw
  generalize ws.getD q 0=x at *
  generalize l.getD i 0=v at *
  obtain⟨g,hg⟩:∃ g,2^wd-1=g:=⟨_,rfl⟩
  rw[hg] at hv hg64
  have HG:=Bx.mk hg
  have hand:=and_nat hv (Nat.lt_of_le_of_lt (Nat.div_le_self _ _) hx) hg64
  rw[div_cast] at hand
  have HA:=Bx.mk hand
  clear h hp hq hv hg hand hq2
  go_enter Tryz.func129,Tryz.ntmps129
  go_wp2_with (first | (go_at_call 183; refine (has_in bv bw wd n ws i _ H.out hi).mono ?_; rintro e w' ⟨rfl,rfl⟩) | (go_at_call 184; refine (place_any bv bw wd n ws i q r _ H.out hi HQ.out hr).mono ?_; rintro e w' ⟨rfl,rfl⟩) | (go_at_call 185; refine (greatest_is bv bw wd n ws g _ H.out HG.out).mono ?_; rintro e w' ⟨rfl,rfl⟩))
  go_ret
  exact⟨ret_int HA.out,rfl⟩
 ·have hv:=get_two hp hq hr (by omega)
  have hc2:=h.cellAt (hq2 (by omega))
  have hy:=h.lt (q+1)
  have hq3:=hq2 (by omega)
  generalize ws.getD q 0=x at *
  generalize ws.getD (q+1) 0=y at *
  generalize l.getD i 0=v at *
  obtain⟨g,hg⟩:∃ g,2^wd-1=g:=⟨_,rfl⟩
  rw[hg] at hv hg64
  have HG:=Bx.mk hg
  have hz64:y*2^(64-r)%18446744073709551616<18446744073709551616:=Nat.mod_lt _ (by omega)
  have hu64:x/2^r<18446744073709551616:=Nat.lt_of_le_of_lt (Nat.div_le_self _ _) hx
  have hshl:=shl_nat y (64-r)
  obtain⟨z,hz⟩:∃ z,y*2^(64-r)%18446744073709551616=z:=⟨_,rfl⟩
  rw[hz] at hv hz64 hshl
  obtain⟨o,ho⟩:∃ o,x/2^r ||| z=o:=⟨_,rfl⟩
  have ho64:o<18446744073709551616:=by rw[←ho]; exact Nat.or_lt_two_pow (n:=64) hu64 hz64
  rw[ho] at hv
  have hor:=or_nat ho hu64 hz64
  rw[div_cast] at hor
  have HA:=Bx.mk (and_nat hv ho64 hg64)
  have HO:=Bx.mk hor
  have HS:=Bx.mk hshl
  clear h hp hq hv hg hz ho hor hshl hq2
  go_enter Tryz.func129,Tryz.ntmps129
  go_wp2_with (first | (go_at_call 183; refine (has_in bv bw wd n ws i _ H.out hi).mono ?_; rintro e w' ⟨rfl,rfl⟩) | (go_at_call 184; refine (place_any bv bw wd n ws i q r _ H.out hi HQ.out hr).mono ?_; rintro e w' ⟨rfl,rfl⟩) | (go_at_call 185; refine (greatest_is bv bw wd n ws g _ H.out HG.out).mono ?_; rintro e w' ⟨rfl,rfl⟩))
  go_ret
  exact⟨ret_int (by rw[HS.out,HO.out,HA.out]),rfl⟩
end
end
section
open Go.RowKit Go.Oct Go.Pk
theorem elem64:Elem Tryz.prog 172 163 (.int .u64 0) 8:=⟨Tryz.underlying172,by kernel_rfl,rfl⟩
theorem run_mk2 {P:Program} {t e:TypeId} {z:Value} {bytes:Nat} (T:Elem P t e z bytes) (L:Nat) (hb:bytes*L≤281474976710656) (h63:L≤281474976710656) (w:World) :
  (Instr.makeSlice t (.int .i64 (L:Int)) (.int .i64 (L:Int))).run P w = .ok (.slice (some ⟨w.heap.size,0,none⟩) L L) (w.alloc (.cells (madeCells z.cells L) e)):=by
 obtain⟨i,hi,hz,hs,hby⟩:=info_parts T.info
 have hb':(i.bytes:Int)*(L:Int)≤281474976710656:=by
  rw[hby]
  have h:((bytes*L:Nat):Int)≤281474976710656:=by omega
  rwa[Int.natCast_mul] at h
 have hr:=run_make (P:=P) w t e i z T.t hi hz .i64 .i64 L L (by omega) (by omega) hb' (by omega)
 simp only[Int.toNat_natCast,hs,Nat.mul_one] at hr
 exact hr
theorem made_list (z:Value) (n:Nat):(madeCells #[z] n).toList=List.replicate n z:=by
 apply List.ext_getElem
 ·simp[madeCells]
 ·intro i h1 h2
  simp[madeCells,Nat.mod_one]
def need (wd n:Nat):Nat:=(wd*n+63)/64
theorem need_le {wd n:Nat} (hw:wd≤64) (hn:n≤1048576):need wd n≤1048576∧wd*n≤67108864:=by
 have h4:wd*n≤64*1048576:=Nat.mul_le_mul hw hn
 unfold need
 omega
theorem needed_any (wd n:Nat) (w:World) (hw:wd≤64) (hn:n≤1048576) :
  Calls Tryz.prog 248 #[.int .i64 wd, .int .i64 n] w fun e w'=>e = .returned (.int .i64 (need wd n:Nat))∧w=w':=by
 obtain⟨m,hm⟩:∃ m,wd*n=m:=⟨_,rfl⟩
 have h1:=(need_le hw hn).2
 rw[hm] at h1
 have e1:(wd:Int)*(n:Int)=(m:Int):=by rw[←hm]; push_cast; rfl
 have HM:=Bx.mk hm
 clear hm
 go_enter Tryz.func248,Tryz.ntmps248
 go_wp2
 go_ret
 exact⟨ret_int (by unfold need; rw[HM.out]; omega),rfl⟩
theorem blank_any (wd n:Nat) (w:World) (h1:1≤wd) (h2:wd≤64) (hn:n≤1048576) :
  Calls Tryz.prog 238 #[.int .i64 wd, .int .i64 n] w fun e w'=>e = .returned (.pointer (some ⟨w.heap.size+1,0,none⟩))∧Raw w' (w.heap.size+1) w.heap.size wd n (List.replicate (need wd n) 0)∧Ch (fun _=>False) w w':=by
 have hle:=(need_le h2 hn).1
 have hmk:=run_mk2 elem64 (need wd n) (by omega) (by omega)
 have HD:Bx (need wd n=(wd*n+63)/64):=⟨rfl⟩
 generalize hN:need wd n=N at *
 have HN:=Bx.mk hN
 clear hN
 go_enter Tryz.func238,Tryz.ntmps238
 go_wp2_with fail
 refine (needed_any wd n _ h2 hn).mono ?_
 rintro e w' ⟨he,rfl⟩
 rw[HN.out] at he
 subst he
 go_wp2
 go_ret
 refine⟨rfl,⟨?_,?_,by omega,h1,h2,hn,by rw[List.length_replicate]; exact HD.out,fun k=>by rw[getD_rep]; omega⟩,(((Ch.refl _ w).alloc _).alloc _)⟩
 ·rw[List.length_replicate]
  have:=heap_alloc_new (w.alloc (.cells (madeCells #[.int .u64 0] N) 163)) (.cells #[.int .i64 wd, .int .i64 n, .slice (some ⟨w.heap.size,0,none⟩) N N] 213)
  rwa[World.size_alloc] at this
 ·rw[List.length_replicate]
  have h:=World.ownsRow_lit (base:=0) (e := 163) (size:=1) w (madeCells #[.int .u64 0] N) N (Nat.zero_le _) (by unfold maxLen; omega) (by simp[madeCells])
  have e:(madeCells #[Value.int .u64 0] N).toList=(List.replicate N 0).map fun x:Nat=>Value.int .u64 x:=by rw[made_list]; simp
  rw[e] at h
  exact h.alloc _
theorem lay_is (b j x m d:Nat) (mI dI:Int) (w:World) (hc:w.cell? ⟨b,j,none⟩=some (.int .u64 x)) (hf:w.frozen? ⟨b,j,none⟩=false) (hx:x<18446744073709551616) (hm:m<18446744073709551616) (hd:d<18446744073709551616) (e1:mI=m) (e2:dI=d) :
  Calls Tryz.prog 249 #[.pointer (some ⟨b,j,none⟩), .int .u64 mI, .int .u64 dI] w fun e w'=>e = .returned (.tuple #[])∧w'=w.setCell ⟨b,j,none⟩ (.int .u64 (layN x m d:Nat)):=by
 subst e1 e2
 have HB:=Bx.mk (bits_lay x m d hx hm hd)
 go_enter Tryz.func249,Tryz.ntmps249
 go_wp2
 go_returns
 exact⟨rfl,by rw[HB.out]⟩
def PutPost (bv bw wd n:Nat) (l':List Nat) (w:World) (e:Ending) (w':World):Prop:=e = .returned (.tuple #[])∧(∃ ws',Raw w' bv bw wd n ws'∧Pk ws' wd l')∧Ch (fun k=>k=bw) w w'
theorem Raw.words_short {w:World} {bv bw wd n:Nat} {ws:List Nat} (h:Raw w bv bw wd n ws):ws.length≤1048576:=by
 have h3:=h.len
 have h4:=(need_le h.hi h.most).1
 unfold need at h4
 omega
theorem put_any (bv bw wd n:Nat) (ws l:List Nat) (i v:Nat) (w:World) (h:Raw w bv bw wd n ws) (hp:Pk ws wd l) (hl:l.length=n) (hi:i<n) (hv:v<2^wd) :
  Calls Tryz.prog 240 #[.pointer (some ⟨bv,0,none⟩), .int .i64 i, .int .u64 v] w (PutPost bv bw wd n (l.set i v) w):=by
 obtain⟨h0,h1,h2⟩:=cells3 h.blk
 obtain⟨q,r,hq,hr⟩:∃ q r,i*wd=64*q+r∧r<64:=⟨i*wd/64,i*wd%64,by omega,by omega⟩
 obtain⟨hq1,hq2⟩:=words_in hp (by omega) hq hr
 have hlen:=h.words_short
 have hwd:=h.hi
 have hlo:=h.lo
 have hg64:=great_lt h.hi
 have hv64:v<18446744073709551616:=Nat.lt_of_lt_of_le hv (pow_le64 h.hi)
 have hC0:Ch (fun k=>k=bw) w (w.drewN 1):=(Ch.refl _ w).drewN 1
 have H:=Bx.mk h
 have R1:=Bx.mk (h.drewN 1)
 have hc1:=R1.out.cellAt hq1
 have hf1:=R1.out.frozenAt q
 have hx:=h.lt q
 have HQ:=Bx.mk hq
 have HV:=Bx.mk hv
 have HP:=Bx.mk hp
 have HQ2:=Bx.mk hq2
 have m1:=shl_nat (2^wd-1) r
 have d1:=shl_nat v r
 have s1:=R1.out.stored q (layN (ws.getD q 0) ((2^wd-1)*2^r%18446744073709551616) (v*2^r%18446744073709551616)) (layN_lt (h.lt q) (Nat.mod_lt _ (by omega)))
 have P1:put1 ws wd q r v=ws.set q (layN (ws.getD q 0) ((2^wd-1)*2^r%18446744073709551616) (v*2^r%18446744073709551616)):=rfl
 rw[←P1] at s1
 have hp1:=put1_len ws wd q r v
 have hp1q:(put1 ws wd q r v).getD (q+1) 0=ws.getD (q+1) 0:=by
  rw[P1,getD_set,if_neg (by omega)]
 obtain⟨ws1,hws1⟩:∃ ws1,put1 ws wd q r v=ws1:=⟨_,rfl⟩
 rw[hws1] at s1 hp1 hp1q
 have HW1:=Bx.mk hws1
 have HPQ:=Bx.mk hp1q
 obtain⟨g,hg⟩:∃ g,2^wd-1=g:=⟨_,rfl⟩
 have HG:=Bx.mk hg
 rw[hg] at m1 hg64 s1
 obtain⟨m,hm⟩:∃ m,g*2^r%18446744073709551616=m:=⟨_,rfl⟩
 obtain⟨d,hd⟩:∃ d,v*2^r%18446744073709551616=d:=⟨_,rfl⟩
 have hm64:m<18446744073709551616:=by rw[←hm]; exact Nat.mod_lt _ (by omega)
 have hd64:d<18446744073709551616:=by rw[←hd]; exact Nat.mod_lt _ (by omega)
 rw[hm] at m1 s1
 rw[hd] at d1 s1
 have M1:=Bx.mk m1
 have D1:=Bx.mk d1
 have S1:=Bx.mk s1
 generalize ws.getD q 0=x at *
 clear h hp hq hv hg hm hd m1 d1 s1 hq2 P1 hws1 hp1q
 go_enter Tryz.func240,Tryz.ntmps240
 go_wp2_with fail
 refine (place_any bv bw wd n ws i q r _ H.out hi HQ.out hr).mono ?_
 rintro e w' ⟨rfl,rfl⟩
 go_wp2_with fail
 refine wp_region_still_tail 13 (by kernel_rfl) (by kernel_rfl) ?_
 simp only[List.take_succ_cons,List.take_zero,List.drop_succ_cons,List.drop_zero]
 repeat still_step
 still_call ((greatest_is bv bw wd n ws g (w.drewN 1) R1.out HG.out).mono fun _ _ h=>⟨h.1,h.2.symm⟩)
 repeat still_step
 refine wpStill_nil ?_
 change wpList _ _ _ _ _ (w.drewN 1)
 generalize w.drewN 1=w1 at *
 clear h0 h1 h2
 go_wp2_with fail
 refine (lay_is bw q x m d _ _ w1 hc1 hf1 hx hm64 hd64 M1.out D1.out).mono ?_
 rintro e w2 ⟨rfl,he⟩
 rw[←he] at S1
 have R2:=Bx.mk S1.out.1
 have C2:=Bx.mk (hC0.trans S1.out.2 (fun _ _ h=>h))
 obtain⟨k0,k1,k2⟩:=cells3 R2.out.blk
 clear hc1 hf1 hC0 S1 he M1 D1 R1
 by_cases hrw:r+wd≤64
 ·have HP1:=Bx.mk (pk_put1 HP.out (by omega) HQ.out hrw HV.out)
  rw[HW1.out] at HP1
  go_wp2
  go_returns
  exact⟨rfl,⟨ws1,R2.out,HP1.out⟩,C2.out⟩
 ·have hq2:=HQ2.out (by omega)
  have HP2:=Bx.mk (pk_put2 HP.out (by omega) HQ.out hr (by omega) HV.out)
  have hc2:=(R2.out.drewN 1).cellAt (j:=q+1) (by omega)
  have hf2:=(R2.out.drewN 1).frozenAt (q+1)
  rw[HPQ.out] at hc2
  have hy:=H.out.lt (q+1)
  have hgr:g/2^(64-r)<18446744073709551616:=Nat.lt_of_le_of_lt (Nat.div_le_self _ _) hg64
  have hvr:v/2^(64-r)<18446744073709551616:=Nat.lt_of_le_of_lt (Nat.div_le_self _ _) hv64
  have s2:=(R2.out.drewN 1).stored (q+1) (layN (ws.getD (q+1) 0) (g/2^(64-r)) (v/2^(64-r))) (layN_lt hy hvr)
  have P2:put2 ws wd q r v=ws1.set (q+1) (layN (ws.getD (q+1) 0) (g/2^(64-r)) (v/2^(64-r))):=by
   rw[←HG.out,←HW1.out]
   rfl
  rw[←P2] at s2
  have m2:=(div_cast g (64-r)).symm
  have d2:=(div_cast v (64-r)).symm
  have hC0:=C2.out.drewN 1
  have R3:=Bx.mk (R2.out.drewN 1)
  generalize ws.getD (q+1) 0=y at *
  generalize g/2^(64-r)=m' at *
  generalize v/2^(64-r)=d' at *
  have M2:=Bx.mk m2
  have D2:=Bx.mk d2
  have S2:=Bx.mk s2
  have HC0:=Bx.mk hC0
  clear m2 d2 s2 P2 hC0
  go_wp2_with fail
  have hw1:IntKind.i64.wrap ((q:Int)+1)=(q:Int)+1:=IntWalk.i64_in _ (by omega)
  have hw2:((q:Int)+1).toNat=q+1:=by omega
  have hw3:0≤(q:Int)+1:=by omega
  have hw4:(q:Int)+1<(ws.length:Int):=by omega
  refine wp_region_still_tail 14 (by kernel_rfl) (by kernel_rfl) ?_
  simp only[List.take_succ_cons,List.take_zero,List.drop_succ_cons,List.drop_zero]
  repeat still_step
  still_call ((greatest_is bv bw wd n ws1 g (w2.drewN 1) R3.out HG.out).mono fun _ _ h=>⟨h.1,h.2.symm⟩)
  repeat still_step
  refine wpStill_nil ?_
  clear hw1 hw2 hw3 hw4
  change wpList _ _ _ _ _ (w2.drewN 1)
  generalize w2.drewN 1=w3 at *
  clear k0 k1 k2
  go_wp2_with fail
  refine (lay_is bw (q+1) y m' d' _ _ w3 hc2 hf2 hy hgr hvr M2.out D2.out).mono ?_
  rintro e w4 ⟨rfl,rfl⟩
  go_wp2
  go_returns
  exact⟨rfl,⟨_,S2.out.1,HP2.out⟩,HC0.out.trans S2.out.2 (fun _ _ h=>h)⟩
end
section
open Go.RowKit Go.Oct Go.Pk
structure Ow (w:World) (g c:Nat) (xs:List Nat):Prop where
 own:w.ownsRow 0 163 1 (.slice (some ⟨g,0,none⟩) xs.length c) xs.length (xs.map fun x:Nat=>Value.int .u64 x)
theorem Ow.stored {w:World} {g c:Nat} {xs:List Nat} (h:Ow w g c xs) (j x:Nat):Ow (w.setCell ⟨g,j,none⟩ (.int .u64 x)) g c (xs.set j x)∧Ch (fun k=>k=g) w (w.setCell ⟨g,j,none⟩ (.int .u64 x)):=by
 have hC:Ch (fun k=>k=g) w (w.setCell ⟨g,j,none⟩ (.int .u64 x)):=(Ch.refl (fun k=>k=g) w).setCell (p:=⟨g,j,none⟩) (.inl rfl) _
 obtain⟨ho,_⟩:=h.own.stored j (.int .u64 x)
 refine⟨⟨?_⟩,hC⟩
 rw[List.length_set,List.map_set]
 exact ho
theorem Ow.cellAt {w:World} {g c:Nat} {xs:List Nat} (h:Ow w g c xs) {j:Nat} (hj:j<xs.length):w.cell? ⟨g,j,none⟩=some (.int .u64 (xs.getD j 0:Nat)):=by
 have:=h.own.cellAt j (by omega)
 rw[List.getElem?_map,List.getElem?_eq_getElem hj] at this
 rw[this,List.getD_eq_getElem?_getD,List.getElem?_eq_getElem hj]
 rfl
theorem Ow.frozenAt {w:World} {g c:Nat} {xs:List Nat} (h:Ow w g c xs) (j:Nat):w.frozen? ⟨g,j,none⟩=false:=h.own.frozenAt j
theorem Ow.ch {w w':World} {S:Nat→Prop} {g c:Nat} {xs:List Nat} (h:Ow w g c xs) (hc:Ch S w w') (hg:¬ S g):Ow w' g c xs:=⟨hc.own h.own (fun k hk=>by simp[Value.ownBlock] at hk; subst hk; exact hg)⟩
theorem Ow.keep {w w':World} {g c:Nat} {xs:List Nat} (h:Ow w g c xs) (hc:Ch (fun _=>False) w w'):Ow w' g c xs:=h.ch hc (fun h=>h)
theorem Ow.lt {w:World} {g c:Nat} {xs:List Nat} (h:Ow w g c xs):g<w.heap.size:=(h.own.lt g rfl).2
theorem Ow.sn {w:World} {g c:Nat} {xs:List Nat} (h:Ow w g c xs):Sn w (fun b=>b=g) (some ⟨g,0,none⟩) xs:=by
 have:=(Vs.of_own h.own).mono (G:=fun b=>b=g) fun b _ hb=>by simp[Value.ownBlock] at hb; exact hb.symm
 unfold Sn Sl
 rwa[List.map_map]
theorem ow_made (w:World) (n:Nat) (hn:n≤1048576):Ow (w.alloc (.cells (madeCells #[.int .u64 0] n) 163)) w.heap.size n (List.replicate n 0):=by
 refine⟨?_⟩
 rw[List.length_replicate]
 have h:=World.ownsRow_lit (base:=0) (e := 163) (size:=1) w (madeCells #[.int .u64 0] n) n (Nat.zero_le _) (by unfold maxLen; omega) (by simp[madeCells])
 have e:(madeCells #[Value.int .u64 0] n).toList=(List.replicate n 0).map fun x:Nat=>Value.int .u64 x:=by rw[made_list]; simp
 rw[e] at h
 exact h
section
variable (bv bw wd n:Nat) (ws:List Nat)
end
end
end Go.Proofs.YtambgjpfoceieaaGreatDoor.K
