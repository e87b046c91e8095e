/- Lemmas and contracts of this proof. Conditions: said at each. -/
import Derived.Test.YtambgjpfoceieaaGreatDoorGBiWord
import Derived.Test.YtambgjpfoceieaaGreatDoorGOcRef
import Derived.RegionTactic
import Derived.ChangeAlike
import Derived.StillTailTactics
import Derived.Deep.AppendLies
set_option maxHeartbeats 2000000
set_option maxRecDepth 100000
namespace Go.Proofs.YtambgjpfoceieaaGreatDoor.W
section
open Go.RowKit Go.Oct Go.Bi
structure Raw (w:World) (bv bw n:Nat) (v:Value) (ws:List Nat):Prop where
 blk:w.heap[bv]? = some (.cells #[.int .i64 n, .slice (some ⟨bw,0,none⟩) ws.length ws.length,v] 174 (0,0))
 own:w.ownsRow 0 163 1 (.slice (some ⟨bw,0,none⟩) ws.length ws.length) ws.length (ws.map fun x:Nat=>Value.int .u64 x)
 ne:bv≠bw
 most:n≤1048576
 len:ws.length=(n+63)/64
theorem cells3 {w:World} {b:Nat} {u v x:Value} {t:TypeId} (h:w.heap[b]? = some (.cells #[u,v,x] t (0,0))) :
  w.cell? ⟨b,0,none⟩=some u∧w.cell? ⟨b,1,none⟩=some v∧w.cell? ⟨b,2,none⟩=some x∧w.frozen? ⟨b,2,none⟩=false:=by
 simp[World.cell?,World.frozen?,h]
theorem Raw.ch {w w':World} {S:Nat→Prop} {bv bw n:Nat} {v:Value} {ws:List Nat} (h:Raw w bv bw n v ws) (hc:Ch S w w') (h1:¬ S bv) (h2:¬ S bw):Raw w' bv bw n v ws :=
 ⟨by rw[hc.block bv (Array.getElem?_eq_some_iff.1 h.blk).1 h1]; exact h.blk,hc.own h.own (fun g hg=>by simp[Value.ownBlock] at hg; subst hg; exact h2),h.ne,h.most,h.len⟩
theorem elem64:Elem Tryz.prog 172 163 (.int .u64 0) 8:=⟨Tryz.underlying172,by kernel_rfl,rfl⟩
theorem elemI:Elem Tryz.prog 75 3 (.int .i64 0) 8:=⟨Tryz.underlying75,by kernel_rfl,rfl⟩
theorem run_mk2 {P:Program} {t e:TypeId} {z:Value} {bytes:Nat} (T:Elem P t e z bytes) (L:Nat) (hb:bytes*L≤281474976710656) (h63:L≤281474976710656) (w:World) :
  (Instr.makeSlice t (.int .i64 (L:Int)) (.int .i64 (L:Int))).run P w = .ok (.slice (some ⟨w.heap.size,0,none⟩) L L) (w.alloc (.cells (madeCells z.cells L) e)):=by
 obtain⟨i,hi,hz,hs,hby⟩:=info_parts T.info
 have hb':(i.bytes:Int)*(L:Int)≤281474976710656:=by
  rw[hby]
  have h:((bytes*L:Nat):Int)≤281474976710656:=by omega
  rwa[Int.natCast_mul] at h
 have hr:=run_make (P:=P) w t e i z T.t hi hz .i64 .i64 L L (by omega) (by omega) hb' (by omega)
 simp only[Int.toNat_natCast,hs,Nat.mul_one] at hr
 exact hr
theorem made_list (z:Value) (n:Nat):(madeCells #[z] n).toList=List.replicate n z:=by
 apply List.ext_getElem
 ·simp[madeCells]
 ·intro i h1 h2
  simp[madeCells,Nat.mod_one]
theorem blank_any (n:Nat) (w:World) (hn:n≤1048576) :
  Calls Tryz.prog 212 #[.int .i64 n] w fun e w'=>e = .returned (.pointer (some ⟨w.heap.size+1,0,none⟩))∧Raw w' (w.heap.size+1) w.heap.size n (.slice none 0 0) (List.replicate ((n+63)/64) 0)∧Ch (fun _=>False) w w':=by
 have hmk:=run_mk2 elem64 ((n+63)/64) (by omega) (by omega)
 rw[show (((n+63)/64:Nat):Int)=((n:Int)+64-1)/64 by omega] at hmk
 go_enter Tryz.func212,Tryz.ntmps212
 go_wp2
 go_ret
 refine⟨rfl,⟨?_,?_,by omega,hn,by simp⟩,(((Ch.refl _ w).alloc _).alloc _)⟩
 ·rw[List.length_replicate]
  have:=heap_alloc_new (w.alloc (.cells (madeCells #[.int .u64 0] ((n+63)/64)) 163)) (.cells #[.int .i64 n, .slice (some ⟨w.heap.size,0,none⟩) ((n+63)/64) ((n+63)/64), .slice none 0 0] 174)
  rwa[World.size_alloc] at this
 ·rw[List.length_replicate]
  have h:=World.ownsRow_lit (base:=0) (e := 163) (size:=1) w (madeCells #[.int .u64 0] ((n+63)/64)) ((n+63)/64) (Nat.zero_le _) (by unfold maxLen; omega) (by simp[madeCells])
  have e:(madeCells #[Value.int .u64 0] ((n+63)/64)).toList=(List.replicate ((n+63)/64) 0).map fun x:Nat=>Value.int .u64 x:=by rw[made_list]; simp
  rw[e] at h
  exact h.alloc _
theorem Raw.stored {w:World} {bv bw n:Nat} {v:Value} {ws:List Nat} (h:Raw w bv bw n v ws) (j x:Nat):Raw (w.setCell ⟨bw,j,none⟩ (.int .u64 x)) bv bw n v (ws.set j x)∧Ch (fun k=>k=bw) w (w.setCell ⟨bw,j,none⟩ (.int .u64 x)):=by
 have hC:Ch (fun k=>k=bw) w (w.setCell ⟨bw,j,none⟩ (.int .u64 x)):=(Ch.refl (fun k=>k=bw) w).setCell (p:=⟨bw,j,none⟩) (.inl rfl) _
 obtain⟨ho,_⟩:=h.own.stored j (.int .u64 x)
 refine⟨⟨?_,?_,h.ne,h.most,by rw[List.length_set]; exact h.len⟩,hC⟩
 ·rw[List.length_set,hC.block bv (Array.getElem?_eq_some_iff.1 h.blk).1 h.ne]
  exact h.blk
 ·rw[List.length_set,List.map_set]
  exact ho
theorem Raw.cellAt {w:World} {bv bw n:Nat} {v:Value} {ws:List Nat} (h:Raw w bv bw n v ws) {j:Nat} (hj:j<ws.length):w.cell? ⟨bw,j,none⟩=some (.int .u64 (ws.getD j 0:Nat)):=by
 have:=h.own.cellAt j (by omega)
 rw[List.getElem?_map,List.getElem?_eq_getElem hj] at this
 rw[this,List.getD_eq_getElem?_getD,List.getElem?_eq_getElem hj]
 rfl
theorem Raw.frozenAt {w:World} {bv bw n:Nat} {v:Value} {ws:List Nat} (h:Raw w bv bw n v ws) (j:Nat):w.frozen? ⟨bw,j,none⟩=false:=h.own.frozenAt j
theorem rlen (bv bw n:Nat) (v:Value) (ws:List Nat) (w:World) (h:Raw w bv bw n v ws):Calls Tryz.prog 131 #[.pointer (some ⟨bv,0,none⟩)] w fun e w'=>e = .returned (.int .i64 n)∧w=w':=by
 obtain⟨h0,_⟩:=cells3 h.blk
 have H:=Bx.mk h
 clear h
 go_enter Tryz.func131,Tryz.ntmps131
 go_wp2
 go_ret
 exact⟨rfl,rfl⟩
theorem rhas_in (bv bw n:Nat) (v:Value) (ws:List Nat) (i:Nat) (w:World) (h:Raw w bv bw n v ws) (hi:i<n):Calls Tryz.prog 182 #[.pointer (some ⟨bv,0,none⟩), .int .i64 i] w fun e w'=>e = .returned (.bool true)∧w=w':=by
 have H:=Bx.mk h
 clear h
 go_enter Tryz.func182,Tryz.ntmps182
 go_wp2_with (go_at_call 131; refine (rlen bv bw n v ws _ H.out).mono ?_; rintro e w' ⟨rfl,rfl⟩)
 go_ret
 exact⟨rfl,rfl⟩
theorem rhas_out (bv bw n:Nat) (v:Value) (ws:List Nat) (i:Int) (w:World) (h:Raw w bv bw n v ws) (hi:i<0∨(n:Int)≤i):Calls Tryz.prog 182 #[.pointer (some ⟨bv,0,none⟩), .int .i64 i] w fun e w'=>e = .returned (.bool false)∧w=w':=by
 have H:=Bx.mk h
 clear h
 rcases hi with hi | hi
 ·go_enter Tryz.func182,Tryz.ntmps182
  go_wp2
  go_ret
  exact⟨rfl,rfl⟩
 ·have hi0:0≤i:=by omega
  go_enter Tryz.func182,Tryz.ntmps182
  go_wp2_with (go_at_call 131; refine (rlen bv bw n v ws _ H.out).mono ?_; rintro e w' ⟨rfl,rfl⟩)
  go_ret
  exact⟨ret_bool (by simp; omega),rfl⟩
theorem set_out (bv bw n:Nat) (v:Value) (ws:List Nat) (i:Int) (w:World) (h:Raw w bv bw n v ws) (hi:i<0∨(n:Int)≤i):Calls Tryz.prog 213 #[.pointer (some ⟨bv,0,none⟩), .int .i64 i] w fun e w'=>e = .returned (.tuple #[])∧w=w':=by
 have H:=Bx.mk h
 clear h
 go_enter Tryz.func213,Tryz.ntmps213
 go_wp2_with (go_at_call 182; refine (rhas_out bv bw n v ws i _ H.out hi).mono ?_; rintro e w' ⟨rfl,rfl⟩)
 go_returns
 exact⟨rfl,rfl⟩
theorem or_bit {x j:Nat} (hx:x<18446744073709551616) (hj:j<64):bits .or .u64 (x:Int) (IntKind.u64.wrap (2^j))=((x ||| 2^j:Nat):Int):=by
 have h2:2^j<18446744073709551616:=Nat.pow_lt_pow_right (a:=2) (n:=64) (by omega) hj
 have e:IntKind.u64.wrap (2^j)=((2^j:Nat):Int):=by
  rw[show (2:Int)^j=((2^j:Nat):Int) by push_cast; rfl,wrap_nat,Nat.mod_eq_of_lt h2]
 rw[e,bits_or_u64_nat x (2^j) hx h2]
theorem set_in (bv bw n:Nat) (v:Value) (ws:List Nat) (i:Nat) (w:World) (h:Raw w bv bw n v ws) (hi:i<n) (hx:ws.getD (i/64) 0<18446744073709551616):Calls Tryz.prog 213 #[.pointer (some ⟨bv,0,none⟩), .int .i64 i] w fun e w'=>e = .returned (.tuple #[])∧Raw w' bv bw n v (ws.set (i/64) (ws.getD (i/64) 0 ||| 2^(i%64)))∧Ch (fun k=>k=bw) w w':=by
 have H:=Bx.mk h
 have hm:=h.most
 have hl:=h.len
 obtain⟨h0,h1,h2,h3⟩:=cells3 h.blk
 have hlw:i/64<ws.length:=by omega
 have hc:=h.cellAt hlw
 have hf:=h.frozenAt (i/64)
 have hs:=h.stored (i/64) (ws.getD (i/64) 0 ||| 2^(i%64))
 have hor:=or_bit (j:=i%64) hx (by omega)
 generalize ws.getD (i/64) 0=x at *
 obtain⟨y,hy⟩:∃ y,x ||| 2^(i%64)=y:=⟨_,rfl⟩
 rw[hy] at hs hor
 rw[hy]
 have HS:=Bx.mk hs
 clear h hl hs hy
 go_enter Tryz.func213,Tryz.ntmps213
 go_wp2_with (go_at_call 182; refine (rhas_in bv bw n v ws i _ H.out hi).mono ?_; rintro e w' ⟨rfl,rfl⟩)
 go_region
 all_goals
  go_wp2
  go_returns
  exact⟨rfl,HS.out.1.ch ((Ch.refl (fun _=>False) _).drew) (fun h=>h) (fun h=>h),HS.out.2.drew⟩
structure Cnt (w:World) (bv bw ba n m:Nat) (ws us:List Nat):Prop where
 raw:Raw w bv bw n (.slice (some ⟨ba,0,none⟩) m m) ws
 own:w.ownsRow 0 3 1 (.slice (some ⟨ba,0,none⟩) m m) m (us.map fun x:Nat=>Value.int .i64 x)
 ne1:ba≠bv
 ne2:ba≠bw
theorem Cnt.ch {w w':World} {S:Nat→Prop} {bv bw ba n m:Nat} {ws us:List Nat} (h:Cnt w bv bw ba n m ws us) (hc:Ch S w w') (h1:¬ S bv) (h2:¬ S bw) (h3:¬ S ba):Cnt w' bv bw ba n m ws us :=
 ⟨h.raw.ch hc h1 h2,hc.own h.own (fun g hg=>by simp[Value.ownBlock] at hg; subst hg; exact h3),h.ne1,h.ne2⟩
theorem Cnt.len {w:World} {bv bw ba n m:Nat} {ws us:List Nat} (h:Cnt w bv bw ba n m ws us):us.length=m:=by simpa using h.own.1
theorem Cnt.stored {w:World} {bv bw ba n m:Nat} {ws us:List Nat} (h:Cnt w bv bw ba n m ws us) (j x:Nat):Cnt (w.setCell ⟨ba,j,none⟩ (.int .i64 x)) bv bw ba n m ws (us.set j x)∧Ch (fun k=>k=ba) w (w.setCell ⟨ba,j,none⟩ (.int .i64 x)):=by
 have hC:Ch (fun k=>k=ba) w (w.setCell ⟨ba,j,none⟩ (.int .i64 x)):=(Ch.refl (fun k=>k=ba) w).setCell (p:=⟨ba,j,none⟩) (.inl rfl) _
 obtain⟨ho,_⟩:=h.own.stored j (.int .i64 x)
 refine⟨⟨h.raw.ch hC (fun e=>h.ne1 e.symm) (fun e=>h.ne2 e.symm),?_,h.ne1,h.ne2⟩,hC⟩
 rw[List.map_set]
 exact ho
theorem Cnt.cellAt {w:World} {bv bw ba n m:Nat} {ws us:List Nat} (h:Cnt w bv bw ba n m ws us) {j:Nat} (hj:j<m):w.cell? ⟨ba,j,none⟩=some (.int .i64 (us.getD j 0:Nat)):=by
 have hl:=h.len
 have:=h.own.cellAt j (by omega)
 rw[List.getElem?_map,List.getElem?_eq_getElem (by omega)] at this
 rw[this,List.getD_eq_getElem?_getD,List.getElem?_eq_getElem (by omega)]
 rfl
def upTo (ws:List Nat) (k:Nat):List Nat:=(List.range (ws.length+1)).map fun i=>if i≤k then cum ws i else 0
theorem upTo_zero (ws:List Nat):upTo ws 0=List.replicate (ws.length+1) 0:=by
 apply List.ext_getElem
 ·simp[upTo]
 ·intro i h1 h2
  simp only[upTo,List.getElem_map,List.getElem_range,List.getElem_replicate]
  split
  ·obtain rfl:i=0:=by omega
   rfl
  ·rfl
theorem upTo_at (ws:List Nat) {k:Nat} (h:k≤ws.length):(upTo ws k).getD k 0=cum ws k:=by
 simp[upTo,List.getD_eq_getElem?_getD,List.getElem?_range (show k<ws.length+1 by omega)]
theorem upTo_succ (ws:List Nat) {k:Nat} (h:k<ws.length):(upTo ws k).set (k+1) (cum ws k+pop 64 (ws.getD k 0))=upTo ws (k+1):=by
 apply List.ext_getElem
 ·simp[upTo]
 ·intro i h1 h2
  rw[List.getElem_set]
  simp only[upTo,List.getElem_map,List.getElem_range]
  by_cases e:k+1=i
  ·subst e
   rw[if_pos rfl,if_pos (Nat.le_refl _),cum_succ h]
  ·rw[if_neg e]
   by_cases e2:i≤k
   ·rw[if_pos e2,if_pos (by omega)]
   ·rw[if_neg e2,if_neg (by omega)]
theorem upTo_all (ws:List Nat):upTo ws ws.length=ahd ws:=by
 apply List.ext_getElem
 ·simp[upTo,ahd]
 ·intro i h1 h2
  simp only[upTo,ahd,List.getElem_map,List.getElem_range]
  simp[upTo] at h1
  rw[if_pos (by omega)]
theorem count_any (bv bw n:Nat) (v:Value) (ws:List Nat) (w:World) (h:Raw w bv bw n v ws) (hx:∀ k,ws.getD k 0<18446744073709551616) :
  Calls Tryz.prog 214 #[.pointer (some ⟨bv,0,none⟩)] w fun e w'=>e = .returned (.tuple #[])∧Cnt w' bv bw w.heap.size n (ws.length+1) ws (ahd ws)∧Ch (fun k=>k=bv) w w':=by
 have H:=Bx.mk h
 have hm:=h.most
 have hl:=h.len
 have hwl:ws.length≤1048576:=by omega
 obtain⟨h0,h1,h2,h3⟩:=cells3 h.blk
 have hbl:=(Array.getElem?_eq_some_iff.1 h.blk).1
 have hmk:=run_mk2 elemI (ws.length+1) (by omega) (by omega)
 rw[show ((ws.length+1:Nat):Int)=(ws.length:Int)+1 by omega] at hmk
 have HX:=Bx.mk hx
 have hst:Cnt ((w.setCell ⟨bv,2,none⟩ (.slice (some ⟨w.heap.size,0,none⟩) (ws.length+1) (ws.length+1))).alloc (.cells (madeCells #[.int .i64 0] (ws.length+1)) 3)) bv bw w.heap.size n (ws.length+1) ws (upTo ws 0) ∧
   Ch (fun k=>k=bv) w ((w.setCell ⟨bv,2,none⟩ (.slice (some ⟨w.heap.size,0,none⟩) (ws.length+1) (ws.length+1))).alloc (.cells (madeCells #[.int .i64 0] (ws.length+1)) 3)):=by
  have hC1:Ch (fun k=>k=bv) w (w.setCell ⟨bv,2,none⟩ (.slice (some ⟨w.heap.size,0,none⟩) (ws.length+1) (ws.length+1))):=(Ch.refl (fun k=>k=bv) w).setCell (p:=⟨bv,2,none⟩) (.inl rfl) _
  have hsz:(w.setCell ⟨bv,2,none⟩ (.slice (some ⟨w.heap.size,0,none⟩) (ws.length+1) (ws.length+1))).heap.size=w.heap.size:=by simp[World.setCell]
  have hbw:bw<w.heap.size:=(h.own.lt bw rfl).2
  refine⟨⟨⟨?_,?_,h.ne,h.most,h.len⟩,?_,by omega,by omega⟩,hC1.alloc _⟩
  ·rw[Below.heap_alloc _ _ _ (by omega)]
   simp[World.setCell,Array.getElem?_modify,h.blk]
  ·exact (hC1.own h.own (fun g hg=>by simp[Value.ownBlock] at hg; subst hg; exact fun e=>h.ne e.symm)).alloc _
  ·rw[upTo_zero]
   have hr:=World.ownsRow_lit (base:=0) (e := 3) (size:=1) (w.setCell ⟨bv,2,none⟩ (.slice (some ⟨w.heap.size,0,none⟩) (ws.length+1) (ws.length+1))) (madeCells #[.int .i64 0] (ws.length+1)) (ws.length+1) (Nat.zero_le _) (by unfold maxLen; omega) (by simp[madeCells])
   rw[made_list,hsz] at hr
   rw[List.map_replicate]
   exact hr
 have HST:=Bx.mk hst
 clear h hl hx hst
 go_enter Tryz.func214,Tryz.ntmps214
 go_wp2
 clear hmk
 go_loopw [2,3,19] (fun _ _ i wr=>∃ k:Nat,k≤ws.length∧i = .int .i64 k∧Cnt wr bv bw w.heap.size n (ws.length+1) ws (upTo ws k)∧Ch (fun k=>k=bv) w wr) (fun _ _ i _=>ws.length-(intOf i).toNat)
 case atStart=>exact⟨0,Nat.zero_le _,rfl,HST.out.1,HST.out.2⟩
 case round =>
  obtain⟨k,hk,rfl,hc,hC⟩:=hrel
  by_cases hlt:k<ws.length
  ·obtain⟨wo,rfl⟩:∃ wo:World,wo=wr:=⟨_,rfl⟩
   have hcw:=hc.raw.cellAt hlt
   have hcu:=hc.cellAt (j:=k) (by omega)
   have hcu2:=hc.cellAt (j:=k+1) (by omega)
   generalize (upTo ws k).getD (k+1) 0=u2 at hcu2
   have hul:(upTo ws k).getD k 0≤64*k:=by rw[upTo_at ws hk]; exact cum_le ws k
   have hst:=hc.stored (k+1) ((upTo ws k).getD k 0+pop 64 (ws.getD k 0))
   have hfz:=hc.own.frozenAt (k+1)
   obtain⟨g0,g1,g2,g3⟩:=cells3 hc.raw.blk
   have hxk:=HX.out k
   have hsu:(upTo ws k).set (k+1) ((upTo ws k).getD k 0+pop 64 (ws.getD k 0))=upTo ws (k+1):=by rw[upTo_at ws hk]; exact upTo_succ ws hlt
   rw[hsu] at hst
   generalize ws.getD k 0=x at *
   generalize (upTo ws k).getD k 0=u at *
   have hq64:=pop_le 64 x
   obtain⟨q,hq⟩:∃ q,pop 64 x=q:=⟨_,rfl⟩
   rw[hq] at hst hq64
   have HQ:=Bx.mk hq
   have HSS:=Bx.mk hst
   have HCH:=Bx.mk hC
   clear hc hC hst hsu hq
   go_wp2
   have hw1:IntKind.i64.wrap ((k:Int)+1)=(k:Int)+1:=IntWalk.i64_in _ (by omega)
   have hw2:((k:Int)+1).toNat=k+1:=by omega
   have hw3:0≤(k:Int)+1:=by omega
   have hw5:(k:Int)<(ws.length:Int)+1:=by omega
   have hw6:(k:Int)+1<(ws.length:Int)+1:=by omega
   have hw4:IntKind.i64.wrap ((u:Int)+(q:Int))=((u+q:Nat):Int):=by rw[IntWalk.i64_in _ (by omega)]; omega
   refine wp_region_still_tail 17 (by kernel_rfl) (by kernel_rfl) ?_
   simp only[List.take_succ_cons,List.take_zero,List.drop_succ_cons,List.drop_zero]
   repeat still_step
   still_call ((ones_is x q _ hxk HQ.out).mono fun _ _ h=>⟨h.1,h.2.symm⟩)
   repeat still_step
   refine wpStill_nil ?_
   clear hw1 hw2 hw3 hw4 hw5 hw6
   change wpList _ _ _ _ _ wo.drew
   go_wp2
   go_roundw
   case rel =>
    have h1:=HSS.out
    rw[Int.natCast_add] at h1
    exact⟨k+1,by omega,by go_num,h1.1.ch ((Ch.refl (fun _=>False) _).drew) (fun h=>h) (fun h=>h) (fun h=>h),(HCH.out.trans h1.2 (fun i hi (e:i=w.heap.size)=>absurd hi (by omega))).drew⟩
   case measure=>simp[intOf]; omega
  ·obtain rfl:k=ws.length:=by omega
   rw[upTo_all] at hc
   go_wp2
   go_returns
   exact⟨rfl,hc,hC⟩
end
section
open Go.RowKit Go.Oct Go.Bi
theorem vec_of {w:World} {F:Nat→Prop} {bv bw ba n m:Nat} {ws:List Nat} {l:List Bool} (h:Cnt w bv bw ba n m ws (ahd ws)) (hw:Wd ws l) (hl:l.length=n) (h1:F bv) (h2:F bw) (h3:F ba):Vec w F bv l:=by
 obtain⟨c0,c1,c2,_⟩:=cells3 h.raw.blk
 have hm:=h.len
 have hmost:=h.raw.most
 have vw:=Vs.of_own h.raw.own
 have va:=Vs.of_own h.own
 refine⟨some ⟨bw,0,none⟩,some ⟨ba,0,none⟩,ws.length,m,ws,ahd ws,by rw[hl]; exact c0,c1,by rw[hm]; exact c2,h1,?_,?_,by omega,hw,ah_cum hw (by omega)⟩
 ·have:=vw.mono (G:=F) fun b _ hb=>by simp[Value.ownBlock] at hb; subst hb; exact h2
  unfold Sn Sl
  rwa[List.map_map]
 ·have:=va.mono (G:=F) fun b _ hb=>by simp[Value.ownBlock] at hb; subst hb; exact h3
  unfold Sn Sl
  rw[List.map_map,hm]
  exact this
def Made (l:List Bool) (w:World) (e:Ending) (w':World):Prop:=∃ bv:Nat,e = .returned (.pointer (some ⟨bv,0,none⟩))∧Vec w' (fun k=>w.heap.size≤k) bv l∧Ch (fun _=>False) w w'
def put1 (l:List Bool) (i:Int):List Bool:=if 0≤i∧i<l.length then l.set i.toNat true else l
theorem set_any (bv bw n:Nat) (v:Value) (ws:List Nat) (l:List Bool) (i:Int) (w:World) (h:Raw w bv bw n v ws) (hw:Wd ws l) (hl:l.length=n) :
  Calls Tryz.prog 213 #[.pointer (some ⟨bv,0,none⟩), .int .i64 i] w fun e w'=>e = .returned (.tuple #[])∧(∃ ws',Raw w' bv bw n v ws'∧Wd ws' (put1 l i))∧Ch (fun k=>k=bw) w w':=by
 by_cases hi:0≤i∧i<l.length
 ·obtain⟨j,rfl⟩:∃ j:Nat,i=j:=⟨i.toNat,by omega⟩
  refine (set_in bv bw n v ws j w h (by omega) (hw.lt _)).mono fun e w' ⟨h1,h2,h3⟩=>⟨h1,⟨_,h2,?_⟩,h3⟩
  unfold put1
  rw[if_pos hi]
  exact wd_set hw (by omega)
 ·refine (set_out bv bw n v ws i w h (by omega)).mono fun e w' ⟨h1,h2⟩=>⟨h1,⟨ws,by rw[←h2]; exact h,?_⟩,by rw[←h2]; exact Ch.refl _ _⟩
  unfold put1
  rw[if_neg hi]
  exact hw
theorem blank_is (N:Nat) (z:Int) (w:World) (hn:N≤1048576) (hz:z=N) :
  Calls Tryz.prog 212 #[.int .i64 z] w fun e w'=>e = .returned (.pointer (some ⟨w.heap.size+1,0,none⟩))∧Raw w' (w.heap.size+1) w.heap.size N (.slice none 0 0) (List.replicate ((N+63)/64) 0)∧Ch (fun _=>False) w w':=by
 subst hz
 exact blank_any N w hn
end
section
open Go.RowKit Go.Oct Go.Bi
abbrev Sb (w:World) (F:Nat→Prop) (A:Option Addr) (n:Nat) (l:List Bool):Prop:=Vs w F A n (l.map Value.bool)
theorem Sb.len {w:World} {F:Nat→Prop} {A:Option Addr} {n:Nat} {l:List Bool} (h:Sb w F A n l):l.length=n:=by simpa using h.1
theorem Sb.at_ {w:World} {F:Nat→Prop} {A:Option Addr} {n:Nat} {l:List Bool} (h:Sb w F A n l) {k:Nat} (hk:k<n):∃ b off,A=some ⟨b,off,none⟩∧F b∧w.cell? ⟨b,off+k,none⟩=some (.bool (l.getD k false)):=by
 obtain⟨b,off,u,e,hb,hu,hc⟩:=Vs.at_ h hk
 have hl:=Sb.len h
 have:=hu.out
 rw[List.getElem?_map,List.getElem?_eq_getElem (by omega)] at this
 refine⟨b,off,e,hb,?_⟩
 rw[hc,List.getD_eq_getElem?_getD,List.getElem?_eq_getElem (by omega)]
 simp at this
 simp[this]
def ofUp (l:List Bool) (k:Nat):List Bool:=(List.range l.length).map fun i=>if i<k then l.getD i false else false
theorem ofUp_zero (l:List Bool):ofUp l 0=List.replicate l.length false:=by
 apply List.ext_getElem
 ·simp[ofUp]
 ·intro i h1 h2
  simp[ofUp]
theorem ofUp_all (l:List Bool):ofUp l l.length=l:=by
 apply List.ext_getElem
 ·simp[ofUp]
 ·intro i h1 h2
  simp only[ofUp,List.getElem_map,List.getElem_range]
  rw[if_pos h2,List.getD_eq_getElem?_getD,List.getElem?_eq_getElem h2]
  rfl
theorem ofUp_len (l:List Bool) (k:Nat):(ofUp l k).length=l.length:=by simp[ofUp]
theorem ofUp_no {l:List Bool} {k:Nat} (h:l.getD k false=false):ofUp l k=ofUp l (k+1):=by
 apply List.ext_getElem
 ·simp[ofUp]
 ·intro i h1 h2
  simp only[ofUp,List.getElem_map,List.getElem_range]
  by_cases e:i=k
  ·subst e
   rw[if_neg (by omega),if_pos (by omega),h]
  ·by_cases e2:i<k
   ·rw[if_pos e2,if_pos (by omega)]
   ·rw[if_neg e2,if_neg (by omega)]
theorem ofUp_yes {l:List Bool} {k:Nat} (hk:k<l.length) (h:l.getD k false=true):put1 (ofUp l k) k=ofUp l (k+1):=by
 unfold put1
 rw[if_pos ⟨by omega,by rw[ofUp_len]; omega⟩]
 apply List.ext_getElem
 ·simp[ofUp]
 ·intro i h1 h2
  rw[List.getElem_set]
  simp only[ofUp,List.getElem_map,List.getElem_range,Int.toNat_natCast]
  by_cases e:k=i
  ·subst e
   rw[if_pos rfl,if_pos (by omega),h]
  ·rw[if_neg e]
   by_cases e2:i<k
   ·rw[if_pos e2,if_pos (by omega)]
   ·rw[if_neg e2,if_neg (by omega)]
theorem of_any (l:List Bool) (A:Option Addr) (N c:Nat) (w:World) (F:Nat→Prop) (hs:Sb w F A N l) (hm:N≤1048576) (hc:N≤c) (hcm:c≤9223372036854775807) :
  Calls Tryz.prog 161 #[.slice A N c] w (Made l w):=by
 have hl:=Sb.len hs
 have HL:=Bx.mk hl
 have HS:=Bx.mk hs
 clear hl hs
 go_enter Tryz.func161,Tryz.ntmps161
 go_wp2_with fail
 refine (blank_is N _ _ hm (by omega)).mono ?_
 rintro e w1 ⟨rfl,hr,hC⟩
 obtain⟨g0,g1,g2,g3⟩:=cells3 hr.blk
 have HR:=Bx.mk hr
 have HC:=Bx.mk hC
 clear hr hC
 go_wp2
 go_loopw [4,5,17] (fun _ _ i wr=>∃ (k:Nat) (ws:List Nat),k≤N∧i = .int .i64 k∧Raw wr (w.heap.size+1) w.heap.size N (.slice none 0 0) ws∧Wd ws (ofUp l k)∧Ch (fun _=>False) w wr) (fun _ _ i _=>N-(intOf i).toNat)
 case atStart=>exact⟨0,_,Nat.zero_le _,rfl,HR.out,by rw[ofUp_zero,HL.out]; exact wd_blank N,HC.out⟩
 case round =>
  obtain⟨k,ws,hk,rfl,hr,hw,hC⟩:=hrel
  by_cases hlt:k<N
  ·obtain⟨b,off,rfl,_,hcx⟩:=Sb.at_ (Vs.ch HS.out hC (fun _ _ _ h=>h)) hlt
   have HRR:=Bx.mk hr
   have HCC:=Bx.mk hC
   cases hb:l.getD k false
   ·rw[hb] at hcx
    rw[ofUp_no hb] at hw
    have HW:=Bx.mk hw
    clear hr hw hC hb
    go_wp2
    go_roundw
    case rel=>exact⟨k+1,ws,by omega,by go_num,HRR.out,HW.out,HCC.out⟩
    case measure=>simp[intOf]; omega
   ·rw[hb] at hcx
    have HY:=Bx.mk (ofUp_yes (l:=l) (k:=k) (by rw[HL.out]; exact hlt) hb)
    have HW:=Bx.mk hw
    clear hr hw hC hb
    go_wp2_with fail
    refine (set_any _ _ N _ ws _ k _ HRR.out HW.out (by rw[ofUp_len]; exact HL.out)).mono ?_
    rintro e w2 ⟨rfl,⟨ws2,hr2,hw2⟩,hC2⟩
    rw[HY.out] at hw2
    have HR2:=Bx.mk hr2
    have HW2:=Bx.mk hw2
    have HC2:=Bx.mk (HCC.out.trans hC2 (fun i hi (e:i=w.heap.size)=>absurd hi (by omega)))
    clear hr2 hw2 hC2
    go_wp2
    go_roundw
    case rel=>exact⟨k+1,ws2,by omega,by go_num,HR2.out,HW2.out,HC2.out⟩
    case measure=>simp[intOf]; omega
  ·obtain rfl:k=N:=by omega
   have hlk:=HL.out
   subst hlk
   rw[ofUp_all] at hw
   have HW:=Bx.mk hw
   have HC1:=Bx.mk hC
   have HRR:=Bx.mk hr
   clear hw hC hr
   go_wp2_with fail
   refine (count_any _ _ _ _ ws _ HRR.out HW.out.lt).mono ?_
   rintro e w2 ⟨rfl,hc2,hC2⟩
   have hsz:=HC1.out.size
   have HC2:=Bx.mk (HC1.out.trans hC2 (fun i hi (e:i=w.heap.size+1)=>absurd hi (by omega)))
   have HV:=Bx.mk (vec_of (F:=fun k=>w.heap.size≤k) hc2 HW.out rfl (by omega) (Nat.le_refl _) hsz)
   clear hc2 hC2
   go_wp2
   go_ret
   exact⟨_,rfl,HV.out,HC2.out⟩
end
end Go.Proofs.YtambgjpfoceieaaGreatDoor.W
namespace Go.Proofs.YtambgjpfoceieaaGreatDoor.O
section
open Go.RowKit Go.Oct
end
section
open Go.RowKit Go.Oct
section
variable {Q:Nat→Prop}
theorem RdQ.lt {w:World} {br:Nat} {bad:Bool} {xs:List Int} (h:RdQ Q w br bad xs):br<w.heap.size:=by
 obtain⟨A,n,c,hblk,_⟩:=h
 exact (Array.getElem?_eq_some_iff.1 hblk).1
theorem RdQ.nil_ {w:World} {br:Nat} {xs:List Int} (h:RdQ Q w br true xs):xs=[]:=by
 obtain⟨A,n,c,_,_,_,_,_,hb⟩:=h
 exact hb rfl
theorem num_any (br:Nat) (bad:Bool) (xs:List Int) (w:World) (hr:RdQ Q w br bad xs) :
  Calls Tryz.prog 67 #[.pointer (some ⟨br,0,none⟩)] w (NumPost Q w br xs):=by
 cases bad
 ·exact num_good br xs w hr
 ·obtain rfl:=hr.nil_
  have HR:=Lib.hid hr
  clear hr
  go_enter Tryz.func67,Tryz.ntmps67
  go_wp2_with (go_at_call 117; refine (good_any br true [] _ HR.out).mono ?_; rintro e w' ⟨rfl,rfl⟩)
  go_ret
  exact NumPost.none_ rfl HR.out (Ch.refl _ _)
theorem new_low (A:Option Addr) (n c:Nat) (xs:List Int) (w:World) (F:Nat→Prop) (hz:Sl w F .u8 A n xs) (hb:n≤100000000000000) (hnc:n≤c) (hcm:c≤maxLen) (hby:Byt xs) :
  Calls Tryz.prog 62 #[.slice A n c] w fun e w'=>∃ br,e = .returned (.pointer (some ⟨br,0,none⟩))∧w.heap.size≤br∧RdQ (fun b=>b<br) w' br false xs∧Ch (fun _=>False) w w':=by
 obtain rfl:=hz.len
 go_enter Tryz.func62,Tryz.ntmps62
 go_wp2_with fail
 refine (join_any [xs] _ 1 1 _ (fun _=>True) (by omega) (Sls.one _ hz hnc hcm (fun _ _ _=>trivial) trivial) (by simpa[cat] using hb)).mono ?_
 rintro e w1 ⟨v,rfl,hf⟩
 have e1:cat [xs]=xs:=by simp[cat]
 rw[e1] at hf
 have hf:=Fresh.after ((Ch.refl (fun _=>False) w).alloc _) hf
 obtain⟨A2,c2,rfl,hl2,hm2⟩:=own_shape hf.1
 have hb1:=heap_alloc_new w1 (.cells #[.slice A2 xs.length c2, .bool false] 158)
 have hR:RdQ (fun b=>b<w1.heap.size) (w1.alloc (.cells #[.slice A2 xs.length c2, .bool false] 158)) w1.heap.size false xs :=
  ⟨A2,xs.length,c2,hb1,Sl.alloc ((Sl.of_own hf.1).mono fun b h _=>⟨by omega,h⟩) _,hl2,by unfold maxLen at hm2; omega,hby,fun h=>by cases h⟩
 have hC:=hf.2.2.alloc (.cells #[.slice A2 xs.length c2, .bool false] 158)
 have hs:=hf.2.2.size
 have HR:=Lib.hid hR
 have HC:=Lib.hid hC
 clear hf hb1 hR hC hz
 go_wp2
 go_returns
 exact⟨_,rfl,hs,HR.out,HC.out⟩
theorem rraw_no (br:Nat) (bad:Bool) (xs:List Int) (n:Int) (w:World) (hr:RdQ Q w br bad xs) (hn:n<0∨(xs.length:Int)<n) :
  Calls Tryz.prog 63 #[.pointer (some ⟨br,0,none⟩), .int .i64 n] w fun e w'=>e = .returned (.slice none 0 0)∧RdQ Q w' br true []∧Ch (RS br) w w':=by
 have HR:=Lib.hid hr
 clear hr
 rcases hn with h | h
 ·go_enter Tryz.func63,Tryz.ntmps63
  go_wp2_with (go_at_call 116; refine (bad_any br bad xs _ HR.out).mono ?_; rintro e w' ⟨rfl,h1,h2⟩)
  go_ret
  exact⟨rfl,h1,h2⟩
 ·have h0:¬ n<0:=by omega
  go_enter Tryz.func63,Tryz.ntmps63
  go_wp2_with (first | (go_at_call 115; refine (left_any br bad xs _ HR.out).mono ?_; rintro e w' ⟨rfl,rfl⟩) | (go_at_call 116; refine (bad_any br bad xs _ HR.out).mono ?_; rintro e w' ⟨rfl,h1,h2⟩))
  go_ret
  exact⟨rfl,h1,h2⟩
def Row (w:World) (v:Value) (xs:List Int) (w':World):Prop:=w'.ownsRow 0 5 1 v xs.length (xs.map (Value.int .u8))∧∀ g,v.ownBlock=some g→w.heap.size≤g
theorem rraw_zero (br:Nat) (bad:Bool) (xs:List Int) (w:World) (hr:RdQ Q w br bad xs) :
  Calls Tryz.prog 63 #[.pointer (some ⟨br,0,none⟩), .int .i64 0] w fun e w'=>e = .returned (.slice none 0 0)∧w=w':=by
 have HR:=Lib.hid hr
 clear hr
 go_enter Tryz.func63,Tryz.ntmps63
 go_wp2_with (first | (go_at_call 115; refine (left_any br bad xs _ HR.out).mono ?_; rintro e w' ⟨rfl,rfl⟩) | (go_at_call 116; refine (bad_any br bad xs _ HR.out).mono ?_; rintro e w' ⟨rfl,h1,h2⟩))
 go_ret
 exact⟨rfl,rfl⟩
theorem rraw_some (br:Nat) (xs:List Int) (n:Nat) (w:World) (hr:RdQ Q w br false xs) (h0:0<n) (hn:n≤xs.length) (hm:n≤100000000000000) :
  Calls Tryz.prog 63 #[.pointer (some ⟨br,0,none⟩), .int .i64 n] w fun e w'=>∃ v,e = .returned v∧Row w v (xs.take n) w'∧RdQ Q w' br false (xs.drop n)∧Ch (RS br) w w':=by
 have HR:=Lib.hid hr
 obtain⟨A,l,c,hblk,hsl,hnc,hcm,hby,_⟩:=hr
 obtain rfl:=hsl.len
 obtain⟨hc0,hc1,hf0,hf1⟩:=rd_cells hblk
 obtain⟨b,off,_,rfl,hbr,_,_⟩:=hsl.at_ (k:=0) (by omega)
 have hb0:((n:Int)==0)=false:=by rw[beq_eq_false_iff_ne]; omega
 have hlen:(xs.take n).length=n:=by rw[List.length_take]; omega
 have HB:=Lib.hid hby
 have HK:=Lib.hid hblk
 have HL:=Lib.hid hlen
 clear hblk hc1 hby hlen
 go_enter Tryz.func63,Tryz.ntmps63
 go_wp2_with (go_at_call 115; refine (left_any br false xs _ HR.out).mono ?_; rintro e w' ⟨rfl,rfl⟩)
 have hj:Sls (w.alloc (.cells #[.slice (some ⟨b,off,none⟩) n c] 26)) (fun _=>True) (some ⟨w.heap.size,0,none⟩) 1 [xs.take n]:=by
  have hs1:Sl w (fun b=>b≠br∧Q b) .u8 (some ⟨b,off,none⟩) (xs.take n).length (xs.take n):=by
   rw[HL.out]
   exact hsl.take hn
  have:=Sls.one (G:=fun _=>True) 26 hs1 (c:=c) (by rw[HL.out]; omega) (by unfold maxLen; omega) (fun _ _ _=>trivial) trivial
  rw[HL.out] at this
  exact this
 refine (join_any [xs.take n] _ 1 1 _ (fun _=>True) (by omega) hj (by simp[cat]; omega)).mono ?_
 rintro e w1 ⟨v,rfl,hf⟩
 have e1:cat [xs.take n]=xs.take n:=by simp[cat]
 rw[e1] at hf
 have hf:=Fresh.after ((Ch.refl (fun _=>False) w).alloc _) hf
 have hlt:=HR.out.lt
 have hblk1:w1.heap[br]? = some (.cells #[.slice (some ⟨b,off,none⟩) xs.length c, .bool false] 158 (0,0)):=(hf.2.2.block br hlt (fun h=>h)).trans HK.out
 obtain⟨gc0,_,gf0,_⟩:=rd_cells hblk1
 have hsl1:=hsl.ch hf.2.2 (fun _ _ _ h=>h)
 have fin:∀ (A':Option Addr) (c':Nat),(c=n∧c'=0)∨(A'=some ⟨b,off+n,none⟩∧c'=c-n) →
   Row w v (xs.take n) (w1.setCell ⟨br,0,none⟩ (.slice A' (xs.length-n) c'))∧RdQ Q (w1.setCell ⟨br,0,none⟩ (.slice A' (xs.length-n) c')) br false (xs.drop n)∧Ch (RS br) w (w1.setCell ⟨br,0,none⟩ (.slice A' (xs.length-n) c')):=fun A' c' hA=>by
  obtain⟨h1,h2⟩:=rd_cut hblk1 hsl1 HB.out (k:=n) hn hnc hcm hA
  refine⟨⟨h2.own hf.1 fun g hg hs=>?_,hf.2.1⟩,h1,(hf.2.2.mono (S:=RS br) fun _ _ h=>h.elim).trans h2 fun _ _ h=>h⟩
  have:=hf.2.1 g hg
  have hs':g=br:=hs
  omega
 have FIN:=Lib.hid fin
 clear hf hblk1 hc0 hf0 hf1 hj fin e1 hsl1
 by_cases hcap:c=n
 ·have hP:=FIN.out (some ⟨b,off,none⟩) 0 (.inl ⟨hcap,rfl⟩)
  have HP:=Lib.hid hP
  clear hP FIN
  go_wp2_with fail
  go_ret
  exact⟨_,rfl,HP.out⟩
 ·have hP:=FIN.out (some ⟨b,off+n,none⟩) (c-n) (.inr ⟨rfl,rfl⟩)
  have HP:=Lib.hid hP
  clear hP FIN
  go_wp2_with fail
  go_ret
  exact⟨_,rfl,HP.out⟩
def RowPost (Q:Nat→Prop) (w:World) (br:Nat) (xs:List Int) (e:Ending) (w':World):Prop :=
 match takeN 0 0 xs with
 | none=>e = .returned (.slice none 0 0)∧RdQ Q w' br true []∧Ch (RS br) w w'
 | some (m,r)=>if r.length<m then e = .returned (.slice none 0 0)∧RdQ Q w' br true []∧Ch (RS br) w w'
  else ∃ v,e = .returned v∧Row w v (r.take m) w'∧RdQ Q w' br false (r.drop m)∧Ch (RS br) w w'
theorem takeN_len:∀ (xs:List Int) (i n m:Nat) (r:List Int),takeN i n xs=some (m,r)→r.length<xs.length:=by
 intro xs
 induction xs with
 | nil=>intro i n m r h; simp[takeN] at h
 | cons b l ih =>
  intro i n m r h
  unfold takeN at h
  split at h
  ·cases h
  ·split at h
   ·have:=ih _ _ _ _ h
    simp; omega
   ·split at h
    ·cases h
    ·simp only[Option.some.injEq,Prod.mk.injEq] at h
     obtain⟨_,rfl⟩:=h
     simp
theorem rbytes_any (br:Nat) (bad:Bool) (xs:List Int) (w:World) (hr:RdQ Q w br bad xs) (hm:xs.length≤100000000000000) :
  Calls Tryz.prog 118 #[.pointer (some ⟨br,0,none⟩)] w (RowPost Q w br xs):=by
 have HR:=Lib.hid hr
 clear hr
 cases ht:takeN 0 0 xs with
 | none =>
  have HT:=Lib.hid ht
  clear ht
  go_enter Tryz.func118,Tryz.ntmps118
  go_wp2_with fail
  refine (num_any br bad xs _ HR.out).mono ?_
  intro e w1 h1
  unfold NumPost at h1
  rw[HT.out] at h1
  obtain⟨rfl,h1,h2⟩:=h1
  have H1:=Lib.hid h1
  have H2:=Lib.hid h2
  clear h1 h2
  go_wp2_with fail
  refine (rraw_zero br true [] _ H1.out).mono ?_
  rintro e w2 ⟨rfl,rfl⟩
  go_wp2
  go_ret
  unfold RowPost
  rw[HT.out]
  exact⟨rfl,H1.out,H2.out⟩
 | some y =>
  obtain⟨m,r⟩:=y
  have hlr:=takeN_len _ _ _ _ _ ht
  have HT:=Lib.hid ht
  clear ht
  go_enter Tryz.func118,Tryz.ntmps118
  go_wp2_with fail
  refine (num_any br bad xs _ HR.out).mono ?_
  intro e w1 h1
  unfold NumPost at h1
  rw[HT.out] at h1
  obtain⟨rfl,h1,h2⟩:=h1
  have H1:=Lib.hid h1
  have H2:=Lib.hid h2
  clear h1 h2
  by_cases hbig:r.length<m
  ·go_wp2_with fail
   refine (rraw_no br false r m _ H1.out (.inr (by omega))).mono ?_
   rintro e w2 ⟨rfl,g1,g2⟩
   go_wp2
   go_ret
   unfold RowPost
   rw[HT.out]
   simp only[if_pos hbig]
   exact⟨rfl,g1,H2.out.trans g2 fun _ _ h=>h⟩
  ·by_cases h0:m=0
   ·subst h0
    go_wp2_with fail
    refine (rraw_zero br false r _ H1.out).mono ?_
    rintro e w2 ⟨rfl,rfl⟩
    go_wp2
    go_ret
    unfold RowPost
    rw[HT.out]
    simp only[if_neg hbig]
    exact⟨_,rfl,⟨World.ownsRow_nil _ _ _ _,fun g hg=>by simp[Value.ownBlock] at hg⟩,H1.out,H2.out⟩
   ·go_wp2_with fail
    refine (rraw_some br r m _ H1.out (by omega) (by omega) (by omega)).mono ?_
    rintro e w2 ⟨v,rfl,g1,g2,g3⟩
    have hsz:=H2.out.size
    go_wp2
    go_ret
    unfold RowPost
    rw[HT.out]
    simp only[if_neg hbig]
    exact⟨_,rfl,⟨g1.1,fun g hg=>by have:=g1.2 g hg; omega⟩,g2,H2.out.trans g3 fun _ _ h=>h⟩
end
end
section
open Go.RowKit Go.Oct
theorem own_none (w:World) (e:TypeId):(w.alloc (.cells #[] e)).ownsRow 0 e 1 (.slice (some ⟨w.heap.size,0,none⟩) 0 0) 0 []:=World.ownsRow_made w #[] 0 (Nat.zero_le _) (by unfold maxLen; omega) rfl
end
section
open Go.RowKit Go.Oct
def Rf (Q:Nat→Prop) (w:World) (bf:Nat) (bad:Bool) (xs:List Int):Prop :=
 ∃ A n c,w.heap[bf]? = some (.cells #[.slice A n c, .bool bad] 113 (0,0))∧Sl w (fun b=>b≠bf∧Q b) .u8 A n xs∧n≤c∧c≤9223372036854775807∧Byt xs∧(bad=true→xs=[])
section
variable {Q:Nat→Prop}
theorem Rf.lt {w:World} {bf:Nat} {bad:Bool} {xs:List Int} (h:Rf Q w bf bad xs):bf<w.heap.size:=by
 obtain⟨A,n,c,hblk,_⟩:=h
 exact (Array.getElem?_eq_some_iff.1 hblk).1
theorem Rf.nil_ {w:World} {bf:Nat} {xs:List Int} (h:Rf Q w bf true xs):xs=[]:=by
 obtain⟨A,n,c,_,_,_,_,_,hb⟩:=h
 exact hb rfl
theorem Rf.ch {w w':World} {S:Nat→Prop} {bf:Nat} {bad:Bool} {xs:List Int} (h:Rf Q w bf bad xs) (hc:Ch S w w') (h0:¬ S bf) (hS:∀ b,Q b→b<w.heap.size→¬ S b):Rf Q w' bf bad xs:=by
 have hlt:=h.lt
 obtain⟨A,n,c,hblk,hsl,rest⟩:=h
 exact⟨A,n,c,(hc.block bf hlt h0).trans hblk,hsl.ch hc (fun b hq hb=>hS b hq.2 hb),rest⟩
theorem Rf.bad_ {w:World} {bf:Nat} {bad:Bool} {xs:List Int} (h:Rf Q w bf bad xs) :
  Rf Q ((w.setCell ⟨bf,1,none⟩ (.bool true)).setCell ⟨bf,0,none⟩ (.slice none 0 0)) bf true []∧Ch (RS bf) w ((w.setCell ⟨bf,1,none⟩ (.bool true)).setCell ⟨bf,0,none⟩ (.slice none 0 0)):=by
 obtain⟨A,n,c,hblk,_⟩:=h
 refine⟨⟨none,0,0,?_,Sl.nil _ _ _ _,Nat.le_refl _,by omega,fun x hx=>by simp at hx,fun _=>rfl⟩,((Ch.refl (RS bf) w).setCell (p:=⟨bf,1,none⟩) (.inl rfl) _).setCell (p:=⟨bf,0,none⟩) (.inl rfl) _⟩
 simp[World.setCell,Array.getElem?_modify,hblk]
theorem rf_cut {w:World} {bf k b off n c:Nat} {xs:List Int} (hblk:w.heap[bf]? = some (.cells #[.slice (some ⟨b,off,none⟩) n c, .bool false] 113 (0,0))) (hsl:Sl w (fun b=>b≠bf∧Q b) .u8 (some ⟨b,off,none⟩) n xs)
  (hby:Byt xs) (hk:k≤n) (hnc:n≤c) (hcm:c≤9223372036854775807) {A':Option Addr} {c':Nat} (hA:(c=k∧c'=0)∨(A'=some ⟨b,off+k,none⟩∧c'=c-k)) :
  Rf Q (w.setCell ⟨bf,0,none⟩ (.slice A' (n-k) c')) bf false (xs.drop k)∧Ch (RS bf) w (w.setCell ⟨bf,0,none⟩ (.slice A' (n-k) c')):=by
 have hC:Ch (RS bf) w (w.setCell ⟨bf,0,none⟩ (.slice A' (n-k) c')):=(Ch.refl (RS bf) w).setCell (p:=⟨bf,0,none⟩) (.inl rfl) _
 refine⟨⟨A',n-k,c',by simp[World.setCell,Array.getElem?_modify,hblk],?_,?_,?_,fun x hx=>hby x (List.mem_of_mem_drop hx),fun h=>by cases h⟩,hC⟩
 ·refine Sl.ch ?_ hC (fun b hb _ h=>hb.1 h)
  rcases hA with ⟨h1,_⟩ | ⟨rfl,_⟩
  ·have h0:n-k=0:=by omega
   have hl:=hsl.len
   rw[h0,List.drop_of_length_le (by omega)]
   exact Sl.nil _ _ _ _
  ·exact hsl.drop hk
 ·rcases hA with ⟨h1,rfl⟩ | ⟨_,rfl⟩ <;> omega
 ·rcases hA with ⟨h1,rfl⟩ | ⟨_,rfl⟩ <;> omega
theorem rfbad_any (bf:Nat) (bad:Bool) (xs:List Int) (w:World) (hr:Rf Q w bf bad xs) :
  Calls Tryz.prog 75 #[.pointer (some ⟨bf,0,none⟩)] w fun e w'=>e = .returned (.tuple #[])∧Rf Q w' bf true []∧Ch (RS bf) w w':=by
 have HR:=Lib.hid hr
 obtain⟨A,n,c,hblk,_⟩:=hr
 obtain⟨hc0,hc1,hf0,hf1⟩:=rd_cells hblk
 clear hblk
 go_enter Tryz.func75,Tryz.ntmps75
 go_wp2
 go_returns
 exact⟨rfl,HR.out.bad_⟩
theorem rfwhole_any (bf:Nat) (bad:Bool) (xs:List Int) (w:World) (hr:Rf Q w bf bad xs) :
  Calls Tryz.prog 76 #[.pointer (some ⟨bf,0,none⟩)] w fun e w'=>e = .returned (.bool (!bad&&xs.isEmpty))∧w=w':=by
 obtain⟨A,n,c,hblk,hsl,_⟩:=hr
 have hl:xs.isEmpty=((n:Int)==0):=by
  rw[←hsl.len]
  cases xs <;> simp <;> omega
 rw[hl]
 obtain⟨hc0,hc1,hf0,hf1⟩:=rd_cells hblk
 clear hblk hl
 cases bad
 ·go_enter Tryz.func76,Tryz.ntmps76
  go_wp2
  go_ret
  exact⟨rfl,rfl⟩
 ·go_enter Tryz.func76,Tryz.ntmps76
  go_wp2
  go_ret
  exact⟨rfl,rfl⟩
theorem rfraw_no (bf:Nat) (bad:Bool) (xs:List Int) (n:Int) (w:World) (hr:Rf Q w bf bad xs) (hn:n<0∨(xs.length:Int)<n) :
  Calls Tryz.prog 72 #[.pointer (some ⟨bf,0,none⟩), .int .i64 n] w fun e w'=>e = .returned (.slice none 0 0)∧Rf Q w' bf true []∧Ch (RS bf) w w':=by
 have HR:=Lib.hid hr
 obtain⟨A,l,c,hblk,hsl,_⟩:=hr
 obtain rfl:=hsl.len
 obtain⟨hc0,hc1,hf0,hf1⟩:=rd_cells hblk
 clear hblk hsl
 have fin:∀ {w1:World},Rf Q w1 bf true []→w1.cell? ⟨bf,1,none⟩=some (.bool true):=fun h=>by
  obtain⟨_,_,_,hb,_⟩:=h
  exact (rd_cells hb).2.1
 rcases hn with h | h
 ·go_enter Tryz.func72,Tryz.ntmps72
  go_wp2_with fail
  refine (rfbad_any bf bad xs _ HR.out).mono ?_
  rintro e w1 ⟨rfl,h1,h2⟩
  have h3:=fin h1
  have H1:=Lib.hid h1
  have H2:=Lib.hid h2
  clear h1 h2 hc0 hc1 hf0 hf1 fin
  go_wp2
  go_ret
  exact⟨rfl,H1.out,H2.out⟩
 ·have h0:¬ n<0:=by omega
  go_enter Tryz.func72,Tryz.ntmps72
  go_wp2_with fail
  refine (rfbad_any bf bad xs _ HR.out).mono ?_
  rintro e w1 ⟨rfl,h1,h2⟩
  have h3:=fin h1
  have H1:=Lib.hid h1
  have H2:=Lib.hid h2
  clear h1 h2 hc0 hc1 hf0 hf1 fin
  go_wp2
  go_ret
  exact⟨rfl,H1.out,H2.out⟩
theorem rfraw_err (bf:Nat) (w:World) (hr:Rf Q w bf true []) :
  Calls Tryz.prog 72 #[.pointer (some ⟨bf,0,none⟩), .int .i64 0] w fun e w'=>e = .returned (.slice none 0 0)∧w=w':=by
 obtain⟨A,l,c,hblk,hsl,_⟩:=hr
 obtain rfl:=hsl.len
 obtain⟨hc0,hc1,hf0,hf1⟩:=rd_cells hblk
 clear hblk hsl
 go_enter Tryz.func72,Tryz.ntmps72
 go_wp2
 go_ret
 exact⟨rfl,rfl⟩
theorem rfraw_some (bf:Nat) (xs:List Int) (n:Nat) (w:World) (hr:Rf Q w bf false xs) (h0:0<xs.length) (hn:n≤xs.length) (hm:xs.length≤100000000000000) :
  Calls Tryz.prog 72 #[.pointer (some ⟨bf,0,none⟩), .int .i64 n] w fun e w'=>∃ v,e = .returned v∧Row w v (xs.take n) w'∧Rf Q w' bf false (xs.drop n)∧Ch (RS bf) w w':=by
 have HR:=Lib.hid hr
 obtain⟨A,l,c,hblk,hsl,hnc,hcm,hby,_⟩:=hr
 obtain rfl:=hsl.len
 obtain⟨hc0,hc1,hf0,hf1⟩:=rd_cells hblk
 obtain⟨b,off,_,rfl,hbr,_,_⟩:=hsl.at_ (k:=0) h0
 have hlen:(xs.take n).length=n:=by rw[List.length_take]; omega
 have HB:=Lib.hid hby
 have HK:=Lib.hid hblk
 have HL:=Lib.hid hlen
 have hC0:Ch (fun _=>False) w (w.alloc (.cells #[] 5)):=(Ch.refl _ _).alloc _
 have hst:=(hsl.take hn).ch hC0 (fun _ _ _ h=>h)
 have hca:=hC0.cell (p:=⟨bf,0,none⟩) (fun h=>h) hc0
 clear hblk hby hlen
 go_enter Tryz.func72,Tryz.ntmps72
 go_wp2_with (at_builtin; refine wp_app rfl (.tmp 23) (.tmp 29) Tb rfl rfl (own_none w 5) rfl hst ?c1 ?c2 ?c3 ?_)
 case c1=>exact ints_cells _ _
 case c2=>omega
 case c3=>omega
 intro v1 w1 ho1 hg1 hb1
 have hf1':Fresh w v1 (xs.take n) w1:=by
  have h0:Fresh w (.slice (some ⟨w.heap.size,0,none⟩) 0 0) [] (w.alloc (.cells #[] 5)):=⟨own_none w _,fun g hg=>by simp[Value.ownBlock] at hg; omega,hC0⟩
  exact h0.app (zs:=xs.take n) (m:=n) hg1 (by simpa using ho1) (by simpa using hb1)
 have hlt:=HR.out.lt
 have hblk1:w1.heap[bf]? = some (.cells #[.slice (some ⟨b,off,none⟩) xs.length c, .bool false] 113 (0,0)):=(hf1'.2.2.block bf hlt (fun h=>h)).trans HK.out
 obtain⟨gc0,_,gf0,_⟩:=rd_cells hblk1
 have hsl1:=hsl.ch hf1'.2.2 (fun _ _ _ h=>h)
 have fin:∀ (A':Option Addr) (c':Nat),(c=n∧c'=0)∨(A'=some ⟨b,off+n,none⟩∧c'=c-n) →
   Row w v1 (xs.take n) (w1.setCell ⟨bf,0,none⟩ (.slice A' (xs.length-n) c'))∧Rf Q (w1.setCell ⟨bf,0,none⟩ (.slice A' (xs.length-n) c')) bf false (xs.drop n)∧Ch (RS bf) w (w1.setCell ⟨bf,0,none⟩ (.slice A' (xs.length-n) c')):=fun A' c' hA=>by
  obtain⟨h1,h2⟩:=rf_cut hblk1 hsl1 HB.out (k:=n) hn hnc hcm hA
  refine⟨⟨h2.own hf1'.1 fun g hg hs=>?_,hf1'.2.1⟩,h1,(hf1'.2.2.mono (S:=RS bf) fun _ _ h=>h.elim).trans h2 fun _ _ h=>h⟩
  have:=hf1'.2.1 g hg
  have hs':g=bf:=hs
  omega
 obtain⟨A1,c1,rfl,_,_⟩:=own_shape ho1
 have FIN:=Lib.hid fin
 clear hf1' hblk1 hc0 hc1 hf0 hf1 fin hsl1 ho1 hg1 hb1 hst hC0 hca
 by_cases hcap:c=n
 ·have hP:=FIN.out (some ⟨b,off,none⟩) 0 (.inl ⟨hcap,rfl⟩)
  have HP:=Lib.hid hP
  clear hP FIN
  go_wp2_with fail
  go_ret
  exact⟨_,rfl,HP.out⟩
 ·have hP:=FIN.out (some ⟨b,off+n,none⟩) (c-n) (.inr ⟨rfl,rfl⟩)
  have HP:=Lib.hid hP
  clear hP FIN
  go_wp2_with fail
  go_ret
  exact⟨_,rfl,HP.out⟩
theorem rfraw_none (bf:Nat) (w:World) (hr:Rf Q w bf false []) :
  Calls Tryz.prog 72 #[.pointer (some ⟨bf,0,none⟩), .int .i64 0] w fun e w'=>∃ v,e = .returned v∧Row w v [] w'∧Rf Q w' bf false []∧Ch (RS bf) w w':=by
 have HR:=Lib.hid hr
 obtain⟨A,l,c,hblk,hsl,hnc,hcm,hby,_⟩:=hr
 obtain rfl:=hsl.len
 obtain⟨hc0,hc1,hf0,hf1⟩:=rd_cells hblk
 have HK:=Lib.hid hblk
 have hC0:Ch (fun _=>False) w (w.alloc (.cells #[] 5)):=(Ch.refl _ _).alloc _
 have hca:=hC0.cell (p:=⟨bf,0,none⟩) (fun h=>h) hc0
 have hst:Sl (w.alloc (.cells #[] 5)) (fun _=>True) .u8 A 0 []:=Sl.nil _ _ _ _
 have hfin:∀ (v1:Value) (w1:World),w1.ownsRow 0 5 1 v1 0 []→(w.alloc (.cells #[] 5)).grownBy w1 (Value.slice (some ⟨w.heap.size,0,none⟩) 0 0).ownBlock→(v1.ownBlock=(Value.slice (some ⟨w.heap.size,0,none⟩) 0 0).ownBlock∨v1.ownBlock=some (w.alloc (.cells #[] 5)).heap.size) →
   w1.cell? ⟨bf,0,none⟩=some (.slice A 0 c)∧w1.frozen? ⟨bf,0,none⟩=false∧∀ (A':Option Addr) (c':Nat),c'≤9223372036854775807 →
   Row w v1 [] (w1.setCell ⟨bf,0,none⟩ (.slice A' 0 c'))∧Rf Q (w1.setCell ⟨bf,0,none⟩ (.slice A' 0 c')) bf false []∧Ch (RS bf) w (w1.setCell ⟨bf,0,none⟩ (.slice A' 0 c')):=by
  intro v1 w1 ho1 hg1 hb1
  have hf1':Fresh w v1 [] w1:=by
   have h0:Fresh w (.slice (some ⟨w.heap.size,0,none⟩) 0 0) [] (w.alloc (.cells #[] 5)):=⟨own_none w _,fun g hg=>by simp[Value.ownBlock] at hg; omega,hC0⟩
   exact h0.app (zs:=[]) (m:=0) hg1 (by simpa using ho1) hb1
  have hlt:=HR.out.lt
  have hblk1:w1.heap[bf]? = some (.cells #[.slice A 0 c, .bool false] 113 (0,0)):=(hf1'.2.2.block bf hlt (fun h=>h)).trans HK.out
  obtain⟨gc0,_,gf0,_⟩:=rd_cells hblk1
  refine⟨gc0,gf0,fun A' c' hA=>?_⟩
  have hC:Ch (RS bf) w1 (w1.setCell ⟨bf,0,none⟩ (.slice A' 0 c')):=(Ch.refl (RS bf) w1).setCell (p:=⟨bf,0,none⟩) (.inl rfl) _
  refine⟨⟨hC.own hf1'.1 fun g hg hs=>?_,hf1'.2.1⟩,⟨A',0,c',by simp[World.setCell,Array.getElem?_modify,hblk1],Sl.nil _ _ _ _,Nat.zero_le _,hA,fun x hx=>by simp at hx,fun h=>by cases h⟩,(hf1'.2.2.mono (S:=RS bf) fun _ _ h=>h.elim).trans hC fun _ _ h=>h⟩
  have:=hf1'.2.1 g hg
  have hs':g=bf:=hs
  omega
 have HFIN:=Lib.hid hfin
 clear hblk hby hsl hfin HK
 simp only[List.length_nil] at hc0 hca
 rcases A with _ | a
 all_goals
  go_enter Tryz.func72,Tryz.ntmps72
  go_wp2_with (at_builtin; refine wp_app rfl (.tmp 23) (.tmp 29) Tb rfl rfl (own_none w 5) rfl hst ?_ ?_ ?_ ?_)
  intro v1 w1 ho1 hg1 hb1
  obtain⟨gc0,gf0,hA⟩:=HFIN.out v1 w1 (by simpa using ho1) hg1 (by simpa using hb1)
  obtain⟨A1,c1,rfl,_,_⟩:=own_shape ho1
  have HA:=Lib.hid hA
  clear hc0 hc1 hf0 hf1 ho1 hg1 hb1 hst hC0 hca hA
  go_wp2_with fail
  go_ret
  exact⟨_,rfl,HA.out _ _ (by omega)⟩
theorem rfraw_yes (bf:Nat) (xs:List Int) (n:Nat) (w:World) (hr:Rf Q w bf false xs) (hn:n≤xs.length) (hm:xs.length≤100000000000000) :
  Calls Tryz.prog 72 #[.pointer (some ⟨bf,0,none⟩), .int .i64 n] w fun e w'=>∃ v,e = .returned v∧Row w v (xs.take n) w'∧Rf Q w' bf false (xs.drop n)∧Ch (RS bf) w w':=by
 rcases Nat.eq_zero_or_pos xs.length with h0 | h0
 ·obtain rfl:=List.eq_nil_of_length_eq_zero h0
  obtain rfl:n=0:=by simpa using hn
  simpa using rfraw_none bf w hr
 ·exact rfraw_some bf xs n w hr h0 hn hm
end
end
section
open Go.RowKit Go.Oct
theorem u8_and127 (x:Nat) (hx:x<256):bits .and .u8 (x:Int) 127=((x%128:Nat):Int):=by
 have:∀ x:Fin 256,bits .and .u8 ((x.val:Nat):Int) 127=((x.val%128:Nat):Int):=by decide +kernel
 exact this ⟨x,hx⟩
theorem u64_digit {m q k:Nat} (hm:m<128^k) (hk:k≤9) (hq:q*128^k<18446744073709551616):bits .or .u64 (m:Int) (IntKind.u64.wrap ((q:Int)*2^(7*k)))=((m+q*128^k:Nat):Int):=by
 have e:(q:Int)*2^(7*k)=((q*128^k:Nat):Int):=by
  rw[pow_cast]
  simp
 have e2:IntKind.u64.wrap ((q*128^k:Nat):Int)=((q*128^k:Nat):Int):=by
  rw[IntKind.wrap_u64]
  omega
 have h9:128^k≤9223372036854775808:=by
  have h:128^k≤128^9:=Nat.pow_le_pow_right (by omega) hk
  have e9:128^9=9223372036854775808:=by decide
  omega
 have hor:m ||| q*128^k=m+q*128^k:=by
  have e7:(128:Nat)^k=2^(7*k):=by rw[Nat.pow_mul]
  have h:=Nat.two_pow_add_eq_or_of_lt (i:=7*k) (b:=m) (by rw[←e7]; exact hm) q
  rw[←e7] at h
  rw[Nat.or_comm,Nat.mul_comm q,←h,Nat.add_comm]
 rw[e,e2]
 show IntKind.u64.wrap ((BitVec.ofInt 64 (m:Int) ||| BitVec.ofInt 64 ((q*128^k:Nat):Int)).toNat:Int)=_
 rw[BitVec.toNat_or,ofInt_u64 m (by omega),ofInt_u64 _ hq,hor,IntKind.wrap_u64]
 have hlt:m+q*128^k<18446744073709551616:=by
  rw[←hor]
  exact Nat.or_lt_two_pow (n:=64) (by omega) hq
 omega
section
variable {Q:Nat→Prop}
def RfPost (Q:Nat→Prop) (w:World) (bf:Nat) (xs:List Int) (e:Ending) (w':World):Prop :=
 match takeN 0 0 xs with
 | none=>e = .returned (.int .i64 0)∧Rf Q w' bf true []∧Ch (RS bf) w w'
 | some (m,r)=>e = .returned (.int .i64 m)∧Rf Q w' bf false r∧Ch (RS bf) w w'
theorem RfPost.none_ {w w':World} {bf:Nat} {xs:List Int} (h:takeN 0 0 xs=none) (h1:Rf Q w' bf true []) (h2:Ch (RS bf) w w'):RfPost Q w bf xs (.returned (.int .i64 0)) w':=by
 unfold RfPost
 rw[h]
 exact⟨rfl,h1,h2⟩
theorem RfPost.some_ {w w':World} {bf m:Nat} {xs r:List Int} (h:takeN 0 0 xs=some (m,r)) (h1:Rf Q w' bf false r) (h2:Ch (RS bf) w w'):RfPost Q w bf xs (.returned (.int .i64 m)) w':=by
 unfold RfPost
 rw[h]
 exact⟨rfl,h1,h2⟩
theorem rf_cell {w:World} {bf:Nat} {bad:Bool} {xs:List Int} (h:Rf Q w bf bad xs):w.cell? ⟨bf,1,none⟩=some (.bool bad):=by
 obtain⟨_,_,_,hb,_⟩:=h
 exact (rd_cells hb).2.1
theorem rfnum_good (bf:Nat) (xs:List Int) (w:World) (hr:Rf Q w bf false xs) (hm:xs.length≤100000000000000) (hby:Byt xs) :
  Calls Tryz.prog 73 #[.pointer (some ⟨bf,0,none⟩)] w (RfPost Q w bf xs):=by
 have HB:=Lib.hid hby
 clear hby
 go_enter Tryz.func73,Tryz.ntmps73
 go_wp2
 go_loopw [3,4] (fun u i wr=>∃ k m:Nat,k≤9∧k≤xs.length∧i = .int .i64 k∧u = .int .u64 m∧m<128^k∧takeN 0 0 xs=takeN k m (xs.drop k)∧Rf Q wr bf false (xs.drop k)∧Ch (RS bf) w wr) (fun _ i _=>10-(intOf i).toNat)
 case atStart=>exact⟨0,0,by omega,by omega,rfl,rfl,by omega,by simp,by simpa using hr,Ch.refl _ _⟩
 case round =>
  obtain⟨k,m,hk,hkn,rfl,rfl,hm1,htk,hrf,hch⟩:=hrel
  have HM:=Lib.hid hm1
  have HT:=Lib.hid htk
  have HRF:=Lib.hid hrf
  have HCH:=Lib.hid hch
  clear hm1 htk hrf hch
  by_cases hlt:k<xs.length
  ·have hrw:=rfraw_yes bf (xs.drop k) 1 wr HRF.out (by rw[List.length_drop]; omega) (by rw[List.length_drop]; omega)
   have ex:xs[k]? = some xs[k]:=List.getElem?_eq_getElem hlt
   have hx:=HB.out.at_ ex
   obtain⟨x,hxx⟩:=Int.cast_of hx.1
   rw[hxx] at ex hx
   rw[List.drop_eq_getElem_cons hlt,hxx] at hrw
   simp only[List.take_succ_cons,List.take_zero,List.drop_succ_cons,List.drop_zero] at hrw
   have HRW:=Lib.hid hrw
   have EX:=Lib.hid ex
   clear hrw ex hxx
   obtain⟨wo,rfl⟩:∃ wo:World,wo=wr:=⟨_,rfl⟩
   go_wp2_with fail
   refine HRW.out.mono ?_
   rintro e w1 ⟨v1,rfl,hrow,hrf1,hc1⟩
   clear HRW
   obtain⟨A1,c1,rfl,_,_⟩:=own_shape hrow.1
   obtain⟨b1,off1,x1,rfl,_,ex1,hcell⟩:=(Sl.of_own hrow.1).at_ (k:=0) (by simp)
   obtain rfl:x1=(x:Int):=by have:=ex1.out; simpa using this.symm
   have hE:=rf_cell hrf1
   rw[Nat.add_zero] at hcell
   have hch1:=HCH.out.trans hc1 fun _ _ h=>h
   have HRF1:=Lib.hid hrf1
   have HCH1:=Lib.hid hch1
   clear hrow hrf1 hc1 hch1 ex1
   obtain⟨q,eq⟩:∃ q,q=x%128:=⟨_,rfl⟩
   have hq:q<128:=by omega
   have hand:bits .and .u8 (x:Int) 127=(q:Int):=by rw[eq]; exact u8_and127 x (by omega)
   have EQ:=Lib.hid eq
   clear eq
   by_cases h9:k=9
   ·have hb9:((k:Int)==9)=true:=by rw[beq_iff_eq]; omega
    have hN:takeN 0 0 xs=none:=by
     rw[HT.out,h9]
     exact takeN_nine _ _
    have hk0:0<k:=by omega
    have H9:=Lib.hid h9
    have HN:=Lib.hid hN
    clear hN h9
    have hcase:127<x∨(1<x∧x≤127)∨x=0∨x=1:=by omega
    rcases hcase with h | ⟨h,h'⟩ | h | h
    ·go_wp2_with fail
     refine (rfbad_any bf false _ w1 HRF1.out).mono ?_
     rintro e w2 ⟨rfl,g1,g2⟩
     go_wp2
     go_ret
     exact RfPost.none_ HN.out g1 (HCH1.out.trans g2 fun _ _ h=>h)
    ·go_wp2_with fail
     refine (rfbad_any bf false _ w1 HRF1.out).mono ?_
     rintro e w2 ⟨rfl,g1,g2⟩
     go_wp2
     go_ret
     exact RfPost.none_ HN.out g1 (HCH1.out.trans g2 fun _ _ h=>h)
    ·have hxb:((x:Int)==0)=true:=by rw[beq_iff_eq]; omega
     have h1:¬ 127<x:=by omega
     have h2:¬ 1<x:=by omega
     clear h
     go_wp2_with fail
     refine (rfbad_any bf false _ w1 HRF1.out).mono ?_
     rintro e w2 ⟨rfl,g1,g2⟩
     go_wp2
     go_ret
     exact RfPost.none_ HN.out g1 (HCH1.out.trans g2 fun _ _ h=>h)
    ·have hxb:((x:Int)==0)=false:=by rw[beq_eq_false_iff_ne]; omega
     have h1:¬ 127<x:=by omega
     have h2:¬ 1<x:=by omega
     have hq1:q=1:=by rw[EQ.out,h]
     have hp9:q*128^k=9223372036854775808:=by rw[hq1,H9.out]
     obtain⟨s,es⟩:∃ s,s=m+q*128^k:=⟨_,rfl⟩
     have hwr:bits .or .u64 (m:Int) (IntKind.u64.wrap ((q:Int)*2^(7*k)))=(s:Int):=by rw[es]; exact u64_digit HM.out hk (by omega)
     have htop:4611686018427387904<s:=by omega
     clear h hq1 hp9 es
     go_wp2_with fail
     refine (rfbad_any bf false _ w1 HRF1.out).mono ?_
     rintro e w2 ⟨rfl,g1,g2⟩
     go_wp2
     go_ret
     exact RfPost.none_ HN.out g1 (HCH1.out.trans g2 fun _ _ h=>h)
   ·have hb9:((k:Int)==9)=false:=by rw[beq_eq_false_iff_ne]; omega
    obtain⟨s,es⟩:∃ s,s=m+x%128*128^k:=⟨_,rfl⟩
    have hp8:=pow_le8 (show k≤8 by omega)
    have hqp:q*128^k<18446744073709551616:=by
     have:q*128^k≤127*72057594037927936:=Nat.mul_le_mul (by omega) hp8
     omega
    have hwr:bits .or .u64 (m:Int) (IntKind.u64.wrap ((q:Int)*2^(7*k)))=(s:Int):=by rw[es,←EQ.out]; exact u64_digit HM.out hk hqp
    have hs1:s<128^(k+1):=by rw[es]; exact digit_lt HM.out
    have HS1:=Lib.hid hs1
    have ES:=Lib.hid es
    clear hs1 es hp8 hqp
    by_cases hbig:128≤x
    ·have hT:takeN 0 0 xs=takeN (k+1) s (xs.drop (k+1)):=by rw[HT.out,takeN_more EX.out h9 hbig,ES.out]
     have HT2:=Lib.hid hT
     have h1:127<x:=by omega
     clear hT
     go_wp2
     exact⟨⟨k+1,s,by omega,by omega,by go_num,rfl,HS1.out,HT2.out,HRF1.out,HCH1.out⟩,by simp[intOf]; omega⟩
    ·have hbig':x<128:=by omega
     have h1:¬ 127<x:=by omega
     clear hbig
     by_cases hz:x=0∧0<k
     ·obtain⟨hx0,hk0⟩:=hz
      have hN:takeN 0 0 xs=none:=by
       rw[HT.out]
       exact takeN_bad EX.out hbig' (.inr ⟨hx0,hk0⟩)
      have hxb:((x:Int)==0)=true:=by rw[beq_iff_eq]; omega
      have HN:=Lib.hid hN
      clear hN hx0
      go_wp2_with fail
      refine (rfbad_any bf false _ w1 HRF1.out).mono ?_
      rintro e w2 ⟨rfl,g1,g2⟩
      go_wp2
      go_ret
      exact RfPost.none_ HN.out g1 (HCH1.out.trans g2 fun _ _ h=>h)
     ·by_cases htop:4611686018427387904<s
      ·have hN:takeN 0 0 xs=none:=by
        rw[HT.out]
        exact takeN_bad EX.out hbig' (.inl (by rw[←ES.out,top62_eq]; exact htop))
       have HN:=Lib.hid hN
       clear hN
       by_cases hk0:0<k
       ·have hxb:((x:Int)==0)=false:=by rw[beq_eq_false_iff_ne]; omega
        clear hz
        go_wp2_with fail
        refine (rfbad_any bf false _ w1 HRF1.out).mono ?_
        rintro e w2 ⟨rfl,g1,g2⟩
        go_wp2
        go_ret
        exact RfPost.none_ HN.out g1 (HCH1.out.trans g2 fun _ _ h=>h)
       ·clear hz
        go_wp2_with fail
        refine (rfbad_any bf false _ w1 HRF1.out).mono ?_
        rintro e w2 ⟨rfl,g1,g2⟩
        go_wp2
        go_ret
        exact RfPost.none_ HN.out g1 (HCH1.out.trans g2 fun _ _ h=>h)
      ·have hS:takeN 0 0 xs=some (s,xs.drop (k+1)):=by
        rw[HT.out,takeN_done EX.out h9 hbig' (by rw[←ES.out,top62_eq]; omega) (fun h=>by omega),←ES.out]
       have HS:=Lib.hid hS
       clear hS
       by_cases hk0:0<k
       ·have hxb:((x:Int)==0)=false:=by rw[beq_eq_false_iff_ne]; omega
        clear hz
        go_wp2
        go_ret
        exact RfPost.some_ HS.out HRF1.out HCH1.out
       ·clear hz
        go_wp2
        go_ret
        exact RfPost.some_ HS.out HRF1.out HCH1.out
  ·obtain rfl:k=xs.length:=by omega
   have hN:takeN 0 0 xs=none:=by
    rw[HT.out,List.drop_of_length_le (Nat.le_refl _)]
    rfl
   have HN:=Lib.hid hN
   have hno:=rfraw_no bf false _ 1 wr HRF.out (.inr (by rw[List.length_drop]; omega))
   have HNO:=Lib.hid hno
   clear hN hno
   go_wp2_with fail
   refine HNO.out.mono ?_
   rintro e w1 ⟨rfl,g1,g2⟩
   have hE:=rf_cell g1
   have G1:=Lib.hid g1
   have G2:=Lib.hid g2
   clear g1 g2 HNO
   go_wp2
   go_ret
   exact RfPost.none_ HN.out G1.out (HCH.out.trans G2.out fun _ _ h=>h)
theorem Rf.byt {w:World} {bf:Nat} {bad:Bool} {xs:List Int} (h:Rf Q w bf bad xs):Byt xs:=by
 obtain⟨A,n,c,_,_,_,_,hb,_⟩:=h
 exact hb
theorem rfnum_any (bf:Nat) (bad:Bool) (xs:List Int) (w:World) (hr:Rf Q w bf bad xs) (hm:xs.length≤100000000000000) :
  Calls Tryz.prog 73 #[.pointer (some ⟨bf,0,none⟩)] w (RfPost Q w bf xs):=by
 cases bad
 ·exact rfnum_good bf xs w hr hm hr.byt
 ·obtain rfl:=hr.nil_
  have hno:=rfraw_no bf true [] 1 w hr (.inr (by simp))
  have HNO:=Lib.hid hno
  clear hno hr
  go_enter Tryz.func73,Tryz.ntmps73
  go_wp2
  refine wp_loop_rounds 1 ?_
  rw[rounds_succ]
  go_wp2_with fail
  refine HNO.out.mono ?_
  rintro e w1 ⟨rfl,g1,g2⟩
  have hE:=rf_cell g1
  have G1:=Lib.hid g1
  have G2:=Lib.hid g2
  clear g1 g2 HNO
  go_wp2
  go_ret
  exact RfPost.none_ rfl G1.out G2.out
def RfRow (Q:Nat→Prop) (w:World) (bf:Nat) (xs:List Int) (e:Ending) (w':World):Prop :=
 match takeN 0 0 xs with
 | none=>e = .returned (.slice none 0 0)∧Rf Q w' bf true []∧Ch (RS bf) w w'
 | some (m,r)=>if r.length<m then e = .returned (.slice none 0 0)∧Rf Q w' bf true []∧Ch (RS bf) w w'
  else ∃ v,e = .returned v∧Row w v (r.take m) w'∧Rf Q w' bf false (r.drop m)∧Ch (RS bf) w w'
theorem rfbytes_any (bf:Nat) (bad:Bool) (xs:List Int) (w:World) (hr:Rf Q w bf bad xs) (hm:xs.length≤100000000000000) :
  Calls Tryz.prog 74 #[.pointer (some ⟨bf,0,none⟩)] w (RfRow Q w bf xs):=by
 have hnum:=rfnum_any bf bad xs w hr hm
 have HNUM:=Lib.hid hnum
 clear hnum hr
 go_enter Tryz.func74,Tryz.ntmps74
 go_wp2_with fail
 refine HNUM.out.mono ?_
 intro e w1 h1
 clear HNUM
 unfold RfPost at h1
 cases ht:takeN 0 0 xs with
 | none =>
  have HT:=Lib.hid ht
  rw[ht] at h1
  obtain⟨rfl,g1,g2⟩:=h1
  have hE:=rf_cell g1
  have G1:=Lib.hid g1
  have G2:=Lib.hid g2
  clear g1 g2 ht
  go_wp2
  go_ret
  unfold RfRow
  rw[HT.out]
  exact⟨rfl,G1.out,G2.out⟩
 | some y =>
  obtain⟨m,r⟩:=y
  have hlr:=takeN_len _ _ _ _ _ ht
  have HT:=Lib.hid ht
  rw[ht] at h1
  obtain⟨rfl,g1,g2⟩:=h1
  have hE:=rf_cell g1
  have G1:=Lib.hid g1
  have G2:=Lib.hid g2
  clear g1 g2 ht
  by_cases hbig:r.length<m
  ·go_wp2_with fail
   refine (rfraw_no bf false r m _ G1.out (.inr (by omega))).mono ?_
   rintro e w2 ⟨rfl,k1,k2⟩
   have hc:=G2.out.trans k2 fun _ _ h=>h
   clear k2
   go_wp2
   go_ret
   unfold RfRow
   rw[HT.out]
   simp only[if_pos hbig]
   exact⟨rfl,k1,hc⟩
  ·go_wp2_with fail
   refine (rfraw_yes bf r m _ G1.out (by omega) (by omega)).mono ?_
   rintro e w2 ⟨v,rfl,k0,k1,k2⟩
   have hc:=G2.out.trans k2 fun _ _ h=>h
   have hsz:=G2.out.size
   clear k2
   go_wp2
   go_ret
   unfold RfRow
   rw[HT.out]
   simp only[if_neg hbig]
   exact⟨_,rfl,⟨k0.1,fun g hg=>by have:=k0.2 g hg; omega⟩,k1,hc⟩
end
end
end Go.Proofs.YtambgjpfoceieaaGreatDoor.O
