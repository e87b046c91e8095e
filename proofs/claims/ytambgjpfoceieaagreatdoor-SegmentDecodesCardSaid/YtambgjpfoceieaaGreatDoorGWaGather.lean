/- Lemmas and contracts of this proof. Conditions: said at each. -/
import Derived.Test.YtambgjpfoceieaaGreatDoorGBiMake
import Derived.Deep.RegionHeld3
set_option maxHeartbeats 4000000
namespace Go.Proofs.YtambgjpfoceieaaGreatDoor.W
section
open Go.RowKit Go.Oct Go.Bi Go.Wa
def Lvs (w:World) (F:Nat→Prop) (g W:Nat) (l:List Nat):Prop :=
 ∀ d,d<W→∃ v:Nat,w.cell? ⟨g,d*2,none⟩=some (.pointer (some ⟨v,0,none⟩))∧w.cell? ⟨g,d*2+1,none⟩=some (.int .i64 ((bt W l d).count false:Nat))∧Vec w F v (bt W l d)
theorem Lvs.keep {w w':World} {F:Nat→Prop} {g W:Nat} {l:List Nat} (h:Lvs w F g W l) (hc:Ch (fun _=>False) w w'):Lvs w' F g W l:=fun d hd=>by
 obtain⟨v,k1,k2,k3⟩:=h d hd
 exact⟨v,hc.cell (fun h=>h) k1,hc.cell (fun h=>h) k2,k3.keep hc⟩
theorem Tr.lvs {w:World} {F:Nat→Prop} {b W:Nat} {l:List Nat} (h:Tr w F b W l):∃ g:Nat,w.cell? ⟨b,0,none⟩=some (.slice (some ⟨g,0,none⟩) W W)∧Lvs w F g W l:=by
 obtain⟨_,_,_,_,g,h5,_,_,h8⟩:=h
 exact⟨g,h5,h8⟩
theorem down_is {F:Nat→Prop} (v i:Nat) (l:List Bool) (o:Bool) (z:Int) (w:World) (h:Vec w F v l) (hz:z=(l.count false:Nat)) :
  Calls Tryz.prog 195 #[.agg #[.pointer (some ⟨v,0,none⟩), .int .i64 z], .bool o, .int .i64 i] w fun e w'=>e = .returned (.int .i64 (dn l o i:Nat))∧Ch (fun _=>False) w w':=down_any v i _ l o z w h hz rfl
theorem gather_any (b W c i:Nat) (l:List Nat) (w:World) (F:Nat→Prop) (h:Tr w F b W l) (hc:c<2^W) (hi:i≤l.length) :
  Calls Tryz.prog 223 #[.pointer (some ⟨b,0,none⟩), .int .i64 c, .int .i64 i] w fun e w'=>e = .returned (.tuple #[.int .i64 (D W l c W 0:Nat), .int .i64 (D W l c W i:Nat)])∧Ch (fun _=>False) w w':=by
 have hW:=h.hi
 obtain⟨g,h5,h8⟩:=h.lvs
 have HL:=Bx.mk h8
 have HC0:=Bx.mk hc
 have HI:=Bx.mk hi
 clear h8 h hc hi
 go_enter Tryz.func223,Tryz.ntmps223
 go_wp2
 go_loopw [6,7,8,9,10,17] (fun f t _ _ _ j wr=>∃ d:Nat,d≤W∧j = .int .i64 d∧f = .int .i64 (D W l c d 0:Nat)∧t = .int .i64 (D W l c d i:Nat)∧Ch (fun _=>False) w wr) (fun _ _ _ _ _ j _=>W-(intOf j).toNat)
 case atStart=>exact⟨0,Nat.zero_le _,rfl,rfl,rfl,Ch.refl _ _⟩
 case round =>
  obtain⟨d,hd,rfl,rfl,rfl,hC⟩:=hrel
  by_cases hlt:d<W
  ·obtain⟨v,k1,k2,k3⟩:=(HL.out.keep hC) d hlt
   have h5':=hC.cell (fun h=>h) h5
   have HV:=Bx.mk k3
   have HC:=Bx.mk hC
   have HF:Bx (dn (bt W l d) (dgt W d c) (D W l c d 0)=D W l c (d+1) 0):=⟨rfl⟩
   have HG:Bx (dn (bt W l d) (dgt W d c) (D W l c d i)=D W l c (d+1) i):=⟨rfl⟩
   have HB:=Bx.mk (rfl:dgt W d c=dgt W d c)
   generalize hf2:D W l c (d+1) 0=f2 at *
   generalize ht2:D W l c (d+1) i=t2 at *
   have HF2:=Bx.mk hf2
   have HT2:=Bx.mk ht2
   clear hf2 ht2
   generalize D W l c d 0=f1 at *
   generalize D W l c d i=t1 at *
   generalize hq:(bt W l d).count false=q at *
   generalize hr:dgt W d c=r at *
   clear k3 hC
   have HQ:=Bx.mk hq
   have HR:=Bx.mk hr
   clear hq hr
   go_wp2_with fail
   obtain⟨c0,c1⟩:=cells2 wr (.pointer (some ⟨v,0,none⟩)) (.int .i64 q) 208
   have hC1:=(Ch.refl (fun _=>False) wr).alloc (.cells #[.pointer (some ⟨v,0,none⟩), .int .i64 q] 208)
   have h51:=hC1.cell (fun h=>h) h5'
   have HC1:=Bx.mk (HC.out.trans hC1 (fun _ _ h=>h))
   have HV1:=Bx.mk (HV.out.keep hC1)
   clear hC1
   generalize wr.heap.size=B at *
   generalize World.alloc wr _=w1 at *
   have HZ:Bx ((q:Int)=((bt W l d).count false:Nat)):=⟨by rw[HQ.out]⟩
   refine (digit_any b W W c d _ r _ h51 hW hlt HC0.out HR.out).mono ?_
   rintro e w' ⟨rfl,rfl⟩
   generalize bt W l d=y at *
   go_wp2_with fail
   have hcc:=Ch.refl (fun _=>False) w1
   go_region_held3 (fun w'=>w'.cell? ⟨B,0,none⟩=some (.pointer (some ⟨v,0,none⟩))∧w'.cell? ⟨B,1,none⟩=some (.int .i64 q)) (first | go_keep | exact s2 | exact⟨c0,c1⟩) ((go_at_call 195; refine (down_is v _ y r q _ (by first | exact HV1.out.keep hcc | exact HV1.out) HZ.out).mono ?_; rintro e w2 ⟨rfl,hc2⟩; have hcc:Ch (fun _=>False) w1 w2:=(by first | exact hcc.trans hc2 (fun _ _ h=>h) | exact hcc.drew.trans hc2 (fun _ _ h=>h)); have s2:w2.cell? ⟨B,0,none⟩=some (.pointer (some ⟨v,0,none⟩))∧w2.cell? ⟨B,1,none⟩=some (.int .i64 q):=⟨hcc.cell (fun h=>h) c0,hcc.cell (fun h=>h) c1⟩))
   all_goals
    have HCC:=Bx.mk (HC1.out.trans hcc (fun _ _ h=>h))
    clear hcc hc2 s2
    rw[HF.out,HG.out]
    go_wp2
    go_roundw
    case rel=>exact⟨d+1,by omega,by go_num,by rw[HF2.out],by rw[HT2.out],HCC.out⟩
    case measure=>simp[intOf]; omega
  ·obtain rfl:d=W:=by omega
   go_wp2
   go_returns
   exact⟨rfl,hC⟩
end
section
open Go.RowKit Go.Oct Go.Bi Go.Wa
theorem fit_out {W:Nat} {c:Int} (hW:1≤W) (h:fitB W c=false):c<0∨((2^W:Nat):Int)≤c:=by
 unfold fitB at h
 have h1:decide (0<W)=true:=decide_eq_true hW
 rw[h1,Bool.true_and,Bool.and_eq_false_iff,decide_eq_false_iff_not,decide_eq_false_iff_not] at h
 omega
theorem fit_in {W:Nat} {c:Int} (h:fitB W c=true):∃ n:Nat,c=n∧n<2^W:=by
 unfold fitB at h
 rw[Bool.and_eq_true,Bool.and_eq_true,decide_eq_true_eq,decide_eq_true_eq,decide_eq_true_eq] at h
 exact⟨c.toNat,by omega,by omega⟩
section
variable {F:Nat→Prop}
theorem trank_any (b W:Nat) (l:List Nat) (c i r:Int) (w:World) (h:Tr w F b W l) (hr:((rk (hit l c) true i:Nat):Int)=r) :
  Calls Tryz.prog 181 #[.pointer (some ⟨b,0,none⟩), .int .i64 c, .int .i64 i] w fun e w'=>e = .returned (.int .i64 r)∧Ch (fun _=>False) w w':=by
 have hW:=h.hi
 have hW1:=h.lo
 have hs:=h.short
 obtain⟨g,h5⟩:=h.row
 have H:=Bx.mk h
 obtain⟨n,hn⟩:∃ n,l.length=n:=⟨_,rfl⟩
 rw[hn] at hs
 cases hf:fitB W c
 ·rw[hit_out h.lt (fit_out hW1 hf),rk_repl] at hr
  rw[if_neg (by decide)] at hr
  have hr0:r=0:=hr.symm
  subst hr0
  have HF:=Bx.mk hf
  clear h hf hr
  go_enter Tryz.func181,Tryz.ntmps181
  go_wp2_with fail
  refine (width_cell b W W _ _ h5).mono ?_
  rintro e w' ⟨rfl,rfl⟩
  go_wp2_with fail
  refine (fits_any W c false _ hW HF.out).mono ?_
  rintro e w' ⟨rfl,rfl⟩
  go_wp2
  go_ret
  exact⟨rfl,Ch.refl _ _⟩
 ·have HF:=Bx.mk hf
  obtain⟨m,rfl,hm⟩:=fit_in hf
  have HM:=Bx.mk hm
  obtain⟨k,hk⟩:∃ k,clip n i=k:=⟨_,rfl⟩
  have hkn:k≤n:=by rw[←hk]; unfold clip; omega
  have hkl:k≤l.length:=by omega
  obtain⟨d1,d2⟩:=D_rank h.lt hm hkl
  have d3:=D_le (W:=W) (c:=m) W hkl
  rw[rk_clip,hit_len,hn,show min i.toNat n=k from hk] at hr
  have HKL:=Bx.mk hkl
  have HG:∀ w',Tr w' F b W l→Calls Tryz.prog 223 #[.pointer (some ⟨b,0,none⟩), .int .i64 m, .int .i64 k] w' _:=fun w' h'=>gather_any b W m k l w' F h' hm hkl
  have HG:=Bx.mk HG
  generalize D W l m W 0=x at *
  generalize D W l m W k=y at *
  have hxy:(y:Int)-(x:Int)=r:=by omega
  have d4:y≤131072:=by omega
  have HXY:=Bx.mk hxy
  have HK:Bx (((clip n i:Nat):Int)=k):=⟨by rw[hk]⟩
  have HN:=Bx.mk hn
  clear h hf hr d1 hm hkl hk hn hxy
  go_enter Tryz.func181,Tryz.ntmps181
  go_wp2_with fail
  refine (width_cell b W W _ _ h5).mono ?_
  rintro e w' ⟨rfl,rfl⟩
  go_wp2_with fail
  refine (fits_any W m true _ hW HF.out).mono ?_
  rintro e w' ⟨rfl,rfl⟩
  go_wp2_with fail
  refine (within_any b W n l i _ H.out HN.out).mono ?_
  rintro e w' ⟨he,rfl⟩
  rw[HK.out] at he
  subst he
  go_wp2_with fail
  refine (HG.out _ H.out).mono ?_
  rintro e w1 ⟨rfl,hC⟩
  have HC:=Bx.mk hC
  clear hC
  go_wp2
  go_ret
  exact⟨ret_int (by have:=HXY.out; omega),HC.out⟩
end
end
section
open Go.RowKit Go.Oct Go.Bi Go.Wa
section
variable {F:Nat→Prop}
end
end
section
open Go.RowKit Go.Oct Go.Bi Go.Wa
section
variable {F:Nat→Prop}
theorem bget_val (b:Nat) (l:List Bool) (i:Int) (c:Bool) (w:World) (h:Vec w F b l) (hc:bitAt l i=c) :
  Calls Tryz.prog 128 #[.pointer (some ⟨b,0,none⟩), .int .i64 i] w fun e w'=>e = .returned (.bool c)∧w=w':=by
 subst hc
 exact get_any b l i w h
theorem tget_in (b W p c:Nat) (l:List Nat) (w:World) (h:Tr w F b W l) (hp:l[p]? = some c) :
  Calls Tryz.prog 134 #[.pointer (some ⟨b,0,none⟩), .int .i64 p] w fun e w'=>e = .returned (.int .i64 c)∧Ch (fun _=>False) w w':=by
 have hW:=h.hi
 have hs:=h.short
 have hpl:p<l.length:=(List.getElem?_eq_some_iff.1 hp).1
 obtain⟨g,h5,h8⟩:=h.lvs
 have HL:=Bx.mk h8
 have H:=Bx.mk h
 have hc:=h.lt c (List.mem_of_getElem? hp)
 have h16:=pow16 hW
 have HK:Bx (∀ d,top W d c≤65536):=⟨fun d=>Nat.le_trans (Nat.div_le_self _ _) (by omega)⟩
 have HA:Bx (∀ d,d≤W→(bt W l d)[D W l c d p]? = some (dgt W d c)):=⟨fun d hd=>bt_at h.lt hp hd⟩
 have HT0:=Bx.mk (top_zero hc)
 have HTW:=Bx.mk (top_all W c)
 obtain⟨n,hn⟩:∃ n,l.length=n:=⟨_,rfl⟩
 have HN:=Bx.mk hn
 rw[hn] at hpl
 have e1:decide ((p:Int)<0)=false:=by simp
 have e2:decide ((n:Int)≤(p:Int))=false:=by simp; omega
 have e3:decide (n≤p)=false:=by simp; omega
 clear h h8 hc h16 hp hn
 go_enter Tryz.func134,Tryz.ntmps134
 go_wp2_with fail
 refine (tlen_any b W n l _ H.out HN.out).mono ?_
 rintro e w' ⟨rfl,rfl⟩
 go_wp2_with fail
 go_loopw [1,5,7,8,22] (fun i a _ _ j wr=>∃ d:Nat,d≤W∧j = .int .i64 d∧i = .int .i64 (D W l c d p:Nat)∧a = .int .i64 (top W d c:Nat)∧Ch (fun _=>False) w wr) (fun _ _ _ _ j _=>W-(intOf j).toNat)
 case atStart=>exact⟨0,Nat.zero_le _,rfl,rfl,by rw[HT0.out]; rfl,Ch.refl _ _⟩
 case round =>
  obtain⟨d,hd,rfl,rfl,rfl,hC⟩:=hrel
  by_cases hlt:d<W
  ·obtain⟨v,k1,k2,k3⟩:=(HL.out.keep hC) d hlt
   have HV:=Bx.mk k3
   have HC:=Bx.mk hC
   have HG:Bx (dn (bt W l d) (dgt W d c) (D W l c d p)=D W l c (d+1) p):=⟨rfl⟩
   have ha:=HA.out d hd
   have hk0:=HK.out d
   have hk1:=HK.out (d+1)
   have hts:=top_succ hlt c
   generalize hf2:D W l c (d+1) p=f2 at *
   generalize hn2:top W (d+1) c=n2 at *
   generalize top W d c=n1 at *
   have HF2:=Bx.mk hf2
   have HN2:=Bx.mk hn2
   clear hf2 hn2
   generalize D W l c d p=f1 at *
   have hb:=bitAt_in ha
   generalize hr:dgt W d c=r at *
   have HB:=Bx.mk hb
   generalize hy:bt W l d=y at *
   generalize hq:y.count false=q at *
   have HZ:Bx ((q:Int)=(y.count false:Nat)):=⟨by rw[hq]⟩
   clear hr k3 hC hq hb ha
   go_wp2_with fail
   obtain⟨c0,c1⟩:=cells2 wr (.pointer (some ⟨v,0,none⟩)) (.int .i64 q) 208
   have hC1:=(Ch.refl (fun _=>False) wr).alloc (.cells #[.pointer (some ⟨v,0,none⟩), .int .i64 q] 208)
   have HC1:=Bx.mk (HC.out.trans hC1 (fun _ _ h=>h))
   have HV1:=Bx.mk (HV.out.keep hC1)
   clear hC1
   generalize wr.heap.size=B at *
   generalize World.alloc wr _=w1 at *
   refine (bget_val v y f1 r _ HV1.out HB.out).mono ?_
   rintro e w' ⟨rfl,rfl⟩
   clear hy
   go_wp2_with fail
   refine (down_is v f1 y r q _ HV1.out HZ.out).mono ?_
   rintro e w2 ⟨rfl,hc2⟩
   have HC2:=Bx.mk (HC1.out.trans hc2 (fun _ _ h=>h))
   clear hc2
   rw[HG.out]
   cases r
   ·have hn12:n2=2*n1:=hts
    clear hts
    go_wp2
    go_roundw
    case rel=>exact⟨d+1,by omega,by go_num,by rw[HF2.out],by rw[HN2.out]; go_num,HC2.out⟩
    case measure=>simp[intOf]; omega
   ·have hn12:n2=2*n1+1:=hts
    clear hts
    go_wp2
    go_roundw
    case rel=>exact⟨d+1,by omega,by go_num,by rw[HF2.out],by rw[HN2.out]; go_num,HC2.out⟩
    case measure=>simp[intOf]; omega
  ·obtain rfl:d=W:=by omega
   rw[HTW.out]
   go_wp2
   go_ret
   exact⟨rfl,hC⟩
end
end
section
open Go.RowKit Go.Oct Go.Bi Go.Wa
structure Own (w:World) (e:TypeId) (s g n c:Nat) (us:List Value):Prop where
 own:w.ownsRow 0 e s (.slice (some ⟨g,0,none⟩) n c) n us
section
variable {w w':World} {e:TypeId} {s g n c:Nat} {us:List Value}
theorem Own.stored (h:Own w e s g n c us) (j:Nat) (u:Value):Own (w.setCell ⟨g,j,none⟩ u) e s g n c (us.set j u)∧Ch (fun k=>k=g) w (w.setCell ⟨g,j,none⟩ u):=by
 obtain⟨ho,_⟩:=h.own.stored j u
 exact⟨⟨ho⟩,(Ch.refl (fun k=>k=g) w).setCell (p:=⟨g,j,none⟩) (.inl rfl) _⟩
theorem Own.len (h:Own w e s g n c us):us.length=n*s:=h.own.1
theorem Own.cellAt (h:Own w e s g n c us) {j:Nat} {u:Value} (hj:us[j]? = some u):w.cell? ⟨g,j,none⟩=some u:=by
 have hl:=h.len
 obtain⟨h1,_⟩:=List.getElem?_eq_some_iff.1 hj
 rw[h.own.cellAt j (by omega),hj]
theorem Own.frozenAt (h:Own w e s g n c us) (j:Nat):w.frozen? ⟨g,j,none⟩=false:=h.own.frozenAt j
theorem Own.ch {S:Nat→Prop} (h:Own w e s g n c us) (hc:Ch S w w') (hg:¬ S g):Own w' e s g n c us:=⟨hc.own h.own (fun k hk=>by simp[Value.ownBlock] at hk; subst hk; exact hg)⟩
theorem Own.keep (h:Own w e s g n c us) (hc:Ch (fun _=>False) w w'):Own w' e s g n c us:=h.ch hc (fun h=>h)
theorem Own.vs (h:Own w e 1 g n c us):Vs w (fun b=>b=g) (some ⟨g,0,none⟩) n us :=
 (Vs.of_own h.own).mono (G:=fun b=>b=g) fun b _ hb=>by simp[Value.ownBlock] at hb; exact hb.symm
end
theorem own_made1 (w:World) (e:TypeId) (z:Value) (n:Nat) (hn:n≤1048576):Own (w.alloc (.cells (madeCells #[z] n) e)) e 1 w.heap.size n n (List.replicate n z):=by
 refine⟨?_⟩
 have h:=World.ownsRow_lit (base:=0) (e:=e) (size:=1) w (madeCells #[z] n) n (Nat.zero_le _) (by unfold maxLen; omega) (by simp[madeCells])
 rw[made_list] at h
 exact h
theorem Own.storedI {w:World} {e:TypeId} {g n c:Nat} {xs:List Int} (h:Own w e 1 g n c (xs.map (Value.int .i64))) (j:Nat) (x:Int):Own (w.setCell ⟨g,j,none⟩ (.int .i64 x)) e 1 g n c ((xs.set j x).map (Value.int .i64))∧Ch (fun k=>k=g) w (w.setCell ⟨g,j,none⟩ (.int .i64 x)):=by
 have:=h.stored j (.int .i64 x)
 rwa[←List.map_set] at this
theorem Own.sl {w:World} {e:TypeId} {g n c:Nat} {xs:List Int} (h:Own w e 1 g n c (xs.map (Value.int .i64))):Sl w (fun b=>b=g) .i64 (some ⟨g,0,none⟩) n xs:=h.vs
theorem Own.cellI {w:World} {e:TypeId} {g n c:Nat} {xs:List Int} (h:Own w e 1 g n c (xs.map (Value.int .i64))) {j:Nat} (hj:j<n):w.cell? ⟨g,j,none⟩=some (.int .i64 (xs.getD j 0)):=by
 have hl:=h.len
 rw[List.length_map,Nat.mul_one] at hl
 refine h.cellAt ?_
 rw[List.getElem?_map,List.getElem?_eq_getElem (by omega),List.getD_eq_getElem?_getD,List.getElem?_eq_getElem (by omega)]
 rfl
def asI (l:List Nat):List Int:=l.map fun x:Nat=>(x:Int)
theorem asI_len (l:List Nat):(asI l).length=l.length:=List.length_map ..
def upI (l:List Nat) (k:Nat):List Int:=(asI l).take k++List.replicate (l.length-k) 0
theorem upI_zero (l:List Nat):upI l 0=List.replicate l.length 0:=by simp[upI]
theorem upI_all (l:List Nat):upI l l.length=asI l:=by
 unfold upI
 rw[List.take_of_length_le (by rw[asI_len]; omega),Nat.sub_self]
 simp
theorem upI_next {l:List Nat} {k x:Nat} (h:l[k]? = some x):(upI l k).set k (x:Int)=upI l (k+1):=by
 obtain⟨h1,h2⟩:=List.getElem?_eq_some_iff.1 h
 have h3:(asI l)[k]? = some (x:Int):=by unfold asI; rw[List.getElem?_map,h]; rfl
 unfold upI
 rw[List.take_add_one,h3,List.set_append_right _ _ (by rw[List.length_take]; omega),List.length_take,asI_len,Nat.min_eq_left (by omega),Nat.sub_self]
 obtain⟨m,hm⟩:∃ m,l.length-k=m+1:=⟨l.length-k-1,by omega⟩
 rw[hm,show l.length-(k+1)=m by omega,List.replicate_succ,List.set_cons_zero]
 simp
section
variable {F:Nat→Prop}
theorem mkI (w:World) (n:Nat) (hn:n≤1048576):(Instr.makeSlice 75 (.int .i64 (n:Int)) (.int .i64 (n:Int))).run Tryz.prog w = .ok (.slice (some ⟨w.heap.size,0,none⟩) n n) (w.alloc (.cells (madeCells #[.int .i64 0] n) 3)):=run_mk2 elemI n (by omega) (by omega) w
theorem tget_val (b W p c:Nat) (l:List Nat) (w:World) (h:Tr w F b W l) (hp:l[p]? = some c) :
  Calls Tryz.prog 134 #[.pointer (some ⟨b,0,none⟩), .int .i64 p] w fun e w'=>e = .returned (.int .i64 c)∧Ch (fun _=>False) w w':=tget_in b W p c l w h hp
theorem tall_any (b W n:Nat) (l:List Nat) (w:World) (h:Tr w F b W l) (hn:l.length=n) :
  Calls Tryz.prog 164 #[.pointer (some ⟨b,0,none⟩)] w fun e w'=>∃ g:Nat,e = .returned (.slice (some ⟨g,0,none⟩) n n)∧Own w' 3 1 g n n ((asI l).map (Value.int .i64))∧w.heap.size≤g∧Ch (fun _=>False) w w':=by
 have hs:=h.short
 rw[hn] at hs
 have hmk:=mkI w n (by omega)
 have H:=Bx.mk h
 have HN:=Bx.mk hn
 clear h hn
 go_enter Tryz.func164,Tryz.ntmps164
 go_wp2_with fail
 refine (tlen_any b W n l _ H.out HN.out).mono ?_
 rintro e w' ⟨rfl,rfl⟩
 go_wp2_with fail
 go_loopw [4,10] (fun _ i wr=>∃ k:Nat,k≤n∧i = .int .i64 k∧Own wr 3 1 w.heap.size n n ((upI l k).map (Value.int .i64))∧Ch (fun _=>False) w wr) (fun _ i _=>n-(intOf i).toNat)
 case atStart =>
  refine⟨0,Nat.zero_le _,rfl,?_,(Ch.refl _ _).alloc _⟩
  have:=own_made1 w 3 (.int .i64 0) n (by omega)
  rw[upI_zero,HN.out,List.map_replicate]
  exact this
 case round =>
  obtain⟨k,hk,rfl,hO,hC⟩:=hrel
  by_cases hlt:k<n
  ·have hx:l[k]? = some (l.getD k 0):=by rw[List.getD_eq_getElem?_getD,List.getElem?_eq_getElem (by rw[HN.out]; exact hlt)]; rfl
   generalize l.getD k 0=x at *
   have HX:=Bx.mk hx
   have HO:=Bx.mk hO
   have HC:=Bx.mk hC
   have HT:=Bx.mk (H.out.keep hC)
   clear hx hO hC
   go_wp2_with fail
   refine (tget_val b W k x l _ HT.out HX.out).mono ?_
   rintro e w1 ⟨rfl,hC1⟩
   have hO1:=HO.out.keep hC1
   have HC1:=Bx.mk (HC.out.trans hC1 (fun _ _ h=>h))
   have hcell:=hO1.cellI hlt
   have hfz:=hO1.frozenAt k
   have hst:=hO1.storedI k (x:Int)
   rw[upI_next HX.out] at hst
   have HST:=Bx.mk hst
   generalize (upI l k).getD k 0=old at *
   clear hC1 hst hO1
   go_wp2
   go_roundw
   case rel=>exact⟨k+1,by omega,by go_num,HST.out.1,HC1.out.trans HST.out.2 (fun i hi (e:i=w.heap.size)=>by omega)⟩
   case measure=>simp[intOf]; omega
  ·obtain rfl:k=n:=by omega
   have hl:=HN.out
   subst hl
   rw[upI_all] at hO
   go_wp2
   go_ret
   exact⟨_,rfl,hO,Nat.le_refl _,hC⟩
end
end
section
open Go.RowKit Go.Oct Go.Bi Go.Wa
def spUp (p:Nat→Bool) (l:List Nat) (k j:Nat):List Nat:=(if k=0 then [] else if k=1 then l.filter (fun x=>p x==false) else Wa.part p l)++(l.take j).filter (fun x=>p x==decide (k=1))
theorem spUp_zero (p:Nat→Bool) (l:List Nat):spUp p l 0 0=[]:=by unfold spUp; rw[if_pos rfl]; rfl
theorem spUp_turn {p:Nat→Bool} {l:List Nat} {k:Nat} (hk:k<2):spUp p l k l.length=spUp p l (k+1) 0:=by
 have hk':k=0∨k=1:=by omega
 unfold spUp
 rcases hk' with rfl | rfl
 ·rw[if_pos rfl,if_neg (by decide),if_pos rfl,List.take_length,List.take_zero,List.filter_nil,List.append_nil,List.nil_append]
  rfl
 ·rw[if_neg (by decide),if_pos rfl,if_neg (by decide),if_neg (by decide),List.take_length,List.take_zero,List.filter_nil,List.append_nil]
  rfl
theorem spUp_all (p:Nat→Bool) (l:List Nat):spUp p l 2 0=Wa.part p l:=by
 unfold spUp
 rw[if_neg (by decide),if_neg (by decide),List.take_zero,List.filter_nil,List.append_nil]
theorem spUp_yes {p:Nat→Bool} {l:List Nat} {k j x:Nat} (h:l[j]? = some x) (hp:p x=decide (k=1)):spUp p l k (j+1)=spUp p l k j++[x]:=by
 have h1:[x].filter (fun x=>p x==decide (k=1))=[x]:=by rw[List.filter_cons_of_pos (by rw[hp]; exact beq_self_eq_true _),List.filter_nil]
 unfold spUp
 rw[List.take_add_one,h,List.filter_append,List.append_assoc]
 exact congrArg _ (congrArg _ h1)
theorem spUp_no {p:Nat→Bool} {l:List Nat} {k j x:Nat} (h:l[j]? = some x) (hp:p x=!decide (k=1)):spUp p l k (j+1)=spUp p l k j:=by
 have h1:[x].filter (fun x=>p x==decide (k=1))=[]:=by rw[List.filter_cons_of_neg (by rw[hp]; cases decide (k=1) <;> decide),List.filter_nil]
 unfold spUp
 rw[List.take_add_one,h,List.filter_append]
 rw[show (some x).toList=[x] from rfl,h1,List.append_nil]
theorem spUp_len (p:Nat→Bool) (l:List Nat) (k j:Nat):(spUp p l k j).length≤2*l.length:=by
 unfold spUp
 rw[List.length_append]
 have h1:=List.length_filter_le (fun x=>p x==false) l
 have h2:=List.length_filter_le (fun x=>p x==decide (k=1)) (l.take j)
 have h3:=part_len p l
 rw[List.length_take] at h2
 split
 ·rw[List.length_nil]
  omega
 ·split <;> omega
def vals (l:List Nat):List Value:=l.map fun x:Nat=>Value.int .i64 (x:Int)
theorem vals_asI (l:List Nat):(asI l).map (Value.int .i64)=vals l:=by unfold asI vals; rw[List.map_map]; rfl
theorem run_mkI0 (n:Nat) (hn:n≤1048576) (w:World):(Instr.makeSlice 75 (.int .i64 0) (.int .i64 (n:Int))).run Tryz.prog w = .ok (.slice (some ⟨w.heap.size,0,none⟩) 0 n) (w.alloc (.cells (madeCells #[.int .i64 0] n) 3)):=run_mk elemI n (by omega) (by omega) w
structure Grow (w0 w:World) (B:Nat) (v:Value) (xs:List Nat):Prop where
 own:w.ownsRow 0 3 1 v xs.length (vals xs)
 ch:Ch (fun k=>k=B) w0 w
 lies:∃ g,v.ownBlock=some g∧(g=B∨w0.heap.size≤g)
theorem own_form {w:World} {base:Nat} {e:TypeId} {size n:Nat} {v:Value} {xs:List Value} (h:w.ownsRow base e size v n xs):(v = .slice none 0 0∧n=0)∨∃ g c,v = .slice (some ⟨g,0,none⟩) n c∧n≤c∧c≤maxLen:=by
 rcases h.2 with ⟨rfl,rfl⟩ | ⟨g,cap,cur,rfl,_,_,h1,h2,_⟩
 ·exact .inl ⟨rfl,rfl⟩
 ·exact .inr ⟨g,cap,rfl,h1,h2⟩
section
variable {F G:Nat→Prop}
theorem split_any (l:List Nat) (p:Nat→Bool) (n c c':Nat) (A A':Option Addr) (w:World) (hs:Sl w F .i64 A n (asI l)) (hb:Sb w G A' n (l.map p)) (hn:n≤131072) :
  Calls Tryz.prog 211 #[.slice A n c, .slice A' n c'] w fun e w'=>∃ (g cc:Nat),e = .returned (.slice (some ⟨g,0,none⟩) n cc)∧Sl w' (fun b=>b=g) .i64 (some ⟨g,0,none⟩) n (asI (Wa.part p l))∧w.heap.size≤g∧n≤cc∧cc≤maxLen∧Ch (fun _=>False) w w':=by
 have hl:l.length=n:=by rw[←asI_len]; exact hs.len
 have hs':=hs.mono (G:=fun b=>b<w.heap.size) (fun b h _=>h)
 have hb':Sb w (fun b=>b<w.heap.size) A' n (l.map p):=Vs.mono hb (fun b h _=>h)
 have HL:=Bx.mk hl
 have hmk:=run_mkI0 n (by omega) w
 clear hb hs hl
 go_enter Tryz.func211,Tryz.ntmps211
 go_wp2_with fail
 obtain⟨B,hB⟩:∃ B,w.heap.size=B:=⟨_,rfl⟩
 obtain⟨w0,hw0⟩:∃ w0,((w.alloc (.cells (madeCells #[.int .i64 0] n) 3)).alloc (.cells #[.bool false, .bool true] 4))=w0:=⟨_,rfl⟩
 have hC0:Ch (fun _=>False) w w0:=by rw[←hw0]; exact (((Ch.refl (fun _=>False) w).alloc _).alloc _)
 have hcc:w0.cell? ⟨B+1,0,none⟩=some (.bool false)∧w0.cell? ⟨B+1,1,none⟩=some (.bool true):=by
  have:=cells2 (w.alloc (.cells (madeCells #[.int .i64 0] n) 3)) (.bool false) (.bool true) 4
  rw[World.size_alloc,hB] at this
  rw[←hw0]
  exact this
 have hsz:w0.heap.size=B+2:=by rw[←hw0,World.size_alloc,World.size_alloc,hB]
 have hG0:Grow w0 w0 B (.slice (some ⟨B,0,none⟩) 0 n) (spUp p l 0 0):=by
  refine⟨?_,Ch.refl _ _,B,rfl, .inl rfl⟩
  rw[spUp_zero,←hw0,←hB]
  exact (World.ownsRow_made (base:=0) (e := 3) (size:=1) w (madeCells #[.int .i64 0] n) n (Nat.zero_le _) (by unfold maxLen; omega) (by simp[madeCells])).alloc _
 rw[hw0,hB]
 rw[hB] at hs' hb'
 have HS:Bx (Sl w0 (fun b=>b<B) .i64 A n (asI l)):=⟨hs'.ch hC0 (fun _ _ _ h=>h)⟩
 have HB:Bx (Sb w0 (fun b=>b<B) A' n (l.map p)):=⟨Vs.ch hb' hC0 (fun _ _ _ h=>h)⟩
 clear hs' hb'
 have HG0:=Bx.mk hG0
 have HC0:=Bx.mk hC0
 have HBB:=Bx.mk hB
 have HCC:=Bx.mk hcc
 clear hG0 hC0 hB hcc hw0
 go_loopw [5,7,8,9,15] (fun r _ _ _ i wr=>∃ k:Nat,k≤2∧i = .int .i64 k∧Grow w0 wr B r (spUp p l k 0)) (fun _ _ _ _ i _=>2-(intOf i).toNat)
 case atStart=>exact⟨0,by omega,rfl,HG0.out⟩
 case round =>
  obtain⟨k,hk,rfl,hG⟩:=hrel
  by_cases hlt:k<2
  ·have hcell:wr.cell? ⟨B+1,k,none⟩=some (.bool (decide (k=1))):=by
    have hk':k=0∨k=1:=by omega
    rcases hk' with rfl | rfl
    ·exact hG.ch.cell (p:=⟨B+1,0,none⟩) (fun h=>by have h':B+1=B:=h; omega) HCC.out.1
    ·exact hG.ch.cell (p:=⟨B+1,1,none⟩) (fun h=>by have h':B+1=B:=h; omega) HCC.out.2
   have HG:=Bx.mk hG
   obtain⟨o,ho⟩:∃ o,decide (k=1)=o:=⟨_,rfl⟩
   rw[ho] at hcell
   have HO:=Bx.mk ho
   have ek:decide ((k:Int)<2)=true:=by simp; omega
   clear hG ho
   go_wp2_with fail
   go_loopw [5,8,9,21] (fun r _ _ i wq=>∃ j:Nat,j≤n∧i = .int .i64 j∧Grow w0 wq B r (spUp p l k j)) (fun _ _ _ i _=>n-(intOf i).toNat)
   case atStart=>exact⟨0,Nat.zero_le _,rfl,HG.out⟩
   case round =>
    obtain⟨j,hj,rfl,hG⟩:=hrel
    by_cases hjl:j<n
    ·obtain⟨b1,o1,x0,rfl,_,hx0,hcx⟩:=(HS.out.ch hG.ch (fun b hb _ (h:b=B)=>by omega)).at_ hjl
     obtain⟨b2,o2,rfl,_,hcd⟩:=Sb.at_ (Vs.ch HB.out hG.ch (fun b hb _ (h:b=B)=>by omega)) hjl
     have hx:l[j]? = some (l.getD j 0):=by rw[List.getD_eq_getElem?_getD,List.getElem?_eq_getElem (by rw[HL.out]; exact hjl)]; rfl
     have hx0':=hx0.out
     unfold asI at hx0'
     rw[List.getElem?_map,hx] at hx0'
     simp only[Option.map_some,Option.some.injEq] at hx0'
     have hd:(l.map p).getD j false=p (l.getD j 0):=by rw[List.getD_eq_getElem?_getD,List.getElem?_map,hx]; rfl
     rw[hd] at hcd
     rw[←hx0'] at hcx
     generalize l.getD j 0=x at *
     have hlen:=spUp_len p l k j
     rw[HL.out] at hlen
     have HX:=Bx.mk hx
     have HG2:=Bx.mk hG
     obtain⟨A2,c2,rfl,_,_⟩:=own_shape hG.own
     clear hx hx0 hx0' hd hG
     by_cases hp:p x=o
     ·have HY:=Bx.mk (spUp_yes (p:=p) (k:=k) HX.out (by rw[hp,HO.out]))
      rw[hp] at hcd
      have HP:=Bx.mk hp
      clear hp
      go_wp2_with (at_builtin; refine wp_app rfl (.tmp 32) (.tmp 34) elemI rfl rfl (HG2.out.own.alloc _) rfl (Vs.one _ _ _) ?c1 ?c2 ?c3 ?_)
      case c1=>intro u hu; simp at hu; subst hu; rfl
      case c2=>omega
      case c3=>omega
      intro v' w2 ho1 hg1 hb1
      have hG3:Grow w0 w2 B v' (spUp p l k (j+1)):=by
       have hch:=(HG2.out.ch.alloc (.cells #[.int .i64 x] 3)).grown hg1 (fun q hq=>by
        obtain⟨q',hq',hl⟩:=HG2.out.lies
        obtain rfl:q'=q:=Option.some.inj (hq'.symm.trans hq)
        exact hl)
       refine⟨?_,hch,?_⟩
       ·rw[HY.out,List.length_append]
        unfold vals at *
        rw[List.map_append]
        exact ho1
       ·rcases hb1 with h | h
        ·rw[h]
         exact HG2.out.lies
        ·have:=HG2.out.ch.size
         exact⟨_,h, .inr (by omega)⟩
      have HG3:=Bx.mk hG3
      clear hG3 ho1 hg1 hb1
      go_wp2
      go_roundw
      case rel=>exact⟨j+1,by omega,by go_num,HG3.out⟩
      case measure=>simp[intOf]; omega
     ·have hp':p x=!o:=by cases o <;> cases h:p x <;> simp_all
      have HY:=Bx.mk (spUp_no (p:=p) (k:=k) HX.out (by rw[hp',HO.out]))
      have hne:((!o)==o)=false:=by cases o <;> rfl
      rw[hp'] at hcd
      clear hp hp'
      go_wp2
      go_roundw
      case rel=>exact⟨j+1,by omega,by go_num,by rw[HY.out]; exact HG2.out⟩
      case measure=>simp[intOf]; omega
    ·obtain rfl:j=n:=by omega
     have hl:=HL.out
     subst hl
     rw[spUp_turn hlt] at hG
     have HG2:=Bx.mk hG
     clear hG
     go_wp2
     go_roundw
     case rel=>exact⟨k+1,by omega,by go_num,HG2.out⟩
     case measure=>simp[intOf]; omega
  ·obtain rfl:k=2:=by omega
   rw[spUp_all] at hG
   have hpl:(Wa.part p l).length=n:=by rw[part_len]; exact HL.out
   have hC:Ch (fun _=>False) w wr:=HC0.out.trans hG.ch (fun i hi (e:i=B)=>by have:=HBB.out; omega)
   have ho:=hG.own
   rw[hpl] at ho
   obtain⟨g',hg',hlies⟩:=hG.lies
   rcases own_form ho with ⟨rfl,h0⟩ | ⟨g,cap,rfl,h1,h2⟩
   ·cases hg'
   ·have hg:B≤g:=by
     obtain rfl:g=g':=Option.some.inj hg'
     omega
    have HR:Bx (Sl wr (fun b=>b=g) .i64 (some ⟨g,0,none⟩) n (asI (Wa.part p l))):=⟨by
     rw[←vals_asI] at ho
     exact Own.sl ⟨ho⟩⟩
    have HC:=Bx.mk hC
    clear hG ho hlies hC hpl
    go_wp2
    go_ret
    exact⟨g,cap,rfl,HR.out,by have:=HBB.out; omega,h1,h2,HC.out⟩
end
end
section
open Go.RowKit Go.Oct Go.Bi Go.Wa
theorem ones_is' {F:Nat→Prop} (b:Nat) (l:List Bool) (r:Int) (w:World) (h:Vec w F b l) (hr:((l.count true:Nat):Int)=r) :
  Calls Tryz.prog 86 #[.pointer (some ⟨b,0,none⟩)] w fun e w'=>e = .returned (.int .i64 r)∧w=w':=by
 subst hr
 exact ones_any b l w h
theorem len_is' {F:Nat→Prop} (b:Nat) (l:List Bool) (r:Int) (w:World) (h:Vec w F b l) (hr:(l.length:Int)=r) :
  Calls Tryz.prog 131 #[.pointer (some ⟨b,0,none⟩)] w fun e w'=>e = .returned (.int .i64 r)∧w=w':=by
 subst hr
 exact len_any b l w h
theorem frozen_new (w:World) (us:Array Value) (t:TypeId) (j:Nat):(w.alloc (.cells us t)).frozen? ⟨w.heap.size,j,none⟩=false:=by
 have h:(w.alloc (.cells us t)).heap[w.heap.size]? = some (.cells us t):=heap_alloc_new w _
 unfold World.frozen?
 rw[h]
 simp
theorem lay_any (l:List Bool) (A:Option Addr) (n c z:Nat) (w:World) (F:Nat→Prop) (hs:Sb w F A n l) (hn:n≤131072) (hc:n≤c) (hcm:c≤maxLen) (hz:l.count false=z) :
  Calls Tryz.prog 210 #[.slice A n c] w fun e w'=>∃ v:Nat,e = .returned (.agg #[.pointer (some ⟨v,0,none⟩), .int .i64 z])∧Vec w' (fun k=>w.heap.size≤k) v l∧Ch (fun _=>False) w w':=by
 have hl:l.length=n:=Sb.len hs
 have hct:=count_both l
 obtain⟨q,hq⟩:∃ q,l.count true=q:=⟨_,rfl⟩
 rw[hq,hz,hl] at hct
 have HN:Bx ((l.length:Int)=n):=⟨by rw[hl]⟩
 have HQ:Bx (((l.count true:Nat):Int)=q):=⟨by rw[hq]⟩
 have hcm2:c≤9223372036854775807:=by unfold maxLen at hcm; omega
 obtain⟨R,hR⟩:∃ R,w.heap.size=R:=⟨_,rfl⟩
 have hs1:Sb (w.alloc (.cells #[.pointer none, .int .i64 0] 208)) F A n l:=Vs.ch hs ((Ch.refl (fun _=>False) w).alloc _) (fun _ _ _ h=>h)
 have HS1:=Bx.mk hs1
 clear hs hs1 hq hz hl hcm
 go_enter Tryz.func210,Tryz.ntmps210
 go_wp2_with fail
 obtain⟨d0,d1⟩:=cells2 w (.pointer none) (.int .i64 0) 208
 have hC0:=(Ch.refl (fun _=>False) w).alloc (.cells #[.pointer none, .int .i64 0] 208)
 refine (of_any l A n c _ F HS1.out (by omega) hc hcm2).mono ?_
 rintro e w1 ⟨v,rfl,hv,hC⟩
 have hR1:R<w1.heap.size:=by
  have:=hC.size
  rw[World.size_alloc] at this
  omega
 have d0':=hC.cell (p:=⟨w.heap.size,0,none⟩) (fun h=>h) d0
 have d1':=hC.cell (p:=⟨w.heap.size,1,none⟩) (fun h=>h) d1
 have hfz:∀ j,w1.frozen? ⟨w.heap.size,j,none⟩=false:=fun j=>by
  rw[hC.frozen (p:=⟨w.heap.size,j,none⟩) (fun h=>h) (by rw[World.size_alloc]; exact Nat.lt_succ_self _)]
  exact frozen_new w _ _ j
 have hf0:=hfz 0
 have hf1:=hfz 1
 have HV:=Bx.mk hv
 have HC:=Bx.mk (hC0.trans hC (fun _ _ h=>h))
 rw[hR] at d0' d1' hf0 hf1
 clear d0 d1 hC hC0 hv hfz
 go_wp2_with fail
 refine (len_is' v l n _ HV.out HN.out).mono ?_
 rintro e w' ⟨rfl,rfl⟩
 go_wp2_with fail
 refine (ones_is' v l q _ HV.out HQ.out).mono ?_
 rintro e w' ⟨rfl,rfl⟩
 have hnz:(n:Int)-(q:Int)=(z:Int):=by omega
 go_wp2
 generalize hw2:(World.setCell (World.setCell w1 _ _) _ _)=w2
 have hC2:Ch (fun k=>k=R) w1 w2:=by rw[←hw2]; exact ((Ch.refl (fun k=>k=R) w1).setCell (p:=⟨R,0,none⟩) (.inl rfl) _).setCell (p:=⟨R,1,none⟩) (.inl rfl) _
 have f0:w2.cell? ⟨R,0,none⟩=some (.pointer (some ⟨v,0,none⟩)):=by
  rw[←hw2,World.cell?_setCell_other _ _ _ _ (by intro h; simp only[Addr.mk.injEq] at h; omega),World.cell?_setCell_same _ _ _ d0']
 have f1:w2.cell? ⟨R,1,none⟩=some (.int .i64 z):=by
  have d2:(w1.setCell ⟨R,0,none⟩ (.pointer (some ⟨v,0,none⟩))).cell? ⟨R,1,none⟩=some (.int .i64 0):=by
   rw[World.cell?_setCell_other _ _ _ _ (by intro h; simp only[Addr.mk.injEq] at h; omega)]
   exact d1'
  rw[←hw2,World.cell?_setCell_same _ _ _ d2]
 clear hw2 d0' d1' hf0 hf1
 have hV2:Vec w2 (fun k=>w.heap.size≤k) v l:=(HV.out.ch hC2 (fun k hk _ (e:k=R)=>by rw[World.size_alloc] at hk; omega)).mono (fun k _ hk=>by rw[World.size_alloc] at hk; omega)
 have HW:=Bx.mk hV2
 have HC3:=Bx.mk (HC.out.trans hC2 (fun i hi (e:i=R)=>by omega))
 clear hV2 hC2
 refine bodyPost_ret (v := .agg #[.pointer (some ⟨v,0,none⟩), .int .i64 z]) (by simp[results,Tryz.results210,go_sem,f0,f1]; try rfl) rfl ?_
 exact⟨v,rfl,HW.out,HC3.out⟩
def bErr (W:Int) (xs:List Int):Int:=if W<1∨16<W then 1 else if 131072<xs.length then 5 else if xs.all (fitB W.toNat)=true then 0 else 1
section
variable {F:Nat→Prop}
theorem check_out (W:Int) (A:Option Addr) (n c:Nat) (r:Int) (w:World) (hn:n≤9223372036854775807) (h:((W<1∨16<W)∧r=1)∨(1≤W∧W≤16∧131072<n∧r=5)) :
  Calls Tryz.prog 208 #[.int .i64 W, .slice A n c] w fun e w'=>e = .returned (.int .i64 r)∧w=w':=by
 have h3:(W<1∧r=1)∨(1≤W∧16<W∧r=1)∨(1≤W∧W≤16∧131072<n∧r=5):=by omega
 clear h
 rcases h3 with ⟨h1,rfl⟩ | ⟨h1,h2,rfl⟩ | ⟨h1,h2,h3,rfl⟩
 all_goals
  go_enter Tryz.func208,Tryz.ntmps208
  go_wp2
  go_ret
  exact⟨rfl,rfl⟩
theorem all_next {p:Int→Bool} {xs:List Int} {k:Nat} {x:Int} (h:xs[k]? = some x) (h1:(xs.take k).all p=true) (h2:p x=true):(xs.take (k+1)).all p=true:=by
 rw[List.take_add_one,h,List.all_append,h1]
 simp[h2]
theorem all_not {p:Int→Bool} {xs:List Int} {k:Nat} {x:Int} (h:xs[k]? = some x) (h2:p x=false):xs.all p=false:=by
 rw[List.all_eq_false]
 exact⟨x,List.mem_of_getElem? h,by rw[h2]; decide⟩
theorem check_in (W:Nat) (xs:List Int) (A:Option Addr) (n c:Nat) (r:Int) (w:World) (hs:Sl w F .i64 A n xs) (hW1:1≤W) (hW2:W≤16) (hn:n≤131072) (hr:(if xs.all (fitB W)=true then 0 else 1)=r) :
  Calls Tryz.prog 208 #[.int .i64 W, .slice A n c] w fun e w'=>e = .returned (.int .i64 r)∧w=w':=by
 have hl:=hs.len
 have HRR:=Bx.mk hr
 have e1:decide ((W:Int)<1)=false:=by simp; omega
 have e2:decide (16<(W:Int))=false:=by simp; omega
 have e3:decide (131072<(n:Int))=false:=by simp; omega
 clear hr
 have HS:=Bx.mk hs
 have HL:=Bx.mk hl
 clear hs hl
 go_enter Tryz.func208,Tryz.ntmps208
 go_wp2_with fail
 go_loop [6,20] (fun _ i=>∃ k:Nat,k≤n∧i = .int .i64 k∧Bx ((xs.take k).all (fitB W)=true)) (fun _ i=>n-(intOf i).toNat)
 case atStart=>exact⟨0,Nat.zero_le _,rfl,⟨rfl⟩⟩
 case round =>
  obtain⟨k,hk,rfl,hA⟩:=hrel
  by_cases hlt:k<n
  ·obtain⟨b,off,x,rfl,_,hx,hcx⟩:=HS.out.at_ hlt
   have HX:=Bx.mk hx.out
   clear hx
   obtain⟨r,hr⟩:∃ r,fitB W x=r:=⟨_,rfl⟩
   have HR:=Bx.mk hr
   clear hr
   cases r
   ·go_wp2_with fail
    refine (fits_any W x false _ hW2 HR.out).mono ?_
    rintro e w' ⟨rfl,rfl⟩
    go_wp2
    go_ret
    exact⟨ret_int (by rw[←HRR.out,all_not HX.out HR.out]; rfl),rfl⟩
   ·go_wp2_with fail
    refine (fits_any W x true _ hW2 HR.out).mono ?_
    rintro e w' ⟨rfl,rfl⟩
    go_wp2
    go_round
    case rel=>exact⟨k+1,by omega,by go_num,⟨all_next HX.out hA.out HR.out⟩⟩
    case measure=>simp[intOf]; omega
  ·obtain rfl:k=n:=by omega
   have hA':=hA.out
   rw[List.take_of_length_le (by rw[HL.out]; omega)] at hA'
   have HA:=Bx.mk hA'
   clear hA' hA
   go_wp2
   go_ret
   exact⟨ret_int (by rw[←HRR.out,if_pos HA.out]),rfl⟩
theorem check_any (W:Int) (xs:List Int) (A:Option Addr) (n c:Nat) (r:Int) (w:World) (hs:Sl w F .i64 A n xs) (hn:n≤9223372036854775807) (hr:bErr W xs=r) :
  Calls Tryz.prog 208 #[.int .i64 W, .slice A n c] w fun e w'=>e = .returned (.int .i64 r)∧w=w':=by
 have hl:=hs.len
 unfold bErr at hr
 rw[hl] at hr
 by_cases h1:W<1∨16<W
 ·rw[if_pos h1] at hr
  exact check_out W A n c r w hn (.inl ⟨h1,hr.symm⟩)
 ·rw[if_neg h1] at hr
  by_cases h2:131072<n
  ·rw[if_pos h2] at hr
   exact check_out W A n c r w hn (.inr ⟨by omega,by omega,h2,hr.symm⟩)
  ·rw[if_neg h2] at hr
   obtain⟨m,rfl⟩:∃ m:Nat,W=m:=⟨W.toNat,by omega⟩
   rw[Int.toNat_natCast] at hr
   exact check_in m xs A n c r w hs (by omega) (by omega) (by omega) hr
end
end
section
open Go.RowKit Go.Oct Go.Bi Go.Wa
theorem elemB:Elem Tryz.prog 196 4 (.bool false) 1:=⟨Tryz.underlying196,by kernel_rfl,rfl⟩
theorem mkB (w:World) (n:Nat) (hn:n≤1048576):(Instr.makeSlice 196 (.int .i64 (n:Int)) (.int .i64 (n:Int))).run Tryz.prog w = .ok (.slice (some ⟨w.heap.size,0,none⟩) n n) (w.alloc (.cells (madeCells #[.bool false] n) 4)):=run_mk2 elemB n (by omega) (by omega) w
def lvlZ:Value := .agg #[.pointer none, .int .i64 0]
theorem infoL:(Tryz.prog.info? 208).map (fun i=>(i.zero,i.size,i.bytes))=some (some lvlZ,2,16):=by kernel_rfl
theorem mkL (w:World) (n:Nat) (hn:n≤1048576):(Instr.makeSlice 209 (.int .i64 (n:Int)) (.int .i64 (n:Int))).run Tryz.prog w = .ok (.slice (some ⟨w.heap.size,0,none⟩) n n) (w.alloc (.cells (madeCells lvlZ.cells (n*2)) 208)):=by
 obtain⟨i,hi,hz,hs,hby⟩:=info_parts infoL
 have hb':(i.bytes:Int)*(n:Int)≤281474976710656:=by
  rw[hby]
  have h:((16*n:Nat):Int)≤281474976710656:=by omega
  rwa[Int.natCast_mul] at h
 have hr:=run_make (P := Tryz.prog) w 209 208 i lvlZ Tryz.underlying209 hi hz .i64 .i64 n n (by omega) (by omega) hb' (by omega)
 simp only[Int.toNat_natCast,hs] at hr
 exact hr
theorem ownL (w:World) (n:Nat) (hn:n≤1048576):Own (w.alloc (.cells (madeCells lvlZ.cells (n*2)) 208)) 208 2 w.heap.size n n (madeCells lvlZ.cells (n*2)).toList :=
 ⟨World.ownsRow_lit (base:=0) (e := 208) (size:=2) w (madeCells lvlZ.cells (n*2)) n (Nat.zero_le _) (by unfold maxLen; omega) (by simp[madeCells])⟩
theorem ofUp_set {l:List Bool} {k:Nat} {b:Bool} (h:l[k]? = some b):((ofUp l k).map Value.bool).set k (.bool b)=(ofUp l (k+1)).map Value.bool:=by
 obtain⟨h1,h2⟩:=List.getElem?_eq_some_iff.1 h
 rw[←List.map_set]
 refine congrArg (List.map Value.bool) ?_
 apply List.ext_getElem
 ·simp[ofUp]
 ·intro i g1 g2
  rw[List.getElem_set]
  simp only[ofUp,List.getElem_map,List.getElem_range]
  by_cases e:k=i
  ·subst e
   rw[if_pos rfl,if_pos (by omega),List.getD_eq_getElem?_getD,h]
   rfl
  ·rw[if_neg e]
   by_cases e2:i<k
   ·rw[if_pos e2,if_pos (by omega)]
   ·rw[if_neg e2,if_neg (by omega)]
structure Way (w0 w:World) (G T W d n:Nat) (l:List Nat) (A:Option Addr):Prop where
 ch:Ch (fun k=>k=G) w0 w
 row:∃ us:List Value,Own w 208 2 G W W us∧∀ d',d'<d→∃ v:Nat,us[d'*2]? = some (.pointer (some ⟨v,0,none⟩))∧us[d'*2+1]? = some (.int .i64 ((bt W l d').count false:Nat))∧Vec w (fun k=>T<k) v (bt W l d')
 syms:Sl w (fun k=>k≠G) .i64 A n (asI (lv W l d))
theorem build_ok (W:Nat) (l:List Nat) (A:Option Addr) (n c:Nat) (w:World) (F:Nat→Prop) (hs:Sl w F .i64 A n (asI l)) (hW1:1≤W) (hW2:W≤16) (hn:n≤131072) (hlt:∀ x∈l,x<2^W) (hc:n≤c) (hcm:c≤maxLen) (hr:bErr W (asI l)=0) :
  Calls Tryz.prog 159 #[.int .i64 W, .slice A n c] w fun e w'=>∃ T:Nat,e = .returned (.tuple #[.pointer (some ⟨T,0,none⟩), .int .i64 0])∧Tr w' (fun k=>w.heap.size≤k) T W l∧Ch (fun _=>False) w w':=by
 have hl:l.length=n:=by rw[←asI_len]; exact hs.len
 have HS:=Bx.mk hs
 have HR:=Bx.mk hr
 have HL:=Bx.mk hl
 have HLT:=Bx.mk hlt
 have HCM:=Bx.mk hcm
 have hmk:=mkL w W (by omega)
 have ho:=ownL w W (by omega)
 generalize madeCells lvlZ.cells (W*2)=arr at *
 generalize hus:arr.toList=us0 at *
 have HO:=Bx.mk ho
 clear hs hr hl hlt ho hcm
 go_enter Tryz.func159,Tryz.ntmps159
 go_wp2_with fail
 refine (check_any W (asI l) A n c 0 _ HS.out (by omega) HR.out).mono ?_
 rintro e w' ⟨rfl,rfl⟩
 go_wp2_with fail
 obtain⟨G,hG⟩:∃ G,w.heap.size=G:=⟨_,rfl⟩
 obtain⟨w0,hw0⟩:∃ w0,((w.alloc (.cells arr 208)).alloc (.cells #[.slice (some ⟨w.heap.size,0,none⟩) W W] 211))=w0:=⟨_,rfl⟩
 have hC0:Ch (fun _=>False) w w0:=by rw[←hw0]; exact (((Ch.refl (fun _=>False) w).alloc _).alloc _)
 have hT0:w0.cell? ⟨G+1,0,none⟩=some (.slice (some ⟨G,0,none⟩) W W):=by
  rw[←hw0,←hG]
  exact cell_new_at (by rw[World.size_alloc])
 have hsz:w0.heap.size=G+2:=by rw[←hw0,World.size_alloc,World.size_alloc,hG]
 have hO0:Own w0 208 2 G W W us0:=by
  rw[←hw0,←hG]
  exact HO.out.keep ((Ch.refl (fun _=>False) _).alloc _)
 have hS0:Sl w0 (fun k=>k≠G) .i64 A n (asI l):=(HS.out.mono (G:=fun k=>k≠G) (fun b hb _=>by omega)).ch hC0 (fun _ _ _ h=>h)
 rw[hw0,hG]
 have HC0:=Bx.mk hC0
 have HT0:=Bx.mk hT0
 have HW0:Bx (Way w0 w0 G (G+1) W 0 n l A):=⟨⟨Ch.refl _ _,⟨us0,hO0,fun d' hd'=>absurd hd' (by omega)⟩,hS0⟩⟩
 have HGB:=Bx.mk hG
 clear hC0 hT0 hO0 hS0 hw0 hG HO HS hmk
 go_loopw [1,8,9,10,11,27] (fun s _ _ _ _ i wr=>∃ (d:Nat) (A':Option Addr) (c':Nat),d≤W∧i = .int .i64 d∧s = .slice A' n c'∧n≤c'∧c'≤maxLen∧Way w0 wr G (G+1) W d n l A') (fun _ _ _ _ _ i _=>W-(intOf i).toNat)
 case atStart=>exact⟨0,A,c,Nat.zero_le _,rfl,rfl,hc,HCM.out,HW0.out⟩
 case round =>
  obtain⟨d,A',c',hd,rfl,rfl,hc1,hc2,hWay⟩:=hrel
  by_cases hdW:d<W
  ·obtain⟨wo,rfl⟩:∃ wo:World,wo=wr:=⟨_,rfl⟩
   have ek:decide ((d:Int)<(W:Int))=true:=by simp; omega
   have hmk:=mkB wo n (by omega)
   have hcT:=hWay.ch.cell (p:=⟨G+1,0,none⟩) (fun h=>by have h':G+1=G:=h; omega) HT0.out
   have HWay:=Bx.mk hWay
   have HLV:Bx (∀ x∈lv W l d,x<2^W):=⟨fun x hx=>HLT.out x (lv_mem hx)⟩
   have HLL:Bx ((lv W l d).length=n):=⟨by rw[lv_len]; exact HL.out⟩
   have HBL:Bx ((bt W l d).length=n):=⟨by rw[bt_len]; exact HL.out⟩
   have HC2:=Bx.mk hc2
   have hwsz:G+2≤wo.heap.size:=by have:=hWay.ch.size; omega
   obtain⟨Dg,hDg⟩:∃ Dg,wo.heap.size=Dg:=⟨_,rfl⟩
   have hGD:G+2≤Dg:=by omega
   obtain⟨w1,hw1⟩:∃ w1,wo.alloc (.cells (madeCells #[.bool false] n) 4)=w1:=⟨_,rfl⟩
   have hC1:Ch (fun _=>False) wo w1:=by rw[←hw1]; exact (Ch.refl (fun _=>False) wo).alloc _
   have hO1:Own w1 4 1 Dg n n ((ofUp (bt W l d) 0).map Value.bool):=by
    rw[ofUp_zero,HBL.out,List.map_replicate,←hw1,←hDg]
    exact own_made1 wo 4 (.bool false) n (by omega)
   have hS1:Sl w1 (fun k=>k≠Dg) .i64 A' n (asI (lv W l d)):=(hWay.syms.mono (G:=fun k=>k≠Dg) (fun b hb _=>by omega)).ch hC1 (fun _ _ _ h=>h)
   have hcT1:=hC1.cell (fun h=>h) hcT
   have hsz1:w1.heap.size=Dg+1:=by rw[←hw1,World.size_alloc,hDg]
   have HO1:=Bx.mk hO1
   have HS1:=Bx.mk hS1
   have HC1:=Bx.mk hC1
   have HDg:=Bx.mk hDg
   clear hWay hc2 hO1 hS1 hC1
   go_wp2_with fail
   clear hw1 hDg hmk hcT
   go_loopw [10,11,35] (fun _ _ i wr=>∃ j:Nat,j≤n∧i = .int .i64 j∧Own wr 4 1 Dg n n ((ofUp (bt W l d) j).map Value.bool)∧Ch (fun k=>k=Dg) w1 wr) (fun _ _ i _=>n-(intOf i).toNat)
   case atStart=>exact⟨0,Nat.zero_le _,rfl,HO1.out,Ch.refl _ _⟩
   case round =>
    obtain⟨j,hj,rfl,hO,hC⟩:=hrel
    by_cases hjn:j<n
    ·obtain⟨b1,o1,x0,rfl,_,hx0,hcx⟩:=(HS1.out.ch hC (fun b hb _ (h:b=Dg)=>hb h)).at_ hjn
     have hx:(lv W l d)[j]? = some ((lv W l d).getD j 0):=by rw[List.getD_eq_getElem?_getD,List.getElem?_eq_getElem (by rw[HLL.out]; exact hjn)]; rfl
     have hx0':=hx0.out
     unfold asI at hx0'
     rw[List.getElem?_map,hx] at hx0'
     simp only[Option.map_some,Option.some.injEq] at hx0'
     rw[←hx0'] at hcx
     have hxm:=HLV.out _ (List.mem_of_getElem? hx)
     generalize (lv W l d).getD j 0=x at *
     have hbx:(bt W l d)[j]? = some (dgt W d x):=by unfold bt; rw[List.getElem?_map,hx]; rfl
     have hst:=hO.stored j (.bool (dgt W d x))
     rw[ofUp_set hbx] at hst
     obtain⟨r,hr⟩:∃ r,dgt W d x=r:=⟨_,rfl⟩
     rw[hr] at hst
     have hcd:=hO.cellAt (j:=j) (u := .bool ((ofUp (bt W l d) j).getD j false)) (by
      rw[List.getElem?_map,List.getD_eq_getElem?_getD,List.getElem?_eq_getElem (by rw[ofUp_len,HBL.out]; exact hjn)]
      rfl)
     have hfz:=hO.frozenAt j
     have hct:=hC.cell (p:=⟨G+1,0,none⟩) (fun h=>by have h':G+1=Dg:=h; omega) hcT1
     generalize (ofUp (bt W l d) j).getD j false=old at *
     have HST:=Bx.mk hst
     have HR2:=Bx.mk hr
     have HXM:=Bx.mk hxm
     have HCQ:=Bx.mk hC
     clear hst hr hx hx0 hx0' hbx hO hC hxm
     go_wp2_with fail
     refine (digit_any (G+1) W W x d _ r _ hct hW2 hdW HXM.out HR2.out).mono ?_
     rintro e w' ⟨rfl,rfl⟩
     go_wp2
     go_roundw
     case rel=>exact⟨j+1,by omega,by go_num,HST.out.1,HCQ.out.trans HST.out.2 (fun i hi (h:i=Dg)=>h)⟩
     case measure=>simp[intOf]; omega
    ·have hjn':j=n:=by omega
     have eAll:ofUp (bt W l d) n=bt W l d:=by
      rw[←HBL.out]
      exact ofUp_all _
     rw[hjn',eAll] at hO
     have hCq:Ch (fun _=>False) wo wr:=HC1.out.trans hC (fun i hi (h:i=Dg)=>by have:=HDg.out; omega)
     obtain⟨us,hus,hlv⟩:=HWay.out.row
     have husq:=hus.keep hCq
     have hul:=hus.len
     have hg0:us[d*2]? = some us[d*2]:=List.getElem?_eq_getElem (by omega)
     have hg1:us[d*2+1]? = some us[d*2+1]:=List.getElem?_eq_getElem (by omega)
     have hc0:=husq.cellAt hg0
     have hc1':=husq.cellAt hg1
     have hf0:=husq.frozenAt (d*2)
     have hf1:=husq.frozenAt (d*2+1)
     have hcTq:=hCq.cell (p:=⟨G+1,0,none⟩) (fun h=>h) (HWay.out.ch.cell (p:=⟨G+1,0,none⟩) (fun h=>by have h':G+1=G:=h; omega) HT0.out)
     have HSB:Bx (Sb wr (fun b=>b=Dg) (some ⟨Dg,0,none⟩) n (bt W l d)):=⟨hO.vs⟩
     generalize hu0:us[d*2]=u0 at *
     generalize hu1:us[d*2+1]=u1 at *
     obtain⟨z,hz⟩:∃ z,(bt W l d).count false=z:=⟨_,rfl⟩
     have HZ:=Bx.mk hz
     have HUS:=Bx.mk husq
     have HLVS:=Bx.mk hlv
     have HCQ:=Bx.mk hCq
     have HUL:=Bx.mk hul
     have hqs:=hCq.size
     have g0:(0:Int)≤(d:Int):=by omega
     have g1:(d:Int)<(W:Int):=by omega
     have HSY:Bx (Sl wr (fun k=>k≠G) .i64 A' n (asI (lv W l d))):=⟨HWay.out.syms.ch hCq (fun _ _ _ h=>h)⟩
     have hnm:n≤maxLen:=by unfold maxLen; omega
     have ej:decide ((j:Int)<(n:Int))=false:=by simp; omega
     clear hO hC hCq hus husq hlv hul hg0 hg1 hu0 hu1 hz hjn' hj
     go_wp2_with fail
     go_region_held3 (fun w'=>w'.cell? ⟨G+1,0,none⟩=some (.slice (some ⟨G,0,none⟩) W W)) (first | go_keep | exact s2 | exact hcTq) ((go_at_call 210; refine (lay_any (bt W l d) _ n n z _ (fun b=>b=Dg) (by exact HSB.out) hn (Nat.le_refl _) hnm HZ.out).mono ?_; rintro e w2 ⟨v,rfl,hv2,hc2⟩; have s2:=hc2.cell (p:=⟨G+1,0,none⟩) (fun h=>h) hcTq; have s3:=hc2.cell (p:=⟨G,d*2,none⟩) (fun h=>h) hc0; have s4:=hc2.cell (p:=⟨G,d*2+1,none⟩) (fun h=>h) hc1'; have s5:=(hc2.frozen (p:=⟨G,d*2,none⟩) (fun h=>h) (lt_of_cell hc0)).trans hf0; have s6:=(hc2.frozen (p:=⟨G,d*2+1,none⟩) (fun h=>h) (lt_of_cell hc1')).trans hf1))
     all_goals
      generalize hws:World.setCell (World.setCell w2 _ _) _ _=ws at *
      have hCs:Ch (fun k=>k=G) w2 ws:=by rw[←hws]; exact ((Ch.refl (fun k=>k=G) w2).setCell (p:=⟨G,d*2,none⟩) (.inl rfl) _).setCell (p:=⟨G,d*2+1,none⟩) (.inl rfl) _
      have hd2:Ch (fun _=>False) wr w2:=((Ch.refl (fun _=>False) wr).drew).trans hc2 (fun _ _ h=>h)
      have hOs:Own ws 208 2 G W W ((us.set (d*2) (.pointer (some ⟨v,0,none⟩))).set (d*2+1) (.int .i64 z)):=by
       rw[←hws]
       exact (((HUS.out.keep hd2).stored (d*2) _).1.stored (d*2+1) _).1
      have hrs:wr.heap.size≤w2.heap.size:=hd2.size
      have hCrs:Ch (fun k=>k=G) wr ws:=(hd2.mono (fun _ _ h=>h.elim)).trans hCs (fun _ _ h=>h)
      have hVs:Vec ws (fun k=>wr.heap.size≤k) v (bt W l d):=hv2.ch hCs (fun k hk _ (e:k=G)=>by have hk':wr.heap.size≤k:=hk; omega)
      have hSs:Sl ws (fun k=>k≠G) .i64 A' n (asI (lv W l d)):=HSY.out.ch hCrs (fun k hk _ e=>hk e)
      have hBs:Sb ws (fun b=>b=Dg) (some ⟨Dg,0,none⟩) n ((lv W l d).map (dgt W d)):=Vs.ch HSB.out hCrs (fun k (hk:k=Dg) _ (e:k=G)=>by omega)
      have HSs:=Bx.mk hSs
      have HBs:=Bx.mk hBs
      have HVs:=Bx.mk hVs
      have HOs:=Bx.mk hOs
      have HCrs:=Bx.mk hCrs
      have hss:wr.heap.size≤ws.heap.size:=hCrs.size
      clear hws hCs hd2 hOs hCrs hVs hSs hBs hc2 hv2 s2 s3 s4 s5 s6 hc0 hc1' hf0 hf1
      go_wp2_with fail
      refine (split_any (lv W l d) (dgt W d) n c' n A' _ _ HSs.out HBs.out hn).mono ?_
      rintro e w3 ⟨g,cc,rfl,hs3,hg3,hcc1,hcc2,hc3⟩
      have hWay:Way w0 w3 G (G+1) W (d+1) n l (some ⟨g,0,none⟩):=by
       refine⟨((HWay.out.ch.trans HCQ.out (fun _ _ h=>h.elim)).trans HCrs.out (fun _ _ h=>h)).trans hc3 (fun _ _ h=>h.elim),⟨_,HOs.out.keep hc3,fun d' hd'=>?_⟩,hs3.mono (fun b _ (hb:b=g)=>by omega)⟩
       by_cases e:d'=d
       ·subst e
        refine⟨v,?_,?_,?_⟩
        ·rw[List.getElem?_set_ne (by omega),List.getElem?_set_self (by have:=HUL.out; omega)]
        ·rw[List.getElem?_set_self (by rw[List.length_set]; have:=HUL.out; omega),HZ.out]
        ·exact (HVs.out.keep hc3).mono (fun k _ hk=>by omega)
       ·obtain⟨v',k1,k2,k3⟩:=HLVS.out d' (by omega)
        refine⟨v',?_,?_,?_⟩
        ·rw[List.getElem?_set_ne (by omega),List.getElem?_set_ne (by omega)]
         exact k1
        ·rw[List.getElem?_set_ne (by omega),List.getElem?_set_ne (by omega)]
         exact k2
        ·exact ((k3.keep HCQ.out).ch HCrs.out (fun k hk _ (e:k=G)=>by omega)).keep hc3
      have HWay2:=Bx.mk hWay
      have HCC:=Bx.mk hcc2
      clear hWay hs3 hg3 hcc2 hc3
      go_wp2
      go_roundw
      case rel=>exact⟨d+1,some ⟨g,0,none⟩,cc,by omega,by go_num,rfl,hcc1,HCC.out,HWay2.out⟩
      case measure=>simp[intOf]; omega
  ·obtain rfl:d=W:=by omega
   obtain⟨us,hus,hlv⟩:=hWay.row
   have hT:Tr wr (fun k=>w.heap.size≤k) (G+1) d l:=by
    refine⟨hW1,hW2,by rw[HL.out]; exact hn,HLT.out,G,?_,by have:=HGB.out; omega,by have:=HGB.out; omega,fun d' hd'=>?_⟩
    ·exact hWay.ch.cell (p:=⟨G+1,0,none⟩) (fun h=>by have h':G+1=G:=h; omega) HT0.out
    ·obtain⟨v,k1,k2,k3⟩:=hlv d' hd'
     exact⟨v,hus.cellAt k1,hus.cellAt k2,k3.mono (fun k _ hk=>by have:=HGB.out; omega)⟩
   have hC:Ch (fun _=>False) w wr:=HC0.out.trans hWay.ch (fun i hi (e:i=G)=>by have:=HGB.out; omega)
   have HT:=Bx.mk hT
   have HC:=Bx.mk hC
   clear hus hlv hT hC hWay
   go_wp2
   go_returns
   exact⟨_,rfl,HT.out,HC.out⟩
end
section
open Go.RowKit Go.Oct Go.Bi Go.Wa
theorem fit_nat {W x:Nat} (hW:1≤W):fitB W (x:Int)=decide (x<2^W):=by
 unfold fitB
 generalize 2^W=p
 rw[Bool.eq_iff_iff]
 simp only[Bool.and_eq_true,decide_eq_true_eq]
 omega
theorem bErr_ok {W:Nat} {l:List Nat} (h1:1≤W) (h2:W≤16) (hl:l.length≤131072) (h:∀ x∈l,x<2^W):bErr W (asI l)=0:=by
 unfold bErr
 rw[if_neg (by omega),if_neg (by rw[asI_len]; omega),Int.toNat_natCast,if_pos]
 rw[List.all_eq_true]
 intro x hx
 obtain⟨y,hy,rfl⟩:=List.mem_map.1 hx
 rw[fit_nat h1]
 exact decide_eq_true (h y hy)
theorem build_val (Wi:Int) (W:Nat) (l:List Nat) (A:Option Addr) (n c:Nat) (w:World) (F:Nat→Prop) (hWi:Wi=W) (hs:Sl w F .i64 A n (asI l)) (hW1:1≤W) (hW2:W≤16) (hn:n≤131072) (hlt:∀ x∈l,x<2^W) (hc:n≤c) (hcm:c≤maxLen) :
  Calls Tryz.prog 159 #[.int .i64 Wi, .slice A n c] w fun e w'=>∃ T:Nat,e = .returned (.tuple #[.pointer (some ⟨T,0,none⟩), .int .i64 0])∧Tr w' (fun k=>w.heap.size≤k) T W l∧Ch (fun _=>False) w w':=by
 subst hWi
 have hl:l.length=n:=by rw[←asI_len]; exact hs.len
 exact build_ok W l A n c w F hs hW1 hW2 hn hlt hc hcm (bErr_ok hW1 hW2 (by omega) hlt)
end
end Go.Proofs.YtambgjpfoceieaaGreatDoor.W
