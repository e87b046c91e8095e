/- Lemmas and contracts of this proof. Conditions: said at each. -/
import Derived.Test.YtambgjpfoceieaaGreatDoorGSuSort
import Derived.Deep.DeepCutAuto
import Derived.Laws.OwnMore
set_option maxHeartbeats 2000000
namespace Go.Proofs.YtambgjpfoceieaaGreatDoor
section
open Go.RowKit Go.Oct Go.Su
def less (l:List Int) (c:Nat):Nat:=l.countP fun x=>decide (x<(c:Int))
def cnts (l:List Int) (W:Nat):List Nat:=(List.range (2^W+1)).map (less l)
def clampW (z:Int):Nat:=if z<0 then 0 else if 16<z then 16 else z.toNat
def one (l:List Int) (k c:Nat):Nat:=if c=0 then (l.take k).countP (fun x=>decide (x<0)) else (l.take k).countP fun x=>decide (x=(c:Int)-1)
def cup (l:List Int) (N k:Nat):List Nat:=(List.range N).map (one l k)
theorem row_ext {N:Nat} {f:Nat→Nat} {a:List Nat} (hl:a.length=N) (h:∀ p,p<N→a[p]? = some (f p)):a=(List.range N).map f:=by
 apply List.ext_getElem?
 intro p
 rcases Nat.lt_or_ge p N with h1 | h1
 ·rw[h p h1,List.getElem?_map,List.getElem?_range h1]
  rfl
 ·rw[List.getElem?_eq_none (by omega),List.getElem?_eq_none (by simpa using h1)]
theorem row_at {N p:Nat} {f:Nat→Nat} (h:p<N):((List.range N).map f)[p]? = some (f p):=by
 rw[List.getElem?_map,List.getElem?_range h]
 rfl
theorem row_set {N p v:Nat} {f g:Nat→Nat} (hp:p<N) (h1:g p=v) (h2:∀ q,q≠p→g q=f q):((List.range N).map f).set p v=(List.range N).map g:=by
 refine row_ext (by simp) fun q hq=>?_
 by_cases e:p=q
 ·subst e
  rw[List.getElem?_set_self (by simpa using hp),h1]
 ·rw[List.getElem?_set_ne e,row_at hq,h2 q (fun e2=>e e2.symm)]
theorem one_next {l:List Int} {k:Nat} {x:Int} (h:l[k]? = some x) (c:Nat):one l (k+1) c=one l k c+(if (c=0∧x<0)∨(c≠0∧x=(c:Int)-1) then 1 else 0):=by
 unfold one
 rw[List.take_add_one,h,Option.toList_some,List.countP_append,List.countP_append]
 by_cases h0:c=0
 ·rw[if_pos h0,if_pos h0]
  by_cases hx:x<0 <;> simp[h0,hx]
 ·rw[if_neg h0,if_neg h0]
  by_cases hx:x=(c:Int)-1 <;> simp[h0,hx]
theorem cup_neg {l:List Int} {N k:Nat} {x:Int} (hN:0<N) (h:l[k]? = some x) (hx:x<0):(cup l N k).set 0 (one l k 0+1)=cup l N (k+1):=by
 unfold cup
 refine row_set hN ?_ fun q hq=>?_
 ·rw[one_next h,if_pos (.inl ⟨rfl,hx⟩)]
 ·rw[one_next h,if_neg (by omega)]
  rfl
theorem cup_in {l:List Int} {N k y:Nat} (h:l[k]? = some (y:Int)) (hy:y+1<N):(cup l N k).set (y+1) (one l k (y+1)+1)=cup l N (k+1):=by
 unfold cup
 refine row_set hy ?_ fun q hq=>?_
 ·rw[one_next h,if_pos (.inr ⟨by omega,by omega⟩)]
 ·rw[one_next h,if_neg (by omega)]
  rfl
theorem cup_out {l:List Int} {N k:Nat} {x:Int} (h:l[k]? = some x) (h0:0≤x) (hx:(N:Int)-1≤x):cup l N (k+1)=cup l N k:=by
 unfold cup
 refine List.map_congr_left fun c hc=>?_
 have:=List.mem_range.1 hc
 rw[one_next h,if_neg (by omega)]
 rfl
theorem less_next (c:Nat):∀ l:List Int,less l (c+1)=l.countP (fun x=>decide (x=((c+1:Nat):Int)-1))+less l c
 | []=>rfl
 | a::l=>by
  have ih:=less_next c l
  unfold less at *
  rw[List.countP_cons,List.countP_cons,List.countP_cons,ih]
  have e1:(if decide (a<((c+1:Nat):Int))=true then 1 else 0)=(if decide (a=((c+1:Nat):Int)-1)=true then 1 else 0)+(if decide (a<(c:Int))=true then 1 else 0):=by
   by_cases h1:a<(c:Int)
   ·rw[if_pos (decide_eq_true (show a<((c+1:Nat):Int) by omega)),if_neg (by rw[decide_eq_true_eq]; omega),if_pos (decide_eq_true h1)]
   ·by_cases h3:a=((c+1:Nat):Int)-1
    ·rw[if_pos (decide_eq_true (show a<((c+1:Nat):Int) by omega)),if_pos (decide_eq_true h3),if_neg (by rw[decide_eq_true_eq]; omega)]
    ·rw[if_neg (by rw[decide_eq_true_eq]; omega),if_neg (by rw[decide_eq_true_eq]; exact h3),if_neg (by rw[decide_eq_true_eq]; exact h1)]
  rw[e1]
  omega
def sup (l:List Int) (N c:Nat):List Nat:=(List.range N).map fun q=>if q<c then less l q else one l l.length q
theorem one_all (l:List Int) (q:Nat):one l l.length (q+1)=l.countP (fun x=>decide (x=((q+1:Nat):Int)-1)):=by
 unfold one
 rw[if_neg (by omega),List.take_length]
theorem sup_start (l:List Int) (N:Nat):sup l N 1=cup l N l.length:=by
 unfold sup cup
 refine List.map_congr_left fun c _=>?_
 by_cases h:c=0
 ·subst h
  unfold one less
  rw[if_pos (by omega),if_pos rfl,List.take_length]
  rfl
 ·rw[if_neg (by omega)]
theorem sup_next {l:List Int} {N c:Nat} (hc:c+1<N):(sup l N (c+1)).set (c+1) (one l l.length (c+1)+less l c)=sup l N (c+2):=by
 unfold sup
 refine row_set hc ?_ fun q hq=>?_
 ·rw[if_pos (by omega),less_next,one_all]
 ·by_cases h:q<c+1
  ·rw[if_pos (by omega),if_pos h]
  ·rw[if_neg (by omega),if_neg h]
theorem sup_all (l:List Int) (W:Nat):sup l (2^W+1) (2^W+1)=cnts l W:=by
 unfold sup cnts
 refine List.map_congr_left fun c hc=>?_
 rw[if_pos (List.mem_range.1 hc)]
section
variable {F:Nat→Prop}
end
end
section
open Go.RowKit Go.Oct Go.Su Go.Fr
theorem four_cells {w:World} {F:Nat→Prop} {A:Option Addr} {n:Nat} {xs:List Int} (h:Sl w F .u8 A n xs) (hb:Byt xs) (hn:4≤n):∃ (b o x0 x1 x2 x3:Nat),A=some ⟨b,o,none⟩∧x0<256∧x1<256∧x2<256∧x3<256∧unf xs 0=x0+256*x1+65536*x2+16777216*x3 ∧
  w.cell? ⟨b,o,none⟩=some (.int .u8 (x0:Int))∧w.cell? ⟨b,o+1,none⟩=some (.int .u8 (x1:Int))∧w.cell? ⟨b,o+2,none⟩=some (.int .u8 (x2:Int))∧w.cell? ⟨b,o+3,none⟩=some (.int .u8 (x3:Int)):=by
 have hl:=h.len
 have at_:∀ j,j<4→∃ x:Nat,xs.getD j 0=(x:Int)∧x<256:=fun j hj=>by
  rw[List.getD_eq_getElem?_getD,List.getElem?_eq_getElem (by omega)]
  obtain⟨h0,h1⟩:=hb _ (List.getElem_mem (show j<xs.length by omega))
  exact⟨(xs[j]).toNat,by simp only[Option.getD_some]; omega,by omega⟩
 obtain⟨b,o,_,rfl,_,_,_⟩:=h.at_ (k:=0) (by omega)
 have ce:∀ j,j<4→w.cell? ⟨b,o+j,none⟩=some (.int .u8 (xs.getD j 0)):=fun j hj=>by
  obtain⟨b',o',x,e,_,hx,hc⟩:=h.at_ (k:=j) (by omega)
  injection e with e
  injection e with e1 e2
  subst e1 e2
  rw[hc,List.getD_eq_getElem?_getD,hx.out]
  rfl
 obtain⟨x0,e0,l0⟩:=at_ 0 (by omega)
 obtain⟨x1,e1,l1⟩:=at_ 1 (by omega)
 obtain⟨x2,e2,l2⟩:=at_ 2 (by omega)
 obtain⟨x3,e3,l3⟩:=at_ 3 (by omega)
 refine⟨b,o,x0,x1,x2,x3,rfl,l0,l1,l2,l3,?_,?_,?_,?_,?_⟩
 ·unfold unf
  rw[e0,e1,e2,e3]
  simp
 ·rw[←e0]; exact ce 0 (by omega)
 ·rw[←e1]; exact ce 1 (by omega)
 ·rw[←e2]; exact ce 2 (by omega)
 ·rw[←e3]; exact ce 3 (by omega)
theorem ofInt32 (a:Nat) (ha:a<4294967296):(BitVec.ofInt 32 (a:Int)).toNat=a:=by
 rw[BitVec.ofInt_natCast,BitVec.toNat_ofNat]; exact Nat.mod_eq_of_lt (by omega)
theorem or32 {m q k:Nat} (hm:m<2^k) (hq:q*2^k<4294967296) (hk:2^k≤4294967296):bits .or .u32 (m:Int) ((q*2^k:Nat):Int)=((m+q*2^k:Nat):Int):=by
 have hor:m ||| q*2^k=m+q*2^k:=by
  have h:=Nat.two_pow_add_eq_or_of_lt (i:=k) (b:=m) hm q
  rw[Nat.or_comm,Nat.mul_comm q,←h,Nat.add_comm]
 show IntKind.u32.wrap ((BitVec.ofInt 32 (m:Int) ||| BitVec.ofInt 32 ((q*2^k:Nat):Int)).toNat:Int)=_
 rw[BitVec.toNat_or,ofInt32 m (by omega),ofInt32 _ hq,hor,IntKind.wrap_u32]
 have hlt:m+q*2^k<4294967296:=by
  rw[←hor]
  exact Nat.or_lt_two_pow (n:=32) (by omega) hq
 omega
theorem four_or {x0 x1 x2 x3:Nat} (l0:x0<256) (l1:x1<256) (l2:x2<256) (l3:x3<256) :
  bits .or .u32 (bits .or .u32 (bits .or .u32 (x0:Int) ((x1:Int)*256)) ((x2:Int)*65536)) ((x3:Int)*16777216)=((x0+256*x1+65536*x2+16777216*x3:Nat):Int):=by
 have e1:=or32 (m:=x0) (q:=x1) (k:=8) (by omega) (by omega) (by omega)
 have e2:=or32 (m:=x0+x1*2^8) (q:=x2) (k:=16) (by omega) (by omega) (by omega)
 have e3:=or32 (m:=x0+x1*2^8+x2*2^16) (q:=x3) (k:=24) (by omega) (by omega) (by omega)
 rw[show (x1:Int)*256=((x1*2^8:Nat):Int) by omega,e1,show (x2:Int)*65536=((x2*2^16:Nat):Int) by omega,e2,show (x3:Int)*16777216=((x3*2^24:Nat):Int) by omega,e3]
 omega
theorem take_any {F:Nat→Prop} (xs:List Int) (A:Option Addr) (n c:Nat) (w:World) (h:Sl w F .u8 A n xs) (hb:Byt xs) (hn:4≤n) (hm:n≤1000000000) :
  Calls Tryz.prog 174 #[.slice A n c] w fun e w'=>e = .returned (.int .u32 (unf xs 0:Nat))∧∃ q,w'=w.drewN q:=by
 obtain⟨b,o,x0,x1,x2,x3,rfl,l0,l1,l2,l3,hu,c0,c1,c2,c3⟩:=four_cells h hb hn
 have HU:=Bx.mk hu
 clear hu h hb
 go_enter Tryz.func174,Tryz.ntmps174
 go_wp2_with fail
 go_quiet (fail)
 go_wp2
 go_ret
 exact⟨ret_int (by rw[HU.out,four_or l0 l1 l2 l3]),_,rfl⟩
theorem fromfour_any {F:Nat→Prop} (xs:List Int) (A:Option Addr) (n c:Nat) (w:World) (h:Sl w F .u8 A n xs) (hb:Byt xs) (hn:4≤n) (hm:n≤1000000000) :
  Calls Tryz.prog 178 #[.slice A n c] w fun e w'=>e = .returned (.int .u32 (unf xs 0:Nat))∧∃ q,w'=w.drewN q:=by
 obtain⟨b,o,x0,x1,x2,x3,rfl,l0,l1,l2,l3,hu,c0,c1,c2,c3⟩:=four_cells h hb hn
 have HU:=Bx.mk hu
 clear hu h hb
 go_enter Tryz.func178,Tryz.ntmps178
 go_wp2_with fail
 go_quiet (fail)
 go_wp2
 go_ret
 exact⟨ret_int (by rw[HU.out,four_or l0 l1 l2 l3]),_,rfl⟩
end
section
open Go.RowKit Go.Oct Go.Su Go.Fr
def Grown (w:World) (v:Value) (n:Nat) (ys:List Int) (e:Ending) (w':World):Prop:=∃ v',e = .returned v'∧w'.ownsRow 0 5 1 v' n (ys.map (Value.int .u8))∧Ch (fun k=>v.ownBlock=some k) w w'∧(∀ g,v'.ownBlock=some g→v.ownBlock=some g∨w.heap.size≤g)
def fourV (k:Nat):List Value:=[.int .u8 ((k:Int)%256), .int .u8 ((k:Int)/256%256), .int .u8 ((k:Int)/65536%256), .int .u8 ((k:Int)/16777216)]
theorem fourV_eq {k:Nat} (hk:k<4294967296):fourV k=(four k).map (Value.int .u8):=by
 unfold fourV four
 simp only[List.map_cons,List.map_nil]
 rw[show (k:Int)%256=((k%256:Nat):Int) by omega,show (k:Int)/256%256=((k/256%256:Nat):Int) by omega,show (k:Int)/65536%256=((k/65536%256:Nat):Int) by omega,show (k:Int)/16777216=((k/16777216%256:Nat):Int) by omega]
theorem fourV_cells (k:Nat):∀ u∈fourV k,u.oneCell'=true:=by
 intro u hu
 simp only[fourV,List.mem_cons,List.not_mem_nil,or_false] at hu
 rcases hu with rfl | rfl | rfl | rfl <;> rfl
theorem lay4_any (xs:List Int) (v:Value) (n k:Nat) (w:World) (hv:w.ownsRow 0 5 1 v n (xs.map (Value.int .u8))) (hn:n≤100000000) (hk:k<4294967296) :
  Calls Tryz.prog 112 #[v, .int .u32 (k:Nat)] w (Grown w v (n+4) (xs++four k)):=by
 obtain⟨A,c,rfl,hc1,hc2⟩:=own_shape hv
 have HV:=Bx.mk hv
 have hvb:Vs (w.alloc (.cells #[.int .u8 ((k:Int)%256), .int .u8 ((k:Int)/256%256), .int .u8 ((k:Int)/65536%256), .int .u8 ((k:Int)/16777216)] 5)) (fun b=>b=w.heap.size) (some ⟨w.heap.size,0,none⟩) 4 (fourV k):=Vs.built w 5 (fourV k)
 have HVB:=Bx.mk hvb
 clear hv hvb
 go_enter Tryz.func112,Tryz.ntmps112
 go_wp2_with (at_builtin; refine wp_app rfl (.tmp 5) (.tmp 17) Tb rfl rfl (HV.out.alloc _) rfl HVB.out ?c1 ?c2 ?c3 ?_)
 case c1=>exact fourV_cells k
 case c2=>omega
 case c3=>omega
 intro v1 w1 ho1 hg1 hb1
 have HP:Bx (Grown w (.slice A n c) (n+4) (xs++four k) (.returned v1) w1):=⟨v1,rfl,by rw[List.map_append,←fourV_eq hk]; exact ho1,((Ch.refl _ w).alloc _).grown hg1 (fun _ h => .inl h),fun g hg=>by
  rcases hb1 with h | h
  ·exact .inl (h ▸ hg)
  ·rw[h] at hg
   injection hg with hg
   exact .inr (by omega)⟩
 clear ho1 hg1 hb1
 go_wp2
 go_ret
 exact HP.out
theorem four_any (k:Nat) (w:World) (hk:k<4294967296) :
  Calls Tryz.prog 170 #[.int .u32 (k:Nat)] w fun e w'=>e = .returned (.slice (some ⟨w.heap.size,0,none⟩) 4 4)∧w'=w.alloc (.cells #[.int .u8 ((k:Int)%256), .int .u8 ((k:Int)/256%256), .int .u8 ((k:Int)/65536%256), .int .u8 ((k:Int)/16777216)] 5):=by
 go_enter Tryz.func170,Tryz.ntmps170
 go_wp2
 go_ret
 exact⟨rfl,rfl⟩
theorem four_sl (k:Nat) (w:World) (hk:k<4294967296) (e:TypeId):Sl (w.alloc (.cells #[.int .u8 ((k:Int)%256), .int .u8 ((k:Int)/256%256), .int .u8 ((k:Int)/65536%256), .int .u8 ((k:Int)/16777216)] e)) (fun b=>b=w.heap.size) .u8 (some ⟨w.heap.size,0,none⟩) 4 (four k):=by
 have h:=Vs.built w e (fourV k)
 unfold Sl
 rw[←fourV_eq hk]
 exact h
end
section
open Go.RowKit Go.Oct Go.Su Go.Fr
theorem O.Tab.ch {w w':World} {S:Nat→Prop} (h:O.Tab w) (hc:Ch S w w') (hS:¬ S 0):O.Tab w':=fun i hi=>hc.cell (p:=⟨0,i,none⟩) hS (h i hi)
theorem O.Tab.alloc {w:World} (h:O.Tab w) (o:Obj):O.Tab (w.alloc o):=h.ch ((Ch.refl (fun _=>False) w).alloc o) (fun h=>h)
theorem cat_one (xs:List Int):cat [xs]=xs:=by simp[cat]
theorem sum_one (xs:List Int) (A:Option Addr) (n c:Nat) (w:World) (F:Nat→Prop) (ht:O.Tab w) (hs:Sl w F .u8 A n xs) (hc:n≤c) (hcm:c≤maxLen) (hb:n≤100000000) (hby:Byt xs) :
  Calls Tryz.prog 172 #[.slice (some ⟨w.heap.size,0,none⟩) 1 1] (w.alloc (.cells #[.slice A n c] 26)) fun e w'=>e = .returned (.int .u32 (sumN xs:Nat))∧w.alloc (.cells #[.slice A n c] 26)=w':=by
 obtain rfl:=hs.len
 have h:=O.sum_any [xs] _ 1 1 _ _ (by omega) (ht.alloc _) (Sls.one (G:=fun _=>True) 26 hs hc hcm (fun _ _ _=>trivial) trivial) (by rw[cat_one]; omega) (fun x hx=>by simp at hx; subst hx; exact hby)
 rw[cat_one] at h
 exact h
theorem sum_row (xs:List Int) (B:Option Addr) (w:World) (ht:O.Tab w) (hz:Sls w (fun _=>True) B 1 [xs]) (hb:xs.length≤100000000) (hby:Byt xs) :
  Calls Tryz.prog 172 #[.slice B 1 1] w fun e w'=>e = .returned (.int .u32 (sumN xs:Nat))∧Ch (fun _=>False) w w':=by
 have h:=O.sum_any [xs] B 1 1 w _ (by omega) ht hz (by rw[cat_one]; omega) (fun x hx=>by simp at hx; subst hx; exact hby)
 rw[cat_one] at h
 exact h.mono fun e w' ⟨h1,h2⟩=>⟨h1,by rw[←h2]; exact Ch.refl _ _⟩
theorem row_one (xs:List Int) (A:Option Addr) (n c:Nat) (w:World) (F:Nat→Prop) (hs:Sl w F .u8 A n xs) (hc:n≤c) (hcm:c≤maxLen):Sls (w.alloc (.cells #[.slice A n c] 26)) (fun _=>True) (some ⟨w.heap.size,0,none⟩) 1 [xs]:=by
 obtain rfl:=hs.len
 exact Sls.one (G:=fun _=>True) 26 hs hc hcm (fun _ _ _=>trivial) trivial
theorem seal_any (xs:List Int) (v:Value) (n:Nat) (w:World) (ht:O.Tab w) (hv:w.ownsRow 0 5 1 v n (xs.map (Value.int .u8))) (hn:n≤100000000) (hby:Byt xs) :
  Calls Tryz.prog 111 #[v] w (Grown w v (n+4) (xs++four (sumN xs))):=by
 obtain⟨A,c,rfl,hc1,hc2⟩:=own_shape hv
 have hs:Sl w _ .u8 A n xs:=Sl.of_own hv
 have hsum:=sum_one xs A n c w _ ht hs hc1 hc2 hn hby
 have hlay:=lay4_any xs (.slice A n c) n (sumN xs) (w.alloc (.cells #[.slice A n c] 26)) (((Ch.refl (fun _=>False) w).alloc _).own hv (fun _ _ h=>h)) hn sumN_lt
 have HS:=Bx.mk hsum
 have HL:=Bx.mk hlay
 have HV:=Bx.mk hv
 clear hsum hlay hv hs ht
 go_enter Tryz.func111,Tryz.ntmps111
 go_wp2_with fail
 refine HS.out.mono ?_
 rintro e w' ⟨rfl,rfl⟩
 generalize sumN xs=s at *
 go_wp2_with fail
 refine HL.out.mono ?_
 rintro e w2 ⟨v2,rfl,ho,hch,hnw⟩
 have HP:Bx (Grown w (.slice A n c) (n+4) (xs++four s) (.returned v2) w2):=⟨v2,rfl,ho,((Ch.refl _ w).alloc _).trans hch (fun _ _ h=>h),fun g hg=>by
  rcases hnw g hg with h | h
  ·exact .inl h
  ·rw[World.size_alloc] at h
   exact .inr (by omega)⟩
 clear ho hch hnw HS HL
 go_wp2
 go_ret
 exact HP.out
theorem unf_drop (xs:List Int) (k:Nat):unf (xs.drop k) 0=unf xs k:=by
 unfold unf
 simp only[List.getD_eq_getElem?_getD,List.getElem?_drop,Nat.add_zero]
theorem byt_drop {xs:List Int} (h:Byt xs) (k:Nat):Byt (xs.drop k):=fun x hx=>h x (List.mem_of_mem_drop hx)
theorem byt_take {xs:List Int} (h:Byt xs) (k:Nat):Byt (xs.take k):=fun x hx=>h x (List.mem_of_mem_take hx)
theorem take_ch {F:Nat→Prop} (xs:List Int) (A:Option Addr) (n c:Nat) (w:World) (h:Sl w F .u8 A n xs) (hb:Byt xs) (hn:4≤n) (hm:n≤1000000000) (u:Nat) (hu:unf xs 0=u) :
  Calls Tryz.prog 174 #[.slice A n c] w fun e w'=>e = .returned (.int .u32 (u:Nat))∧Ch (fun _=>False) w w' :=
 (take_any xs A n c w h hb hn hm).mono fun e w' ⟨h1,q,h2⟩=>⟨by rw[h1,hu],by rw[h2]; exact (Ch.refl _ w).drewN q⟩
theorem sealed_any {F:Nat→Prop} (xs:List Int) (A:Option Addr) (n c:Nat) (w:World) (ht:O.Tab w) (hs:Sl w F .u8 A n xs) (hc:n≤c) (hcm:c≤maxLen) (h4:4≤n) (hn:n≤100000000) (hby:Byt xs) (o:Bool) (ho:decide (unf xs (n-4)=sumN (xs.take (n-4)))=o) :
  Calls Tryz.prog 173 #[.slice A n c] w fun e w'=>e = .returned (.bool o)∧Ch (fun _=>False) w w':=by
 obtain⟨k,hk⟩:∃ k,n-4=k:=⟨_,rfl⟩
 rw[hk] at ho
 obtain⟨b,f,_,rfl,_,_,_⟩:=hs.at_ (k:=0) (by omega)
 have hd:=hs.drop (k:=k) (by omega)
 rw[show n-k=4 by omega] at hd
 have htk:=hs.take (k:=k) (by omega)
 have HA:=Bx.mk (fun (W:World) (h:Ch (fun _=>False) w W)=>take_ch (xs.drop k) (some ⟨b,f+k,none⟩) 4 (c-k) W (hd.ch h (fun _ _ _ h=>h)) (byt_drop hby k) (by omega) (by omega) (unf xs k) (unf_drop xs k))
 have htl:(xs.take k).length=k:=htk.len
 have HB:=Bx.mk (fun (W:World) (h:Ch (fun _=>False) w W) (B:Option Addr) (hz:Sls W (fun _=>True) B 1 [xs.take k])=>sum_row (xs.take k) B W (ht.ch h (fun h=>h)) hz (by omega) (byt_take hby k))
 have HZ:=Bx.mk (fun (W:World) (h:Ch (fun _=>False) w W)=>row_one (xs.take k) (some ⟨b,f,none⟩) k c W F (htk.ch h (fun _ _ _ h=>h)) (by omega) hcm)
 have HO:=Bx.mk ho
 clear hd htk hs ht hby hcm ho
 generalize unf xs k=u at *
 generalize sumN (xs.take k)=s at *
 have hcn:(n:Int)-4=(k:Int):=by omega
 have g1:IntKind.i64.wrap (k:Int)=(k:Int):=IntWalk.i64_in _ (by omega)
 have g2:(0:Int)≤(k:Int):=by omega
 have g3:(k:Int)≤(n:Int):=by omega
 have g4:(k:Int)≤(c:Int):=by omega
 have g5:n-k=4:=by omega
 have g6:¬ c=k:=by omega
 clear hk
 go_enter Tryz.func173,Tryz.ntmps173
 go_wp2_with fail
 by_cases hus:u=s
 ·subst hus
  have ho:true=o:=by rw[←HO.out]; simp
  subst ho
  go_region_held3 (fun w'=>True) (first | go_keep | trivial) (first | (go_at_call 174; (with_reducible refine (HA.out _ (by first | exact (Ch.refl (fun _=>False) w).drew | exact ((Ch.refl (fun _=>False) w).alloc _).drew)).mono ?_); rintro e w2 ⟨rfl,hc2⟩; have hc3:Ch (fun _=>False) w w2:=(by first | exact (Ch.refl (fun _=>False) w).drew.trans hc2 (fun _ _ h=>h) | exact ((Ch.refl (fun _=>False) w).alloc _).drew.trans hc2 (fun _ _ h=>h))) | (go_at_call 172; (with_reducible refine (HB.out _ (by first | exact hc3.alloc _ | exact hc3) _ (by first | exact HZ.out _ hc3 | exact (HZ.out _ (Ch.refl (fun _=>False) w)).ch ((Ch.refl (fun _=>False) _).drew.trans hc2 (fun _ _ h=>h)) (fun _ _ _ h=>h))).mono ?_); rintro e w3 ⟨rfl,hc4⟩; have hc5:Ch (fun _=>False) w w3:=(by first | exact (hc3.alloc _).trans hc4 (fun _ _ h=>h) | exact hc3.trans hc4 (fun _ _ h=>h))))
  all_goals
   have HCC:=Bx.mk hc5
   clear hc2 hc3 hc4 hc5 HA HB HZ
   go_wp2
   go_ret
   exact⟨rfl,HCC.out⟩
 ·have ho:false=o:=by rw[←HO.out]; simp[hus]
  subst ho
  have hq:((u:Int)==(s:Int))=false:=by simp; omega
  have HUS:=Bx.mk hus
  clear hus
  go_region_held3 (fun w'=>True) (first | go_keep | trivial) (first | (go_at_call 174; (with_reducible refine (HA.out _ (by first | exact (Ch.refl (fun _=>False) w).drew | exact ((Ch.refl (fun _=>False) w).alloc _).drew)).mono ?_); rintro e w2 ⟨rfl,hc2⟩; have hc3:Ch (fun _=>False) w w2:=(by first | exact (Ch.refl (fun _=>False) w).drew.trans hc2 (fun _ _ h=>h) | exact ((Ch.refl (fun _=>False) w).alloc _).drew.trans hc2 (fun _ _ h=>h))) | (go_at_call 172; (with_reducible refine (HB.out _ (by first | exact hc3.alloc _ | exact hc3) _ (by first | exact HZ.out _ hc3 | exact (HZ.out _ (Ch.refl (fun _=>False) w)).ch ((Ch.refl (fun _=>False) _).drew.trans hc2 (fun _ _ h=>h)) (fun _ _ _ h=>h))).mono ?_); rintro e w3 ⟨rfl,hc4⟩; have hc5:Ch (fun _=>False) w w3:=(by first | exact (hc3.alloc _).trans hc4 (fun _ _ h=>h) | exact hc3.trans hc4 (fun _ _ h=>h))))
  all_goals
   have HCC:=Bx.mk hc5
   clear hc2 hc3 hc4 hc5 HA HB HZ
   go_wp2
   go_ret
   exact⟨rfl,HCC.out⟩
end
section
open Go.RowKit Go.Oct Go.Su Go.Fr
theorem mkB (w:World) (n:Nat) (hn:n≤100000000):(Instr.makeSlice 26 (.int .i64 0) (.int .i64 (n:Int))).run Tryz.prog w = .ok (.slice (some ⟨w.heap.size,0,none⟩) 0 n) (w.alloc (.cells (madeCells #[.int .u8 0] n) 5)):=by
 have h:=run_mk Tb n (by omega) (by omega) w
 exact h
theorem own_made (w:World) (n:Nat) (hn:n≤100000000):(w.alloc (.cells (madeCells #[.int .u8 0] n) 5)).ownsRow 0 5 1 (.slice (some ⟨w.heap.size,0,none⟩) 0 n) 0 (([]:List Int).map (Value.int .u8)) :=
 World.ownsRow_made (base:=0) (e := 5) (size:=1) w (madeCells #[.int .u8 0] n) n (Nat.zero_le _) (by unfold maxLen; omega) (by simp[madeCells])
structure Rw8 (w wr:World) (v:Value) (n:Nat) (xs:List Int):Prop where
 own:wr.ownsRow 0 5 1 v n (xs.map (Value.int .u8))
 lies:∀ g,v.ownBlock=some g→w.heap.size≤g
 ch:Ch (fun _=>False) w wr
theorem Rw8.grown {w wr w2:World} {v:Value} {n m:Nat} {xs ys:List Int} (h:Rw8 w wr v n xs) {v':Value} (ho:w2.ownsRow 0 5 1 v' m (ys.map (Value.int .u8))) (hc:Ch (fun k=>v.ownBlock=some k) wr w2) (hn:∀ g,v'.ownBlock=some g→v.ownBlock=some g∨wr.heap.size≤g):Rw8 w w2 v' m ys :=
 ⟨ho,fun g hg=>by
  rcases hn g hg with h1 | h1
  ·exact h.lies g h1
  ·exact Nat.le_trans h.ch.size h1,h.ch.trans hc (fun i hi hs=>by have:=h.lies i hs; omega)⟩
theorem Rw8.made (w:World) (n:Nat) (hn:n≤100000000):Rw8 w (w.alloc (.cells (madeCells #[.int .u8 0] n) 5)) (.slice (some ⟨w.heap.size,0,none⟩) 0 n) 0 [] :=
 ⟨own_made w n hn,fun g hg=>by simp[Value.ownBlock] at hg; omega,(Ch.refl _ _).alloc _⟩
theorem Rw8.fresh {w wr:World} {v:Value} {xs:List Int} (h:Rw8 w wr v xs.length xs):Fresh w v xs wr:=⟨h.own,h.lies,h.ch⟩
theorem Rw8.app {w wr w2:World} {v v':Value} {n m:Nat} {xs ys:List Int} (h:Rw8 w wr v n xs) (ho:w2.ownsRow 0 5 1 v' (n+m) (xs.map (Value.int .u8)++ys.map (Value.int .u8))) (hg:wr.grownBy w2 v.ownBlock) (hb:v'.ownBlock=v.ownBlock∨v'.ownBlock=some wr.heap.size):Rw8 w w2 v' (n+m) (xs++ys) :=
 h.grown (by rw[List.map_append]; exact ho) ((Ch.refl _ wr).grown hg (fun _ h => .inl h)) (fun g hg=>by
  rcases hb with h | h
  ·exact .inl (h ▸ hg)
  ·rw[h] at hg
   injection hg with hg
   exact .inr (by omega))
def Encoded (p:List Int) (w:World) (e:Ending) (w':World):Prop:=(1048576<p.length∧e = .returned (.tuple #[.slice none 0 0, .int .i64 5])∧Ch (fun _=>False) w w')∨(p.length≤1048576∧∃ v,e = .returned (.tuple #[v, .int .i64 0])∧Fresh w v (frm p) w')
theorem encode_any {F:Nat→Prop} (xss:List (List Int)) (A:Option Addr) (n c:Nat) (w:World) (ht:O.Tab w) (hz:Sls w F A n xss) (hn:n≤1000000) (hL:(cat xss).length≤1048576) (hby:∀ x∈xss,Byt x) :
  Calls Tryz.prog 60 #[.slice A n c] w (Encoded (cat xss) w):=by
 have hl:=hz.len
 have HT:=Bx.mk ht
 have HZ:=Bx.mk hz
 have HL:=Bx.mk hl
 have HB:=Bx.mk hby
 obtain⟨N,hN⟩:∃ N,(cat xss).length=N:=⟨_,rfl⟩
 have HN:=Bx.mk hN
 rw[hN] at hL
 clear ht hz hby hl hN
 go_enter Tryz.func60,Tryz.ntmps60
 go_wp2_with fail
 go_loop [4,12] (fun t i=>∃ k m:Nat,k≤n∧i = .int .i64 k∧t = .int .i64 m∧Bx (m=(cat (xss.take k)).length)) (fun _ i=>n-(intOf i).toNat)
 case atStart=>exact⟨0,0,Nat.zero_le _,rfl,rfl,⟨rfl⟩⟩
 case round =>
  obtain⟨k,m,hk,rfl,rfl,hm⟩:=hrel
  by_cases hlt:k<n
  ·obtain⟨b,off,A',c',t,rfl,_,ex,hcell,hsl,hlc,hcm⟩:=HZ.out.at_ hlt
   have hroom:=cat_room ex.out
   have hmore:=cat_more ex.out
   obtain⟨tl,htl⟩:∃ tl,t.length=tl:=⟨_,rfl⟩
   have hmt:m+tl≤1048576:=by have:=hm.out; have:=HN.out; omega
   have HM:Bx (m+tl=(cat (xss.take (k+1))).length):=⟨by rw[hmore,List.length_append,hm.out,htl]⟩
   have htl2:tl≤9223372036854775807:=by omega
   rw[htl] at hcell
   have d1:decide ((1048576:Int)<(m:Int)+(tl:Int))=false:=decide_eq_false (by omega)
   clear hroom hmore htl hsl ex hm hcm hlc
   go_wp2
   go_round
   case rel=>exact⟨k+1,m+tl,by omega,by go_num,by go_num,HM⟩
   case measure=>simp[intOf]; omega
  ·obtain rfl:n=k:=by omega
   have hmN:m=N:=by rw[hm.out,List.take_of_length_le (by have:=HL.out; omega)]; exact HN.out
   subst hmN
   have hmk:∀ wx:World,(Instr.makeSlice 26 (.int .i64 0) (.int .i64 (12+(m:Int)))).run Tryz.prog wx = .ok (.slice (some ⟨wx.heap.size,0,none⟩) 0 (12+m)) (wx.alloc (.cells (madeCells #[.int .u8 0] (12+m)) 5)):=fun wx=>by
    have:=mkB wx (12+m) (by omega)
    rwa[show ((12+m:Nat):Int)=12+(m:Int) by omega] at this
   have hl4:=lay4_any [] _ 0 m _ (own_made w (12+m) (by omega)) (by omega) (by omega)
   have HG0:=Bx.mk (Rw8.made w (12+m) (by omega))
   have HL4:=Bx.mk hl4
   clear hm hl4
   generalize madeCells #[Value.int .u8 0] (12+m)=mc at *
   go_wp2_with fail
   refine HL4.out.mono ?_
   rintro e w1 ⟨v1,rfl,ho1,hc1,hn1⟩
   have hG1:=HG0.out.grown ho1 hc1 hn1
   rw[List.nil_append,Nat.zero_add] at hG1
   have hT1:=HT.out.ch hG1.ch (fun h=>h)
   have hse:=seal_any (four m) v1 4 w1 hT1 hG1.own (by omega) (four_byt m)
   have HG1:=Bx.mk hG1
   have HSE:=Bx.mk hse
   clear ho1 hc1 hn1 hG1 hT1 hse HL4 HG0 hmk
   go_wp2_with fail
   refine HSE.out.mono ?_
   rintro e w2 ⟨v2,rfl,ho2,hc2,hn2⟩
   have hG2:=HG1.out.grown ho2 hc2 hn2
   have HG2:Bx (Rw8 w w2 v2 8 (hd m)):=⟨hG2⟩
   clear ho2 hc2 hn2 hG2 HSE HG1
   go_wp2_with fail
   go_loopw [7,32] (fun v i wr=>∃ k q:Nat,k≤n∧i = .int .i64 k∧Rw8 w wr v q (hd m++cat (xss.take k))∧Bx (q=8+(cat (xss.take k)).length)) (fun _ i _=>n-(intOf i).toNat)
   case atStart=>exact⟨0,8,Nat.zero_le _,rfl,by simpa[cat] using HG2.out,⟨by simp[cat]⟩⟩
   case round =>
    obtain⟨k,q,hk,rfl,hR,hq⟩:=hrel
    by_cases hlt:k<n
    ·obtain⟨b,off,A',c',t,rfl,_,ex,hcell,hsl,hlc,hcm⟩:=(HZ.out.ch hR.ch (fun _ _ _ h=>h)).at_ hlt
     have hroom:=cat_room ex.out
     have hmore:=cat_more ex.out
     obtain⟨tl,htl⟩:∃ tl,t.length=tl:=⟨_,rfl⟩
     have hqt:q+tl≤1048600:=by have:=hq.out; have:=HN.out; omega
     have HQ:Bx (q+tl=8+(cat (xss.take (k+1))).length):=⟨by rw[hmore,List.length_append,hq.out,htl]; omega⟩
     have HM:Bx (cat (xss.take (k+1))=cat (xss.take k)++t):=⟨hmore⟩
     rw[htl] at hcell hsl
     have HSL:=Bx.mk hsl
     have HR:=Bx.mk hR
     obtain⟨A5,c5,rfl,_,_⟩:=own_shape hR.own
     clear hroom hmore htl hsl ex hq hcm hlc hR
     go_wp2_with (at_builtin; refine wp_app rfl (.tmp 36) (.tmp 37) Tb rfl rfl HR.out.own rfl HSL.out ?c1 ?c2 ?c3 ?_)
     case c1=>exact ints_cells _ _
     case c2=>omega
     case c3=>omega
     intro v5 w5 ho5 hg5 hb5
     have HR5:=Bx.mk (HR.out.app ho5 hg5 hb5)
     clear ho5 hg5 hb5
     go_wp2
     go_roundw
     case rel=>exact⟨k+1,q+tl,by omega,by go_num,by rw[HM.out,←List.append_assoc]; exact HR5.out,HQ⟩
     case measure=>simp[intOf]; omega
    ·obtain rfl:n=k:=by omega
     have hall:xss.take n=xss:=List.take_of_length_le (by have:=HL.out; omega)
     rw[hall] at hR hq
     have hT3:=HT.out.ch hR.ch (fun h=>h)
     have hq2:q≤1048600:=by have:=hq.out; have:=HN.out; omega
     have hse:=seal_any (hd m++cat xss) _ q wr hT3 hR.own (by omega) (fun x hx=>by
      rcases List.mem_append.1 hx with h | h
      ·exact hd_byt _ x h
      ·obtain⟨y,hy,hxy⟩:=List.mem_flatten.1 h
       exact HB.out y hy x hxy)
     have HSE:=Bx.mk hse
     have HR:=Bx.mk hR
     have HQ:Bx (q+4=(frm (cat xss)).length):=⟨by rw[frm_len]; have:=hq.out; omega⟩
     have HF:Bx (hd m++cat xss++four (sumN (hd m++cat xss))=frm (cat xss)):=⟨by unfold frm; rw[HN.out]⟩
     clear hall hR hq hT3 hse
     go_wp2_with fail
     refine HSE.out.mono ?_
     rintro e w5 ⟨v5,rfl,ho5,hc5,hn5⟩
     have hR5:=HR.out.grown ho5 hc5 hn5
     rw[HF.out,HQ.out] at hR5
     have HFR:Bx (Fresh w v5 (frm (cat xss)) w5):=⟨hR5.fresh⟩
     clear ho5 hc5 hn5 hR5 HSE HR
     go_wp2
     go_ret2
     exact .inr ⟨by rw[HN.out]; exact hL,v5,rfl,HFR.out⟩
end
section
open Go.RowKit Go.Oct Go.Su Go.Fr
theorem unf_take {xs:List Int} {k i:Nat} (h:i+4≤k):unf (xs.take k) i=unf xs i:=by
 unfold unf
 simp only[List.getD_eq_getElem?_getD,List.getElem?_take,if_pos (show i<k by omega),if_pos (show i+1<k by omega),if_pos (show i+2<k by omega),if_pos (show i+3<k by omega)]
theorem fresh_none {w w':World} (h:Ch (fun _=>False) w w'):Fresh w (.slice none 0 0) [] w':=⟨World.ownsRow_nil _ _ _ _,fun g hg=>by simp[Value.ownBlock] at hg,h⟩
def DecP (xs:List Int) (w:World) (e:Ending) (w':World):Prop:=∃ v,e = .returned (.tuple #[v, .int .i64 ((decF xs).2.1:Nat), .int .i64 (decF xs).2.2])∧Fresh w v (decF xs).1 w'
theorem DecP.err {xs:List Int} {w w':World} {ec:Int} (h:decF xs=([],0,ec)) (hc:Ch (fun _=>False) w w'):DecP xs w (.returned (.tuple #[.slice none 0 0, .int .i64 0, .int .i64 ec])) w':=by
 refine⟨.slice none 0 0,?_,?_⟩
 ·rw[h]; rfl
 ·rw[h]; exact fresh_none hc
theorem sealed_to {F:Nat→Prop} (xs:List Int) (A:Option Addr) (n c k:Nat) (w:World) (ht:O.Tab w) (hs:Sl w F .u8 A n xs) (hc:n≤c) (hcm:c≤maxLen) (hk:k+4≤n) (hn:n≤100000000) (hby:Byt xs) (o:Bool) (ho:decide (unf xs k=sumN (xs.take k))=o) :
  Calls Tryz.prog 173 #[.slice A (k+4) c] w fun e w'=>e = .returned (.bool o)∧Ch (fun _=>False) w w' :=
 sealed_any (xs.take (k+4)) A (k+4) c w ht (hs.take hk) (by omega) hcm (by omega) (by omega) (byt_take hby _) o (by rw[show k+4-4=k by omega,unf_take (Nat.le_refl _),List.take_take,Nat.min_eq_left (by omega)]; exact ho)
theorem join_one (xs:List Int) (A:Option Addr) (n c:Nat) (w:World) (F:Nat→Prop) (hs:Sl w F .u8 A n xs) (hc:n≤c) (hcm:c≤maxLen) (hb:n≤100000000) :
  Calls Tryz.prog 114 #[.slice (some ⟨w.heap.size,0,none⟩) 1 1] (w.alloc (.cells #[.slice A n c] 26)) fun e w'=>∃ v,e = .returned v∧Fresh w v xs w':=by
 have hrow:=row_one xs A n c w F hs hc hcm
 have h:=O.join_any [xs] _ 1 1 _ _ (by omega) hrow (by rw[cat_one,hs.len]; omega)
 rw[cat_one] at h
 exact h.mono fun e w' ⟨v,h1,h2⟩=>⟨v,h1,h2.1,fun g hg=>by have:=h2.2.1 g hg; rw[World.size_alloc] at this; omega,((Ch.refl _ w).alloc _).trans h2.2.2 (fun _ _ h=>h)⟩
theorem fdecode_any {F:Nat→Prop} (xs:List Int) (A:Option Addr) (n c:Nat) (w:World) (ht:O.Tab w) (hs:Sl w F .u8 A n xs) (hc:n≤c) (hcm:c≤maxLen) (hn:n≤100000000) (hby:Byt xs) :
  Calls Tryz.prog 113 #[.slice A n c] w (DecP xs w):=by
 have hl:=hs.len
 have HL:=Bx.mk hl
 have HT:=Bx.mk ht
 have HS:=Bx.mk hs
 have HB:=Bx.mk hby
 have HCM:=Bx.mk hcm
 clear ht hs hby hl hcm
 by_cases h8:n<8
 ·have HD:Bx (decF xs=([],0,2)):=⟨by unfold decF; rw[if_pos (by rw[HL.out]; exact h8)]⟩
  have d1:decide ((n:Int)<8)=true:=decide_eq_true (by omega)
  have d2:decide (n<8)=true:=decide_eq_true h8
  go_enter Tryz.func113,Tryz.ntmps113
  go_wp2
  go_ret3
  exact DecP.err HD.out (Ch.refl _ _)
 obtain⟨b0,o0,_,rfl,_,_,_⟩:=HS.out.at_ (k:=0) (by omega)
 have d1:decide ((n:Int)<8)=false:=decide_eq_false (by omega)
 have d2:decide (n<8)=false:=decide_eq_false h8
 have h8':¬ xs.length<8:=by rw[HL.out]; exact h8
 have i1:(8:Int)≤(c:Int):=by omega
 by_cases h4:unf xs 4=sumN (xs.take 4)
 ·have HSE:=Bx.mk (sealed_to xs _ n c 4 w HT.out HS.out hc HCM.out (by omega) hn HB.out true (by simp[h4]))
  obtain⟨u,hu⟩:∃ u,unf xs 0=u:=⟨_,rfl⟩
  have hul:u<4294967296:=by rw[←hu]; exact unf_lt HB.out (by rw[HL.out]; omega)
  have HTK:=Bx.mk (fun (W:World) (h:Ch (fun _=>False) w W)=>take_ch xs (some ⟨b0,o0,none⟩) n c W (HS.out.ch h (fun _ _ _ h=>h)) HB.out (by omega) (by omega) u hu)
  have HU:=Bx.mk hu
  have H4:=Bx.mk h4
  have H8:=Bx.mk h8'
  clear hu h4 h8'
  by_cases hbig:1048576<u
  ·have HD:Bx (decF xs=([],0,5)):=⟨by unfold decF; rw[if_neg H8.out,if_neg (fun h=>h H4.out),HU.out,if_pos hbig]⟩
   have e1:decide ((1048576:Int)<(u:Int))=true:=decide_eq_true (by omega)
   have e2:decide (1048576<u)=true:=decide_eq_true hbig
   go_enter Tryz.func113,Tryz.ntmps113
   go_wp2_with fail
   refine HSE.out.mono ?_
   rintro e w1 ⟨rfl,hc1⟩
   have HC1:=Bx.mk hc1
   clear hc1 HSE
   go_wp2_with fail
   refine (HTK.out _ HC1.out).mono ?_
   rintro e w2 ⟨rfl,hc2⟩
   have HC2:=Bx.mk (HC1.out.trans hc2 (fun _ _ h=>h))
   clear hc2 HC1 HTK
   go_wp2
   go_ret3
   exact DecP.err HD.out HC2.out
  have e1:decide ((1048576:Int)<(u:Int))=false:=decide_eq_false (by omega)
  have e2:decide (1048576<u)=false:=decide_eq_false hbig
  by_cases hsh:n<12+u
  ·have HD:Bx (decF xs=([],0,2)):=⟨by unfold decF; rw[if_neg H8.out,if_neg (fun h=>h H4.out),HU.out,if_neg hbig,HL.out,if_pos hsh]⟩
   have f1:decide ((n:Int)<12+(u:Int))=true:=decide_eq_true (by omega)
   go_enter Tryz.func113,Tryz.ntmps113
   go_wp2_with fail
   refine HSE.out.mono ?_
   rintro e w1 ⟨rfl,hc1⟩
   have HC1:=Bx.mk hc1
   clear hc1 HSE
   go_wp2_with fail
   refine (HTK.out _ HC1.out).mono ?_
   rintro e w2 ⟨rfl,hc2⟩
   have HC2:=Bx.mk (HC1.out.trans hc2 (fun _ _ h=>h))
   clear hc2 HC1 HTK
   go_wp2
   go_ret3
   exact DecP.err HD.out HC2.out
  have f1:decide ((n:Int)<12+(u:Int))=false:=decide_eq_false (by omega)
  have f2:(12:Int)+(u:Int)≤(c:Int):=by omega
  have f3:((12:Int)+(u:Int)).toNat=8+u+4:=by omega
  have f4:(8:Int)+(u:Int)≤(c:Int):=by omega
  have f5:((8:Int)+(u:Int)).toNat=8+u:=by omega
  have f6:8+u-8=u:=by omega
  have f7:¬ c=8:=by omega
  have f8:(0:Int)≤12+(u:Int):=by omega
  have f9:(8:Int)≤8+(u:Int):=by omega
  have hHN:¬ n<12+u:=hsh
  by_cases hl8:unf xs (8+u)=sumN (xs.take (8+u))
  ·have HD:Bx (decF xs=((xs.drop 8).take u,12+u,0)):=⟨by unfold decF; rw[if_neg H8.out,if_neg (fun h=>h H4.out),HU.out,if_neg hbig,HL.out,if_neg hsh,if_neg (fun h=>h hl8)]⟩
   have HS2:=Bx.mk (fun (W:World) (h:Ch (fun _=>False) w W)=>sealed_to xs (some ⟨b0,o0,none⟩) n c (8+u) W (HT.out.ch h (fun h=>h)) (HS.out.ch h (fun _ _ _ h=>h)) hc HCM.out (by omega) hn HB.out true (by simp[hl8]))
   have HJ:=Bx.mk (fun (W:World) (h:Ch (fun _=>False) w W)=>join_one ((xs.drop 8).take u) (some ⟨b0,o0+8,none⟩) u (c-8) W _ (((HS.out.ch h (fun _ _ _ h=>h)).drop (k:=8) (by omega)).take (k:=u) (by omega)) (by omega) (by have:=HCM.out; omega) (by omega))
   clear hl8 hsh hHN
   go_enter Tryz.func113,Tryz.ntmps113
   go_wp2_with fail
   refine HSE.out.mono ?_
   rintro e w1 ⟨rfl,hc1⟩
   have HC1:=Bx.mk hc1
   clear hc1 HSE
   go_wp2_with fail
   refine (HTK.out _ HC1.out).mono ?_
   rintro e w2 ⟨rfl,hc2⟩
   have HC2:=Bx.mk (HC1.out.trans hc2 (fun _ _ h=>h))
   clear hc2 HC1 HTK
   go_wp2_with fail
   refine (HS2.out _ HC2.out).mono ?_
   rintro e w3 ⟨rfl,hc3⟩
   have HC3:=Bx.mk (HC2.out.trans hc3 (fun _ _ h=>h))
   clear hc3 HC2 HS2
   go_wp2_with fail
   refine (HJ.out _ HC3.out).mono ?_
   rintro e w4 ⟨v4,rfl,hf4⟩
   have HF:Bx (Fresh w v4 ((xs.drop 8).take u) w4):=⟨⟨hf4.1,fun g hg=>Nat.le_trans HC3.out.size (hf4.2.1 g hg),HC3.out.trans hf4.2.2 (fun _ _ h=>h)⟩⟩
   clear hf4 HJ HC3
   go_wp2
   go_ret3
   refine⟨v4,?_,by rw[HD.out]; exact HF.out⟩
   rw[HD.out]
   simp
  ·have HD:Bx (decF xs=([],0,4)):=⟨by unfold decF; rw[if_neg H8.out,if_neg (fun h=>h H4.out),HU.out,if_neg hbig,HL.out,if_neg hsh,if_pos hl8]⟩
   have HS2:=Bx.mk (fun (W:World) (h:Ch (fun _=>False) w W)=>sealed_to xs (some ⟨b0,o0,none⟩) n c (8+u) W (HT.out.ch h (fun h=>h)) (HS.out.ch h (fun _ _ _ h=>h)) hc HCM.out (by omega) hn HB.out false (by simp[hl8]))
   clear hl8 hsh hHN
   go_enter Tryz.func113,Tryz.ntmps113
   go_wp2_with fail
   refine HSE.out.mono ?_
   rintro e w1 ⟨rfl,hc1⟩
   have HC1:=Bx.mk hc1
   clear hc1 HSE
   go_wp2_with fail
   refine (HTK.out _ HC1.out).mono ?_
   rintro e w2 ⟨rfl,hc2⟩
   have HC2:=Bx.mk (HC1.out.trans hc2 (fun _ _ h=>h))
   clear hc2 HC1 HTK
   go_wp2_with fail
   refine (HS2.out _ HC2.out).mono ?_
   rintro e w3 ⟨rfl,hc3⟩
   have HC3:=Bx.mk (HC2.out.trans hc3 (fun _ _ h=>h))
   clear hc3 HC2 HS2
   go_wp2
   go_ret3
   exact DecP.err HD.out HC3.out
 ·have HD:Bx (decF xs=([],0,4)):=⟨by unfold decF; rw[if_neg h8',if_pos h4]⟩
  have HSE:=Bx.mk (sealed_to xs _ n c 4 w HT.out HS.out hc HCM.out (by omega) hn HB.out false (by simp[h4]))
  clear h4 h8'
  go_enter Tryz.func113,Tryz.ntmps113
  go_wp2_with fail
  refine HSE.out.mono ?_
  rintro e w1 ⟨rfl,hc1⟩
  have HC1:=Bx.mk hc1
  clear hc1 HSE
  go_wp2
  go_ret3
  exact DecP.err HD.out HC1.out
theorem decF_le (xs:List Int):(decF xs).2.1≤xs.length:=by
 unfold decF
 split
 ·exact Nat.zero_le _
 ·split
  ·exact Nat.zero_le _
  ·split
   ·exact Nat.zero_le _
   ·split
    ·exact Nat.zero_le _
    ·split
     ·exact Nat.zero_le _
     ·simp only
      omega
def OneP (xs:List Int) (w:World) (e:Ending) (w':World):Prop:=∃ v,e = .returned (.tuple #[v, .int .i64 (oneF xs).2])∧Fresh w v (oneF xs).1 w'
theorem OneP.of {xs p:List Int} {ec:Int} {w w':World} {v:Value} (h:oneF xs=(p,ec)) (hf:Fresh w v p w'):OneP xs w (.returned (.tuple #[v, .int .i64 ec])) w':=by
 refine⟨v,?_,?_⟩
 ·rw[h]
 ·rw[h]; exact hf
theorem Fresh.past {w w1 w2:World} {v:Value} {xs:List Int} (h:Fresh w v xs w1) (hc:Ch (fun _=>False) w1 w2):Fresh w v xs w2:=⟨hc.own h.1 (fun _ _ h=>h),h.2.1,h.2.2.trans hc (fun _ _ h=>h)⟩
theorem fone_any {F:Nat→Prop} (xs:List Int) (A:Option Addr) (n c:Nat) (w:World) (ht:O.Tab w) (hs:Sl w F .u8 A n xs) (hc:n≤c) (hcm:c≤maxLen) (hn:n≤100000000) (hby:Byt xs) :
  Calls Tryz.prog 61 #[.slice A n c] w (OneP xs w):=by
 have HD:=Bx.mk (fdecode_any xs A n c w ht hs hc hcm hn hby)
 have hl:=hs.len
 have hle:=decF_le xs
 obtain⟨p,k,ec,hd⟩:∃ p k ec,decF xs=(p,k,ec):=⟨_,_,_,rfl⟩
 have HDD:=Bx.mk hd
 have HPO:Bx (DecP xs w=fun e w'=>∃ v,e = .returned (.tuple #[v, .int .i64 (k:Nat), .int .i64 ec])∧Fresh w v p w'):=⟨by
  funext e w'
  unfold DecP
  rw[hd]⟩
 rw[hd] at hle
 simp only at hle
 have HL:=Bx.mk hl
 have HLE:=Bx.mk hle
 clear hs ht hby hl hd hle
 by_cases he:ec=0
 ·subst he
  have hkn:k≤n:=by have:=HLE.out; rw[HL.out] at this; exact this
  by_cases hk:k<n
  ·have HO:Bx (oneF xs=([],3)):=⟨by unfold oneF; rw[HDD.out]; simp only[ne_eq,not_true_eq_false,if_false]; rw[if_pos (by rw[HL.out]; omega)]⟩
   go_enter Tryz.func61,Tryz.ntmps61
   go_wp2_with fail
   refine HD.out.mono ?_
   rw[HPO.out]
   rintro e w1 ⟨v,rfl,hf⟩
   have HF:=Bx.mk hf
   clear hf HD
   go_wp2
   go_ret2
   exact OneP.of HO.out (fresh_none HF.out.2.2)
  ·obtain rfl:n=k:=by omega
   have HO:Bx (oneF xs=(p,0)):=⟨by unfold oneF; rw[HDD.out]; simp only[ne_eq,not_true_eq_false,if_false]; rw[if_neg (by rw[HL.out]; simp)]⟩
   go_enter Tryz.func61,Tryz.ntmps61
   go_wp2_with fail
   refine HD.out.mono ?_
   rw[HPO.out]
   rintro e w1 ⟨v,rfl,hf⟩
   have HF:=Bx.mk hf
   clear hf HD
   go_wp2
   go_ret2
   exact OneP.of HO.out HF.out
 ·have HO:Bx (oneF xs=([],ec)):=⟨by unfold oneF; rw[HDD.out]; rw[if_pos he]⟩
  have hq:((ec:Int) != 0)=true:=by simpa using he
  have HE:=Bx.mk he
  clear he
  go_enter Tryz.func61,Tryz.ntmps61
  go_wp2_with fail
  refine HD.out.mono ?_
  rw[HPO.out]
  rintro e w1 ⟨v,rfl,hf⟩
  have HF:=Bx.mk hf
  clear hf HD
  go_wp2
  go_ret2
  exact OneP.of HO.out (fresh_none HF.out.2.2)
end
section
open Go.RowKit Go.Oct Go.Su Go.Fr
theorem fromfour_val {F:Nat→Prop} (xs:List Int) (A:Option Addr) (n c:Nat) (w:World) (h:Sl w F .u8 A n xs) (hb:Byt xs) (hn:4≤n) (hm:n≤1000000000) (u:Nat) (hu:unf xs 0=u) (k:Nat) :
  Calls Tryz.prog 178 #[.slice A n c] (w.drewN k) fun e w'=>e = .returned (.int .u32 (u:Nat))∧∃ q,w'=w.drewN q :=
 (fromfour_any xs A n c (w.drewN k) (h.drewN k) hb hn hm).mono fun e w' ⟨h1,q,h2⟩=>⟨by rw[h1,hu],k+q,by rw[h2,World.drewN_drewN]⟩
theorem refsum_val {F:Nat→Prop} (xs:List Int) (A:Option Addr) (n c:Nat) (w:World) (h:Sl w F .u8 A n xs) (hb:Byt xs) (hn:n≤1000000000) (s:Nat) (hs:sumN xs=s) (k:Nat) :
  Calls Tryz.prog 171 #[.slice A n c] (w.drewN k) fun e w'=>e = .returned (.int .u32 (s:Nat))∧∃ q,w'=w.drewN q :=
 (O.refsum_any xs A n c (w.drewN k) F (by omega) (h.drewN k) hb).mono fun e w' ⟨h1,h2⟩=>⟨by rw[h1,hs],k,h2.symm⟩
theorem own_none8 (w:World):(w.alloc (.cells #[] 5)).ownsRow 0 5 1 (.slice (some ⟨w.heap.size,0,none⟩) 0 0) 0 []:=World.ownsRow_made w #[] 0 (Nat.zero_le _) (by unfold maxLen; omega) rfl
theorem fresh_none8 (w:World):Fresh w (.slice (some ⟨w.heap.size,0,none⟩) 0 0) [] (w.alloc (.cells #[] 5)):=⟨own_none8 w,fun g hg=>by simp[Value.ownBlock] at hg; omega,(Ch.refl _ _).alloc _⟩
theorem Fresh.app8 {w wr w1:World} {v v':Value} {zs:List Int} (h:Fresh w v [] wr) (ho:w1.ownsRow 0 5 1 v' zs.length (zs.map (Value.int .u8))) (hg:wr.grownBy w1 v.ownBlock) (hb:v'.ownBlock=v.ownBlock∨v'.ownBlock=some wr.heap.size):Fresh w v' zs w1 :=
 ⟨ho,fun g hgv=>by
  rcases hb with hb | hb
  ·exact h.2.1 g (hb ▸ hgv)
  ·rw[hb] at hgv
   injection hgv with hgv
   have:=h.2.2.size
   omega,h.2.2.grown hg (fun k hk => .inr (h.2.1 k hk))⟩
theorem rdecode_any {F:Nat→Prop} (xs:List Int) (A:Option Addr) (n c:Nat) (w:World) (hs:Sl w F .u8 A n xs) (hc:n≤c) (hcm:c≤maxLen) (hn:n≤100000000) (hby:Byt xs) :
  Calls Tryz.prog 122 #[.slice A n c] w (DecP xs w):=by
 have hl:=hs.len
 have HL:=Bx.mk hl
 have HS:=Bx.mk hs
 have HB:=Bx.mk hby
 have HCM:=Bx.mk hcm
 clear hs hby hl hcm
 by_cases h8:n<8
 ·have HD:Bx (decF xs=([],0,2)):=⟨by unfold decF; rw[if_pos (by rw[HL.out]; exact h8)]⟩
  have d1:decide ((n:Int)<8)=true:=decide_eq_true (by omega)
  have d2:decide (n<8)=true:=decide_eq_true h8
  go_enter Tryz.func122,Tryz.ntmps122
  go_wp2
  go_ret3
  exact DecP.err HD.out (Ch.refl _ _)
 obtain⟨b0,o0,_,rfl,_,_,_⟩:=HS.out.at_ (k:=0) (by omega)
 have d1:decide ((n:Int)<8)=false:=decide_eq_false (by omega)
 have d2:decide (n<8)=false:=decide_eq_false h8
 have h8':¬ xs.length<8:=by rw[HL.out]; exact h8
 have i1:(8:Int)≤(c:Int):=by omega
 have i2:(4:Int)≤(c:Int):=by omega
 have i3:(4:Int)≤(n:Int):=by omega
 have i4:¬ c=4:=by omega
 obtain⟨u4,hu4⟩:∃ u,unf xs 4=u:=⟨_,rfl⟩
 obtain⟨s4,hs4⟩:∃ s,sumN (xs.take 4)=s:=⟨_,rfl⟩
 have hd4:=HS.out.drop (k:=4) (by omega)
 have ht4:=HS.out.take (k:=4) (by omega)
 have HF4:=Bx.mk (fun k=>fromfour_val (c:=c-4) (xs.drop 4) (some ⟨b0,o0+4,none⟩) (n-4) w hd4 (byt_drop HB.out 4) (by omega) (by omega) u4 (by rw[unf_drop]; exact hu4) k)
 have HM4:=Bx.mk (fun k=>refsum_val (c:=c) (xs.take 4) (some ⟨b0,o0,none⟩) 4 w ht4 (byt_take HB.out 4) (by omega) s4 hs4 k)
 have HU4:=Bx.mk hu4
 have HS4:=Bx.mk hs4
 clear hd4 ht4 hu4 hs4
 by_cases h4:u4=s4
 ·subst h4
  have H4:Bx (unf xs 4=sumN (xs.take 4)):=⟨by rw[HU4.out,HS4.out]⟩
  obtain⟨u,hu⟩:∃ u,unf xs 0=u:=⟨_,rfl⟩
  have hul:u<4294967296:=by rw[←hu]; exact unf_lt HB.out (by rw[HL.out]; omega)
  have HTK:=Bx.mk (fun k=>fromfour_val (c:=c) xs (some ⟨b0,o0,none⟩) n w HS.out HB.out (by omega) (by omega) u hu k)
  have HU:=Bx.mk hu
  have H8:=Bx.mk h8'
  clear hu h8' HU4 HS4
  by_cases hbig:1048576<u
  ·have HD:Bx (decF xs=([],0,5)):=⟨by unfold decF; rw[if_neg H8.out,if_neg (fun h=>h H4.out),HU.out,if_pos hbig]⟩
   have e1:decide ((1048576:Int)<(u:Int))=true:=decide_eq_true (by omega)
   have e2:decide (1048576<u)=true:=decide_eq_true hbig
   go_enter Tryz.func122,Tryz.ntmps122
   go_wp2_with fail
   go_quiet ((first | (go_at_call 178; exact HF4.out _) | (go_at_call 171; exact HM4.out _)))
   go_wp2_with fail
   refine (HTK.out _).mono ?_
   rintro e w2 ⟨rfl,q2,hw2⟩
   have HC2:Bx (Ch (fun _=>False) w w2):=⟨by rw[hw2]; exact (Ch.refl _ w).drewN q2⟩
   clear hw2 HTK HF4 HM4
   go_wp2
   go_ret3
   exact DecP.err HD.out HC2.out
  have e1:decide ((1048576:Int)<(u:Int))=false:=decide_eq_false (by omega)
  have e2:decide (1048576<u)=false:=decide_eq_false hbig
  by_cases hsh:n<12+u
  ·have HD:Bx (decF xs=([],0,2)):=⟨by unfold decF; rw[if_neg H8.out,if_neg (fun h=>h H4.out),HU.out,if_neg hbig,HL.out,if_pos hsh]⟩
   have f1:decide ((n:Int)<12+(u:Int))=true:=decide_eq_true (by omega)
   go_enter Tryz.func122,Tryz.ntmps122
   go_wp2_with fail
   go_quiet ((first | (go_at_call 178; exact HF4.out _) | (go_at_call 171; exact HM4.out _)))
   go_wp2_with fail
   refine (HTK.out _).mono ?_
   rintro e w2 ⟨rfl,q2,hw2⟩
   have HC2:Bx (Ch (fun _=>False) w w2):=⟨by rw[hw2]; exact (Ch.refl _ w).drewN q2⟩
   clear hw2 HTK HF4 HM4
   go_wp2
   go_ret3
   exact DecP.err HD.out HC2.out
  have f1:decide ((n:Int)<12+(u:Int))=false:=decide_eq_false (by omega)
  have f2:(8:Int)+(u:Int)≤(c:Int):=by omega
  have f3:(8:Int)+(u:Int)≤(n:Int):=by omega
  have f5:((8:Int)+(u:Int)).toNat=8+u:=by omega
  have f6:8+u-8=u:=by omega
  have f7:¬ c=8+u:=by omega
  have f8:(0:Int)≤8+(u:Int):=by omega
  have f9:(8:Int)≤8+(u:Int):=by omega
  have f10:IntKind.i64.wrap ((8:Int)+(u:Int))=(8:Int)+(u:Int):=IntWalk.i64_in _ (by omega)
  have f11:¬ c=8:=by omega
  obtain⟨u8,hu8⟩:∃ z,unf xs (8+u)=z:=⟨_,rfl⟩
  obtain⟨s8,hs8⟩:∃ z,sumN (xs.take (8+u))=z:=⟨_,rfl⟩
  have HU8:=Bx.mk hu8
  have HS8:=Bx.mk hs8
  clear hu8 hs8
  by_cases hl8:u8=s8
  ·have HD:Bx (decF xs=((xs.drop 8).take u,12+u,0)):=⟨by unfold decF; rw[if_neg H8.out,if_neg (fun h=>h H4.out),HU.out,if_neg hbig,HL.out,if_neg hsh,HU8.out,HS8.out,if_neg (fun h=>h hl8)]⟩
   subst hl8
   go_enter Tryz.func122,Tryz.ntmps122
   go_wp2_with fail
   go_quiet ((first | (go_at_call 178; exact HF4.out _) | (go_at_call 171; exact HM4.out _)))
   go_wp2_with fail
   refine (HTK.out _).mono ?_
   rintro e w2 ⟨rfl,q2,hw2⟩
   have HC2:Bx (Ch (fun _=>False) w w2):=⟨by rw[hw2]; exact (Ch.refl _ w).drewN q2⟩
   clear hw2 HTK HF4 HM4
   have HS2:=Bx.mk (HS.out.ch HC2.out (fun _ _ _ h=>h))
   have hd8:=HS2.out.drop (k:=8+u) (by omega)
   have ht8:=HS2.out.take (k:=8+u) (by omega)
   have HF8:=Bx.mk (fun k=>fromfour_val (c:=c-(8+u)) (xs.drop (8+u)) (some ⟨b0,o0+(8+u),none⟩) (n-(8+u)) w2 hd8 (byt_drop HB.out _) (by omega) (by omega) u8 (by rw[unf_drop]; exact HU8.out) k)
   have HM8:=Bx.mk (fun k=>refsum_val (c:=c) (xs.take (8+u)) (some ⟨b0,o0,none⟩) (8+u) w2 ht8 (byt_take HB.out _) (by omega) u8 HS8.out k)
   clear hd8 ht8
   go_wp2_with fail
   go_quiet ((first | (go_at_call 178; exact HF8.out _) | (go_at_call 171; exact HM8.out _)))
   obtain⟨w3,hw3⟩:∃ w3,w2.drewN nq=w3:=⟨_,rfl⟩
   have HC3:Bx (Ch (fun _=>False) w w3):=⟨by rw[←hw3]; exact HC2.out.drewN nq⟩
   rw[hw3]
   clear hw3 HF8 HM8
   have HST:=Bx.mk ((((HS.out.ch HC3.out (fun _ _ _ h=>h)).drop (k:=8) (by omega)).take (k:=u) (by omega)).alloc (.cells #[] 5))
   have HON:=Bx.mk (own_none8 w3)
   go_wp2_with (at_builtin; refine wp_app rfl (.tmp 37) (.tmp 41) Tb rfl rfl HON.out rfl HST.out ?c1 ?c2 ?c3 ?_)
   case c1=>exact ints_cells _ _
   case c2=>omega
   case c3=>omega
   intro v5 w5 ho5 hg5 hb5
   have hlen:((xs.drop 8).take u).length=u:=by rw[List.length_take,List.length_drop,HL.out]; omega
   have hf5:Fresh w3 v5 ((xs.drop 8).take u) w5:=(fresh_none8 w3).app8 (by rw[hlen,List.map_take,List.map_drop]; exact ho5) hg5 (by rw[World.size_alloc]; exact hb5)
   have HF:Bx (Fresh w v5 ((xs.drop 8).take u) w5):=⟨hf5.1,fun g hg=>Nat.le_trans HC3.out.size (hf5.2.1 g hg),HC3.out.trans hf5.2.2 (fun _ _ h=>h)⟩
   clear ho5 hg5 hb5 hf5
   go_wp2
   go_ret3
   refine⟨v5,?_,by rw[HD.out]; exact HF.out⟩
   rw[HD.out]
   simp
  ·have HD:Bx (decF xs=([],0,4)):=⟨by unfold decF; rw[if_neg H8.out,if_neg (fun h=>h H4.out),HU.out,if_neg hbig,HL.out,if_neg hsh,HU8.out,HS8.out,if_pos hl8]⟩
   have hq8:((u8:Int) != (s8:Int))=true:=by simp; omega
   have HL8:=Bx.mk hl8
   clear hl8
   go_enter Tryz.func122,Tryz.ntmps122
   go_wp2_with fail
   go_quiet ((first | (go_at_call 178; exact HF4.out _) | (go_at_call 171; exact HM4.out _)))
   go_wp2_with fail
   refine (HTK.out _).mono ?_
   rintro e w2 ⟨rfl,q2,hw2⟩
   have HC2:Bx (Ch (fun _=>False) w w2):=⟨by rw[hw2]; exact (Ch.refl _ w).drewN q2⟩
   clear hw2 HTK HF4 HM4
   have HS2:=Bx.mk (HS.out.ch HC2.out (fun _ _ _ h=>h))
   have hd8:=HS2.out.drop (k:=8+u) (by omega)
   have ht8:=HS2.out.take (k:=8+u) (by omega)
   have HF8:=Bx.mk (fun k=>fromfour_val (c:=c-(8+u)) (xs.drop (8+u)) (some ⟨b0,o0+(8+u),none⟩) (n-(8+u)) w2 hd8 (byt_drop HB.out _) (by omega) (by omega) u8 (by rw[unf_drop]; exact HU8.out) k)
   have HM8:=Bx.mk (fun k=>refsum_val (c:=c) (xs.take (8+u)) (some ⟨b0,o0,none⟩) (8+u) w2 ht8 (byt_take HB.out _) (by omega) s8 HS8.out k)
   clear hd8 ht8
   go_wp2_with fail
   go_quiet ((first | (go_at_call 178; exact HF8.out _) | (go_at_call 171; exact HM8.out _)))
   go_wp2
   go_ret3
   exact DecP.err HD.out (HC2.out.drewN _)
 ·have HD:Bx (decF xs=([],0,4)):=⟨by unfold decF; rw[if_neg h8',HU4.out,HS4.out,if_pos h4]⟩
  have hq:((u4:Int) != (s4:Int))=true:=by simp; omega
  clear h4 h8'
  go_enter Tryz.func122,Tryz.ntmps122
  go_wp2_with fail
  go_quiet ((first | (go_at_call 178; exact HF4.out _) | (go_at_call 171; exact HM4.out _)))
  go_wp2
  go_ret3
  exact DecP.err HD.out ((Ch.refl _ w).drewN _)
theorem rone_any {F:Nat→Prop} (xs:List Int) (A:Option Addr) (n c:Nat) (w:World) (hs:Sl w F .u8 A n xs) (hc:n≤c) (hcm:c≤maxLen) (hn:n≤100000000) (hby:Byt xs) :
  Calls Tryz.prog 71 #[.slice A n c] w (OneP xs w):=by
 have HD:=Bx.mk (rdecode_any xs A n c w hs hc hcm hn hby)
 have hl:=hs.len
 have hle:=decF_le xs
 obtain⟨p,k,ec,hd⟩:∃ p k ec,decF xs=(p,k,ec):=⟨_,_,_,rfl⟩
 have HDD:=Bx.mk hd
 have HPO:Bx (DecP xs w=fun e w'=>∃ v,e = .returned (.tuple #[v, .int .i64 (k:Nat), .int .i64 ec])∧Fresh w v p w'):=⟨by
  funext e w'
  unfold DecP
  rw[hd]⟩
 rw[hd] at hle
 simp only at hle
 have HL:=Bx.mk hl
 have HLE:=Bx.mk hle
 clear hs hby hl hd hle
 by_cases he:ec=0
 ·subst he
  have hkn:k≤n:=by have:=HLE.out; rw[HL.out] at this; exact this
  by_cases hk:k=n
  ·subst hk
   have HO:Bx (oneF xs=(p,0)):=⟨by unfold oneF; rw[HDD.out]; simp only[ne_eq,not_true_eq_false,if_false]; rw[if_neg (by rw[HL.out]; simp)]⟩
   go_enter Tryz.func71,Tryz.ntmps71
   go_wp2_with fail
   refine HD.out.mono ?_
   rw[HPO.out]
   rintro e w1 ⟨v,rfl,hf⟩
   have HF:=Bx.mk hf
   clear hf HD
   go_wp2
   go_ret2
   exact OneP.of HO.out HF.out
  ·have HO:Bx (oneF xs=([],3)):=⟨by unfold oneF; rw[HDD.out]; simp only[ne_eq,not_true_eq_false,if_false]; rw[if_pos (by rw[HL.out]; exact hk)]⟩
   have hq:((k:Int) != (n:Int))=true:=by simp; omega
   have HK:=Bx.mk hk
   clear hk
   go_enter Tryz.func71,Tryz.ntmps71
   go_wp2_with fail
   refine HD.out.mono ?_
   rw[HPO.out]
   rintro e w1 ⟨v,rfl,hf⟩
   have HF:=Bx.mk hf
   clear hf HD
   go_wp2
   go_ret2
   exact OneP.of HO.out (fresh_none HF.out.2.2)
 ·have HO:Bx (oneF xs=([],ec)):=⟨by unfold oneF; rw[HDD.out]; rw[if_pos he]⟩
  have hq:((ec:Int) != 0)=true:=by simpa using he
  have hq2:((ec:Int)==0)=false:=by simpa using he
  have HE:=Bx.mk he
  clear he
  go_enter Tryz.func71,Tryz.ntmps71
  go_wp2_with fail
  refine HD.out.mono ?_
  rw[HPO.out]
  rintro e w1 ⟨v,rfl,hf⟩
  have HF:=Bx.mk hf
  clear hf HD
  go_wp2
  go_ret2
  exact OneP.of HO.out (fresh_none HF.out.2.2)
end
section
open Go.RowKit Go.Oct Go.Su Go.Fr
theorem Rw8.keep {w wr w2:World} {v:Value} {n:Nat} {xs:List Int} (h:Rw8 w wr v n xs) (hc:Ch (fun _=>False) wr w2):Rw8 w w2 v n xs:=⟨hc.own h.own (fun _ _ h=>h),h.lies,h.ch.trans hc (fun _ _ h=>h)⟩
theorem Rw8.sl {w wr:World} {A:Option Addr} {c n:Nat} {xs:List Int} (h:Rw8 w wr (.slice A n c) n xs):Sl wr (fun b=>w.heap.size≤b) .u8 A n xs:=(Sl.of_own h.own).mono (fun b _ hb=>h.lies b hb)
def four4 (k:Nat):Obj := .cells #[.int .u8 ((k:Int)%256), .int .u8 ((k:Int)/256%256), .int .u8 ((k:Int)/65536%256), .int .u8 ((k:Int)/16777216)] 5
theorem four_blk (k:Nat) (w:World) (hk:k<4294967296) :
  Calls Tryz.prog 170 #[.int .u32 (k:Nat)] w fun e w'=>e = .returned (.slice (some ⟨w.heap.size,0,none⟩) 4 4)∧w'=w.alloc (four4 k):=four_any k w hk
theorem Rw8.four (w:World) (k:Nat) (hk:k<4294967296):Rw8 w (w.alloc (four4 k)) (.slice (some ⟨w.heap.size,0,none⟩) 4 4) 4 (four k):=by
 refine⟨?_,fun g hg=>by simp[Value.ownBlock] at hg; omega,(Ch.refl _ _).alloc _⟩
 rw[←fourV_eq hk]
 exact World.ownsRow_lit (base:=0) (e := 5) (size:=1) w (fourV k).toArray 4 (Nat.zero_le _) (by unfold maxLen; omega) rfl
theorem four4_sl (k:Nat) (w:World) (hk:k<4294967296):Sl (w.alloc (four4 k)) (fun _=>True) .u8 (some ⟨w.heap.size,0,none⟩) 4 (four k):=(four_sl k w hk 5).mono fun _ _ _=>trivial
theorem rencode_any {F:Nat→Prop} (xs:List Int) (A:Option Addr) (n c:Nat) (w:World) (hs:Sl w F .u8 A n xs) (hn:n≤1048576) (hby:Byt xs) :
  Calls Tryz.prog 110 #[.slice A n c] w fun e w'=>∃ v,e = .returned (.tuple #[v, .int .i64 0])∧Fresh w v (frm xs) w':=by
 have hl:=hs.len
 have HL:=Bx.mk hl
 have HS:=Bx.mk hs
 have HB:=Bx.mk hby
 clear hs hby hl
 have d1:decide ((1048576:Int)<(n:Int))=false:=decide_eq_false (by omega)
 go_enter Tryz.func110,Tryz.ntmps110
 go_wp2_with fail
 refine (four_blk n w (by omega)).mono ?_
 rintro e w1 ⟨rfl,hw1⟩
 have HR1:Bx (Rw8 w w1 (.slice (some ⟨w.heap.size,0,none⟩) 4 4) 4 (four n)):=⟨by rw[hw1]; exact Rw8.four w n (by omega)⟩
 clear hw1
 go_wp2_with fail
 refine (O.refsum_any (four n) _ 4 4 w1 _ (by omega) HR1.out.sl (four_byt n)).mono ?_
 rintro e w2 ⟨rfl,rfl⟩
 obtain⟨s1,hs1⟩:∃ s,sumN (four n)=s:=⟨_,rfl⟩
 have hsl1:s1<4294967296:=by rw[←hs1]; exact sumN_lt
 have HS1:=Bx.mk hs1
 rw[hs1]
 clear hs1
 go_wp2_with fail
 refine (four_blk s1 w1 hsl1).mono ?_
 rintro e w2 ⟨rfl,hw2⟩
 have HR2:Bx (Rw8 w w2 (.slice (some ⟨w.heap.size,0,none⟩) 4 4) 4 (four n)):=⟨by rw[hw2]; exact HR1.out.keep ((Ch.refl _ _).alloc _)⟩
 have HF2:Bx (Sl w2 (fun _=>True) .u8 (some ⟨w1.heap.size,0,none⟩) 4 (four s1)):=⟨by rw[hw2]; exact four4_sl s1 w1 hsl1⟩
 clear hw2 HR1
 go_wp2_with (at_builtin; refine wp_app rfl (.tmp 12) (.tmp 15) Tb rfl rfl HR2.out.own rfl HF2.out ?c1 ?c2 ?c3 ?_)
 case c1=>exact ints_cells _ _
 case c2=>omega
 case c3=>omega
 intro v3 w3 ho hg hb
 have HR3:Bx (Rw8 w w3 v3 8 (hd n)):=⟨by have:=HR2.out.app (m:=4) (ys:=four s1) ho hg hb; rw[←HS1.out] at this; exact this⟩
 clear ho hg hb HR2 HF2
 obtain⟨A3,c3,rfl,_,_⟩:=own_shape HR3.out.own
 have HP:=Bx.mk (HS.out.ch HR3.out.ch (fun _ _ _ h=>h))
 go_wp2_with (at_builtin; refine wp_app rfl (.tmp 17) (.tmp 18) Tb rfl rfl HR3.out.own rfl HP.out ?c1 ?c2 ?c3 ?_)
 case c1=>exact ints_cells _ _
 case c2=>omega
 case c3=>omega
 intro v4 w4 ho hg hb
 have HR4:=Bx.mk (HR3.out.app (m:=n) (ys:=xs) ho hg hb)
 clear ho hg hb HR3 HP
 obtain⟨A4,c4,rfl,_,_⟩:=own_shape HR4.out.own
 have HBY:Bx (Byt (hd n++xs)):=⟨fun x hx=>by
  rcases List.mem_append.1 hx with h | h
  ·exact hd_byt _ x h
  ·exact HB.out x h⟩
 go_wp2_with fail
 refine (O.refsum_any (hd n++xs) _ (8+n) c4 w4 _ (by omega) HR4.out.sl HBY.out).mono ?_
 rintro e w5 ⟨rfl,rfl⟩
 obtain⟨s2,hs2⟩:∃ s,sumN (hd n++xs)=s:=⟨_,rfl⟩
 have hsl2:s2<4294967296:=by rw[←hs2]; exact sumN_lt
 have HS2:=Bx.mk hs2
 rw[hs2]
 clear hs2
 go_wp2_with fail
 refine (four_blk s2 w4 hsl2).mono ?_
 rintro e w5 ⟨rfl,hw5⟩
 have HR5:Bx (Rw8 w w5 (.slice A4 (8+n) c4) (8+n) (hd n++xs)):=⟨by rw[hw5]; exact HR4.out.keep ((Ch.refl _ _).alloc _)⟩
 have HF5:Bx (Sl w5 (fun _=>True) .u8 (some ⟨w4.heap.size,0,none⟩) 4 (four s2)):=⟨by rw[hw5]; exact four4_sl s2 w4 hsl2⟩
 clear hw5 HR4
 go_wp2_with (at_builtin; refine wp_app rfl (.tmp 20) (.tmp 23) Tb rfl rfl HR5.out.own rfl HF5.out ?c1 ?c2 ?c3 ?_)
 case c1=>exact ints_cells _ _
 case c2=>omega
 case c3=>omega
 intro v6 w6 ho hg hb
 have hr6:=HR5.out.app (m:=4) (ys:=four s2) ho hg hb
 have HF6:Bx (Fresh w v6 (frm xs) w6):=⟨by
  rw[←HS2.out] at hr6
  have e:hd n++xs++four (sumN (hd n++xs))=frm xs:=by unfold frm; rw[HL.out]
  rw[e] at hr6
  have hlen:8+n+4=(frm xs).length:=by rw[frm_len,HL.out]; omega
  rw[hlen] at hr6
  exact hr6.fresh⟩
 clear ho hg hb HR5 HF5 hr6
 go_wp2
 go_ret2
 exact⟨v6,rfl,HF6.out⟩
end
end Go.Proofs.YtambgjpfoceieaaGreatDoor
