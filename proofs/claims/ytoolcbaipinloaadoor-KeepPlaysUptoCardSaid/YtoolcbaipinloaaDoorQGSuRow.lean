/- Lemmas and contracts of this proof. Conditions: said at each. -/
import Derived.Test.YtoolcbaipinloaaDoorQGOcWords
import Derived.Test.YtoolcbaipinloaaDoorQSuMath
import Derived.Deep.QuietTactic
import Derived.BigQuiet
import Derived.Outline
import Derived.IntWalk
import Derived.Deep.RegionHeld3
set_option maxHeartbeats 2000000
namespace Go.Proofs.YtoolcbaipinloaaDoor
section
open Go.RowKit Go.Oct
structure Bx (p:Prop):Prop where
 out:p
theorem ret_int {k:IntKind} {a b:Int} (h:a=b):Ending.returned (.int k a) = .returned (.int k b):=by rw[h]
theorem ret_bool {a b:Bool} (h:a=b):Ending.returned (.bool a) = .returned (.bool b):=by rw[h]
section
variable {w w':World} {e:TypeId} {s g n c:Nat} {us:List Value}
end
theorem own_form {w:World} {base:Nat} {e:TypeId} {size n:Nat} {v:Value} {xs:List Value} (h:w.ownsRow base e size v n xs):(v = .slice none 0 0∧n=0)∨∃ g c,v = .slice (some ⟨g,0,none⟩) n c∧n≤c∧c≤maxLen:=by
 rcases h.2 with ⟨rfl,rfl⟩ | ⟨g,cap,cur,rfl,_,_,h1,h2,_⟩
 ·exact .inl ⟨rfl,rfl⟩
 ·exact .inr ⟨g,cap,rfl,h1,h2⟩
section
variable {w wr w2:World} {v v':Value} {xs ys:List Nat}
end
end
section
open Go.RowKit Go.Oct Go.Su
theorem Tb:Elem Tryd.prog 32 5 (.int .u8 0) 1:=⟨Tryd.underlying32,by kernel_rfl,rfl⟩
def Fresh (w:World) (v:Value) (xs:List Int) (w':World):Prop :=
 w'.ownsRow 0 5 1 v xs.length (xs.map (Value.int .u8))∧(∀ g,v.ownBlock=some g→w.heap.size≤g)∧Ch (fun _=>False) w w'
theorem Fresh.app {w wr w1:World} {m:Nat} {v v':Value} {ys zs:List Int} (h:Fresh w v ys wr) (hg:wr.grownBy w1 v.ownBlock)
  (ho:w1.ownsRow 0 5 1 v' (ys.length+m) (ys.map (Value.int .u8)++zs.map (Value.int .u8))) (hb:v'.ownBlock=v.ownBlock∨v'.ownBlock=some wr.heap.size):Fresh w v' (ys++zs) w1:=by
 have hl:m=zs.length:=by
  have:=ho.1
  simp at this
  omega
 subst hl
 refine⟨by rw[List.map_append,List.length_append]; exact ho,fun g hgg=>?_,h.2.2.grown hg fun k hk => .inr (h.2.1 k hk)⟩
 have hsz:=h.2.2.size
 rcases hb with hb | hb
 ·exact h.2.1 g (by rw[←hb]; exact hgg)
 ·rw[hb] at hgg
  injection hgg with hgg
  omega
theorem Fresh.after {w w0 w':World} {v:Value} {xs:List Int} (h0:Ch (fun _=>False) w w0) (h:Fresh w0 v xs w'):Fresh w v xs w' :=
 ⟨h.1,fun g hg=>by have:=h.2.1 g hg; have:=h0.size; omega,h0.trans h.2.2 fun _ _ h=>h⟩
end
section
open Go.RowKit Go.Oct Go.Su
structure Gs (e:TypeId) (s:Nat) (w wr:World) (v:Value) (n:Nat) (us:List Value):Prop where
 own:wr.ownsRow 0 e s v n us
 lies:∀ g,v.ownBlock=some g→w.heap.size≤g
 ch:Ch (fun _=>False) w wr
section
variable {e:TypeId} {s n m:Nat} {w wr w2 wm:World} {v v':Value} {us news:List Value}
theorem Gs.nil (e:TypeId) (s:Nat) (w:World):Gs e s w w (.slice none 0 0) 0 []:=⟨World.ownsRow_nil _ _ _ _,fun g hg=>by simp[Value.ownBlock] at hg,Ch.refl _ _⟩
theorem Gs.app (h:Gs e s w wr v n us) (hm:Ch (fun _=>False) wr wm) (ho:w2.ownsRow 0 e s v' (n+m) (us++news)) (hg:wm.grownBy w2 v.ownBlock) (hb:v'.ownBlock=v.ownBlock∨v'.ownBlock=some wm.heap.size):Gs e s w w2 v' (n+m) (us++news):=by
 have hc:=h.ch.trans hm (fun _ _ h=>h)
 refine⟨ho,fun g hgv=>?_,hc.grown hg (fun k hk => .inr (h.lies k hk))⟩
 rcases hb with hb | hb
 ·exact h.lies g (hb ▸ hgv)
 ·rw[hb] at hgv
  injection hgv with hgv
  have:=hc.size
  omega
theorem Gs.shape (h:Gs e s w wr v n us):∃ A c,v = .slice A n c∧n≤c∧c≤maxLen:=own_shape h.own
theorem Gs.vs {A:Option Addr} {c:Nat} (h:Gs e 1 w wr (.slice A n c) n us):Vs wr (fun b=>w.heap.size≤b) A n us :=
 (Vs.of_own h.own).mono (fun b _ hb=>h.lies b hb)
end
theorem own_lt {w:World} {base s n:Nat} {e:TypeId} {v:Value} {us:List Value} (h:w.ownsRow base e s v n us):∀ g,v.ownBlock=some g→g<w.heap.size:=fun g hg=>(h.lt g hg).2
structure ElemK (P:Program) (t e:TypeId) (z:Value) (size bytes:Nat):Prop where
 t:P.underlying t=some (.slice e)
 info:(P.info? e).map (fun i=>(i.zero,i.size,i.bytes))=some (some z,size,bytes)
 z:z.cells.size=size
 pos:0<size
theorem infoK {P:Program} {e:TypeId} {z:Value} {size bytes:Nat} (h:(P.info? e).map (fun i=>(i.zero,i.size,i.bytes))=some (some z,size,bytes)):∃ i,P.info? e=some i∧i.zero=some z∧i.size=size∧i.bytes=bytes:=by
 cases hi:P.info? e with
 | none=>rw[hi] at h; cases h
 | some i =>
  rw[hi] at h
  simp only[Option.map_some,Option.some.injEq,Prod.mk.injEq] at h
  exact⟨i,rfl,h.1,h.2.1,h.2.2⟩
section
variable {P:Program} {t e:TypeId} {z:Value} {size bytes:Nat}
theorem wp_appK {w:World} {ops:Array Oper} {rest:List Oper} {o:Oper} {a:Act} {Q:Exit→Act→World→Prop} (hgd:o.guard=none) (s x:Operand) (T:ElemK P t e z size bytes)
  (ho:o.op = .call { callee := .builtin .append,args:=#[s,x],argTypes:=#[t,t] }) {v:Value} {n:Nat} {xs:List Value} (hs:a.eval s=v) (hown:w.ownsRow 0 e size v n xs)
  {ad:Addr} {m c:Nat} {news:List Value} (hx:a.eval x = .slice (some ad) m c) (hl:news.length=m*size) (hr:∀ j u,news[j]? = some u→w.cell? (ad.add j)=some u) (h1:∀ u∈news,u.oneCell'=true) (hb:(n+m)*bytes≤140737488355328) (h63:n+m≤140737488355328)
  (h:∀ v' w',w'.ownsRow 0 e size v' (n+m) (xs++news)→w.grownBy w' v.ownBlock→(v'.ownBlock=v.ownBlock∨v'.ownBlock=some w.heap.size)→wpList P ops Q rest (a.put o.dst v') w'):wpList P ops Q (o::rest) a w :=
 wpList_plain hgd fun _ hK=>by
  obtain⟨i,hi,hz,hsz,hby⟩:=infoK T.info
  obtain⟨v',w',hrun,h2,h3,_,h5⟩:=run_append_own_at (P:=P) w 0 t o.type e i z size bytes T.t hi hz hsz hby T.z T.pos v n xs hown ad m c news hl hr h1 (by unfold maxLen; omega) hb (Nat.zero_le _)
  unfold Oper.wp execOp
  simp only[ho,resolve,invoke,builtin,Sem.run_bind,Sem.run_pure,Result.andThen_ok,List.map_toArray,List.map_cons,List.map_nil,hs,hx,hrun]
  exact hK _ _ (h v' w' h2 h3 h5)
end
end
section
open Go.RowKit Go.Oct
def Alike (xs ys:List Int) (k:Nat):Prop:=∀ j,j<k→xs[j]? = ys[j]?
theorem alike_all {xs ys:List Int} {n:Nat} (hx:xs.length=n) (hy:ys.length=n) (ha:Alike xs ys n):xs=ys:=by
 apply List.ext_getElem?
 intro j
 rcases Nat.lt_or_ge j n with h | h
 ·exact ha j h
 ·rw[List.getElem?_eq_none (by omega),List.getElem?_eq_none (by omega)]
theorem alike_succ {xs ys:List Int} {k:Nat} {x:Int} (ha:Alike xs ys k) (hx:xs[k]? = some x) (hy:ys[k]? = some x):Alike xs ys (k+1):=by
 intro j hj
 rcases Nat.lt_or_ge j k with h | h
 ·exact ha j h
 ·obtain rfl:j=k:=by omega
  rw[hx,hy]
theorem alike_not {xs ys:List Int} {k:Nat} {x y:Int} (hx:xs[k]? = some x) (hy:ys[k]? = some y) (h:x≠y):xs≠ys:=by
 rintro rfl
 rw[hx] at hy
 exact h (Option.some.inj hy)
theorem same_any (A A':Option Addr) (n n' c c':Nat) (xs ys:List Int) (F F':Nat→Prop) (w:World) (hn:n≤9223372036854775807) (hn':n'≤9223372036854775807)
  (hx:Sl w F .u8 A n xs) (hy:Sl w F' .u8 A' n' ys) :
  Calls Tryd.prog 15 #[.slice A n c, .slice A' n' c'] w fun e w'=>e = .returned (.bool (decide (xs=ys)))∧∃ k,w'=w.drewN k:=by
 by_cases hne:n=n'
 ·subst hne
  go_enter Tryd.func15,Tryd.ntmps15
  go_wp2
  go_loopw [5] (fun i wr=>∃ k:Nat,k≤n∧i = .int .i64 k∧Alike xs ys k∧∃ m,wr=w.drewN m) (fun i _=>n-(intOf i).toNat)
  case atStart=>exact⟨0,Nat.zero_le _,rfl,fun j hj=>absurd hj (by omega),0,rfl⟩
  case round =>
   obtain⟨k,hk,rfl,ha,m,rfl⟩:=hrel
   have HA:=Lib.hid ha
   clear ha
   by_cases hlt:k<n
   ·obtain⟨b,off,x,rfl,_,ex,hc⟩:=hx.at_ hlt
    obtain⟨b',off',y,rfl,_,ey,hc'⟩:=hy.at_ hlt
    by_cases he:x=y
    ·subst he
     have hb:(x != x)=false:=by simp
     go_wp2
     go_quiet (fail)
     go_wp2
     go_roundw
     case rel=>exact⟨k+1,by omega,by go_num,alike_succ HA.out ex.out ey.out,_,rfl⟩
     case measure=>simp[intOf]; omega
    ·have hb:(x != y)=true:=by simpa using he
     have HE:=Lib.hid he
     clear he
     go_wp2
     go_quiet (fail)
     go_wp2
     go_ret
     exact⟨ret_bool (by rw[decide_eq_false (alike_not ex.out ey.out HE.out)]),_,World.drewN_drewN _ _ _⟩
   ·go_wp2
    go_ret
    obtain rfl:k=n:=by omega
    exact⟨ret_bool (by rw[decide_eq_true (alike_all hx.len hy.len HA.out)]),_,rfl⟩
 ·have hb:((n:Int) != (n':Int))=true:=by rw[bne_iff_ne]; omega
  go_enter Tryd.func15,Tryd.ntmps15
  go_wp2
  go_ret
  exact⟨ret_bool (by rw[decide_eq_false (fun e=>hne (by rw[←hx.len,←hy.len,e]))]),0,rfl⟩
end
section
open Go.RowKit Go.Oct Go.Su Go.Fr
theorem four_cells {w:World} {F:Nat→Prop} {A:Option Addr} {n:Nat} {xs:List Int} (h:Sl w F .u8 A n xs) (hb:Byt xs) (hn:4≤n):∃ (b o x0 x1 x2 x3:Nat),A=some ⟨b,o,none⟩∧x0<256∧x1<256∧x2<256∧x3<256∧unf xs 0=x0+256*x1+65536*x2+16777216*x3 ∧
  w.cell? ⟨b,o,none⟩=some (.int .u8 (x0:Int))∧w.cell? ⟨b,o+1,none⟩=some (.int .u8 (x1:Int))∧w.cell? ⟨b,o+2,none⟩=some (.int .u8 (x2:Int))∧w.cell? ⟨b,o+3,none⟩=some (.int .u8 (x3:Int)):=by
 have hl:=h.len
 have at_:∀ j,j<4→∃ x:Nat,xs.getD j 0=(x:Int)∧x<256:=fun j hj=>by
  rw[List.getD_eq_getElem?_getD,List.getElem?_eq_getElem (by omega)]
  obtain⟨h0,h1⟩:=hb _ (List.getElem_mem (show j<xs.length by omega))
  exact⟨(xs[j]).toNat,by simp only[Option.getD_some]; omega,by omega⟩
 obtain⟨b,o,_,rfl,_,_,_⟩:=h.at_ (k:=0) (by omega)
 have ce:∀ j,j<4→w.cell? ⟨b,o+j,none⟩=some (.int .u8 (xs.getD j 0)):=fun j hj=>by
  obtain⟨b',o',x,e,_,hx,hc⟩:=h.at_ (k:=j) (by omega)
  injection e with e
  injection e with e1 e2
  subst e1 e2
  rw[hc,List.getD_eq_getElem?_getD,hx.out]
  rfl
 obtain⟨x0,e0,l0⟩:=at_ 0 (by omega)
 obtain⟨x1,e1,l1⟩:=at_ 1 (by omega)
 obtain⟨x2,e2,l2⟩:=at_ 2 (by omega)
 obtain⟨x3,e3,l3⟩:=at_ 3 (by omega)
 refine⟨b,o,x0,x1,x2,x3,rfl,l0,l1,l2,l3,?_,?_,?_,?_,?_⟩
 ·unfold unf
  rw[e0,e1,e2,e3]
  simp
 ·rw[←e0]; exact ce 0 (by omega)
 ·rw[←e1]; exact ce 1 (by omega)
 ·rw[←e2]; exact ce 2 (by omega)
 ·rw[←e3]; exact ce 3 (by omega)
theorem ofInt32 (a:Nat) (ha:a<4294967296):(BitVec.ofInt 32 (a:Int)).toNat=a:=by
 rw[BitVec.ofInt_natCast,BitVec.toNat_ofNat]; exact Nat.mod_eq_of_lt (by omega)
theorem or32 {m q k:Nat} (hm:m<2^k) (hq:q*2^k<4294967296) (hk:2^k≤4294967296):bits .or .u32 (m:Int) ((q*2^k:Nat):Int)=((m+q*2^k:Nat):Int):=by
 have hor:m ||| q*2^k=m+q*2^k:=by
  have h:=Nat.two_pow_add_eq_or_of_lt (i:=k) (b:=m) hm q
  rw[Nat.or_comm,Nat.mul_comm q,←h,Nat.add_comm]
 show IntKind.u32.wrap ((BitVec.ofInt 32 (m:Int) ||| BitVec.ofInt 32 ((q*2^k:Nat):Int)).toNat:Int)=_
 rw[BitVec.toNat_or,ofInt32 m (by omega),ofInt32 _ hq,hor,IntKind.wrap_u32]
 have hlt:m+q*2^k<4294967296:=by
  rw[←hor]
  exact Nat.or_lt_two_pow (n:=32) (by omega) hq
 omega
theorem four_or {x0 x1 x2 x3:Nat} (l0:x0<256) (l1:x1<256) (l2:x2<256) (l3:x3<256) :
  bits .or .u32 (bits .or .u32 (bits .or .u32 (x0:Int) ((x1:Int)*256)) ((x2:Int)*65536)) ((x3:Int)*16777216)=((x0+256*x1+65536*x2+16777216*x3:Nat):Int):=by
 have e1:=or32 (m:=x0) (q:=x1) (k:=8) (by omega) (by omega) (by omega)
 have e2:=or32 (m:=x0+x1*2^8) (q:=x2) (k:=16) (by omega) (by omega) (by omega)
 have e3:=or32 (m:=x0+x1*2^8+x2*2^16) (q:=x3) (k:=24) (by omega) (by omega) (by omega)
 rw[show (x1:Int)*256=((x1*2^8:Nat):Int) by omega,e1,show (x2:Int)*65536=((x2*2^16:Nat):Int) by omega,e2,show (x3:Int)*16777216=((x3*2^24:Nat):Int) by omega,e3]
 omega
theorem take_any {F:Nat→Prop} (xs:List Int) (A:Option Addr) (n c:Nat) (w:World) (h:Sl w F .u8 A n xs) (hb:Byt xs) (hn:4≤n) (hm:n≤1000000000) :
  Calls Tryd.prog 79 #[.slice A n c] w fun e w'=>e = .returned (.int .u32 (unf xs 0:Nat))∧∃ q,w'=w.drewN q:=by
 obtain⟨b,o,x0,x1,x2,x3,rfl,l0,l1,l2,l3,hu,c0,c1,c2,c3⟩:=four_cells h hb hn
 have HU:=Bx.mk hu
 clear hu h hb
 go_enter Tryd.func79,Tryd.ntmps79
 go_wp2_with fail
 go_quiet (fail)
 go_wp2
 go_ret
 exact⟨ret_int (by rw[HU.out,four_or l0 l1 l2 l3]),_,rfl⟩
theorem fromfour_any {F:Nat→Prop} (xs:List Int) (A:Option Addr) (n c:Nat) (w:World) (h:Sl w F .u8 A n xs) (hb:Byt xs) (hn:4≤n) (hm:n≤1000000000) :
  Calls Tryd.prog 81 #[.slice A n c] w fun e w'=>e = .returned (.int .u32 (unf xs 0:Nat))∧∃ q,w'=w.drewN q:=by
 obtain⟨b,o,x0,x1,x2,x3,rfl,l0,l1,l2,l3,hu,c0,c1,c2,c3⟩:=four_cells h hb hn
 have HU:=Bx.mk hu
 clear hu h hb
 go_enter Tryd.func81,Tryd.ntmps81
 go_wp2_with fail
 go_quiet (fail)
 go_wp2
 go_ret
 exact⟨ret_int (by rw[HU.out,four_or l0 l1 l2 l3]),_,rfl⟩
end
section
open Go.RowKit Go.Oct Go.Su Go.Fr
def Grown (w:World) (v:Value) (n:Nat) (ys:List Int) (e:Ending) (w':World):Prop:=∃ v',e = .returned v'∧w'.ownsRow 0 5 1 v' n (ys.map (Value.int .u8))∧Ch (fun k=>v.ownBlock=some k) w w'∧(∀ g,v'.ownBlock=some g→v.ownBlock=some g∨w.heap.size≤g)
def fourV (k:Nat):List Value:=[.int .u8 ((k:Int)%256), .int .u8 ((k:Int)/256%256), .int .u8 ((k:Int)/65536%256), .int .u8 ((k:Int)/16777216)]
theorem fourV_eq {k:Nat} (hk:k<4294967296):fourV k=(four k).map (Value.int .u8):=by
 unfold fourV four
 simp only[List.map_cons,List.map_nil]
 rw[show (k:Int)%256=((k%256:Nat):Int) by omega,show (k:Int)/256%256=((k/256%256:Nat):Int) by omega,show (k:Int)/65536%256=((k/65536%256:Nat):Int) by omega,show (k:Int)/16777216=((k/16777216%256:Nat):Int) by omega]
theorem fourV_cells (k:Nat):∀ u∈fourV k,u.oneCell'=true:=by
 intro u hu
 simp only[fourV,List.mem_cons,List.not_mem_nil,or_false] at hu
 rcases hu with rfl | rfl | rfl | rfl <;> rfl
theorem lay4_any (xs:List Int) (v:Value) (n k:Nat) (w:World) (hv:w.ownsRow 0 5 1 v n (xs.map (Value.int .u8))) (hn:n≤100000000) (hk:k<4294967296) :
  Calls Tryd.prog 54 #[v, .int .u32 (k:Nat)] w (Grown w v (n+4) (xs++four k)):=by
 obtain⟨A,c,rfl,hc1,hc2⟩:=own_shape hv
 have HV:=Bx.mk hv
 have hvb:Vs (w.alloc (.cells #[.int .u8 ((k:Int)%256), .int .u8 ((k:Int)/256%256), .int .u8 ((k:Int)/65536%256), .int .u8 ((k:Int)/16777216)] 5)) (fun b=>b=w.heap.size) (some ⟨w.heap.size,0,none⟩) 4 (fourV k):=Vs.built w 5 (fourV k)
 have HVB:=Bx.mk hvb
 clear hv hvb
 go_enter Tryd.func54,Tryd.ntmps54
 go_wp2_with (at_builtin; refine wp_app rfl (.tmp 5) (.tmp 17) Tb rfl rfl (HV.out.alloc _) rfl HVB.out ?c1 ?c2 ?c3 ?_)
 case c1=>exact fourV_cells k
 case c2=>omega
 case c3=>omega
 intro v1 w1 ho1 hg1 hb1
 have HP:Bx (Grown w (.slice A n c) (n+4) (xs++four k) (.returned v1) w1):=⟨v1,rfl,by rw[List.map_append,←fourV_eq hk]; exact ho1,((Ch.refl _ w).alloc _).grown hg1 (fun _ h => .inl h),fun g hg=>by
  rcases hb1 with h | h
  ·exact .inl (h ▸ hg)
  ·rw[h] at hg
   injection hg with hg
   exact .inr (by omega)⟩
 clear ho1 hg1 hb1
 go_wp2
 go_ret
 exact HP.out
theorem four_any (k:Nat) (w:World) (hk:k<4294967296) :
  Calls Tryd.prog 57 #[.int .u32 (k:Nat)] w fun e w'=>e = .returned (.slice (some ⟨w.heap.size,0,none⟩) 4 4)∧w'=w.alloc (.cells #[.int .u8 ((k:Int)%256), .int .u8 ((k:Int)/256%256), .int .u8 ((k:Int)/65536%256), .int .u8 ((k:Int)/16777216)] 5):=by
 go_enter Tryd.func57,Tryd.ntmps57
 go_wp2
 go_ret
 exact⟨rfl,rfl⟩
theorem four_sl (k:Nat) (w:World) (hk:k<4294967296) (e:TypeId):Sl (w.alloc (.cells #[.int .u8 ((k:Int)%256), .int .u8 ((k:Int)/256%256), .int .u8 ((k:Int)/65536%256), .int .u8 ((k:Int)/16777216)] e)) (fun b=>b=w.heap.size) .u8 (some ⟨w.heap.size,0,none⟩) 4 (four k):=by
 have h:=Vs.built w e (fourV k)
 unfold Sl
 rw[←fourV_eq hk]
 exact h
end
section
open Go.RowKit Go.Oct Go.Su Go.Fr
theorem O.Tab.ch {w w':World} {S:Nat→Prop} (h:O.Tab w) (hc:Ch S w w') (hS:¬ S 0):O.Tab w':=fun i hi=>hc.cell (p:=⟨0,i,none⟩) hS (h i hi)
theorem O.Tab.alloc {w:World} (h:O.Tab w) (o:Obj):O.Tab (w.alloc o):=h.ch ((Ch.refl (fun _=>False) w).alloc o) (fun h=>h)
theorem cat_one (xs:List Int):cat [xs]=xs:=by simp[cat]
theorem sum_one (xs:List Int) (A:Option Addr) (n c:Nat) (w:World) (F:Nat→Prop) (ht:O.Tab w) (hs:Sl w F .u8 A n xs) (hc:n≤c) (hcm:c≤maxLen) (hb:n≤100000000) (hby:Byt xs) :
  Calls Tryd.prog 75 #[.slice (some ⟨w.heap.size,0,none⟩) 1 1] (w.alloc (.cells #[.slice A n c] 32)) fun e w'=>e = .returned (.int .u32 (sumN xs:Nat))∧w.alloc (.cells #[.slice A n c] 32)=w':=by
 obtain rfl:=hs.len
 have h:=O.sum_any [xs] _ 1 1 _ _ (by omega) (ht.alloc _) (Sls.one (G:=fun _=>True) 32 hs hc hcm (fun _ _ _=>trivial) trivial) (by rw[cat_one]; omega) (fun x hx=>by simp at hx; subst hx; exact hby)
 rw[cat_one] at h
 exact h
theorem sum_row (xs:List Int) (B:Option Addr) (w:World) (ht:O.Tab w) (hz:Sls w (fun _=>True) B 1 [xs]) (hb:xs.length≤100000000) (hby:Byt xs) :
  Calls Tryd.prog 75 #[.slice B 1 1] w fun e w'=>e = .returned (.int .u32 (sumN xs:Nat))∧Ch (fun _=>False) w w':=by
 have h:=O.sum_any [xs] B 1 1 w _ (by omega) ht hz (by rw[cat_one]; omega) (fun x hx=>by simp at hx; subst hx; exact hby)
 rw[cat_one] at h
 exact h.mono fun e w' ⟨h1,h2⟩=>⟨h1,by rw[←h2]; exact Ch.refl _ _⟩
theorem row_one (xs:List Int) (A:Option Addr) (n c:Nat) (w:World) (F:Nat→Prop) (hs:Sl w F .u8 A n xs) (hc:n≤c) (hcm:c≤maxLen):Sls (w.alloc (.cells #[.slice A n c] 32)) (fun _=>True) (some ⟨w.heap.size,0,none⟩) 1 [xs]:=by
 obtain rfl:=hs.len
 exact Sls.one (G:=fun _=>True) 32 hs hc hcm (fun _ _ _=>trivial) trivial
theorem seal_any (xs:List Int) (v:Value) (n:Nat) (w:World) (ht:O.Tab w) (hv:w.ownsRow 0 5 1 v n (xs.map (Value.int .u8))) (hn:n≤100000000) (hby:Byt xs) :
  Calls Tryd.prog 53 #[v] w (Grown w v (n+4) (xs++four (sumN xs))):=by
 obtain⟨A,c,rfl,hc1,hc2⟩:=own_shape hv
 have hs:Sl w _ .u8 A n xs:=Sl.of_own hv
 have hsum:=sum_one xs A n c w _ ht hs hc1 hc2 hn hby
 have hlay:=lay4_any xs (.slice A n c) n (sumN xs) (w.alloc (.cells #[.slice A n c] 32)) (((Ch.refl (fun _=>False) w).alloc _).own hv (fun _ _ h=>h)) hn sumN_lt
 have HS:=Bx.mk hsum
 have HL:=Bx.mk hlay
 have HV:=Bx.mk hv
 clear hsum hlay hv hs ht
 go_enter Tryd.func53,Tryd.ntmps53
 go_wp2_with fail
 refine HS.out.mono ?_
 rintro e w' ⟨rfl,rfl⟩
 generalize sumN xs=s at *
 go_wp2_with fail
 refine HL.out.mono ?_
 rintro e w2 ⟨v2,rfl,ho,hch,hnw⟩
 have HP:Bx (Grown w (.slice A n c) (n+4) (xs++four s) (.returned v2) w2):=⟨v2,rfl,ho,((Ch.refl _ w).alloc _).trans hch (fun _ _ h=>h),fun g hg=>by
  rcases hnw g hg with h | h
  ·exact .inl h
  ·rw[World.size_alloc] at h
   exact .inr (by omega)⟩
 clear ho hch hnw HS HL
 go_wp2
 go_ret
 exact HP.out
theorem unf_drop (xs:List Int) (k:Nat):unf (xs.drop k) 0=unf xs k:=by
 unfold unf
 simp only[List.getD_eq_getElem?_getD,List.getElem?_drop,Nat.add_zero]
theorem byt_drop {xs:List Int} (h:Byt xs) (k:Nat):Byt (xs.drop k):=fun x hx=>h x (List.mem_of_mem_drop hx)
theorem byt_take {xs:List Int} (h:Byt xs) (k:Nat):Byt (xs.take k):=fun x hx=>h x (List.mem_of_mem_take hx)
theorem take_ch {F:Nat→Prop} (xs:List Int) (A:Option Addr) (n c:Nat) (w:World) (h:Sl w F .u8 A n xs) (hb:Byt xs) (hn:4≤n) (hm:n≤1000000000) (u:Nat) (hu:unf xs 0=u) :
  Calls Tryd.prog 79 #[.slice A n c] w fun e w'=>e = .returned (.int .u32 (u:Nat))∧Ch (fun _=>False) w w' :=
 (take_any xs A n c w h hb hn hm).mono fun e w' ⟨h1,q,h2⟩=>⟨by rw[h1,hu],by rw[h2]; exact (Ch.refl _ w).drewN q⟩
theorem sealed_any {F:Nat→Prop} (xs:List Int) (A:Option Addr) (n c:Nat) (w:World) (ht:O.Tab w) (hs:Sl w F .u8 A n xs) (hc:n≤c) (hcm:c≤maxLen) (h4:4≤n) (hn:n≤100000000) (hby:Byt xs) (o:Bool) (ho:decide (unf xs (n-4)=sumN (xs.take (n-4)))=o) :
  Calls Tryd.prog 78 #[.slice A n c] w fun e w'=>e = .returned (.bool o)∧Ch (fun _=>False) w w':=by
 obtain⟨k,hk⟩:∃ k,n-4=k:=⟨_,rfl⟩
 rw[hk] at ho
 obtain⟨b,f,_,rfl,_,_,_⟩:=hs.at_ (k:=0) (by omega)
 have hd:=hs.drop (k:=k) (by omega)
 rw[show n-k=4 by omega] at hd
 have htk:=hs.take (k:=k) (by omega)
 have HA:=Bx.mk (fun (W:World) (h:Ch (fun _=>False) w W)=>take_ch (xs.drop k) (some ⟨b,f+k,none⟩) 4 (c-k) W (hd.ch h (fun _ _ _ h=>h)) (byt_drop hby k) (by omega) (by omega) (unf xs k) (unf_drop xs k))
 have htl:(xs.take k).length=k:=htk.len
 have HB:=Bx.mk (fun (W:World) (h:Ch (fun _=>False) w W) (B:Option Addr) (hz:Sls W (fun _=>True) B 1 [xs.take k])=>sum_row (xs.take k) B W (ht.ch h (fun h=>h)) hz (by omega) (byt_take hby k))
 have HZ:=Bx.mk (fun (W:World) (h:Ch (fun _=>False) w W)=>row_one (xs.take k) (some ⟨b,f,none⟩) k c W F (htk.ch h (fun _ _ _ h=>h)) (by omega) hcm)
 have HO:=Bx.mk ho
 clear hd htk hs ht hby hcm ho
 generalize unf xs k=u at *
 generalize sumN (xs.take k)=s at *
 have hcn:(n:Int)-4=(k:Int):=by omega
 have g1:IntKind.i64.wrap (k:Int)=(k:Int):=IntWalk.i64_in _ (by omega)
 have g2:(0:Int)≤(k:Int):=by omega
 have g3:(k:Int)≤(n:Int):=by omega
 have g4:(k:Int)≤(c:Int):=by omega
 have g5:n-k=4:=by omega
 have g6:¬ c=k:=by omega
 clear hk
 go_enter Tryd.func78,Tryd.ntmps78
 go_wp2_with fail
 by_cases hus:u=s
 ·subst hus
  have ho:true=o:=by rw[←HO.out]; simp
  subst ho
  go_region_held3 (fun w'=>True) (first | go_keep | trivial) (first | (go_at_call 79; (with_reducible refine (HA.out _ (by first | exact (Ch.refl (fun _=>False) w).drew | exact ((Ch.refl (fun _=>False) w).alloc _).drew)).mono ?_); rintro e w2 ⟨rfl,hc2⟩; have hc3:Ch (fun _=>False) w w2:=(by first | exact (Ch.refl (fun _=>False) w).drew.trans hc2 (fun _ _ h=>h) | exact ((Ch.refl (fun _=>False) w).alloc _).drew.trans hc2 (fun _ _ h=>h))) | (go_at_call 75; (with_reducible refine (HB.out _ (by first | exact hc3.alloc _ | exact hc3) _ (by first | exact HZ.out _ hc3 | exact (HZ.out _ (Ch.refl (fun _=>False) w)).ch ((Ch.refl (fun _=>False) _).drew.trans hc2 (fun _ _ h=>h)) (fun _ _ _ h=>h))).mono ?_); rintro e w3 ⟨rfl,hc4⟩; have hc5:Ch (fun _=>False) w w3:=(by first | exact (hc3.alloc _).trans hc4 (fun _ _ h=>h) | exact hc3.trans hc4 (fun _ _ h=>h))))
  all_goals
   have HCC:=Bx.mk hc5
   clear hc2 hc3 hc4 hc5 HA HB HZ
   go_wp2
   go_ret
   exact⟨rfl,HCC.out⟩
 ·have ho:false=o:=by rw[←HO.out]; simp[hus]
  subst ho
  have hq:((u:Int)==(s:Int))=false:=by simp; omega
  have HUS:=Bx.mk hus
  clear hus
  go_region_held3 (fun w'=>True) (first | go_keep | trivial) (first | (go_at_call 79; (with_reducible refine (HA.out _ (by first | exact (Ch.refl (fun _=>False) w).drew | exact ((Ch.refl (fun _=>False) w).alloc _).drew)).mono ?_); rintro e w2 ⟨rfl,hc2⟩; have hc3:Ch (fun _=>False) w w2:=(by first | exact (Ch.refl (fun _=>False) w).drew.trans hc2 (fun _ _ h=>h) | exact ((Ch.refl (fun _=>False) w).alloc _).drew.trans hc2 (fun _ _ h=>h))) | (go_at_call 75; (with_reducible refine (HB.out _ (by first | exact hc3.alloc _ | exact hc3) _ (by first | exact HZ.out _ hc3 | exact (HZ.out _ (Ch.refl (fun _=>False) w)).ch ((Ch.refl (fun _=>False) _).drew.trans hc2 (fun _ _ h=>h)) (fun _ _ _ h=>h))).mono ?_); rintro e w3 ⟨rfl,hc4⟩; have hc5:Ch (fun _=>False) w w3:=(by first | exact (hc3.alloc _).trans hc4 (fun _ _ h=>h) | exact hc3.trans hc4 (fun _ _ h=>h))))
  all_goals
   have HCC:=Bx.mk hc5
   clear hc2 hc3 hc4 hc5 HA HB HZ
   go_wp2
   go_ret
   exact⟨rfl,HCC.out⟩
end
section
open Go.RowKit Go.Oct Go.Su Go.Fr
theorem mkB (w:World) (n:Nat) (hn:n≤100000000):(Instr.makeSlice 32 (.int .i64 0) (.int .i64 (n:Int))).run Tryd.prog w = .ok (.slice (some ⟨w.heap.size,0,none⟩) 0 n) (w.alloc (.cells (madeCells #[.int .u8 0] n) 5)):=by
 have h:=run_mk Tb n (by omega) (by omega) w
 exact h
theorem own_made (w:World) (n:Nat) (hn:n≤100000000):(w.alloc (.cells (madeCells #[.int .u8 0] n) 5)).ownsRow 0 5 1 (.slice (some ⟨w.heap.size,0,none⟩) 0 n) 0 (([]:List Int).map (Value.int .u8)) :=
 World.ownsRow_made (base:=0) (e := 5) (size:=1) w (madeCells #[.int .u8 0] n) n (Nat.zero_le _) (by unfold maxLen; omega) (by simp[madeCells])
structure Rw8 (w wr:World) (v:Value) (n:Nat) (xs:List Int):Prop where
 own:wr.ownsRow 0 5 1 v n (xs.map (Value.int .u8))
 lies:∀ g,v.ownBlock=some g→w.heap.size≤g
 ch:Ch (fun _=>False) w wr
theorem Rw8.grown {w wr w2:World} {v:Value} {n m:Nat} {xs ys:List Int} (h:Rw8 w wr v n xs) {v':Value} (ho:w2.ownsRow 0 5 1 v' m (ys.map (Value.int .u8))) (hc:Ch (fun k=>v.ownBlock=some k) wr w2) (hn:∀ g,v'.ownBlock=some g→v.ownBlock=some g∨wr.heap.size≤g):Rw8 w w2 v' m ys :=
 ⟨ho,fun g hg=>by
  rcases hn g hg with h1 | h1
  ·exact h.lies g h1
  ·exact Nat.le_trans h.ch.size h1,h.ch.trans hc (fun i hi hs=>by have:=h.lies i hs; omega)⟩
theorem Rw8.made (w:World) (n:Nat) (hn:n≤100000000):Rw8 w (w.alloc (.cells (madeCells #[.int .u8 0] n) 5)) (.slice (some ⟨w.heap.size,0,none⟩) 0 n) 0 [] :=
 ⟨own_made w n hn,fun g hg=>by simp[Value.ownBlock] at hg; omega,(Ch.refl _ _).alloc _⟩
theorem Rw8.fresh {w wr:World} {v:Value} {xs:List Int} (h:Rw8 w wr v xs.length xs):Fresh w v xs wr:=⟨h.own,h.lies,h.ch⟩
theorem Rw8.app {w wr w2:World} {v v':Value} {n m:Nat} {xs ys:List Int} (h:Rw8 w wr v n xs) (ho:w2.ownsRow 0 5 1 v' (n+m) (xs.map (Value.int .u8)++ys.map (Value.int .u8))) (hg:wr.grownBy w2 v.ownBlock) (hb:v'.ownBlock=v.ownBlock∨v'.ownBlock=some wr.heap.size):Rw8 w w2 v' (n+m) (xs++ys) :=
 h.grown (by rw[List.map_append]; exact ho) ((Ch.refl _ wr).grown hg (fun _ h => .inl h)) (fun g hg=>by
  rcases hb with h | h
  ·exact .inl (h ▸ hg)
  ·rw[h] at hg
   injection hg with hg
   exact .inr (by omega))
def Encoded (p:List Int) (w:World) (e:Ending) (w':World):Prop:=(1048576<p.length∧e = .returned (.tuple #[.slice none 0 0, .int .i64 5])∧Ch (fun _=>False) w w')∨(p.length≤1048576∧∃ v,e = .returned (.tuple #[v, .int .i64 0])∧Fresh w v (frm p) w')
theorem encode_any {F:Nat→Prop} (xss:List (List Int)) (A:Option Addr) (n c:Nat) (w:World) (ht:O.Tab w) (hz:Sls w F A n xss) (hn:n≤1000000) (hL:(cat xss).length≤1048576) (hby:∀ x∈xss,Byt x) :
  Calls Tryd.prog 29 #[.slice A n c] w (Encoded (cat xss) w):=by
 have hl:=hz.len
 have HT:=Bx.mk ht
 have HZ:=Bx.mk hz
 have HL:=Bx.mk hl
 have HB:=Bx.mk hby
 obtain⟨N,hN⟩:∃ N,(cat xss).length=N:=⟨_,rfl⟩
 have HN:=Bx.mk hN
 rw[hN] at hL
 clear ht hz hby hl hN
 go_enter Tryd.func29,Tryd.ntmps29
 go_wp2_with fail
 go_loop [4,12] (fun t i=>∃ k m:Nat,k≤n∧i = .int .i64 k∧t = .int .i64 m∧Bx (m=(cat (xss.take k)).length)) (fun _ i=>n-(intOf i).toNat)
 case atStart=>exact⟨0,0,Nat.zero_le _,rfl,rfl,⟨rfl⟩⟩
 case round =>
  obtain⟨k,m,hk,rfl,rfl,hm⟩:=hrel
  by_cases hlt:k<n
  ·obtain⟨b,off,A',c',t,rfl,_,ex,hcell,hsl,hlc,hcm⟩:=HZ.out.at_ hlt
   have hroom:=cat_room ex.out
   have hmore:=cat_more ex.out
   obtain⟨tl,htl⟩:∃ tl,t.length=tl:=⟨_,rfl⟩
   have hmt:m+tl≤1048576:=by have:=hm.out; have:=HN.out; omega
   have HM:Bx (m+tl=(cat (xss.take (k+1))).length):=⟨by rw[hmore,List.length_append,hm.out,htl]⟩
   have htl2:tl≤9223372036854775807:=by omega
   rw[htl] at hcell
   have d1:decide ((1048576:Int)<(m:Int)+(tl:Int))=false:=decide_eq_false (by omega)
   clear hroom hmore htl hsl ex hm hcm hlc
   go_wp2
   go_round
   case rel=>exact⟨k+1,m+tl,by omega,by go_num,by go_num,HM⟩
   case measure=>simp[intOf]; omega
  ·obtain rfl:n=k:=by omega
   have hmN:m=N:=by rw[hm.out,List.take_of_length_le (by have:=HL.out; omega)]; exact HN.out
   subst hmN
   have hmk:∀ wx:World,(Instr.makeSlice 32 (.int .i64 0) (.int .i64 (12+(m:Int)))).run Tryd.prog wx = .ok (.slice (some ⟨wx.heap.size,0,none⟩) 0 (12+m)) (wx.alloc (.cells (madeCells #[.int .u8 0] (12+m)) 5)):=fun wx=>by
    have:=mkB wx (12+m) (by omega)
    rwa[show ((12+m:Nat):Int)=12+(m:Int) by omega] at this
   have hl4:=lay4_any [] _ 0 m _ (own_made w (12+m) (by omega)) (by omega) (by omega)
   have HG0:=Bx.mk (Rw8.made w (12+m) (by omega))
   have HL4:=Bx.mk hl4
   clear hm hl4
   generalize madeCells #[Value.int .u8 0] (12+m)=mc at *
   go_wp2_with fail
   refine HL4.out.mono ?_
   rintro e w1 ⟨v1,rfl,ho1,hc1,hn1⟩
   have hG1:=HG0.out.grown ho1 hc1 hn1
   rw[List.nil_append,Nat.zero_add] at hG1
   have hT1:=HT.out.ch hG1.ch (fun h=>h)
   have hse:=seal_any (four m) v1 4 w1 hT1 hG1.own (by omega) (four_byt m)
   have HG1:=Bx.mk hG1
   have HSE:=Bx.mk hse
   clear ho1 hc1 hn1 hG1 hT1 hse HL4 HG0 hmk
   go_wp2_with fail
   refine HSE.out.mono ?_
   rintro e w2 ⟨v2,rfl,ho2,hc2,hn2⟩
   have hG2:=HG1.out.grown ho2 hc2 hn2
   have HG2:Bx (Rw8 w w2 v2 8 (hd m)):=⟨hG2⟩
   clear ho2 hc2 hn2 hG2 HSE HG1
   go_wp2_with fail
   go_loopw [7,32] (fun v i wr=>∃ k q:Nat,k≤n∧i = .int .i64 k∧Rw8 w wr v q (hd m++cat (xss.take k))∧Bx (q=8+(cat (xss.take k)).length)) (fun _ i _=>n-(intOf i).toNat)
   case atStart=>exact⟨0,8,Nat.zero_le _,rfl,by simpa[cat] using HG2.out,⟨by simp[cat]⟩⟩
   case round =>
    obtain⟨k,q,hk,rfl,hR,hq⟩:=hrel
    by_cases hlt:k<n
    ·obtain⟨b,off,A',c',t,rfl,_,ex,hcell,hsl,hlc,hcm⟩:=(HZ.out.ch hR.ch (fun _ _ _ h=>h)).at_ hlt
     have hroom:=cat_room ex.out
     have hmore:=cat_more ex.out
     obtain⟨tl,htl⟩:∃ tl,t.length=tl:=⟨_,rfl⟩
     have hqt:q+tl≤1048600:=by have:=hq.out; have:=HN.out; omega
     have HQ:Bx (q+tl=8+(cat (xss.take (k+1))).length):=⟨by rw[hmore,List.length_append,hq.out,htl]; omega⟩
     have HM:Bx (cat (xss.take (k+1))=cat (xss.take k)++t):=⟨hmore⟩
     rw[htl] at hcell hsl
     have HSL:=Bx.mk hsl
     have HR:=Bx.mk hR
     obtain⟨A5,c5,rfl,_,_⟩:=own_shape hR.own
     clear hroom hmore htl hsl ex hq hcm hlc hR
     go_wp2_with (at_builtin; refine wp_app rfl (.tmp 36) (.tmp 37) Tb rfl rfl HR.out.own rfl HSL.out ?c1 ?c2 ?c3 ?_)
     case c1=>exact ints_cells _ _
     case c2=>omega
     case c3=>omega
     intro v5 w5 ho5 hg5 hb5
     have HR5:=Bx.mk (HR.out.app ho5 hg5 hb5)
     clear ho5 hg5 hb5
     go_wp2
     go_roundw
     case rel=>exact⟨k+1,q+tl,by omega,by go_num,by rw[HM.out,←List.append_assoc]; exact HR5.out,HQ⟩
     case measure=>simp[intOf]; omega
    ·obtain rfl:n=k:=by omega
     have hall:xss.take n=xss:=List.take_of_length_le (by have:=HL.out; omega)
     rw[hall] at hR hq
     have hT3:=HT.out.ch hR.ch (fun h=>h)
     have hq2:q≤1048600:=by have:=hq.out; have:=HN.out; omega
     have hse:=seal_any (hd m++cat xss) _ q wr hT3 hR.own (by omega) (fun x hx=>by
      rcases List.mem_append.1 hx with h | h
      ·exact hd_byt _ x h
      ·obtain⟨y,hy,hxy⟩:=List.mem_flatten.1 h
       exact HB.out y hy x hxy)
     have HSE:=Bx.mk hse
     have HR:=Bx.mk hR
     have HQ:Bx (q+4=(frm (cat xss)).length):=⟨by rw[frm_len]; have:=hq.out; omega⟩
     have HF:Bx (hd m++cat xss++four (sumN (hd m++cat xss))=frm (cat xss)):=⟨by unfold frm; rw[HN.out]⟩
     clear hall hR hq hT3 hse
     go_wp2_with fail
     refine HSE.out.mono ?_
     rintro e w5 ⟨v5,rfl,ho5,hc5,hn5⟩
     have hR5:=HR.out.grown ho5 hc5 hn5
     rw[HF.out,HQ.out] at hR5
     have HFR:Bx (Fresh w v5 (frm (cat xss)) w5):=⟨hR5.fresh⟩
     clear ho5 hc5 hn5 hR5 HSE HR
     go_wp2
     go_ret2
     exact .inr ⟨by rw[HN.out]; exact hL,v5,rfl,HFR.out⟩
end
section
open Go.RowKit Go.Oct Go.Su Go.Fr
theorem unf_take {xs:List Int} {k i:Nat} (h:i+4≤k):unf (xs.take k) i=unf xs i:=by
 unfold unf
 simp only[List.getD_eq_getElem?_getD,List.getElem?_take,if_pos (show i<k by omega),if_pos (show i+1<k by omega),if_pos (show i+2<k by omega),if_pos (show i+3<k by omega)]
theorem fresh_none {w w':World} (h:Ch (fun _=>False) w w'):Fresh w (.slice none 0 0) [] w':=⟨World.ownsRow_nil _ _ _ _,fun g hg=>by simp[Value.ownBlock] at hg,h⟩
def DecP (xs:List Int) (w:World) (e:Ending) (w':World):Prop:=∃ v,e = .returned (.tuple #[v, .int .i64 ((decF xs).2.1:Nat), .int .i64 (decF xs).2.2])∧Fresh w v (decF xs).1 w'
theorem DecP.err {xs:List Int} {w w':World} {ec:Int} (h:decF xs=([],0,ec)) (hc:Ch (fun _=>False) w w'):DecP xs w (.returned (.tuple #[.slice none 0 0, .int .i64 0, .int .i64 ec])) w':=by
 refine⟨.slice none 0 0,?_,?_⟩
 ·rw[h]; rfl
 ·rw[h]; exact fresh_none hc
theorem sealed_to {F:Nat→Prop} (xs:List Int) (A:Option Addr) (n c k:Nat) (w:World) (ht:O.Tab w) (hs:Sl w F .u8 A n xs) (hc:n≤c) (hcm:c≤maxLen) (hk:k+4≤n) (hn:n≤100000000) (hby:Byt xs) (o:Bool) (ho:decide (unf xs k=sumN (xs.take k))=o) :
  Calls Tryd.prog 78 #[.slice A (k+4) c] w fun e w'=>e = .returned (.bool o)∧Ch (fun _=>False) w w' :=
 sealed_any (xs.take (k+4)) A (k+4) c w ht (hs.take hk) (by omega) hcm (by omega) (by omega) (byt_take hby _) o (by rw[show k+4-4=k by omega,unf_take (Nat.le_refl _),List.take_take,Nat.min_eq_left (by omega)]; exact ho)
theorem join_one (xs:List Int) (A:Option Addr) (n c:Nat) (w:World) (F:Nat→Prop) (hs:Sl w F .u8 A n xs) (hc:n≤c) (hcm:c≤maxLen) (hb:n≤100000000) :
  Calls Tryd.prog 80 #[.slice (some ⟨w.heap.size,0,none⟩) 1 1] (w.alloc (.cells #[.slice A n c] 32)) fun e w'=>∃ v,e = .returned v∧Fresh w v xs w':=by
 have hrow:=row_one xs A n c w F hs hc hcm
 have h:=O.join_any [xs] _ 1 1 _ _ (by omega) hrow (by rw[cat_one,hs.len]; omega)
 rw[cat_one] at h
 exact h.mono fun e w' ⟨v,h1,h2⟩=>⟨v,h1,h2.1,fun g hg=>by have:=h2.2.1 g hg; rw[World.size_alloc] at this; omega,((Ch.refl _ w).alloc _).trans h2.2.2 (fun _ _ h=>h)⟩
theorem fdecode_any {F:Nat→Prop} (xs:List Int) (A:Option Addr) (n c:Nat) (w:World) (ht:O.Tab w) (hs:Sl w F .u8 A n xs) (hc:n≤c) (hcm:c≤maxLen) (hn:n≤100000000) (hby:Byt xs) :
  Calls Tryd.prog 62 #[.slice A n c] w (DecP xs w):=by
 have hl:=hs.len
 have HL:=Bx.mk hl
 have HT:=Bx.mk ht
 have HS:=Bx.mk hs
 have HB:=Bx.mk hby
 have HCM:=Bx.mk hcm
 clear ht hs hby hl hcm
 by_cases h8:n<8
 ·have HD:Bx (decF xs=([],0,2)):=⟨by unfold decF; rw[if_pos (by rw[HL.out]; exact h8)]⟩
  have d1:decide ((n:Int)<8)=true:=decide_eq_true (by omega)
  have d2:decide (n<8)=true:=decide_eq_true h8
  go_enter Tryd.func62,Tryd.ntmps62
  go_wp2
  go_ret3
  exact DecP.err HD.out (Ch.refl _ _)
 obtain⟨b0,o0,_,rfl,_,_,_⟩:=HS.out.at_ (k:=0) (by omega)
 have d1:decide ((n:Int)<8)=false:=decide_eq_false (by omega)
 have d2:decide (n<8)=false:=decide_eq_false h8
 have h8':¬ xs.length<8:=by rw[HL.out]; exact h8
 have i1:(8:Int)≤(c:Int):=by omega
 by_cases h4:unf xs 4=sumN (xs.take 4)
 ·have HSE:=Bx.mk (sealed_to xs _ n c 4 w HT.out HS.out hc HCM.out (by omega) hn HB.out true (by simp[h4]))
  obtain⟨u,hu⟩:∃ u,unf xs 0=u:=⟨_,rfl⟩
  have hul:u<4294967296:=by rw[←hu]; exact unf_lt HB.out (by rw[HL.out]; omega)
  have HTK:=Bx.mk (fun (W:World) (h:Ch (fun _=>False) w W)=>take_ch xs (some ⟨b0,o0,none⟩) n c W (HS.out.ch h (fun _ _ _ h=>h)) HB.out (by omega) (by omega) u hu)
  have HU:=Bx.mk hu
  have H4:=Bx.mk h4
  have H8:=Bx.mk h8'
  clear hu h4 h8'
  by_cases hbig:1048576<u
  ·have HD:Bx (decF xs=([],0,5)):=⟨by unfold decF; rw[if_neg H8.out,if_neg (fun h=>h H4.out),HU.out,if_pos hbig]⟩
   have e1:decide ((1048576:Int)<(u:Int))=true:=decide_eq_true (by omega)
   have e2:decide (1048576<u)=true:=decide_eq_true hbig
   go_enter Tryd.func62,Tryd.ntmps62
   go_wp2_with fail
   refine HSE.out.mono ?_
   rintro e w1 ⟨rfl,hc1⟩
   have HC1:=Bx.mk hc1
   clear hc1 HSE
   go_wp2_with fail
   refine (HTK.out _ HC1.out).mono ?_
   rintro e w2 ⟨rfl,hc2⟩
   have HC2:=Bx.mk (HC1.out.trans hc2 (fun _ _ h=>h))
   clear hc2 HC1 HTK
   go_wp2
   go_ret3
   exact DecP.err HD.out HC2.out
  have e1:decide ((1048576:Int)<(u:Int))=false:=decide_eq_false (by omega)
  have e2:decide (1048576<u)=false:=decide_eq_false hbig
  by_cases hsh:n<12+u
  ·have HD:Bx (decF xs=([],0,2)):=⟨by unfold decF; rw[if_neg H8.out,if_neg (fun h=>h H4.out),HU.out,if_neg hbig,HL.out,if_pos hsh]⟩
   have f1:decide ((n:Int)<12+(u:Int))=true:=decide_eq_true (by omega)
   go_enter Tryd.func62,Tryd.ntmps62
   go_wp2_with fail
   refine HSE.out.mono ?_
   rintro e w1 ⟨rfl,hc1⟩
   have HC1:=Bx.mk hc1
   clear hc1 HSE
   go_wp2_with fail
   refine (HTK.out _ HC1.out).mono ?_
   rintro e w2 ⟨rfl,hc2⟩
   have HC2:=Bx.mk (HC1.out.trans hc2 (fun _ _ h=>h))
   clear hc2 HC1 HTK
   go_wp2
   go_ret3
   exact DecP.err HD.out HC2.out
  have f1:decide ((n:Int)<12+(u:Int))=false:=decide_eq_false (by omega)
  have f2:(12:Int)+(u:Int)≤(c:Int):=by omega
  have f3:((12:Int)+(u:Int)).toNat=8+u+4:=by omega
  have f4:(8:Int)+(u:Int)≤(c:Int):=by omega
  have f5:((8:Int)+(u:Int)).toNat=8+u:=by omega
  have f6:8+u-8=u:=by omega
  have f7:¬ c=8:=by omega
  have f8:(0:Int)≤12+(u:Int):=by omega
  have f9:(8:Int)≤8+(u:Int):=by omega
  have hHN:¬ n<12+u:=hsh
  by_cases hl8:unf xs (8+u)=sumN (xs.take (8+u))
  ·have HD:Bx (decF xs=((xs.drop 8).take u,12+u,0)):=⟨by unfold decF; rw[if_neg H8.out,if_neg (fun h=>h H4.out),HU.out,if_neg hbig,HL.out,if_neg hsh,if_neg (fun h=>h hl8)]⟩
   have HS2:=Bx.mk (fun (W:World) (h:Ch (fun _=>False) w W)=>sealed_to xs (some ⟨b0,o0,none⟩) n c (8+u) W (HT.out.ch h (fun h=>h)) (HS.out.ch h (fun _ _ _ h=>h)) hc HCM.out (by omega) hn HB.out true (by simp[hl8]))
   have HJ:=Bx.mk (fun (W:World) (h:Ch (fun _=>False) w W)=>join_one ((xs.drop 8).take u) (some ⟨b0,o0+8,none⟩) u (c-8) W _ (((HS.out.ch h (fun _ _ _ h=>h)).drop (k:=8) (by omega)).take (k:=u) (by omega)) (by omega) (by have:=HCM.out; omega) (by omega))
   clear hl8 hsh hHN
   go_enter Tryd.func62,Tryd.ntmps62
   go_wp2_with fail
   refine HSE.out.mono ?_
   rintro e w1 ⟨rfl,hc1⟩
   have HC1:=Bx.mk hc1
   clear hc1 HSE
   go_wp2_with fail
   refine (HTK.out _ HC1.out).mono ?_
   rintro e w2 ⟨rfl,hc2⟩
   have HC2:=Bx.mk (HC1.out.trans hc2 (fun _ _ h=>h))
   clear hc2 HC1 HTK
   go_wp2_with fail
   refine (HS2.out _ HC2.out).mono ?_
   rintro e w3 ⟨rfl,hc3⟩
   have HC3:=Bx.mk (HC2.out.trans hc3 (fun _ _ h=>h))
   clear hc3 HC2 HS2
   go_wp2_with fail
   refine (HJ.out _ HC3.out).mono ?_
   rintro e w4 ⟨v4,rfl,hf4⟩
   have HF:Bx (Fresh w v4 ((xs.drop 8).take u) w4):=⟨⟨hf4.1,fun g hg=>Nat.le_trans HC3.out.size (hf4.2.1 g hg),HC3.out.trans hf4.2.2 (fun _ _ h=>h)⟩⟩
   clear hf4 HJ HC3
   go_wp2
   go_ret3
   refine⟨v4,?_,by rw[HD.out]; exact HF.out⟩
   rw[HD.out]
   simp
  ·have HD:Bx (decF xs=([],0,4)):=⟨by unfold decF; rw[if_neg H8.out,if_neg (fun h=>h H4.out),HU.out,if_neg hbig,HL.out,if_neg hsh,if_pos hl8]⟩
   have HS2:=Bx.mk (fun (W:World) (h:Ch (fun _=>False) w W)=>sealed_to xs (some ⟨b0,o0,none⟩) n c (8+u) W (HT.out.ch h (fun h=>h)) (HS.out.ch h (fun _ _ _ h=>h)) hc HCM.out (by omega) hn HB.out false (by simp[hl8]))
   clear hl8 hsh hHN
   go_enter Tryd.func62,Tryd.ntmps62
   go_wp2_with fail
   refine HSE.out.mono ?_
   rintro e w1 ⟨rfl,hc1⟩
   have HC1:=Bx.mk hc1
   clear hc1 HSE
   go_wp2_with fail
   refine (HTK.out _ HC1.out).mono ?_
   rintro e w2 ⟨rfl,hc2⟩
   have HC2:=Bx.mk (HC1.out.trans hc2 (fun _ _ h=>h))
   clear hc2 HC1 HTK
   go_wp2_with fail
   refine (HS2.out _ HC2.out).mono ?_
   rintro e w3 ⟨rfl,hc3⟩
   have HC3:=Bx.mk (HC2.out.trans hc3 (fun _ _ h=>h))
   clear hc3 HC2 HS2
   go_wp2
   go_ret3
   exact DecP.err HD.out HC3.out
 ·have HD:Bx (decF xs=([],0,4)):=⟨by unfold decF; rw[if_neg h8',if_pos h4]⟩
  have HSE:=Bx.mk (sealed_to xs _ n c 4 w HT.out HS.out hc HCM.out (by omega) hn HB.out false (by simp[h4]))
  clear h4 h8'
  go_enter Tryd.func62,Tryd.ntmps62
  go_wp2_with fail
  refine HSE.out.mono ?_
  rintro e w1 ⟨rfl,hc1⟩
  have HC1:=Bx.mk hc1
  clear hc1 HSE
  go_wp2
  go_ret3
  exact DecP.err HD.out HC1.out
theorem decF_le (xs:List Int):(decF xs).2.1≤xs.length:=by
 unfold decF
 split
 ·exact Nat.zero_le _
 ·split
  ·exact Nat.zero_le _
  ·split
   ·exact Nat.zero_le _
   ·split
    ·exact Nat.zero_le _
    ·split
     ·exact Nat.zero_le _
     ·simp only
      omega
def OneP (xs:List Int) (w:World) (e:Ending) (w':World):Prop:=∃ v,e = .returned (.tuple #[v, .int .i64 (oneF xs).2])∧Fresh w v (oneF xs).1 w'
theorem OneP.of {xs p:List Int} {ec:Int} {w w':World} {v:Value} (h:oneF xs=(p,ec)) (hf:Fresh w v p w'):OneP xs w (.returned (.tuple #[v, .int .i64 ec])) w':=by
 refine⟨v,?_,?_⟩
 ·rw[h]
 ·rw[h]; exact hf
theorem fone_any {F:Nat→Prop} (xs:List Int) (A:Option Addr) (n c:Nat) (w:World) (ht:O.Tab w) (hs:Sl w F .u8 A n xs) (hc:n≤c) (hcm:c≤maxLen) (hn:n≤100000000) (hby:Byt xs) :
  Calls Tryd.prog 33 #[.slice A n c] w (OneP xs w):=by
 have HD:=Bx.mk (fdecode_any xs A n c w ht hs hc hcm hn hby)
 have hl:=hs.len
 have hle:=decF_le xs
 obtain⟨p,k,ec,hd⟩:∃ p k ec,decF xs=(p,k,ec):=⟨_,_,_,rfl⟩
 have HDD:=Bx.mk hd
 have HPO:Bx (DecP xs w=fun e w'=>∃ v,e = .returned (.tuple #[v, .int .i64 (k:Nat), .int .i64 ec])∧Fresh w v p w'):=⟨by
  funext e w'
  unfold DecP
  rw[hd]⟩
 rw[hd] at hle
 simp only at hle
 have HL:=Bx.mk hl
 have HLE:=Bx.mk hle
 clear hs ht hby hl hd hle
 by_cases he:ec=0
 ·subst he
  have hkn:k≤n:=by have:=HLE.out; rw[HL.out] at this; exact this
  by_cases hk:k<n
  ·have HO:Bx (oneF xs=([],3)):=⟨by unfold oneF; rw[HDD.out]; simp only[ne_eq,not_true_eq_false,if_false]; rw[if_pos (by rw[HL.out]; omega)]⟩
   go_enter Tryd.func33,Tryd.ntmps33
   go_wp2_with fail
   refine HD.out.mono ?_
   rw[HPO.out]
   rintro e w1 ⟨v,rfl,hf⟩
   have HF:=Bx.mk hf
   clear hf HD
   go_wp2
   go_ret2
   exact OneP.of HO.out (fresh_none HF.out.2.2)
  ·obtain rfl:n=k:=by omega
   have HO:Bx (oneF xs=(p,0)):=⟨by unfold oneF; rw[HDD.out]; simp only[ne_eq,not_true_eq_false,if_false]; rw[if_neg (by rw[HL.out]; simp)]⟩
   go_enter Tryd.func33,Tryd.ntmps33
   go_wp2_with fail
   refine HD.out.mono ?_
   rw[HPO.out]
   rintro e w1 ⟨v,rfl,hf⟩
   have HF:=Bx.mk hf
   clear hf HD
   go_wp2
   go_ret2
   exact OneP.of HO.out HF.out
 ·have HO:Bx (oneF xs=([],ec)):=⟨by unfold oneF; rw[HDD.out]; rw[if_pos he]⟩
  have hq:((ec:Int) != 0)=true:=by simpa using he
  have HE:=Bx.mk he
  clear he
  go_enter Tryd.func33,Tryd.ntmps33
  go_wp2_with fail
  refine HD.out.mono ?_
  rw[HPO.out]
  rintro e w1 ⟨v,rfl,hf⟩
  have HF:=Bx.mk hf
  clear hf HD
  go_wp2
  go_ret2
  exact OneP.of HO.out (fresh_none HF.out.2.2)
end
section
open Go.RowKit Go.Oct Go.Su Go.Fr
theorem fromfour_val {F:Nat→Prop} (xs:List Int) (A:Option Addr) (n c:Nat) (w:World) (h:Sl w F .u8 A n xs) (hb:Byt xs) (hn:4≤n) (hm:n≤1000000000) (u:Nat) (hu:unf xs 0=u) (k:Nat) :
  Calls Tryd.prog 81 #[.slice A n c] (w.drewN k) fun e w'=>e = .returned (.int .u32 (u:Nat))∧∃ q,w'=w.drewN q :=
 (fromfour_any xs A n c (w.drewN k) (h.drewN k) hb hn hm).mono fun e w' ⟨h1,q,h2⟩=>⟨by rw[h1,hu],k+q,by rw[h2,World.drewN_drewN]⟩
theorem refsum_val {F:Nat→Prop} (xs:List Int) (A:Option Addr) (n c:Nat) (w:World) (h:Sl w F .u8 A n xs) (hb:Byt xs) (hn:n≤1000000000) (s:Nat) (hs:sumN xs=s) (k:Nat) :
  Calls Tryd.prog 58 #[.slice A n c] (w.drewN k) fun e w'=>e = .returned (.int .u32 (s:Nat))∧∃ q,w'=w.drewN q :=
 (O.refsum_any xs A n c (w.drewN k) F (by omega) (h.drewN k) hb).mono fun e w' ⟨h1,h2⟩=>⟨by rw[h1,hs],k,h2.symm⟩
theorem own_none8 (w:World):(w.alloc (.cells #[] 5)).ownsRow 0 5 1 (.slice (some ⟨w.heap.size,0,none⟩) 0 0) 0 []:=World.ownsRow_made w #[] 0 (Nat.zero_le _) (by unfold maxLen; omega) rfl
theorem fresh_none8 (w:World):Fresh w (.slice (some ⟨w.heap.size,0,none⟩) 0 0) [] (w.alloc (.cells #[] 5)):=⟨own_none8 w,fun g hg=>by simp[Value.ownBlock] at hg; omega,(Ch.refl _ _).alloc _⟩
theorem Fresh.app8 {w wr w1:World} {v v':Value} {zs:List Int} (h:Fresh w v [] wr) (ho:w1.ownsRow 0 5 1 v' zs.length (zs.map (Value.int .u8))) (hg:wr.grownBy w1 v.ownBlock) (hb:v'.ownBlock=v.ownBlock∨v'.ownBlock=some wr.heap.size):Fresh w v' zs w1 :=
 ⟨ho,fun g hgv=>by
  rcases hb with hb | hb
  ·exact h.2.1 g (hb ▸ hgv)
  ·rw[hb] at hgv
   injection hgv with hgv
   have:=h.2.2.size
   omega,h.2.2.grown hg (fun k hk => .inr (h.2.1 k hk))⟩
theorem rdecode_any {F:Nat→Prop} (xs:List Int) (A:Option Addr) (n c:Nat) (w:World) (hs:Sl w F .u8 A n xs) (hc:n≤c) (hcm:c≤maxLen) (hn:n≤100000000) (hby:Byt xs) :
  Calls Tryd.prog 63 #[.slice A n c] w (DecP xs w):=by
 have hl:=hs.len
 have HL:=Bx.mk hl
 have HS:=Bx.mk hs
 have HB:=Bx.mk hby
 have HCM:=Bx.mk hcm
 clear hs hby hl hcm
 by_cases h8:n<8
 ·have HD:Bx (decF xs=([],0,2)):=⟨by unfold decF; rw[if_pos (by rw[HL.out]; exact h8)]⟩
  have d1:decide ((n:Int)<8)=true:=decide_eq_true (by omega)
  have d2:decide (n<8)=true:=decide_eq_true h8
  go_enter Tryd.func63,Tryd.ntmps63
  go_wp2
  go_ret3
  exact DecP.err HD.out (Ch.refl _ _)
 obtain⟨b0,o0,_,rfl,_,_,_⟩:=HS.out.at_ (k:=0) (by omega)
 have d1:decide ((n:Int)<8)=false:=decide_eq_false (by omega)
 have d2:decide (n<8)=false:=decide_eq_false h8
 have h8':¬ xs.length<8:=by rw[HL.out]; exact h8
 have i1:(8:Int)≤(c:Int):=by omega
 have i2:(4:Int)≤(c:Int):=by omega
 have i3:(4:Int)≤(n:Int):=by omega
 have i4:¬ c=4:=by omega
 obtain⟨u4,hu4⟩:∃ u,unf xs 4=u:=⟨_,rfl⟩
 obtain⟨s4,hs4⟩:∃ s,sumN (xs.take 4)=s:=⟨_,rfl⟩
 have hd4:=HS.out.drop (k:=4) (by omega)
 have ht4:=HS.out.take (k:=4) (by omega)
 have HF4:=Bx.mk (fun k=>fromfour_val (c:=c-4) (xs.drop 4) (some ⟨b0,o0+4,none⟩) (n-4) w hd4 (byt_drop HB.out 4) (by omega) (by omega) u4 (by rw[unf_drop]; exact hu4) k)
 have HM4:=Bx.mk (fun k=>refsum_val (c:=c) (xs.take 4) (some ⟨b0,o0,none⟩) 4 w ht4 (byt_take HB.out 4) (by omega) s4 hs4 k)
 have HU4:=Bx.mk hu4
 have HS4:=Bx.mk hs4
 clear hd4 ht4 hu4 hs4
 by_cases h4:u4=s4
 ·subst h4
  have H4:Bx (unf xs 4=sumN (xs.take 4)):=⟨by rw[HU4.out,HS4.out]⟩
  obtain⟨u,hu⟩:∃ u,unf xs 0=u:=⟨_,rfl⟩
  have hul:u<4294967296:=by rw[←hu]; exact unf_lt HB.out (by rw[HL.out]; omega)
  have HTK:=Bx.mk (fun k=>fromfour_val (c:=c) xs (some ⟨b0,o0,none⟩) n w HS.out HB.out (by omega) (by omega) u hu k)
  have HU:=Bx.mk hu
  have H8:=Bx.mk h8'
  clear hu h8' HU4 HS4
  by_cases hbig:1048576<u
  ·have HD:Bx (decF xs=([],0,5)):=⟨by unfold decF; rw[if_neg H8.out,if_neg (fun h=>h H4.out),HU.out,if_pos hbig]⟩
   have e1:decide ((1048576:Int)<(u:Int))=true:=decide_eq_true (by omega)
   have e2:decide (1048576<u)=true:=decide_eq_true hbig
   go_enter Tryd.func63,Tryd.ntmps63
   go_wp2_with fail
   go_quiet ((first | (go_at_call 81; exact HF4.out _) | (go_at_call 58; exact HM4.out _)))
   go_wp2_with fail
   refine (HTK.out _).mono ?_
   rintro e w2 ⟨rfl,q2,hw2⟩
   have HC2:Bx (Ch (fun _=>False) w w2):=⟨by rw[hw2]; exact (Ch.refl _ w).drewN q2⟩
   clear hw2 HTK HF4 HM4
   go_wp2
   go_ret3
   exact DecP.err HD.out HC2.out
  have e1:decide ((1048576:Int)<(u:Int))=false:=decide_eq_false (by omega)
  have e2:decide (1048576<u)=false:=decide_eq_false hbig
  by_cases hsh:n<12+u
  ·have HD:Bx (decF xs=([],0,2)):=⟨by unfold decF; rw[if_neg H8.out,if_neg (fun h=>h H4.out),HU.out,if_neg hbig,HL.out,if_pos hsh]⟩
   have f1:decide ((n:Int)<12+(u:Int))=true:=decide_eq_true (by omega)
   go_enter Tryd.func63,Tryd.ntmps63
   go_wp2_with fail
   go_quiet ((first | (go_at_call 81; exact HF4.out _) | (go_at_call 58; exact HM4.out _)))
   go_wp2_with fail
   refine (HTK.out _).mono ?_
   rintro e w2 ⟨rfl,q2,hw2⟩
   have HC2:Bx (Ch (fun _=>False) w w2):=⟨by rw[hw2]; exact (Ch.refl _ w).drewN q2⟩
   clear hw2 HTK HF4 HM4
   go_wp2
   go_ret3
   exact DecP.err HD.out HC2.out
  have f1:decide ((n:Int)<12+(u:Int))=false:=decide_eq_false (by omega)
  have f2:(8:Int)+(u:Int)≤(c:Int):=by omega
  have f3:(8:Int)+(u:Int)≤(n:Int):=by omega
  have f5:((8:Int)+(u:Int)).toNat=8+u:=by omega
  have f6:8+u-8=u:=by omega
  have f7:¬ c=8+u:=by omega
  have f8:(0:Int)≤8+(u:Int):=by omega
  have f9:(8:Int)≤8+(u:Int):=by omega
  have f10:IntKind.i64.wrap ((8:Int)+(u:Int))=(8:Int)+(u:Int):=IntWalk.i64_in _ (by omega)
  have f11:¬ c=8:=by omega
  obtain⟨u8,hu8⟩:∃ z,unf xs (8+u)=z:=⟨_,rfl⟩
  obtain⟨s8,hs8⟩:∃ z,sumN (xs.take (8+u))=z:=⟨_,rfl⟩
  have HU8:=Bx.mk hu8
  have HS8:=Bx.mk hs8
  clear hu8 hs8
  by_cases hl8:u8=s8
  ·have HD:Bx (decF xs=((xs.drop 8).take u,12+u,0)):=⟨by unfold decF; rw[if_neg H8.out,if_neg (fun h=>h H4.out),HU.out,if_neg hbig,HL.out,if_neg hsh,HU8.out,HS8.out,if_neg (fun h=>h hl8)]⟩
   subst hl8
   go_enter Tryd.func63,Tryd.ntmps63
   go_wp2_with fail
   go_quiet ((first | (go_at_call 81; exact HF4.out _) | (go_at_call 58; exact HM4.out _)))
   go_wp2_with fail
   refine (HTK.out _).mono ?_
   rintro e w2 ⟨rfl,q2,hw2⟩
   have HC2:Bx (Ch (fun _=>False) w w2):=⟨by rw[hw2]; exact (Ch.refl _ w).drewN q2⟩
   clear hw2 HTK HF4 HM4
   have HS2:=Bx.mk (HS.out.ch HC2.out (fun _ _ _ h=>h))
   have hd8:=HS2.out.drop (k:=8+u) (by omega)
   have ht8:=HS2.out.take (k:=8+u) (by omega)
   have HF8:=Bx.mk (fun k=>fromfour_val (c:=c-(8+u)) (xs.drop (8+u)) (some ⟨b0,o0+(8+u),none⟩) (n-(8+u)) w2 hd8 (byt_drop HB.out _) (by omega) (by omega) u8 (by rw[unf_drop]; exact HU8.out) k)
   have HM8:=Bx.mk (fun k=>refsum_val (c:=c) (xs.take (8+u)) (some ⟨b0,o0,none⟩) (8+u) w2 ht8 (byt_take HB.out _) (by omega) u8 HS8.out k)
   clear hd8 ht8
   go_wp2_with fail
   go_quiet ((first | (go_at_call 81; exact HF8.out _) | (go_at_call 58; exact HM8.out _)))
   obtain⟨w3,hw3⟩:∃ w3,w2.drewN nq=w3:=⟨_,rfl⟩
   have HC3:Bx (Ch (fun _=>False) w w3):=⟨by rw[←hw3]; exact HC2.out.drewN nq⟩
   rw[hw3]
   clear hw3 HF8 HM8
   have HST:=Bx.mk ((((HS.out.ch HC3.out (fun _ _ _ h=>h)).drop (k:=8) (by omega)).take (k:=u) (by omega)).alloc (.cells #[] 5))
   have HON:=Bx.mk (own_none8 w3)
   go_wp2_with (at_builtin; refine wp_app rfl (.tmp 37) (.tmp 41) Tb rfl rfl HON.out rfl HST.out ?c1 ?c2 ?c3 ?_)
   case c1=>exact ints_cells _ _
   case c2=>omega
   case c3=>omega
   intro v5 w5 ho5 hg5 hb5
   have hlen:((xs.drop 8).take u).length=u:=by rw[List.length_take,List.length_drop,HL.out]; omega
   have hf5:Fresh w3 v5 ((xs.drop 8).take u) w5:=(fresh_none8 w3).app8 (by rw[hlen,List.map_take,List.map_drop]; exact ho5) hg5 (by rw[World.size_alloc]; exact hb5)
   have HF:Bx (Fresh w v5 ((xs.drop 8).take u) w5):=⟨hf5.1,fun g hg=>Nat.le_trans HC3.out.size (hf5.2.1 g hg),HC3.out.trans hf5.2.2 (fun _ _ h=>h)⟩
   clear ho5 hg5 hb5 hf5
   go_wp2
   go_ret3
   refine⟨v5,?_,by rw[HD.out]; exact HF.out⟩
   rw[HD.out]
   simp
  ·have HD:Bx (decF xs=([],0,4)):=⟨by unfold decF; rw[if_neg H8.out,if_neg (fun h=>h H4.out),HU.out,if_neg hbig,HL.out,if_neg hsh,HU8.out,HS8.out,if_pos hl8]⟩
   have hq8:((u8:Int) != (s8:Int))=true:=by simp; omega
   have HL8:=Bx.mk hl8
   clear hl8
   go_enter Tryd.func63,Tryd.ntmps63
   go_wp2_with fail
   go_quiet ((first | (go_at_call 81; exact HF4.out _) | (go_at_call 58; exact HM4.out _)))
   go_wp2_with fail
   refine (HTK.out _).mono ?_
   rintro e w2 ⟨rfl,q2,hw2⟩
   have HC2:Bx (Ch (fun _=>False) w w2):=⟨by rw[hw2]; exact (Ch.refl _ w).drewN q2⟩
   clear hw2 HTK HF4 HM4
   have HS2:=Bx.mk (HS.out.ch HC2.out (fun _ _ _ h=>h))
   have hd8:=HS2.out.drop (k:=8+u) (by omega)
   have ht8:=HS2.out.take (k:=8+u) (by omega)
   have HF8:=Bx.mk (fun k=>fromfour_val (c:=c-(8+u)) (xs.drop (8+u)) (some ⟨b0,o0+(8+u),none⟩) (n-(8+u)) w2 hd8 (byt_drop HB.out _) (by omega) (by omega) u8 (by rw[unf_drop]; exact HU8.out) k)
   have HM8:=Bx.mk (fun k=>refsum_val (c:=c) (xs.take (8+u)) (some ⟨b0,o0,none⟩) (8+u) w2 ht8 (byt_take HB.out _) (by omega) s8 HS8.out k)
   clear hd8 ht8
   go_wp2_with fail
   go_quiet ((first | (go_at_call 81; exact HF8.out _) | (go_at_call 58; exact HM8.out _)))
   go_wp2
   go_ret3
   exact DecP.err HD.out (HC2.out.drewN _)
 ·have HD:Bx (decF xs=([],0,4)):=⟨by unfold decF; rw[if_neg h8',HU4.out,HS4.out,if_pos h4]⟩
  have hq:((u4:Int) != (s4:Int))=true:=by simp; omega
  clear h4 h8'
  go_enter Tryd.func63,Tryd.ntmps63
  go_wp2_with fail
  go_quiet ((first | (go_at_call 81; exact HF4.out _) | (go_at_call 58; exact HM4.out _)))
  go_wp2
  go_ret3
  exact DecP.err HD.out ((Ch.refl _ w).drewN _)
theorem rone_any {F:Nat→Prop} (xs:List Int) (A:Option Addr) (n c:Nat) (w:World) (hs:Sl w F .u8 A n xs) (hc:n≤c) (hcm:c≤maxLen) (hn:n≤100000000) (hby:Byt xs) :
  Calls Tryd.prog 34 #[.slice A n c] w (OneP xs w):=by
 have HD:=Bx.mk (rdecode_any xs A n c w hs hc hcm hn hby)
 have hl:=hs.len
 have hle:=decF_le xs
 obtain⟨p,k,ec,hd⟩:∃ p k ec,decF xs=(p,k,ec):=⟨_,_,_,rfl⟩
 have HDD:=Bx.mk hd
 have HPO:Bx (DecP xs w=fun e w'=>∃ v,e = .returned (.tuple #[v, .int .i64 (k:Nat), .int .i64 ec])∧Fresh w v p w'):=⟨by
  funext e w'
  unfold DecP
  rw[hd]⟩
 rw[hd] at hle
 simp only at hle
 have HL:=Bx.mk hl
 have HLE:=Bx.mk hle
 clear hs hby hl hd hle
 by_cases he:ec=0
 ·subst he
  have hkn:k≤n:=by have:=HLE.out; rw[HL.out] at this; exact this
  by_cases hk:k=n
  ·subst hk
   have HO:Bx (oneF xs=(p,0)):=⟨by unfold oneF; rw[HDD.out]; simp only[ne_eq,not_true_eq_false,if_false]; rw[if_neg (by rw[HL.out]; simp)]⟩
   go_enter Tryd.func34,Tryd.ntmps34
   go_wp2_with fail
   refine HD.out.mono ?_
   rw[HPO.out]
   rintro e w1 ⟨v,rfl,hf⟩
   have HF:=Bx.mk hf
   clear hf HD
   go_wp2
   go_ret2
   exact OneP.of HO.out HF.out
  ·have HO:Bx (oneF xs=([],3)):=⟨by unfold oneF; rw[HDD.out]; simp only[ne_eq,not_true_eq_false,if_false]; rw[if_pos (by rw[HL.out]; exact hk)]⟩
   have hq:((k:Int) != (n:Int))=true:=by simp; omega
   have HK:=Bx.mk hk
   clear hk
   go_enter Tryd.func34,Tryd.ntmps34
   go_wp2_with fail
   refine HD.out.mono ?_
   rw[HPO.out]
   rintro e w1 ⟨v,rfl,hf⟩
   have HF:=Bx.mk hf
   clear hf HD
   go_wp2
   go_ret2
   exact OneP.of HO.out (fresh_none HF.out.2.2)
 ·have HO:Bx (oneF xs=([],ec)):=⟨by unfold oneF; rw[HDD.out]; rw[if_pos he]⟩
  have hq:((ec:Int) != 0)=true:=by simpa using he
  have hq2:((ec:Int)==0)=false:=by simpa using he
  have HE:=Bx.mk he
  clear he
  go_enter Tryd.func34,Tryd.ntmps34
  go_wp2_with fail
  refine HD.out.mono ?_
  rw[HPO.out]
  rintro e w1 ⟨v,rfl,hf⟩
  have HF:=Bx.mk hf
  clear hf HD
  go_wp2
  go_ret2
  exact OneP.of HO.out (fresh_none HF.out.2.2)
end
end Go.Proofs.YtoolcbaipinloaaDoor
