/- Lemmas and contracts of this proof. Conditions: said at each. -/
import Derived.Test.YtoolcbaipinloaaDoorQGOcMath
import Derived.Laws.AppendOwnNone
import Derived.Deep.Draws
import Derived.Maps.AppendAt
import Derived.Test.YtoolcbaipinloaaDoorProg
import Derived.Lib.Hide
import Derived.Handy
import Derived.Laws.BitsAllLaws
import Derived.Laws.BitsLemmas
import Derived.Test.YtoolcbaipinloaaDoorRows
import Derived.ProofKit
import Derived.LaidMore
import Derived.OpenShut
import Derived.Stop.Joined
import Derived.WideKeyArgs
import Derived.ChangeSlices
import Derived.Deep.Matrix
set_option maxHeartbeats 1000000
set_option maxRecDepth 100000
namespace Go.Oct
section
open Go.RowKit
structure Ch (S:Nat→Prop) (w w':World):Prop where
 os:w'.os=w.os
 tape:w'.tape=w.tape
 output:w'.output=w.output
 size:w.heap.size≤w'.heap.size
 block:∀ k,k<w.heap.size→¬ S k→w'.heap[k]? = w.heap[k]?
section
variable {S T:Nat→Prop} {w w' a b c:World}
theorem Ch.refl (S:Nat→Prop) (w:World):Ch S w w:=⟨rfl,rfl,rfl,Nat.le_refl _,fun _ _ _=>rfl⟩
theorem Ch.trans (h:Ch S a b) (k:Ch T b c) (hT:∀ i,i<a.heap.size→T i→S i):Ch S a c :=
 ⟨k.os.trans h.os,k.tape.trans h.tape,k.output.trans h.output,Nat.le_trans h.size k.size,fun i hi hn=>(k.block i (Nat.lt_of_lt_of_le hi h.size) (fun ht=>hn (hT i hi ht))).trans (h.block i hi hn)⟩
theorem Ch.mono (h:Ch T a b) (hT:∀ i,i<a.heap.size→T i→S i):Ch S a b:=(Ch.refl S a).trans h hT
theorem Ch.drewN (h:Ch S a w) (n:Nat):Ch S a (w.drewN n):=⟨h.os,h.tape,h.output,h.size,h.block⟩
theorem Ch.drew (h:Ch S a w):Ch S a w.drew:=⟨h.os,h.tape,h.output,h.size,h.block⟩
theorem Ch.alloc (h:Ch S a w) (o:Obj):Ch S a (w.alloc o) :=
 ⟨h.os,h.tape,h.output,Nat.le_trans h.size (by simp),fun i hi hn=>(Below.heap_alloc w o i (Nat.lt_of_lt_of_le hi h.size)).trans (h.block i hi hn)⟩
theorem Ch.setCell (h:Ch S a w) {p:Addr} (hp:S p.block∨a.heap.size≤p.block) (u:Value):Ch S a (w.setCell p u) :=
 ⟨h.os,h.tape,h.output,by simpa[World.setCell] using h.size,fun i hi hn=>(Below.heap_setCell w p u i (by
  rintro rfl
  rcases hp with hp | hp
  ·exact hn hp
  ·omega)).trans (h.block i hi hn)⟩
theorem Ch.grown {row:Option Nat} (h:Ch S a w) (hg:w.grownBy w' row) (hr:∀ k,row=some k→S k∨a.heap.size≤k):Ch S a w' :=
 h.trans (T:=fun k=>row=some k) ⟨hg.os,hg.tape,hg.output,hg.size,fun k hk hn=>hg.block k hk (fun e=>hn e.symm)⟩ (fun i hi hT=>by
  rcases hr i hT with h1 | h1
  ·exact h1
  ·omega)
theorem Ch.below (h:Ch S a b) {B:Nat} (hB:B≤a.heap.size) (hS:∀ k,k<B→¬ S k):Below B a b:=⟨h.os,h.tape,h.output,h.size,fun k hk=>h.block k (by omega) (hS k hk)⟩
theorem Ch.of_below {B:Nat} (h:Below B a b) (hS:∀ k,B≤k→k<a.heap.size→S k):Ch S a b :=
 ⟨h.os,h.tape,h.output,h.size,fun k hk hn=>h.block k (by
  rcases Nat.lt_or_ge k B with h1 | h1
  ·exact h1
  ·exact absurd (hS k h1 hk) hn)⟩
theorem lt_of_cell {p:Addr} {u:Value} (h:w.cell? p=some u):p.block<w.heap.size:=World.block_lt_of_cell? w p h
theorem Ch.cell (h:Ch S a b) {p:Addr} {u:Value} (hp:¬ S p.block) (hc:a.cell? p=some u):b.cell? p=some u :=
 (World.cell?_of_block (w:=a) (h.block p.block (lt_of_cell hc) hp)).trans hc
theorem Ch.frozen (h:Ch S a b) {p:Addr} (hp:¬ S p.block) (hl:p.block<a.heap.size):b.frozen? p=a.frozen? p:=World.frozen?_of_block (w:=a) (h.block p.block hl hp)
theorem Ch.own {base:Nat} {e:TypeId} {size n:Nat} {v:Value} {xs:List Value} (h:Ch S a b) (ho:a.ownsRow base e size v n xs) (hn:∀ g,v.ownBlock=some g→¬ S g):b.ownsRow base e size v n xs:=by
 refine⟨ho.1,?_⟩
 rcases ho.2 with h0 | ⟨g,cap,cur,rfl,hb,hg,rest⟩
 ·exact .inl h0
 ·exact .inr ⟨g,cap,cur,rfl,hb,by rw[h.block g (Array.getElem?_eq_some_iff.1 hg).1 (hn g rfl)]; exact hg,rest⟩
end
theorem own_shape {w:World} {base:Nat} {e:TypeId} {size n:Nat} {v:Value} {xs:List Value} (h:w.ownsRow base e size v n xs):∃ A c,v = .slice A n c∧n≤c∧c≤maxLen:=by
 rcases h.2 with ⟨rfl,rfl⟩ | ⟨g,cap,cur,rfl,_,_,h1,h2,_⟩
 ·exact⟨_,_,rfl,Nat.le_refl _,Nat.zero_le _⟩
 ·exact⟨_,_,rfl,h1,h2⟩
def Vs (w:World) (F:Nat→Prop) (A:Option Addr) (n:Nat) (us:List Value):Prop :=
 us.length=n∧(0<n→∃ b off,A=some ⟨b,off,none⟩∧F b∧∀ j u,us[j]? = some u→w.cell? ⟨b,off+j,none⟩=some u)
def Sl (w:World) (F:Nat→Prop) (K:IntKind) (A:Option Addr) (n:Nat) (xs:List Int):Prop:=Vs w F A n (xs.map (Value.int K))
section
variable {w w':World} {F G S:Nat→Prop} {K:IntKind} {A:Option Addr} {n:Nat} {xs:List Int} {us:List Value}
theorem Vs.nil (w:World) (F:Nat→Prop) (A:Option Addr):Vs w F A 0 []:=⟨rfl,fun h=>absurd h (by omega)⟩
theorem Vs.ch (h:Vs w F A n us) (hc:Ch S w w') (hF:∀ b,F b→b<w.heap.size→¬ S b):Vs w' F A n us :=
 ⟨h.1,fun hn=>by
  obtain⟨b,off,e,hb,hj⟩:=h.2 hn
  exact⟨b,off,e,hb,fun j u hu=>hc.cell (hF b hb (lt_of_cell (hj j u hu))) (hj j u hu)⟩⟩
theorem Vs.at_ (h:Vs w F A n us) {k:Nat} (hk:k<n):∃ b off u,A=some ⟨b,off,none⟩∧F b∧Hid (us[k]? = some u)∧w.cell? ⟨b,off+k,none⟩=some u:=by
 obtain⟨b,off,e,hb,hj⟩:=h.2 (by omega)
 have hl:k<us.length:=by have:=h.1; omega
 exact⟨b,off,us[k],e,hb,List.getElem?_eq_getElem hl,hj k _ (List.getElem?_eq_getElem hl)⟩
theorem Vs.lt (h:Vs w F A n us) (hn:0<n):∃ b off,A=some ⟨b,off,none⟩∧F b∧b<w.heap.size:=by
 obtain⟨b,off,u,e,hb,_,hc⟩:=h.at_ hn
 exact⟨b,off,e,hb,lt_of_cell hc⟩
theorem Vs.mono (h:Vs w F A n us) (hF:∀ b,b<w.heap.size→F b→G b):Vs w G A n us :=
 ⟨h.1,fun hn=>by
  obtain⟨b,off,e,hb,hlt⟩:=h.lt hn
  obtain⟨b',off',e',hb',hj⟩:=h.2 hn
  exact⟨b',off',e',hF b' (by rw[e] at e'; injection e' with e'; injection e' with e' _; omega) hb',hj⟩⟩
theorem Vs.of_own {base:Nat} {e:TypeId} {c:Nat} (h:w.ownsRow base e 1 (.slice A n c) n us):Vs w (fun b=>(Value.slice A n c).ownBlock=some b) A n us:=by
 have h1:us.length=n:=by simpa using h.1
 refine⟨h1,fun hn=>?_⟩
 rcases h.2 with ⟨_,h0⟩ | ⟨g,cap,cur,hv,hb,hg,_⟩
 ·omega
 ·injection hv with hA
  subst hA
  refine⟨g,0,rfl,rfl,fun j u hu=>?_⟩
  have:=h.cells (g:=g) rfl j u hu
  have hadd:(⟨g,0,none⟩:Addr).add j=⟨g,0+j,none⟩:=by unfold Addr.add; split <;> simp_all
  rw[hadd] at this
  exact this
theorem Vs.drop {b off k:Nat} (h:Vs w F (some ⟨b,off,none⟩) n us) (hk:k≤n):Vs w F (some ⟨b,off+k,none⟩) (n-k) (us.drop k) :=
 ⟨by rw[List.length_drop,h.1],fun hn=>by
  obtain⟨b',off',e,hb,hj⟩:=h.2 (by omega)
  injection e with e
  injection e with e1 e2
  subst e1 e2
  exact⟨b,off+k,rfl,hb,fun j u hu=>by
   rw[List.getElem?_drop] at hu
   rw[Nat.add_assoc]
   exact hj _ u hu⟩⟩
theorem Sl.drop {b off k:Nat} (h:Sl w F K (some ⟨b,off,none⟩) n xs) (hk:k≤n):Sl w F K (some ⟨b,off+k,none⟩) (n-k) (xs.drop k):=by
 unfold Sl
 rw[List.map_drop]
 exact Vs.drop h hk
theorem Vs.take {k:Nat} (h:Vs w F A n us) (hk:k≤n):Vs w F A k (us.take k) :=
 ⟨by rw[List.length_take,h.1]; omega,fun hn=>by
  obtain⟨b',off',e,hb,hj⟩:=h.2 (by omega)
  exact⟨b',off',e,hb,fun j u hu=>by
   rw[List.getElem?_take] at hu
   split at hu
   ·exact hj _ u hu
   ·cases hu⟩⟩
theorem Sl.take {k:Nat} (h:Sl w F K A n xs) (hk:k≤n):Sl w F K A k (xs.take k):=by
 unfold Sl
 rw[List.map_take]
 exact Vs.take h hk
theorem Sl.nil (w:World) (F:Nat→Prop) (K:IntKind) (A:Option Addr):Sl w F K A 0 []:=Vs.nil w F A
theorem Sl.len (h:Sl w F K A n xs):xs.length=n:=by simpa using h.1
theorem Sl.ch (h:Sl w F K A n xs) (hc:Ch S w w') (hF:∀ b,F b→b<w.heap.size→¬ S b):Sl w' F K A n xs:=Vs.ch h hc hF
theorem Sl.mono (h:Sl w F K A n xs) (hF:∀ b,b<w.heap.size→F b→G b):Sl w G K A n xs:=Vs.mono h hF
theorem Sl.drewN (h:Sl w F K A n xs) (k:Nat):Sl (w.drewN k) F K A n xs:=h
theorem Sl.alloc (h:Sl w F K A n xs) (o:Obj):Sl (w.alloc o) F K A n xs:=h.ch ((Ch.refl (fun _=>False) w).alloc o) (fun _ _ _ h=>h)
theorem Sl.at_ (h:Sl w F K A n xs) {k:Nat} (hk:k<n):∃ b off x,A=some ⟨b,off,none⟩∧F b∧Hid (xs[k]? = some x)∧w.cell? ⟨b,off+k,none⟩=some (.int K x):=by
 obtain⟨b,off,u,e,hb,hu,hc⟩:=Vs.at_ h hk
 have hu:=hu.out
 rw[List.getElem?_map] at hu
 cases hx:xs[k]? with
 | none=>rw[hx] at hu; cases hu
 | some x =>
  rw[hx] at hu
  simp only[Option.map_some,Option.some.injEq] at hu
  subst hu
  exact⟨b,off,x,e,hb,rfl,hc⟩
theorem Sl.of_own {base:Nat} {e:TypeId} {c:Nat} (h:w.ownsRow base e 1 (.slice A n c) n (xs.map (Value.int K))):Sl w (fun b=>(Value.slice A n c).ownBlock=some b) K A n xs:=Vs.of_own h
end
def Rows (w:World) (F:Nat→Prop) (us:List Value) (xss:List (List Int)):Prop :=
 us.length=xss.length∧∀ (i:Nat) (u:Value) (xs:List Int),us[i]? = some u→xss[i]? = some xs→∃ (A:Option Addr) (c:Nat),u=Value.slice A xs.length c∧Sl w F .u8 A xs.length xs∧xs.length≤c∧c≤maxLen
def Sls (w:World) (F:Nat→Prop) (A:Option Addr) (n:Nat) (xss:List (List Int)):Prop:=∃ us,Vs w F A n us∧Rows w F us xss
section
variable {w w':World} {F G S:Nat→Prop} {A:Option Addr} {n:Nat} {us:List Value} {xss:List (List Int)}
theorem Rows.ch (h:Rows w F us xss) (hc:Ch S w w') (hF:∀ b,F b→b<w.heap.size→¬ S b):Rows w' F us xss :=
 ⟨h.1,fun i u xs hu hx=>by
  obtain⟨A,c,e,hs,h1,h2⟩:=h.2 i u xs hu hx
  exact⟨A,c,e,hs.ch hc hF,h1,h2⟩⟩
theorem Sls.ch (h:Sls w F A n xss) (hc:Ch S w w') (hF:∀ b,F b→b<w.heap.size→¬ S b):Sls w' F A n xss:=by
 obtain⟨us,h1,h2⟩:=h
 exact⟨us,h1.ch hc hF,h2.ch hc hF⟩
theorem Sls.len (h:Sls w F A n xss):xss.length=n:=by
 obtain⟨us,h1,h2⟩:=h
 rw[←h2.1,h1.1]
theorem Sls.at_ (h:Sls w F A n xss) {k:Nat} (hk:k<n):∃ b off A' c xs,A=some ⟨b,off,none⟩∧F b∧Hid (xss[k]? = some xs)∧w.cell? ⟨b,off+k,none⟩=some (.slice A' xs.length c)∧Sl w F .u8 A' xs.length xs∧xs.length≤c∧c≤maxLen:=by
 have hl:=h.len
 obtain⟨us,h1,h2⟩:=h
 obtain⟨b,off,u,e,hb,hu,hc⟩:=h1.at_ hk
 obtain⟨A',c,rfl,h3,h4,h5⟩:=h2.2 k u xss[k] hu.out (List.getElem?_eq_getElem (by omega))
 exact⟨b,off,A',c,xss[k],e,hb,List.getElem?_eq_getElem (by omega),hc,h3,h4,h5⟩
end
theorem Sls.one {w:World} {F G:Nat→Prop} {A:Option Addr} {c:Nat} {xs:List Int} (e:TypeId) (h:Sl w F .u8 A xs.length xs) (h1:xs.length≤c) (h2:c≤maxLen) (hG:∀ b,b<w.heap.size→F b→G b) (hG0:G w.heap.size) :
  Sls (w.alloc (.cells #[.slice A xs.length c] e)) G (some ⟨w.heap.size,0,none⟩) 1 [xs]:=by
 refine⟨[.slice A xs.length c],⟨rfl,fun _=>⟨w.heap.size,0,rfl,hG0,fun j v hv=>?_⟩⟩,rfl,fun i u ys hu hy=>?_⟩
 ·match j,hv with
  | 0,hv =>
   simp at hv
   subst hv
   rw[World.cell?_alloc_at _ _ _ _ rfl]
   rfl
 ·match i,hu,hy with
  | 0,hu,hy =>
   simp at hu hy
   subst hu hy
   exact⟨A,c,rfl,Vs.ch (Vs.mono h fun b hb hf=>hG b hb hf) ((Ch.refl (fun _=>False) w).alloc _) (fun _ _ _ h=>h),h1,h2⟩
structure Elem (P:Program) (t e:TypeId) (z:Value) (bytes:Nat):Prop where
 t:P.underlying t=some (.slice e)
 info:(P.info? e).map (fun i=>(i.zero,i.size,i.bytes))=some (some z,1,bytes)
 z:z.cells.size=1
section
variable {P:Program} {t e:TypeId} {z:Value} {bytes:Nat} {F:Nat→Prop}
theorem run_app (w:World) (ty:TypeId) (T:Elem P t e z bytes) {v:Value} {n:Nat} {xs:List Value} (hown:w.ownsRow 0 e 1 v n xs)
  {A:Option Addr} {m c:Nat} {news:List Value} (hr:Vs w F A m news) (h1:∀ u∈news,u.oneCell'=true) (hb:(n+m)*bytes≤140737488355328) (h63:n+m≤140737488355328) :
  ∃ v' w',(Builtin.append_ #[t,t] ty #[v, .slice A m c]).run P w = .ok v' w'∧w'.ownsRow 0 e 1 v' (n+m) (xs++news)∧w.grownBy w' v.ownBlock ∧
   (v'.ownBlock=v.ownBlock∨v'.ownBlock=some w.heap.size):=by
 obtain⟨i,hi,hz,hs,hby⟩:=info_parts T.info
 rcases A with _ | ad
 ·have hm:m=0:=by
   rcases Nat.eq_zero_or_pos m with h0 | h0
   ·exact h0
   ·obtain⟨_,_,e,_⟩:=hr.2 h0
    cases e
  subst hm
  obtain rfl:news=[]:=List.eq_nil_of_length_eq_zero hr.1
  refine⟨v,w,?_,by simpa using hown,⟨rfl,rfl,rfl,Nat.le_refl _,fun _ _ _=>rfl⟩, .inl rfl⟩
  rcases hown.2 with ⟨rfl,rfl⟩ | ⟨g,cap,cur,rfl,_,_,hnc,_⟩
  ·simp[Builtin.append_,run_underlying T.t,sizeOf,typeInfo,hi,Builtin.lenOf,Builtin.firstCells]
  ·simp[Builtin.append_,run_underlying T.t,sizeOf,typeInfo,hi,Builtin.lenOf,Builtin.firstCells,hnc,storeCells]
 ·have hcells:∀ j u,news[j]? = some u→w.cell? (ad.add j)=some u:=by
   intro j u hu
   rcases Nat.eq_zero_or_pos m with h0 | h0
   ·have hl:=hr.1
    obtain⟨hj,_⟩:=List.getElem?_eq_some_iff.1 hu
    omega
   ·obtain⟨b,off,h,_,hc⟩:=hr.2 h0
    injection h with h
    subst h
    have hadd:(⟨b,off,none⟩:Addr).add j=⟨b,off+j,none⟩:=by unfold Addr.add; split <;> simp_all
    rw[hadd]
    exact hc j u hu
  obtain⟨v',w',hrun,h2,h3,_,h5⟩:=run_append_own_at (P:=P) w 0 t ty e i z 1 bytes T.t hi hz hs hby T.z (by omega) v n xs hown ad m c news (by rw[hr.1]; omega) hcells h1 (by unfold maxLen; omega) hb (Nat.zero_le _)
  exact⟨v',w',hrun,h2,h3,h5⟩
theorem wp_app {w:World} {ops:Array Oper} {rest:List Oper} {o:Oper} {a:Act} {Q:Exit→Act→World→Prop} (hgd:o.guard=none) (s x:Operand) (T:Elem P t e z bytes)
  (ho:o.op = .call { callee := .builtin .append,args:=#[s,x],argTypes:=#[t,t] }) {v:Value} {n:Nat} {xs:List Value} (hs:a.eval s=v) (hown:w.ownsRow 0 e 1 v n xs)
  {A:Option Addr} {m c:Nat} {news:List Value} (hx:a.eval x = .slice A m c) (hr:Vs w F A m news) (h1:∀ u∈news,u.oneCell'=true) (hb:(n+m)*bytes≤140737488355328) (h63:n+m≤140737488355328)
  (h:∀ v' w',w'.ownsRow 0 e 1 v' (n+m) (xs++news)→w.grownBy w' v.ownBlock→(v'.ownBlock=v.ownBlock∨v'.ownBlock=some w.heap.size)→wpList P ops Q rest (a.put o.dst v') w'):wpList P ops Q (o::rest) a w :=
 wpList_plain hgd fun _ hK=>by
  obtain⟨v',w',hrun,h2,h3,h4⟩:=run_app (P:=P) w o.type T hown (c:=c) hr h1 hb h63
  unfold Oper.wp execOp
  simp only[ho,resolve,invoke,builtin,Sem.run_bind,Sem.run_pure,Result.andThen_ok,List.map_toArray,List.map_cons,List.map_nil,hs,hx,hrun]
  exact hK _ _ (h v' w' h2 h3 h4)
theorem run_mk (T:Elem P t e z bytes) (L:Nat) (hb:bytes*L≤281474976710656) (h63:L≤281474976710656) (w:World) :
  (Instr.makeSlice t (.int .i64 0) (.int .i64 (L:Int))).run P w = .ok (.slice (some ⟨w.heap.size,0,none⟩) 0 L) (w.alloc (.cells (madeCells z.cells L) e)):=by
 obtain⟨i,hi,hz,hs,hby⟩:=info_parts T.info
 have hb':(i.bytes:Int)*(L:Int)≤281474976710656:=by
  rw[hby]
  have h:((bytes*L:Nat):Int)≤281474976710656:=by omega
  rwa[Int.natCast_mul] at h
 have hr:=run_make (P:=P) w t e i z T.t hi hz .i64 .i64 0 L (by omega) (by omega) hb' (by omega)
 simp only[Int.toNat_natCast,hs,Nat.mul_one,Int.toNat_zero] at hr
 exact hr
theorem Vs.built (w:World) (e:TypeId) (us:List Value) (fr:Nat×Nat:=(0,0)):Vs (w.alloc (.cells us.toArray e fr)) (fun b=>b=w.heap.size) (some ⟨w.heap.size,0,none⟩) us.length us :=
 ⟨rfl,fun _=>⟨w.heap.size,0,rfl,rfl,fun j v hv=>by
  have h:(w.alloc (.cells us.toArray e fr)).heap[w.heap.size]? = some (.cells us.toArray e fr):=heap_alloc_new w _
  unfold World.cell?
  rw[h]
  simpa using hv⟩⟩
theorem Rows.nil_ (w:World) (F:Nat→Prop):Rows w F [] []:=⟨rfl,fun i u xs hu _=>by simp at hu⟩
theorem Rows.cons_ {w:World} {F:Nat→Prop} {A:Option Addr} {c:Nat} {xs:List Int} {us:List Value} {xss:List (List Int)} (h:Sl w F .u8 A xs.length xs) (h1:xs.length≤c) (h2:c≤maxLen) (h3:Rows w F us xss) :
  Rows w F (.slice A xs.length c::us) (xs::xss) :=
 ⟨by simp[h3.1],fun i u ys hu hy=>by
  match i,hu,hy with
  | 0,hu,hy =>
   simp at hu hy
   subst hu hy
   exact⟨A,c,rfl,h,h1,h2⟩
  | i+1,hu,hy=>exact h3.2 i u ys (by simpa using hu) (by simpa using hy)⟩
theorem Sls.two {w:World} {F G:Nat→Prop} {A B:Option Addr} {c d:Nat} {xs ys:List Int} (e:TypeId) (h:Sl w F .u8 A xs.length xs) (h1:xs.length≤c) (h2:c≤maxLen) (k:Sl w F .u8 B ys.length ys) (k1:ys.length≤d) (k2:d≤maxLen)
  (hG:∀ b,b<w.heap.size→F b→G b) (hG0:G w.heap.size) :
  Sls (w.alloc (.cells #[.slice A xs.length c, .slice B ys.length d] e)) G (some ⟨w.heap.size,0,none⟩) 2 [xs,ys] :=
 ⟨[.slice A xs.length c, .slice B ys.length d],(Vs.built w e [.slice A xs.length c, .slice B ys.length d]).mono fun b _ hb=>by subst hb; exact hG0,
  Rows.cons_ (Sl.alloc (h.mono hG) _) h1 h2 (Rows.cons_ (Sl.alloc (k.mono hG) _) k1 k2 (Rows.nil_ _ _))⟩
theorem Vs.one (w:World) (e:TypeId) (u:Value):Vs (w.alloc (.cells #[u] e)) (fun b=>b=w.heap.size) (some ⟨w.heap.size,0,none⟩) 1 [u] :=
 ⟨rfl,fun _=>⟨w.heap.size,0,rfl,rfl,fun j v hv=>by
  match j,hv with
  | 0,hv =>
   simp at hv
   subst hv
   rw[World.cell?_alloc_at _ _ _ _ rfl]
   rfl⟩⟩
theorem ints_cells (K:IntKind) (xs:List Int):∀ u∈xs.map (Value.int K),u.oneCell'=true:=by
 intro u hu
 obtain⟨x,_,rfl⟩:=List.mem_map.1 hu
 rfl
end
end
end Go.Oct
namespace Go.Proofs.YtoolcbaipinloaaDoor.O
section
open Go.RowKit Go.Oct
theorem ofInt_u32 (a:Nat) (ha:a<4294967296):(BitVec.ofInt 32 (a:Int)).toNat=a:=by
 rw[BitVec.ofInt_natCast,BitVec.toNat_ofNat]; exact Nat.mod_eq_of_lt (by omega)
theorem u32_xor (a b:Nat) (ha:a<4294967296) (hb:b<4294967296):bits .xor .u32 (a:Int) (b:Int)=((a ^^^ b:Nat):Int):=by
 have hx:a ^^^ b<4294967296:=xor_lt32 ha hb
 show IntKind.u32.wrap ((BitVec.ofInt 32 (a:Int) ^^^ BitVec.ofInt 32 (b:Int)).toNat:Int)=_
 rw[BitVec.toNat_xor,ofInt_u32 a ha,ofInt_u32 b hb,IntKind.wrap_u32]
 omega
theorem not_u32 (t:Nat) (ht:t<4294967296):bits .xor .u32 IntKind.u32.max (t:Int)=((4294967295-t:Nat):Int):=by
 have e:IntKind.u32.max=((4294967295:Nat):Int):=rfl
 rw[e,u32_xor 4294967295 t (by omega) ht]
 have h:4294967295 ^^^ t=4294967295-t:=by
  have h1:(BitVec.allOnes 32 ^^^ BitVec.ofNat 32 t).toNat=(~~~ BitVec.ofNat 32 t).toNat:=by rw[BitVec.allOnes_xor]
  rw[BitVec.toNat_xor,BitVec.toNat_not,BitVec.toNat_allOnes,BitVec.toNat_ofNat,Nat.mod_eq_of_lt (by omega)] at h1
  simpa using h1
 rw[h]
def Tab (w:World):Prop:=∀ i,i<16→w.cell? ⟨0,i,none⟩=some (.int .u32 (tabN.getD i 0:Nat))
def SumRel (xss:List (List Int)) (k:Nat) (row:List Int) (j:Nat) (t:Nat):Prop:=t=sumFrom (sumFrom 4294967295 (cat (xss.take k))) (row.take j)
theorem sum_step {xss:List (List Int)} {k j s u x:Nat} {row:List Int} (ex:row[j]? = some (x:Int)) (h:SumRel xss k row j s) (hu:u=stepN s x):SumRel xss k row (j+1) u:=by
 unfold SumRel at h ⊢
 rw[sumFrom_more _ ex,←h,hu]
 simp
theorem sum_row {xss:List (List Int)} {k s:Nat} {row:List Int} (ex:xss[k]? = some row) (h:SumRel xss k row row.length s):SumRel xss (k+1) [] 0 s:=by
 unfold SumRel at h ⊢
 rw[cat_more ex,sumFrom_app,h,List.take_of_length_le (Nat.le_refl _)]
 rfl
theorem sum_any (xss:List (List Int)) (A:Option Addr) (n c:Nat) (w:World) (F:Nat→Prop) (hn:n≤1000000000) (ht:Tab w)
  (hz:Sls w F A n xss) (hb:(cat xss).length≤100000000000000) (hby:∀ xs∈xss,Byt xs) :
  Calls Tryd.prog 75 #[.slice A n c] w fun e w'=>e = .returned (.int .u32 (sumN (cat xss):Nat))∧w=w':=by
 have HB:=Lib.hid hby
 have HT:=Lib.hid ht
 clear hby ht
 go_enter Tryd.func75,Tryd.ntmps75
 go_wp2
 go_loop [3,10] (fun s i=>∃ k:Nat,k≤n∧i = .int .i64 k∧∃ t:Nat,t<4294967296∧s = .int .u32 t∧SumRel xss k [] 0 t) (fun _ i=>n-(intOf i).toNat)
 case atStart=>exact⟨0,Nat.zero_le _,rfl,_,by decide,rfl,rfl⟩
 case round =>
  obtain⟨k,hk,rfl,t,ht1,rfl,hrel⟩:=hrel
  by_cases hlt:k<n
  ·obtain⟨b0,off0,A',c',row,rfl,hFb,ex,hc,hsl,_,hcm⟩:=hz.at_ hlt
   have hl:row.length≤100000000000000:=by have:=cat_room ex.out; omega
   have hbr:Byt row:=HB.out row (List.mem_of_getElem? ex.out)
   have HR:=Lib.hid hrel
   clear hrel
   go_wp2
   go_loop [3,16] (fun s i=>∃ j:Nat,j≤row.length∧i = .int .i64 j∧∃ t:Nat,t<4294967296∧s = .int .u32 t∧SumRel xss k row j t) (fun _ i=>row.length-(intOf i).toNat)
   case atStart=>exact⟨0,Nat.zero_le _,rfl,_,ht1,rfl,HR.out⟩
   case round =>
    obtain⟨j,hj,rfl,s,hs1,rfl,hrel⟩:=hrel
    have HS:=Lib.hid hrel
    clear hrel
    by_cases hlt:j<row.length
    ·obtain⟨b,off,x,rfl,_,ey,hcx⟩:=hsl.at_ hlt
     have hx:=hbr.at_ ey.out
     obtain⟨x,rfl⟩:∃ y:Nat,x=(y:Int):=⟨x.toNat,by omega⟩
     obtain⟨y,ey1⟩:∃ y,y=s ^^^ x:=⟨_,rfl⟩
     have h1:bits .xor .u32 (s:Int) (x:Int)=(y:Int):=by rw[u32_xor s x hs1 (by omega),ey1]
     have hy:y<4294967296:=by rw[ey1]; exact xor_lt32 hs1 (by omega)
     obtain⟨t1,et1⟩:∃ t1,t1=tabN.getD (y%16) 0:=⟨_,rfl⟩
     have hc1:w.cell? ⟨0,y%16,none⟩=some (.int .u32 (t1:Int)):=by rw[et1]; exact HT.out (y%16) (by omega)
     have ht1':t1<4294967296:=by rw[et1]; exact tab_lt _ (by omega)
     obtain⟨z,ez1⟩:∃ z,z=(y/16) ^^^ t1:=⟨_,rfl⟩
     have h2:bits .xor .u32 ((y:Int)/16) (t1:Int)=(z:Int):=by rw[ez1,←u32_xor (y/16) t1 (by omega) ht1']; simp
     have hz1:z<4294967296:=by rw[ez1]; exact xor_lt32 (by omega) ht1'
     obtain⟨t2,et2⟩:∃ t2,t2=tabN.getD (z%16) 0:=⟨_,rfl⟩
     have hc2:w.cell? ⟨0,z%16,none⟩=some (.int .u32 (t2:Int)):=by rw[et2]; exact HT.out (z%16) (by omega)
     have ht2':t2<4294967296:=by rw[et2]; exact tab_lt _ (by omega)
     obtain⟨u,eu⟩:∃ u,u=(z/16) ^^^ t2:=⟨_,rfl⟩
     have h3:bits .xor .u32 ((z:Int)/16) (t2:Int)=(u:Int):=by rw[eu,←u32_xor (z/16) t2 (by omega) ht2']; simp
     have hu:u<4294967296:=by rw[eu]; exact xor_lt32 (by omega) ht2'
     have hstep:u=stepN s x:=by rw[eu,et2,ez1,et1,ey1]; rfl
     have HST:=Lib.hid hstep
     clear hstep ey1 et1 ez1 et2 eu
     go_wp2
     exact⟨⟨j+1,by omega,by go_num,u,hu,rfl,sum_step ey.out HS.out HST.out⟩,by simp[intOf]; omega⟩
    ·obtain rfl:j=row.length:=by omega
     have HS2:Hid (SumRel xss (k+1) [] 0 s):=sum_row ex.out HS.out
     go_wp2
     go_round
     case rel=>exact⟨k+1,by omega,by go_num,s,hs1,rfl,HS2.out⟩
     case measure=>simp[intOf]; omega
  ·obtain rfl:k=n:=by omega
   have HR:=Lib.hid hrel
   clear hrel
   go_wp2
   go_ret
   refine⟨?_,rfl⟩
   show Ending.returned (.int .u32 (bits .xor .u32 IntKind.u32.max (t:Int)))=_
   rw[not_u32 t ht1]
   have hs:=HR.out
   unfold SumRel at hs
   rw[List.take_of_length_le (by rw[hz.len]; omega)] at hs
   have e:t=sumFrom 4294967295 (cat xss):=hs
   unfold sumN
   rw[←e]
end
end Go.Proofs.YtoolcbaipinloaaDoor.O
namespace Go.Proofs.YtoolcbaipinloaaDoor
section
open Go.ChangeShapes Go.WideShapes Go.ChangeAt Go.WideMaps Go.WideElems Go.RowKit Go.Oct
theorem own:ownKnob Tryd.prog.godebug=none:=by kernel_rfl
theorem laidOut:laidOutB Tryd.prog=true:=by kernel_rfl
theorem gSums : Tryd.prog.globalNamed "haystack/octet.sums" = some 0 := by kernel_rfl
theorem tSums:(Tryd.prog.globals[0]?).map (·.type)=some 118 := by kernel_rfl
abbrev laidL:List (String×DataW Unit):=[("haystack/octet.sums",Rows.laid_haystack_octet_sums)]
theorem door_met (os:Os) (args:Array Value):laidMetH Tryd.prog laidL ((World.doorLaid Tryd.prog 400 os).forCall (fun _ _=>0) ⟨#[],args,[]⟩).memory:=by
 rw[MakeChecks.laidMetH_plain _ _ _ (by kernel_rfl)]
 exact laidMet_of_run' 8 (by kernel_rfl) (by kernel_rfl)
theorem sums_of {W:World} {rest:List (String×DataW Unit)} {ps:List MemPlace} (h:DataW.LaidVars Tryd.prog W (("haystack/octet.sums",Rows.laid_haystack_octet_sums)::rest) ps):Go.Proofs.YtoolcbaipinloaaDoor.O.Tab W∧∃ qs,DataW.LaidVars Tryd.prog W rest qs:=by
 obtain⟨g0,t0,cs0,f0,p0,q0,hg0,ht0,hv0,hd0,hrest⟩:=h
 refine⟨?_,?_⟩
 rotate_left
 ·exact⟨_,hrest.1⟩
 obtain rfl:=Option.some.inj (gSums.symm.trans hg0)
 obtain rfl:=Option.some.inj (tSums.symm.trans ht0)
 obtain⟨xs,m1,rfl,hx1,hlen,hn3,hel⟩:=DataW.trod_array Tryd.underlying118 hd0
 have c3 : Tryd.prog.cellsOf 94 = 1:=by kernel_rfl
 have c24 : Tryd.prog.cellsOf 118 = 16:=by kernel_rfl
 rw[c3] at hel
 rw[c24] at hlen
 simp only[Prod.mk.injEq] at hx1
 intro i hi
 have hc:=World.var?_cell hg0 hv0 i
 rw[hc]
 have hli:i<cs0.toList.length:=by omega
 have hcs:cs0[i]? = some cs0.toList[i]:=by
  rw[Array.getElem?_eq_getElem (by simpa using hli)]
  simp
 have hsub:List.take 1 (List.drop (i*1) cs0.toList)=[cs0.toList[i]]:=by
  rw[Nat.mul_one,List.drop_eq_getElem_cons hli]
  rfl
 have h1:=hel i hi
 rw[hsub,List.getElem?_eq_getElem (by omega)] at h1
 obtain⟨k,e1,e2,_⟩:=DataW.trod_int Tryd.underlying94 h1
 have e3:Rows.laid_haystack_octet_sums (H:=Unit) = .agg (tabN.map fun n => .lit (.int .u32 ((n:Nat):Int))):=rfl
 rw[e3] at hx1
 have e4:tabN.map (fun n=>(DataW.lit (.int .u32 ((n:Nat):Int)):DataW Unit))=xs.map (·.1):=by
  have:=hx1.1
  injection this
 have e5:=congrArg (fun l=>l[i]?) e4
 simp only[List.getElem?_map] at e5
 have hti:i<tabN.length:=hi
 rw[List.getElem?_eq_getElem hti,List.getElem?_eq_getElem (show i<xs.length by omega)] at e5
 have e6:(DataW.lit (.int .u32 ((tabN[i]:Nat):Int)):DataW Unit)=xs[i].1:=by simpa using e5
 rw[e2] at e6
 injection e6 with e6
 injection e6 with _ e6
 rw[hcs]
 have e7:tabN.getD i 0=tabN[i]:=by simp[List.getD,List.getElem?_eq_getElem hti]
 rw[e7,e6]
 simpa using e1
theorem of_laid {W:World} (h:laidMetH Tryd.prog laidL W):Go.Proofs.YtoolcbaipinloaaDoor.O.Tab W:=by
 rw[MakeChecks.laidMetH_plain _ _ _ (by kernel_rfl)] at h
 obtain⟨ps,h1,_,_⟩:=h
 exact (sums_of h1).1
section
variable {H:Type} {enc:TypeId×Value→H} {P:Program}
theorem trodAll_again (hl:laidOutB P=true) {W W':World} {sp':Nat→Bool}:∀ (ts:List TypeId) (vs:List Value) (ds:List (DataW H)) (ps:List MemPlace),(∀ t∈ts,P.readableRec t=true∧t<P.types.size) →
  DataW.TrodAll enc P W 0 (fun _=>true) true ts vs ds ps→(∀ p∈ps,W.sameAt W' p)→(∀ p∈ps,sp' p.block=true)→DataW.TrodAll enc P W' 0 sp' true ts vs ds ps:=by
 intro ts
 induction ts with
 | nil =>
  intro vs ds ps _ h _ _
  obtain⟨rfl,rfl,rfl⟩:=trodAll_nil h
  exact trodAll_mk0
 | cons t ts ih =>
  intro vs ds ps ht h hs hsp
  obtain⟨v,vs',d,ds',p,q,rfl,rfl,rfl,h1,h2⟩:=trodAll_cons h
  have ht0:=ht t (by simp)
  exact⟨p,q,Trod_stays hl ht0.1 ht0.2 h1 (fun x hx=>hs x (by simp[hx])) (fun x hx=>hsp x (by simp[hx])),
   ih vs' ds' q (fun u hu=>ht u (by simp[hu])) h2 (fun x hx=>hs x (by simp[hx])) (fun x hx=>hsp x (by simp[hx])),rfl⟩
theorem law_post {f:Func} {s:ChangeSpec} {W W':World} {args:Array Value} {ds gs:List (DataW H)} {before:List MemPlace} {tb:TypeId} (hl:laidOutB P=true) (htb:P.underlying tb=some .bool)
  (hW:DataW.Whole enc P f.params.toList s.vars false W args.toList ds gs before) (hvars:s.vars=[]) (hfn:s.fn H (ds++gs)={ results:=[.lit (.bool true)],args:=ds,vars:=[] })
  (hres:f.resultTypes=#[tb]) (hr:∀ t∈f.params.toList,P.readableRec t=true∧t<P.types.size) (hb:Ch (fun _=>False) W W'):s.post enc P f false true false false W args (.bool true) W':=by
 have hbel:Below W.heap.size W W':=hb.below (Nat.le_refl _) (fun _ _ h=>h)
 have hlt:∀ p∈before,p.block<W.heap.size:=fun p hp=>hW.lt p hp
 obtain⟨p,q,hA,hV,rfl,hz,hn⟩:=hW
 have hV':=hV
 rw[hvars] at hV'
 obtain⟨rfl,rfl⟩:=trodVars_none hV'
 refine⟨ds,_,_,[],p,[],⟨p,[],hA,hV,rfl,hz,hn⟩,?_,?_,?_,hbel.frame _,fun h=>by cases h⟩
 ·rw[hres,hfn]
  exact trodAll_mk1 (shut_bool htb _)
 ·rw[hfn]
  exact trodAll_again hl _ _ _ _ hr hA (fun x hx=>hbel.same (hlt x (by simp[hx]))) (fun x hx=>by simpa using hlt x (by simp[hx]))
 ·rw[hfn,hvars]
  rfl
end
section
variable {H:Type} {enc:TypeId×Value→H} {P:Program} {w:World} {base:Nat} {spare:Nat→Bool} {held:Bool}
theorem trodAll_five {t0 t1 t2 t3 t4:TypeId} {args:Array Value} {ds:List (DataW H)} {ps:List MemPlace} (h:DataW.TrodAll enc P w base spare held [t0,t1,t2,t3,t4] args.toList ds ps) :
  ∃ v0 v1 v2 v3 v4 d0 d1 d2 d3 d4 p0 p1 p2 p3 p4,args=#[v0,v1,v2,v3,v4]∧ds=[d0,d1,d2,d3,d4]∧ps=p0++p1++p2++p3++p4∧DataW.Trod enc P w base spare held t0 v0 d0 p0∧DataW.Trod enc P w base spare held t1 v1 d1 p1∧DataW.Trod enc P w base spare held t2 v2 d2 p2∧DataW.Trod enc P w base spare held t3 v3 d3 p3∧DataW.Trod enc P w base spare held t4 v4 d4 p4:=by
 obtain⟨v0,vs0,d0,ds0,p0,q0,e0,rfl,rfl,h0,r0⟩:=trodAll_cons h
 obtain⟨v1,vs1,d1,ds1,p1,q1,rfl,rfl,rfl,h1,r1⟩:=trodAll_cons r0
 obtain⟨v2,vs2,d2,ds2,p2,q2,rfl,rfl,rfl,h2,r2⟩:=trodAll_cons r1
 obtain⟨v3,vs3,d3,ds3,p3,q3,rfl,rfl,rfl,h3,r3⟩:=trodAll_cons r2
 obtain⟨v4,vs4,d4,ds4,p4,q4,rfl,rfl,rfl,h4,r4⟩:=trodAll_cons r3
 obtain⟨rfl,rfl,rfl⟩:=trodAll_nil r4
 exact⟨v0,v1,v2,v3,v4,d0,d1,d2,d3,d4,p0,p1,p2,p3,p4,by cases args; simp_all,rfl,by simp,h0,h1,h2,h3,h4⟩
end
theorem byte_of_wf {z:Int} (h:(Lit.int .u8 z).wf=true):0≤z∧z<256:=by
 simp[Lit.wf,IntKind.min,IntKind.max,IntKind.signed,IntKind.bits] at h
 omega
end
end Go.Proofs.YtoolcbaipinloaaDoor
namespace Go.Oct
section
open Go.ChangeShapes Go.WideShapes Go.ChangeAt Go.WideMaps Go.WideElems Go.RowKit Go.Deep
section
variable {H:Type} {enc:TypeId×Value→H} {P:Program}
theorem plain_add (b off j:Nat):(⟨b,off,none⟩:Addr).add j=⟨b,off+j,none⟩:=by unfold Addr.add; split <;> simp_all
theorem open_sl {W:World} {r:Reach} {base:Nat} {t e:TypeId} {k:IntKind} {v:Value} {d:DataW H} {p:List MemPlace} (ht:P.underlying t=some (.slice e)) (he:P.underlying e=some (.int k)) (hc:P.cellsOf e=1)
  (hval:Value.okWide P W r base t v) (h:DataW.Trod enc P W 0 (fun _=>true) true t v d p) :
  ∃ A n c xs,v=Value.slice A n c∧Sl W (fun _=>True) k A n xs∧n≤c∧c≤maxLen∧∀ x∈xs,(Lit.int k x).wf=true:=by
 obtain⟨a1,len,cap,rfl⟩:=okWide_slice ht hval
 obtain⟨fuel,hf⟩:=h
 rcases open_ints ht he hc hf with ⟨hcs,hx⟩ | ⟨a,len',cap',zs,hcs,_,hl,hm,hz,hx,hcell,hwz⟩
 ·simp[Value.cells] at hcs
  obtain⟨rfl,rfl,rfl⟩:=hcs
  exact⟨none,0,0,[],rfl,Sl.nil _ _ _ _,Nat.le_refl _,Nat.zero_le _,by simp⟩
 ·simp[Value.cells] at hcs
  obtain⟨rfl,rfl,rfl⟩:=hcs
  simp only[if_true] at hz
  refine⟨some a,len,cap,zs.take len,rfl,⟨by simp; omega,fun hn=>?_⟩,hl,hm,fun x hx=>hwz x (List.mem_of_mem_take hx)⟩
  obtain⟨ab,ao,spot⟩:=a
  have hspot:spot=none:=by simpa[Addr.add] using World.cell?_spot (hcell 0 (by omega))
  subst hspot
  refine⟨ab,ao,rfl,trivial,fun j u hu=>?_⟩
  obtain⟨hj,hju⟩:=List.getElem?_eq_some_iff.1 hu
  simp only[List.length_map,List.length_take] at hj
  have hjz:j<zs.length:=by omega
  have:=hcell j hjz
  rw[plain_add] at this
  rw[this,←hju]
  simp[List.getD,List.getElem?_eq_getElem hjz]
theorem byt_of_wf {xs:List Int} (h:∀ x∈xs,(Lit.int .u8 x).wf=true):Byt xs:=fun x hx=>by
 have:=h x hx
 simp[Lit.wf,IntKind.min,IntKind.max,IntKind.signed,IntKind.bits] at this
 omega
theorem open_sls {W:World} {r:Reach} {base:Nat} {t e q:TypeId} {v:Value} {d:DataW H} {p:List MemPlace} (ht:P.underlying t=some (.slice e)) (he:P.underlying e=some (.slice q)) (hq:P.underlying q=some (.int .u8))
  (ce:P.cellsOf e=1) (cq:P.cellsOf q=1) (hval:Value.okWide P W r base t v) (h:DataW.Trod enc P W 0 (fun _=>true) true t v d p) :
  ∃ A n c xss,v=Value.slice A n c∧Sls W (fun _=>True) A n xss∧n≤c∧c≤maxLen∧∀ xs∈xss,Byt xs:=by
 obtain⟨a1,len,cap,rfl⟩:=okWide_slice ht hval
 obtain⟨fuel,hf⟩:=h
 rcases open_int_rows ht he hq ce cq hf with ⟨hcs,hx⟩ | ⟨a,len',cap',A,L,C,Z,hcs,_,hl,hm,hx,hrows⟩
 ·simp[Value.cells] at hcs
  obtain⟨rfl,rfl,rfl⟩:=hcs
  exact⟨none,0,0,[],rfl,⟨[],Vs.nil _ _ _,Rows.nil_ _ _⟩,Nat.le_refl _,Nat.zero_le _,by simp⟩
 ·simp[Value.cells] at hcs
  obtain⟨rfl,rfl,rfl⟩:=hcs
  refine⟨some a,len,cap,(List.range len).map fun r=>(Z r).take (L r),rfl,⟨(List.range len).map fun r=>Value.slice (A r) (L r) (C r),⟨by simp,fun hn=>?_⟩,by simp,fun i u xs hu hxs=>?_⟩,hl,hm,fun xs hxs=>?_⟩
  ·obtain⟨ab,ao,spot⟩:=a
   have hspot:spot=none:=by simpa[Addr.add] using World.cell?_spot (hrows 0 (by omega)).1
   subst hspot
   refine⟨ab,ao,rfl,trivial,fun j u hu=>?_⟩
   obtain⟨hj,hju⟩:=List.getElem?_eq_some_iff.1 hu
   simp only[List.length_map,List.length_range] at hj
   have:=(hrows j (by omega)).1
   rw[plain_add] at this
   rw[this,←hju]
   simp
  ·obtain⟨hi,hiu⟩:=List.getElem?_eq_some_iff.1 hu
   simp only[List.length_map,List.length_range] at hi
   obtain⟨_,h1,h2,h3,h4,h5,h6⟩:=hrows i (by omega)
   have eu:u = .slice (A i) (L i) (C i):=by rw[←hiu]; simp
   have ex:xs=(Z i).take (L i):=by
    obtain⟨hi2,hix⟩:=List.getElem?_eq_some_iff.1 hxs
    rw[←hix]
    simp
   have el:xs.length=L i:=by rw[ex,List.length_take]; omega
   refine⟨A i,C i,by rw[eu,el],⟨by simp,fun hn=>?_⟩,by omega,h2⟩
   cases hA:A i with
   | none=>have:=h5 hA; omega
   | some a' =>
    obtain⟨_,hcell⟩:=h6 a' hA
    obtain⟨ab,ao,spot⟩:=a'
    have hspot:spot=none:=by simpa[Addr.add] using World.cell?_spot (hcell 0 (by omega))
    subst hspot
    refine⟨ab,ao,rfl,trivial,fun j u' hu'=>?_⟩
    obtain⟨hj,hju⟩:=List.getElem?_eq_some_iff.1 hu'
    simp only[List.length_map] at hj
    have hjz:j<(Z i).length:=by omega
    have:=hcell j (by omega)
    rw[plain_add] at this
    rw[this,←hju]
    simp[ex,List.getD,List.getElem?_eq_getElem hjz]
  ·obtain⟨i,hi,rfl⟩:=List.mem_map.1 hxs
   have hi':=List.mem_range.1 hi
   obtain⟨_,_,_,_,h4,_⟩:=hrows i (by omega)
   exact byt_of_wf fun x hx=>h4 x (List.mem_of_mem_take hx)
end
end
end Go.Oct
namespace Go.Proofs.YtoolcbaipinloaaDoor.O
section
open Go.RowKit Go.Oct
theorem u32_and1 (a:Nat) (ha:a<4294967296):bits .and .u32 (a:Int) 1=((a%2:Nat):Int):=by
 show IntKind.u32.wrap ((BitVec.ofInt 32 (a:Int) &&& BitVec.ofInt 32 ((1:Nat):Int)).toNat:Int)=_
 rw[BitVec.toNat_and,ofInt_u32 a ha,ofInt_u32 1 (by omega),IntKind.wrap_u32,Nat.and_one_is_mod]
 omega
theorem refsum_any (xs:List Int) (A:Option Addr) (n c:Nat) (w:World) (F:Nat→Prop) (hn:n≤100000000000000) (hz:Sl w F .u8 A n xs) (hby:Byt xs) :
  Calls Tryd.prog 58 #[.slice A n c] w fun e w'=>e = .returned (.int .u32 (sumN xs:Nat))∧w=w':=by
 have HB:=Lib.hid hby
 clear hby
 go_enter Tryd.func58,Tryd.ntmps58
 go_wp2
 go_loop [3,4] (fun s i=>∃ k:Nat,k≤n∧i = .int .i64 k∧∃ t:Nat,t<4294967296∧s = .int .u32 t∧t=sumFrom 4294967295 (xs.take k)) (fun _ i=>n-(intOf i).toNat)
 case atStart=>exact⟨0,Nat.zero_le _,rfl,_,by decide,rfl,rfl⟩
 case round =>
  obtain⟨k,hk,rfl,t,ht1,rfl,hrel⟩:=hrel
  have HR:=Lib.hid hrel
  clear hrel
  by_cases hlt:k<n
  ·obtain⟨b,off,x,rfl,_,ex,hc⟩:=hz.at_ hlt
   have hx:=HB.out.at_ ex.out
   obtain⟨x,rfl⟩:∃ y:Nat,x=(y:Int):=⟨x.toNat,by omega⟩
   obtain⟨y,ey⟩:∃ y,y=t ^^^ x:=⟨_,rfl⟩
   have h1:bits .xor .u32 (t:Int) (x:Int)=(y:Int):=by rw[u32_xor t x ht1 (by omega),ey]
   have hy:y<4294967296:=by rw[ey]; exact xor_lt32 ht1 (by omega)
   have hfin:bitsN 8 y=sumFrom 4294967295 (xs.take (k+1)):=by rw[ey,eight_bits,sumFrom_more _ ex.out,←HR.out]; simp
   have HF:=Lib.hid hfin
   clear hfin ey
   go_wp2
   go_loop [3,5] (fun s i=>∃ j:Nat,j≤8∧i = .int .i64 j∧∃ u:Nat,u<4294967296∧s = .int .u32 u∧u=bitsN j y) (fun _ i=>8-(intOf i).toNat)
   case atStart=>exact⟨0,Nat.zero_le _,rfl,_,hy,rfl,rfl⟩
   case round =>
    obtain⟨j,hj,rfl,u,hu,rfl,hrel⟩:=hrel
    have HU:=Lib.hid hrel
    clear hrel h1
    by_cases hlt8:j<8
    ·have hm:u%2=0∨u%2=1:=by omega
     rcases hm with hm | hm
     ·have h1:bits .and .u32 (u:Int) 1=0:=by rw[u32_and1 u hu,hm]; rfl
      have hst:u/2=bitsN (j+1) y:=by
       rw[bitsN_more,←HU.out]
       unfold bitStep
       rw[if_neg (by omega)]
      have HS:=Lib.hid hst
      clear hst hm
      go_wp2
      exact⟨⟨j+1,by omega,by go_num,u/2,by omega,by go_num,HS.out⟩,by simp[intOf]; omega⟩
     ·have h1:bits .and .u32 (u:Int) 1=1:=by rw[u32_and1 u hu,hm]; rfl
      obtain⟨z,ez⟩:∃ z,z=(u/2) ^^^ 3988292384:=⟨_,rfl⟩
      have hz1:z<4294967296:=by rw[ez]; exact xor_lt32 (by omega) (by omega)
      have h2:bits .xor .u32 ((u:Int)/2) 3988292384=(z:Int):=by
       rw[ez,←u32_xor (u/2) 3988292384 (by omega) (by omega)]
       simp
      have hst:z=bitsN (j+1) y:=by
       rw[bitsN_more,←HU.out,ez]
       unfold bitStep
       rw[if_pos hm]
      have HS:=Lib.hid hst
      clear hst hm ez
      go_wp2
      exact⟨⟨j+1,by omega,by go_num,z,hz1,rfl,HS.out⟩,by simp[intOf]; omega⟩
    ·obtain rfl:j=8:=by omega
     have HU2:Hid (u=sumFrom 4294967295 (xs.take (k+1))):=HU.out.trans HF.out
     go_wp2
     go_round
     case rel=>exact⟨k+1,by omega,by go_num,u,hu,rfl,HU2.out⟩
     case measure=>simp[intOf]; omega
  ·obtain rfl:k=n:=by omega
   go_wp2
   go_ret
   refine⟨?_,rfl⟩
   show Ending.returned (.int .u32 (bits .xor .u32 IntKind.u32.max (t:Int)))=_
   rw[not_u32 t ht1]
   have hs:=HR.out
   rw[List.take_of_length_le (by rw[hz.len]; omega)] at hs
   unfold sumN
   rw[←hs]
end
section
open Go.RowKit Go.Oct
theorem Tb:Elem Tryd.prog 32 5 (.int .u8 0) 1:=⟨Tryd.underlying32,by kernel_rfl,rfl⟩
end
section
open Go.RowKit Go.Oct
end
section
open Go.RowKit Go.Oct
def Fresh (w:World) (v:Value) (xs:List Int) (w':World):Prop :=
 w'.ownsRow 0 5 1 v xs.length (xs.map (Value.int .u8))∧(∀ g,v.ownBlock=some g→w.heap.size≤g)∧Ch (fun _=>False) w w'
theorem Fresh.app {w wr w1:World} {m:Nat} {v v':Value} {ys zs:List Int} (h:Fresh w v ys wr) (hg:wr.grownBy w1 v.ownBlock)
  (ho:w1.ownsRow 0 5 1 v' (ys.length+m) (ys.map (Value.int .u8)++zs.map (Value.int .u8))) (hb:v'.ownBlock=v.ownBlock∨v'.ownBlock=some wr.heap.size):Fresh w v' (ys++zs) w1:=by
 have hl:m=zs.length:=by
  have:=ho.1
  simp at this
  omega
 subst hl
 refine⟨by rw[List.map_append,List.length_append]; exact ho,fun g hgg=>?_,h.2.2.grown hg fun k hk => .inr (h.2.1 k hk)⟩
 have hsz:=h.2.2.size
 rcases hb with hb | hb
 ·exact h.2.1 g (by rw[←hb]; exact hgg)
 ·rw[hb] at hgg
  injection hgg with hgg
  omega
theorem join_any (xss:List (List Int)) (A:Option Addr) (n c:Nat) (w:World) (F:Nat→Prop) (hn:n≤1000000000)
  (hz:Sls w F A n xss) (hb:(cat xss).length≤100000000000000) :
  Calls Tryd.prog 80 #[.slice A n c] w fun e w'=>∃ v,e = .returned v∧Fresh w v (cat xss) w':=by
 go_enter Tryd.func80,Tryd.ntmps80
 go_wp2
 go_loop [3,11] (fun t i=>∃ k:Nat,k≤n∧i = .int .i64 k∧t = .int .i64 ((cat (xss.take k)).length:Nat)) (fun _ i=>n-(intOf i).toNat)
 case atStart=>exact⟨0,Nat.zero_le _,rfl,rfl⟩
 case round =>
  obtain⟨k,hk,rfl,rfl⟩:=hrel
  by_cases hlt:k<n
  ·obtain⟨b,off,A',c',row,rfl,hFb,ex,hc,hsl,_,hcm⟩:=hz.at_ hlt
   have hroom:=cat_room ex.out
   have hmore:=cat_more ex.out
   have HM:=Lib.hid hmore
   clear hmore
   go_wp2
   go_round
   case rel=>exact⟨k+1,by omega,by go_num,by rw[HM.out,List.length_append]; go_num⟩
   case measure=>simp[intOf]; omega
  ·obtain rfl:k=n:=by omega
   have hall:xss.take k=xss:=List.take_of_length_le (by rw[hz.len]; omega)
   rw[hall]
   clear hall hlt hk
   have hmk:=run_mk Tb (cat xss).length (by omega) (by omega)
   go_wp2
   clear hmk
   go_loopw [6,24] (fun v i wr=>∃ j:Nat,j≤k∧i = .int .i64 j∧Fresh w v (cat (xss.take j)) wr) (fun _ i _=>k-(intOf i).toNat)
   case atStart=>exact⟨0,Nat.zero_le _,rfl,World.ownsRow_made w _ _ (Nat.zero_le _) (by unfold maxLen; omega) (by simp[madeCells]),fun g hg=>by simp[Value.ownBlock] at hg; omega,(Ch.refl _ _).alloc _⟩
   case round =>
    obtain⟨j,hj,rfl,hfr⟩:=hrel
    by_cases hlt:j<k
    ·obtain⟨A',c',rfl,_,_⟩:=own_shape hfr.1
     obtain⟨b,off,A',c',row,rfl,hFb,ex,hcw,hsl,_,hcm⟩:=hz.at_ hlt
     have hc:=hfr.2.2.cell (fun h=>h) hcw
     have hsl1:=hsl.ch hfr.2.2 (fun _ _ _ h=>h)
     have hroom:=cat_room ex.out
     clear hcw
     go_wp2_with (at_builtin; refine wp_app rfl (.tmp 28) (.tmp 29) Tb rfl rfl hfr.1 rfl hsl1 ?c1 ?c2 ?c3 ?_)
     case c1=>exact ints_cells _ _
     case c2=>omega
     case c3=>omega
     intro v'' w1 hown1 hg1 hb1
     have hfr1:=hfr.app hg1 hown1 hb1
     rw[←cat_more ex.out] at hfr1
     clear hown1 hg1 hb1
     go_wp2
     go_roundw
     case rel=>exact⟨j+1,by omega,by go_num,hfr1⟩
     case measure=>simp[intOf]; omega
    ·obtain rfl:j=k:=by omega
     rw[List.take_of_length_le (by rw[hz.len]; omega)] at hfr
     go_wp2
     go_ret
     exact⟨_,rfl,hfr⟩
end
end Go.Proofs.YtoolcbaipinloaaDoor.O
