/- Lemmas and contracts of this proof. Conditions: said at each. -/
import Derived.Test.YtambgjpfoceieaaGreatDoorGOcMath
import Derived.Laws.AppendOwnNone
import Derived.Deep.Draws
import Derived.Maps.AppendAt
import Derived.Test.YtambgjpfoceieaaGreatDoorProg
import Derived.Lib.Hide
import Derived.Handy
import Derived.Laws.BitsAllLaws
import Derived.Laws.BitsLemmas
import Derived.ProofKit
import Derived.OpenShut
import Derived.ChangeSlices
import Derived.Deep.Matrix
set_option maxHeartbeats 1000000
set_option maxRecDepth 100000
namespace Go.Oct
section
open Go.RowKit
structure Ch (S:Nat→Prop) (w w':World):Prop where
 os:w'.os=w.os
 tape:w'.tape=w.tape
 output:w'.output=w.output
 size:w.heap.size≤w'.heap.size
 block:∀ k,k<w.heap.size→¬ S k→w'.heap[k]? = w.heap[k]?
section
variable {S T:Nat→Prop} {w w' a b c:World}
theorem Ch.refl (S:Nat→Prop) (w:World):Ch S w w:=⟨rfl,rfl,rfl,Nat.le_refl _,fun _ _ _=>rfl⟩
theorem Ch.trans (h:Ch S a b) (k:Ch T b c) (hT:∀ i,i<a.heap.size→T i→S i):Ch S a c :=
 ⟨k.os.trans h.os,k.tape.trans h.tape,k.output.trans h.output,Nat.le_trans h.size k.size,fun i hi hn=>(k.block i (Nat.lt_of_lt_of_le hi h.size) (fun ht=>hn (hT i hi ht))).trans (h.block i hi hn)⟩
theorem Ch.mono (h:Ch T a b) (hT:∀ i,i<a.heap.size→T i→S i):Ch S a b:=(Ch.refl S a).trans h hT
theorem Ch.drewN (h:Ch S a w) (n:Nat):Ch S a (w.drewN n):=⟨h.os,h.tape,h.output,h.size,h.block⟩
theorem Ch.drew (h:Ch S a w):Ch S a w.drew:=⟨h.os,h.tape,h.output,h.size,h.block⟩
theorem Ch.alloc (h:Ch S a w) (o:Obj):Ch S a (w.alloc o) :=
 ⟨h.os,h.tape,h.output,Nat.le_trans h.size (by simp),fun i hi hn=>(Below.heap_alloc w o i (Nat.lt_of_lt_of_le hi h.size)).trans (h.block i hi hn)⟩
theorem Ch.setCell (h:Ch S a w) {p:Addr} (hp:S p.block∨a.heap.size≤p.block) (u:Value):Ch S a (w.setCell p u) :=
 ⟨h.os,h.tape,h.output,by simpa[World.setCell] using h.size,fun i hi hn=>(Below.heap_setCell w p u i (by
  rintro rfl
  rcases hp with hp | hp
  ·exact hn hp
  ·omega)).trans (h.block i hi hn)⟩
theorem Ch.grown {row:Option Nat} (h:Ch S a w) (hg:w.grownBy w' row) (hr:∀ k,row=some k→S k∨a.heap.size≤k):Ch S a w' :=
 h.trans (T:=fun k=>row=some k) ⟨hg.os,hg.tape,hg.output,hg.size,fun k hk hn=>hg.block k hk (fun e=>hn e.symm)⟩ (fun i hi hT=>by
  rcases hr i hT with h1 | h1
  ·exact h1
  ·omega)
theorem Ch.below (h:Ch S a b) {B:Nat} (hB:B≤a.heap.size) (hS:∀ k,k<B→¬ S k):Below B a b:=⟨h.os,h.tape,h.output,h.size,fun k hk=>h.block k (by omega) (hS k hk)⟩
theorem lt_of_cell {p:Addr} {u:Value} (h:w.cell? p=some u):p.block<w.heap.size:=World.block_lt_of_cell? w p h
theorem Ch.cell (h:Ch S a b) {p:Addr} {u:Value} (hp:¬ S p.block) (hc:a.cell? p=some u):b.cell? p=some u :=
 (World.cell?_of_block (w:=a) (h.block p.block (lt_of_cell hc) hp)).trans hc
theorem Ch.frozen (h:Ch S a b) {p:Addr} (hp:¬ S p.block) (hl:p.block<a.heap.size):b.frozen? p=a.frozen? p:=World.frozen?_of_block (w:=a) (h.block p.block hl hp)
theorem Ch.own {base:Nat} {e:TypeId} {size n:Nat} {v:Value} {xs:List Value} (h:Ch S a b) (ho:a.ownsRow base e size v n xs) (hn:∀ g,v.ownBlock=some g→¬ S g):b.ownsRow base e size v n xs:=by
 refine⟨ho.1,?_⟩
 rcases ho.2 with h0 | ⟨g,cap,cur,rfl,hb,hg,rest⟩
 ·exact .inl h0
 ·exact .inr ⟨g,cap,cur,rfl,hb,by rw[h.block g (Array.getElem?_eq_some_iff.1 hg).1 (hn g rfl)]; exact hg,rest⟩
end
theorem own_shape {w:World} {base:Nat} {e:TypeId} {size n:Nat} {v:Value} {xs:List Value} (h:w.ownsRow base e size v n xs):∃ A c,v = .slice A n c∧n≤c∧c≤maxLen:=by
 rcases h.2 with ⟨rfl,rfl⟩ | ⟨g,cap,cur,rfl,_,_,h1,h2,_⟩
 ·exact⟨_,_,rfl,Nat.le_refl _,Nat.zero_le _⟩
 ·exact⟨_,_,rfl,h1,h2⟩
def Vs (w:World) (F:Nat→Prop) (A:Option Addr) (n:Nat) (us:List Value):Prop :=
 us.length=n∧(0<n→∃ b off,A=some ⟨b,off,none⟩∧F b∧∀ j u,us[j]? = some u→w.cell? ⟨b,off+j,none⟩=some u)
def Sl (w:World) (F:Nat→Prop) (K:IntKind) (A:Option Addr) (n:Nat) (xs:List Int):Prop:=Vs w F A n (xs.map (Value.int K))
section
variable {w w':World} {F G S:Nat→Prop} {K:IntKind} {A:Option Addr} {n:Nat} {xs:List Int} {us:List Value}
theorem Vs.nil (w:World) (F:Nat→Prop) (A:Option Addr):Vs w F A 0 []:=⟨rfl,fun h=>absurd h (by omega)⟩
theorem Vs.ch (h:Vs w F A n us) (hc:Ch S w w') (hF:∀ b,F b→b<w.heap.size→¬ S b):Vs w' F A n us :=
 ⟨h.1,fun hn=>by
  obtain⟨b,off,e,hb,hj⟩:=h.2 hn
  exact⟨b,off,e,hb,fun j u hu=>hc.cell (hF b hb (lt_of_cell (hj j u hu))) (hj j u hu)⟩⟩
theorem Vs.at_ (h:Vs w F A n us) {k:Nat} (hk:k<n):∃ b off u,A=some ⟨b,off,none⟩∧F b∧Hid (us[k]? = some u)∧w.cell? ⟨b,off+k,none⟩=some u:=by
 obtain⟨b,off,e,hb,hj⟩:=h.2 (by omega)
 have hl:k<us.length:=by have:=h.1; omega
 exact⟨b,off,us[k],e,hb,List.getElem?_eq_getElem hl,hj k _ (List.getElem?_eq_getElem hl)⟩
theorem Vs.lt (h:Vs w F A n us) (hn:0<n):∃ b off,A=some ⟨b,off,none⟩∧F b∧b<w.heap.size:=by
 obtain⟨b,off,u,e,hb,_,hc⟩:=h.at_ hn
 exact⟨b,off,e,hb,lt_of_cell hc⟩
theorem Vs.mono (h:Vs w F A n us) (hF:∀ b,b<w.heap.size→F b→G b):Vs w G A n us :=
 ⟨h.1,fun hn=>by
  obtain⟨b,off,e,hb,hlt⟩:=h.lt hn
  obtain⟨b',off',e',hb',hj⟩:=h.2 hn
  exact⟨b',off',e',hF b' (by rw[e] at e'; injection e' with e'; injection e' with e' _; omega) hb',hj⟩⟩
theorem Vs.of_own {base:Nat} {e:TypeId} {c:Nat} (h:w.ownsRow base e 1 (.slice A n c) n us):Vs w (fun b=>(Value.slice A n c).ownBlock=some b) A n us:=by
 have h1:us.length=n:=by simpa using h.1
 refine⟨h1,fun hn=>?_⟩
 rcases h.2 with ⟨_,h0⟩ | ⟨g,cap,cur,hv,hb,hg,_⟩
 ·omega
 ·injection hv with hA
  subst hA
  refine⟨g,0,rfl,rfl,fun j u hu=>?_⟩
  have:=h.cells (g:=g) rfl j u hu
  have hadd:(⟨g,0,none⟩:Addr).add j=⟨g,0+j,none⟩:=by unfold Addr.add; split <;> simp_all
  rw[hadd] at this
  exact this
theorem Vs.drop {b off k:Nat} (h:Vs w F (some ⟨b,off,none⟩) n us) (hk:k≤n):Vs w F (some ⟨b,off+k,none⟩) (n-k) (us.drop k) :=
 ⟨by rw[List.length_drop,h.1],fun hn=>by
  obtain⟨b',off',e,hb,hj⟩:=h.2 (by omega)
  injection e with e
  injection e with e1 e2
  subst e1 e2
  exact⟨b,off+k,rfl,hb,fun j u hu=>by
   rw[List.getElem?_drop] at hu
   rw[Nat.add_assoc]
   exact hj _ u hu⟩⟩
theorem Sl.drop {b off k:Nat} (h:Sl w F K (some ⟨b,off,none⟩) n xs) (hk:k≤n):Sl w F K (some ⟨b,off+k,none⟩) (n-k) (xs.drop k):=by
 unfold Sl
 rw[List.map_drop]
 exact Vs.drop h hk
theorem Vs.take {k:Nat} (h:Vs w F A n us) (hk:k≤n):Vs w F A k (us.take k) :=
 ⟨by rw[List.length_take,h.1]; omega,fun hn=>by
  obtain⟨b',off',e,hb,hj⟩:=h.2 (by omega)
  exact⟨b',off',e,hb,fun j u hu=>by
   rw[List.getElem?_take] at hu
   split at hu
   ·exact hj _ u hu
   ·cases hu⟩⟩
theorem Sl.take {k:Nat} (h:Sl w F K A n xs) (hk:k≤n):Sl w F K A k (xs.take k):=by
 unfold Sl
 rw[List.map_take]
 exact Vs.take h hk
theorem Sl.nil (w:World) (F:Nat→Prop) (K:IntKind) (A:Option Addr):Sl w F K A 0 []:=Vs.nil w F A
theorem Sl.len (h:Sl w F K A n xs):xs.length=n:=by simpa using h.1
theorem Sl.ch (h:Sl w F K A n xs) (hc:Ch S w w') (hF:∀ b,F b→b<w.heap.size→¬ S b):Sl w' F K A n xs:=Vs.ch h hc hF
theorem Sl.mono (h:Sl w F K A n xs) (hF:∀ b,b<w.heap.size→F b→G b):Sl w G K A n xs:=Vs.mono h hF
theorem Sl.drewN (h:Sl w F K A n xs) (k:Nat):Sl (w.drewN k) F K A n xs:=h
theorem Sl.alloc (h:Sl w F K A n xs) (o:Obj):Sl (w.alloc o) F K A n xs:=h.ch ((Ch.refl (fun _=>False) w).alloc o) (fun _ _ _ h=>h)
theorem Sl.at_ (h:Sl w F K A n xs) {k:Nat} (hk:k<n):∃ b off x,A=some ⟨b,off,none⟩∧F b∧Hid (xs[k]? = some x)∧w.cell? ⟨b,off+k,none⟩=some (.int K x):=by
 obtain⟨b,off,u,e,hb,hu,hc⟩:=Vs.at_ h hk
 have hu:=hu.out
 rw[List.getElem?_map] at hu
 cases hx:xs[k]? with
 | none=>rw[hx] at hu; cases hu
 | some x =>
  rw[hx] at hu
  simp only[Option.map_some,Option.some.injEq] at hu
  subst hu
  exact⟨b,off,x,e,hb,rfl,hc⟩
theorem Sl.of_own {base:Nat} {e:TypeId} {c:Nat} (h:w.ownsRow base e 1 (.slice A n c) n (xs.map (Value.int K))):Sl w (fun b=>(Value.slice A n c).ownBlock=some b) K A n xs:=Vs.of_own h
end
def Rows (w:World) (F:Nat→Prop) (us:List Value) (xss:List (List Int)):Prop :=
 us.length=xss.length∧∀ (i:Nat) (u:Value) (xs:List Int),us[i]? = some u→xss[i]? = some xs→∃ (A:Option Addr) (c:Nat),u=Value.slice A xs.length c∧Sl w F .u8 A xs.length xs∧xs.length≤c∧c≤maxLen
def Sls (w:World) (F:Nat→Prop) (A:Option Addr) (n:Nat) (xss:List (List Int)):Prop:=∃ us,Vs w F A n us∧Rows w F us xss
section
variable {w w':World} {F G S:Nat→Prop} {A:Option Addr} {n:Nat} {us:List Value} {xss:List (List Int)}
theorem Rows.ch (h:Rows w F us xss) (hc:Ch S w w') (hF:∀ b,F b→b<w.heap.size→¬ S b):Rows w' F us xss :=
 ⟨h.1,fun i u xs hu hx=>by
  obtain⟨A,c,e,hs,h1,h2⟩:=h.2 i u xs hu hx
  exact⟨A,c,e,hs.ch hc hF,h1,h2⟩⟩
theorem Rows.mono (h:Rows w F us xss) (hF:∀ b,b<w.heap.size→F b→G b):Rows w G us xss :=
 ⟨h.1,fun i u xs hu hx=>by
  obtain⟨A,c,e,hs,h1,h2⟩:=h.2 i u xs hu hx
  exact⟨A,c,e,hs.mono hF,h1,h2⟩⟩
theorem Sls.ch (h:Sls w F A n xss) (hc:Ch S w w') (hF:∀ b,F b→b<w.heap.size→¬ S b):Sls w' F A n xss:=by
 obtain⟨us,h1,h2⟩:=h
 exact⟨us,h1.ch hc hF,h2.ch hc hF⟩
theorem Sls.mono (h:Sls w F A n xss) (hF:∀ b,b<w.heap.size→F b→G b):Sls w G A n xss:=by
 obtain⟨us,h1,h2⟩:=h
 exact⟨us,h1.mono hF,h2.mono hF⟩
theorem Sls.len (h:Sls w F A n xss):xss.length=n:=by
 obtain⟨us,h1,h2⟩:=h
 rw[←h2.1,h1.1]
theorem Sls.at_ (h:Sls w F A n xss) {k:Nat} (hk:k<n):∃ b off A' c xs,A=some ⟨b,off,none⟩∧F b∧Hid (xss[k]? = some xs)∧w.cell? ⟨b,off+k,none⟩=some (.slice A' xs.length c)∧Sl w F .u8 A' xs.length xs∧xs.length≤c∧c≤maxLen:=by
 have hl:=h.len
 obtain⟨us,h1,h2⟩:=h
 obtain⟨b,off,u,e,hb,hu,hc⟩:=h1.at_ hk
 obtain⟨A',c,rfl,h3,h4,h5⟩:=h2.2 k u xss[k] hu.out (List.getElem?_eq_getElem (by omega))
 exact⟨b,off,A',c,xss[k],e,hb,List.getElem?_eq_getElem (by omega),hc,h3,h4,h5⟩
end
theorem Sls.one {w:World} {F G:Nat→Prop} {A:Option Addr} {c:Nat} {xs:List Int} (e:TypeId) (h:Sl w F .u8 A xs.length xs) (h1:xs.length≤c) (h2:c≤maxLen) (hG:∀ b,b<w.heap.size→F b→G b) (hG0:G w.heap.size) :
  Sls (w.alloc (.cells #[.slice A xs.length c] e)) G (some ⟨w.heap.size,0,none⟩) 1 [xs]:=by
 refine⟨[.slice A xs.length c],⟨rfl,fun _=>⟨w.heap.size,0,rfl,hG0,fun j v hv=>?_⟩⟩,rfl,fun i u ys hu hy=>?_⟩
 ·match j,hv with
  | 0,hv =>
   simp at hv
   subst hv
   rw[World.cell?_alloc_at _ _ _ _ rfl]
   rfl
 ·match i,hu,hy with
  | 0,hu,hy =>
   simp at hu hy
   subst hu hy
   exact⟨A,c,rfl,Vs.ch (Vs.mono h fun b hb hf=>hG b hb hf) ((Ch.refl (fun _=>False) w).alloc _) (fun _ _ _ h=>h),h1,h2⟩
structure Elem (P:Program) (t e:TypeId) (z:Value) (bytes:Nat):Prop where
 t:P.underlying t=some (.slice e)
 info:(P.info? e).map (fun i=>(i.zero,i.size,i.bytes))=some (some z,1,bytes)
 z:z.cells.size=1
section
variable {P:Program} {t e:TypeId} {z:Value} {bytes:Nat} {F:Nat→Prop}
theorem run_app (w:World) (ty:TypeId) (T:Elem P t e z bytes) {v:Value} {n:Nat} {xs:List Value} (hown:w.ownsRow 0 e 1 v n xs)
  {A:Option Addr} {m c:Nat} {news:List Value} (hr:Vs w F A m news) (h1:∀ u∈news,u.oneCell'=true) (hb:(n+m)*bytes≤140737488355328) (h63:n+m≤140737488355328) :
  ∃ v' w',(Builtin.append_ #[t,t] ty #[v, .slice A m c]).run P w = .ok v' w'∧w'.ownsRow 0 e 1 v' (n+m) (xs++news)∧w.grownBy w' v.ownBlock ∧
   (v'.ownBlock=v.ownBlock∨v'.ownBlock=some w.heap.size):=by
 obtain⟨i,hi,hz,hs,hby⟩:=info_parts T.info
 rcases A with _ | ad
 ·have hm:m=0:=by
   rcases Nat.eq_zero_or_pos m with h0 | h0
   ·exact h0
   ·obtain⟨_,_,e,_⟩:=hr.2 h0
    cases e
  subst hm
  obtain rfl:news=[]:=List.eq_nil_of_length_eq_zero hr.1
  refine⟨v,w,?_,by simpa using hown,⟨rfl,rfl,rfl,Nat.le_refl _,fun _ _ _=>rfl⟩, .inl rfl⟩
  rcases hown.2 with ⟨rfl,rfl⟩ | ⟨g,cap,cur,rfl,_,_,hnc,_⟩
  ·simp[Builtin.append_,run_underlying T.t,sizeOf,typeInfo,hi,Builtin.lenOf,Builtin.firstCells]
  ·simp[Builtin.append_,run_underlying T.t,sizeOf,typeInfo,hi,Builtin.lenOf,Builtin.firstCells,hnc,storeCells]
 ·have hcells:∀ j u,news[j]? = some u→w.cell? (ad.add j)=some u:=by
   intro j u hu
   rcases Nat.eq_zero_or_pos m with h0 | h0
   ·have hl:=hr.1
    obtain⟨hj,_⟩:=List.getElem?_eq_some_iff.1 hu
    omega
   ·obtain⟨b,off,h,_,hc⟩:=hr.2 h0
    injection h with h
    subst h
    have hadd:(⟨b,off,none⟩:Addr).add j=⟨b,off+j,none⟩:=by unfold Addr.add; split <;> simp_all
    rw[hadd]
    exact hc j u hu
  obtain⟨v',w',hrun,h2,h3,_,h5⟩:=run_append_own_at (P:=P) w 0 t ty e i z 1 bytes T.t hi hz hs hby T.z (by omega) v n xs hown ad m c news (by rw[hr.1]; omega) hcells h1 (by unfold maxLen; omega) hb (Nat.zero_le _)
  exact⟨v',w',hrun,h2,h3,h5⟩
theorem wp_app {w:World} {ops:Array Oper} {rest:List Oper} {o:Oper} {a:Act} {Q:Exit→Act→World→Prop} (hgd:o.guard=none) (s x:Operand) (T:Elem P t e z bytes)
  (ho:o.op = .call { callee := .builtin .append,args:=#[s,x],argTypes:=#[t,t] }) {v:Value} {n:Nat} {xs:List Value} (hs:a.eval s=v) (hown:w.ownsRow 0 e 1 v n xs)
  {A:Option Addr} {m c:Nat} {news:List Value} (hx:a.eval x = .slice A m c) (hr:Vs w F A m news) (h1:∀ u∈news,u.oneCell'=true) (hb:(n+m)*bytes≤140737488355328) (h63:n+m≤140737488355328)
  (h:∀ v' w',w'.ownsRow 0 e 1 v' (n+m) (xs++news)→w.grownBy w' v.ownBlock→(v'.ownBlock=v.ownBlock∨v'.ownBlock=some w.heap.size)→wpList P ops Q rest (a.put o.dst v') w'):wpList P ops Q (o::rest) a w :=
 wpList_plain hgd fun _ hK=>by
  obtain⟨v',w',hrun,h2,h3,h4⟩:=run_app (P:=P) w o.type T hown (c:=c) hr h1 hb h63
  unfold Oper.wp execOp
  simp only[ho,resolve,invoke,builtin,Sem.run_bind,Sem.run_pure,Result.andThen_ok,List.map_toArray,List.map_cons,List.map_nil,hs,hx,hrun]
  exact hK _ _ (h v' w' h2 h3 h4)
theorem run_mk (T:Elem P t e z bytes) (L:Nat) (hb:bytes*L≤281474976710656) (h63:L≤281474976710656) (w:World) :
  (Instr.makeSlice t (.int .i64 0) (.int .i64 (L:Int))).run P w = .ok (.slice (some ⟨w.heap.size,0,none⟩) 0 L) (w.alloc (.cells (madeCells z.cells L) e)):=by
 obtain⟨i,hi,hz,hs,hby⟩:=info_parts T.info
 have hb':(i.bytes:Int)*(L:Int)≤281474976710656:=by
  rw[hby]
  have h:((bytes*L:Nat):Int)≤281474976710656:=by omega
  rwa[Int.natCast_mul] at h
 have hr:=run_make (P:=P) w t e i z T.t hi hz .i64 .i64 0 L (by omega) (by omega) hb' (by omega)
 simp only[Int.toNat_natCast,hs,Nat.mul_one,Int.toNat_zero] at hr
 exact hr
theorem Vs.built (w:World) (e:TypeId) (us:List Value) (fr:Nat×Nat:=(0,0)):Vs (w.alloc (.cells us.toArray e fr)) (fun b=>b=w.heap.size) (some ⟨w.heap.size,0,none⟩) us.length us :=
 ⟨rfl,fun _=>⟨w.heap.size,0,rfl,rfl,fun j v hv=>by
  have h:(w.alloc (.cells us.toArray e fr)).heap[w.heap.size]? = some (.cells us.toArray e fr):=heap_alloc_new w _
  unfold World.cell?
  rw[h]
  simpa using hv⟩⟩
theorem Rows.nil_ (w:World) (F:Nat→Prop):Rows w F [] []:=⟨rfl,fun i u xs hu _=>by simp at hu⟩
theorem Rows.cons_ {w:World} {F:Nat→Prop} {A:Option Addr} {c:Nat} {xs:List Int} {us:List Value} {xss:List (List Int)} (h:Sl w F .u8 A xs.length xs) (h1:xs.length≤c) (h2:c≤maxLen) (h3:Rows w F us xss) :
  Rows w F (.slice A xs.length c::us) (xs::xss) :=
 ⟨by simp[h3.1],fun i u ys hu hy=>by
  match i,hu,hy with
  | 0,hu,hy =>
   simp at hu hy
   subst hu hy
   exact⟨A,c,rfl,h,h1,h2⟩
  | i+1,hu,hy=>exact h3.2 i u ys (by simpa using hu) (by simpa using hy)⟩
theorem Rows.app {w:World} {F:Nat→Prop} {us vs:List Value} {xss yss:List (List Int)} (h:Rows w F us xss) (k:Rows w F vs yss):Rows w F (us++vs) (xss++yss) :=
 ⟨by simp[h.1,k.1],fun i u xs hu hx=>by
  rcases Nat.lt_or_ge i us.length with hi | hi
  ·rw[List.getElem?_append_left hi] at hu
   rw[List.getElem?_append_left (by rw[←h.1]; exact hi)] at hx
   exact h.2 i u xs hu hx
  ·rw[List.getElem?_append_right hi] at hu
   rw[List.getElem?_append_right (by rw[←h.1]; exact hi),←h.1] at hx
   exact k.2 _ u xs hu hx⟩
theorem Vs.one (w:World) (e:TypeId) (u:Value):Vs (w.alloc (.cells #[u] e)) (fun b=>b=w.heap.size) (some ⟨w.heap.size,0,none⟩) 1 [u] :=
 ⟨rfl,fun _=>⟨w.heap.size,0,rfl,rfl,fun j v hv=>by
  match j,hv with
  | 0,hv =>
   simp at hv
   subst hv
   rw[World.cell?_alloc_at _ _ _ _ rfl]
   rfl⟩⟩
theorem ints_cells (K:IntKind) (xs:List Int):∀ u∈xs.map (Value.int K),u.oneCell'=true:=by
 intro u hu
 obtain⟨x,_,rfl⟩:=List.mem_map.1 hu
 rfl
end
end
end Go.Oct
namespace Go.Proofs.YtambgjpfoceieaaGreatDoor.O
section
open Go.RowKit Go.Oct
theorem ofInt_u32 (a:Nat) (ha:a<4294967296):(BitVec.ofInt 32 (a:Int)).toNat=a:=by
 rw[BitVec.ofInt_natCast,BitVec.toNat_ofNat]; exact Nat.mod_eq_of_lt (by omega)
theorem u32_xor (a b:Nat) (ha:a<4294967296) (hb:b<4294967296):bits .xor .u32 (a:Int) (b:Int)=((a ^^^ b:Nat):Int):=by
 have hx:a ^^^ b<4294967296:=xor_lt32 ha hb
 show IntKind.u32.wrap ((BitVec.ofInt 32 (a:Int) ^^^ BitVec.ofInt 32 (b:Int)).toNat:Int)=_
 rw[BitVec.toNat_xor,ofInt_u32 a ha,ofInt_u32 b hb,IntKind.wrap_u32]
 omega
theorem not_u32 (t:Nat) (ht:t<4294967296):bits .xor .u32 IntKind.u32.max (t:Int)=((4294967295-t:Nat):Int):=by
 have e:IntKind.u32.max=((4294967295:Nat):Int):=rfl
 rw[e,u32_xor 4294967295 t (by omega) ht]
 have h:4294967295 ^^^ t=4294967295-t:=by
  have h1:(BitVec.allOnes 32 ^^^ BitVec.ofNat 32 t).toNat=(~~~ BitVec.ofNat 32 t).toNat:=by rw[BitVec.allOnes_xor]
  rw[BitVec.toNat_xor,BitVec.toNat_not,BitVec.toNat_allOnes,BitVec.toNat_ofNat,Nat.mod_eq_of_lt (by omega)] at h1
  simpa using h1
 rw[h]
def Tab (w:World):Prop:=∀ i,i<16→w.cell? ⟨0,i,none⟩=some (.int .u32 (tabN.getD i 0:Nat))
def SumRel (xss:List (List Int)) (k:Nat) (row:List Int) (j:Nat) (t:Nat):Prop:=t=sumFrom (sumFrom 4294967295 (cat (xss.take k))) (row.take j)
theorem sum_step {xss:List (List Int)} {k j s u x:Nat} {row:List Int} (ex:row[j]? = some (x:Int)) (h:SumRel xss k row j s) (hu:u=stepN s x):SumRel xss k row (j+1) u:=by
 unfold SumRel at h ⊢
 rw[sumFrom_more _ ex,←h,hu]
 simp
theorem sum_row {xss:List (List Int)} {k s:Nat} {row:List Int} (ex:xss[k]? = some row) (h:SumRel xss k row row.length s):SumRel xss (k+1) [] 0 s:=by
 unfold SumRel at h ⊢
 rw[cat_more ex,sumFrom_app,h,List.take_of_length_le (Nat.le_refl _)]
 rfl
theorem sum_any (xss:List (List Int)) (A:Option Addr) (n c:Nat) (w:World) (F:Nat→Prop) (hn:n≤1000000000) (ht:Tab w)
  (hz:Sls w F A n xss) (hb:(cat xss).length≤100000000000000) (hby:∀ xs∈xss,Byt xs) :
  Calls Tryz.prog 172 #[.slice A n c] w fun e w'=>e = .returned (.int .u32 (sumN (cat xss):Nat))∧w=w':=by
 have HB:=Lib.hid hby
 have HT:=Lib.hid ht
 clear hby ht
 go_enter Tryz.func172,Tryz.ntmps172
 go_wp2
 go_loop [3,10] (fun s i=>∃ k:Nat,k≤n∧i = .int .i64 k∧∃ t:Nat,t<4294967296∧s = .int .u32 t∧SumRel xss k [] 0 t) (fun _ i=>n-(intOf i).toNat)
 case atStart=>exact⟨0,Nat.zero_le _,rfl,_,by decide,rfl,rfl⟩
 case round =>
  obtain⟨k,hk,rfl,t,ht1,rfl,hrel⟩:=hrel
  by_cases hlt:k<n
  ·obtain⟨b0,off0,A',c',row,rfl,hFb,ex,hc,hsl,_,hcm⟩:=hz.at_ hlt
   have hl:row.length≤100000000000000:=by have:=cat_room ex.out; omega
   have hbr:Byt row:=HB.out row (List.mem_of_getElem? ex.out)
   have HR:=Lib.hid hrel
   clear hrel
   go_wp2
   go_loop [3,16] (fun s i=>∃ j:Nat,j≤row.length∧i = .int .i64 j∧∃ t:Nat,t<4294967296∧s = .int .u32 t∧SumRel xss k row j t) (fun _ i=>row.length-(intOf i).toNat)
   case atStart=>exact⟨0,Nat.zero_le _,rfl,_,ht1,rfl,HR.out⟩
   case round =>
    obtain⟨j,hj,rfl,s,hs1,rfl,hrel⟩:=hrel
    have HS:=Lib.hid hrel
    clear hrel
    by_cases hlt:j<row.length
    ·obtain⟨b,off,x,rfl,_,ey,hcx⟩:=hsl.at_ hlt
     have hx:=hbr.at_ ey.out
     obtain⟨x,rfl⟩:∃ y:Nat,x=(y:Int):=⟨x.toNat,by omega⟩
     obtain⟨y,ey1⟩:∃ y,y=s ^^^ x:=⟨_,rfl⟩
     have h1:bits .xor .u32 (s:Int) (x:Int)=(y:Int):=by rw[u32_xor s x hs1 (by omega),ey1]
     have hy:y<4294967296:=by rw[ey1]; exact xor_lt32 hs1 (by omega)
     obtain⟨t1,et1⟩:∃ t1,t1=tabN.getD (y%16) 0:=⟨_,rfl⟩
     have hc1:w.cell? ⟨0,y%16,none⟩=some (.int .u32 (t1:Int)):=by rw[et1]; exact HT.out (y%16) (by omega)
     have ht1':t1<4294967296:=by rw[et1]; exact tab_lt _ (by omega)
     obtain⟨z,ez1⟩:∃ z,z=(y/16) ^^^ t1:=⟨_,rfl⟩
     have h2:bits .xor .u32 ((y:Int)/16) (t1:Int)=(z:Int):=by rw[ez1,←u32_xor (y/16) t1 (by omega) ht1']; simp
     have hz1:z<4294967296:=by rw[ez1]; exact xor_lt32 (by omega) ht1'
     obtain⟨t2,et2⟩:∃ t2,t2=tabN.getD (z%16) 0:=⟨_,rfl⟩
     have hc2:w.cell? ⟨0,z%16,none⟩=some (.int .u32 (t2:Int)):=by rw[et2]; exact HT.out (z%16) (by omega)
     have ht2':t2<4294967296:=by rw[et2]; exact tab_lt _ (by omega)
     obtain⟨u,eu⟩:∃ u,u=(z/16) ^^^ t2:=⟨_,rfl⟩
     have h3:bits .xor .u32 ((z:Int)/16) (t2:Int)=(u:Int):=by rw[eu,←u32_xor (z/16) t2 (by omega) ht2']; simp
     have hu:u<4294967296:=by rw[eu]; exact xor_lt32 (by omega) ht2'
     have hstep:u=stepN s x:=by rw[eu,et2,ez1,et1,ey1]; rfl
     have HST:=Lib.hid hstep
     clear hstep ey1 et1 ez1 et2 eu
     go_wp2
     exact⟨⟨j+1,by omega,by go_num,u,hu,rfl,sum_step ey.out HS.out HST.out⟩,by simp[intOf]; omega⟩
    ·obtain rfl:j=row.length:=by omega
     have HS2:Hid (SumRel xss (k+1) [] 0 s):=sum_row ex.out HS.out
     go_wp2
     go_round
     case rel=>exact⟨k+1,by omega,by go_num,s,hs1,rfl,HS2.out⟩
     case measure=>simp[intOf]; omega
  ·obtain rfl:k=n:=by omega
   have HR:=Lib.hid hrel
   clear hrel
   go_wp2
   go_ret
   refine⟨?_,rfl⟩
   show Ending.returned (.int .u32 (bits .xor .u32 IntKind.u32.max (t:Int)))=_
   rw[not_u32 t ht1]
   have hs:=HR.out
   unfold SumRel at hs
   rw[List.take_of_length_le (by rw[hz.len]; omega)] at hs
   have e:t=sumFrom 4294967295 (cat xss):=hs
   unfold sumN
   rw[←e]
end
end Go.Proofs.YtambgjpfoceieaaGreatDoor.O
namespace Go.Oct
section
open Go.ChangeShapes Go.WideShapes Go.ChangeAt Go.WideMaps Go.WideElems Go.RowKit Go.Deep
section
variable {H:Type} {enc:TypeId×Value→H} {P:Program}
theorem plain_add (b off j:Nat):(⟨b,off,none⟩:Addr).add j=⟨b,off+j,none⟩:=by unfold Addr.add; split <;> simp_all
theorem open_sl {W:World} {r:Reach} {base:Nat} {t e:TypeId} {k:IntKind} {v:Value} {d:DataW H} {p:List MemPlace} (ht:P.underlying t=some (.slice e)) (he:P.underlying e=some (.int k)) (hc:P.cellsOf e=1)
  (hval:Value.okWide P W r base t v) (h:DataW.Trod enc P W 0 (fun _=>true) true t v d p) :
  ∃ A n c xs,v=Value.slice A n c∧Sl W (fun _=>True) k A n xs∧n≤c∧c≤maxLen∧∀ x∈xs,(Lit.int k x).wf=true:=by
 obtain⟨a1,len,cap,rfl⟩:=okWide_slice ht hval
 obtain⟨fuel,hf⟩:=h
 rcases open_ints ht he hc hf with ⟨hcs,hx⟩ | ⟨a,len',cap',zs,hcs,_,hl,hm,hz,hx,hcell,hwz⟩
 ·simp[Value.cells] at hcs
  obtain⟨rfl,rfl,rfl⟩:=hcs
  exact⟨none,0,0,[],rfl,Sl.nil _ _ _ _,Nat.le_refl _,Nat.zero_le _,by simp⟩
 ·simp[Value.cells] at hcs
  obtain⟨rfl,rfl,rfl⟩:=hcs
  simp only[if_true] at hz
  refine⟨some a,len,cap,zs.take len,rfl,⟨by simp; omega,fun hn=>?_⟩,hl,hm,fun x hx=>hwz x (List.mem_of_mem_take hx)⟩
  obtain⟨ab,ao,spot⟩:=a
  have hspot:spot=none:=by simpa[Addr.add] using World.cell?_spot (hcell 0 (by omega))
  subst hspot
  refine⟨ab,ao,rfl,trivial,fun j u hu=>?_⟩
  obtain⟨hj,hju⟩:=List.getElem?_eq_some_iff.1 hu
  simp only[List.length_map,List.length_take] at hj
  have hjz:j<zs.length:=by omega
  have:=hcell j hjz
  rw[plain_add] at this
  rw[this,←hju]
  simp[List.getD,List.getElem?_eq_getElem hjz]
theorem byt_of_wf {xs:List Int} (h:∀ x∈xs,(Lit.int .u8 x).wf=true):Byt xs:=fun x hx=>by
 have:=h x hx
 simp[Lit.wf,IntKind.min,IntKind.max,IntKind.signed,IntKind.bits] at this
 omega
theorem open_sls {W:World} {r:Reach} {base:Nat} {t e q:TypeId} {v:Value} {d:DataW H} {p:List MemPlace} (ht:P.underlying t=some (.slice e)) (he:P.underlying e=some (.slice q)) (hq:P.underlying q=some (.int .u8))
  (ce:P.cellsOf e=1) (cq:P.cellsOf q=1) (hval:Value.okWide P W r base t v) (h:DataW.Trod enc P W 0 (fun _=>true) true t v d p) :
  ∃ A n c xss,v=Value.slice A n c∧Sls W (fun _=>True) A n xss∧n≤c∧c≤maxLen∧∀ xs∈xss,Byt xs:=by
 obtain⟨a1,len,cap,rfl⟩:=okWide_slice ht hval
 obtain⟨fuel,hf⟩:=h
 rcases open_int_rows ht he hq ce cq hf with ⟨hcs,hx⟩ | ⟨a,len',cap',A,L,C,Z,hcs,_,hl,hm,hx,hrows⟩
 ·simp[Value.cells] at hcs
  obtain⟨rfl,rfl,rfl⟩:=hcs
  exact⟨none,0,0,[],rfl,⟨[],Vs.nil _ _ _,Rows.nil_ _ _⟩,Nat.le_refl _,Nat.zero_le _,by simp⟩
 ·simp[Value.cells] at hcs
  obtain⟨rfl,rfl,rfl⟩:=hcs
  refine⟨some a,len,cap,(List.range len).map fun r=>(Z r).take (L r),rfl,⟨(List.range len).map fun r=>Value.slice (A r) (L r) (C r),⟨by simp,fun hn=>?_⟩,by simp,fun i u xs hu hxs=>?_⟩,hl,hm,fun xs hxs=>?_⟩
  ·obtain⟨ab,ao,spot⟩:=a
   have hspot:spot=none:=by simpa[Addr.add] using World.cell?_spot (hrows 0 (by omega)).1
   subst hspot
   refine⟨ab,ao,rfl,trivial,fun j u hu=>?_⟩
   obtain⟨hj,hju⟩:=List.getElem?_eq_some_iff.1 hu
   simp only[List.length_map,List.length_range] at hj
   have:=(hrows j (by omega)).1
   rw[plain_add] at this
   rw[this,←hju]
   simp
  ·obtain⟨hi,hiu⟩:=List.getElem?_eq_some_iff.1 hu
   simp only[List.length_map,List.length_range] at hi
   obtain⟨_,h1,h2,h3,h4,h5,h6⟩:=hrows i (by omega)
   have eu:u = .slice (A i) (L i) (C i):=by rw[←hiu]; simp
   have ex:xs=(Z i).take (L i):=by
    obtain⟨hi2,hix⟩:=List.getElem?_eq_some_iff.1 hxs
    rw[←hix]
    simp
   have el:xs.length=L i:=by rw[ex,List.length_take]; omega
   refine⟨A i,C i,by rw[eu,el],⟨by simp,fun hn=>?_⟩,by omega,h2⟩
   cases hA:A i with
   | none=>have:=h5 hA; omega
   | some a' =>
    obtain⟨_,hcell⟩:=h6 a' hA
    obtain⟨ab,ao,spot⟩:=a'
    have hspot:spot=none:=by simpa[Addr.add] using World.cell?_spot (hcell 0 (by omega))
    subst hspot
    refine⟨ab,ao,rfl,trivial,fun j u' hu'=>?_⟩
    obtain⟨hj,hju⟩:=List.getElem?_eq_some_iff.1 hu'
    simp only[List.length_map] at hj
    have hjz:j<(Z i).length:=by omega
    have:=hcell j (by omega)
    rw[plain_add] at this
    rw[this,←hju]
    simp[ex,List.getD,List.getElem?_eq_getElem hjz]
  ·obtain⟨i,hi,rfl⟩:=List.mem_map.1 hxs
   have hi':=List.mem_range.1 hi
   obtain⟨_,_,_,_,h4,_⟩:=hrows i (by omega)
   exact byt_of_wf fun x hx=>h4 x (List.mem_of_mem_take hx)
end
end
end Go.Oct
namespace Go.Proofs.YtambgjpfoceieaaGreatDoor.O
section
open Go.RowKit Go.Oct
theorem u32_and1 (a:Nat) (ha:a<4294967296):bits .and .u32 (a:Int) 1=((a%2:Nat):Int):=by
 show IntKind.u32.wrap ((BitVec.ofInt 32 (a:Int) &&& BitVec.ofInt 32 ((1:Nat):Int)).toNat:Int)=_
 rw[BitVec.toNat_and,ofInt_u32 a ha,ofInt_u32 1 (by omega),IntKind.wrap_u32,Nat.and_one_is_mod]
 omega
theorem refsum_any (xs:List Int) (A:Option Addr) (n c:Nat) (w:World) (F:Nat→Prop) (hn:n≤100000000000000) (hz:Sl w F .u8 A n xs) (hby:Byt xs) :
  Calls Tryz.prog 171 #[.slice A n c] w fun e w'=>e = .returned (.int .u32 (sumN xs:Nat))∧w=w':=by
 have HB:=Lib.hid hby
 clear hby
 go_enter Tryz.func171,Tryz.ntmps171
 go_wp2
 go_loop [3,4] (fun s i=>∃ k:Nat,k≤n∧i = .int .i64 k∧∃ t:Nat,t<4294967296∧s = .int .u32 t∧t=sumFrom 4294967295 (xs.take k)) (fun _ i=>n-(intOf i).toNat)
 case atStart=>exact⟨0,Nat.zero_le _,rfl,_,by decide,rfl,rfl⟩
 case round =>
  obtain⟨k,hk,rfl,t,ht1,rfl,hrel⟩:=hrel
  have HR:=Lib.hid hrel
  clear hrel
  by_cases hlt:k<n
  ·obtain⟨b,off,x,rfl,_,ex,hc⟩:=hz.at_ hlt
   have hx:=HB.out.at_ ex.out
   obtain⟨x,rfl⟩:∃ y:Nat,x=(y:Int):=⟨x.toNat,by omega⟩
   obtain⟨y,ey⟩:∃ y,y=t ^^^ x:=⟨_,rfl⟩
   have h1:bits .xor .u32 (t:Int) (x:Int)=(y:Int):=by rw[u32_xor t x ht1 (by omega),ey]
   have hy:y<4294967296:=by rw[ey]; exact xor_lt32 ht1 (by omega)
   have hfin:bitsN 8 y=sumFrom 4294967295 (xs.take (k+1)):=by rw[ey,eight_bits,sumFrom_more _ ex.out,←HR.out]; simp
   have HF:=Lib.hid hfin
   clear hfin ey
   go_wp2
   go_loop [3,5] (fun s i=>∃ j:Nat,j≤8∧i = .int .i64 j∧∃ u:Nat,u<4294967296∧s = .int .u32 u∧u=bitsN j y) (fun _ i=>8-(intOf i).toNat)
   case atStart=>exact⟨0,Nat.zero_le _,rfl,_,hy,rfl,rfl⟩
   case round =>
    obtain⟨j,hj,rfl,u,hu,rfl,hrel⟩:=hrel
    have HU:=Lib.hid hrel
    clear hrel h1
    by_cases hlt8:j<8
    ·have hm:u%2=0∨u%2=1:=by omega
     rcases hm with hm | hm
     ·have h1:bits .and .u32 (u:Int) 1=0:=by rw[u32_and1 u hu,hm]; rfl
      have hst:u/2=bitsN (j+1) y:=by
       rw[bitsN_more,←HU.out]
       unfold bitStep
       rw[if_neg (by omega)]
      have HS:=Lib.hid hst
      clear hst hm
      go_wp2
      exact⟨⟨j+1,by omega,by go_num,u/2,by omega,by go_num,HS.out⟩,by simp[intOf]; omega⟩
     ·have h1:bits .and .u32 (u:Int) 1=1:=by rw[u32_and1 u hu,hm]; rfl
      obtain⟨z,ez⟩:∃ z,z=(u/2) ^^^ 3988292384:=⟨_,rfl⟩
      have hz1:z<4294967296:=by rw[ez]; exact xor_lt32 (by omega) (by omega)
      have h2:bits .xor .u32 ((u:Int)/2) 3988292384=(z:Int):=by
       rw[ez,←u32_xor (u/2) 3988292384 (by omega) (by omega)]
       simp
      have hst:z=bitsN (j+1) y:=by
       rw[bitsN_more,←HU.out,ez]
       unfold bitStep
       rw[if_pos hm]
      have HS:=Lib.hid hst
      clear hst hm ez
      go_wp2
      exact⟨⟨j+1,by omega,by go_num,z,hz1,rfl,HS.out⟩,by simp[intOf]; omega⟩
    ·obtain rfl:j=8:=by omega
     have HU2:Hid (u=sumFrom 4294967295 (xs.take (k+1))):=HU.out.trans HF.out
     go_wp2
     go_round
     case rel=>exact⟨k+1,by omega,by go_num,u,hu,rfl,HU2.out⟩
     case measure=>simp[intOf]; omega
  ·obtain rfl:k=n:=by omega
   go_wp2
   go_ret
   refine⟨?_,rfl⟩
   show Ending.returned (.int .u32 (bits .xor .u32 IntKind.u32.max (t:Int)))=_
   rw[not_u32 t ht1]
   have hs:=HR.out
   rw[List.take_of_length_le (by rw[hz.len]; omega)] at hs
   unfold sumN
   rw[←hs]
end
section
open Go.RowKit Go.Oct
def Wr (w:World) (bw:Nat) (v:Value) (xs:List Int):Prop :=
 w.heap[bw]? = some (.cells #[v] 145 (0,0))∧w.ownsRow 0 5 1 v xs.length (xs.map (Value.int .u8))
def WS (bw:Nat) (v:Value) (k:Nat):Prop:=k=bw∨v.ownBlock=some k
def Newer (w:World) (v v':Value):Prop:=∀ g,v'.ownBlock=some g→v.ownBlock=some g∨w.heap.size≤g
def NumsRel (w:World) (bw:Nat) (v:Value) (xs zs:List Int) (k:Nat) (wr:World):Prop :=
 ∃ v',Wr wr bw v' (xs++(zs.take k).flatMap encI)∧Ch (WS bw v) w wr∧Newer w v v'
def NumsIn (w:World) (bw:Nat) (v:Value) (xs zs:List Int) (k:Nat) (z:Int) (m:Nat) (wr:World):Prop :=
 ∃ v' pre,pre++encN m=encI z∧Wr wr bw v' (xs++(zs.take k).flatMap encI++pre)∧Ch (WS bw v) w wr∧Newer w v v'
theorem Wr.cell {w:World} {bw:Nat} {v:Value} {xs:List Int} (h:Wr w bw v xs):w.cell? ⟨bw,0,none⟩=some v:=by simp[World.cell?,h.1]
theorem Wr.frozen {w:World} {bw:Nat} {v:Value} {xs:List Int} (h:Wr w bw v xs):w.frozen? ⟨bw,0,none⟩=false:=by simp[World.frozen?,h.1]
theorem Tb:Elem Tryz.prog 26 5 (.int .u8 0) 1:=⟨Tryz.underlying26,by kernel_rfl,rfl⟩
theorem Wr.lt {w:World} {bw:Nat} {v:Value} {xs:List Int} (h:Wr w bw v xs):bw<w.heap.size:=(Array.getElem?_eq_some_iff.1 h.1).1
theorem Wr.ne {w:World} {bw:Nat} {v:Value} {xs:List Int} (h:Wr w bw v xs):v.ownBlock≠some bw:=by
 rcases h.2.2 with ⟨rfl,_⟩ | ⟨g,cap,cur,rfl,_,hg,_⟩
 ·simp[Value.ownBlock]
 ·intro e
  simp only[Value.ownBlock,Option.some.injEq] at e
  subst e
  rw[h.1] at hg
  cases hg
theorem Wr.row_lt {w:World} {bw:Nat} {v:Value} {xs:List Int} (h:Wr w bw v xs) {g:Nat} (hg:v.ownBlock=some g):g<w.heap.size:=(h.2.lt g hg).2
theorem Wr.ch {w w':World} {S:Nat→Prop} {bw:Nat} {v:Value} {xs:List Int} (h:Wr w bw v xs) (hc:Ch S w w') (hS:∀ b,WS bw v b→¬ S b):Wr w' bw v xs :=
 ⟨(hc.block bw h.lt (hS bw (.inl rfl))).trans h.1,hc.own h.2 fun g hg=>hS g (.inr hg)⟩
theorem Newer.refl (w:World) (v:Value):Newer w v v:=fun _ h => .inl h
theorem Newer.trans {w w1:World} {v v1 v2:Value} (h:Newer w v v1) (k:Newer w1 v1 v2) (hs:w.heap.size≤w1.heap.size):Newer w v v2:=fun g hg=>by
 rcases k g hg with h1 | h1
 ·exact h g h1
 ·exact .inr (by omega)
theorem NumsRel.ch {w wr:World} {bw k:Nat} {v:Value} {xs zs:List Int} (h:NumsRel w bw v xs zs k wr):Ch (WS bw v) w wr:=by
 obtain⟨_,_,h,_⟩:=h
 exact h
theorem WS.of {w:World} {bw:Nat} {v v':Value} (h:Newer w v v'):∀ i,i<w.heap.size→WS bw v' i→WS bw v i:=fun i hi hs=>by
 rcases hs with rfl | hs
 ·exact .inl rfl
 ·rcases h i hs with h1 | h1
  ·exact .inr h1
  ·omega
theorem wr_app {wr w0 w1:World} {bw m:Nat} {v v':Value} {ys zs:List Int} (hw:Wr wr bw v ys) (h0:Ch (fun _=>False) wr w0) (hg:w0.grownBy w1 v.ownBlock)
  (ho:w1.ownsRow 0 5 1 v' (ys.length+m) (ys.map (Value.int .u8)++zs.map (Value.int .u8))) (hb:v'.ownBlock=v.ownBlock∨v'.ownBlock=some w0.heap.size) :
  w1.cell? ⟨bw,0,none⟩=some v∧w1.frozen? ⟨bw,0,none⟩=false ∧
  Wr (w1.setCell ⟨bw,0,none⟩ v') bw v' (ys++zs)∧Ch (WS bw v) wr (w1.setCell ⟨bw,0,none⟩ v')∧Newer wr v v':=by
 have hlt:=hw.lt
 have hsz:=h0.size
 have hblk:w1.heap[bw]? = some (.cells #[v] 145 (0,0)):=by
  rw[hg.block bw (by omega) (fun e=>hw.ne e.symm),h0.block bw hlt (fun h=>h)]
  exact hw.1
 have hne:v'.ownBlock≠some bw:=by
  rcases hb with hb | hb
  ·rw[hb]; exact hw.ne
  ·rw[hb]; intro e; injection e with e; omega
 have hl:m=zs.length:=by
  have:=ho.1
  simp at this
  omega
 subst hl
 refine⟨by simp[World.cell?,hblk],by simp[World.frozen?,hblk],⟨?_,?_⟩,?_,?_⟩
 ·simp[World.setCell,Array.getElem?_modify,hblk]
 ·rw[List.map_append,List.length_append]
  exact ((Ch.refl (fun k=>k=bw) w1).setCell (p:=⟨bw,0,none⟩) (.inl rfl) v').own ho fun g hg e=>hne (by rw[hg,e])
 ·refine (((h0.mono (S:=WS bw v) fun _ _ h=>h.elim).grown hg fun k hk => .inl (.inr hk))).setCell (.inl (.inl rfl)) _
 ·intro g hgg
  rcases hb with hb | hb
  ·exact .inl (by rw[←hb]; exact hgg)
  ·right
   rw[hb] at hgg
   injection hgg with hgg
   omega
theorem nums_room {xs zs ys pre:List Int} {k m n:Nat} {z:Int} (EY:ys=xs++(zs.take k).flatMap encI++pre) (epre:pre++encN m=encI z) (hk:k<n):ys.length+1≤xs.length+9*n:=by
 have h1:=flat_len zs k
 have h2:(encI z).length≤9:=encI_len z
 have h3:=encN_pos m
 rw[←epre,List.length_append] at h2
 subst EY
 simp only[List.length_append]
 omega
theorem nums_step {w wr W':World} {bw k m:Nat} {v v' v2:Value} {xs zs ys pre:List Int} {z:Int} (EY:ys=xs++(zs.take k).flatMap encI++pre) (epre:pre++encN m=encI z) (hbig:128≤m)
  (hch:Ch (WS bw v) w wr) (hnew:Newer w v v') (k3:Wr W' bw v2 (ys++[(m:Int)%128+128])) (k4:Ch (WS bw v') wr W') (k5:Newer wr v' v2):NumsIn w bw v xs zs k z (m/128) W':=by
 refine⟨v2,pre++[(m:Int)%128+128],?_,?_,hch.trans k4 (WS.of hnew),hnew.trans k5 hch.size⟩
 ·rw[←epre,encN_big hbig]
  simp
 ·rw[EY] at k3
  simpa using k3
theorem nums_done {w wr W':World} {bw k m:Nat} {v v' v2:Value} {xs zs ys pre:List Int} {z:Int} (EY:ys=xs++(zs.take k).flatMap encI++pre) (epre:pre++encN m=encI z) (hs:m<128) (ez:zs[k]? = some z)
  (hch:Ch (WS bw v) w wr) (hnew:Newer w v v') (k3:Wr W' bw v2 (ys++[(m:Int)])) (k4:Ch (WS bw v') wr W') (k5:Newer wr v' v2):NumsRel w bw v xs zs (k+1) W':=by
 refine⟨v2,?_,hch.trans k4 (WS.of hnew),hnew.trans k5 hch.size⟩
 rw[take_more ez,List.flatMap_append,List.flatMap_cons,List.flatMap_nil,List.append_nil,←epre,encN_small hs]
 rw[EY] at k3
 simpa using k3
theorem nums_start {w wo:World} {bw k m:Nat} {v:Value} {xs zs:List Int} {z:Int} (h:NumsRel w bw v xs zs k wo) (hm:m=clampI z):m≤top62∧NumsIn w bw v xs zs k z m wo:=by
 obtain⟨v',h1,h2,h3⟩:=h
 subst hm
 exact⟨clampI_le z,v',[],rfl,by simpa using h1,h2,h3⟩
theorem Int.cast_of {m:Int} (h:0≤m):∃ k:Nat,m=(k:Int):=⟨m.toNat,by omega⟩
theorem nums_any (bw:Nat) (v:Value) (xs zs:List Int) (A:Option Addr) (n c:Nat) (w:World) (F:Nat→Prop) (hn:n≤1000000000)
  (hw:Wr w bw v xs) (hz:Sl w F .i64 A n zs) (hF:∀ b,F b→¬ WS bw v b) (hb:xs.length+9*n≤100000000000000) :
  Calls Tryz.prog 103 #[.pointer (some ⟨bw,0,none⟩), .slice A n c] w fun e w'=>e = .returned (.tuple #[])∧NumsRel w bw v xs zs n w':=by
 go_enter Tryz.func103,Tryz.ntmps103
 go_wp2
 go_loopw [10] (fun i wr=>∃ k:Nat,k≤n∧i = .int .i64 k∧NumsRel w bw v xs zs k wr) (fun i _=>n-(intOf i).toNat)
 case atStart=>exact⟨0,Nat.zero_le _,rfl,v,by simpa using hw,Ch.refl _ _,Newer.refl _ _⟩
 case round =>
  obtain⟨k,hk,rfl,hr⟩:=hrel
  by_cases hlt:k<n
  ·have hzr:Sl wr F .i64 A n zs:=hz.ch hr.ch fun b hb _=>hF b hb
   obtain⟨b,off,z,rfl,_,ez,hc⟩:=hzr.at_ hlt
   obtain⟨wo,rfl⟩:∃ wo:World,wo=wr:=⟨_,rfl⟩
   have hm:z<0∨4611686018427387904<z∨(0≤z∧z≤4611686018427387904):=by omega
   rcases hm with hm | hm | ⟨hm,hm1⟩
   ·have H0:Hid (∃ m:Nat,m≤top62∧Value.int .i64 0 = .int .i64 m∧NumsIn w bw v xs zs k z m wo):=⟨0,(nums_start hr (clampI_neg hm).symm).1,rfl,(nums_start hr (clampI_neg hm).symm).2⟩
    go_wp2
    clear hm
    go_loopw [5] (fun i wr=>∃ m:Nat,m≤top62∧i = .int .i64 m∧NumsIn w bw v xs zs k z m wr) (fun i _=>(intOf i).toNat)
    case atStart=>exact H0.out
    case round =>
     obtain⟨m,hm62,rfl,v',pre,epre,hw',hch,hnew⟩:=hrel
     obtain⟨ys,eys⟩:∃ ys,ys=xs++(zs.take k).flatMap encI++pre:=⟨_,rfl⟩
     rw[←eys] at hw'
     have hlen:=nums_room eys epre hlt
     have EY:=Lib.hid eys
     clear eys
     have hc1:=hw'.cell
     have hc2:=hw'.frozen
     obtain⟨A',c',rfl,_,_⟩:=own_shape hw'.2
     by_cases hbig:128≤m
     ·go_wp2_with (at_builtin; refine wp_app rfl (.tmp 23) (.tmp 28) Tb rfl rfl (hw'.2.alloc _) rfl (Vs.one _ _ _) ?c1 ?c2 ?c3 ?_)
      case c1=>intro u hu; simp at hu; subst hu; rfl
      case c2=>omega
      case c3=>omega
      intro v'' w1 hown1 hg1 hb1
      obtain⟨A2,c2,rfl,_,_⟩:=own_shape hown1
      obtain⟨k1,k2,k3,k4,k5⟩:=wr_app (zs:=[(m:Int)%128+128]) hw' ((Ch.refl _ _).alloc _) hg1 hown1 (by simpa using hb1)
      clear hc1 hc2
      go_wp2
      exact⟨⟨m/128,by omega,rfl,nums_step EY.out epre hbig hch hnew k3 k4 k5⟩,by simp[intOf]; omega⟩
     ·have hbig':m<128:=by omega
      clear hbig
      go_wp2_with (at_builtin; refine wp_app rfl (.tmp 38) (.tmp 41) Tb rfl rfl (hw'.2.alloc _) rfl (Vs.one _ _ _) ?c1 ?c2 ?c3 ?_)
      case c1=>intro u hu; simp at hu; subst hu; rfl
      case c2=>omega
      case c3=>omega
      intro v'' w1 hown1 hg1 hb1
      obtain⟨A2,c2,rfl,_,_⟩:=own_shape hown1
      obtain⟨k1,k2,k3,k4,k5⟩:=wr_app (zs:=[(m:Int)]) hw' ((Ch.refl _ _).alloc _) hg1 hown1 (by simpa using hb1)
      clear hc1 hc2
      go_wp2
      go_roundw
      case rel=>exact⟨k+1,by omega,by go_num,nums_done EY.out epre hbig' ez.out hch hnew k3 k4 k5⟩
      case measure=>simp[intOf]; omega
   ·have H0:Hid (∃ m:Nat,m≤top62∧Value.int .i64 4611686018427387904 = .int .i64 m∧NumsIn w bw v xs zs k z m wo):=⟨top62,(nums_start hr (clampI_top hm).symm).1,rfl,(nums_start hr (clampI_top hm).symm).2⟩
    go_wp2
    clear hm
    go_loopw [5] (fun i wr=>∃ m:Nat,m≤top62∧i = .int .i64 m∧NumsIn w bw v xs zs k z m wr) (fun i _=>(intOf i).toNat)
    case atStart=>exact H0.out
    case round =>
     obtain⟨m,hm62,rfl,v',pre,epre,hw',hch,hnew⟩:=hrel
     obtain⟨ys,eys⟩:∃ ys,ys=xs++(zs.take k).flatMap encI++pre:=⟨_,rfl⟩
     rw[←eys] at hw'
     have hlen:=nums_room eys epre hlt
     have EY:=Lib.hid eys
     clear eys
     have hc1:=hw'.cell
     have hc2:=hw'.frozen
     obtain⟨A',c',rfl,_,_⟩:=own_shape hw'.2
     by_cases hbig:128≤m
     ·go_wp2_with (at_builtin; refine wp_app rfl (.tmp 23) (.tmp 28) Tb rfl rfl (hw'.2.alloc _) rfl (Vs.one _ _ _) ?c1 ?c2 ?c3 ?_)
      case c1=>intro u hu; simp at hu; subst hu; rfl
      case c2=>omega
      case c3=>omega
      intro v'' w1 hown1 hg1 hb1
      obtain⟨A2,c2,rfl,_,_⟩:=own_shape hown1
      obtain⟨k1,k2,k3,k4,k5⟩:=wr_app (zs:=[(m:Int)%128+128]) hw' ((Ch.refl _ _).alloc _) hg1 hown1 (by simpa using hb1)
      clear hc1 hc2
      go_wp2
      exact⟨⟨m/128,by omega,rfl,nums_step EY.out epre hbig hch hnew k3 k4 k5⟩,by simp[intOf]; omega⟩
     ·have hbig':m<128:=by omega
      clear hbig
      go_wp2_with (at_builtin; refine wp_app rfl (.tmp 38) (.tmp 41) Tb rfl rfl (hw'.2.alloc _) rfl (Vs.one _ _ _) ?c1 ?c2 ?c3 ?_)
      case c1=>intro u hu; simp at hu; subst hu; rfl
      case c2=>omega
      case c3=>omega
      intro v'' w1 hown1 hg1 hb1
      obtain⟨A2,c2,rfl,_,_⟩:=own_shape hown1
      obtain⟨k1,k2,k3,k4,k5⟩:=wr_app (zs:=[(m:Int)]) hw' ((Ch.refl _ _).alloc _) hg1 hown1 (by simpa using hb1)
      clear hc1 hc2
      go_wp2
      go_roundw
      case rel=>exact⟨k+1,by omega,by go_num,nums_done EY.out epre hbig' ez.out hch hnew k3 k4 k5⟩
      case measure=>simp[intOf]; omega
   ·obtain⟨y,rfl⟩:=Int.cast_of hm
    have H0:Hid (∃ m:Nat,m≤top62∧Value.int .i64 (y:Int) = .int .i64 m∧NumsIn w bw v xs zs k y m wo):=⟨y,(nums_start hr (clampI_nat hm1).symm).1,rfl,(nums_start hr (clampI_nat hm1).symm).2⟩
    go_wp2
    clear hm1
    clear hm
    go_loopw [5] (fun i wr=>∃ m:Nat,m≤top62∧i = .int .i64 m∧NumsIn w bw v xs zs k y m wr) (fun i _=>(intOf i).toNat)
    case atStart=>exact H0.out
    case round =>
     obtain⟨m,hm62,rfl,v',pre,epre,hw',hch,hnew⟩:=hrel
     obtain⟨ys,eys⟩:∃ ys,ys=xs++(zs.take k).flatMap encI++pre:=⟨_,rfl⟩
     rw[←eys] at hw'
     have hlen:=nums_room eys epre hlt
     have EY:=Lib.hid eys
     clear eys
     have hc1:=hw'.cell
     have hc2:=hw'.frozen
     obtain⟨A',c',rfl,_,_⟩:=own_shape hw'.2
     by_cases hbig:128≤m
     ·go_wp2_with (at_builtin; refine wp_app rfl (.tmp 23) (.tmp 28) Tb rfl rfl (hw'.2.alloc _) rfl (Vs.one _ _ _) ?c1 ?c2 ?c3 ?_)
      case c1=>intro u hu; simp at hu; subst hu; rfl
      case c2=>omega
      case c3=>omega
      intro v'' w1 hown1 hg1 hb1
      obtain⟨A2,c2,rfl,_,_⟩:=own_shape hown1
      obtain⟨k1,k2,k3,k4,k5⟩:=wr_app (zs:=[(m:Int)%128+128]) hw' ((Ch.refl _ _).alloc _) hg1 hown1 (by simpa using hb1)
      clear hc1 hc2
      go_wp2
      exact⟨⟨m/128,by omega,rfl,nums_step EY.out epre hbig hch hnew k3 k4 k5⟩,by simp[intOf]; omega⟩
     ·have hbig':m<128:=by omega
      clear hbig
      go_wp2_with (at_builtin; refine wp_app rfl (.tmp 38) (.tmp 41) Tb rfl rfl (hw'.2.alloc _) rfl (Vs.one _ _ _) ?c1 ?c2 ?c3 ?_)
      case c1=>intro u hu; simp at hu; subst hu; rfl
      case c2=>omega
      case c3=>omega
      intro v'' w1 hown1 hg1 hb1
      obtain⟨A2,c2,rfl,_,_⟩:=own_shape hown1
      obtain⟨k1,k2,k3,k4,k5⟩:=wr_app (zs:=[(m:Int)]) hw' ((Ch.refl _ _).alloc _) hg1 hown1 (by simpa using hb1)
      clear hc1 hc2
      go_wp2
      go_roundw
      case rel=>exact⟨k+1,by omega,by go_num,nums_done EY.out epre hbig' ez.out hch hnew k3 k4 k5⟩
      case measure=>simp[intOf]; omega
  ·go_wp2
   go_returns
   obtain rfl:k=n:=by omega
   exact⟨rfl,hr⟩
end
section
open Go.RowKit Go.Oct
def Laid (w:World) (bw:Nat) (v:Value) (ys:List Int) (w':World):Prop:=∃ v',Wr w' bw v' ys∧Ch (WS bw v) w w'∧Newer w v v'
theorem Laid.trans {w w1 w2:World} {bw:Nat} {v v1:Value} {ys:List Int} (h:Laid w1 bw v1 ys w2) (hch:Ch (WS bw v) w w1) (hnew:Newer w v v1):Laid w bw v ys w2:=by
 obtain⟨v2,h1,h2,h3⟩:=h
 exact⟨v2,h1,hch.trans h2 (WS.of hnew),hnew.trans h3 hch.size⟩
theorem raw_any (bw:Nat) (v:Value) (xs zs:List Int) (A:Option Addr) (n c:Nat) (w:World) (F:Nat→Prop)
  (hw:Wr w bw v xs) (hz:Sl w F .u8 A n zs) (hb:xs.length+n≤100000000000000) :
  Calls Tryz.prog 100 #[.pointer (some ⟨bw,0,none⟩), .slice A n c] w fun e w'=>e = .returned (.tuple #[])∧Laid w bw v (xs++zs) w':=by
 have hc1:=hw.cell
 have hc2:=hw.frozen
 obtain⟨A',c',rfl,_,_⟩:=own_shape hw.2
 go_enter Tryz.func100,Tryz.ntmps100
 go_wp2_with (at_builtin; refine wp_app rfl (.tmp 10) (.tmp 11) Tb rfl rfl hw.2 rfl hz ?c1 ?c2 ?c3 ?_)
 case c1=>exact ints_cells _ _
 case c2=>omega
 case c3=>omega
 intro v'' w1 hown1 hg1 hb1
 obtain⟨A2,c2,rfl,_,_⟩:=own_shape hown1
 obtain⟨k1,k2,k3,k4,k5⟩:=wr_app hw (Ch.refl _ _) hg1 hown1 hb1
 clear hc1 hc2
 go_wp2
 go_returns
 exact⟨rfl,_,k3,k4,k5⟩
theorem row_done {w w2:World} {bw k:Nat} {v:Value} {xs row:List Int} {xss:List (List Int)} (ex:xss[k]? = some row) (hr:(row.length:Int)≤4611686018427387904)
  (h:Laid w bw v (xs++(xss.take k).flatMap rowB++(List.take 1 [(row.length:Int)]).flatMap encI++row) w2):Laid w bw v (xs++(xss.take (k+1)).flatMap rowB) w2:=by
 have e:encI (row.length:Int)=encN row.length:=by unfold encI; rw[clampI_nat hr]
 simp only[List.take_succ_cons,List.take_zero,List.flatMap_cons,List.flatMap_nil,List.append_nil,e] at h
 rw[flat_more rowB ex]
 simpa[rowB] using h
theorem one_len (z:Int):((List.take 1 [z]).flatMap encI).length≤9:=by
 have:=encI_len z
 simpa using this
theorem bytes_any (bw:Nat) (v:Value) (xs:List Int) (xss:List (List Int)) (A:Option Addr) (n c:Nat) (w:World) (F:Nat→Prop) (hn:n≤1000000000)
  (hw:Wr w bw v xs) (hz:Sls w F A n xss) (hF:∀ b,F b→b<w.heap.size→¬ WS bw v b) (hb:xs.length+(xss.flatMap rowB).length≤90000000000000) :
  Calls Tryz.prog 163 #[.pointer (some ⟨bw,0,none⟩), .slice A n c] w fun e w'=>e = .returned (.tuple #[])∧Laid w bw v (xs++xss.flatMap rowB) w':=by
 go_enter Tryz.func163,Tryz.ntmps163
 go_wp2
 go_loopw [8] (fun i wr=>∃ k:Nat,k≤n∧i = .int .i64 k∧Laid w bw v (xs++(xss.take k).flatMap rowB) wr) (fun i _=>n-(intOf i).toNat)
 case atStart=>exact⟨0,Nat.zero_le _,rfl,v,by simpa using hw,Ch.refl _ _,Newer.refl _ _⟩
 case round =>
  obtain⟨k,hk,rfl,v1,hw1,hch,hnew⟩:=hrel
  by_cases hlt:k<n
  ·obtain⟨b,off,A',c',row,rfl,hFb,ex,hcw,hsl,_,hcm⟩:=hz.at_ hlt
   have hc:=hch.cell (hF b hFb (lt_of_cell hcw)) hcw
   clear hcw
   have hroom:=flat_room rowB ex.out
   have hrl:row.length≤(rowB row).length:=by simp[rowB]
   obtain⟨wo,rfl⟩:∃ wo:World,wo=wr:=⟨_,rfl⟩
   have hlen:((xs++(xss.take k).flatMap rowB).length)+(rowB row).length≤90000000000000:=by rw[List.length_append]; omega
   have hrow:row.length≤90000000000000:=by omega
   go_wp2_with fail
   refine (nums_any bw v1 (xs++(xss.take k).flatMap rowB) [(row.length:Int)] _ 1 1 _ (fun b=>b=wo.heap.size) (by omega) (hw1.ch ((Ch.refl (fun _=>False) wo).alloc _) (fun _ _ h=>h)) (Vs.one _ _ _) ?f ?b).mono ?_
   case f =>
    rintro _ rfl h
    rcases h with h | h
    ·have:=hw1.lt; omega
    ·have:=hw1.row_lt h; omega
   case b=>omega
   rintro e w1 ⟨rfl,h1⟩
   obtain⟨v2,g1,g2,g3⟩:=h1
   have hC:Ch (WS bw v) w w1:=(hch.alloc _).trans g2 (WS.of hnew)
   have hN:Newer w v v2:=hnew.trans g3 (hch.alloc _).size
   go_wp2_with fail
   refine (raw_any bw v2 _ row A' row.length c' _ F g1 (hsl.ch hC hF) ?b).mono ?_
   case b =>
    have:=one_len (row.length:Int)
    rw[List.length_append]
    omega
   rintro e w2 ⟨rfl,h2⟩
   go_wp2
   go_roundw
   case rel=>exact⟨k+1,by omega,by go_num,row_done ex.out (by omega) (h2.trans hC hN)⟩
   case measure=>simp[intOf]; omega
  ·go_wp2
   go_returns
   obtain rfl:k=n:=by omega
   refine⟨rfl,v1,?_,hch,hnew⟩
   rw[List.take_of_length_le (by rw[hz.len]; omega)] at hw1
   exact hw1
end
section
open Go.RowKit Go.Oct
def Fresh (w:World) (v:Value) (xs:List Int) (w':World):Prop :=
 w'.ownsRow 0 5 1 v xs.length (xs.map (Value.int .u8))∧(∀ g,v.ownBlock=some g→w.heap.size≤g)∧Ch (fun _=>False) w w'
theorem Fresh.app {w wr w1:World} {m:Nat} {v v':Value} {ys zs:List Int} (h:Fresh w v ys wr) (hg:wr.grownBy w1 v.ownBlock)
  (ho:w1.ownsRow 0 5 1 v' (ys.length+m) (ys.map (Value.int .u8)++zs.map (Value.int .u8))) (hb:v'.ownBlock=v.ownBlock∨v'.ownBlock=some wr.heap.size):Fresh w v' (ys++zs) w1:=by
 have hl:m=zs.length:=by
  have:=ho.1
  simp at this
  omega
 subst hl
 refine⟨by rw[List.map_append,List.length_append]; exact ho,fun g hgg=>?_,h.2.2.grown hg fun k hk => .inr (h.2.1 k hk)⟩
 have hsz:=h.2.2.size
 rcases hb with hb | hb
 ·exact h.2.1 g (by rw[←hb]; exact hgg)
 ·rw[hb] at hgg
  injection hgg with hgg
  omega
theorem Fresh.after {w w0 w':World} {v:Value} {xs:List Int} (h0:Ch (fun _=>False) w w0) (h:Fresh w0 v xs w'):Fresh w v xs w' :=
 ⟨h.1,fun g hg=>by have:=h.2.1 g hg; have:=h0.size; omega,h0.trans h.2.2 fun _ _ h=>h⟩
theorem join_any (xss:List (List Int)) (A:Option Addr) (n c:Nat) (w:World) (F:Nat→Prop) (hn:n≤1000000000)
  (hz:Sls w F A n xss) (hb:(cat xss).length≤100000000000000) :
  Calls Tryz.prog 114 #[.slice A n c] w fun e w'=>∃ v,e = .returned v∧Fresh w v (cat xss) w':=by
 go_enter Tryz.func114,Tryz.ntmps114
 go_wp2
 go_loop [3,11] (fun t i=>∃ k:Nat,k≤n∧i = .int .i64 k∧t = .int .i64 ((cat (xss.take k)).length:Nat)) (fun _ i=>n-(intOf i).toNat)
 case atStart=>exact⟨0,Nat.zero_le _,rfl,rfl⟩
 case round =>
  obtain⟨k,hk,rfl,rfl⟩:=hrel
  by_cases hlt:k<n
  ·obtain⟨b,off,A',c',row,rfl,hFb,ex,hc,hsl,_,hcm⟩:=hz.at_ hlt
   have hroom:=cat_room ex.out
   have hmore:=cat_more ex.out
   have HM:=Lib.hid hmore
   clear hmore
   go_wp2
   go_round
   case rel=>exact⟨k+1,by omega,by go_num,by rw[HM.out,List.length_append]; go_num⟩
   case measure=>simp[intOf]; omega
  ·obtain rfl:k=n:=by omega
   have hall:xss.take k=xss:=List.take_of_length_le (by rw[hz.len]; omega)
   rw[hall]
   clear hall hlt hk
   have hmk:=run_mk Tb (cat xss).length (by omega) (by omega)
   go_wp2
   clear hmk
   go_loopw [6,24] (fun v i wr=>∃ j:Nat,j≤k∧i = .int .i64 j∧Fresh w v (cat (xss.take j)) wr) (fun _ i _=>k-(intOf i).toNat)
   case atStart=>exact⟨0,Nat.zero_le _,rfl,World.ownsRow_made w _ _ (Nat.zero_le _) (by unfold maxLen; omega) (by simp[madeCells]),fun g hg=>by simp[Value.ownBlock] at hg; omega,(Ch.refl _ _).alloc _⟩
   case round =>
    obtain⟨j,hj,rfl,hfr⟩:=hrel
    by_cases hlt:j<k
    ·obtain⟨A',c',rfl,_,_⟩:=own_shape hfr.1
     obtain⟨b,off,A',c',row,rfl,hFb,ex,hcw,hsl,_,hcm⟩:=hz.at_ hlt
     have hc:=hfr.2.2.cell (fun h=>h) hcw
     have hsl1:=hsl.ch hfr.2.2 (fun _ _ _ h=>h)
     have hroom:=cat_room ex.out
     clear hcw
     go_wp2_with (at_builtin; refine wp_app rfl (.tmp 28) (.tmp 29) Tb rfl rfl hfr.1 rfl hsl1 ?c1 ?c2 ?c3 ?_)
     case c1=>exact ints_cells _ _
     case c2=>omega
     case c3=>omega
     intro v'' w1 hown1 hg1 hb1
     have hfr1:=hfr.app hg1 hown1 hb1
     rw[←cat_more ex.out] at hfr1
     clear hown1 hg1 hb1
     go_wp2
     go_roundw
     case rel=>exact⟨j+1,by omega,by go_num,hfr1⟩
     case measure=>simp[intOf]; omega
    ·obtain rfl:j=k:=by omega
     rw[List.take_of_length_le (by rw[hz.len]; omega)] at hfr
     go_wp2
     go_ret
     exact⟨_,rfl,hfr⟩
theorem out_any (bw:Nat) (v:Value) (xs:List Int) (w:World) (hw:Wr w bw v xs) (hb:xs.length≤100000000000000) :
  Calls Tryz.prog 104 #[.pointer (some ⟨bw,0,none⟩)] w fun e w'=>∃ v,e = .returned v∧Fresh w v xs w':=by
 have hc1:=hw.cell
 obtain⟨A',c',rfl,_,_⟩:=own_shape hw.2
 go_enter Tryz.func104,Tryz.ntmps104
 go_wp2_with fail
 refine (join_any [xs] _ 1 1 _ (fun _=>True) (by omega) (Sls.one _ (Sl.of_own hw.2) (by assumption) (by assumption) (fun _ _ _=>trivial) trivial) (by simpa[cat] using hb)).mono ?_
 rintro e w1 ⟨v,rfl,hf⟩
 go_wp2
 go_ret
 exact⟨_,rfl,by simpa[cat] using Fresh.after ((Ch.refl _ _).alloc _) hf⟩
end
end Go.Proofs.YtambgjpfoceieaaGreatDoor.O
