/- Lemmas and contracts of this proof. Conditions: said at each. -/
import Derived.Test.YtoolcbaipinloaaDoorQGDkMem
import Derived.Deep.Slices
import Derived.Lib.SmallJoins
import Derived.SizedLaws
namespace Go.Proofs.YtoolcbaipinloaaDoor
section
open Go.ChangeShapes Go.WideShapes Go.ChangeAt Go.WideMaps Go.WideElems Go.RowKit Go.Deep Go.Oct Go.Dk
def Wt {H:Type} (P:Program) (t:TypeId) (d:DataW H):Prop:=∀ n∈d.weights P t,n≤140737488351232
theorem weightsAll_mem {H:Type} {P:Program} {e:TypeId} {d:DataW H} {n:Nat} (hn:n∈d.weights P e):∀ {l:List (DataW H)},d∈l→n∈DataW.weightsAll P e l
 | [],h=>by simp at h
 | a::l,h=>by
  rw[DataW.weightsAll]
  rcases List.mem_cons.1 h with rfl | h
  ·exact List.mem_append_left _ hn
  ·exact List.mem_append_right _ (weightsAll_mem hn h)
theorem Wt.elem {H:Type} {P:Program} {t e:TypeId} {xs ys:List (DataW H)} (ht:P.underlying t=some (.slice e)) (h:Wt P t (.slice xs ys)) {d:DataW H} (hd:d∈xs):Wt P e d:=fun n hn =>
 h n (by simp only[DataW.weights,ht]; exact List.mem_cons_of_mem _ (List.mem_append_left _ (weightsAll_mem hn hd)))
theorem Wt.len {H:Type} {P:Program} {t e:TypeId} {xs ys:List (DataW H)} (ht:P.underlying t=some (.slice e)) (h:Wt P t (.slice xs ys)):xs.length*P.bytesOf e≤140737488351232 :=
 Nat.le_trans (Nat.mul_le_mul_right _ (Nat.le_add_right _ ys.length)) (h _ (by simp[DataW.weights,ht]))
theorem Wt.str {H:Type} {P:Program} {t:TypeId} {bs:List UInt8} (h:Wt P t (.lit (.string bs):DataW H)):bs.length≤140737488351232:=h _ (by simp[DataW.weights])
theorem Wt.of_sized {H:Type} {P:Program} {ts:List TypeId} {ds:List (DataW H)} (h:(DataW.weightsEach P ts ds).all (·≤reachBytes)=true) {j:Nat} {t:TypeId} {d:DataW H} (ht:ts[j]? = some t) (hd:ds[j]? = some d):Wt P t d:=fun n hn=>by
 have:=List.all_eq_true.1 h _ (DataW.weights_mem_each ht hd n hn)
 exact of_decide_eq_true this
theorem Wt.two {H:Type} {P:Program} {t:TypeId} {f0 f1:Field} {y0 y1:DataW H} (ht:P.underlying t=some (.struct #[f0,f1])) (h:Wt P t (.agg [y0,y1])):Wt P f0.type y0∧Wt P f1.type y1 :=
 ⟨fun n hn=>h n (by simp[DataW.weights,ht,DataW.weightsEach,hn]),fun n hn=>h n (by simp[DataW.weights,ht,DataW.weightsEach,hn])⟩
section
variable {H:Type} {enc:TypeId×Value→H} {P:Program} {W:World}
theorem trod_ro {α:Type} [Inhabited α] {t e:TypeId} {k m:Nat} {E:List Value→α→Prop} {cs:List Value} {y:DataW H×List MemPlace} (ht:P.underlying t=some (.slice e)) (hc:P.cellsOf e=k) (hk:0<k)
  (hE:∀ m cs y,cs.length=k→Wt P e y.1→DataW.trod enc P W 0 (fun _=>true) true m e cs=some y→∃ a,E cs a) (hw:Wt P t y.1) (h:DataW.trod enc P W 0 (fun _=>true) true m t cs=some y) :
  ∃ A n c av,cs=[.slice A n c]∧Ro W (fun _=>True) k E A n av∧n≤c∧c≤maxLen∧n*P.bytesOf e≤140737488351232:=by
 rcases open_slice ht h with ⟨hcs,_⟩ | ⟨a,len,cap,m,q,D,Pl,hcs,_,hl,hm,hmm,hy,hx⟩
 ·exact⟨none,0,0,[],hcs,Ro.nil _ _ _ _ _,Nat.le_refl _,Nat.zero_le _,by rw[Nat.zero_mul]; omega⟩
 ·simp only[if_true] at hmm
  rw[hy] at hw
  have hlb:len*P.bytesOf e≤140737488351232:=by have:=hw.len ht; simpa using this
  have hwe:∀ i,i<len→Wt P e (D i):=fun i hi=>hw.elem ht (List.mem_map.2 ⟨i,List.mem_range.2 hi,rfl⟩)
  have each:∀ i,i<len→∃ p:α×List Value,p.2.length=k∧E p.2 p.1∧∀ j u,p.2[j]? = some u→W.cell? (a.add (i*k+j))=some u:=by
   intro i hi
   obtain⟨cs',h1,h2⟩:=hx i (by omega)
   rw[hc] at h1
   obtain⟨_,hlen,hcell⟩:=World.cells?_some h1
   obtain⟨x,hx⟩:=hE _ _ _ hlen (hwe i hi) h2
   refine⟨(x,cs'),hlen,hx,fun j u hu=>?_⟩
   have hu':cs'[j]? = some u:=hu
   obtain⟨hj,_⟩:=List.getElem?_eq_some_iff.1 hu'
   have k0:=hcell j (by omega)
   rw[add_add] at k0
   rw[k0]
   exact hu'
  obtain⟨q,hq⟩:=choose_lt each
  refine⟨some a,len,cap,(List.range len).map fun i=>(q i).1,hcs,⟨by simp,fun hn=>?_⟩,hl,hm,hlb⟩
  obtain⟨ab,ao,spot⟩:=a
  obtain⟨g1,_,g3⟩:=hq 0 hn
  have hspot:spot=none:=by
   have:=World.cell?_spot (g3 0 ((q 0).2[0]'(by omega)) (List.getElem?_eq_getElem _))
   simpa[Addr.add] using this
  subst hspot
  refine⟨ab,ao,rfl,trivial,fun j s hs=>?_⟩
  obtain⟨hj,hjs⟩:=List.getElem?_eq_some_iff.1 hs
  simp only[List.length_map,List.length_range] at hj
  obtain⟨h1,h2,h3⟩:=hq j hj
  have es:s=(q j).1:=by rw[←hjs]; simp
  subst es
  refine⟨_,h1,h2,fun i u hu=>?_⟩
  have:=h3 i u hu
  rw[plain_add] at this
  rw[Nat.add_assoc]
  exact this
theorem trod_len {t e:TypeId} {m:Nat} {cs:List Value} {y:DataW H×List MemPlace} (ht:P.underlying t=some (.slice e)) (hw:Wt P t y.1) (h:DataW.trod enc P W 0 (fun _=>true) true m t cs=some y) {A:Option Addr} {n c:Nat} (hcs:cs=[.slice A n c]):n*P.bytesOf e≤140737488351232:=by
 rcases open_slice ht h with ⟨h1,_⟩ | ⟨a,len,cap,m,q,D,Pl,h1,_,_,_,_,hy,_⟩
 ·rw[hcs] at h1
  simp at h1
  obtain⟨_,rfl,_⟩:=h1
  rw[Nat.zero_mul]
  omega
 ·rw[hcs] at h1
  simp at h1
  obtain⟨_,rfl,_⟩:=h1
  rw[hy] at hw
  have:=hw.len ht
  simpa using this
theorem trod_sl {t e:TypeId} {k:IntKind} {m:Nat} {cs:List Value} {y:DataW H×List MemPlace} (ht:P.underlying t=some (.slice e)) (he:P.underlying e=some (.int k)) (hc:P.cellsOf e=1)
  (h:DataW.trod enc P W 0 (fun _=>true) true m t cs=some y) :
  ∃ A n c xs,cs=[.slice A n c]∧Sl W (fun _=>True) k A n xs∧n≤c∧c≤maxLen∧∀ x∈xs,(Lit.int k x).wf=true:=by
 rcases open_ints ht he hc h with ⟨hcs,hx⟩ | ⟨a,len,cap,zs,hcs,_,hl,hm,hz,hx,hcell,hwz⟩
 ·exact⟨none,0,0,[],hcs,Sl.nil _ _ _ _,Nat.le_refl _,Nat.zero_le _,by simp⟩
 ·simp only[if_true] at hz
  refine⟨some a,len,cap,zs.take len,hcs,⟨by simp; omega,fun hn=>?_⟩,hl,hm,fun x hx=>hwz x (List.mem_of_mem_take hx)⟩
  obtain⟨ab,ao,spot⟩:=a
  have hspot:spot=none:=by simpa[Addr.add] using World.cell?_spot (hcell 0 (by omega))
  subst hspot
  refine⟨ab,ao,rfl,trivial,fun j u hu=>?_⟩
  obtain⟨hj,hju⟩:=List.getElem?_eq_some_iff.1 hu
  simp only[List.length_map,List.length_take] at hj
  have hjz:j<zs.length:=by omega
  have:=hcell j hjz
  rw[plain_add] at this
  rw[this,←hju]
  simp[List.getD,List.getElem?_eq_getElem hjz]
instance:Inhabited { k:Key // k.length≤140737488351232 }:=⟨⟨[],Nat.zero_le _⟩⟩
theorem trod_keys {t e:TypeId} {m:Nat} {cs:List Value} {y:DataW H×List MemPlace} (ht:P.underlying t=some (.slice e)) (he:P.underlying e=some .string) (hc:P.cellsOf e=1)
  (hw:Wt P t y.1) (h:DataW.trod enc P W 0 (fun _=>true) true m t cs=some y) :
  ∃ A n c l,cs=[.slice A n c]∧Kss W (fun _=>True) A n l∧n≤c∧c≤maxLen∧(∀ k∈l,k.length≤140737488351232)∧n*P.bytesOf e≤140737488351232:=by
 obtain⟨A,n,c,av,e1,hr,h1,h2,h3⟩:=trod_ro (α:={ k:Key // k.length≤140737488351232 }) (E:=fun cs a=>cs=[kv a.1]) ht hc (by omega) (fun m cs y _ hw ht=>by
  obtain⟨s,e,ey,_⟩:=DataW.trod_string he ht
  rw[ey] at hw
  exact⟨⟨s.data.toList,hw.str⟩,by rw[e,kv_data]⟩) hw h
 refine⟨A,n,c,av.map (·.1),e1,⟨by rw[List.length_map,List.length_map]; exact hr.len,fun hn=>?_⟩,h1,h2,fun k hk=>?_,h3⟩
 ·obtain⟨b,off,e,_,hj⟩:=hr.at_ hn
  refine⟨b,off,e,trivial,fun j u hu=>?_⟩
  rw[List.getElem?_map,List.getElem?_map] at hu
  cases hx:av[j]? with
  | none=>rw[hx] at hu; cases hu
  | some x =>
   rw[hx] at hu
   simp only[Option.map_some,Option.some.injEq] at hu
   subst hu
   obtain⟨cs,_,rfl,hi⟩:=hj j x hx
   have:=hi 0 _ rfl
   simpa using this
 ·obtain⟨a,_,rfl⟩:=List.mem_map.1 hk
  exact a.2
theorem Wt.struct {f:Array Field} {t:TypeId} {ys:List (DataW H)} (ht:P.underlying t=some (.struct f)) (h:Wt P t (.agg ys)) {i:Nat} {y:DataW H} {g:Field} (hf:f[i]? = some g) (hy:ys[i]? = some y):Wt P g.type y:=fun n hn=>by
 refine h n ?_
 simp only[DataW.weights,ht]
 exact DataW.weights_mem_each (j:=i) (by simp[hf]) hy n hn
instance:Inhabited { s:Stp // StpOk s }:=⟨⟨⟨0,0,[],[],[],[]⟩,by decide,by decide,by simp,by simp,by simp,by simp,by simp,by simp,by simp⟩⟩
structure StpT (P:Program) (t e ti ts tb tc tk:TypeId) (f0 f1 f2 f3 f4 f5:Field):Prop where
 ht:P.underlying t=some (.slice e)
 he:P.underlying e=some (.struct #[f0,f1,f2,f3,f4,f5])
 ce:P.cellsOf e=6
 o0:f0.offset=0
 o1:f1.offset=1
 o2:f2.offset=2
 o3:f3.offset=3
 o4:f4.offset=4
 o5:f5.offset=5
 t0:f0.type=ti
 t1:f1.type=ti
 t2:f2.type=ts
 t3:f3.type=tb
 t4:f4.type=tb
 t5:f5.type=tk
 ui:P.underlying ti=some (.int .i64)
 us:P.underlying ts=some .string
 ub:P.underlying tb=some (.slice tc)
 uc:P.underlying tc=some (.int .u8)
 uk:P.underlying tk=some (.slice ts)
 ci:P.cellsOf ti=1
 cs:P.cellsOf ts=1
 cb:P.cellsOf tb=1
 cc:P.cellsOf tc=1
 ck:P.cellsOf tk=1
 bc:P.bytesOf tc=1
 bs:1≤P.bytesOf ts
theorem trod_int_ok {t:TypeId} {m:Nat} {cs:List Value} {y:DataW H×List MemPlace} (ht:P.underlying t=some (.int .i64)) (h:DataW.trod enc P W 0 (fun _=>true) true m t cs=some y):∃ z,cs=[.int .i64 z] ∧ -9223372036854775808≤z∧z≤9223372036854775807:=by
 obtain⟨z,e,_,hw⟩:=DataW.trod_int ht h
 simp[Lit.wf,IntKind.min,IntKind.max,IntKind.signed,IntKind.bits] at hw
 exact⟨z,e,by omega,by omega⟩
theorem trod_stp {t e ti ts tb tc tk:TypeId} {f0 f1 f2 f3 f4 f5:Field} {m:Nat} {cs:List Value} {y:DataW H×List MemPlace} (T:StpT P t e ti ts tb tc tk f0 f1 f2 f3 f4 f5) (hl:cs.length=6)
  (hw:Wt P e y.1) (h:DataW.trod enc P W 0 (fun _=>true) true m e cs=some y):∃ s:{ s:Stp // StpOk s },StpE W (fun _=>True) cs s.1:=by
 obtain⟨xs,q,_,rfl,_,hlen,hf⟩:=DataW.trod_struct T.he h
 match xs,hlen,cs,hl with
 | [y0,y1,y2,y3,y4,y5],_,[v0,v1,v2,v3,v4,v5],_ =>
  have k0:=hf 0 f0 rfl
  have k1:=hf 1 f1 rfl
  have k2:=hf 2 f2 rfl
  have k3:=hf 3 f3 rfl
  have k4:=hf 4 f4 rfl
  have k5:=hf 5 f5 rfl
  simp[T.o0,T.o1,T.o2,T.o3,T.o4,T.o5,T.t0,T.t1,T.t2,T.t3,T.t4,T.t5,T.ci,T.cs,T.cb,T.ck] at k0 k1 k2 k3 k4 k5
  have w2:=hw.struct T.he (i:=2) (y:=y2.1) (g:=f2) rfl rfl
  have w3:=hw.struct T.he (i:=3) (y:=y3.1) (g:=f3) rfl rfl
  have w4:=hw.struct T.he (i:=4) (y:=y4.1) (g:=f4) rfl rfl
  have w5:=hw.struct T.he (i:=5) (y:=y5.1) (g:=f5) rfl rfl
  rw[T.t2] at w2
  rw[T.t3] at w3
  rw[T.t4] at w4
  rw[T.t5] at w5
  obtain⟨z0,e0,p0⟩:=trod_int_ok T.ui k0
  obtain⟨z1,e1,p1⟩:=trod_int_ok T.ui k1
  obtain⟨s,e2,es,_⟩:=DataW.trod_string T.us k2
  rw[es] at w2
  obtain⟨A,n,c,xs,e3,hs3,g1,g2,g3⟩:=trod_sl T.ub T.uc T.cc k3
  have n3:=trod_len T.ub w3 k3 e3
  obtain⟨B,n',d,ys,e4,hs4,r1,r2,r3⟩:=trod_sl T.ub T.uc T.cc k4
  have n4:=trod_len T.ub w4 k4 e4
  obtain⟨E,n5,e,l,e5,hk,q1,q2,q3,q4⟩:=trod_keys T.uk T.us T.cs w5 k5
  rw[T.bc,Nat.mul_one] at n3 n4
  have q5:n5≤140737488351232:=Nat.le_trans (Nat.le_mul_of_pos_right _ T.bs) q4
  simp only[List.cons.injEq,and_true] at e0 e1 e2 e3 e4 e5
  obtain rfl:=hs3.len
  obtain rfl:=hs4.len
  obtain rfl:=hk.len
  exact⟨⟨⟨z0,z1,s.data.toList,xs,ys,l⟩,p0,p1,w2.str,n3,n4,q5,q3,byt_of_wf g3,byt_of_wf r3⟩,A,c,B,d,E,e,by rw[e0,e1,e2,e3,e4,e5,kv_data],hs3,hs4,hk,⟨g1,g2⟩,⟨r1,r2⟩,q1,q2⟩
theorem open_stps {r:Reach} {base:Nat} {t e ti ts tb tc tk:TypeId} {f0 f1 f2 f3 f4 f5:Field} {v:Value} {d:DataW H} {p:List MemPlace} (T:StpT P t e ti ts tb tc tk f0 f1 f2 f3 f4 f5)
  (hval:Value.okWide P W r base t v) (hw:Wt P t d) (h:DataW.Trod enc P W 0 (fun _=>true) true t v d p) :
  ∃ (A:Option Addr) (n c:Nat) (l:List Stp),v = .slice A n c∧Stps W (fun _=>True) A n l∧n≤c∧c≤maxLen∧(∀ s∈l,StpOk s)∧n*P.bytesOf e≤140737488351232:=by
 obtain⟨a1,len,cap,rfl⟩:=okWide_slice T.ht hval
 obtain⟨fuel,hf⟩:=h
 obtain⟨A,n,c,av,e1,hr,h1,h2,h3⟩:=trod_ro (y:=(d,p)) (α:={ s:Stp // StpOk s }) (E:=fun cs a=>StpE W (fun _=>True) cs a.1) T.ht T.ce (by omega) (fun m cs y hl hw ht=>trod_stp T hl hw ht) hw hf
 simp[Value.cells] at e1
 obtain⟨rfl,rfl,rfl⟩:=e1
 refine⟨_,_,_,av.map (·.1),rfl,⟨by rw[List.length_map]; exact hr.len,fun hn=>?_⟩,h1,h2,fun d hd=>?_,h3⟩
 ·obtain⟨b,off,e,_,hj⟩:=hr.at_ hn
  refine⟨b,off,e,trivial,fun j a ha=>?_⟩
  rw[List.getElem?_map] at ha
  cases hx:av[j]? with
  | none=>rw[hx] at ha; cases ha
  | some x =>
   rw[hx] at ha
   simp only[Option.map_some,Option.some.injEq] at ha
   subst ha
   exact hj j x hx
 ·obtain⟨a,_,rfl⟩:=List.mem_map.1 hd
  exact a.2
end
end
section
open Go.ChangeShapes Go.WideShapes Go.ChangeAt Go.WideMaps Go.WideElems Go.RowKit Go.Deep Go.Oct Go.Dk
def Bk {H:Type} (d:DataW H):Prop:=Rows.uptoBulk d≤1048576
theorem bulk_part {H:Type} {d:DataW H} {l:List (DataW H)} (h:d∈l):Rows.uptoBulk d≤Rows.uptoBulkAll l:=by
 induction l with
 | nil=>cases h
 | cons x r ih =>
  simp only[Rows.uptoBulkAll]
  rcases List.mem_cons.1 h with rfl | e
  ·omega
  ·have:=ih e; omega
theorem bulk_one {H:Type} (d:DataW H):1≤Rows.uptoBulk d:=by
 cases d with
 | lit l=>cases l <;> simp[Rows.uptoBulk]
 | nil=>simp[Rows.uptoBulk]
 | ptr d=>simp[Rows.uptoBulk]
 | slice elems spare=>simp[Rows.uptoBulk]
 | agg parts=>simp[Rows.uptoBulk]
 | iface t d=>simp[Rows.uptoBulk]
 | map entries=>simp[Rows.uptoBulk]
 | held h=>simp[Rows.uptoBulk]
theorem bulk_len {H:Type} (l:List (DataW H)):l.length≤Rows.uptoBulkAll l:=by
 induction l with
 | nil=>simp[Rows.uptoBulkAll]
 | cons x r ih=>have:=bulk_one x; simp only[Rows.uptoBulkAll,List.length_cons]; omega
theorem Bk.elem {H:Type} {xs ys:List (DataW H)} (h:Bk (.slice xs ys)) {d:DataW H} (hd:d∈xs):Bk d:=by
 have h1:=bulk_part hd
 unfold Bk at *
 simp only[Rows.uptoBulk] at h
 omega
theorem Bk.len {H:Type} {xs ys:List (DataW H)} (h:Bk (.slice xs ys)):xs.length≤1048576:=by
 have h1:=bulk_len xs
 unfold Bk at h
 simp only[Rows.uptoBulk] at h
 omega
theorem Bk.str {H:Type} {bs:List UInt8} (h:Bk (.lit (.string bs):DataW H)):bs.length≤1048576:=by
 unfold Bk at h
 simp only[Rows.uptoBulk] at h
 omega
theorem Bk.struct {H:Type} {ys:List (DataW H)} (h:Bk (.agg ys)) {i:Nat} {y:DataW H} (hy:ys[i]? = some y):Bk y:=by
 have h1:=bulk_part (List.mem_of_getElem? hy)
 unfold Bk at *
 simp only[Rows.uptoBulk] at h
 omega
theorem Bk.of {H:Type} {ds:List (DataW H)} (h:Rows.uptoSmall H ds=true) {j:Nat} {d:DataW H} (hd:ds[j]? = some d):Bk d:=by
 have h1:Rows.uptoBulkAll ds≤1048576:=of_decide_eq_true h
 have h2:=bulk_part (List.mem_of_getElem? hd)
 unfold Bk
 omega
section
variable {H:Type} {enc:TypeId×Value→H} {P:Program} {W:World}
theorem trodu_ro {α:Type} [Inhabited α] {t e:TypeId} {k m:Nat} {E:List Value→α→Prop} {cs:List Value} {y:DataW H×List MemPlace} (ht:P.underlying t=some (.slice e)) (hc:P.cellsOf e=k) (hk:0<k)
  (hE:∀ m cs y,cs.length=k→Bk y.1→DataW.trod enc P W 0 (fun _=>true) true m e cs=some y→∃ a,E cs a) (hw:Bk y.1) (h:DataW.trod enc P W 0 (fun _=>true) true m t cs=some y) :
  ∃ A n c av,cs=[.slice A n c]∧Ro W (fun _=>True) k E A n av∧n≤c∧c≤maxLen∧n≤1048576:=by
 rcases open_slice ht h with ⟨hcs,_⟩ | ⟨a,len,cap,m,q,D,Pl,hcs,_,hl,hm,hmm,hy,hx⟩
 ·exact⟨none,0,0,[],hcs,Ro.nil _ _ _ _ _,Nat.le_refl _,Nat.zero_le _,Nat.zero_le _⟩
 ·simp only[if_true] at hmm
  rw[hy] at hw
  have hlb:len≤1048576:=by have:=hw.len; simpa using this
  have hwe:∀ i,i<len→Bk (D i):=fun i hi=>hw.elem (List.mem_map.2 ⟨i,List.mem_range.2 hi,rfl⟩)
  have each:∀ i,i<len→∃ p:α×List Value,p.2.length=k∧E p.2 p.1∧∀ j u,p.2[j]? = some u→W.cell? (a.add (i*k+j))=some u:=by
   intro i hi
   obtain⟨cs',h1,h2⟩:=hx i (by omega)
   rw[hc] at h1
   obtain⟨_,hlen,hcell⟩:=World.cells?_some h1
   obtain⟨x,hx⟩:=hE _ _ _ hlen (hwe i hi) h2
   refine⟨(x,cs'),hlen,hx,fun j u hu=>?_⟩
   have hu':cs'[j]? = some u:=hu
   obtain⟨hj,_⟩:=List.getElem?_eq_some_iff.1 hu'
   have k0:=hcell j (by omega)
   rw[add_add] at k0
   rw[k0]
   exact hu'
  obtain⟨q,hq⟩:=choose_lt each
  refine⟨some a,len,cap,(List.range len).map fun i=>(q i).1,hcs,⟨by simp,fun hn=>?_⟩,hl,hm,hlb⟩
  obtain⟨ab,ao,spot⟩:=a
  obtain⟨g1,_,g3⟩:=hq 0 hn
  have hspot:spot=none:=by
   have:=World.cell?_spot (g3 0 ((q 0).2[0]'(by omega)) (List.getElem?_eq_getElem _))
   simpa[Addr.add] using this
  subst hspot
  refine⟨ab,ao,rfl,trivial,fun j s hs=>?_⟩
  obtain⟨hj,hjs⟩:=List.getElem?_eq_some_iff.1 hs
  simp only[List.length_map,List.length_range] at hj
  obtain⟨h1,h2,h3⟩:=hq j hj
  have es:s=(q j).1:=by rw[←hjs]; simp
  subst es
  refine⟨_,h1,h2,fun i u hu=>?_⟩
  have:=h3 i u hu
  rw[plain_add] at this
  rw[Nat.add_assoc]
  exact this
theorem trodu_len {t e:TypeId} {m:Nat} {cs:List Value} {y:DataW H×List MemPlace} (ht:P.underlying t=some (.slice e)) (hw:Bk y.1) (h:DataW.trod enc P W 0 (fun _=>true) true m t cs=some y) {A:Option Addr} {n c:Nat} (hcs:cs=[.slice A n c]):n≤1048576:=by
 rcases open_slice ht h with ⟨h1,_⟩ | ⟨a,len,cap,m,q,D,Pl,h1,_,_,_,_,hy,_⟩
 ·rw[hcs] at h1
  simp at h1
  obtain⟨_,rfl,_⟩:=h1
  exact Nat.zero_le _
 ·rw[hcs] at h1
  simp at h1
  obtain⟨_,rfl,_⟩:=h1
  rw[hy] at hw
  have:=hw.len
  simpa using this
instance:Inhabited { k:Key // k.length≤1048576 }:=⟨⟨[],Nat.zero_le _⟩⟩
theorem trodu_keys {t e:TypeId} {m:Nat} {cs:List Value} {y:DataW H×List MemPlace} (ht:P.underlying t=some (.slice e)) (he:P.underlying e=some .string) (hc:P.cellsOf e=1)
  (hw:Bk y.1) (h:DataW.trod enc P W 0 (fun _=>true) true m t cs=some y) :
  ∃ A n c l,cs=[.slice A n c]∧Kss W (fun _=>True) A n l∧n≤c∧c≤maxLen∧(∀ k∈l,k.length≤1048576)∧n≤1048576:=by
 obtain⟨A,n,c,av,e1,hr,h1,h2,h3⟩:=trodu_ro (α:={ k:Key // k.length≤1048576 }) (E:=fun cs a=>cs=[kv a.1]) ht hc (by omega) (fun m cs y _ hw ht=>by
  obtain⟨s,e,ey,_⟩:=DataW.trod_string he ht
  rw[ey] at hw
  exact⟨⟨s.data.toList,hw.str⟩,by rw[e,kv_data]⟩) hw h
 refine⟨A,n,c,av.map (·.1),e1,⟨by rw[List.length_map,List.length_map]; exact hr.len,fun hn=>?_⟩,h1,h2,fun k hk=>?_,h3⟩
 ·obtain⟨b,off,e,_,hj⟩:=hr.at_ hn
  refine⟨b,off,e,trivial,fun j u hu=>?_⟩
  rw[List.getElem?_map,List.getElem?_map] at hu
  cases hx:av[j]? with
  | none=>rw[hx] at hu; cases hu
  | some x =>
   rw[hx] at hu
   simp only[Option.map_some,Option.some.injEq] at hu
   subst hu
   obtain⟨cs,_,rfl,hi⟩:=hj j x hx
   have:=hi 0 _ rfl
   simpa using this
 ·obtain⟨a,_,rfl⟩:=List.mem_map.1 hk
  exact a.2
instance:Inhabited { s:Stp // StpSm s }:=⟨⟨⟨0,0,[],[],[],[]⟩,by decide,by decide,by simp,by simp,by simp,by simp,by simp,by intro x hx; simp at hx,by intro x hx; simp at hx⟩⟩
theorem trodu_stp {t e ti ts tb tc tk:TypeId} {f0 f1 f2 f3 f4 f5:Field} {m:Nat} {cs:List Value} {y:DataW H×List MemPlace} (T:StpT P t e ti ts tb tc tk f0 f1 f2 f3 f4 f5) (hl:cs.length=6)
  (hw:Bk y.1) (h:DataW.trod enc P W 0 (fun _=>true) true m e cs=some y):∃ s:{ s:Stp // StpSm s },StpE W (fun _=>True) cs s.1:=by
 obtain⟨xs,q,_,rfl,_,hlen,hf⟩:=DataW.trod_struct T.he h
 match xs,hlen,cs,hl with
 | [y0,y1,y2,y3,y4,y5],_,[v0,v1,v2,v3,v4,v5],_ =>
  have k0:=hf 0 f0 rfl
  have k1:=hf 1 f1 rfl
  have k2:=hf 2 f2 rfl
  have k3:=hf 3 f3 rfl
  have k4:=hf 4 f4 rfl
  have k5:=hf 5 f5 rfl
  simp[T.o0,T.o1,T.o2,T.o3,T.o4,T.o5,T.t0,T.t1,T.t2,T.t3,T.t4,T.t5,T.ci,T.cs,T.cb,T.ck] at k0 k1 k2 k3 k4 k5
  have w2:=hw.struct (i:=2) (y:=y2.1) rfl
  have w3:=hw.struct (i:=3) (y:=y3.1) rfl
  have w4:=hw.struct (i:=4) (y:=y4.1) rfl
  have w5:=hw.struct (i:=5) (y:=y5.1) rfl
  obtain⟨z0,e0,p0⟩:=trod_int_ok T.ui k0
  obtain⟨z1,e1,p1⟩:=trod_int_ok T.ui k1
  obtain⟨s,e2,es,_⟩:=DataW.trod_string T.us k2
  rw[es] at w2
  obtain⟨A,n,c,xs,e3,hs3,g1,g2,g3⟩:=trod_sl T.ub T.uc T.cc k3
  have n3:=trodu_len T.ub w3 k3 e3
  obtain⟨B,n',d,ys,e4,hs4,r1,r2,r3⟩:=trod_sl T.ub T.uc T.cc k4
  have n4:=trodu_len T.ub w4 k4 e4
  obtain⟨E,n5,e,l,e5,hk,q1,q2,q3,q4⟩:=trodu_keys T.uk T.us T.cs w5 k5
  have q5:n5≤1048576:=q4
  simp only[List.cons.injEq,and_true] at e0 e1 e2 e3 e4 e5
  obtain rfl:=hs3.len
  obtain rfl:=hs4.len
  obtain rfl:=hk.len
  exact⟨⟨⟨z0,z1,s.data.toList,xs,ys,l⟩,p0,p1,w2.str,n3,n4,q5,q3,byt_of_wf g3,byt_of_wf r3⟩,A,c,B,d,E,e,by rw[e0,e1,e2,e3,e4,e5,kv_data],hs3,hs4,hk,⟨g1,g2⟩,⟨r1,r2⟩,q1,q2⟩
theorem openu_stps {r:Reach} {base:Nat} {t e ti ts tb tc tk:TypeId} {f0 f1 f2 f3 f4 f5:Field} {v:Value} {d:DataW H} {p:List MemPlace} (T:StpT P t e ti ts tb tc tk f0 f1 f2 f3 f4 f5)
  (hval:Value.okWide P W r base t v) (hw:Bk d) (h:DataW.Trod enc P W 0 (fun _=>true) true t v d p) :
  ∃ (A:Option Addr) (n c:Nat) (l:List Stp),v = .slice A n c∧Stps W (fun _=>True) A n l∧n≤c∧c≤maxLen∧(∀ s∈l,StpSm s)∧n≤1048576:=by
 obtain⟨a1,len,cap,rfl⟩:=okWide_slice T.ht hval
 obtain⟨fuel,hf⟩:=h
 obtain⟨A,n,c,av,e1,hr,h1,h2,h3⟩:=trodu_ro (y:=(d,p)) (α:={ s:Stp // StpSm s }) (E:=fun cs a=>StpE W (fun _=>True) cs a.1) T.ht T.ce (by omega) (fun m cs y hl hw ht=>trodu_stp T hl hw ht) hw hf
 simp[Value.cells] at e1
 obtain⟨rfl,rfl,rfl⟩:=e1
 refine⟨_,_,_,av.map (·.1),rfl,⟨by rw[List.length_map]; exact hr.len,fun hn=>?_⟩,h1,h2,fun d hd=>?_,h3⟩
 ·obtain⟨b,off,e,_,hj⟩:=hr.at_ hn
  refine⟨b,off,e,trivial,fun j a ha=>?_⟩
  rw[List.getElem?_map] at ha
  cases hx:av[j]? with
  | none=>rw[hx] at ha; cases ha
  | some x =>
   rw[hx] at ha
   simp only[Option.map_some,Option.some.injEq] at ha
   subst ha
   exact hj j x hx
 ·obtain⟨a,_,rfl⟩:=List.mem_map.1 hd
  exact a.2
end
end
section
open Go.ChangeShapes Go.WideShapes Go.ChangeAt Go.WideMaps Go.WideElems Go.RowKit Go.Deep Go.Oct Go.Dk
section
variable {H:Type} {enc:TypeId×Value→H} {P:Program} {W:World}
theorem sl_sized {t e:TypeId} {d:DataW H} {p:List MemPlace} {A:Option Addr} {n c:Nat} (ht:P.underlying t=some (.slice e)) (hw:Wt P t d) (h:DataW.Trod enc P W 0 (fun _=>true) true t (.slice A n c) d p):n*P.bytesOf e≤140737488351232:=by
 obtain⟨fuel,hf⟩:=h
 exact trod_len (y:=(d,p)) (A:=A) (n:=n) (c:=c) ht hw hf (by simp[Value.cells])
def RowE (W:World) (cs:List Value) (xs:List Int):Prop:=∃ A c,cs=[.slice A xs.length c]∧Sl W (fun _=>True) .u8 A xs.length xs∧xs.length≤c∧c≤maxLen
instance:Inhabited { xs:List Int // Byt xs∧xs.length≤140737488351232 }:=⟨⟨[],by intro x hx; simp at hx,by simp⟩⟩
theorem open_rows {r:Reach} {base:Nat} {t e q:TypeId} {v:Value} {d:DataW H} {p:List MemPlace} (ht:P.underlying t=some (.slice e)) (he:P.underlying e=some (.slice q)) (hq:P.underlying q=some (.int .u8))
  (ce:P.cellsOf e=1) (cq:P.cellsOf q=1) (bq:P.bytesOf q=1) (be:1≤P.bytesOf e) (hval:Value.okWide P W r base t v) (hw:Wt P t d) (h:DataW.Trod enc P W 0 (fun _=>true) true t v d p) :
  ∃ (A:Option Addr) (n c:Nat) (xss:List (List Int)),v = .slice A n c∧Sls W (fun _=>True) A n xss∧n≤c∧c≤maxLen∧(∀ xs∈xss,Byt xs)∧(∀ xs∈xss,xs.length≤140737488351232)∧n≤140737488351232:=by
 obtain⟨a1,len,cap,rfl⟩:=okWide_slice ht hval
 obtain⟨fuel,hf⟩:=h
 obtain⟨A,n,c,av,e1,hr,h1,h2,h3⟩:=trod_ro (y:=(d,p)) (α:={ xs:List Int // Byt xs∧xs.length≤140737488351232 }) (E:=fun cs a=>RowE W cs a.1) ht ce (by omega) (fun m cs y _ hw hy=>by
  obtain⟨A,n,c,xs,e3,hs3,g1,g2,g3⟩:=trod_sl he hq cq hy
  have n3:=trod_len he hw hy e3
  rw[bq,Nat.mul_one] at n3
  obtain rfl:=hs3.len
  exact⟨⟨xs,byt_of_wf g3,n3⟩,A,c,e3,hs3,g1,g2⟩) hw hf
 simp[Value.cells] at e1
 obtain⟨rfl,rfl,rfl⟩:=e1
 have each:∀ i,i<len→∃ u:Value,∃ A c,u = .slice A (av[i]!).1.length c∧Sl W (fun _=>True) .u8 A (av[i]!).1.length (av[i]!).1∧(av[i]!).1.length≤c∧c≤maxLen∧∀ b off,a1=some ⟨b,off,none⟩→W.cell? ⟨b,off+i,none⟩=some u:=by
  intro i hi
  obtain⟨b,off,a,cs,e1,_,ha,hl,⟨A,c,rfl,hs,g1,g2⟩,hc⟩:=hr.get hi
  have ea:av[i]! = a:=by simp[List.getElem!_eq_getElem?_getD,ha]
  rw[ea]
  refine⟨_,A,c,rfl,hs,g1,g2,fun b' off' e2=>?_⟩
  rw[e1] at e2
  injection e2 with e2
  injection e2 with e3 e4
  subst e3; subst e4
  have:=hc 0 _ rfl
  simpa using this
 obtain⟨q,hq⟩:=choose_lt each
 have hlen:=hr.len
 refine⟨a1,len,cap,av.map (·.1),rfl,⟨(List.range len).map q,⟨by simp,fun hn=>?_⟩,by simp[hlen],fun i u xs hu hx=>?_⟩,h1,h2,fun xs hx=>?_,fun xs hx=>?_,Nat.le_trans (Nat.le_mul_of_pos_right _ be) h3⟩
 ·obtain⟨b,off,e,_,_⟩:=hr.at_ hn
  refine⟨b,off,e,trivial,fun j u hu=>?_⟩
  obtain⟨hj,hju⟩:=List.getElem?_eq_some_iff.1 hu
  simp only[List.length_map,List.length_range] at hj
  obtain⟨_,_,_,_,_,_,hc⟩:=hq j hj
  have:=hc b off e
  rw[this,←hju]
  simp
 ·obtain⟨hi,hiu⟩:=List.getElem?_eq_some_iff.1 hu
  simp only[List.length_map,List.length_range] at hi
  obtain⟨A,c,h1,h2,h3,h4,_⟩:=hq i hi
  have eu:u=q i:=by rw[←hiu]; simp
  have ex:xs=(av[i]!).1:=by
   rw[List.getElem?_map] at hx
   cases ha:av[i]? with
   | none=>rw[ha] at hx; cases hx
   | some a =>
    rw[ha] at hx
    simp only[Option.map_some,Option.some.injEq] at hx
    rw[←hx]
    simp[List.getElem!_eq_getElem?_getD,ha]
  subst ex
  exact⟨A,c,by rw[eu,h1],h2,h3,h4⟩
 ·obtain⟨a,_,rfl⟩:=List.mem_map.1 hx
  exact a.2.1
 ·obtain⟨a,_,rfl⟩:=List.mem_map.1 hx
  exact a.2.2
end
theorem int_of_wf {z:Int} (h:(Lit.int .i64 z).wf=true) : -9223372036854775808≤z∧z≤9223372036854775807:=by
 simp[Lit.wf,IntKind.min,IntKind.max,IntKind.signed,IntKind.bits] at h
 omega
end
end Go.Proofs.YtoolcbaipinloaaDoor
