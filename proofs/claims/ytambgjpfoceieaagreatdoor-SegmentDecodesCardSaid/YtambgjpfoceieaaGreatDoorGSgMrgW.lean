/- Lemmas and contracts of this proof. Conditions: said at each. -/
import Derived.Test.YtambgjpfoceieaaGreatDoorSgNew
set_option maxHeartbeats 4000000
set_option maxRecDepth 100000
namespace Go.Proofs.YtambgjpfoceieaaGreatDoor
section
open Go.RowKit Go.Oct Go.Su Go.Sg Go.Fr Go.Mp
structure Mw (w wr:World) (F:Nat→Prop) (mb N q p:Nat) (dv gv:Value) (docs:List Dc) (gone:List Key) (vs:List Value) (f:Key→Option (Option (List Int))):Prop where
 dg:Gs 37 2 w wr dv q (dcV (ks docs) vs)
 gg:Gs 9 1 w wr gv p (gone.map kv)
 mp:∃ mf,Mp Tryz.prog 9 wr mb N mf∧∀ key,mf (.string key)=if (f key).isSome then some (.bool true) else none
 ml:w.heap.size≤mb
 ne:∀ g,dv.ownBlock=some g→gv.ownBlock≠some g
 rows:Oct.Rows w F vs (ts docs)
 kl:docs.length=vs.length
section
variable {w wr wm w2:World} {F:Nat→Prop} {mb N q p:Nat} {dv gv dv' gv':Value} {docs:List Dc} {gone:List Key} {vs:List Value} {f g:Key→Option (Option (List Int))}
theorem Mw.start (w:World) (F:Nat→Prop):Mw w (w.alloc (.map #[] 0)) F w.heap.size 0 0 0 (.slice none 0 0) (.slice none 0 0) [] [] [] (fun _=>none) :=
 ⟨Gs.nilAt _ _ ((Ch.refl _ w).alloc _),Gs.nilAt _ _ ((Ch.refl _ w).alloc _),⟨_,Mp.made _ _ w,fun key=>by simp⟩,Nat.le_refl _,fun g hg=>by simp[Value.ownBlock] at hg,Oct.Rows.nil_ _ _,rfl⟩
theorem Mw.congr (h:Mw w wr F mb N q p dv gv docs gone vs f) (e:∀ k,g k=f k):Mw w wr F mb N q p dv gv docs gone vs g:=by
 have:g=f:=funext e
 rw[this]
 exact h
theorem Mw.look (h:Mw w wr F mb N q p dv gv docs gone vs f) {S:ByteArray} {key:Key} (hS:S.data.toList=key) (hz:S.size≤maxLen) :
  (Instr.lookup 119 (.map (some mb)) (.string S) false).run Tryz.prog wr = .ok (.bool (f key).isSome) wr:=by
 obtain⟨mf,h1,h2⟩:=h.mp
 have h3:=h1.look (z := .bool false) (key := .string S) (Maps.string_keyed Tryz.underlying9) Tryz.underlying119 (by kernel_rfl) (Go.WideMaps.keyOf_string_mk Tryz.underlying9 hz)
 rw[h3,hS,h2 key]
 cases (f key).isSome <;> rfl
theorem Mw.put (h:Mw w wr F mb N q p dv gv docs gone vs f) {S:ByteArray} {key:Key} (hS:S.data.toList=key) (hz:S.size≤maxLen) (hN:N<maxLen) (x:Option (List Int)) :
  ∃ w',(Instr.mapUpdate 119 (.map (some mb)) (.string S) (.bool true)).run Tryz.prog wr = .ok () w'∧Mw w w' F mb (N+1) q p dv gv docs gone vs (setK f key x):=by
 obtain⟨mf,h1,h2⟩:=h.mp
 obtain⟨w',hr,h3,h4⟩:=h1.put (v := .bool true) (key := .string S) (kl := .string key) (Maps.string_keyed Tryz.underlying9) Tryz.underlying119 hN (by rw[←hS]; exact Go.WideMaps.keyOf_string_mk Tryz.underlying9 hz) trivial
 refine⟨w',hr,h.dg.mapped h1 h4 h.ml,h.gg.mapped h1 h4 h.ml,⟨_,h3,fun k=>?_⟩,h.ml,h.ne,h.rows,h.kl⟩
 unfold Go.Mp.put setK
 by_cases hk:k=key
 ·subst hk
  simp
 ·rw[if_neg (fun e=>hk (by injection e)),if_neg hk]
  exact h2 k
theorem Mw.doc (h:Mw w wr F mb N q p dv gv docs gone vs f) {d:Dc} {B:Option Addr} {c:Nat} (hs:Sl w F .u8 B d.2.length d.2) (h1:d.2.length≤c) (h2:c≤maxLen) (hc:Ch (fun _=>False) wr wm) (ho:w2.ownsRow 0 37 2 dv' (q+1) (dcV (ks docs) vs++[kv d.1, .slice B d.2.length c]))
  (hg:wm.grownBy w2 dv.ownBlock) (hb:dv'.ownBlock=dv.ownBlock∨dv'.ownBlock=some wm.heap.size):Mw w w2 F mb N (q+1) p dv' gv (docs++[d]) gone (vs++[.slice B d.2.length c]) f:=by
 have hC:Ch (fun b=>dv.ownBlock=some b) wr w2:=((Ch.refl _ wr).trans hc (fun _ _ h=>h.elim)).grown hg (fun _ h => .inl h)
 obtain⟨mf,m1,m2⟩:=h.mp
 have hd:=h.dg.app hc ho hg hb
 refine⟨?_,⟨hC.own h.gg.own (fun g hg e=>h.ne g e hg),h.gg.lies,hd.ch⟩,⟨mf,Mp.grown m1 h.dg.own hc hg,m2⟩,h.ml,fun g hgv=>?_,?_,by simp[h.kl]⟩
 ·rw[ks_app,show ks [d]=[d.1] from rfl,dcV_snoc _ _ _ _ (by rw[ks_len,h.kl])]
  exact hd
 ·rcases hb with e | e
  ·exact h.ne g (e ▸ hgv)
  ·rw[e] at hgv
   injection hgv with hgv
   intro h3
   have:=lt_blk h.gg.own h3
   have:=hc.size
   omega
 ·rw[ts_app]
  exact rows_one h.rows hs h1 h2
theorem Mw.key (h:Mw w wr F mb N q p dv gv docs gone vs f) {k:Key} (hc:Ch (fun _=>False) wr wm) (ho:w2.ownsRow 0 9 1 gv' (p+1) (gone.map kv++[kv k]))
  (hg:wm.grownBy w2 gv.ownBlock) (hb:gv'.ownBlock=gv.ownBlock∨gv'.ownBlock=some wm.heap.size):Mw w w2 F mb N q (p+1) dv gv' docs (gone++[k]) vs f:=by
 have hC:Ch (fun b=>gv.ownBlock=some b) wr w2:=((Ch.refl _ wr).trans hc (fun _ _ h=>h.elim)).grown hg (fun _ h => .inl h)
 obtain⟨mf,m1,m2⟩:=h.mp
 have hd:=h.gg.app hc ho hg hb
 refine⟨⟨hC.own h.dg.own (fun g hg e=>h.ne g hg e),h.dg.lies,hd.ch⟩,?_,⟨mf,Mp.grown m1 h.gg.own hc hg,m2⟩,h.ml,fun g hgv=>?_,h.rows,h.kl⟩
 ·rw[List.map_append]
  exact hd
 ·rcases hb with e | e
  ·rw[e]; exact h.ne g hgv
  ·rw[e]
   intro h3
   injection h3 with h3
   have:=lt_blk h.dg.own hgv
   have:=hc.size
   omega
theorem Mw.dcs (h:Mw w wr F mb N q p dv gv docs gone vs f):∃ A c,dv = .slice A docs.length c∧q=docs.length∧Dcs wr (fun b=>F b∨w.heap.size≤b) A docs.length docs∧docs.length≤c∧c≤maxLen:=by
 obtain⟨A,c,ev,h1,h2⟩:=own_shape' h.dg.own
 have hlk:(ks docs).length=vs.length:=by rw[ks_len,h.kl]
 have hj:q=docs.length:=by
  have e1:=h.dg.own.1
  have e2:∀ (l:List Key) (us:List Value),l.length=us.length→(dcV l us).length=l.length*2:=fun l=>by
   induction l with
   | nil=>intro us _; cases us <;> rfl
   | cons a l ih =>
    intro us hl
    cases us with
    | nil=>simp at hl
    | cons u us =>
     simp only[dcV,List.length_cons]
     rw[ih us (by simpa using hl)]
     omega
  rw[e2 _ _ hlk,ks_len] at e1
  omega
 subst hj
 refine⟨A,c,ev,rfl,⟨rfl,fun hn=>?_⟩,h1,h2⟩
 rcases h.dg.own.2 with ⟨_,h0⟩ | ⟨g,cap,cur,hv,_,_,_⟩
 ·omega
 ·rw[ev] at hv
  injection hv with hA
  subst hA
  have how:=h.dg.own
  rw[ev] at how
  refine⟨g,0,rfl, .inr (h.dg.lies g (by rw[ev]; rfl)),fun i d hd=>?_⟩
  obtain⟨hi,_⟩:=List.getElem?_eq_some_iff.1 hd
  have hki:(ks docs)[i]? = some d.1:=by unfold Go.Sg.ks; rw[List.getElem?_map,hd]; rfl
  have hyi:(ts docs)[i]? = some d.2:=by unfold ts; rw[List.getElem?_map,hd]; rfl
  have hvi:i<vs.length:=by rw[←h.kl]; exact hi
  obtain⟨B,cB,eu,hsl,q1,q2⟩:=h.rows.2 i _ _ (List.getElem?_eq_getElem hvi) hyi
  obtain⟨c1,c2⟩:=dcV_at (ks docs) vs i d.1 _ hki (List.getElem?_eq_getElem hvi)
  rw[eu] at c2
  have k1:=how.cellAt (i*2) (by omega)
  have k2:=how.cellAt (i*2+1) (by omega)
  rw[c1] at k1
  rw[c2] at k2
  refine⟨[kv d.1, .slice B d.2.length cB],rfl,⟨B,cB,rfl,(hsl.ch h.dg.ch (fun _ _ _ h=>h)).mono (fun _ _ h => .inl h),q1,q2⟩,fun z u hu=>?_⟩
  rw[Nat.zero_add]
  match z,hu with
  | 0,hu=>simp at hu; subst hu; exact k1
  | 1,hu=>simp at hu; subst hu; exact k2
end
def SegP (w:World) (F:Nat→Prop) (u:Value):Option (List Dc×List Key)→Prop
 | none=>u = .pointer none
 | some s=>∃ b:Nat,u = .pointer (some ⟨b,0,none⟩)∧Rs w F b s.1 s.2
def Rps (w:World) (F:Nat→Prop) (A:Option Addr) (n:Nat) (os:List (Option (List Dc×List Key))):Prop:=∃ us:List Value,Vs w F A n us∧us.length=os.length∧∀ (i:Nat) (u:Value) (o:Option (List Dc×List Key)),us[i]? = some u→os[i]? = some o→SegP w F u o
section
variable {w w':World} {F G S:Nat→Prop} {A:Option Addr} {n:Nat} {os:List (Option (List Dc×List Key))}
theorem Rps.len (h:Rps w F A n os):os.length=n:=by
 obtain⟨us,h1,h2,_⟩:=h
 rw[←h2]
 exact h1.1
theorem Rps.get (h:Rps w F A n os) {j:Nat} (hj:j<n):∃ (b off:Nat) (u:Value) (o:Option (List Dc×List Key)),A=some ⟨b,off,none⟩∧F b∧os[j]? = some o∧w.cell? ⟨b,off+j,none⟩=some u∧SegP w F u o:=by
 obtain⟨us,h1,h2,h3⟩:=h
 obtain⟨b,off,e,hb,hc⟩:=h1.2 (by omega)
 have hu:us[j]? = some (us[j]'(by rw[h1.1]; exact hj)):=List.getElem?_eq_getElem _
 have ho:os[j]? = some (os[j]'(by rw[←h2,h1.1]; exact hj)):=List.getElem?_eq_getElem _
 exact⟨b,off,_,_,e,hb,ho,hc j _ hu,h3 j _ _ hu ho⟩
end
end
section
open Go.RowKit Go.Oct Go.Su Go.Sg Go.Fr Go.Mp
abbrev Sets:=List (List Dc×List Key)
def fD (l:Sets):List Dc:=l.flatMap (·.1)
def fK (l:Sets):List Key:=l.flatMap (·.2)
def lv (os:List (Option (List Dc×List Key))):Sets:=os.filterMap id
theorem lv_take {os:List (Option (List Dc×List Key))} {k:Nat} {s:List Dc×List Key} (h:os[k]? = some (some s)):lv (os.take (k+1))=lv (os.take k)++[s]:=by
 unfold lv
 rw[Oct.take_more h,List.filterMap_append]
 rfl
theorem fD_app (a b:Sets):fD (a++b)=fD a++fD b:=by simp[fD]
theorem fK_app (a b:Sets):fK (a++b)=fK a++fK b:=by simp[fK]
theorem lv_sub (os:List (Option (List Dc×List Key))) (k:Nat):(lv (os.take k)).Sublist (lv os):=(List.take_sublist k os).filterMap _
theorem sub_flat {α β:Type} (f:α→List β):∀ {a b:List α},a.Sublist b→(a.flatMap f).Sublist (b.flatMap f)
 | _,_, .slnil=>List.Sublist.refl _
 | _,_, .cons x h=>by
  rw[List.flatMap_cons]
  exact (sub_flat f h).trans (List.sublist_append_right _ _)
 | _,_, .cons_cons x h=>by
  rw[List.flatMap_cons,List.flatMap_cons]
  exact (List.Sublist.refl _).append (sub_flat f h)
theorem sub_sum:∀ {a b:List Nat},a.Sublist b→a.sum≤b.sum
 | _,_, .slnil=>Nat.le_refl _
 | _,_, .cons x h=>by
  have:=sub_sum h
  rw[List.sum_cons]
  omega
 | _,_, .cons_cons x h=>by
  have:=sub_sum h
  rw[List.sum_cons,List.sum_cons]
  omega
theorem Lite.sub {docs ds:List Dc} {gone gs:List Key} (h:Lite docs gone) (hd:ds.Sublist docs) (hg:gs.Sublist gone):Lite ds gs:=by
 refine⟨Nat.le_trans hd.length_le h.n,Nat.le_trans hg.length_le h.m,?_,Nat.le_trans (sub_flat kB (hd.map _)).length_le h.k,Nat.le_trans (sub_flat kB hg).length_le h.g⟩
 have h1:=h.b
 have e1:=beg_all (ts ds)
 have e2:=beg_all (ts docs)
 rw[ts_len] at e1 e2
 rw[e2] at h1
 rw[e1]
 exact Nat.le_trans (sub_sum ((hd.map _).map _)) h1
structure Mz (w wr:World) (F:Nat→Prop) (mb N q p:Nat) (dv gv:Value) (docs:List Dc) (gone:List Key) (vs:List Value) (f:Key→Option (Option (List Int))) (last:Bool) (D:List Dc) (K:List Key):Prop where
 mw:Mw w wr F mb N q p dv gv docs gone vs f
 mg:Mgu f last docs gone
 sd:docs.Sublist D
 sk:gone.Sublist K
 nn:N≤D.length+K.length
section
variable {w wr wm w2:World} {F:Nat→Prop} {mb N q p:Nat} {dv gv dv' gv':Value} {docs:List Dc} {gone:List Key} {vs:List Value} {f g:Key→Option (Option (List Int))} {last:Bool} {D:List Dc} {K:List Key}
theorem Mz.congr (h:Mz w wr F mb N q p dv gv docs gone vs f last D K) (e:∀ k,g k=f k):Mz w wr F mb N q p dv gv docs gone vs g last D K:=by
 have:g=f:=funext e
 rw[this]
 exact h
theorem Mz.more (h:Mz w wr F mb N q p dv gv docs gone vs f last D K) {D':List Dc} {K':List Key} (hD:D.Sublist D') (hK:K.Sublist K'):Mz w wr F mb N q p dv gv docs gone vs f last D' K' :=
 ⟨h.mw,h.mg,h.sd.trans hD,h.sk.trans hK,by have:=h.nn; have:=hD.length_le; have:=hK.length_le; omega⟩
theorem Mz.qn (h:Mz w wr F mb N q p dv gv docs gone vs f last D K):q=docs.length∧p=gone.length∧q≤D.length∧p≤K.length:=by
 obtain⟨_,_,_,h1,_⟩:=h.mw.dcs
 have h2:p=gone.length:=by have:=h.mw.gg.own.1; simpa using this.symm
 have h3:=h.sd.length_le
 have h4:=h.sk.length_le
 exact⟨h1,h2,by omega,by omega⟩
theorem Mz.start (w:World) (F:Nat→Prop) (last:Bool):Mz w (w.alloc (.map #[] 0)) F w.heap.size 0 0 0 (.slice none 0 0) (.slice none 0 0) [] [] [] (fun _=>none) last [] [] :=
 ⟨Mw.start w F,Mgu.start last,List.Sublist.refl _,List.Sublist.refl _,Nat.le_refl _⟩
end
def RMergeOf (os:List (Option (List Dc×List Key))) (last:Bool) (w:World) (e:Ending) (w':World):Prop :=
 (none∈os∧e = .returned (.tuple #[.pointer none, .int .i64 1])∧Ch (fun _=>False) w w') ∨
 (none∉os∧∃ (docs:List Dc) (gone:List Key),Mgu (first (lv os)) last docs gone∧docs.Sublist (fD (lv os))∧gone.Sublist (fK (lv os))∧RNewOf docs gone w e w')
theorem RNewOf.back {docs:List Dc} {gone:List Key} {w w1 w':World} {e:Ending} (h:RNewOf docs gone w1 e w') (hc:Ch (fun _=>False) w w1):RNewOf docs gone w e w':=by
 obtain⟨ec,ds,gs,h1,h2,h3⟩:=h
 refine⟨ec,ds,gs,h1,hc.trans h2 (fun _ _ h=>h),?_⟩
 rcases h3 with h3 | ⟨e1,b,e2,hr⟩
 ·exact .inl h3
 ·exact .inr ⟨e1,b,e2,hr.mono (fun _ _ hb=>Nat.le_trans hc.size hb)⟩
section
variable {F:Nat→Prop}
theorem rmerge_any (os:List (Option (List Dc×List Key))) (last:Bool) (A:Option Addr) (n c:Nat) (w:World) (hz:Rps w F A n os) (hlt:Lite (fD (lv os)) (fK (lv os))) (hby:∀ d∈fD (lv os),∀ x∈d.2,0≤x∧x<256) (hn:n≤10000) :
  Calls Tryz.prog 26 #[.bool last, .slice A n c] w (RMergeOf os last w):=by
 have HL:=Bx.mk hz.len
 have HZ:=Bx.mk hz
 have HLT:=Bx.mk hlt
 have HBY:=Bx.mk hby
 have HM0:=Bx.mk (Mz.start w F last)
 clear hz hlt hby
 have hmm := @run_makeMap Tryz.prog
 go_enter Tryz.func26,Tryz.ntmps26
 go_wp2_with fail
 clear hmm
 generalize hmb:w.heap.size=mb at *
 generalize w.alloc (.map #[] 0)=w0 at *
 go_loopw [6,7,9,10,11] (fun dv gv i _ _ wr=>∃ (k N q p:Nat) (docs:List Dc) (gone:List Key) (vs:List Value),k≤n∧i = .int .i64 k∧Bx (∀ j:Nat,j<k→os[j]? ≠ some none)∧Bx (Mz w wr F mb N q p dv gv docs gone vs (first (lv (os.take k))) last (fD (lv (os.take k))) (fK (lv (os.take k))))) (fun _ _ i _ _ _=>n-(intOf i).toNat)
 case atStart=>exact⟨0,0,0,0,[],[],[],Nat.zero_le _,rfl,⟨fun j hj=>absurd hj (by omega)⟩,HM0⟩
 case round =>
  obtain⟨k,N,q,p,docs,gone,vs,hk,rfl,hno,hMz⟩:=hrel
  by_cases hkn:k<n
  ·have dk:decide ((k:Int)<(n:Int))=true:=decide_eq_true (by omega)
   have i1:(k:Int)<(n:Int):=by omega
   obtain⟨b0,o0,u,o,rfl,_,ho,hcu0,hP⟩:=HZ.out.get hkn
   have hcu:=hMz.out.mw.dg.ch.cell (p:=⟨b0,o0+k,none⟩) (fun h=>h) hcu0
   rcases o with _ | st
   ·obtain rfl:u = .pointer none:=hP
    have HO:=Bx.mk (List.mem_of_getElem? ho)
    have HC:=Bx.mk hMz.out.mw.dg.ch
    clear ho hcu0 hMz
    go_wp2_with fail
    go_ret2
    exact .inl ⟨HO.out,rfl,HC.out⟩
   ·obtain⟨bs,hu,hRs⟩:=hP
    subst hu
    obtain⟨ds,gs⟩:=st
    obtain⟨A1,c1,B1,d1,k1,k2,k3,k4,_,_,_,_,_⟩:=hRs
    obtain⟨a,ha⟩:∃ a,ds.length=a:=⟨_,rfl⟩
    obtain⟨g,hg⟩:∃ g,gs.length=g:=⟨_,rfl⟩
    simp only at k1 k2 k3 k4
    rw[ha] at k1 k3
    rw[hg] at k2 k4
    have HW:Bx (∀ W,Ch (fun _=>False) w W→W.cell? ⟨b0,o0+k,none⟩=some (.pointer (some ⟨bs,0,none⟩))∧W.cell? ⟨bs,0,none⟩=some (.slice A1 a c1)∧W.cell? ⟨bs,1,none⟩=some (.slice B1 g d1)):=⟨fun W h=>⟨h.cell (p:=⟨b0,o0+k,none⟩) (fun h=>h) hcu0,h.cell (p:=⟨bs,0,none⟩) (fun h=>h) k1,h.cell (p:=⟨bs,1,none⟩) (fun h=>h) k2⟩⟩
    have HTK:=Bx.mk (lv_take ho)
    have hbd:(fD (lv (os.take k))).length+a≤10000∧(fK (lv (os.take k))).length+g≤10000:=by
     have h1:=(sub_flat (·.1) (lv_sub os (k+1))).length_le
     have h2:=(sub_flat (·.2) (lv_sub os (k+1))).length_le
     rw[HTK.out] at h1 h2
     have h3:=HLT.out.n
     have h4:=HLT.out.m
     have e1:List.flatMap (fun x=>x.1) (lv (os.take k)++[(ds,gs)])=fD (lv (os.take k))++ds:=by simp[fD]
     have e2:List.flatMap (fun x=>x.2) (lv (os.take k)++[(ds,gs)])=fK (lv (os.take k))++gs:=by simp[fK]
     rw[e1,List.length_append,ha] at h1
     rw[e2,List.length_append,hg] at h2
     unfold fD fK at *
     omega
    obtain⟨A6,c6,rfl,_,_⟩:=own_shape' hMz.out.mw.dg.own
    obtain⟨A7,c7,rfl,_,_⟩:=own_shape' hMz.out.mw.gg.own
    have HO:=Bx.mk ho
    have HA:=Bx.mk ha
    have HG:=Bx.mk hg
    have HD:=Bx.mk k3
    have HK:=Bx.mk k4
    have HBD:=Bx.mk hbd
    have hKL:Bx (∀ d∈ds,d.1.length≤100000):=⟨fun d hd=>by
     have h1:=flat_kB_le (l:=ks (fD (lv os))) (k:=d.1) (List.mem_map.2 ⟨d,List.mem_flatMap.2 ⟨(ds,gs),List.mem_filterMap.2 ⟨some (ds,gs),List.mem_of_getElem? ho,rfl⟩,hd⟩,rfl⟩)
     have h2:=kB_len d.1
     have h3:=HLT.out.k
     omega⟩
    have hGL:Bx (∀ d∈gs,d.length≤100000):=⟨fun d hd=>by
     have h1:=flat_kB_le (l:=fK (lv os)) (k:=d) (List.mem_flatMap.2 ⟨(ds,gs),List.mem_filterMap.2 ⟨some (ds,gs),List.mem_of_getElem? ho,rfl⟩,hd⟩)
     have h2:=kB_len d
     have h3:=HLT.out.g
     omega⟩
    have hab:a≤10000:=by omega
    have hgb:g≤10000:=by omega
    clear ho hcu0 ha hg k1 k2 k3 k4 hbd
    go_wp2_with fail
    obtain⟨DK,hDK⟩:∃ DK,fD (lv (os.take k))=DK:=⟨_,rfl⟩
    obtain⟨KK,hKK⟩:∃ KK,fK (lv (os.take k))=KK:=⟨_,rfl⟩
    obtain⟨fk,hfk⟩:∃ fk,first (lv (os.take k))=fk:=⟨_,rfl⟩
    rw[hDK,hKK] at HBD hMz
    rw[hfk] at hMz
    go_loopw [6,10] (fun dv i wr=>∃ (j N q:Nat) (docs:List Dc) (vs:List Value),j≤a∧i = .int .i64 j∧Bx (Mz w wr F mb N q p dv (.slice A7 p c7) docs gone vs (upD fk (ds.take j)) last (DK++ds.take j) KK)) (fun _ i _=>a-(intOf i).toNat)
    case atStart=>exact⟨0,N,q,docs,vs,Nat.zero_le _,rfl,⟨by simpa using hMz.out.congr (upD_zero fk)⟩⟩
    case round =>
     obtain⟨j,N,q,docs,vs,hj,rfl,hMz⟩:=hrel
     obtain⟨hw1,hw2,hw3⟩:=HW.out wr hMz.out.mw.dg.ch
     by_cases hja:j<a
     ·have dj:decide ((j:Int)<(a:Int))=true:=decide_eq_true (by omega)
      have i2:(j:Int)<(a:Int):=by omega
      obtain⟨bd,od,dc,Bt,ct,rfl,_,hd,hck0,hct0,hst,ht1,ht2⟩:=HD.out.get hja
      obtain⟨SD,hSD⟩:∃ S:ByteArray,(⟨dc.1.toArray⟩:ByteArray)=S:=⟨_,rfl⟩
      have hkv:kv dc.1 = .string SD:=by unfold kv; rw[hSD]
      have hSDk:SD.data.toList=dc.1:=by rw[←hSD]
      rw[hkv] at hck0
      have hsz:SD.size≤maxLen:=by
       have h1:=hKL.out dc (List.mem_of_getElem? hd.out)
       have h2:SD.size=dc.1.length:=by rw[←hSDk]; simp
       unfold maxLen
       omega
      obtain⟨tl,htl⟩:∃ tl,dc.2.length=tl:=⟨_,rfl⟩
      rw[htl] at hct0
      have HWD:Bx (∀ W,Ch (fun _=>False) w W→W.cell? ⟨bd,od+j*2,none⟩=some (.string SD)∧W.cell? ⟨bd,od+j*2+1,none⟩=some (.slice Bt tl ct)):=⟨fun W h=>⟨h.cell (p:=⟨bd,od+j*2,none⟩) (fun h=>h) hck0,h.cell (p:=⟨bd,od+j*2+1,none⟩) (fun h=>h) hct0⟩⟩
      obtain⟨hw4,hw5⟩:=HWD.out wr hMz.out.mw.dg.ch
      have hlk:=hMz.out.mw.look hSDk hsz
      have htk:ds.take (j+1)=ds.take j++[dc]:=Oct.take_more hd.out
      by_cases hs:(upD fk (ds.take j) dc.1).isSome=true
      ·rw[hs] at hlk
       have HMN:Bx (Mz w wr F mb N q p u6 (.slice A7 p c7) docs gone vs (upD fk (ds.take (j+1))) last (DK++ds.take (j+1)) KK):=⟨by
        rw[htk]
        exact (hMz.out.more (by rw[←List.append_assoc]; exact List.sublist_append_left _ _) (List.Sublist.refl _)).congr (upD_seen (fun e=>by rw[e] at hs; simp at hs))⟩
       clear hs hMz hsz hkv hSDk hSD htl hst ht2 hd htk hck0 hct0
       go_wp2_with fail
       go_roundw
       case rel=>exact⟨j+1,N,q,docs,vs,by omega,by go_num,HMN⟩
       case measure=>simp[intOf]; omega
      ·have hnone:upD fk (ds.take j) dc.1=none:=by
        cases h:upD fk (ds.take j) dc.1 with
        | none=>rfl
        | some x=>rw[h] at hs; simp at hs
       have hs2:(upD fk (ds.take j) dc.1).isSome=false:=by rw[hnone]; rfl
       rw[hs2] at hlk
       have hq2:=hMz.out.qn.2.2.1
       have hjt:(ds.take j).length=j:=by rw[List.length_take,HA.out]; omega
       rw[List.length_append,hjt] at hq2
       have hNb:N≤40000:=by
        have h1:=hMz.out.nn
        have h2:=HBD.out
        rw[List.length_append,hjt] at h1
        omega
       have hqb:q≤20000:=by have h2:=HBD.out; omega
       obtain⟨w3,hpt,hM3⟩:=hMz.out.mw.put hSDk hsz (by unfold maxLen; omega) (some dc.2)
       obtain⟨hx1,hx2,hx3⟩:=HW.out w3 hM3.dg.ch
       obtain⟨hx4,hx5⟩:=HWD.out w3 hM3.dg.ch
       have HM3:=Bx.mk hM3
       obtain⟨A8,c8,rfl,_,_⟩:=own_shape' hM3.dg.own
       have HST:=Bx.mk hst
       have HKV:=Bx.mk hkv
       have HTL:=Bx.mk htl
       have HT1:=Bx.mk ht1
       have HT2:=Bx.mk ht2
       have HNO:=Bx.mk hnone
       have HTK2:=Bx.mk htk
       have HJT:=Bx.mk hjt
       clear hs hs2 hnone hM3 hsz hkv hSDk hSD htl hst ht1 ht2 hd htk hck0 hct0 hjt
       go_wp2_with (at_builtin; refine wp_appK rfl (.tmp 62) (.tmp 73) elemD rfl rfl (HM3.out.dg.own.alloc _) rfl (m:=1) rfl (doc_cells w3 SD _ _ rfl) ?c1 ?c2 ?c3 ?_)
       case c1=>intro u hu; simp at hu; rcases hu with hu | hu <;> (subst hu; rfl)
       case c2=>omega
       case c3=>omega
       intro v5 w5 ho5 hg5 hb5
       have HM5:=Bx.mk (HM3.out.doc (d:=dc) (by rw[HTL.out]; rw[HTL.out] at HST; exact HST.out) (by rw[HTL.out]; rw[HTL.out] at HT1; exact HT1.out) HT2.out ((Ch.refl (fun _=>False) w3).alloc _) (by rw[HKV.out,HTL.out]; exact ho5) hg5 (by rw[World.size_alloc]; exact hb5))
       have HMN:Bx (Mz w w5 F mb (N+1) (q+1) p v5 (.slice A7 p c7) (docs++[dc]) gone (vs++[.slice Bt dc.2.length ct]) (upD fk (ds.take (j+1))) last (DK++ds.take (j+1)) KK):=⟨by
        have hnn:=hMz.out.nn
        rw[HTK2.out]
        refine⟨HM5.out.congr (upD_new HNO.out),(hMz.out.mg.push HNO.out dc.2).congr (upD_new HNO.out),by rw[←List.append_assoc]; exact hMz.out.sd.append (List.Sublist.refl _),hMz.out.sk,?_⟩
        simp only[List.length_append,List.length_cons,List.length_nil] at hnn ⊢
        omega⟩
       clear ho5 hg5 hb5 HM5 HM3
       go_wp2_with fail
       go_roundw
       case rel=>exact⟨j+1,N+1,q+1,_,_,by omega,by go_num,HMN⟩
       case measure=>simp[intOf]; omega
     ·obtain rfl:a=j:=by omega
      have dj:decide ((a:Int)<(a:Int))=false:=decide_eq_false (by omega)
      have hall:ds.take a=ds:=List.take_of_length_le (Nat.le_of_eq HA.out)
      rw[hall] at hMz
      clear hall
      obtain⟨A8,c8,rfl,_,_⟩:=own_shape' hMz.out.mw.dg.own
      go_wp2_with fail
      go_loopw [7,11] (fun gv i wr=>∃ (j N p:Nat) (gone:List Key),j≤g∧i = .int .i64 j∧Bx (Mz w wr F mb N q p (.slice A8 q c8) gv docs gone vs (upG fk ds (gs.take j)) last (DK++ds) (KK++gs.take j))) (fun _ i _=>g-(intOf i).toNat)
      case atStart=>exact⟨0,N,p,gone,Nat.zero_le _,rfl,⟨by simpa using hMz.out.congr (upG_zero fk ds)⟩⟩
      case round =>
       obtain⟨j,N,p,gone,hj,rfl,hMz⟩:=hrel
       obtain⟨hw1,hw2,hw3⟩:=HW.out wr hMz.out.mw.dg.ch
       by_cases hja:j<g
       ·have dj:decide ((j:Int)<(g:Int))=true:=decide_eq_true (by omega)
        have i2:(j:Int)<(g:Int):=by omega
        obtain⟨bd,od,key,rfl,_,hd,hck0⟩:=HK.out.at_ hja
        obtain⟨SD,hSD⟩:∃ S:ByteArray,(⟨key.toArray⟩:ByteArray)=S:=⟨_,rfl⟩
        have hkv:kv key = .string SD:=by unfold kv; rw[hSD]
        have hSDk:SD.data.toList=key:=by rw[←hSD]
        rw[hkv] at hck0
        have hsz:SD.size≤maxLen:=by
         have h1:=hGL.out key (List.mem_of_getElem? hd.out)
         have h2:SD.size=key.length:=by rw[←hSDk]; simp
         unfold maxLen
         omega
        have HWD:Bx (∀ W,Ch (fun _=>False) w W→W.cell? ⟨bd,od+j,none⟩=some (.string SD)):=⟨fun W h=>h.cell (p:=⟨bd,od+j,none⟩) (fun h=>h) hck0⟩
        have hw4:=HWD.out wr hMz.out.mw.dg.ch
        have hlk:=hMz.out.mw.look hSDk hsz
        have htk:gs.take (j+1)=gs.take j++[key]:=Oct.take_more hd.out
        by_cases hs:(upG fk ds (gs.take j) key).isSome=true
        ·rw[hs] at hlk
         have HMN:Bx (Mz w wr F mb N q p (.slice A8 q c8) u7 docs gone vs (upG fk ds (gs.take (j+1))) last (DK++ds) (KK++gs.take (j+1))):=⟨by
          rw[htk]
          exact (hMz.out.more (List.Sublist.refl _) (by rw[←List.append_assoc]; exact List.sublist_append_left _ _)).congr (upG_seen (fun e=>by rw[e] at hs; simp at hs))⟩
         clear hs hMz hsz hkv hSDk hSD hd htk hck0
         go_wp2_with fail
         go_roundw
         case rel=>exact⟨j+1,N,p,gone,by omega,by go_num,HMN⟩
         case measure=>simp[intOf]; omega
        ·have hnone:upG fk ds (gs.take j) key=none:=by
          cases h:upG fk ds (gs.take j) key with
          | none=>rfl
          | some x=>rw[h] at hs; simp at hs
         have hs2:(upG fk ds (gs.take j) key).isSome=false:=by rw[hnone]; rfl
         rw[hs2] at hlk
         have hq2:=hMz.out.qn.2.2.2
         have hjt:(gs.take j).length=j:=by rw[List.length_take,HG.out]; omega
         rw[List.length_append,hjt] at hq2
         have hNb:N≤40000:=by
          have h1:=hMz.out.nn
          have h2:=HBD.out
          rw[List.length_append,List.length_append,hjt,HA.out] at h1
          omega
         have hpb:p≤20000:=by have h2:=HBD.out; omega
         obtain⟨w3,hpt,hM3⟩:=hMz.out.mw.put hSDk hsz (by unfold maxLen; omega) none
         obtain⟨hx1,hx2,hx3⟩:=HW.out w3 hM3.dg.ch
         have hx4:=HWD.out w3 hM3.dg.ch
         have HM3:=Bx.mk hM3
         obtain⟨A9,c9,rfl,_,_⟩:=own_shape' hM3.gg.own
         have HKV:=Bx.mk hkv
         have HNO:=Bx.mk hnone
         have HTK2:=Bx.mk htk
         have HJT:=Bx.mk hjt
         clear hs hs2 hnone hM3 hsz hkv hSDk hSD hd htk hck0 hjt
         cases last with
         | true =>
          have HMN:Bx (Mz w w3 F mb (N+1) q p (.slice A8 q c8) (.slice A9 p c9) docs gone vs (upG fk ds (gs.take (j+1))) true (DK++ds) (KK++gs.take (j+1))):=⟨by
           have hnn:=hMz.out.nn
           rw[HTK2.out]
           refine⟨HM3.out.congr (upG_new HNO.out),(hMz.out.mg.lose HNO.out).congr (upG_new HNO.out),hMz.out.sd,by rw[←List.append_assoc]; exact hMz.out.sk.trans (List.sublist_append_left _ _),?_⟩
           simp only[List.length_append,List.length_cons,List.length_nil] at hnn ⊢
           omega⟩
          clear HM3
          go_wp2_with fail
          go_roundw
          case rel=>exact⟨j+1,N+1,p,gone,by omega,by go_num,HMN⟩
          case measure=>simp[intOf]; omega
         | false =>
          go_wp2_with (at_builtin; refine wp_app rfl (.tmp 113) (.tmp 124) elemS rfl rfl (HM3.out.gg.own.alloc _) rfl (Vs.one _ _ _) ?c1 ?c2 ?c3 ?_)
          case c1=>intro u hu; simp at hu; subst hu; rfl
          case c2=>omega
          case c3=>omega
          intro v5 w5 ho5 hg5 hb5
          have HM5:=Bx.mk (HM3.out.key (k:=key) ((Ch.refl (fun _=>False) w3).alloc _) (by rw[HKV.out]; exact ho5) hg5 (by rw[World.size_alloc]; exact hb5))
          have HMN:Bx (Mz w w5 F mb (N+1) q (p+1) (.slice A8 q c8) v5 docs (gone++[key]) vs (upG fk ds (gs.take (j+1))) false (DK++ds) (KK++gs.take (j+1))):=⟨by
           have hnn:=hMz.out.nn
           rw[HTK2.out]
           refine⟨HM5.out.congr (upG_new HNO.out),(hMz.out.mg.drop HNO.out).congr (upG_new HNO.out),hMz.out.sd,by rw[←List.append_assoc]; exact hMz.out.sk.append (List.Sublist.refl _),?_⟩
           simp only[List.length_append,List.length_cons,List.length_nil] at hnn ⊢
           omega⟩
          clear ho5 hg5 hb5 HM5 HM3
          go_wp2_with fail
          go_roundw
          case rel=>exact⟨j+1,N+1,p+1,_,by omega,by go_num,HMN⟩
          case measure=>simp[intOf]; omega
       ·obtain rfl:g=j:=by omega
        have dj:decide ((g:Int)<(g:Int))=false:=decide_eq_false (by omega)
        have hall:gs.take g=gs:=List.take_of_length_le (Nat.le_of_eq HG.out)
        have HMN:Bx (Mz w wr F mb N q p (.slice A8 q c8) u7 docs gone vs (first (lv (os.take (k+1)))) last (fD (lv (os.take (k+1)))) (fK (lv (os.take (k+1))))):=⟨by
         have h:=hMz.out
         rw[hall] at h
         rw[HTK.out,fD_app,fK_app,hDK,hKK]
         have e1:fD [(ds,gs)]=ds:=by simp[fD]
         have e2:fK [(ds,gs)]=gs:=by simp[fK]
         rw[e1,e2]
         refine h.congr fun x=>?_
         rw[←upG_all,hfk]⟩
        have HNO:Bx (∀ j:Nat,j<k+1→os[j]? ≠ some none):=⟨fun j hj e=>by
         rcases Nat.lt_or_ge j k with h | h
         ·exact hno.out j h e
         ·obtain rfl:j=k:=by omega
          rw[HO.out] at e
          injection e with e
          simp at e⟩
        clear hall hMz hno
        go_wp2_with fail
        go_roundw
        case rel=>exact⟨k+1,N,q,p,docs,gone,vs,by omega,by go_num,HNO,HMN⟩
        case measure=>simp[intOf]; omega
  ·obtain rfl:n=k:=by omega
   have dk:decide ((n:Int)<(n:Int))=false:=decide_eq_false (by omega)
   have hall:os.take n=os:=List.take_of_length_le (Nat.le_of_eq HL.out)
   rw[hall] at hMz
   obtain⟨A6,c6,rfl,hq,hDc,_,_⟩:=hMz.out.mw.dcs
   obtain⟨A7,c7,rfl,hc7,hd7⟩:=own_shape' hMz.out.mw.gg.own
   have HNW:=Bx.mk (rnew_any docs gone A6 A7 docs.length c6 p c7 wr hDc hMz.out.mw.gg.vs (HLT.out.sub hMz.out.sd hMz.out.sk) hc7 hd7 (fun d hd=>HBY.out d (hMz.out.sd.subset hd)))
   have HNN:Bx (none∉os):=⟨fun h=>by
    obtain⟨j,hj,e⟩:=List.mem_iff_getElem.1 h
    exact hno.out j (by rw[←HL.out]; exact hj) (by rw[List.getElem?_eq_getElem hj,e])⟩
   have HC:=Bx.mk hMz.out.mw.dg.ch
   have HMG:=Bx.mk hMz.out.mg
   have HSD:=Bx.mk hMz.out.sd
   have HSK:=Bx.mk hMz.out.sk
   clear hq hDc hMz hall hno hd7
   go_wp2_with fail
   refine HNW.out.mono ?_
   rintro e w1 hR
   obtain⟨ec,ds,gs,hres,hc1,ho⟩:=hR.back HC.out
   have HRES:=Bx.mk hres
   have HC1:=Bx.mk hc1
   clear hR hres hc1 HNW
   rcases ho with ⟨h0,rfl⟩ | ⟨rfl,b,rfl,hrs⟩
   ·have H0:=Bx.mk h0
    clear h0
    go_wp2_with fail
    go_ret2
    exact .inr ⟨HNN.out,docs,gone,HMG.out,HSD.out,HSK.out,ec,ds,gs,HRES.out,HC1.out, .inl ⟨H0.out,rfl⟩⟩
   ·have HRS:=Bx.mk hrs
    clear hrs
    go_wp2_with fail
    go_ret2
    exact .inr ⟨HNN.out,docs,gone,HMG.out,HSD.out,HSK.out,0,ds,gs,HRES.out,HC1.out, .inr ⟨rfl,b,rfl,HRS.out⟩⟩
end
end
section
open Go.RowKit Go.Oct Go.Su Go.Sg Go.Fr Go.Mp
def wD (l:List Dc):Nat:=(l.map fun d=>5+d.1.length+d.2.length).sum
def wK (l:List Key):Nat:=(l.map fun k=>5+k.length).sum
def wS (l:Sets):Nat:=(l.map fun s=>wD s.1+wK s.2).sum
theorem wD_app (a b:List Dc):wD (a++b)=wD a+wD b:=by simp[wD]
theorem wK_app (a b:List Key):wK (a++b)=wK a+wK b:=by simp[wK]
theorem wS_app (a b:Sets):wS (a++b)=wS a+wS b:=by simp[wS]
theorem wS_flat:∀ l:Sets,wD (fD l)+wK (fK l)=wS l
 | []=>rfl
 | s::l=>by
  have h:=wS_flat l
  have e1:fD (s::l)=s.1++fD l:=rfl
  have e2:fK (s::l)=s.2++fK l:=rfl
  have e3:wS (s::l)=wD s.1+wK s.2+wS l:=rfl
  rw[e1,e2,e3,wD_app,wK_app]
  omega
theorem encN_le (n:Nat):(encN n).length≤n+1:=by
 induction n using Nat.strongRecOn with
 | _ n ih =>
  rcases Nat.lt_or_ge n 128 with h | h
  ·rw[encN_small h]
   simp
  ·rw[encN_big h,List.length_cons]
   have:=ih (n/128) (by omega)
   omega
theorem wD_len:∀ l:List Dc,l.length*5≤wD l∧beg (ts l) (ts l).length≤wD l∧((ks l).flatMap kB).length≤3*wD l
 | []=>⟨Nat.le_refl _,Nat.le_refl _,Nat.le_refl _⟩
 | d::l=>by
  obtain⟨h1,h2,h3⟩:=wD_len l
  have e:wD (d::l)=5+d.1.length+d.2.length+wD l:=rfl
  have e2:beg (ts (d::l)) (ts (d::l)).length=d.2.length+1+beg (ts l) (ts l).length:=by
   rw[beg_all,beg_all]
   rfl
  have e3:((ks (d::l)).flatMap kB).length=(kB d.1).length+((ks l).flatMap kB).length:=by
   rw[show ks (d::l)=d.1::ks l from rfl,List.flatMap_cons,List.length_append]
  have e4:(kB d.1).length≤1+2*d.1.length:=by
   unfold kB rowB
   rw[List.length_append,kI_len]
   have:=encN_le d.1.length
   omega
  rw[e,e2,e3,List.length_cons]
  omega
theorem wK_len:∀ l:List Key,l.length*5≤wK l∧(l.flatMap kB).length≤3*wK l
 | []=>⟨Nat.le_refl _,Nat.le_refl _⟩
 | k::l=>by
  obtain⟨h1,h2⟩:=wK_len l
  have e:wK (k::l)=5+k.length+wK l:=rfl
  have e4:(kB k).length≤1+2*k.length:=by
   unfold kB rowB
   rw[List.length_append,kI_len]
   have:=encN_le k.length
   omega
  rw[e,List.flatMap_cons,List.length_append,List.length_cons]
  omega
theorem lite_of {docs:List Dc} {gone:List Key} (h:wD docs+wK gone≤1500):Lite docs gone:=by
 obtain⟨h1,h2,h3⟩:=wD_len docs
 obtain⟨h4,h5⟩:=wK_len gone
 rw[ts_len] at h2
 exact⟨by omega,by omega,by omega,by omega,by omega⟩
def HeavyOf (l:Sets) (w:World) (e:Ending) (w':World):Prop:=∃ o:Bool,e = .returned (.bool o)∧Ch (fun _=>False) w w'∧(o=false→wS l≤1500∧l.length≤8)
theorem HeavyOf.yes {l:Sets} {w w':World} (hc:Ch (fun _=>False) w w'):HeavyOf l w (.returned (.bool true)) w':=⟨true,rfl,hc,fun h=>by simp at h⟩
section
variable {F:Nat→Prop}
theorem heavyset_any (l:Sets) (A:Option Addr) (n c:Nat) (w:World) (hz:Sts w F A n l) (hok:∀ s∈l,SetOk s) (hn:n≤c) (hcm:c≤maxLen) :
  Calls Tryz.prog 12 #[.slice A n c] w (HeavyOf l w):=by
 have HL:=Bx.mk hz.len
 have HZ:=Bx.mk hz
 have HOK:=Bx.mk hok
 have hnm:n≤9223372036854775807:=by unfold maxLen at hcm; omega
 clear hz hok hcm
 go_enter Tryz.func12,Tryz.ntmps12
 go_wp2_with fail
 go_loopw [3,4,5,6] (fun q i _ _ wr=>∃ k N:Nat,k≤n∧q = .int .i64 N∧i = .int .i64 k∧N≤1500∧Bx (wS (l.take k)=N)∧Ch (fun _=>False) w wr) (fun _ i _ _ _=>n-(intOf i).toNat)
 case atStart=>exact⟨0,0,Nat.zero_le _,rfl,rfl,Nat.zero_le _,⟨rfl⟩,Ch.refl _ _⟩
 case round =>
  obtain⟨k,N,hk,rfl,rfl,hN,hS,hC⟩:=hrel
  by_cases hkn:k<n
  ·have dk:decide ((k:Int)<(n:Int))=true:=decide_eq_true (by omega)
   have i1:(k:Int)<(n:Int):=by omega
   obtain⟨b,off,s,B,c1,D,d1,rfl,_,hs,k1,k2,k3,k4,hc1,hcm1,hd1,hdm1⟩:=HZ.out.get hkn
   have HT:=Bx.mk (Oct.take_more hs.out)
   obtain⟨ok1,ok2⟩:=HOK.out s (List.mem_of_getElem? hs.out)
   obtain⟨ds,gs⟩:=s
   simp only at k1 k2 k3 k4 hc1 hd1 ok1 ok2
   obtain⟨a,ha⟩:∃ a,ds.length=a:=⟨_,rfl⟩
   obtain⟨g,hg⟩:∃ g,gs.length=g:=⟨_,rfl⟩
   rw[ha] at k1 k3 hc1
   rw[hg] at k2 k4 hd1
   have HW:Bx (∀ W,Ch (fun _=>False) w W→W.cell? ⟨b,off+k*2,none⟩=some (.slice B a c1)∧W.cell? ⟨b,off+k*2+1,none⟩=some (.slice D g d1)):=⟨fun W h=>⟨h.cell (p:=⟨b,off+k*2,none⟩) (fun h=>h) k1,h.cell (p:=⟨b,off+k*2+1,none⟩) (fun h=>h) k2⟩⟩
   have HA:=Bx.mk ha
   have HG:=Bx.mk hg
   have HD:=Bx.mk k3
   have HK:=Bx.mk k4
   have HO1:=Bx.mk ok1
   have HO2:=Bx.mk ok2
   have ham:a≤9223372036854775807:=by unfold maxLen at hcm1; omega
   have hgm:g≤9223372036854775807:=by unfold maxLen at hdm1; omega
   clear hs k1 k2 k3 k4 ha hg ok1 ok2 hcm1 hdm1
   go_wp2_with fail
   go_loopw [3,5] (fun q i wr=>∃ j M:Nat,j≤a∧q = .int .i64 M∧i = .int .i64 j∧M≤1500∧Bx (N+wD (ds.take j)=M)∧Ch (fun _=>False) w wr) (fun _ i _=>a-(intOf i).toNat)
   case atStart=>exact⟨0,N,Nat.zero_le _,rfl,rfl,hN,⟨rfl⟩,hC⟩
   case round =>
    obtain⟨j,M,hj,rfl,rfl,hM,hSM,hC⟩:=hrel
    obtain⟨hw1,hw2⟩:=HW.out wr hC
    by_cases hja:j<a
    ·have dj:decide ((j:Int)<(a:Int))=true:=decide_eq_true (by omega)
     have i2:(j:Int)<(a:Int):=by omega
     obtain⟨bd,od,dc,Bt,ct,rfl,_,hd,hck0,hct0,_,ht1,ht2⟩:=HD.out.get hja
     have hck:=hC.cell (p:=⟨bd,od+j*2,none⟩) (fun h=>h) hck0
     have hct:=hC.cell (p:=⟨bd,od+j*2+1,none⟩) (fun h=>h) hct0
     obtain⟨hkb,htb,_⟩:=HO1.out dc (List.mem_of_getElem? hd.out)
     obtain⟨SD,hSD⟩:∃ S:ByteArray,(⟨dc.1.toArray⟩:ByteArray)=S:=⟨_,rfl⟩
     have hkv:kv dc.1 = .string SD:=by unfold kv; rw[hSD]
     have hsz:SD.size=dc.1.length:=by rw[←hSD]; exact kv_size dc.1
     rw[hkv] at hck
     have HT2:=Bx.mk (Oct.take_more hd.out)
     obtain⟨kn,hkn2⟩:∃ kn,dc.1.length=kn:=⟨_,rfl⟩
     obtain⟨tl,htl⟩:∃ tl,dc.2.length=tl:=⟨_,rfl⟩
     rw[hkn2] at hsz hkb
     rw[htl] at hct hct0 htb ht1
     obtain⟨M1,hM1⟩:∃ q,M+5=q:=⟨_,rfl⟩
     obtain⟨M2,hM2⟩:∃ q,M1+kn=q:=⟨_,rfl⟩
     obtain⟨T,hT⟩:∃ q,M2+tl=q:=⟨_,rfl⟩
     have f1:IntKind.i64.wrap ((M:Int)+5)=(M1:Int):=by rw[IntWalk.i64_in _ (by omega)]; omega
     have f2:IntKind.i64.wrap ((M1:Int)+(kn:Int))=(M2:Int):=by rw[IntWalk.i64_in _ (by omega)]; omega
     have f3:IntKind.i64.wrap ((M2:Int)+(tl:Int))=(T:Int):=by rw[IntWalk.i64_in _ (by omega)]; omega
     have HSM:Bx (N+wD (ds.take (j+1))=T):=⟨by
      rw[HT2.out,wD_app]
      have e:wD [dc]=5+dc.1.length+dc.2.length:=rfl
      have:=hSM.out
      omega⟩
     have hT0:tl≤T:=by omega
     have HCT0:=Bx.mk hct0
     clear hd hck0 hct0 hkv hSD hkn2 htl hM1 hM2 hT hkb htb hSM
     by_cases hbig:1500<T
     ·have e1:decide ((1500:Int)<(T:Int))=true:=decide_eq_true (by omega)
      have e2:decide (1500<T)=true:=decide_eq_true hbig
      go_wp2_with fail
      go_quiet (fail)
      clear f1 f2 f3
      have HQ:=Bx.mk (hC.drewN nq)
      go_wp2_with fail
      go_ret
      exact HeavyOf.yes HQ.out
     ·have e1:decide ((1500:Int)<(T:Int))=false:=decide_eq_false (by omega)
      have e2:decide (1500<T)=false:=decide_eq_false hbig
      have e3:decide ((1500:Int)<(tl:Int))=false:=decide_eq_false (by omega)
      have e4:decide (1500<tl)=false:=decide_eq_false (by omega)
      go_wp2_with fail
      go_quiet (fail)
      clear f1 f2 f3
      have HQ:=Bx.mk (hC.drewN nq)
      obtain⟨hx1,hx2⟩:=HW.out _ HQ.out
      have hx3:=HQ.out.cell (p:=⟨bd,od+j*2+1,none⟩) (fun h=>h) HCT0.out
      go_wp2_with fail
      go_roundw
      case rel=>exact⟨j+1,T,by omega,rfl,by go_num,by omega,HSM,HQ.out⟩
      case measure=>simp[intOf]; omega
    ·obtain rfl:a=j:=by omega
     have dj:decide ((a:Int)<(a:Int))=false:=decide_eq_false (by omega)
     have hall:ds.take a=ds:=List.take_of_length_le (Nat.le_of_eq HA.out)
     rw[hall] at hSM
     clear hall
     go_wp2_with fail
     go_loopw [3,6] (fun q i wr=>∃ j P:Nat,j≤g∧q = .int .i64 P∧i = .int .i64 j∧P≤1500∧Bx (M+wK (gs.take j)=P)∧Ch (fun _=>False) w wr) (fun _ i _=>g-(intOf i).toNat)
     case atStart=>exact⟨0,M,Nat.zero_le _,rfl,rfl,hM,⟨rfl⟩,hC⟩
     case round =>
      obtain⟨j,P,hj,rfl,rfl,hP,hSP,hC⟩:=hrel
      obtain⟨hw1,hw2⟩:=HW.out wr hC
      by_cases hja:j<g
      ·have dj:decide ((j:Int)<(g:Int))=true:=decide_eq_true (by omega)
       have i2:(j:Int)<(g:Int):=by omega
       obtain⟨bd,od,key,rfl,_,hd,hck0⟩:=HK.out.at_ hja
       have hck:=hC.cell (p:=⟨bd,od+j,none⟩) (fun h=>h) hck0
       have hkb:=HO2.out key (List.mem_of_getElem? hd.out)
       obtain⟨SD,hSD⟩:∃ S:ByteArray,(⟨key.toArray⟩:ByteArray)=S:=⟨_,rfl⟩
       have hkv:kv key = .string SD:=by unfold kv; rw[hSD]
       have hsz:SD.size=key.length:=by rw[←hSD]; exact kv_size key
       rw[hkv] at hck
       have HT2:=Bx.mk (Oct.take_more hd.out)
       obtain⟨kn,hkn2⟩:∃ kn,key.length=kn:=⟨_,rfl⟩
       rw[hkn2] at hsz hkb
       obtain⟨T,hT⟩:∃ q,P+5+kn=q:=⟨_,rfl⟩
       have HSM:Bx (M+wK (gs.take (j+1))=T):=⟨by
        rw[HT2.out,wK_app]
        have e:wK [key]=5+key.length:=rfl
        have:=hSP.out
        omega⟩
       have hTT:=Bx.mk hT
       clear hd hck0 hkv hSD hkn2 hSP
       by_cases hbig:1500<T
       ·have e1:decide ((1500:Int)<(P:Int)+5+(kn:Int))=true:=decide_eq_true (by omega)
        clear hT hbig
        go_wp2_with fail
        go_ret
        exact HeavyOf.yes hC
       ·have e1:decide ((1500:Int)<(P:Int)+5+(kn:Int))=false:=decide_eq_false (by omega)
        have hTb:T≤1500:=by omega
        clear hT hbig
        go_wp2_with fail
        go_roundw
        case rel=>exact⟨j+1,T,by omega,by rw[←hTT.out]; go_num,by go_num,hTb,HSM,hC⟩
        case measure=>simp[intOf]; omega
      ·obtain rfl:g=j:=by omega
       have dj:decide ((g:Int)<(g:Int))=false:=decide_eq_false (by omega)
       have HSN:Bx (wS (l.take (k+1))=P):=⟨by
        rw[HT.out,wS_app,hS.out]
        have e:wS [(ds,gs)]=wD ds+wK gs:=rfl
        have h1:=hSM.out
        have h2:=hSP.out
        rw[List.take_of_length_le (Nat.le_of_eq HG.out)] at h2
        omega⟩
       clear hSM hSP
       go_wp2_with fail
       go_roundw
       case rel=>exact⟨k+1,P,by omega,rfl,by go_num,hP,HSN,hC⟩
       case measure=>simp[intOf]; omega
  ·obtain rfl:n=k:=by omega
   have dk:decide ((n:Int)<(n:Int))=false:=decide_eq_false (by omega)
   have e1:decide ((1500:Int)<(N:Int))=false:=decide_eq_false (by omega)
   have e2:decide (1500<N)=false:=decide_eq_false (by omega)
   have hall:l.take n=l:=List.take_of_length_le (Nat.le_of_eq HL.out)
   rw[hall] at hS
   clear hall
   by_cases h8:8<n
   ·have e3:decide ((8:Int)<(n:Int))=true:=decide_eq_true (by omega)
    have e4:decide (8<n)=true:=decide_eq_true h8
    go_wp2_with fail
    go_ret
    exact HeavyOf.yes hC
   ·have e3:decide ((8:Int)<(n:Int))=false:=decide_eq_false (by omega)
    have e4:decide (8<n)=false:=decide_eq_false h8
    go_wp2_with fail
    go_ret
    exact⟨false,rfl,hC,fun _=>⟨by rw[hS.out]; exact hN,by rw[HL.out]; omega⟩⟩
end
end
end Go.Proofs.YtambgjpfoceieaaGreatDoor
