/- Lemmas and contracts of this proof. Conditions: said at each. -/
import Derived.Test.YtambgjpfoceieaaGreatDoorGSgAlike
import Derived.Test.YtambgjpfoceieaaGreatDoorSgLawB
namespace Go.Proofs.YtambgjpfoceieaaGreatDoor
open Go.RowKit Go.Oct Go.Su Go.Sg Go.Fr
structure Pg (w wr:World) (va vb:Value) (q:Nat) (os:Sets) (us xs:List Value):Prop where
 ga:Gs 29 1 w wr va q us
 gb:Gs 33 1 w wr vb q xs
 lo:os.length=q
 ne:∀ g,va.ownBlock=some g→vb.ownBlock=some g→False
 ra:∀ (i:Nat) (u:Value) (s:List Dc×List Key),us[i]? = some u→os[i]? = some s→∃ b:Nat,u = .pointer (some ⟨b,0,none⟩)∧Sp wr (fun g=>w.heap.size≤g∧va.ownBlock≠some g∧vb.ownBlock≠some g) b s.1 s.2
 rb:∀ (i:Nat) (u:Value) (s:List Dc×List Key),xs[i]? = some u→os[i]? = some s→∃ b:Nat,u = .pointer (some ⟨b,0,none⟩)∧Rs wr (fun g=>w.heap.size≤g∧va.ownBlock≠some g∧vb.ownBlock≠some g) b s.1 s.2
theorem Pg.start (w:World):Pg w w (.slice none 0 0) (.slice none 0 0) 0 [] [] [] :=
 ⟨Gs.nil _ _ _,Gs.nil _ _ _,rfl,fun g h=>by simp[Value.ownBlock] at h,fun i u s h=>by simp at h,fun i u s h=>by simp at h⟩
section
variable {w wr w5 wm wn w6 w7:World} {q:Nat} {va vb va' vb':Value} {os:Sets} {us xs:List Value}
theorem Pg.keep (h:Pg w wr va vb q os us xs) (hc:Ch (fun _=>False) wr w5):Pg w w5 va vb q os us xs :=
 ⟨h.ga.keep hc,h.gb.keep hc,h.lo,h.ne,fun i u s hu hs=>by
  obtain⟨b,e,k⟩:=h.ra i u s hu hs
  exact⟨b,e,k.keep hc⟩,fun i u s hu hs=>by
  obtain⟨b,e,k⟩:=h.rb i u s hu hs
  exact⟨b,e,k.keep hc⟩⟩
theorem Pg.lens (h:Pg w wr va vb q os us xs):us.length=q∧xs.length=q:=⟨by simpa using h.ga.own.1,by simpa using h.gb.own.1⟩
theorem Pg.mid (h:Pg w wr va vb q os us xs) (hc:Ch (fun _=>False) wr wm) (hg:wm.grownBy w6 va.ownBlock):w6.ownsRow 0 33 1 vb q xs :=
 (((Ch.refl (fun k=>va.ownBlock=some k) wm).grown hg (fun _ hj => .inl hj)).own (hc.own h.gb.own (fun _ _ h=>h)) (fun g hg e=>h.ne g e hg))
theorem snoc_get {α:Type} {l:List α} {x y:α} {i:Nat} (h:(l++[x])[i]? = some y):l[i]? = some y∨(i=l.length∧y=x):=by
 rcases Nat.lt_trichotomy i l.length with hi | hi | hi
 ·rw[List.getElem?_append_left hi] at h
  exact .inl h
 ·subst hi
  simp at h
  exact .inr ⟨rfl,h.symm⟩
 ·rw[List.getElem?_append_right (by omega),List.getElem?_eq_none (by simp; omega)] at h
  cases h
theorem Pg.add (h:Pg w wr va vb q os us xs) (hw:W.Tab w) {s:List Dc×List Key} {b b':Nat} (h5:Ch (fun _=>False) wr w5) (hS:Sp w5 (fun k=>wr.heap.size≤k) b s.1 s.2) (hR:Rs w5 (fun k=>wr.heap.size≤k) b' s.1 s.2)
  (hm:Ch (fun _=>False) w5 wm) (ho:w6.ownsRow 0 29 1 va' (q+1) (us++[.pointer (some ⟨b,0,none⟩)])) (hg:wm.grownBy w6 va.ownBlock) (hb:va'.ownBlock=va.ownBlock∨va'.ownBlock=some wm.heap.size)
  (hn:Ch (fun _=>False) w6 wn) (ho':w7.ownsRow 0 33 1 vb' (q+1) (xs++[.pointer (some ⟨b',0,none⟩)])) (hg':wn.grownBy w7 vb.ownBlock) (hb':vb'.ownBlock=vb.ownBlock∨vb'.ownBlock=some wn.heap.size) :
  Pg w w7 va' vb' (q+1) (os++[s]) (us++[.pointer (some ⟨b,0,none⟩)]) (xs++[.pointer (some ⟨b',0,none⟩)]):=by
 have hla:∀ g,va.ownBlock=some g→g<wr.heap.size:=own_lt h.ga.own
 have hlb:∀ g,vb.ownBlock=some g→g<wr.heap.size:=own_lt h.gb.own
 have hla':∀ g,va'.ownBlock=some g→g<w6.heap.size:=own_lt ho
 have s0:=h.ga.ch.size
 have s1:=h5.size
 have s2:=hm.size
 have c6:Ch (fun k=>va.ownBlock=some k) wm w6:=(Ch.refl _ wm).grown hg (fun j hj => .inl hj)
 have s3:=c6.size
 have s4:=hn.size
 have c7:Ch (fun k=>vb.ownBlock=some k) wn w7:=(Ch.refl _ wn).grown hg' (fun j hj => .inl hj)
 have C:Ch (fun k=>va.ownBlock=some k∨vb.ownBlock=some k) w5 w7 :=
  (((hm.mono (S:=fun k=>va.ownBlock=some k∨vb.ownBlock=some k) (fun _ _ h=>h.elim)).trans c6 (fun _ _ e => .inl e)).trans hn (fun _ _ h=>h.elim)).trans c7 (fun _ _ e => .inr e)
 have hwt:W.Tab w:=hw
 have htl:=wtab_lt hwt
 have notT:∀ k,(va.ownBlock=some k∨vb.ownBlock=some k)→w.heap.size≤k:=fun k e=>by
  rcases e with e | e
  ·exact h.ga.lies k e
  ·exact h.gb.lies k e
 have newA:∀ k,k<w5.heap.size→va.ownBlock≠some k→va'.ownBlock≠some k:=fun k hk ne e=>by
  rcases hb with hb | hb
  ·exact ne (hb ▸ e)
  ·rw[hb] at e
   injection e with e
   omega
 have newB:∀ k,k<w5.heap.size→vb.ownBlock≠some k→vb'.ownBlock≠some k:=fun k hk ne e=>by
  rcases hb' with hb | hb
  ·exact ne (hb ▸ e)
  ·rw[hb] at e
   injection e with e
   omega
 have ga6:Gs 29 1 w w6 va' (q+1) (us++[.pointer (some ⟨b,0,none⟩)]):=h.ga.app (h5.trans hm (fun _ _ h=>h)) ho hg hb
 have gb6:Gs 33 1 w w6 vb q xs:=⟨h.mid (h5.trans hm (fun _ _ h=>h)) hg,h.gb.lies,ga6.ch⟩
 have gb7:Gs 33 1 w w7 vb' (q+1) (xs++[.pointer (some ⟨b',0,none⟩)]):=gb6.app hn ho' hg' hb'
 have ne67:∀ g,va'.ownBlock=some g→vb.ownBlock≠some g:=fun g e e2=>by
  rcases hb with hb | hb
  ·exact h.ne g (hb ▸ e) e2
  ·rw[hb] at e
   injection e with e
   have:=hlb g e2
   omega
 have ga7:Gs 29 1 w w7 va' (q+1) (us++[.pointer (some ⟨b,0,none⟩)]) :=
  ⟨((hn.mono (S:=fun k=>vb.ownBlock=some k) (fun _ _ h=>h.elim)).trans c7 (fun _ _ e=>e)).own ga6.own (fun g hg e=>ne67 g hg e),ga6.lies,gb7.ch⟩
 refine⟨ga7,gb7,by simp[h.lo],fun g e e2=>?_,fun i u t hu ht=>?_,fun i u t hu ht=>?_⟩
 ·rcases hb' with hb' | hb'
  ·exact ne67 g e (hb' ▸ e2)
  ·rw[hb'] at e2
   injection e2 with e2
   have:=hla' g e
   omega
 ·rcases snoc_get ht with ht | ⟨hi,rfl⟩
  ·have hi:i<us.length:=by rw[h.lens.1,←h.lo]; exact (List.getElem?_eq_some_iff.1 ht).1
   rw[List.getElem?_append_left hi] at hu
   obtain⟨z,e,k⟩:=h.ra i u t hu ht
   refine⟨z,e,((k.keep h5).mono (G:=fun g=>(w.heap.size≤g∧va.ownBlock≠some g∧vb.ownBlock≠some g)∧g<w5.heap.size) (fun g hg e=>⟨e,hg⟩) |>.chS C (fun g e _=>?_) (fun e=>?_)).mono (fun g _ e=>⟨e.1.1,newA g e.2 e.1.2.1,newB g e.2 e.1.2.2⟩)⟩
   ·rintro (e2 | e2)
    ·exact e.1.2.1 e2
    ·exact e.1.2.2 e2
   ·have:=notT _ e
    omega
  ·rw[hi,h.lo,←h.lens.1] at hu
   simp at hu
   refine⟨b,hu.symm,(hS.mono (G:=fun g=>wr.heap.size≤g∧g<w5.heap.size) (fun g hg e=>⟨e,hg⟩) |>.chS C (fun g e _=>?_) (fun e=>?_)).mono (fun g _ e=>⟨by omega,newA g e.2 (fun x=>by have:=hla g x; omega),newB g e.2 (fun x=>by have:=hlb g x; omega)⟩)⟩
   ·rintro (e2 | e2)
    ·have:=hla g e2
     omega
    ·have:=hlb g e2
     omega
   ·have:=notT _ e
    omega
 ·rcases snoc_get ht with ht | ⟨hi,rfl⟩
  ·have hi:i<xs.length:=by rw[h.lens.2,←h.lo]; exact (List.getElem?_eq_some_iff.1 ht).1
   rw[List.getElem?_append_left hi] at hu
   obtain⟨z,e,k⟩:=h.rb i u t hu ht
   refine⟨z,e,((k.keep h5).mono (G:=fun g=>(w.heap.size≤g∧va.ownBlock≠some g∧vb.ownBlock≠some g)∧g<w5.heap.size) (fun g hg e=>⟨e,hg⟩) |>.ch C (fun g e _=>?_)).mono (fun g _ e=>⟨e.1.1,newA g e.2 e.1.2.1,newB g e.2 e.1.2.2⟩)⟩
   rintro (e2 | e2)
   ·exact e.1.2.1 e2
   ·exact e.1.2.2 e2
  ·rw[hi,h.lo,←h.lens.2] at hu
   simp at hu
   refine⟨b',hu.symm,(hR.mono (G:=fun g=>wr.heap.size≤g∧g<w5.heap.size) (fun g hg e=>⟨e,hg⟩) |>.ch C (fun g e _=>?_)).mono (fun g _ e=>⟨by omega,newA g e.2 (fun x=>by have:=hla g x; omega),newB g e.2 (fun x=>by have:=hlb g x; omega)⟩)⟩
   rintro (e2 | e2)
   ·have:=hla g e2
    omega
   ·have:=hlb g e2
    omega
theorem Pg.sps {A:Option Addr} {c:Nat} (h:Pg w wr (.slice A q c) vb q os us xs):Sps wr (fun g=>w.heap.size≤g) A q (os.map some) :=
 ⟨us,h.ga.vs,by rw[h.lens.1,List.length_map,h.lo],fun i u o hu ho=>by
  rw[List.getElem?_map] at ho
  cases hs:os[i]? with
  | none=>rw[hs] at ho; cases ho
  | some s =>
   rw[hs] at ho
   simp only[Option.map_some,Option.some.injEq] at ho
   subst ho
   obtain⟨b,e,k⟩:=h.ra i u s hu hs
   exact⟨b,e,k.mono (fun _ _ e=>e.1)⟩⟩
theorem Pg.rps {A:Option Addr} {c:Nat} (h:Pg w wr va (.slice A q c) q os us xs):Rps wr (fun g=>w.heap.size≤g) A q (os.map some) :=
 ⟨xs,h.gb.vs,by rw[h.lens.2,List.length_map,h.lo],fun i u o hu ho=>by
  rw[List.getElem?_map] at ho
  cases hs:os[i]? with
  | none=>rw[hs] at ho; cases ho
  | some s =>
   rw[hs] at ho
   simp only[Option.map_some,Option.some.injEq] at ho
   subst ho
   obtain⟨b,e,k⟩:=h.rb i u s hu hs
   exact⟨b,e,k.mono (fun _ _ e=>e.1)⟩⟩
theorem Pg.get {A B:Option Addr} {c d:Nat} (h:Pg w wr (.slice A q c) (.slice B q d) q os us xs) {j:Nat} (hj:j<q):∃ (g k b b':Nat) (s:List Dc×List Key),A=some ⟨g,0,none⟩∧B=some ⟨k,0,none⟩∧Bx (os[j]? = some s) ∧
  wr.cell? ⟨g,j,none⟩=some (.pointer (some ⟨b,0,none⟩))∧wr.cell? ⟨k,j,none⟩=some (.pointer (some ⟨b',0,none⟩))∧Sp wr (fun _=>True) b s.1 s.2∧Rs wr (fun _=>True) b' s.1 s.2:=by
 obtain⟨g,hg⟩:=own_some h.ga.own (by omega)
 obtain⟨k,hk⟩:=own_some h.gb.own (by omega)
 subst hg hk
 have h0:os[j]? = some (os[j]'(by rw[h.lo]; exact hj)):=List.getElem?_eq_getElem _
 have hu:us[j]? = some (us[j]'(by rw[h.lens.1]; exact hj)):=List.getElem?_eq_getElem _
 have hx:xs[j]? = some (xs[j]'(by rw[h.lens.2]; exact hj)):=List.getElem?_eq_getElem _
 obtain⟨b,e,r⟩:=h.ra j _ _ hu h0
 obtain⟨b',e',r'⟩:=h.rb j _ _ hx h0
 have k1:=h.ga.own.cellAt j (by omega)
 have k2:=h.gb.own.cellAt j (by omega)
 rw[hu,e] at k1
 rw[hx,e'] at k2
 exact⟨g,k,b,b',_,rfl,rfl,⟨h0⟩,k1,k2,r.mono (fun _ _ _=>trivial),r'.mono (fun _ _ _=>trivial)⟩
end
structure PNw (docs:List Dc) (gone:List Key) (w w':World) (v:Value) (ec:Int):Prop where
 h:∃ (ds:List Dc) (gs:List Key),NewRes docs gone ec ds gs∧((ec≠0∧v = .pointer none)∨(ec=0∧∃ b:Nat,v = .pointer (some ⟨b,0,none⟩)∧Sp w' (fun k=>w.heap.size≤k) b ds gs))
structure RNw (docs:List Dc) (gone:List Key) (w w':World) (v:Value) (ec:Int):Prop where
 h:∃ (ds:List Dc) (gs:List Key),NewRes docs gone ec ds gs∧((ec≠0∧v = .pointer none)∨(ec=0∧∃ b:Nat,v = .pointer (some ⟨b,0,none⟩)∧Rs w' (fun k=>w.heap.size≤k) b ds gs))
theorem PNewOf.two {docs:List Dc} {gone:List Key} {w w':World} {e:Ending} (h:PNewOf docs gone w e w'):∃ (v:Value) (ec:Int),e = .returned (.tuple #[v, .int .i64 ec])∧Ch (fun _=>False) w w'∧Bx (PNw docs gone w w' v ec):=by
 obtain⟨ec,ds,gs,h1,h2,h3⟩:=h
 rcases h3 with ⟨h3,rfl⟩ | ⟨rfl,b,rfl,hr⟩
 ·exact⟨_,ec,rfl,h2,⟨⟨ds,gs,h1, .inl ⟨h3,rfl⟩⟩⟩⟩
 ·exact⟨_,0,rfl,h2,⟨⟨ds,gs,h1, .inr ⟨rfl,b,rfl,hr⟩⟩⟩⟩
theorem RNewOf.two {docs:List Dc} {gone:List Key} {w w':World} {e:Ending} (h:RNewOf docs gone w e w'):∃ (v:Value) (ec:Int),e = .returned (.tuple #[v, .int .i64 ec])∧Ch (fun _=>False) w w'∧Bx (RNw docs gone w w' v ec):=by
 obtain⟨ec,ds,gs,h1,h2,h3⟩:=h
 rcases h3 with ⟨h3,rfl⟩ | ⟨rfl,b,rfl,hr⟩
 ·exact⟨_,ec,rfl,h2,⟨⟨ds,gs,h1, .inl ⟨h3,rfl⟩⟩⟩⟩
 ·exact⟨_,0,rfl,h2,⟨⟨ds,gs,h1, .inr ⟨rfl,b,rfl,hr⟩⟩⟩⟩
theorem elemPA:Elem Tryz.prog 48 29 (.pointer none) 8:=⟨Tryz.underlying48,by kernel_rfl,rfl⟩
theorem elemPB:Elem Tryz.prog 49 33 (.pointer none) 8:=⟨Tryz.underlying49,by kernel_rfl,rfl⟩
theorem lv_some (os:Sets):lv (os.map some)=os:=by
 unfold lv
 induction os with
 | nil=>rfl
 | cons a l ih=>simp
theorem some_none (os:Sets):none∉os.map (some:(List Dc×List Key)→Option (List Dc×List Key)):=by simp
section
variable {w w':World} {F:Nat→Prop} {A:Option Addr} {n:Nat} {os:List (Option (List Dc×List Key))}
theorem Sps.take (h:Sps w F A n os) {k:Nat} (hk:k≤n):Sps w F A k (os.take k):=by
 obtain⟨us,h1,h2,h3⟩:=h
 refine⟨us.take k,h1.take hk,by rw[List.length_take,List.length_take,h2],fun i u o hu ho=>?_⟩
 rw[List.getElem?_take] at hu ho
 by_cases hi:i<k
 ·rw[if_pos hi] at hu ho
  exact h3 i u o hu ho
 ·rw[if_neg hi] at hu
  cases hu
theorem Sps.drop {b off k:Nat} (h:Sps w F (some ⟨b,off,none⟩) n os) (hk:k≤n):Sps w F (some ⟨b,off+k,none⟩) (n-k) (os.drop k):=by
 obtain⟨us,h1,h2,h3⟩:=h
 refine⟨us.drop k,h1.drop hk,by rw[List.length_drop,List.length_drop,h2],fun i u o hu ho=>?_⟩
 rw[List.getElem?_drop] at hu ho
 exact h3 _ u o hu ho
end
theorem wS_mem {os:Sets} {s:List Dc×List Key} (h:s∈os):wD s.1+wK s.2≤wS os:=by
 induction os with
 | nil=>cases h
 | cons a l ih =>
  have e:wS (a::l)=wD a.1+wK a.2+wS l:=rfl
  rcases List.mem_cons.1 h with rfl | h
  ·omega
  ·have:=ih h
   omega
theorem wS_take {l:Sets} {k:Nat} {s:List Dc×List Key} (h:l[k]? = some s):wS (l.take (k+1))=wS (l.take k)+(wD s.1+wK s.2):=by
 rw[Oct.take_more h,wS_app]
 congr 1
theorem wS_take_le (l:Sets) (k:Nat):wS (l.take k)≤wS l:=by
 have h:=wS_app (l.take k) (l.drop k)
 rw[List.take_append_drop] at h
 omega
end Go.Proofs.YtambgjpfoceieaaGreatDoor
