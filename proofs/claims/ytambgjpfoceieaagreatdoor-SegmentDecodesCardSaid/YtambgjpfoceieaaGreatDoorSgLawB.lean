/- Lemmas and contracts of this proof. Conditions: said at each. -/
import Derived.Test.YtambgjpfoceieaaGreatDoorGSgBody
namespace Go.Proofs.YtambgjpfoceieaaGreatDoor
open Go.RowKit Go.Oct Go.Su Go.Sg Go.Fr
theorem own_some {w:World} {e:TypeId} {s n c:Nat} {A:Option Addr} {us:List Value} (h:w.ownsRow 0 e s (.slice A n c) n us) (hn:0<n):∃ g,A=some ⟨g,0,none⟩:=by
 rcases h.2 with ⟨_,h0⟩ | ⟨g,cap,cur,e,_⟩
 ·omega
 ·injection e with e1
  exact⟨g,e1⟩
theorem dcV_len2:∀ (l:List Key) (us:List Value),l.length=us.length→(dcV l us).length=l.length*2
 | [],us,_=>by cases us <;> rfl
 | _::_,[],h=>by simp at h
 | a::l,u::us,h=>by
  simp only[dcV,List.length_cons]
  rw[dcV_len2 l us (by simpa using h)]
  omega
structure Dr (w wr:World) (F:Nat→Prop) (v:Value) (q:Nat) (docs:List Dc) (vs:List Value):Prop where
 dg:Gs 37 2 w wr v q (dcV (ks docs) vs)
 rows:Oct.Rows w F vs (ts docs)
 kl:docs.length=vs.length
section
variable {w wr wm w2:World} {F:Nat→Prop} {q:Nat} {v v':Value} {docs:List Dc} {vs:List Value}
theorem Dr.start (w:World) (F:Nat→Prop):Dr w w F (.slice none 0 0) 0 [] []:=⟨Gs.nil _ _ _,Oct.Rows.nil_ _ _,rfl⟩
theorem Dr.len (h:Dr w wr F v q docs vs):q=docs.length:=by
 have e1:=h.dg.own.1
 rw[dcV_len2 _ _ (by rw[ks_len,h.kl]),ks_len] at e1
 omega
theorem Dr.doc (h:Dr w wr F v q docs vs) {d:Dc} {B:Option Addr} {c:Nat} (hs:Sl w F .u8 B d.2.length d.2) (h1:d.2.length≤c) (h2:c≤maxLen) (hc:Ch (fun _=>False) wr wm) (ho:w2.ownsRow 0 37 2 v' (q+1) (dcV (ks docs) vs++[kv d.1, .slice B d.2.length c]))
  (hg:wm.grownBy w2 v.ownBlock) (hb:v'.ownBlock=v.ownBlock∨v'.ownBlock=some wm.heap.size):Dr w w2 F v' (q+1) (docs++[d]) (vs++[.slice B d.2.length c]):=by
 have hd:=h.dg.app hc ho hg hb
 refine⟨?_,?_,by simp[h.kl]⟩
 ·rw[ks_app,show ks [d]=[d.1] from rfl,dcV_snoc _ _ _ _ (by rw[ks_len,h.kl])]
  exact hd
 ·rw[ts_app]
  exact rows_one h.rows hs h1 h2
theorem Dr.dcs {A:Option Addr} {n c:Nat} (h:Dr w wr F (.slice A n c) n docs vs):Dcs wr (fun b=>F b∨w.heap.size≤b) A n docs:=by
 have hl:=h.len
 refine⟨hl.symm,fun hn=>?_⟩
 have how:=h.dg.own
 rcases h.dg.own.2 with ⟨_,h0⟩ | ⟨g,cap,cur,hv,_,_,_⟩
 ·omega
 ·injection hv with hA
  subst hA
  refine⟨g,0,rfl, .inr (h.dg.lies g rfl),fun i d hd=>?_⟩
  obtain⟨hi,_⟩:=List.getElem?_eq_some_iff.1 hd
  have hki:(ks docs)[i]? = some d.1:=by unfold Go.Sg.ks; rw[List.getElem?_map,hd]; rfl
  have hyi:(ts docs)[i]? = some d.2:=by unfold ts; rw[List.getElem?_map,hd]; rfl
  have hvi:i<vs.length:=by rw[←h.kl]; exact hi
  obtain⟨B,cB,eu,hsl,q1,q2⟩:=h.rows.2 i _ _ (List.getElem?_eq_getElem hvi) hyi
  obtain⟨c1,c2⟩:=dcV_at (ks docs) vs i d.1 _ hki (List.getElem?_eq_getElem hvi)
  rw[eu] at c2
  have k1:=how.cellAt (i*2) (by omega)
  have k2:=how.cellAt (i*2+1) (by omega)
  rw[c1] at k1
  rw[c2] at k2
  refine⟨[kv d.1, .slice B d.2.length cB],rfl,⟨B,cB,rfl,(hsl.ch h.dg.ch (fun _ _ _ h=>h)).mono (fun _ _ h => .inl h),q1,q2⟩,fun z u hu=>?_⟩
  rw[Nat.zero_add]
  match z,hu with
  | 0,hu=>simp at hu; subst hu; exact k1
  | 1,hu=>simp at hu; subst hu; exact k2
end
end Go.Proofs.YtambgjpfoceieaaGreatDoor
