/- Lemmas and contracts of this proof. Conditions: said at each. -/
import Derived.Test.YtambgjpfoceieaaGreatDoorSgDocs
namespace Go.Proofs.YtambgjpfoceieaaGreatDoor
open Go.RowKit Go.Oct Go.Su Go.Sg Go.Fr
theorem sg_and_low (x:Int) (k:Nat) (hk:k<63):bits .and .i64 x ((2^k-1:Nat):Int)=(((x%((2^k:Nat):Int)).toNat:Nat):Int):=by
 have hp:(2:Nat)^k<2^63:=Nat.pow_lt_pow_right (by decide) hk
 have hp0:0<2^k:=Nat.pow_pos (by decide)
 have hd:(2:Nat)^k∣18446744073709551616:=⟨2^(64-k),by rw[←Nat.pow_add,show k+(64-k)=64 by omega]⟩
 have h2:(BitVec.ofInt 64 (((2^k-1:Nat)):Int)).toNat=2^k-1:=by
  rw[BitVec.ofInt_natCast,BitVec.toNat_ofNat]; exact Nat.mod_eq_of_lt (by omega)
 have h1:(BitVec.ofInt 64 x).toNat=(x%(18446744073709551616:Nat)).toNat:=by
  rw[BitVec.toNat_ofInt]
 have h3:(x%(18446744073709551616:Nat)).toNat%2^k=(x%((2^k:Nat):Int)).toNat:=by
  have e1:((x%((18446744073709551616:Nat):Int)).toNat:Int)=x%((18446744073709551616:Nat):Int):=by omega
  have e2:(((x%((18446744073709551616:Nat):Int)).toNat%2^k:Nat):Int)=x%((2^k:Nat):Int):=by
   rw[Int.natCast_emod,e1]
   exact Int.emod_emod_of_dvd x (Int.natCast_dvd_natCast.2 hd)
  omega
 show IntKind.i64.wrap ((BitVec.ofInt 64 x &&& BitVec.ofInt 64 (((2^k-1:Nat)):Int)).toNat:Int)=_
 rw[BitVec.toNat_and,h1,h2,Nat.and_two_pow_sub_one_eq_mod,h3]
 have h4:(x%((2^k:Nat):Int)).toNat<2^k:=by
  have:=Int.emod_lt_of_pos x (show (0:Int)<((2^k:Nat):Int) by omega)
  have:=Int.emod_nonneg x (show ((2^k:Nat):Int)≠0 by omega)
  omega
 exact IntWalk.i64_in _ (by omega)
theorem sw_perm {α:Type} {l:List α} {a b:Nat} {x y:α} (ha:l[a]? = some x) (hb:l[b]? = some y):((l.set a y).set b x).Perm l:=by
 obtain⟨h1,rfl⟩:=List.getElem?_eq_some_iff.1 ha
 obtain⟨h2,rfl⟩:=List.getElem?_eq_some_iff.1 hb
 exact List.set_set_perm h1 h2
theorem dcV_set:∀ (l:List Key) (us:List Value) (i:Nat) (k:Key) (u:Value),dcV (l.set i k) (us.set i u)=((dcV l us).set (i*2) (kv k)).set (i*2+1) u
 | [],us,i,k,u=>by cases us <;> simp[dcV]
 | _::_,[],i,k,u=>by cases i <;> simp[dcV]
 | a::l,v::us,0,k,u=>by simp[dcV]
 | a::l,v::us,i+1,k,u=>by
  have e1:(i+1)*2=i*2+1+1:=by omega
  simp only[List.set_cons_succ,dcV,e1]
  rw[dcV_set l us i k u]
theorem rows_set {w:World} {F:Nat→Prop} {us vs:List Value} {xss yss:List (List Int)} (h:Oct.Rows w F us xss) (h':Oct.Rows w F vs yss) {j:Nat} {u:Value} {xs:List Int} (hu:vs[j]? = some u) (hx:yss[j]? = some xs) (i:Nat):Oct.Rows w F (us.set i u) (xss.set i xs) :=
 ⟨by rw[List.length_set,List.length_set]; exact h.1,fun k v ys hv hy=>by
  by_cases e:i=k
  ·subst e
   have hi:i<us.length:=by have:=(List.getElem?_eq_some_iff.1 hv).1; simpa using this
   have hi2:i<xss.length:=by have:=(List.getElem?_eq_some_iff.1 hy).1; simpa using this
   rw[List.getElem?_set_self hi] at hv
   rw[List.getElem?_set_self hi2] at hy
   injection hv with hv
   injection hy with hy
   subst hv hy
   exact h'.2 j _ _ hu hx
  ·rw[List.getElem?_set_ne e] at hv hy
   exact h.2 k v ys hv hy⟩
structure Od (w wr:World) (D G:Value) (n k:Nat) (ds docs:List Dc) (vs:List Value) (gs keys:List Key):Prop where
 dg:wr.ownsRow 0 37 2 D n (dcV (ks docs) vs)
 kg:wr.ownsRow 0 9 1 G k (keys.map kv)
 kl:docs.length=vs.length
 rows:Oct.Rows wr (fun b=>w.heap.size≤b∧D.ownBlock≠some b∧G.ownBlock≠some b) vs (ts docs)
 pd:docs.Perm ds
 pg:keys.Perm gs
 ne:∀ g,D.ownBlock=some g→G.ownBlock≠some g
 dl:∀ g,D.ownBlock=some g→w.heap.size≤g
 gl:∀ g,G.ownBlock=some g→w.heap.size≤g
 ch:Ch (fun _=>False) w wr
section
variable {w wr w':World} {D G:Value} {n k c g:Nat} {ds docs:List Dc} {vs:List Value} {gs keys:List Key}
theorem Od.start {w5:World} (hD:Cd w w5 D n ds vs) (hG:Gs 9 1 w5 wr G k (gs.map kv)):Od w wr D G n k ds ds vs gs gs:=by
 have hs:=hD.dg.ch.size
 have hlt:∀ g,D.ownBlock=some g→g<w5.heap.size:=own_lt hD.dg.own
 refine⟨hG.ch.own hD.dg.own (fun _ _ h=>h),hG.own,hD.kl,?_,List.Perm.refl _,List.Perm.refl _,fun g h1 h2=>?_,fun g hg=>hD.dg.lies g hg,fun g hg=>?_,hD.dg.ch.trans hG.ch (fun _ _ h=>h)⟩
 ·refine⟨by rw[ts_len]; exact hD.kl.symm,fun i u t hu ht=>?_⟩
  unfold ts at ht
  rw[List.getElem?_map] at ht
  cases hd:ds[i]? with
  | none=>rw[hd] at ht; simp at ht
  | some d =>
   rw[hd] at ht
   simp only[Option.map_some,Option.some.injEq] at ht
   subst ht
   obtain⟨ho,hg⟩:=hD.rows i u d hu hd
   obtain⟨A',c',rfl,h1,h2⟩:=own_shape ho
   refine⟨A',c',rfl,((Sl.of_own ho).ch hG.ch (fun _ _ _ h=>h)).mono (fun b _ hb=>⟨(hg b hb).1,(hg b hb).2,fun e=>?_⟩),h1,h2⟩
   have h3:=own_lt ho b hb
   have h4:=hG.lies b e
   omega
 ·have h3:=hlt g h1
  have h4:=hG.lies g h2
  omega
 ·have h4:=hG.lies g hg
  omega
theorem Od.keep (h:Od w wr D G n k ds docs vs gs keys) (hc:Ch (fun _=>False) wr w'):Od w w' D G n k ds docs vs gs keys :=
 ⟨hc.own h.dg (fun _ _ h=>h),hc.own h.kg (fun _ _ h=>h),h.kl,h.rows.ch hc (fun _ _ _ h=>h),h.pd,h.pg,h.ne,h.dl,h.gl,h.ch.trans hc (fun _ _ h=>h)⟩
theorem Od.dlen (h:Od w wr D G n k ds docs vs gs keys):docs.length=n:=by
 have e1:=h.dg.1
 rw[dcV_len2 _ _ (by rw[ks_len,h.kl]),ks_len] at e1
 omega
theorem Od.klen (h:Od w wr D G n k ds docs vs gs keys):keys.length=k:=by simpa using h.kg.1
theorem Od.swapD (h:Od w wr (.slice (some ⟨g,0,none⟩) n c) G n k ds docs vs gs keys) {a b:Nat} {x y:Dc} {u v:Value} (ha:docs[a]? = some x) (hb:docs[b]? = some y) (hu:vs[a]? = some u) (hv:vs[b]? = some v) :
  Od w ((((wr.setCell ⟨g,a*2,none⟩ (kv y.1)).setCell ⟨g,a*2+1,none⟩ v).setCell ⟨g,b*2,none⟩ (kv x.1)).setCell ⟨g,b*2+1,none⟩ u) (.slice (some ⟨g,0,none⟩) n c) G n k ds ((docs.set a y).set b x) ((vs.set a v).set b u) gs keys:=by
 have hc:Ch (fun j=>j=g) wr ((((wr.setCell ⟨g,a*2,none⟩ (kv y.1)).setCell ⟨g,a*2+1,none⟩ v).setCell ⟨g,b*2,none⟩ (kv x.1)).setCell ⟨g,b*2+1,none⟩ u) :=
  ((((Ch.refl (fun j=>j=g) wr).setCell (p:=⟨g,a*2,none⟩) (.inl rfl) _).setCell (p:=⟨g,a*2+1,none⟩) (.inl rfl) _).setCell (p:=⟨g,b*2,none⟩) (.inl rfl) _).setCell (p:=⟨g,b*2+1,none⟩) (.inl rfl) _
 obtain⟨h1,_⟩:=h.dg.stored (a*2) (kv y.1)
 obtain⟨h2,_⟩:=h1.stored (a*2+1) v
 obtain⟨h3,_⟩:=h2.stored (b*2) (kv x.1)
 obtain⟨h4,_⟩:=h3.stored (b*2+1) u
 have hgb:G.ownBlock≠some g:=h.ne g rfl
 refine⟨?_,hc.own h.kg (fun j hj e=>hgb (e ▸ hj)),by simp[h.kl],?_,(sw_perm ha hb).trans h.pd,h.pg,h.ne,h.dl,h.gl,h.ch.trans hc (fun i hi e=>by have:=h.dl g rfl; omega)⟩
 ·have e1:ks ((docs.set a y).set b x)=((ks docs).set a y.1).set b x.1:=by unfold Go.Sg.ks; rw[List.map_set,List.map_set]
  rw[e1,dcV_set,dcV_set]
  exact h4
 ·have e1:ts ((docs.set a y).set b x)=((ts docs).set a y.2).set b x.2:=by unfold ts; rw[List.map_set,List.map_set]
  have ta:(ts docs)[a]? = some x.2:=by unfold ts; rw[List.getElem?_map,ha]; rfl
  have tb:(ts docs)[b]? = some y.2:=by unfold ts; rw[List.getElem?_map,hb]; rfl
  have hr:Oct.Rows wr (fun b=>w.heap.size≤b∧(Value.slice (some ⟨g,0,none⟩) n c).ownBlock≠some b∧G.ownBlock≠some b) ((vs.set a v).set b u) (((ts docs).set a y.2).set b x.2) :=
   rows_set (rows_set h.rows h.rows hv tb a) h.rows hu ta b
  rw[e1]
  exact hr.ch hc (fun j hj _ e=>hj.2.1 (by rw[e]; rfl))
theorem Od.swapG (h:Od w wr D (.slice (some ⟨g,0,none⟩) k c) n k ds docs vs gs keys) {a b:Nat} {x y:Key} (ha:keys[a]? = some x) (hb:keys[b]? = some y) :
  Od w ((wr.setCell ⟨g,a,none⟩ (kv y)).setCell ⟨g,b,none⟩ (kv x)) D (.slice (some ⟨g,0,none⟩) k c) n k ds docs vs gs ((keys.set a y).set b x):=by
 have hc:Ch (fun j=>j=g) wr ((wr.setCell ⟨g,a,none⟩ (kv y)).setCell ⟨g,b,none⟩ (kv x)):=((Ch.refl (fun j=>j=g) wr).setCell (p:=⟨g,a,none⟩) (.inl rfl) _).setCell (p:=⟨g,b,none⟩) (.inl rfl) _
 obtain⟨h1,_⟩:=h.kg.stored a (kv y)
 obtain⟨h2,_⟩:=h1.stored b (kv x)
 refine⟨hc.own h.dg (fun j hj e=>h.ne j hj (by rw[e]; rfl)),?_,h.kl,h.rows.ch hc (fun j hj _ e=>hj.2.2 (by rw[e]; rfl)),h.pd,(sw_perm ha hb).trans h.pg,h.ne,h.dl,h.gl,h.ch.trans hc (fun i hi e=>by have:=h.gl g rfl; omega)⟩
 rw[List.map_set,List.map_set]
 exact h2
theorem Od.dcs {A:Option Addr} (h:Od w wr (.slice A n c) G n k ds docs vs gs keys):Dcs wr (fun _=>True) A n docs:=dcs_from h.dg (h.rows.mono (fun _ _ _=>trivial)) h.kl (fun _ _=>trivial)
theorem Od.kss {A:Option Addr} (h:Od w wr D (.slice A k c) n k ds docs vs gs keys):Kss wr (fun _=>True) A k keys:=(Vs.of_own h.kg).mono (fun _ _ _=>trivial)
end
end Go.Proofs.YtambgjpfoceieaaGreatDoor
