/- Lemmas and contracts of this proof. Conditions: said at each. -/
import Derived.Test.YtambgjpfoceieaaGreatDoorGSgAlike
import Derived.Test.YtambgjpfoceieaaGreatDoorSgLawB
set_option maxHeartbeats 4000000
set_option maxRecDepth 100000
namespace Go.Proofs.YtambgjpfoceieaaGreatDoor
open Go.RowKit Go.Oct Go.Su Go.Sg Go.Fr
structure Cd (w wr:World) (v:Value) (q:Nat) (docs:List Dc) (vs:List Value):Prop where
 dg:Gs 37 2 w wr v q (dcV (ks docs) vs)
 kl:docs.length=vs.length
 rows:∀ (i:Nat) (u:Value) (d:Dc),vs[i]? = some u→docs[i]? = some d→wr.ownsRow 0 5 1 u d.2.length (d.2.map (Value.int .u8))∧∀ g,u.ownBlock=some g→w.heap.size≤g∧v.ownBlock≠some g
 apart:∀ (i j:Nat) (x y:Value) (g:Nat),vs[i]? = some x→vs[j]? = some y→x.ownBlock=some g→y.ownBlock=some g→i=j
theorem Cd.start (w:World):Cd w w (.slice none 0 0) 0 [] []:=⟨Gs.nil _ _ _,rfl,fun i u d h=>by simp at h,fun i j x y g h=>by simp at h⟩
section
variable {w wr w5 w7:World} {q:Nat} {v v' u:Value} {docs:List Dc} {vs:List Value}
theorem Cd.len (h:Cd w wr v q docs vs):q=docs.length:=by
 have e1:=h.dg.own.1
 rw[dcV_len2 _ _ (by rw[ks_len,h.kl]),ks_len] at e1
 omega
theorem Cd.add (h:Cd w wr v q docs vs) {d:Dc} (hf:Fresh wr u d.2 w5) {o:Obj} (ho:w7.ownsRow 0 37 2 v' (q+1) (dcV (ks docs) vs++[kv d.1,u])) (hg:(w5.alloc o).grownBy w7 v.ownBlock) (hb:v'.ownBlock=v.ownBlock∨v'.ownBlock=some (w5.alloc o).heap.size):Cd w w7 v' (q+1) (docs++[d]) (vs++[u]):=by
 obtain⟨hG,hkl,h3,h4⟩:=h
 have hvl:∀ g,v.ownBlock=some g→g<wr.heap.size:=own_lt hG.own
 have hsz:=hf.2.2.size
 have hsz2:=hG.ch.size
 have hso:=World.size_alloc w5 o
 have hC:Ch (fun b=>v.ownBlock=some b) w5 w7:=((Ch.refl (fun b=>v.ownBlock=some b) w5).alloc o).grown hg (fun j hj => .inl hj)
 have hCt:Ch (fun b=>v.ownBlock=some b) wr w7:=(hf.2.2.mono (fun _ _ h=>h.elim)).trans hC (fun _ _ h=>h)
 have hlu:∀ g,u.ownBlock=some g→wr.heap.size≤g∧g<w5.heap.size:=fun g hgu=>⟨hf.2.1 g hgu,own_lt hf.1 g hgu⟩
 have hnew:∀ g,g<w5.heap.size→v.ownBlock≠some g→v'.ownBlock≠some g:=fun g hgl hgv e=>by
  rcases hb with hb | hb
  ·exact hgv (hb ▸ e)
  ·rw[hb] at e
   injection e with e
   omega
 refine⟨?_,by simp[hkl],fun i x t hx ht=>?_,fun i j x y g hx hy gx gy=>?_⟩
 ·rw[ks_app,show ks [d]=[d.1] from rfl,dcV_snoc _ _ _ _ (by rw[ks_len,hkl])]
  exact hG.app (hf.2.2.alloc o) ho hg hb
 ·rcases Nat.lt_or_ge i vs.length with hi | hi
  ·rw[List.getElem?_append_left hi] at hx
   rw[List.getElem?_append_left (by omega)] at ht
   obtain⟨k1,k2⟩:=h3 i x t hx ht
   exact⟨hCt.own k1 (fun g hg2 e=>(k2 g hg2).2 e),fun g hg2=>⟨(k2 g hg2).1,hnew g (by have:=own_lt k1 g hg2; omega) (k2 g hg2).2⟩⟩
  ·rw[List.getElem?_append_right hi] at hx
   rw[List.getElem?_append_right (by omega)] at ht
   have e1:i-vs.length=0:=by
    rcases Nat.eq_zero_or_pos (i-vs.length) with e | e
    ·exact e
    ·rw[List.getElem?_eq_none (by simp; omega)] at hx
     cases hx
   rw[e1] at hx
   rw[show i-docs.length=0 by omega] at ht
   obtain rfl:u=x:=by simpa using hx
   obtain rfl:d=t:=by simpa using ht
   refine⟨hC.own hf.1 (fun g hg2 e=>by have:=hvl g e; have:=(hlu g hg2).1; omega),fun g hg2=>⟨by have:=(hlu g hg2).1; omega,hnew g (hlu g hg2).2 (fun e=>by have:=hvl g e; have:=(hlu g hg2).1; omega)⟩⟩
 ·rcases Nat.lt_or_ge i vs.length with hi | hi <;> rcases Nat.lt_or_ge j vs.length with hj | hj
  ·rw[List.getElem?_append_left hi] at hx
   rw[List.getElem?_append_left hj] at hy
   exact h4 i j x y g hx hy gx gy
  ·rw[List.getElem?_append_left hi] at hx
   rw[List.getElem?_append_right hj] at hy
   have hd:docs[i]? = some (docs[i]'(by omega)):=List.getElem?_eq_getElem _
   obtain⟨k1,_⟩:=h3 i x _ hx hd
   have h5:=own_lt k1 g gx
   have e1:j-vs.length=0:=by
    rcases Nat.eq_zero_or_pos (j-vs.length) with e | e
    ·exact e
    ·rw[List.getElem?_eq_none (by simp; omega)] at hy
     cases hy
   rw[e1] at hy
   obtain rfl:u=y:=by simpa using hy
   have:=(hlu g gy).1
   omega
  ·rw[List.getElem?_append_right hi] at hx
   rw[List.getElem?_append_left hj] at hy
   have hd:docs[j]? = some (docs[j]'(by omega)):=List.getElem?_eq_getElem _
   obtain⟨k1,_⟩:=h3 j y _ hy hd
   have h5:=own_lt k1 g gy
   have e1:i-vs.length=0:=by
    rcases Nat.eq_zero_or_pos (i-vs.length) with e | e
    ·exact e
    ·rw[List.getElem?_eq_none (by simp; omega)] at hx
     cases hx
   rw[e1] at hx
   obtain rfl:u=x:=by simpa using hx
   have:=(hlu g gx).1
   omega
  ·have e1:i-vs.length=0:=by
    rcases Nat.eq_zero_or_pos (i-vs.length) with e | e
    ·exact e
    ·rw[List.getElem?_append_right hi,List.getElem?_eq_none (by simp; omega)] at hx
     cases hx
   have e2:j-vs.length=0:=by
    rcases Nat.eq_zero_or_pos (j-vs.length) with e | e
    ·exact e
    ·rw[List.getElem?_append_right hj,List.getElem?_eq_none (by simp; omega)] at hy
     cases hy
   omega
theorem dcs_from {F:Nat→Prop} {A:Option Addr} {n c:Nat} (how:wr.ownsRow 0 37 2 (.slice A n c) n (dcV (ks docs) vs)) (hR:Oct.Rows wr F vs (ts docs)) (hkl:docs.length=vs.length) (hA:∀ g,(Value.slice A n c).ownBlock=some g→F g):Dcs wr F A n docs:=by
 have hl:docs.length=n:=by
  have e1:=how.1
  rw[dcV_len2 _ _ (by rw[ks_len,hkl]),ks_len] at e1
  omega
 refine⟨hl,fun hn=>?_⟩
 rcases how.2 with ⟨_,h0⟩ | ⟨g,cap,cur,hv,_,_,_⟩
 ·omega
 ·injection hv with hA2
  subst hA2
  refine⟨g,0,rfl,hA g rfl,fun i d hd=>?_⟩
  obtain⟨hi,_⟩:=List.getElem?_eq_some_iff.1 hd
  have hki:(ks docs)[i]? = some d.1:=by unfold Go.Sg.ks; rw[List.getElem?_map,hd]; rfl
  have hyi:(ts docs)[i]? = some d.2:=by unfold ts; rw[List.getElem?_map,hd]; rfl
  have hvi:i<vs.length:=by rw[←hkl]; exact hi
  obtain⟨B,cB,eu,hsl,q1,q2⟩:=hR.2 i _ _ (List.getElem?_eq_getElem hvi) hyi
  obtain⟨c1,c2⟩:=dcV_at (ks docs) vs i d.1 _ hki (List.getElem?_eq_getElem hvi)
  rw[eu] at c2
  have k1:=how.cellAt (i*2) (by omega)
  have k2:=how.cellAt (i*2+1) (by omega)
  rw[c1] at k1
  rw[c2] at k2
  refine⟨[kv d.1, .slice B d.2.length cB],rfl,⟨B,cB,rfl,hsl,q1,q2⟩,fun z u hu=>?_⟩
  rw[Nat.zero_add]
  match z,hu with
  | 0,hu=>simp at hu; subst hu; exact k1
  | 1,hu=>simp at hu; subst hu; exact k2
theorem Cd.rws (h:Cd w wr v q docs vs):Oct.Rows wr (fun b=>w.heap.size≤b) vs (ts docs):=by
 refine⟨by rw[ts_len]; exact h.kl.symm,fun i u t hu ht=>?_⟩
 unfold ts at ht
 rw[List.getElem?_map] at ht
 cases hd:docs[i]? with
 | none=>rw[hd] at ht; simp at ht
 | some d =>
  rw[hd] at ht
  simp only[Option.map_some,Option.some.injEq] at ht
  subst ht
  obtain⟨ho,hg⟩:=h.rows i u d hu hd
  obtain⟨A',c',rfl,h1,h2⟩:=own_shape ho
  exact⟨A',c',rfl,(Sl.of_own ho).mono (fun b _ hb=>(hg b hb).1),h1,h2⟩
theorem Cd.dcs {A:Option Addr} {n c:Nat} (h:Cd w wr (.slice A n c) n docs vs):Dcs wr (fun b=>w.heap.size≤b) A n docs:=dcs_from h.dg.own h.rws h.kl (fun g hg=>h.dg.lies g hg)
end
theorem step_app1 {P:Program} {t e:TypeId} {z:Value} {bytes:Nat} {ops:Array Oper} {o:Oper} {a:Act} {w:World} {K:Act→World→Prop} {Q:Exit→Act→World→Prop} {E:Prop} {F:Nat→Prop} (hg:o.guard=none) (s x:Operand) (T:Elem P t e z bytes)
  (hop:o.op=Op.call { callee:=Callee.builtin Builtin.append,args:=#[s,x],argTypes:=#[t,t] }) {v:Value} {n:Nat} {xs:List Value} (hs:a.eval s=v) (hown:w.ownsRow 0 e 1 v n xs)
  {A:Option Addr} {m c:Nat} {news:List Value} (hx:a.eval x = .slice A m c) (hr:Vs w F A m news) (h1:∀ u∈news,u.oneCell'=true) (hb:(n+m)*bytes≤140737488355328) (h63:n+m≤140737488355328)
  (h:∀ v' w',w'.ownsRow 0 e 1 v' (n+m) (xs++news)→w.grownBy w' v.ownBlock→(v'.ownBlock=v.ownBlock∨v'.ownBlock=some w.heap.size)→K (a.put o.dst v') w') :
  if Region.wanted o (yielded ops a.tmps)=true then Oper.wp P o a w K Q else E:=by
 have hw:Region.wanted o (yielded ops a.tmps)=true:=by simp[Region.wanted,hg]
 rw[if_pos hw]
 obtain⟨v',w',hrun,h2,h3,h4⟩:=run_app (P:=P) w o.type T hown (c:=c) hr h1 hb h63
 unfold Oper.wp execOp
 simp only[hop,resolve,invoke,builtin,Sem.run_bind,Sem.run_pure,Result.andThen_ok,List.map_toArray,List.map_cons,List.map_nil,hs,hx,hrun]
 exact h v' w' h2 h3 h4
def DocsL (ds:List Dc) (n:Nat) (w:World) (e:Ending) (w':World):Prop:=∃ (A:Option Addr) (c:Nat) (vs:List Value),e = .returned (.slice A n c)∧Cd w w' (.slice A n c) n ds vs∧n≤c∧c≤maxLen
section
variable {F:Nat→Prop}
theorem lawdocs_any (ds:List Dc) (A:Option Addr) (n c:Nat) (w:World) (hz:Dcs w F A n ds) (hn:n≤10000) (htl:∀ d∈ds,d.2.length≤60000) :
  Calls Tryz.prog 13 #[.slice A n c] w (DocsL ds n w):=by
 have HL:=Bx.mk hz.len
 have HZ:=Bx.mk hz
 have HT:=Bx.mk htl
 clear hz htl
 go_enter Tryz.func13,Tryz.ntmps13
 go_wp2_with fail
 go_loopw [3,4] (fun v i wr=>∃ (k:Nat) (vs:List Value),k≤n∧i = .int .i64 k∧Bx (Cd w wr v k (ds.take k) vs)) (fun _ i _=>n-(intOf i).toNat)
 case atStart=>exact⟨0,[],Nat.zero_le _,rfl,⟨Cd.start w⟩⟩
 case round =>
  obtain⟨k,vs,hk,rfl,hD⟩:=hrel
  obtain⟨Ad,cd,rfl,hkc,hkm⟩:=own_shape' hD.out.dg.own
  by_cases hlt:k<n
  ·have dk:decide ((k:Int)<(n:Int))=true:=decide_eq_true (by omega)
   obtain⟨bd,od,dc,Bt,ct,rfl,_,hd,hck0,hct0,hst0,hl1,hl2⟩:=HZ.out.get hlt
   have hck:=hD.out.dg.ch.cell (p:=⟨bd,od+k*2,none⟩) (fun h=>h) hck0
   have hct:=hD.out.dg.ch.cell (p:=⟨bd,od+k*2+1,none⟩) (fun h=>h) hct0
   have hst:=hst0.ch hD.out.dg.ch (fun _ _ _ h=>h)
   have htb:=HT.out dc (List.mem_of_getElem? hd.out)
   obtain⟨SK,hSK⟩:∃ S:ByteArray,kv dc.1 = .string S:=⟨_,rfl⟩
   have HSK:=Bx.mk hSK
   rw[hSK] at hck
   obtain⟨tl,htl⟩:∃ tl,dc.2.length=tl:=⟨_,rfl⟩
   have HTL:=Bx.mk htl
   rw[htl] at hct hst hl1 htb
   have HD:=Bx.mk hd.out
   have HST:=Bx.mk (hst.alloc (.cells #[] 5))
   have HON:=Bx.mk (own_none8 wr)
   have hct2:ct≤9223372036854775807:=by unfold maxLen at hl2; omega
   have i2:(k:Int)<(n:Int):=by omega
   have HT5:Bx (∀ v5 w5,w5.ownsRow 0 5 1 v5 (0+tl) ([]++dc.2.map (Value.int .u8))→(wr.alloc (.cells #[] 5)).drew.grownBy w5 (some wr.heap.size)→(v5.ownBlock=some wr.heap.size∨v5.ownBlock=some (wr.alloc (.cells #[] 5)).drew.heap.size)→Fresh wr v5 dc.2 w5):=⟨fun v5 w5 ho5 hg5 hb5=>((fresh_none8 wr).past ((Ch.refl (fun _=>False) (wr.alloc (.cells #[] 5))).drew)).app8 (by rw[HTL.out]; rw[Nat.zero_add,List.nil_append] at ho5; exact ho5) hg5 (by exact hb5)⟩
   have hck1:=((Ch.refl (fun _=>False) wr).alloc (.cells #[] 5)).cell (p:=⟨bd,od+k*2,none⟩) (fun h=>h) hck
   have hct1:=((Ch.refl (fun _=>False) wr).alloc (.cells #[] 5)).cell (p:=⟨bd,od+k*2+1,none⟩) (fun h=>h) hct
   clear hst hst0 htl hSK hd hck0 hct0
   go_wp2_with fail
   go_region_law ((first
    | (refine step_app1 rfl (.tmp 17) (.tmp 22) Tb rfl rfl HON.out rfl HST.out (ints_cells _ _) (by omega) (by omega) ?_; intro v5 w5 ho5 hg5 hb5; have HF5:=Bx.mk (HT5.out v5 w5 ho5 hg5 hb5); obtain⟨A5,c5,rfl,h51,h52⟩:=fr_shape HF5.out HTL.out; have HD5:=Bx.mk (HF5.out.2.2.own hD.out.dg.own (fun _ _ h=>h)); have hck5:=HF5.out.2.2.cell (p:=⟨bd,od+k*2,none⟩) (fun h=>h) hck; have hct5:=HF5.out.2.2.cell (p:=⟨bd,od+k*2+1,none⟩) (fun h=>h) hct; clear ho5 hg5 hb5)
    | (refine step_appK rfl (.tmp 11) (.tmp 25) elemD rfl rfl (HD5.out.alloc _) rfl (m:=1) rfl (doc_cells w5 SK _ _ rfl) (by intro u hu; simp at hu; rcases hu with hu | hu <;> (subst hu; rfl)) (by omega) (by omega) ?_; intro v7 w7 ho7 hg7 hb7; have HD7:Bx (Cd w w7 v7 (k+1) (ds.take (k+1)) (vs++[.slice A5 tl c5])):=⟨by rw[Oct.take_more HD.out]; exact hD.out.add HF5.out (by rw[HSK.out]; exact ho7) hg7 hb7⟩; clear ho7 hg7 hb7)))
   all_goals
    go_wp2
    go_roundw
    case rel=>exact⟨k+1,_,by omega,by go_num,HD7⟩
    case measure=>simp[intOf]; omega
  ·obtain rfl:n=k:=by omega
   have dk:decide ((n:Int)<(n:Int))=false:=decide_eq_false (by omega)
   have hall:ds.take n=ds:=List.take_of_length_le (Nat.le_of_eq HL.out)
   rw[hall] at hD
   clear hall
   go_wp2
   go_ret
   exact⟨Ad,cd,vs,rfl,hD.out,hkc,hkm⟩
end
end Go.Proofs.YtambgjpfoceieaaGreatDoor
