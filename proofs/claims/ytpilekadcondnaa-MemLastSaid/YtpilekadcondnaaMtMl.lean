/-
  The law MemLast's memory: the program's table, a map of texts, a row of keys. Conditions: none; plain lemmas.
-/
import Derived.Test.YtpilekadcondnaaMtKnown
namespace Go.Proofs.Ytpilekadcondnaa
open Go.RowKit Go.Oct Go.Su Go.Sg Go.Mt Go.Maps

theorem map_put (ds : List Dc) (k : Key) (t : List Int) : (put (·.1) ds (k, t)).map (·.1) = put id (ds.map (·.1)) k := by
  unfold put lo hi
  rw [List.map_append, List.map_cons, List.filter_map, List.filter_map]
  rfl
theorem map_del (ds : List Dc) (k : Key) : (del (·.1) ds k).map (·.1) = del id (ds.map (·.1)) k := by
  unfold del lo hi
  rw [List.map_append, List.filter_map, List.filter_map]
  rfl
theorem mch_turned {w w' : World} {b : Nat} (h : w.mapTurned w' b) : Ch (fun i => i = b) w w' := by
  have hg := h.grown
  exact ⟨hg.os, hg.tape, hg.output, hg.size, fun i hi hn => hg.block i hi (fun e => hn (by injection e))⟩
theorem textT : Try.prog.underlying 58 = some (.map 9 9) := Try.underlying58
/-- The program's table at t (state s), the map at mt (of the keys of dm), the row v of the keys kl. -/
structure Ml (W wr : World) (P : Nat → Prop) (t mt : Nat) (v : Value) (q : Nat) (kl : List Key) (s : List Dc × List Key) (dm : List Dc) (tv : Key → Value) : Prop where
  tab : TabP wr P t s.1 s.2
  pl : ∀ x, P x → W.heap.size ≤ x
  map : wr.ownsMap Try.prog 9 heldR mt dm.length (mapK (dm.map (·.1)) tv)
  ml : W.heap.size ≤ mt
  mp : ¬ P mt
  keys : Gs 9 1 W wr v q (kl.map kv)
  kp : ∀ g, v.ownBlock = some g → ¬ P g ∧ g ≠ mt
section
variable {W wr wm w2 w5 : World} {P : Nat → Prop} {t mt q : Nat} {v v5 : Value} {kl : List Key} {s s' : List Dc × List Key} {dm dm' : List Dc} {tv tv' : Key → Value} {k : Key}
theorem Ml.keep (h : Ml W wr P t mt v q kl s dm tv) (hc : Ch (fun _ => False) wr w2) : Ml W w2 P t mt v q kl s dm tv :=
  ⟨h.tab.keep hc, h.pl, own_map_ch h.map hc (fun h => h), h.ml, h.mp, h.keys.keep hc, h.kp⟩
theorem Ml.app (h : Ml W wr P t mt v q kl s dm tv) (hg : 0 < W.heap.size) (hm : Ch (fun _ => False) wr wm) (ho : w5.ownsRow 0 9 1 v5 (q + 1) (kl.map kv ++ [kv k])) (hgr : wm.grownBy w5 v.ownBlock) (hb : v5.ownBlock = v.ownBlock ∨ v5.ownBlock = some wm.heap.size) : Ml W w5 P t mt v5 (q + 1) (kl ++ [k]) s dm tv := by
  have hc : Ch (fun b => v.ownBlock = some b) wr w5 := ((Ch.refl (fun b => v.ownBlock = some b) wr).trans hm (fun _ _ h => h.elim)).grown hgr (fun j hj => .inl hj)
  have hml := h.map.lt
  have hs := hm.size
  refine ⟨h.tab.ch hc (fun x hx e => (h.kp x e).1 hx) (fun e => ?_), h.pl, own_map_ch h.map hc (fun e => (h.kp mt e).2 rfl), h.ml, h.mp, ?_, fun g hg2 => ?_⟩
  · have := h.keys.lies _ e
    omega
  · have := h.keys.app hm ho hgr hb
    rw [List.map_append]
    exact this
  · rcases hb with hb | hb
    · exact h.kp g (hb ▸ hg2)
    · rw [hb] at hg2
      injection hg2 with hg2
      refine ⟨fun hP => ?_, by omega⟩
      have := h.tab.lt g hP
      omega
theorem Ml.call (h : Ml W wr P t mt v q kl s dm tv) (hp : MPost s' t wr P w2) : ∃ P', Ml W w2 P' t mt v q kl s' dm tv := by
  obtain ⟨P', k1, k2, k3⟩ := hp
  have hml := h.map.lt
  have hs := h.keys.ch.size
  refine ⟨P', k1, fun x hx => ?_, own_map_ch h.map k3 h.mp, h.ml, fun hx => ?_, ⟨k3.own h.keys.own (fun g hg e => (h.kp g hg).1 e), h.keys.lies, h.keys.ch.trans k3 (fun i hi hx => ?_)⟩, fun g hg => ⟨fun hx => ?_, (h.kp g hg).2⟩⟩
  · rcases k2 x hx with e | e
    · exact h.pl x e
    · omega
  · rcases k2 mt hx with e | e
    · exact h.mp e
    · omega
  · have := h.pl i hx
    omega
  · rcases k2 g hx with e | e
    · exact (h.kp g hg).1 e
    · have := own_lt h.keys.own g hg
      omega
theorem Ml.mapped (h : Ml W wr P t mt v q kl s dm tv) (hg : 0 < W.heap.size) (hc : Ch (fun i => i = mt) wr w2) (hm : w2.ownsMap Try.prog 9 heldR mt dm'.length (mapK (dm'.map (·.1)) tv')) : Ml W w2 P t mt v q kl s dm' tv' := by
  have hml := h.ml
  refine ⟨h.tab.ch hc (fun x hx e => h.mp (e ▸ hx)) (fun e => by omega), h.pl, hm, h.ml, h.mp, ⟨hc.own h.keys.own (fun g hg e => (h.kp g hg).2 e), h.keys.lies, h.keys.ch.trans hc (fun i hi e => by omega)⟩, h.kp⟩
/-- A text laid in the map, one taken out. -/
theorem Ml.put (h : Ml W wr P t mt v q kl s dm tv) (hr : RiseF (·.1) dm) (hg : 0 < W.heap.size) (hn : dm.length < maxLen) (hk : k.length ≤ maxLen) (x : List Int) (S : ByteArray) : ∃ w2, (Instr.mapUpdate 58 (.map (some mt)) (kv k) (.string S)).run Try.prog wr = .ok () w2 ∧ Ml W w2 P t mt v q kl s (Go.Sg.put (·.1) dm (k, x)) (upd tv k (.string S)) := by
  obtain ⟨w2, hup, ho2, hg2⟩ := h.map.update (val := .string S) (d := .held (.string S)) (ps := []) mapLaw textT hn (key_of hk) rfl
  have hrm : RiseF id (dm.map (·.1)) := by unfold RiseF; rw [List.pairwise_map]; exact hr
  refine ⟨w2, hup, h.mapped hg ⟨hg2.os, hg2.tape, hg2.output, hg2.size, fun i hi hn => hg2.block i hi (fun e => hn (by injection e))⟩ ?_⟩
  have h1 := own_put hrm ho2
  rw [map_put, show (Go.Sg.put (·.1) dm (k, x)).length = (Go.Sg.put id (dm.map (·.1)) k).length by rw [← map_put dm k x, List.length_map]]
  exact h1
theorem Ml.del (h : Ml W wr P t mt v q kl s dm tv) (hr : RiseF (·.1) dm) (hg : 0 < W.heap.size) (hk : k.length ≤ maxLen) (ty : TypeId) : ∃ w2, (Builtin.delete_ #[58, 9] ty #[.map (some mt), kv k]).run Try.prog wr = .ok (.tuple #[]) w2 ∧ Ml W w2 P t mt v q kl s (Go.Sg.del (·.1) dm k) tv := by
  obtain ⟨w2, hdel, ho2, ht2⟩ := h.map.drop mapLaw textT (key_of hk) ty
  have hrm : RiseF id (dm.map (·.1)) := by unfold RiseF; rw [List.pairwise_map]; exact hr
  refine ⟨w2, hdel, h.mapped hg (mch_turned ht2) ?_⟩
  have h1 := own_tight ho2
  rw [del_canon mapLaw hrm ho2, size_mapK] at h1
  rw [map_del, show (Go.Sg.del (·.1) dm k).length = (Go.Sg.del id (dm.map (·.1)) k).length by rw [← map_del, List.length_map]]
  exact h1
/-- What the map tells. -/
theorem Ml.look (h : Ml W wr P t mt v q kl s dm tv) (hr : RiseF (·.1) dm) (hk : k.length ≤ maxLen) : (Instr.lookup 58 (.map (some mt)) (kv k) true).run Try.prog wr = .ok (.tuple #[if k ∈ dm.map (·.1) then tv k else .string ByteArray.empty, .bool (decide (k ∈ dm.map (·.1)))]) wr := by
  have hrm : RiseF id (dm.map (·.1)) := by unfold RiseF; rw [List.pairwise_map]; exact hr
  obtain ⟨v, ps, hrun, hv⟩ := h.map.look_ok (z := .string ByteArray.empty) (zd := .held (.string ByteArray.empty)) (zp := []) mapLaw textT (by kernel_rfl) rfl (key_of hk)
  by_cases hx : k ∈ dm.map (·.1)
  · rw [at_mapK hrm hx] at hv
    simp only [heldR, Option.some.injEq, Prod.mk.injEq, DataW.held.injEq] at hv
    rw [hrun, hv.1, has_mapK, if_pos hx]
  · rw [at_mapK_no hx] at hv
    simp only [heldR, Option.some.injEq, Prod.mk.injEq, DataW.held.injEq] at hv
    rw [hrun, hv.1, has_mapK, if_neg hx]
end
end Go.Proofs.Ytpilekadcondnaa
