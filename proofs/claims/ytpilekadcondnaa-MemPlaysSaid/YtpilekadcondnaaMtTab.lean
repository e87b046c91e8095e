/-
  The program's table in memory. Conditions: none; plain lemmas.
-/
import Derived.Test.YtpilekadcondnaaMtMath
import Derived.Test.YtpilekadcondnaaMmTab
import Derived.Test.YtpilekadcondnaaFmGrow
import Derived.Laws.OwnMore
namespace Go.Proofs.Ytpilekadcondnaa
open Go.RowKit Go.Oct Go.Su Go.Sg Go.Mt Go.Maps

/-- What became of a key, as a value. -/
def fate (b : Bool) (v : Value) : Value := .agg #[.bool b, v]
theorem mapLaw : Keyed Try.prog 9 := string_keyed Try.underlying9
theorem mapT : Try.prog.underlying 64 = some (.map 9 69) := Try.underlying64
theorem zeroT (w : World) : (zeroValue 69).run Try.prog w = .ok (fate false (.slice none 0 0)) w := by kernel_rfl
theorem key_of {k : Key} (h : k.length ≤ maxLen) : keyOf Try.prog 9 (kv k) = some (.string k) := by
  unfold kv
  have := Go.WideMaps.keyOf_string_mk (P := Try.prog) Try.underlying9 (s := ⟨k.toArray⟩) (by rw [kv_size]; exact h)
  rwa [kv_list] at this
theorem own_map_ch {kt : TypeId} {b n : Nat} {D : DataW Value} {P : Program} {w w' : World} {S : Nat → Prop} (h : w.ownsMap P kt heldR b n D) (hc : Ch S w w') (hb : ¬ S b) : w'.ownsMap P kt heldR b n D := by
  have hl := h.lt
  obtain ⟨es, c, hh, r⟩ := h
  exact ⟨es, c, (hc.block b hl hb).trans hh, r⟩

/-- The table's map: keys and what became of them. -/
structure Ents (w : World) (P : Nat → Prop) (t : Nat) (mb : Option Nat) (ks : List Key) (vf : Key → Value) (ds : List Dc) (gs : List Key) : Prop where
  rise : RiseF id ks
  perm : ks.Perm (ds.map (·.1) ++ gs)
  none_ : mb = none → ks = []
  some_ : ∀ b, mb = some b → P b ∧ b ≠ t ∧ w.ownsMap Try.prog 9 heldR b ks.length (mapK ks vf)
  docs : ∀ d ∈ ds, ∃ A c, vf d.1 = fate true (.slice A d.2.length c) ∧ Sl w (fun x => P x ∧ x ≠ t ∧ mb ≠ some x) .u8 A d.2.length d.2 ∧ d.2.length ≤ c ∧ c ≤ maxLen ∧ Shp A c
  gone : ∀ k ∈ gs, vf k = fate false (.slice none 0 0)
/-- The program's table at block t; all its blocks are of P. -/
structure TabP (w : World) (P : Nat → Prop) (t : Nat) (ds : List Dc) (gs : List Key) : Prop where
  row : ∃ mb ks vf, w.cell? ⟨t, 0, none⟩ = some (.map mb) ∧ Ents w P t mb ks vf ds gs
  zf : w.frozen? ⟨t, 0, none⟩ = false
  own : P t
  lt : ∀ x, P x → x < w.heap.size
  ok : TabOk ds gs
  few : ds.length + gs.length ≤ 1000000
  mx : ∃ m, w.cell? ⟨0, 0, none⟩ = some (.int .i64 m)
  mxp : ¬ P 0
section
variable {w w' : World} {P S F : Nat → Prop} {t : Nat} {mb : Option Nat} {ks gs : List Key} {vf : Key → Value} {ds : List Dc} {k : Key}
theorem Ents.ch (h : Ents w P t mb ks vf ds gs) (hc : Ch S w w') (hP : ∀ x, P x → ¬ S x) : Ents w' P t mb ks vf ds gs :=
  ⟨h.rise, h.perm, h.none_, fun b hb => by
    obtain ⟨h1, h2, h3⟩ := h.some_ b hb
    exact ⟨h1, h2, own_map_ch h3 hc (hP b h1)⟩, fun d hd => by
    obtain ⟨A, c, h1, h2, h3⟩ := h.docs d hd
    exact ⟨A, c, h1, h2.ch hc (fun x hx _ => hP x hx.1), h3⟩, h.gone⟩
theorem TabP.lt_t (h : TabP w P t ds gs) : t < w.heap.size := h.lt t h.own
theorem TabP.ch (h : TabP w P t ds gs) (hc : Ch S w w') (hP : ∀ x, P x → ¬ S x) (hV : ¬ S 0) : TabP w' P t ds gs := by
  obtain ⟨mb, ks, vf, h1, h2⟩ := h.row
  obtain ⟨m, hm⟩ := h.mx
  exact ⟨⟨mb, ks, vf, hc.cell (p := ⟨t, 0, none⟩) (hP t h.own) h1, h2.ch hc hP⟩, by rw [hc.frozen (p := ⟨t, 0, none⟩) (hP t h.own) h.lt_t]; exact h.zf, h.own, fun x hx => Nat.lt_of_lt_of_le (h.lt x hx) hc.size, h.ok, h.few, ⟨m, hc.cell (p := ⟨0, 0, none⟩) hV hm⟩, h.mxp⟩
theorem TabP.keep (h : TabP w P t ds gs) (hc : Ch (fun _ => False) w w') : TabP w' P t ds gs := h.ch hc (fun _ _ h => h) (fun h => h)
/-- What a call of one of its functions leaves. -/
def MPost (s : List Dc × List Key) (t : Nat) (w : World) (P : Nat → Prop) (w' : World) : Prop := ∃ P' : Nat → Prop, TabP w' P' t s.1 s.2 ∧ (∀ x, P' x → P x ∨ w.heap.size ≤ x) ∧ Ch P w w'
theorem MPost.quiet (h : TabP w P t ds gs) (hc : Ch (fun _ => False) w w') : MPost (ds, gs) t w P w' := ⟨P, h.keep hc, fun _ h => .inl h, hc.mono (fun _ _ h => h.elim)⟩
theorem MPost.refl (h : TabP w P t ds gs) : MPost (ds, gs) t w P w := .quiet h (Ch.refl _ _)
theorem MPost.trans {w' w2 : World} {P' : Nat → Prop} {s : List Dc × List Key} (hP : ∀ x, P' x → P x ∨ w.heap.size ≤ x) (hc : Ch P w w') (h : MPost s t w' P' w2) : MPost s t w P w2 := by
  obtain ⟨P2, h1, h2, h3⟩ := h
  refine ⟨P2, h1, fun x hx => ?_, hc.trans h3 (fun i hi hs => ?_)⟩
  · rcases h2 x hx with h | h
    · exact hP x h
    · exact .inr (Nat.le_trans hc.size h)
  · rcases hP i hs with h | h
    · exact h
    · omega
/-- What the map tells of a key. -/
theorem Ents.look_ok (h : Ents w P t mb ks vf ds gs) (hk : k.length ≤ maxLen) : (Instr.lookup 64 (.map mb) (kv k) true).run Try.prog w = .ok (.tuple #[if k ∈ ks then vf k else fate false (.slice none 0 0), .bool (decide (k ∈ ks))]) w := by
  cases mb with
  | none =>
    have := Maps.look_nil (w := w) true mapLaw mapT (z := fate false (.slice none 0 0)) (zeroT w) (key_of hk)
    rw [h.none_ rfl]
    simpa using this
  | some b =>
    obtain ⟨_, _, ho⟩ := h.some_ b rfl
    obtain ⟨v, ps, hr, hv⟩ := ho.look_ok (z := fate false (.slice none 0 0)) (zd := .held (fate false (.slice none 0 0))) (zp := []) mapLaw mapT (zeroT w) rfl (key_of hk)
    by_cases hx : k ∈ ks
    · rw [at_mapK h.rise hx] at hv
      simp only [heldR, Option.some.injEq, Prod.mk.injEq, DataW.held.injEq] at hv
      rw [hr, hv.1, has_mapK, if_pos hx]
    · rw [at_mapK_no hx] at hv
      simp only [heldR, Option.some.injEq, Prod.mk.injEq, DataW.held.injEq] at hv
      rw [hr, hv.1, has_mapK, if_neg hx]
theorem Ents.look (h : Ents w P t mb ks vf ds gs) (hk : k.length ≤ maxLen) : (Instr.lookup 64 (.map mb) (kv k) false).run Try.prog w = .ok (if k ∈ ks then vf k else fate false (.slice none 0 0)) w := by
  cases mb with
  | none =>
    have := Maps.look_nil (w := w) false mapLaw mapT (z := fate false (.slice none 0 0)) (zeroT w) (key_of hk)
    rw [h.none_ rfl]
    simpa using this
  | some b =>
    obtain ⟨_, _, ho⟩ := h.some_ b rfl
    obtain ⟨v, ps, hr, hv⟩ := ho.lookup (z := fate false (.slice none 0 0)) (zd := .held (fate false (.slice none 0 0))) (zp := []) mapLaw mapT (zeroT w) rfl (key_of hk)
    by_cases hx : k ∈ ks
    · rw [at_mapK h.rise hx] at hv
      simp only [heldR, Option.some.injEq, Prod.mk.injEq, DataW.held.injEq] at hv
      rw [hr, hv.1, if_pos hx]
    · rw [at_mapK_no hx] at hv
      simp only [heldR, Option.some.injEq, Prod.mk.injEq, DataW.held.injEq] at hv
      rw [hr, hv.1, if_neg hx]
theorem Ents.mem (h : Ents w P t mb ks vf ds gs) : k ∈ ks ↔ (∃ d ∈ ds, d.1 = k) ∨ k ∈ gs := kmem h.perm
theorem Ents.len (h : Ents w P t mb ks vf ds gs) : ks.length = ds.length + gs.length := by
  have := h.perm.length_eq
  simpa using this
end
end Go.Proofs.Ytpilekadcondnaa
