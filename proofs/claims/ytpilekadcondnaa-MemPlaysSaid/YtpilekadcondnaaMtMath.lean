/-
  A map of keys as it reads: keys that are known, and of each a value; the keys of a table. Over no program. Conditions: none.
-/
import Derived.Test.YtpilekadcondnaaOcWords
import Derived.Test.YtpilekadcondnaaMmMath
import Derived.Test.YtpilekadcondnaaSgWords
import Derived.Maps.OwnSet
import Derived.Maps.Ext
import Derived.Maps.RangeWalk
import Derived.Sort.KeysCollected
namespace Go.Mt
open Go.RowKit Go.Oct Go.Maps Go.WideShapes Go.Sg

def heldR (v : Value) : Option (DataW Value × List MemPlace) := some (.held v, [])
/-- What the map holds. -/
def mapK (ks : List Key) (vf : Key → Value) : DataW Value := .map (ks.map fun k => (Lit.string k, .held (vf k)))
/-- Values, one of them another. -/
def upd (vf : Key → Value) (k : Key) (v : Value) : Key → Value := fun j => if j = k then v else vf j
section
variable {ks : List Key} {vf : Key → Value} {k : Key} {v : Value}
theorem str_before {a b : Key} : (Lit.string a).before (.string b) = decide (a < b) := by
  show bytesBefore a b = decide (a < b)
  induction a generalizing b with
  | nil => cases b <;> simp [bytesBefore]
  | cons x a ih =>
    cases b with
    | nil => simp [bytesBefore]
    | cons y b =>
      unfold bytesBefore
      rw [ih, Bool.eq_iff_iff]
      simp only [List.cons_lt_cons_iff, Bool.or_eq_true, Bool.and_eq_true, decide_eq_true_eq, beq_iff_eq]
theorem lit_key (k : Key) : WideAt.IsKeyLit (.string k) := trivial
theorem canon_mapK (h : RiseF id ks) : Canon (mapK ks vf) := by
  refine ⟨_, rfl, ?_, fun p hp => ?_⟩
  · rw [List.pairwise_map]
    exact List.Pairwise.imp (fun {a b} (hab : id a < id b) => by rw [str_before]; simpa using hab) h
  · obtain ⟨x, _, rfl⟩ := List.mem_map.1 hp
    exact lit_key _
theorem has_mapK (ks : List Key) (vf : Key → Value) (k : Key) : has (mapK ks vf) (.string k) = decide (k ∈ ks) := by
  unfold mapK
  rw [has_eq]
  induction ks with
  | nil => simp
  | cons a l ih =>
    rw [List.map_cons, List.any_cons, ih]
    by_cases h : a = k
    · subst h; simp [Lit.sameKey]
    · have : (Lit.string a).sameKey (.string k) = false := sameKey_ne (fun e => h (by injection e))
      have h2 : k ≠ a := fun e => h e.symm
      simp [this, h2]
theorem has_mapK_no (ks : List Key) (vf : Key → Value) {kl : Lit} (h : ∀ k, kl ≠ .string k) : has (mapK ks vf) kl = false := by
  unfold mapK
  rw [has_eq, List.any_eq_false]
  intro p hp
  obtain ⟨x, _, rfl⟩ := List.mem_map.1 hp
  simp only [Bool.not_eq_true]
  exact sameKey_ne (fun e => h _ e.symm)
theorem at_mapK (h : RiseF id ks) (hk : k ∈ ks) (z : DataW Value) : (mapK ks vf).atKey (.string k) z = .held (vf k) := by
  obtain ⟨es, e, hs, _⟩ := canon_mapK (vf := vf) h
  have he : es = ks.map fun k => (Lit.string k, .held (vf k)) := by unfold mapK at e; injection e with e; exact e.symm
  rw [e]
  exact WideAt.atKey_mem z (k := .string k) (d := .held (vf k)) (lit_key _) (apart_of_rising hs) (by rw [he]; exact List.mem_map_of_mem (f := fun k : Key => (Lit.string k, DataW.held (vf k))) hk)
theorem at_mapK_no (hk : k ∉ ks) (z : DataW Value) : (mapK ks vf).atKey (.string k) z = z := atKey_of_not_has (by rw [has_mapK]; simpa using hk) z
theorem size_mapK (ks : List Key) (vf : Key → Value) : Maps.size (mapK ks vf) = ks.length := by unfold mapK; rw [size_eq, List.length_map]
theorem isMap_mapK (ks : List Key) (vf : Key → Value) : IsMap (mapK ks vf) := ⟨_, rfl⟩
theorem mem_putK {j : Key} : j ∈ put id ks k ↔ j = k ∨ j ∈ ks := by
  rw [mem_put]
  constructor
  · rintro (h | ⟨h, _⟩)
    · exact .inl h
    · exact .inr h
  · rintro (h | h)
    · exact .inl h
    · by_cases e : j = k
      · exact .inl e
      · exact .inr ⟨h, e⟩
/-- A key laid, what map it was. -/
theorem put_canon {P : Program} {kt : TypeId} {w : World} {b n : Nat} (K : Keyed P kt) (h : RiseF id ks) (hown : w.ownsMap P kt heldR b n ((mapK ks vf).put (.string k) (.held v))) : (mapK ks vf).put (.string k) (.held v) = mapK (put id ks k) (upd vf k v) := by
  refine Maps.ext (hown.canon K) (canon_mapK (riseF_put h k)) (fun kl => ?_) (fun kl z hk => ?_)
  · by_cases e : kl = .string k
    · subst e
      rw [has_put_same (isMap_mapK _ _) (lit_key _), has_mapK]
      simp [mem_putK]
    · rw [has_put_other e]
      by_cases es : ∃ j, kl = .string j
      · obtain ⟨j, rfl⟩ := es
        have hne : j ≠ k := fun e2 => e (by rw [e2])
        rw [has_mapK, has_mapK]
        simp [mem_putK, hne]
      · rw [has_mapK_no _ _ (fun k e => es ⟨k, e⟩), has_mapK_no _ _ (fun k e => es ⟨k, e⟩)]
  · by_cases e : kl = .string k
    · subst e
      rw [atKey_put_same (isMap_mapK _ _) (lit_key _), at_mapK (riseF_put h k) (mem_putK.2 (.inl rfl))]
      simp [upd]
    · rw [has_put_other e] at hk
      rw [atKey_put_other e]
      by_cases es : ∃ j, kl = .string j
      · obtain ⟨j, rfl⟩ := es
        have hne : j ≠ k := fun e2 => e (by rw [e2])
        rw [has_mapK] at hk
        have hj : j ∈ ks := by simpa using hk
        rw [at_mapK h hj, at_mapK (riseF_put h k) (mem_putK.2 (.inr hj))]
        simp [upd, hne]
      · rw [has_mapK_no _ _ (fun k e => es ⟨k, e⟩)] at hk
        cases hk
theorem mem_delK {j : Key} : j ∈ del id ks k ↔ j ∈ ks ∧ j ≠ k := mem_del
theorem del_canon {P : Program} {kt : TypeId} {w : World} {b n : Nat} (K : Keyed P kt) (h : RiseF id ks) (hown : w.ownsMap P kt heldR b n ((mapK ks vf).del (.string k))) : (mapK ks vf).del (.string k) = mapK (del id ks k) vf := by
  refine Maps.ext (hown.canon K) (canon_mapK (riseF_del h k)) (fun kl => ?_) (fun kl z hk => ?_)
  · by_cases e : kl = .string k
    · subst e
      rw [has_del_same, has_mapK]
      simp [mem_delK]
    · rw [has_del_other e]
      by_cases es : ∃ j, kl = .string j
      · obtain ⟨j, rfl⟩ := es
        have hne : j ≠ k := fun e2 => e (by rw [e2])
        rw [has_mapK, has_mapK]
        simp [mem_delK, hne]
      · rw [has_mapK_no _ _ (fun k e => es ⟨k, e⟩), has_mapK_no _ _ (fun k e => es ⟨k, e⟩)]
  · by_cases e : kl = .string k
    · subst e
      rw [has_del_same] at hk
      cases hk
    · rw [has_del_other e] at hk
      rw [atKey_del_other e]
      by_cases es : ∃ j, kl = .string j
      · obtain ⟨j, rfl⟩ := es
        have hne : j ≠ k := fun e2 => e (by rw [e2])
        rw [has_mapK] at hk
        have hj : j ∈ ks := by simpa using hk
        rw [at_mapK h hj, at_mapK (riseF_del h k) (mem_delK.2 ⟨hj, hne⟩)]
      · rw [has_mapK_no _ _ (fun k e => es ⟨k, e⟩)] at hk
        cases hk
/-- How many entries there are. -/
theorem own_tight {P : Program} {kt : TypeId} {w : World} {b n : Nat} {R : Value → Option (DataW Value × List MemPlace)} {D : DataW Value} (h : w.ownsMap P kt R b n D) : w.ownsMap P kt R b (Maps.size D) D := by
  obtain ⟨es, c, h1, h2, h3, rfl⟩ := h
  exact ⟨es, c, h1, h2, by rw [size_eq, length_read]; exact Nat.le_refl _, rfl⟩
theorem strKeys_mapK (ks : List Key) (vf : Key → Value) : strKeys (mapK ks vf) = ks := by
  show (ks.map fun k => (Lit.string k, DataW.held (vf k))).map (fun p => strOf p.1) = ks
  rw [List.map_map]
  show ks.map (fun k => k) = ks
  simp
end
/-! ### the keys of a table -/
section
variable {α : Type} {f : α → Key} {l : List α} {x : α} {k : Key} {ks gs : List Key} {ds : List Dc} {t : List Int}
theorem del_perm (f : α → Key) (l : List α) (k : Key) : (del f l k).Perm (l.filter fun x => decide (f x ≠ k)) := by
  have h1 : lo f l k = (l.filter fun x => decide (f x ≠ k)).filter fun x => decide (f x < k) := by
    unfold lo
    rw [List.filter_filter]
    refine List.filter_congr fun z _ => ?_
    by_cases h : f z < k
    · simp [h, keyne h]
    · simp [h]
  have h2 : hi f l k = (l.filter fun x => decide (f x ≠ k)).filter fun x => !decide (f x < k) := by
    unfold hi
    rw [List.filter_filter]
    refine List.filter_congr fun z _ => ?_
    rcases key_tri (f z) k with h | h | h
    · simp [h, key_le_of_lt h]
    · simp [h, key_irrefl]
    · simp [h, key_le_of_lt h, (keyne h).symm]
  unfold del
  rw [h1, h2]
  exact List.filter_append_perm _ _
theorem put_perm (f : α → Key) (l : List α) (x : α) : (put f l x).Perm (x :: del f l (f x)) := List.perm_middle
theorem kperm_del0 (h : ks.Perm (ds.map (·.1) ++ gs)) (k : Key) : (del id ks k).Perm ((del (·.1) ds k).map (·.1) ++ del id gs k) := by
  refine (del_perm _ _ _).trans ((h.filter _).trans ?_)
  rw [List.filter_append, List.filter_map]
  exact (((del_perm (·.1) ds k).map _).append (del_perm id gs k)).symm
theorem kperm_put (h : ks.Perm (ds.map (·.1) ++ gs)) (k : Key) (t : List Int) : (put id ks k).Perm ((put (·.1) ds (k, t)).map (·.1) ++ del id gs k) := by
  refine (put_perm id ks k).trans (((kperm_del0 h k).cons k).trans ?_)
  exact (((put_perm (·.1) ds (k, t)).map (·.1)).append (List.Perm.refl (del id gs k))).symm
theorem kperm_del (h : ks.Perm (ds.map (·.1) ++ gs)) (k : Key) : (put id ks k).Perm ((del (·.1) ds k).map (·.1) ++ put id gs k) := by
  refine (put_perm id ks k).trans (((kperm_del0 h k).cons k).trans ?_)
  exact (List.perm_middle.symm).trans ((List.Perm.refl _).append (put_perm id gs k).symm)
theorem kmem (h : ks.Perm (ds.map (·.1) ++ gs)) {k : Key} : k ∈ ks ↔ (∃ d ∈ ds, d.1 = k) ∨ k ∈ gs := by
  rw [h.mem_iff, List.mem_append, List.mem_map]
/-- The known keys that have a text, those that are gone. -/
theorem keys_docs (ok : TabOk ds gs) (hr : RiseF id ks) (h : ks.Perm (ds.map (·.1) ++ gs)) : (ks.filter fun k => decide (∃ d ∈ ds, d.1 = k)) = ds.map (·.1) := by
  refine srt_uniq (Rise.srt (List.Pairwise.filter _ hr)) (Rise.srt ok.dr.rise) ?_
  refine (h.filter _).trans ?_
  rw [List.filter_append, List.filter_eq_self.2 (fun k hk => by obtain ⟨d, hd, rfl⟩ := List.mem_map.1 hk; exact decide_eq_true ⟨d, hd, rfl⟩), List.filter_eq_nil_iff.2 (fun k hk => by
    simp only [decide_eq_true_eq]
    rintro ⟨d, hd, rfl⟩
    exact ok.apart d hd hk), List.append_nil]
theorem keys_gone (ok : TabOk ds gs) (hr : RiseF id ks) (h : ks.Perm (ds.map (·.1) ++ gs)) : (ks.filter fun k => !decide (∃ d ∈ ds, d.1 = k)) = gs := by
  refine srt_uniq (Rise.srt (List.Pairwise.filter _ hr)) (Rise.srt ok.gr) ?_
  refine (h.filter _).trans ?_
  rw [List.filter_append, List.filter_eq_nil_iff.2 (fun k hk => by obtain ⟨d, hd, rfl⟩ := List.mem_map.1 hk; simpa using (⟨d, hd, rfl⟩ : ∃ e ∈ ds, e.1 = d.1)), List.nil_append, List.filter_eq_self.2 (fun k hk => by
    simp only [Bool.not_eq_true', decide_eq_false_iff_not]
    rintro ⟨d, hd, rfl⟩
    exact ok.apart d hd hk)]
end
end Go.Mt
