/- Lemmas and contracts of this proof. Conditions: said at each. -/
import Derived.Test.YtbkakhfepiooaaaGreatDoorQGOcMath
namespace Go.Sg
section
section
variable {α : Type} {f : α → Key} {l : List α} {x y : α} {k j : Key} {i : Nat}
/-- What stands ahead of a key, what behind it. -/
def lo (f : α → Key) (l : List α) (k : Key) : List α := l.filter fun x => decide (f x < k)
def hi (f : α → Key) (l : List α) (k : Key) : List α := l.filter fun x => decide (k < f x)
/-- One put in, one taken out. -/
def put (f : α → Key) (l : List α) (x : α) : List α := lo f l (f x) ++ x :: hi f l (f x)
def del (f : α → Key) (l : List α) (k : Key) : List α := lo f l k ++ hi f l k
/-- A row that rises by its keys. -/
def RiseF (f : α → Key) (l : List α) : Prop := l.Pairwise fun x y => f x < f y
theorem RiseF.nil : RiseF f ([] : List α) := List.Pairwise.nil
theorem RiseF.rise (h : RiseF f l) : Rise (l.map f) := by unfold Rise; rw [List.pairwise_map]; exact h
theorem riseF_lo (h : RiseF f l) : RiseF f (lo f l k) := List.Pairwise.filter _ h
theorem riseF_hi (h : RiseF f l) : RiseF f (hi f l k) := List.Pairwise.filter _ h
theorem mem_lo : x ∈ lo f l k ↔ x ∈ l ∧ f x < k := by simp [lo]
theorem mem_hi : x ∈ hi f l k ↔ x ∈ l ∧ k < f x := by simp [hi]
theorem keyne {a b : Key} (h : a < b) : a ≠ b := fun e => by subst e; exact key_irrefl _ h
theorem mem_del : x ∈ del f l k ↔ x ∈ l ∧ f x ≠ k := by
  unfold del
  rw [List.mem_append, mem_lo, mem_hi]
  constructor
  · rintro (⟨h, h1⟩ | ⟨h, h1⟩)
    · exact ⟨h, keyne h1⟩
    · exact ⟨h, (keyne h1).symm⟩
  · rintro ⟨h, h1⟩
    rcases key_tri (f x) k with h2 | h2 | h2
    · exact .inl ⟨h, h2⟩
    · exact absurd h2 h1
    · exact .inr ⟨h, h2⟩
theorem mem_put : x ∈ put f l y ↔ x = y ∨ (x ∈ l ∧ f x ≠ f y) := by
  unfold put
  rw [List.mem_append, List.mem_cons, mem_lo, mem_hi]
  constructor
  · rintro (⟨h, h1⟩ | h | ⟨h, h1⟩)
    · exact .inr ⟨h, keyne h1⟩
    · exact .inl h
    · exact .inr ⟨h, (keyne h1).symm⟩
  · rintro (h | ⟨h, h1⟩)
    · exact .inr (.inl h)
    · rcases key_tri (f x) (f y) with h2 | h2 | h2
      · exact .inl ⟨h, h2⟩
      · exact absurd h2 h1
      · exact .inr (.inr ⟨h, h2⟩)
theorem riseF_del (h : RiseF f l) (k : Key) : RiseF f (del f l k) :=
  List.pairwise_append.2 ⟨riseF_lo h, riseF_hi h, fun _ ha _ hb => key_trans (mem_lo.1 ha).2 (mem_hi.1 hb).2⟩
theorem riseF_put (h : RiseF f l) (y : α) : RiseF f (put f l y) := by
  refine List.pairwise_append.2 ⟨riseF_lo h, List.pairwise_cons.2 ⟨fun b hb => (mem_hi.1 hb).2, riseF_hi h⟩, fun a ha b hb => ?_⟩
  have h1 := (mem_lo.1 ha).2
  rcases List.mem_cons.1 hb with rfl | hb
  · exact h1
  · exact key_trans h1 (mem_hi.1 hb).2
/-- Where a key stands, or would stand. -/
theorem lo_take (h1 : ∀ q z, q < i → l[q]? = some z → f z < k) (h2 : ∀ q z, i ≤ q → l[q]? = some z → ¬ f z < k) : lo f l k = l.take i := by
  have e : l = l.take i ++ l.drop i := (List.take_append_drop i l).symm
  unfold lo
  conv => lhs; rw [e]
  rw [List.filter_append, List.filter_eq_self.2 (fun z hz => ?_), List.filter_eq_nil_iff.2 (fun z hz => ?_), List.append_nil]
  · obtain ⟨q, hq⟩ := List.getElem?_of_mem hz
    rw [List.getElem?_drop] at hq
    simpa using h2 (i + q) z (by omega) hq
  · obtain ⟨q, hq⟩ := List.getElem?_of_mem hz
    rw [List.getElem?_take] at hq
    split at hq
    · rename_i hlt
      simpa using h1 q z hlt hq
    · cases hq
theorem hi_drop (h1 : ∀ q z, q < i → l[q]? = some z → ¬ k < f z) (h2 : ∀ q z, i ≤ q → l[q]? = some z → k < f z) : hi f l k = l.drop i := by
  have e : l = l.take i ++ l.drop i := (List.take_append_drop i l).symm
  unfold hi
  conv => lhs; rw [e]
  rw [List.filter_append, List.filter_eq_nil_iff.2 (fun z hz => ?_), List.filter_eq_self.2 (fun z hz => ?_), List.nil_append]
  · obtain ⟨q, hq⟩ := List.getElem?_of_mem hz
    rw [List.getElem?_drop] at hq
    simpa using h2 (i + q) z (by omega) hq
  · obtain ⟨q, hq⟩ := List.getElem?_of_mem hz
    rw [List.getElem?_take] at hq
    split at hq
    · rename_i hlt
      simpa using h1 q z hlt hq
    · cases hq
theorem RiseF.at_lt (h : RiseF f l) {p q : Nat} (hpq : p < q) (hx : l[p]? = some x) (hy : l[q]? = some y) : f x < f y := by
  obtain ⟨hp, rfl⟩ := List.getElem?_eq_some_iff.1 hx
  obtain ⟨hq, rfl⟩ := List.getElem?_eq_some_iff.1 hy
  exact List.pairwise_iff_getElem.1 h p q hp hq hpq
/-- One taken out that stands at i. -/
theorem del_at (h : RiseF f l) (hx : l[i]? = some x) (e : f x = k) : del f l k = l.take i ++ l.drop (i + 1) := by
  have h1 : lo f l k = l.take i := lo_take (fun q z hq hz => by rw [← e]; exact h.at_lt hq hz hx) (fun q z hq hz => by
    rcases Nat.lt_or_ge i q with h' | h'
    · rw [← e]; exact key_le_of_lt (h.at_lt h' hx hz)
    · obtain rfl : q = i := by omega
      rw [hx] at hz
      injection hz with hz
      rw [← hz, e]
      exact key_irrefl _)
  have h2 : hi f l k = l.drop (i + 1) := hi_drop (fun q z hq hz => by
    rcases Nat.lt_or_ge q i with h' | h'
    · rw [← e]; exact key_le_of_lt (h.at_lt h' hz hx)
    · obtain rfl : q = i := by omega
      rw [hx] at hz
      injection hz with hz
      rw [← hz, e]
      exact key_irrefl _) (fun q z hq hz => by rw [← e]; exact h.at_lt (by omega) hx hz)
  unfold del
  rw [h1, h2]
/-- One taken out that does not stand there. -/
theorem del_no (h : RiseF f l) (hk : ∀ x ∈ l, f x ≠ k) : del f l k = l := by
  have hp : (del f l k).Perm l := by
    unfold del lo hi
    have : l.filter (fun x => decide (k < f x)) = l.filter (fun x => !decide (f x < k)) := List.filter_congr fun z hz => by
      rcases key_tri (f z) k with h1 | h1 | h1
      · simp [h1, key_le_of_lt h1]
      · exact absurd h1 (hk z hz)
      · simp [h1, key_le_of_lt h1]
    rw [this]
    exact List.filter_append_perm _ _
  exact List.Perm.eq_of_pairwise (le := fun a b => f a < f b) (fun a b _ _ h1 h2 => absurd h2 (key_le_of_lt h1)) (riseF_del h k) h hp
/-- One put in at i. -/
theorem put_at (h : RiseF f l) (h1 : ∀ q z, q < i → l[q]? = some z → f z < f x) (h2 : ∀ z, l[i]? = some z → f x < f z) : put f l x = l.take i ++ x :: l.drop i := by
  have h3 : ∀ q z, i ≤ q → l[q]? = some z → f x < f z := fun q z hq hz => by
    rcases Nat.lt_or_ge i q with h' | h'
    · have hi : i < l.length := by have := (List.getElem?_eq_some_iff.1 hz).1; omega
      exact key_trans (h2 _ (List.getElem?_eq_getElem hi)) (h.at_lt h' (List.getElem?_eq_getElem hi) hz)
    · obtain rfl : q = i := by omega
      exact h2 z hz
  unfold put
  rw [lo_take h1 (fun q z hq hz => key_le_of_lt (h3 q z hq hz)), hi_drop (fun q z hq hz => key_le_of_lt (h1 q z hq hz)) h3]
theorem len_put (f : α → Key) (l : List α) (x : α) : (put f l x).length = (del f l (f x)).length + 1 := by
  unfold put del
  simp only [List.length_append, List.length_cons]
  omega
theorem put_del (f : α → Key) (l : List α) (x : α) : put f (del f l (f x)) x = put f l x := by
  have h1 : lo f (del f l (f x)) (f x) = lo f l (f x) := by
    unfold del
    rw [show lo f (lo f l (f x) ++ hi f l (f x)) (f x) = lo f (lo f l (f x)) (f x) ++ lo f (hi f l (f x)) (f x) from List.filter_append _ _]
    have e1 : lo f (lo f l (f x)) (f x) = lo f l (f x) := List.filter_eq_self.2 fun z hz => by simpa using (mem_lo.1 hz).2
    have e2 : lo f (hi f l (f x)) (f x) = [] := List.filter_eq_nil_iff.2 fun z hz => by simpa using key_le_of_lt (mem_hi.1 hz).2
    rw [e1, e2, List.append_nil]
  have h2 : hi f (del f l (f x)) (f x) = hi f l (f x) := by
    unfold del
    rw [show hi f (lo f l (f x) ++ hi f l (f x)) (f x) = hi f (lo f l (f x)) (f x) ++ hi f (hi f l (f x)) (f x) from List.filter_append _ _]
    have e1 : hi f (lo f l (f x)) (f x) = [] := List.filter_eq_nil_iff.2 fun z hz => by simpa using key_le_of_lt (mem_lo.1 hz).2
    have e2 : hi f (hi f l (f x)) (f x) = hi f l (f x) := List.filter_eq_self.2 fun z hz => by simpa using (mem_hi.1 hz).2
    rw [e1, e2, List.nil_append]
  unfold put
  rw [h1, h2]
theorem len_del_le (h : RiseF f l) (k : Key) : (del f l k).length ≤ l.length := by
  by_cases hk : ∃ x ∈ l, f x = k
  · obtain ⟨x, hx, e⟩ := hk
    obtain ⟨i, hi⟩ := List.getElem?_of_mem hx
    rw [del_at h hi e, List.length_append, List.length_take, List.length_drop]
    omega
  · rw [del_no h (fun x hx e => hk ⟨x, hx, e⟩)]
    exact Nat.le_refl _
theorem len_put_le (h : RiseF f l) (x : α) : (put f l x).length ≤ l.length + 1 := by
  rw [len_put]
  have := len_del_le h (f x)
  omega
end
/-- A table: documents and keys that are gone, by keys; no key is in both. -/
structure TabOk (ds : List Dc) (gs : List Key) : Prop where
  dr : RiseF (·.1) ds
  gr : RiseF id gs
  apart : ∀ d ∈ ds, d.1 ∉ gs
  dk : ∀ d ∈ ds, okK d.1
  gk : ∀ k ∈ gs, okK k
  len : ∀ d ∈ ds, d.2.length ≤ 4096
  byte : ∀ d ∈ ds, ∀ x ∈ d.2, 0 ≤ x ∧ x < 256
theorem TabOk.nil : TabOk [] [] := ⟨RiseF.nil, RiseF.nil, by simp, by simp, by simp, by simp, by simp⟩
theorem TabOk.forget {ds : List Dc} {gs : List Key} (h : TabOk ds gs) (k : Key) : TabOk (del (·.1) ds k) (del id gs k) :=
  ⟨riseF_del h.dr k, riseF_del h.gr k, fun d hd hg => h.apart d (mem_del.1 hd).1 (mem_del.1 hg).1, fun d hd => h.dk d (mem_del.1 hd).1, fun j hj => h.gk j (mem_del.1 hj).1, fun d hd => h.len d (mem_del.1 hd).1, fun d hd => h.byte d (mem_del.1 hd).1⟩
/-- What Put and Delete leave. -/
def tPut (s : List Dc × List Key) (k : Key) (t : List Int) : Int × (List Dc × List Key) := if ¬ okK k then (1, s) else if 4096 < t.length then (5, s) else (0, (put (·.1) s.1 (k, t), del id s.2 k))
def tDel (s : List Dc × List Key) (k : Key) : Int × (List Dc × List Key) := if ¬ okK k then (1, s) else (0, (del (·.1) s.1 k, put id s.2 k))
theorem TabOk.put {ds : List Dc} {gs : List Key} (h : TabOk ds gs) {k : Key} {t : List Int} (hb : ∀ x ∈ t, 0 ≤ x ∧ x < 256) : TabOk (tPut (ds, gs) k t).2.1 (tPut (ds, gs) k t).2.2 := by
  unfold tPut
  split
  · exact h
  · rename_i h1
    split
    · exact h
    · rename_i h2
      have hk : okK k := Decidable.byContradiction h1
      refine ⟨riseF_put h.dr _, riseF_del h.gr k, fun d hd hg => ?_, fun d hd => ?_, fun j hj => h.gk j (mem_del.1 hj).1, fun d hd => ?_, fun d hd => ?_⟩
      · rcases mem_put.1 hd with rfl | ⟨hd, _⟩
        · exact (mem_del.1 hg).2 rfl
        · exact h.apart d hd (mem_del.1 hg).1
      · rcases mem_put.1 hd with rfl | ⟨hd, _⟩
        · exact hk
        · exact h.dk d hd
      · rcases mem_put.1 hd with rfl | ⟨hd, _⟩
        · show t.length ≤ 4096
          omega
        · exact h.len d hd
      · rcases mem_put.1 hd with rfl | ⟨hd, _⟩
        · exact hb
        · exact h.byte d hd
theorem TabOk.del {ds : List Dc} {gs : List Key} (h : TabOk ds gs) (k : Key) : TabOk (tDel (ds, gs) k).2.1 (tDel (ds, gs) k).2.2 := by
  unfold tDel
  split
  · exact h
  · rename_i h1
    have hk : okK k := Decidable.byContradiction h1
    refine ⟨riseF_del h.dr k, riseF_put h.gr k, fun d hd hg => ?_, fun d hd => h.dk d (mem_del.1 hd).1, fun j hj => ?_, fun d hd => h.len d (mem_del.1 hd).1, fun d hd => h.byte d (mem_del.1 hd).1⟩
    · rcases mem_put.1 hg with e | ⟨hg, _⟩
      · exact (mem_del.1 hd).2 e
      · exact h.apart d (mem_del.1 hd).1 hg
    · rcases mem_put.1 hj with rfl | ⟨hj, _⟩
      · exact hk
      · exact h.gk j hj
end
section
open Go.Oct Go.Su Go.RowKit
/-- A segment that may be: its documents and keys rise, are keys, and no text is too long. -/
structure Seg (ds : List Dc) (gs : List Key) : Prop where
  ok : ArgOk ds gs
  rd : Rise (ks ds)
  rg : Rise gs
  small : ¬ Big ds
  byts : ∀ d ∈ ds, ∀ x ∈ d.2, 0 ≤ x ∧ x < 256
theorem Seg.nd {ds : List Dc} {gs : List Key} (h : Seg ds gs) : (ks ds ++ gs).Nodup := h.ok.2
theorem Seg.made {ds : List Dc} {gs : List Key} (h : Seg ds gs) : Made ds gs ds gs := ⟨List.Perm.refl _, h.rd, List.Perm.refl _, h.rg⟩
theorem Made.seg {docs ds : List Dc} {gone gs : List Key} (h : Made docs gone ds gs) (ho : ArgOk docs gone) (hb : ¬ Big docs) (hy : ∀ d ∈ docs, ∀ x ∈ d.2, 0 ≤ x ∧ x < 256) : Seg ds gs :=
  ⟨ho.perm h.pd h.pg, h.rd, h.rg, fun ⟨t, ht, hl⟩ => hb ⟨t, ((h.pd.map _).mem_iff).1 ht, hl⟩, fun d hd => hy d (h.pd.mem_iff.1 hd)⟩
/-- What New says of a segment's own documents. -/
theorem Seg.new {ds es : List Dc} {gs hs : List Key} {ec : Int} (h : Seg ds gs) (k : NewRes ds gs ec es hs) : ec = 0 ∧ es = ds ∧ hs = gs := by
  rcases k with ⟨k1, _⟩ | ⟨_, k2, _⟩ | ⟨_, _, k3, k4⟩
  · exact absurd h.ok k1
  · exact absurd k2 h.small
  · obtain ⟨e1, e2⟩ := k4.uniq h.made
    exact ⟨k3, e1, e2⟩
/-! ### which key is known, and how -/
theorem at_mem {ds : List Dc} (hn : (ks ds).Nodup) {k : Key} {t : List Int} : at_ ds k = some t ↔ (k, t) ∈ ds := by
  unfold at_
  induction ds with
  | nil => simp
  | cons d ds ih =>
    have hn' := List.nodup_cons.1 hn
    rw [List.find?_cons]
    by_cases hd : d.1 = k
    · have hd' : decide (d.1 = k) = true := by simpa using hd
      rw [hd']
      simp only [Option.map_some, Option.some.injEq, List.mem_cons]
      constructor
      · rintro rfl
        exact .inl (by rw [← hd])
      · rintro (h | h)
        · rw [← h]
        · exact absurd (List.mem_map.2 ⟨(k, t), h, hd.symm⟩) hn'.1
    · have hd' : decide (d.1 = k) = false := by simpa using hd
      rw [hd']
      simp only [List.mem_cons]
      rw [ih hn'.2]
      constructor
      · exact .inr
      · rintro (h | h)
        · rw [← h] at hd; exact absurd rfl hd
        · exact h
theorem at_none {ds : List Dc} {k : Key} : at_ ds k = none ↔ k ∉ ks ds := by
  unfold at_ ks
  rw [Option.map_eq_none_iff, List.find?_eq_none]
  constructor
  · intro h hm
    obtain ⟨d, hd, e⟩ := List.mem_map.1 hm
    exact absurd e (by simpa using h d hd)
  · intro h d hd
    simp only [decide_eq_true_eq]
    intro e
    exact h (List.mem_map.2 ⟨d, hd, e⟩)
/-- How a set knows a key: some (some t): a document; some none: gone; none: not. -/
def know (s : List Dc × List Key) (k : Key) : Option (Option (List Int)) := match at_ s.1 k with | some t => some (some t) | none => if k ∈ s.2 then some none else none
/-- How several, the newest first, know it. -/
def first (l : List (List Dc × List Key)) (k : Key) : Option (Option (List Int)) := l.findSome? fun s => know s k
theorem know_doc {s : List Dc × List Key} (hn : (ks s.1 ++ s.2).Nodup) {k : Key} {t : List Int} : know s k = some (some t) ↔ (k, t) ∈ s.1 := by
  have h1 : (ks s.1).Nodup := (List.nodup_append.1 hn).1
  unfold know
  rw [← at_mem h1]
  cases h : at_ s.1 k with
  | some u => simp
  | none =>
    simp only
    split <;> simp
theorem know_gone {s : List Dc × List Key} (hn : (ks s.1 ++ s.2).Nodup) {k : Key} : know s k = some none ↔ k ∈ s.2 := by
  unfold know
  cases h : at_ s.1 k with
  | some u =>
    simp only [Option.some.injEq, reduceCtorEq, false_iff]
    intro hk
    have : (k, u) ∈ s.1 := (at_mem (List.nodup_append.1 hn).1).1 h
    exact (List.nodup_append.1 hn).2.2 k (List.mem_map.2 ⟨_, this, rfl⟩) k hk rfl
  | none =>
    simp only
    split <;> simp_all
theorem know_none {s : List Dc × List Key} {k : Key} : know s k = none ↔ k ∉ ks s.1 ∧ k ∉ s.2 := by
  unfold know
  rw [← at_none]
  cases h : at_ s.1 k with
  | some u => simp
  | none =>
    simp only [true_and]
    split <;> simp_all
/-- One segment of several. -/
structure Merged (l : List (List Dc × List Key)) (last : Bool) (ds : List Dc) (gs : List Key) : Prop where
  rd : Rise (ks ds)
  rg : Rise gs
  doc : ∀ k t, (k, t) ∈ ds ↔ first l k = some (some t)
  gone : ∀ k, k ∈ gs ↔ last = false ∧ first l k = some none
theorem rise_ext {l m : List Key} (hl : Rise l) (hm : Rise m) (h : ∀ k, k ∈ l ↔ k ∈ m) : l = m :=
  srt_uniq hl.srt hm.srt ((List.perm_ext_iff_of_nodup hl.nodup hm.nodup).2 h)
theorem Merged.uniq {l : List (List Dc × List Key)} {last : Bool} {ds es : List Dc} {gs hs : List Key} (h : Merged l last ds gs) (k : Merged l last es hs) : ds = es ∧ gs = hs := by
  refine ⟨docs_uniq ?_ h.rd k.rd, rise_ext h.rg k.rg fun x => by rw [h.gone, k.gone]⟩
  have nd : ∀ {xs : List Dc}, Rise (ks xs) → xs.Nodup := fun {xs} hx => by
    have hn := hx.nodup
    unfold ks List.Nodup at hn
    rw [List.pairwise_map] at hn
    exact hn.imp fun hne e => hne (by rw [e])
  exact (List.perm_ext_iff_of_nodup (nd h.rd) (nd k.rd)).2 fun ⟨x, t⟩ => by rw [h.doc, k.doc]
theorem first_app (a b : List (List Dc × List Key)) (k : Key) : first (a ++ b) k = (first a k).or (first b k) := by
  unfold first
  rw [List.findSome?_append]
theorem first_some {l : List (List Dc × List Key)} {k : Key} {x : Option (List Int)} (h : first l k = some x) : ∃ s ∈ l, know s k = some x := by
  unfold first at h
  exact List.exists_of_findSome?_eq_some h
theorem Merged.seg {l : List (List Dc × List Key)} {last : Bool} {ds : List Dc} {gs : List Key} (h : Merged l last ds gs) (hl : ∀ s ∈ l, Seg s.1 s.2) : Seg ds gs := by
  have hd : ∀ k t, (k, t) ∈ ds → ∃ s ∈ l, (k, t) ∈ s.1 := fun k t hk => by
    obtain ⟨s, hs, e⟩ := first_some ((h.doc k t).1 hk)
    exact ⟨s, hs, (know_doc (hl s hs).nd).1 e⟩
  have hg : ∀ k, k ∈ gs → ∃ s ∈ l, k ∈ s.2 := fun k hk => by
    obtain ⟨s, hs, e⟩ := first_some ((h.gone k).1 hk).2
    exact ⟨s, hs, (know_gone (hl s hs).nd).1 e⟩
  refine ⟨⟨fun k hk => ?_, ?_⟩, h.rd, h.rg, fun ⟨t, ht, hb⟩ => ?_, fun ⟨k, t⟩ hk => ?_⟩
  · rcases List.mem_append.1 hk with hk | hk
    · obtain ⟨⟨k', t⟩, hm, rfl⟩ := List.mem_map.1 hk
      obtain ⟨s, hs, hm⟩ := hd _ _ hm
      exact (hl s hs).ok.1 _ (List.mem_append_left _ (List.mem_map.2 ⟨_, hm, rfl⟩))
    · obtain ⟨s, hs, hm⟩ := hg _ hk
      exact (hl s hs).ok.1 _ (List.mem_append_right _ hm)
  · refine List.nodup_append.2 ⟨h.rd.nodup, h.rg.nodup, fun k hk k' hk' e => ?_⟩
    subst e
    obtain ⟨⟨k', t⟩, hm, rfl⟩ := List.mem_map.1 hk
    have h1 := (h.doc _ _).1 hm
    have h2 := ((h.gone _).1 hk').2
    rw [h1] at h2
    simp at h2
  · obtain ⟨⟨k, t'⟩, hm, rfl⟩ := List.mem_map.1 ht
    obtain ⟨s, hs, hm⟩ := hd _ _ hm
    exact (hl s hs).small ⟨_, List.mem_map.2 ⟨_, hm, rfl⟩, hb⟩
  · obtain ⟨s, hs, hm⟩ := hd _ _ hk
    exact (hl s hs).byts _ hm
theorem Merged.know {l : List (List Dc × List Key)} {ds : List Dc} {gs : List Key} (h : Merged l false ds gs) (hl : ∀ s ∈ l, Seg s.1 s.2) (k : Key) : know (ds, gs) k = first l k := by
  have hn := (h.seg hl).nd
  cases hf : first l k with
  | none =>
    rw [know_none]
    refine ⟨fun hk => ?_, fun hk => ?_⟩
    · obtain ⟨⟨k', t⟩, hm, rfl⟩ := List.mem_map.1 hk
      have := (h.doc _ _).1 hm
      rw [hf] at this
      simp at this
    · have := ((h.gone k).1 hk).2
      rw [hf] at this
      simp at this
  | some x =>
    cases x with
    | none => exact (know_gone (s := (ds, gs)) hn).2 ((h.gone k).2 ⟨rfl, hf⟩)
    | some t => exact (know_doc (s := (ds, gs)) hn).2 ((h.doc k t).2 hf)
/-- Merged in two parts, and these in one. -/
theorem Merged.parts {a b : List (List Dc × List Key)} {last : Bool} {ds es fs : List Dc} {gs hs is : List Key} (ha : Merged a false ds gs) (hb : Merged b false es hs) (la : ∀ s ∈ a, Seg s.1 s.2) (lb : ∀ s ∈ b, Seg s.1 s.2)
    (h : Merged [(ds, gs), (es, hs)] last fs is) : Merged (a ++ b) last fs is := by
  have e : ∀ k, first [(ds, gs), (es, hs)] k = first (a ++ b) k := fun k => by
    rw [first_app]
    have h1 := ha.know la k
    have h2 := hb.know lb k
    unfold first at h1 h2 ⊢
    rw [List.findSome?_cons, List.findSome?_cons, h1, h2, List.findSome?_nil]
    cases List.findSome? (fun s => Go.Sg.know s k) a <;> cases List.findSome? (fun s => Go.Sg.know s k) b <;> rfl
  exact ⟨h.rd, h.rg, fun k t => by rw [h.doc, e], fun k => by rw [h.gone, e]⟩
/-! ### gone through, one by one -/
/-- Under way: what has been taken so far, of the keys that are known by now. -/
structure Mgu (f : Key → Option (Option (List Int))) (last : Bool) (docs : List Dc) (gone : List Key) : Prop where
  nd : (ks docs).Nodup
  ng : gone.Nodup
  doc : ∀ k t, (k, t) ∈ docs ↔ f k = some (some t)
  gone : ∀ k, k ∈ gone ↔ last = false ∧ f k = some none
theorem Mgu.start (last : Bool) : Mgu (fun _ => none) last [] [] := ⟨List.nodup_nil, List.nodup_nil, fun k t => by simp, fun k => by simp⟩
section
open Classical
/-- f with a key more. -/
noncomputable def setK (f : Key → Option (Option (List Int))) (k : Key) (x : Option (List Int)) : Key → Option (Option (List Int)) := fun q => if q = k then some x else f q
theorem Mgu.push {f : Key → Option (Option (List Int))} {last : Bool} {docs : List Dc} {gone : List Key} (h : Mgu f last docs gone) {k : Key} (hk : f k = none) (t : List Int) : Mgu (setK f k (some t)) last (docs ++ [(k, t)]) gone := by
  have hno : k ∉ ks docs := fun hm => by
    obtain ⟨⟨k', u⟩, hm2, e⟩ := List.mem_map.1 hm
    have := (h.doc _ _).1 hm2
    rw [show k' = k from e, hk] at this
    simp at this
  refine ⟨?_, h.ng, fun q u => ?_, fun q => ?_⟩
  · rw [ks_app]
    refine List.nodup_append.2 ⟨h.nd, List.pairwise_singleton _ _, fun a ha b hb e => ?_⟩
    obtain rfl : b = k := by simpa [ks] using hb
    subst e
    exact hno ha
  · unfold setK
    by_cases hq : q = k
    · subst hq
      rw [if_pos rfl]
      simp only [List.mem_append, List.mem_singleton, Prod.mk.injEq, true_and, Option.some.injEq]
      constructor
      · rintro (hm | hm)
        · exact absurd (List.mem_map.2 ⟨_, hm, rfl⟩) hno
        · exact hm.symm
      · intro e
        exact .inr e.symm
    · rw [if_neg hq, ← h.doc]
      simp [hq]
  · unfold setK
    rw [h.gone]
    by_cases hq : q = k
    · subst hq
      rw [if_pos rfl, hk]
      simp
    · rw [if_neg hq]
theorem Mgu.drop {f : Key → Option (Option (List Int))} {docs : List Dc} {gone : List Key} (h : Mgu f false docs gone) {k : Key} (hk : f k = none) : Mgu (setK f k none) false docs (gone ++ [k]) := by
  have hno : k ∉ gone := fun hm => by
    have := ((h.gone k).1 hm).2
    rw [hk] at this
    simp at this
  refine ⟨h.nd, ?_, fun q u => ?_, fun q => ?_⟩
  · refine List.nodup_append.2 ⟨h.ng, List.pairwise_singleton _ _, fun a ha b hb e => ?_⟩
    obtain rfl : b = k := by simpa using hb
    subst e
    exact hno ha
  · unfold setK
    rw [h.doc]
    by_cases hq : q = k
    · subst hq
      rw [if_pos rfl, hk]
      simp
    · rw [if_neg hq]
  · unfold setK
    by_cases hq : q = k
    · subst hq
      rw [if_pos rfl]
      simp
    · rw [if_neg hq]
      have := h.gone q
      simp [hq, this]
theorem Mgu.lose {f : Key → Option (Option (List Int))} {docs : List Dc} {gone : List Key} (h : Mgu f true docs gone) {k : Key} (hk : f k = none) : Mgu (setK f k none) true docs gone := by
  refine ⟨h.nd, h.ng, fun q u => ?_, fun q => ?_⟩
  · unfold setK
    rw [h.doc]
    by_cases hq : q = k
    · subst hq
      rw [if_pos rfl, hk]
      simp
    · rw [if_neg hq]
  · have := h.gone q
    simp at this
    simp [this]
end
theorem Mgu.congr {f g : Key → Option (Option (List Int))} {last : Bool} {docs : List Dc} {gone : List Key} (h : Mgu f last docs gone) (e : ∀ k, g k = f k) : Mgu g last docs gone := by
  have : g = f := funext e
  rw [this]
  exact h
/-- f, and where it knows nothing what a set's first documents, then its first keys, know. -/
def upD (f : Key → Option (Option (List Int))) (ds : List Dc) : Key → Option (Option (List Int)) := fun k => (f k).or ((at_ ds k).map some)
def upG (f : Key → Option (Option (List Int))) (ds : List Dc) (gs : List Key) : Key → Option (Option (List Int)) := fun k => (f k).or (know (ds, gs) k)
theorem upD_zero (f : Key → Option (Option (List Int))) (k : Key) : upD f [] k = f k := by unfold upD at_; simp
theorem upG_zero (f : Key → Option (Option (List Int))) (ds : List Dc) (k : Key) : upG f ds [] k = upD f ds k := by
  unfold upG upD know
  cases at_ ds k <;> simp
theorem upG_all (a : List (List Dc × List Key)) (s : List Dc × List Key) (k : Key) : upG (first a) s.1 s.2 k = first (a ++ [s]) k := by
  rw [first_app]
  unfold upG first
  simp [List.findSome?_cons]
  cases know s k <;> simp
theorem upD_seen {f : Key → Option (Option (List Int))} {ds : List Dc} {d : Dc} (h : upD f ds d.1 ≠ none) (k : Key) : upD f (ds ++ [d]) k = upD f ds k := by
  unfold upD at_ at *
  rw [List.find?_append]
  cases h1 : f k with
  | some x => simp
  | none =>
    simp only [Option.none_or]
    cases h2 : ds.find? (fun e => decide (e.1 = k)) with
    | some x => simp
    | none =>
      simp only [Option.none_or, List.find?_cons, List.find?_nil]
      by_cases hk : d.1 = k
      · subst hk
        rw [h1, h2] at h
        simp at h
      · simp [hk]
theorem upD_new {f : Key → Option (Option (List Int))} {ds : List Dc} {d : Dc} (h : upD f ds d.1 = none) (k : Key) : upD f (ds ++ [d]) k = setK (upD f ds) d.1 (some d.2) k := by
  unfold upD at_ setK at *
  rw [List.find?_append]
  by_cases hk : k = d.1
  · subst hk
    rw [if_pos rfl]
    cases h1 : f d.1 with
    | some x => rw [h1] at h; simp at h
    | none =>
      rw [h1] at h
      simp only [Option.none_or, Option.map_eq_none_iff] at h
      rw [h]
      simp
  · rw [if_neg hk]
    have hd : ¬ d.1 = k := fun e => hk e.symm
    have e1 : [d].find? (fun e => decide (e.1 = k)) = none := by simp [hd]
    rw [e1, Option.or_none]
theorem know_snoc (ds : List Dc) (gs : List Key) (g k : Key) : know (ds, gs ++ [g]) k = (know (ds, gs) k).or (if k = g then some none else none) := by
  unfold know
  cases at_ ds k with
  | some t => simp
  | none =>
    simp only [List.mem_append, List.mem_singleton]
    by_cases h1 : k ∈ gs
    · simp [h1]
    · by_cases h2 : k = g
      · subst h2
        simp [h1]
      · simp [h1, h2]
theorem upG_seen {f : Key → Option (Option (List Int))} {ds : List Dc} {gs : List Key} {g : Key} (h : upG f ds gs g ≠ none) (k : Key) : upG f ds (gs ++ [g]) k = upG f ds gs k := by
  unfold upG at *
  rw [know_snoc, ← Option.or_assoc]
  by_cases hk : k = g
  · subst hk
    cases h1 : (f k).or (know (ds, gs) k) with
    | some x => simp
    | none => exact absurd h1 h
  · simp [hk]
theorem upG_new {f : Key → Option (Option (List Int))} {ds : List Dc} {gs : List Key} {g : Key} (h : upG f ds gs g = none) (k : Key) : upG f ds (gs ++ [g]) k = setK (upG f ds gs) g none k := by
  unfold setK
  unfold upG at *
  rw [know_snoc, ← Option.or_assoc]
  by_cases hk : k = g
  · subst hk
    rw [h]
    simp
  · simp [hk]
/-- What was gone through, sorted. -/
theorem Mgu.merged {l : List (List Dc × List Key)} {last : Bool} {docs ds : List Dc} {gone gs : List Key} (h : Mgu (first l) last docs gone) (hm : Made docs gone ds gs) : Merged l last ds gs :=
  ⟨hm.rd, hm.rg, fun k t => by rw [← h.doc, hm.pd.mem_iff], fun k => by rw [← h.gone, hm.pg.mem_iff]⟩
theorem Mgu.argOk {l : List (List Dc × List Key)} {last : Bool} {docs : List Dc} {gone : List Key} (h : Mgu (first l) last docs gone) (hl : ∀ s ∈ l, Seg s.1 s.2) : ArgOk docs gone ∧ ¬ Big docs ∧ ∀ d ∈ docs, ∀ x ∈ d.2, 0 ≤ x ∧ x < 256 := by
  have hd : ∀ k t, (k, t) ∈ docs → ∃ s ∈ l, (k, t) ∈ s.1 := fun k t hk => by
    obtain ⟨s, hs, e⟩ := first_some ((h.doc k t).1 hk)
    exact ⟨s, hs, (know_doc (hl s hs).nd).1 e⟩
  have hg : ∀ k, k ∈ gone → ∃ s ∈ l, k ∈ s.2 := fun k hk => by
    obtain ⟨s, hs, e⟩ := first_some ((h.gone k).1 hk).2
    exact ⟨s, hs, (know_gone (hl s hs).nd).1 e⟩
  refine ⟨⟨fun k hk => ?_, ?_⟩, fun ⟨t, ht, hb⟩ => ?_, fun ⟨k, t⟩ hk => ?_⟩
  · rcases List.mem_append.1 hk with hk | hk
    · obtain ⟨⟨k', t⟩, hm, rfl⟩ := List.mem_map.1 hk
      obtain ⟨s, hs, hm⟩ := hd _ _ hm
      exact (hl s hs).ok.1 _ (List.mem_append_left _ (List.mem_map.2 ⟨_, hm, rfl⟩))
    · obtain ⟨s, hs, hm⟩ := hg _ hk
      exact (hl s hs).ok.1 _ (List.mem_append_right _ hm)
  · refine List.nodup_append.2 ⟨h.nd, h.ng, fun k hk k' hk' e => ?_⟩
    subst e
    obtain ⟨⟨k', t⟩, hm, rfl⟩ := List.mem_map.1 hk
    have h1 := (h.doc _ _).1 hm
    have h2 := ((h.gone _).1 hk').2
    rw [h1] at h2
    simp at h2
  · obtain ⟨⟨k, t'⟩, hm, rfl⟩ := List.mem_map.1 ht
    obtain ⟨s, hs, hm⟩ := hd _ _ hm
    exact (hl s hs).small ⟨_, List.mem_map.2 ⟨_, hm, rfl⟩, hb⟩
  · obtain ⟨s, hs, hm⟩ := hd _ _ hk
    exact (hl s hs).byts _ hm
/-! ### what is found -/
/-- Where a pattern stands, by keys. -/
def finds (ds : List Dc) (p : List Int) : List (Key × Nat) := ds.flatMap fun d => (ats d.2 p).map fun a => (d.1, a)
theorem finds_locs (p : List Int) : ∀ (ds pre : List Dc), (locs (ts ds) p pre.length).map (fun h => ((ks (pre ++ ds)).getD h.1 [], h.2)) = finds ds p := by
  intro ds
  induction ds with
  | nil => intro pre; rfl
  | cons d ds ih =>
    intro pre
    have e1 : locs (ts (d :: ds)) p pre.length = (ats d.2 p).map (fun a => (pre.length, a)) ++ locs (ts ds) p (pre.length + 1) := rfl
    rw [e1, List.map_append, List.map_map]
    have := ih (pre ++ [d])
    rw [List.length_append, List.length_singleton, List.append_assoc, List.singleton_append] at this
    rw [this]
    unfold finds
    rw [List.flatMap_cons]
    congr 1
    refine List.map_congr_left fun a _ => ?_
    simp [ks, List.getD_eq_getElem?_getD]
theorem finds_all (ds : List Dc) (p : List Int) : (locs (ts ds) p 0).map (fun h => ((ks ds).getD h.1 [], h.2)) = finds ds p := finds_locs p ds []
end
end Go.Sg
