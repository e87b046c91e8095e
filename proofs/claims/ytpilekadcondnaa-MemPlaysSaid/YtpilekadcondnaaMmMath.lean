/-
  The plain mathematics of a table of documents: rows that rise by their keys, one put in, one taken out. Over no program. Conditions: none.
-/
import Derived.Test.YtpilekadcondnaaSgMath
namespace Go.Sg

section
variable {α : Type} {f : α → Key} {l : List α} {x y : α} {k j : Key} {i : Nat}
/-- What stands ahead of a key, what behind it. -/
def lo (f : α → Key) (l : List α) (k : Key) : List α := l.filter fun x => decide (f x < k)
def hi (f : α → Key) (l : List α) (k : Key) : List α := l.filter fun x => decide (k < f x)
/-- One put in, one taken out. -/
def put (f : α → Key) (l : List α) (x : α) : List α := lo f l (f x) ++ x :: hi f l (f x)
def del (f : α → Key) (l : List α) (k : Key) : List α := lo f l k ++ hi f l k
/-- A row that rises by its keys. -/
def RiseF (f : α → Key) (l : List α) : Prop := l.Pairwise fun x y => f x < f y
theorem RiseF.nil : RiseF f ([] : List α) := List.Pairwise.nil
theorem RiseF.rise (h : RiseF f l) : Rise (l.map f) := by unfold Rise; rw [List.pairwise_map]; exact h
theorem riseF_lo (h : RiseF f l) : RiseF f (lo f l k) := List.Pairwise.filter _ h
theorem riseF_hi (h : RiseF f l) : RiseF f (hi f l k) := List.Pairwise.filter _ h
theorem mem_lo : x ∈ lo f l k ↔ x ∈ l ∧ f x < k := by simp [lo]
theorem mem_hi : x ∈ hi f l k ↔ x ∈ l ∧ k < f x := by simp [hi]
theorem keyne {a b : Key} (h : a < b) : a ≠ b := fun e => by subst e; exact key_irrefl _ h
theorem mem_del : x ∈ del f l k ↔ x ∈ l ∧ f x ≠ k := by
  unfold del
  rw [List.mem_append, mem_lo, mem_hi]
  constructor
  · rintro (⟨h, h1⟩ | ⟨h, h1⟩)
    · exact ⟨h, keyne h1⟩
    · exact ⟨h, (keyne h1).symm⟩
  · rintro ⟨h, h1⟩
    rcases key_tri (f x) k with h2 | h2 | h2
    · exact .inl ⟨h, h2⟩
    · exact absurd h2 h1
    · exact .inr ⟨h, h2⟩
theorem mem_put : x ∈ put f l y ↔ x = y ∨ (x ∈ l ∧ f x ≠ f y) := by
  unfold put
  rw [List.mem_append, List.mem_cons, mem_lo, mem_hi]
  constructor
  · rintro (⟨h, h1⟩ | h | ⟨h, h1⟩)
    · exact .inr ⟨h, keyne h1⟩
    · exact .inl h
    · exact .inr ⟨h, (keyne h1).symm⟩
  · rintro (h | ⟨h, h1⟩)
    · exact .inr (.inl h)
    · rcases key_tri (f x) (f y) with h2 | h2 | h2
      · exact .inl ⟨h, h2⟩
      · exact absurd h2 h1
      · exact .inr (.inr ⟨h, h2⟩)
theorem riseF_del (h : RiseF f l) (k : Key) : RiseF f (del f l k) :=
  List.pairwise_append.2 ⟨riseF_lo h, riseF_hi h, fun _ ha _ hb => key_trans (mem_lo.1 ha).2 (mem_hi.1 hb).2⟩
theorem riseF_put (h : RiseF f l) (y : α) : RiseF f (put f l y) := by
  refine List.pairwise_append.2 ⟨riseF_lo h, List.pairwise_cons.2 ⟨fun b hb => (mem_hi.1 hb).2, riseF_hi h⟩, fun a ha b hb => ?_⟩
  have h1 := (mem_lo.1 ha).2
  rcases List.mem_cons.1 hb with rfl | hb
  · exact h1
  · exact key_trans h1 (mem_hi.1 hb).2
/-- Where a key stands, or would stand. -/
theorem lo_take (h1 : ∀ q z, q < i → l[q]? = some z → f z < k) (h2 : ∀ q z, i ≤ q → l[q]? = some z → ¬ f z < k) : lo f l k = l.take i := by
  have e : l = l.take i ++ l.drop i := (List.take_append_drop i l).symm
  unfold lo
  conv => lhs; rw [e]
  rw [List.filter_append, List.filter_eq_self.2 (fun z hz => ?_), List.filter_eq_nil_iff.2 (fun z hz => ?_), List.append_nil]
  · obtain ⟨q, hq⟩ := List.getElem?_of_mem hz
    rw [List.getElem?_drop] at hq
    simpa using h2 (i + q) z (by omega) hq
  · obtain ⟨q, hq⟩ := List.getElem?_of_mem hz
    rw [List.getElem?_take] at hq
    split at hq
    · rename_i hlt
      simpa using h1 q z hlt hq
    · cases hq
theorem hi_drop (h1 : ∀ q z, q < i → l[q]? = some z → ¬ k < f z) (h2 : ∀ q z, i ≤ q → l[q]? = some z → k < f z) : hi f l k = l.drop i := by
  have e : l = l.take i ++ l.drop i := (List.take_append_drop i l).symm
  unfold hi
  conv => lhs; rw [e]
  rw [List.filter_append, List.filter_eq_nil_iff.2 (fun z hz => ?_), List.filter_eq_self.2 (fun z hz => ?_), List.nil_append]
  · obtain ⟨q, hq⟩ := List.getElem?_of_mem hz
    rw [List.getElem?_drop] at hq
    simpa using h2 (i + q) z (by omega) hq
  · obtain ⟨q, hq⟩ := List.getElem?_of_mem hz
    rw [List.getElem?_take] at hq
    split at hq
    · rename_i hlt
      simpa using h1 q z hlt hq
    · cases hq
theorem RiseF.at_lt (h : RiseF f l) {p q : Nat} (hpq : p < q) (hx : l[p]? = some x) (hy : l[q]? = some y) : f x < f y := by
  obtain ⟨hp, rfl⟩ := List.getElem?_eq_some_iff.1 hx
  obtain ⟨hq, rfl⟩ := List.getElem?_eq_some_iff.1 hy
  exact List.pairwise_iff_getElem.1 h p q hp hq hpq
/-- One taken out that stands at i. -/
theorem del_at (h : RiseF f l) (hx : l[i]? = some x) (e : f x = k) : del f l k = l.take i ++ l.drop (i + 1) := by
  have h1 : lo f l k = l.take i := lo_take (fun q z hq hz => by rw [← e]; exact h.at_lt hq hz hx) (fun q z hq hz => by
    rcases Nat.lt_or_ge i q with h' | h'
    · rw [← e]; exact key_le_of_lt (h.at_lt h' hx hz)
    · obtain rfl : q = i := by omega
      rw [hx] at hz
      injection hz with hz
      rw [← hz, e]
      exact key_irrefl _)
  have h2 : hi f l k = l.drop (i + 1) := hi_drop (fun q z hq hz => by
    rcases Nat.lt_or_ge q i with h' | h'
    · rw [← e]; exact key_le_of_lt (h.at_lt h' hz hx)
    · obtain rfl : q = i := by omega
      rw [hx] at hz
      injection hz with hz
      rw [← hz, e]
      exact key_irrefl _) (fun q z hq hz => by rw [← e]; exact h.at_lt (by omega) hx hz)
  unfold del
  rw [h1, h2]
/-- One taken out that does not stand there. -/
theorem del_no (h : RiseF f l) (hk : ∀ x ∈ l, f x ≠ k) : del f l k = l := by
  have hp : (del f l k).Perm l := by
    unfold del lo hi
    have : l.filter (fun x => decide (k < f x)) = l.filter (fun x => !decide (f x < k)) := List.filter_congr fun z hz => by
      rcases key_tri (f z) k with h1 | h1 | h1
      · simp [h1, key_le_of_lt h1]
      · exact absurd h1 (hk z hz)
      · simp [h1, key_le_of_lt h1]
    rw [this]
    exact List.filter_append_perm _ _
  exact List.Perm.eq_of_pairwise (le := fun a b => f a < f b) (fun a b _ _ h1 h2 => absurd h2 (key_le_of_lt h1)) (riseF_del h k) h hp
/-- One put in at i. -/
theorem put_at (h : RiseF f l) (h1 : ∀ q z, q < i → l[q]? = some z → f z < f x) (h2 : ∀ z, l[i]? = some z → f x < f z) : put f l x = l.take i ++ x :: l.drop i := by
  have h3 : ∀ q z, i ≤ q → l[q]? = some z → f x < f z := fun q z hq hz => by
    rcases Nat.lt_or_ge i q with h' | h'
    · have hi : i < l.length := by have := (List.getElem?_eq_some_iff.1 hz).1; omega
      exact key_trans (h2 _ (List.getElem?_eq_getElem hi)) (h.at_lt h' (List.getElem?_eq_getElem hi) hz)
    · obtain rfl : q = i := by omega
      exact h2 z hz
  unfold put
  rw [lo_take h1 (fun q z hq hz => key_le_of_lt (h3 q z hq hz)), hi_drop (fun q z hq hz => key_le_of_lt (h1 q z hq hz)) h3]
theorem len_put (f : α → Key) (l : List α) (x : α) : (put f l x).length = (del f l (f x)).length + 1 := by
  unfold put del
  simp only [List.length_append, List.length_cons]
  omega
theorem put_del (f : α → Key) (l : List α) (x : α) : put f (del f l (f x)) x = put f l x := by
  have h1 : lo f (del f l (f x)) (f x) = lo f l (f x) := by
    unfold del
    rw [show lo f (lo f l (f x) ++ hi f l (f x)) (f x) = lo f (lo f l (f x)) (f x) ++ lo f (hi f l (f x)) (f x) from List.filter_append _ _]
    have e1 : lo f (lo f l (f x)) (f x) = lo f l (f x) := List.filter_eq_self.2 fun z hz => by simpa using (mem_lo.1 hz).2
    have e2 : lo f (hi f l (f x)) (f x) = [] := List.filter_eq_nil_iff.2 fun z hz => by simpa using key_le_of_lt (mem_hi.1 hz).2
    rw [e1, e2, List.append_nil]
  have h2 : hi f (del f l (f x)) (f x) = hi f l (f x) := by
    unfold del
    rw [show hi f (lo f l (f x) ++ hi f l (f x)) (f x) = hi f (lo f l (f x)) (f x) ++ hi f (hi f l (f x)) (f x) from List.filter_append _ _]
    have e1 : hi f (lo f l (f x)) (f x) = [] := List.filter_eq_nil_iff.2 fun z hz => by simpa using key_le_of_lt (mem_lo.1 hz).2
    have e2 : hi f (hi f l (f x)) (f x) = hi f l (f x) := List.filter_eq_self.2 fun z hz => by simpa using (mem_hi.1 hz).2
    rw [e1, e2, List.nil_append]
  unfold put
  rw [h1, h2]
theorem len_del_le (h : RiseF f l) (k : Key) : (del f l k).length ≤ l.length := by
  by_cases hk : ∃ x ∈ l, f x = k
  · obtain ⟨x, hx, e⟩ := hk
    obtain ⟨i, hi⟩ := List.getElem?_of_mem hx
    rw [del_at h hi e, List.length_append, List.length_take, List.length_drop]
    omega
  · rw [del_no h (fun x hx e => hk ⟨x, hx, e⟩)]
    exact Nat.le_refl _
theorem len_put_le (h : RiseF f l) (x : α) : (put f l x).length ≤ l.length + 1 := by
  rw [len_put]
  have := len_del_le h (f x)
  omega
end
/-- A table: documents and keys that are gone, by keys; no key is in both. -/
structure TabOk (ds : List Dc) (gs : List Key) : Prop where
  dr : RiseF (·.1) ds
  gr : RiseF id gs
  apart : ∀ d ∈ ds, d.1 ∉ gs
  dk : ∀ d ∈ ds, okK d.1
  gk : ∀ k ∈ gs, okK k
  len : ∀ d ∈ ds, d.2.length ≤ 4096
  byte : ∀ d ∈ ds, ∀ x ∈ d.2, 0 ≤ x ∧ x < 256
theorem TabOk.nil : TabOk [] [] := ⟨RiseF.nil, RiseF.nil, by simp, by simp, by simp, by simp, by simp⟩
theorem TabOk.forget {ds : List Dc} {gs : List Key} (h : TabOk ds gs) (k : Key) : TabOk (del (·.1) ds k) (del id gs k) :=
  ⟨riseF_del h.dr k, riseF_del h.gr k, fun d hd hg => h.apart d (mem_del.1 hd).1 (mem_del.1 hg).1, fun d hd => h.dk d (mem_del.1 hd).1, fun j hj => h.gk j (mem_del.1 hj).1, fun d hd => h.len d (mem_del.1 hd).1, fun d hd => h.byte d (mem_del.1 hd).1⟩
/-- What Put and Delete leave. -/
def tPut (s : List Dc × List Key) (k : Key) (t : List Int) : Int × (List Dc × List Key) := if ¬ okK k then (1, s) else if 4096 < t.length then (5, s) else (0, (put (·.1) s.1 (k, t), del id s.2 k))
def tDel (s : List Dc × List Key) (k : Key) : Int × (List Dc × List Key) := if ¬ okK k then (1, s) else (0, (del (·.1) s.1 k, put id s.2 k))
theorem TabOk.put {ds : List Dc} {gs : List Key} (h : TabOk ds gs) {k : Key} {t : List Int} (hb : ∀ x ∈ t, 0 ≤ x ∧ x < 256) : TabOk (tPut (ds, gs) k t).2.1 (tPut (ds, gs) k t).2.2 := by
  unfold tPut
  split
  · exact h
  · rename_i h1
    split
    · exact h
    · rename_i h2
      have hk : okK k := Decidable.byContradiction h1
      refine ⟨riseF_put h.dr _, riseF_del h.gr k, fun d hd hg => ?_, fun d hd => ?_, fun j hj => h.gk j (mem_del.1 hj).1, fun d hd => ?_, fun d hd => ?_⟩
      · rcases mem_put.1 hd with rfl | ⟨hd, _⟩
        · exact (mem_del.1 hg).2 rfl
        · exact h.apart d hd (mem_del.1 hg).1
      · rcases mem_put.1 hd with rfl | ⟨hd, _⟩
        · exact hk
        · exact h.dk d hd
      · rcases mem_put.1 hd with rfl | ⟨hd, _⟩
        · show t.length ≤ 4096
          omega
        · exact h.len d hd
      · rcases mem_put.1 hd with rfl | ⟨hd, _⟩
        · exact hb
        · exact h.byte d hd
theorem TabOk.del {ds : List Dc} {gs : List Key} (h : TabOk ds gs) (k : Key) : TabOk (tDel (ds, gs) k).2.1 (tDel (ds, gs) k).2.2 := by
  unfold tDel
  split
  · exact h
  · rename_i h1
    have hk : okK k := Decidable.byContradiction h1
    refine ⟨riseF_del h.dr k, riseF_put h.gr k, fun d hd hg => ?_, fun d hd => h.dk d (mem_del.1 hd).1, fun j hj => ?_, fun d hd => h.len d (mem_del.1 hd).1, fun d hd => h.byte d (mem_del.1 hd).1⟩
    · rcases mem_put.1 hg with e | ⟨hg, _⟩
      · exact (mem_del.1 hd).2 e
      · exact h.apart d (mem_del.1 hd).1 hg
    · rcases mem_put.1 hj with rfl | ⟨hj, _⟩
      · exact hk
      · exact h.gk j hj
end Go.Sg
