/-
  Plain mathematics, over no program: each row has an order of its endings; what a row has that is turned, counted.
  Conditions: none; plain lemmas.
-/
import Derived.Test.YtgboobjmafdieaaBwStabMath
namespace Go.Su
/-- Each row without a symbol below 0 has an order of its endings. -/
theorem sa_exists {s : List Int} (hp : Pos s) : ∃ L, IsSA s L := by
  classical
  let f : Nat → Nat := fun i => (List.range s.length).countP fun j => decide (Lt (gs s) j i)
  have mono : ∀ i j, i < s.length → Lt (gs s) i j → f i < f j := fun i j hi h => by
    refine countP_lt (fun x _ hx => ?_) ⟨i, List.mem_range.2 hi, by simpa using h, by simpa using fun hb : Lt (gs s) i i => hb.irrefl⟩
    simp only [decide_eq_true_eq] at hx ⊢
    exact hx.trans h
  have bound : ∀ i, i < s.length → f i < s.length := fun i hi => by
    have h : f i < (List.range s.length).countP (fun _ => true) := countP_lt (fun _ _ _ => rfl) ⟨i, List.mem_range.2 hi, rfl, by simpa using fun hb : Lt (gs s) i i => hb.irrefl⟩
    simpa using h
  have inj : ∀ i j, i < s.length → j < s.length → f i = f j → i = j := fun i j hi hj h => by
    by_cases e : i = j
    · exact e
    · rcases lt_total hp hi hj e with h1 | h1
      · have := mono i j hi h1
        omega
      · have := mono j i hj h1
        omega
  have perm : ((List.range s.length).map f).Perm (List.range s.length) := by
    refine range_of ?_ (fun x hx => ?_) (by simp)
    · rw [List.Nodup, List.pairwise_map]
      refine List.Pairwise.imp_of_mem (fun {a b} ha hb hab e => ?_) (List.nodup_range (n := s.length))
      exact hab (inj a b (List.mem_range.1 ha) (List.mem_range.1 hb) e)
    · obtain ⟨y, hy, rfl⟩ := List.mem_map.1 hx
      exact bound y (List.mem_range.1 hy)
  have look : ∀ p, ∃ i, p < s.length → i < s.length ∧ f i = p := fun p => by
    rcases Nat.lt_or_ge p s.length with h | h
    · obtain ⟨i, hi, e⟩ := List.mem_map.1 (perm.mem_iff.2 (List.mem_range.2 h))
      exact ⟨i, fun _ => ⟨List.mem_range.1 hi, e⟩⟩
    · exact ⟨0, fun h2 => absurd h2 (by omega)⟩
  obtain ⟨g, hg⟩ := Classical.axiomOfChoice look
  refine ⟨(List.range s.length).map g, by simp, fun x => ?_, ?_⟩
  · rw [List.mem_map]
    constructor
    · rintro ⟨p, hp, rfl⟩
      exact (hg p (List.mem_range.1 hp)).1
    · intro hx
      refine ⟨f x, List.mem_range.2 (bound x hx), ?_⟩
      obtain ⟨h1, h2⟩ := hg (f x) (bound x hx)
      exact inj _ _ h1 hx h2
  · rw [List.pairwise_map, List.pairwise_iff_getElem]
    intro i j hi hj hij
    simp only [List.getElem_range]
    rw [List.length_range] at hi hj
    obtain ⟨h1, h2⟩ := hg i hi
    obtain ⟨h3, h4⟩ := hg j hj
    have hne : g i ≠ g j := fun e => by
      rw [e, h4] at h2
      omega
    rcases lt_total hp h1 h3 hne with h5 | h5
    · exact h5
    · have := mono _ _ h3 h5
      omega
section
variable {s l : List Int}
theorem Turned.rnd (t : Turned s l) : Round l := by
  obtain ⟨L, hL⟩ := sa_exists t.closed.pos
  exact t.round hL
theorem Turned.bck (t : Turned s l) : bck l = s := by
  obtain ⟨L, hL⟩ := sa_exists t.closed.pos
  exact t.back hL
theorem Turned.uniq {s' : List Int} (t : Turned s l) (t' : Turned s' l) : s = s' := by rw [← t.bck, t'.bck]
theorem Turned.det {l' : List Int} (t : Turned s l) (t' : Turned s l') : l = l' := by
  obtain ⟨L, hL⟩ := sa_exists t.closed.pos
  refine gs_ext (by rw [t.len, t'.len]) fun p hp => ?_
  rw [t.len] at hp
  obtain ⟨x, hx, _⟩ := hL.has hp
  rw [t.at_ L hL p x hx, t'.at_ L hL p x hx]
/-- How many noughts among the first k. -/
def noughts (l : List Int) (k : Nat) : Nat := (l.take k).countP fun x => decide (x = 0)
theorem noughts_next {k : Nat} {x : Int} (h : l[k]? = some x) : noughts l (k + 1) = noughts l k + (if x = 0 then 1 else 0) := by
  unfold noughts
  rw [List.take_add_one, h, Option.toList_some, List.countP_append]
  by_cases e : x = 0 <;> simp [e]
theorem noughts_le (l : List Int) (k : Nat) : noughts l k ≤ k := by
  unfold noughts
  have h1 := List.countP_le_length (p := fun x : Int => decide (x = 0)) (l := l.take k)
  rw [List.length_take] at h1
  omega
theorem noughts_none : ∀ (l : List Int), (∀ p, p < l.length → gs l p ≠ 0) → l.countP (fun x => decide (x = 0)) = 0 := fun l h => by
  rw [List.countP_eq_zero]
  intro x hx
  obtain ⟨p, hp, e⟩ := List.getElem_of_mem hx
  have := h p hp
  rw [gs_at (by rw [List.getElem?_eq_getElem hp, e])] at this
  simpa using this
theorem noughts_one : ∀ (l : List Int) (z : Nat), z < l.length → gs l z = 0 → (∀ p, p < l.length → gs l p = 0 → p = z) → l.countP (fun x => decide (x = 0)) = 1
  | [], z, h, _, _ => absurd h (by simp)
  | a :: l, 0, _, h0, hu => by
    have ha : a = 0 := h0
    rw [List.countP_cons, noughts_none l (fun p hp e => by
      have := hu (p + 1) (by simp; omega) e
      omega)]
    simp [ha]
  | a :: l, z + 1, hz, h0, hu => by
    have ha : a ≠ 0 := fun e => by
      have := hu 0 (by simp) e
      omega
    rw [List.countP_cons, noughts_one l z (by simpa using hz) h0 (fun p hp e => by
      have := hu (p + 1) (by simp; omega) e
      omega)]
    simp [ha]
theorem Round.count (r : Round l) : noughts l l.length = 1 := by
  obtain ⟨z, hz, h0, hu⟩ := r.zero
  unfold noughts
  rw [List.take_length]
  exact noughts_one l z hz h0 hu
end
end Go.Su
