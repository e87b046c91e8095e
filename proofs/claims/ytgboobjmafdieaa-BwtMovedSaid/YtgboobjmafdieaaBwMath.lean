/-
  Plain mathematics of rows turned, over no program: the Turn of a closed row, the way from an ending to the one ahead of it, that a Turn has one row, that a way that comes by all is one.
  Conditions: none; plain lemmas.
-/
import Derived.Test.YtgboobjmafdieaaSvMath
namespace Go.Su

/-- A closed row. -/
structure Closed (s : List Int) : Prop where
  pos : Pos s
  full : 0 < s.length
  last : gs s (s.length - 1) = 0
  only : ∀ p, p < s.length - 1 → gs s p ≠ 0
/-- The place ahead; of the first one the last. -/
def prv (n x : Nat) : Nat := if x = 0 then n - 1 else x - 1
/-- l is Turn of s. -/
structure Turned (s l : List Int) : Prop where
  closed : Closed s
  len : l.length = s.length
  at_ : ∀ L, IsSA s L → ∀ i x, L[i]? = some x → gs l i = gs s (prv s.length x)
/-- Ahead of: the lesser symbol, or the same and ahead. -/
def Bef (l : List Int) (i j : Nat) : Prop := gs l i < gs l j ∨ (gs l i = gs l j ∧ i < j)
instance (l : List Int) (i j : Nat) : Decidable (Bef l i j) := by unfold Bef; infer_instance
/-- How many are ahead. -/
def lf (l : List Int) (i : Nat) : Nat := (List.range l.length).countP fun j => decide (Bef l j i)

section
variable {l : List Int} {i j k : Nat}
theorem Bef.trans (h : Bef l i j) (g : Bef l j k) : Bef l i k := by
  unfold Bef at *
  omega
theorem Bef.irrefl (h : Bef l i i) : False := by
  unfold Bef at h
  omega
theorem bef_total (h : i ≠ j) : Bef l i j ∨ Bef l j i := by
  unfold Bef
  omega
theorem countP_lt {p q : Nat → Bool} : ∀ {L : List Nat}, (∀ x ∈ L, p x = true → q x = true) → (∃ x ∈ L, q x = true ∧ p x = false) → L.countP p < L.countP q
  | [], _, ⟨x, hx, _⟩ => by cases hx
  | a :: L, h, ⟨x, hx, hq, hp⟩ => by
    have hle : L.countP p ≤ L.countP q := List.countP_mono_left fun y hy hpy => h y (List.mem_cons_of_mem _ hy) hpy
    rw [List.countP_cons, List.countP_cons]
    rcases List.mem_cons.1 hx with rfl | hx
    · simp [hq, hp]
      omega
    · have ih := countP_lt (L := L) (fun y hy => h y (List.mem_cons_of_mem _ hy)) ⟨x, hx, hq, hp⟩
      have ha := h a (List.mem_cons_self ..)
      cases hpa : p a
      · cases hqa : q a <;> simp <;> omega
      · simp [ha hpa]
        omega
theorem lf_lt_of (hi : i < l.length) (h : Bef l i j) : lf l i < lf l j := by
  unfold lf
  refine countP_lt (fun x _ hx => ?_) ⟨i, List.mem_range.2 hi, by simpa using h, by simpa using fun hb : Bef l i i => hb.irrefl⟩
  simp only [decide_eq_true_eq] at hx ⊢
  exact hx.trans h
theorem lf_lt_iff (hi : i < l.length) (hj : j < l.length) : lf l i < lf l j ↔ Bef l i j := by
  refine ⟨fun h => ?_, lf_lt_of hi⟩
  by_cases e : i = j
  · subst e
    omega
  · rcases bef_total (l := l) e with h1 | h1
    · exact h1
    · have := lf_lt_of hj h1
      omega
theorem lf_bound (hi : i < l.length) : lf l i < l.length := by
  have h : lf l i < (List.range l.length).countP (fun _ => true) := countP_lt (fun _ _ _ => rfl) ⟨i, List.mem_range.2 hi, rfl, by simpa using fun hb : Bef l i i => hb.irrefl⟩
  simpa using h
theorem lf_inj (hi : i < l.length) (hj : j < l.length) (h : lf l i = lf l j) : i = j := by
  by_cases e : i = j
  · exact e
  · rcases bef_total (l := l) e with h1 | h1
    · have := lf_lt_of hi h1
      omega
    · have := lf_lt_of hj h1
      omega
end
/-- Who counts those below itself. -/
theorem rank_unique {n : Nat} {f : Nat → Nat} (hf : ∀ i, i < n → f i < n) (hinj : ∀ i j, i < n → j < n → f i = f j → i = j) {i : Nat} (hi : i < n) : (List.range n).countP (fun j => decide (f j < f i)) = f i := by
  have hp : ((List.range n).map f).Perm (List.range n) := by
    refine range_of ?_ (fun x hx => ?_) (by simp)
    · rw [List.Nodup, List.pairwise_map]
      refine List.Pairwise.imp_of_mem (fun {a b} ha hb hab e => ?_) (List.nodup_range (n := n))
      exact hab (hinj a b (List.mem_range.1 ha) (List.mem_range.1 hb) e)
    · obtain ⟨y, hy, rfl⟩ := List.mem_map.1 hx
      exact hf y (List.mem_range.1 hy)
  have h1 : (List.range n).countP (fun j => decide (f j < f i)) = ((List.range n).map f).countP (fun q => decide (q < f i)) := by
    rw [List.countP_map]
    rfl
  rw [h1, hp.countP_eq]
  refine countP_split (fun j y hj hy => ?_) (fun j y hj hy => ?_) (by rw [List.length_range]; exact Nat.le_of_lt (hf i hi))
  · obtain ⟨h2, h3⟩ := List.getElem?_eq_some_iff.1 hy
    rw [List.getElem_range] at h3
    simp
    omega
  · obtain ⟨h2, h3⟩ := List.getElem?_eq_some_iff.1 hy
    rw [List.getElem_range] at h3
    simp
    omega
/-- A way into the places that keeps who is ahead of whom is lf. -/
theorem lf_unique {l : List Int} {f : Nat → Nat} (hf : ∀ i, i < l.length → f i < l.length) (hinj : ∀ i j, i < l.length → j < l.length → f i = f j → i = j) (hm : ∀ i j, i < l.length → j < l.length → (f i < f j ↔ Bef l i j)) {i : Nat} (hi : i < l.length) : lf l i = f i := by
  rw [← rank_unique hf hinj hi]
  unfold lf
  refine List.countP_congr fun j hj => ?_
  have := hm j i (List.mem_range.1 hj) hi
  simp only [decide_eq_true_eq]
  exact this.symm

section
variable {s l : List Int} {L : List Nat}
theorem IsSA.has {s : List Int} {L : List Nat} (h : IsSA s L) {i : Nat} (hi : i < s.length) : ∃ x, L[i]? = some x ∧ x < s.length := by
  have h1 : i < L.length := by rw [h.len]; exact hi
  exact ⟨L[i], List.getElem?_eq_getElem h1, (h.mem _).1 (List.getElem_mem h1)⟩
theorem IsSA.lt_iff {s : List Int} {L : List Nat} (h : IsSA s L) {i j x y : Nat} (hi : L[i]? = some x) (hj : L[j]? = some y) : i < j ↔ Lt (gs s) x y := by
  refine ⟨fun hij => h.lt hij hi hj, fun hl => ?_⟩
  rcases Nat.lt_trichotomy i j with h1 | h1 | h1
  · exact h1
  · subst h1
    obtain rfl : x = y := Option.some.inj (hi.symm.trans hj)
    exact hl.irrefl.elim
  · exact (hl.asymm (h.lt h1 hj hi)).elim
theorem prv_lt {n x : Nat} (hn : 0 < n) (hx : x < n) : prv n x < n := by
  unfold prv
  split <;> omega
theorem prv_inj {n x y : Nat} (hx : x < n) (hy : y < n) (h : prv n x = prv n y) : x = y := by
  unfold prv at h
  split at h <;> split at h <;> omega
/-- The first ending in the order is the last one. -/
theorem Closed.first (hc : Closed s) (h : IsSA s L) : L[0]? = some (s.length - 1) := by
  obtain ⟨x, hx, hxn⟩ := h.has (i := 0) hc.full
  by_cases e : x = s.length - 1
  · rw [hx, e]
  · obtain ⟨j, hj⟩ := h.find (x := s.length - 1) (by have := hc.full; omega)
    have hj0 : j ≠ 0 := fun e2 => by
      subst e2
      exact e (Option.some.inj (hx.symm.trans hj))
    obtain ⟨k, h1, h2⟩ := h.lt (show 0 < j by omega) hx hj
    have h3 := gs_pos hc.pos hxn
    have h4 := hc.only x (by omega)
    rcases Nat.eq_zero_or_pos k with hk | hk
    · subst hk
      simp only [Nat.add_zero] at h2
      rw [hc.last] at h2
      omega
    · have h5 := h1 0 hk
      simp only [Nat.add_zero] at h5
      rw [hc.last] at h5
      omega
/-- An ending is ahead of another one by its symbol, then by what is behind. -/
theorem lt_cons {g : Nat → Int} {a b : Nat} : Lt g a b ↔ g a < g b ∨ (g a = g b ∧ Lt g (a + 1) (b + 1)) := by
  constructor
  · rintro ⟨k, h1, h2⟩
    rcases Nat.eq_zero_or_pos k with hk | hk
    · subst hk
      exact .inl h2
    · have h3 := h1 0 hk
      refine .inr ⟨h3, k - 1, ?_, ?_⟩
      · have : EqK g (1 + (k - 1)) a b := h1.mono (by omega)
        exact this.tail
      · rw [show a + 1 + (k - 1) = a + k by omega, show b + 1 + (k - 1) = b + k by omega]
        exact h2
  · rintro (h | ⟨h, k, h1, h2⟩)
    · exact ⟨0, fun _ hj => absurd hj (by omega), h⟩
    · refine ⟨1 + k, EqK.add (h := 1) (fun j hj => by
      have hj0 : j = 0 := by omega
      subst hj0
      exact h) h1, ?_⟩
      rw [show a + (1 + k) = a + 1 + k by omega, show b + (1 + k) = b + 1 + k by omega]
      exact h2
/-- Of two places, which one's ending ahead is ahead. -/
theorem Turned.bef (t : Turned s l) (h : IsSA s L) {i j x y : Nat} (hi : L[i]? = some x) (hj : L[j]? = some y) (hxy : x ≠ y) : Lt (gs s) (prv s.length x) (prv s.length y) ↔ Bef l i j := by
  have hc := t.closed
  have hx : x < s.length := (h.mem x).1 (List.mem_of_getElem? hi)
  have hy : y < s.length := (h.mem y).1 (List.mem_of_getElem? hj)
  have ex := t.at_ L h i x hi
  have ey := t.at_ L h j y hj
  have hne : i ≠ j := fun e => by
    subst e
    exact hxy (Option.some.inj (hi.symm.trans hj))
  have zero : ∀ z, z < s.length → z ≠ 0 → gs s (prv s.length z) ≠ 0 := fun z hz h0 => by
    refine hc.only _ ?_
    unfold prv
    rw [if_neg h0]
    omega
  have last : gs s (prv s.length 0) = 0 := by
    unfold prv
    rw [if_pos rfl]
    exact hc.last
  rw [lt_cons, ← ex, ← ey]
  unfold Bef
  by_cases hx0 : x = 0
  · subst hx0
    have h1 : gs l i = 0 := by rw [ex, last]
    have h2 := zero y hy (fun e => hxy e.symm)
    rw [← ey] at h2
    omega
  · by_cases hy0 : y = 0
    · subst hy0
      have h1 : gs l j = 0 := by rw [ey, last]
      have h2 := zero x hx hx0
      rw [← ex] at h2
      omega
    · have e1 : prv s.length x + 1 = x := by unfold prv; rw [if_neg hx0]; omega
      have e2 : prv s.length y + 1 = y := by unfold prv; rw [if_neg hy0]; omega
      rw [e1, e2, h.lt_iff hi hj]
/-- The way from an ending's place to the place of the one ahead of it. -/
theorem Turned.step (t : Turned s l) (h : IsSA s L) {i x : Nat} (hi : L[i]? = some x) : L[lf l i]? = some (prv s.length x) := by
  have hn := t.closed.full
  -- where the one ahead stands
  have look : ∀ i, ∃ p, i < s.length → ∃ x, L[i]? = some x ∧ L[p]? = some (prv s.length x) := fun i => by
    rcases Nat.lt_or_ge i s.length with h1 | h1
    · obtain ⟨x, hx, hxn⟩ := h.has h1
      obtain ⟨p, hp⟩ := h.find (prv_lt hn hxn)
      exact ⟨p, fun _ => ⟨x, hx, hp⟩⟩
    · exact ⟨0, fun h2 => absurd h2 (by omega)⟩
  have hlen := t.len
  have hin : i < s.length := by
    obtain ⟨h1, _⟩ := List.getElem?_eq_some_iff.1 hi
    rw [← h.len]
    exact h1
  obtain ⟨f, hf⟩ := Classical.axiomOfChoice look
  have key := lf_unique (l := l) (f := f) (fun j hj => by
    obtain ⟨x, _, hx⟩ := hf j (by omega)
    obtain ⟨h1, _⟩ := List.getElem?_eq_some_iff.1 hx
    have := h.len
    omega) (fun a b ha hb e => by
    obtain ⟨x, hx, hx2⟩ := hf a (by omega)
    obtain ⟨y, hy, hy2⟩ := hf b (by omega)
    rw [e, hy2] at hx2
    have hxy := prv_inj ((h.mem y).1 (List.mem_of_getElem? hy)) ((h.mem x).1 (List.mem_of_getElem? hx)) (Option.some.inj hx2)
    subst hxy
    exact at_one h.nodup hx hy) (fun a b ha hb => by
    obtain ⟨x, hx, hx2⟩ := hf a (by omega)
    obtain ⟨y, hy, hy2⟩ := hf b (by omega)
    rw [h.lt_iff hx2 hy2]
    by_cases hxy : x = y
    · subst hxy
      obtain rfl := at_one h.nodup hx hy
      exact ⟨fun h => h.irrefl.elim, fun h => h.irrefl.elim⟩
    · exact t.bef h hx hy hxy) (i := i) (by omega)
  rw [key]
  obtain ⟨y, hy, hy2⟩ := hf i hin
  obtain rfl : y = x := Option.some.inj (hy.symm.trans hi)
  exact hy2

/-- The places on the way back. -/
def way (l : List Int) : Nat → Nat
  | 0 => 0
  | k + 1 => lf l (way l k)
/-- The row on the way back: its last symbol is 0, each one ahead stands where the way is. -/
def bck (l : List Int) : List Int := (List.range l.length).map fun i => if i + 1 = l.length then 0 else gs l (way l (l.length - 2 - i))
theorem bck_len : (bck l).length = l.length := by unfold bck; simp
theorem bck_at {i : Nat} (hi : i < l.length) : gs (bck l) i = if i + 1 = l.length then 0 else gs l (way l (l.length - 2 - i)) := gs_at (by unfold bck; rw [List.getElem?_map, List.getElem?_range hi]; rfl)
theorem Turned.way (t : Turned s l) (h : IsSA s L) : ∀ k, k < s.length → L[Go.Su.way l k]? = some (s.length - 1 - k)
  | 0, _ => t.closed.first h
  | k + 1, hk => by
    have h1 := t.step h (Turned.way t h k (by omega))
    have h2 : prv s.length (s.length - 1 - k) = s.length - 1 - (k + 1) := by
      unfold prv
      rw [if_neg (by omega)]
      omega
    rw [h2] at h1
    exact h1
theorem gs_ext {a b : List Int} (hl : a.length = b.length) (h : ∀ p, p < a.length → gs a p = gs b p) : a = b := by
  apply List.ext_getElem?
  intro p
  rcases Nat.lt_or_ge p a.length with h1 | h1
  · rw [gs_some h1, gs_some (by omega), h p h1]
  · rw [List.getElem?_eq_none h1, List.getElem?_eq_none (by omega)]
/-- The way back leads to the row. -/
theorem Turned.back (t : Turned s l) (h : IsSA s L) : bck l = s := by
  refine gs_ext (by rw [bck_len, t.len]) fun p hp => ?_
  rw [bck_len] at hp
  have hps : p < s.length := by rw [← t.len]; exact hp
  rw [bck_at hp, t.len]
  by_cases e : p + 1 = s.length
  · rw [if_pos e, show p = s.length - 1 by omega, t.closed.last]
  · rw [if_neg e]
    have h1 := t.way h (s.length - 2 - p) (by omega)
    rw [show s.length - 1 - (s.length - 2 - p) = p + 1 by omega] at h1
    rw [t.at_ L h _ _ h1]
    unfold prv
    rw [if_neg (by omega)]
    rfl
theorem Turned.one {s' : List Int} (t : Turned s l) (t' : Turned s' l) {L' : List Nat} (h : IsSA s L) (h' : IsSA s' L') : s = s' := by
  rw [← t.back h, t'.back h']
end
end Go.Su
namespace Go.Su
section
variable {s l : List Int} {L : List Nat}
/-- What a row has that is turned: one nought, none below it, a way that comes by all. -/
structure Round (l : List Int) : Prop where
  pos : Pos l
  full : 0 < l.length
  zero : ∃ z, z < l.length ∧ gs l z = 0 ∧ ∀ p, p < l.length → gs l p = 0 → p = z
  all : ∀ p, p < l.length → ∃ k, k < l.length ∧ way l k = p
theorem way_lt (hn : 0 < l.length) : ∀ k, way l k < l.length
  | 0 => hn
  | k + 1 => lf_bound (way_lt hn k)
theorem Round.inj (r : Round l) {j k : Nat} (hj : j < l.length) (hk : k < l.length) (h : way l j = way l k) : j = k := by
  have hp : ((List.range l.length).map (way l)).Perm (List.range l.length) := range_all (fun x hx => by
    obtain ⟨k, hk, rfl⟩ := r.all x hx
    exact List.mem_map.2 ⟨k, List.mem_range.2 hk, rfl⟩) (by simp)
  have hn := hp.symm.nodup List.nodup_range
  have h1 : ((List.range l.length).map (way l))[j]? = some (way l j) := by rw [List.getElem?_map, List.getElem?_range hj]; rfl
  have h2 : ((List.range l.length).map (way l))[k]? = some (way l k) := by rw [List.getElem?_map, List.getElem?_range hk]; rfl
  rw [← h] at h2
  exact at_one hn h1 h2
theorem lf_zero {z : Nat} (hp : Pos l) (h0 : gs l z = 0) (hu : ∀ p, p < l.length → gs l p = 0 → p = z) : lf l z = 0 := by
  unfold lf
  rw [List.countP_eq_zero]
  intro x hx
  have hx2 := List.mem_range.1 hx
  have h1 := gs_pos hp hx2
  simp only [decide_eq_true_eq]
  unfold Bef
  rw [h0]
  by_cases e : gs l x = 0
  · have := hu x hx2 e
    omega
  · omega
/-- The way comes to the nought last. -/
theorem Round.notZero (r : Round l) {k : Nat} (hk : k + 1 < l.length) : gs l (way l k) ≠ 0 := by
  obtain ⟨z, hz, h0, hu⟩ := r.zero
  intro e
  have h1 := hu _ (way_lt r.full k) e
  have h2 : way l (k + 1) = way l 0 := by
    show lf l (way l k) = 0
    rw [h1]
    exact lf_zero r.pos h0 hu
  have := r.inj hk r.full h2
  omega
theorem Round.lastZero (r : Round l) : gs l (way l (l.length - 1)) = 0 := by
  obtain ⟨z, hz, h0, hu⟩ := r.zero
  obtain ⟨k, hk, e⟩ := r.all z hz
  rcases Nat.lt_or_ge (k + 1) l.length with h1 | h1
  · have := r.notZero h1
    rw [e] at this
    exact absurd h0 this
  · rw [show l.length - 1 = k by omega, e]
    exact h0
theorem Round.closed (r : Round l) : Closed (bck l) := by
  have hn := r.full
  refine ⟨fun x hx => ?_, by rw [bck_len]; exact hn, ?_, fun p hp => ?_⟩
  · obtain ⟨p, hp, e⟩ := List.getElem_of_mem hx
    rw [bck_len] at hp
    have h1 := bck_at hp
    rw [gs_at (by rw [List.getElem?_eq_getElem (by rw [bck_len]; exact hp), e])] at h1
    rw [h1]
    split
    · omega
    · exact gs_pos r.pos (way_lt hn _)
  · rw [bck_len, bck_at (by omega), if_pos (by omega)]
  · rw [bck_len] at hp
    rw [bck_at (by omega), if_neg (by omega)]
    exact r.notZero (by omega)
/-- The way's places are the endings' places. -/
theorem Round.rank (r : Round l) : ∀ (d i j : Nat), i < l.length → j < l.length → i ≠ j → l.length ≤ max i j + 1 + d → (way l (l.length - 1 - i) < way l (l.length - 1 - j) ↔ Lt (gs (bck l)) i j) := by
  have hc := r.closed
  have hn := r.full
  have lastS : gs (bck l) (l.length - 1) = 0 := by
    have := hc.last
    rwa [bck_len] at this
  have other : ∀ p, p < l.length → p ≠ l.length - 1 → 0 < gs (bck l) p := fun p hp hne => by
    have h1 := hc.only p (by rw [bck_len]; omega)
    have h2 := gs_pos hc.pos (p := p) (by rw [bck_len]; exact hp)
    omega
  have w0 : ∀ p, p < l.length → p ≠ l.length - 1 → 0 < way l (l.length - 1 - p) := fun p hp hne => by
    rcases Nat.eq_zero_or_pos (way l (l.length - 1 - p)) with h | h
    · have := r.inj (j := l.length - 1 - p) (k := 0) (by omega) hn h
      omega
    · exact h
  have step : ∀ p, p + 1 < l.length → way l (l.length - 1 - p) = lf l (way l (l.length - 1 - (p + 1))) := fun p hp => by
    rw [show l.length - 1 - p = (l.length - 1 - (p + 1)) + 1 by omega]
    rfl
  have sym : ∀ p, p + 1 < l.length → gs (bck l) p = gs l (way l (l.length - 1 - (p + 1))) := fun p hp => by
    rw [bck_at (by omega), if_neg (by omega), show l.length - 2 - p = l.length - 1 - (p + 1) by omega]
  intro d
  induction d with
  | zero =>
    intro i j hi hj hij hd
    by_cases e : i = l.length - 1
    · have hj2 : j ≠ l.length - 1 := by omega
      refine ⟨fun _ => lt_cons.2 (.inl ?_), fun _ => ?_⟩
      · rw [e, lastS]
        exact other j hj hj2
      · rw [e, Nat.sub_self]
        exact w0 j hj hj2
    · have e2 : j = l.length - 1 := by omega
      refine ⟨fun h => ?_, fun h => ?_⟩
      · rw [e2, Nat.sub_self] at h
        exact absurd h (Nat.not_lt_zero _)
      · have h1 := other i hi e
        rcases lt_cons.1 h with h2 | ⟨h2, _⟩
        · rw [e2, lastS] at h2
          omega
        · rw [e2, lastS] at h2
          omega
  | succ d ih =>
    intro i j hi hj hij hd
    by_cases e : i = l.length - 1
    · have hj2 : j ≠ l.length - 1 := by omega
      refine ⟨fun _ => lt_cons.2 (.inl ?_), fun _ => ?_⟩
      · rw [e, lastS]
        exact other j hj hj2
      · rw [e, Nat.sub_self]
        exact w0 j hj hj2
    · by_cases e2 : j = l.length - 1
      · refine ⟨fun h => ?_, fun h => ?_⟩
        · rw [e2, Nat.sub_self] at h
          exact absurd h (Nat.not_lt_zero _)
        · have h1 := other i hi e
          rcases lt_cons.1 h with h2 | ⟨h2, _⟩
          · rw [e2, lastS] at h2
            omega
          · rw [e2, lastS] at h2
            omega
      · rw [step i (by omega), step j (by omega), lf_lt_iff (way_lt hn _) (way_lt hn _), lt_cons, sym i (by omega), sym j (by omega)]
        unfold Bef
        rw [ih (i + 1) (j + 1) (by omega) (by omega) (by omega) (by omega)]
theorem Round.sa (r : Round l) : ∃ L, IsSA (bck l) L ∧ ∀ i x, L[i]? = some x → way l (l.length - 1 - x) = i := by
  have hn := r.full
  have look : ∀ p, ∃ k, p < l.length → k < l.length ∧ way l (l.length - 1 - k) = p := fun p => by
    rcases Nat.lt_or_ge p l.length with h | h
    · obtain ⟨k, hk, e⟩ := r.all p h
      exact ⟨l.length - 1 - k, fun _ => ⟨by omega, by rw [show l.length - 1 - (l.length - 1 - k) = k by omega]; exact e⟩⟩
    · exact ⟨0, fun h2 => absurd h2 (by omega)⟩
  obtain ⟨f, hf⟩ := Classical.axiomOfChoice look
  have hat : ∀ i x, ((List.range l.length).map f)[i]? = some x → i < l.length ∧ x = f i := fun i x hx => by
    rw [List.getElem?_map] at hx
    rcases Nat.lt_or_ge i l.length with h | h
    · rw [List.getElem?_range h] at hx
      exact ⟨h, (Option.some.inj hx).symm⟩
    · rw [List.getElem?_eq_none (by simpa using h)] at hx
      cases hx
  refine ⟨(List.range l.length).map f, ⟨by rw [bck_len]; simp, fun x => ?_, ?_⟩, fun i x hx => ?_⟩
  · rw [bck_len, List.mem_map]
    constructor
    · rintro ⟨p, hp, rfl⟩
      exact (hf p (List.mem_range.1 hp)).1
    · intro hx
      refine ⟨way l (l.length - 1 - x), List.mem_range.2 (way_lt hn _), ?_⟩
      obtain ⟨h1, h2⟩ := hf _ (way_lt hn (l.length - 1 - x))
      have := r.inj (by omega) (by omega) h2
      omega
  · rw [List.pairwise_map, List.pairwise_iff_getElem]
    intro i j hi hj hij
    simp only [List.getElem_range]
    rw [List.length_range] at hi hj
    obtain ⟨h1, h2⟩ := hf i hi
    obtain ⟨h3, h4⟩ := hf j hj
    refine (r.rank l.length (f i) (f j) h1 h3 (fun e => ?_) (by omega)).1 (by omega)
    rw [e, h4] at h2
    omega
  · obtain ⟨hi, rfl⟩ := hat i x hx
    exact (hf i hi).2
/-- A row of one nought whose way comes by all is turned. -/
theorem Round.turned (r : Round l) : Turned (bck l) l := by
  obtain ⟨L, hL, hw⟩ := r.sa
  refine ⟨r.closed, by rw [bck_len], fun L' hL' i x hx => ?_⟩
  obtain rfl := hL'.uniq hL
  have h1 := hw i x hx
  have hxn := (hL.mem x).1 (List.mem_of_getElem? hx)
  rw [bck_len] at hxn ⊢
  have hn := r.full
  unfold prv
  by_cases h0 : x = 0
  · rw [if_pos h0, bck_at (by omega), if_pos (by omega), ← h1, h0, Nat.sub_zero]
    exact r.lastZero
  · rw [if_neg h0, bck_at (by omega), if_neg (by omega), show l.length - 2 - (x - 1) = l.length - 1 - x by omega, h1]
/-- .. and the other way round. -/
theorem Turned.round (t : Turned s l) (h : IsSA s L) : Round l := by
  have hc := t.closed
  have hl := t.len
  have look : ∀ p, p < l.length → ∃ x, L[p]? = some x ∧ x < s.length ∧ gs l p = gs s (prv s.length x) := fun p hp => by
    obtain ⟨x, hx, hxn⟩ := h.has (i := p) (by omega)
    exact ⟨x, hx, hxn, t.at_ L h p x hx⟩
  refine ⟨fun x hx => ?_, by have := hc.full; omega, ?_, fun p hp => ?_⟩
  · obtain ⟨p, hp, e⟩ := List.getElem_of_mem hx
    obtain ⟨y, _, hyn, e2⟩ := look p hp
    rw [gs_at (by rw [List.getElem?_eq_getElem hp, e])] at e2
    rw [e2]
    exact gs_pos hc.pos (prv_lt hc.full hyn)
  · obtain ⟨z, hz⟩ := h.find (x := 0) hc.full
    obtain ⟨hz1, _⟩ := List.getElem?_eq_some_iff.1 hz
    have hzl : z < l.length := by rw [hl, ← h.len]; exact hz1
    refine ⟨z, hzl, ?_, fun p hp e => ?_⟩
    · rw [t.at_ L h z 0 hz]
      unfold prv
      rw [if_pos rfl]
      exact hc.last
    · obtain ⟨x, hx, hxn, e2⟩ := look p hp
      rw [e] at e2
      have h0 : x = 0 := by
        by_cases h0 : x = 0
        · exact h0
        · refine absurd e2.symm (hc.only _ ?_)
          unfold prv
          rw [if_neg h0]
          omega
      subst h0
      exact at_one h.nodup hx hz
  · obtain ⟨x, hx, hxn, _⟩ := look p hp
    refine ⟨s.length - 1 - x, by omega, ?_⟩
    have h1 := t.way h (s.length - 1 - x) (by omega)
    rw [show s.length - 1 - (s.length - 1 - x) = x by omega] at h1
    exact at_one h.nodup h1 hx
end
end Go.Su
