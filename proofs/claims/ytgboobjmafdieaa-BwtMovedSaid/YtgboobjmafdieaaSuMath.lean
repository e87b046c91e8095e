/-
  Plain mathematics of endings, over no program: their order, by so many symbols and whole; ranks and their doubling; what neighbours have in common.
  Conditions: none; plain lemmas.
-/
import Init
namespace Go.Su

/-- The symbol at a place; behind the end: -1. -/
def gs (s : List Int) (p : Nat) : Int := s.getD p (-1)
theorem gs_at {s : List Int} {p : Nat} {x : Int} (h : s[p]? = some x) : gs s p = x := by
  unfold gs
  rw [List.getD_eq_getElem?_getD, h]
  rfl
theorem gs_some {s : List Int} {p : Nat} (h : p < s.length) : s[p]? = some (gs s p) := by
  unfold gs
  rw [List.getD_eq_getElem?_getD, List.getElem?_eq_getElem h]
  rfl
theorem gs_out {s : List Int} {p : Nat} (h : s.length ≤ p) : gs s p = -1 := by
  unfold gs
  rw [List.getD_eq_getElem?_getD, List.getElem?_eq_none h]
  rfl
/-- No symbol is below 0. -/
def Pos (s : List Int) : Prop := ∀ x ∈ s, 0 ≤ x
theorem gs_pos {s : List Int} (hs : Pos s) {p : Nat} (h : p < s.length) : 0 ≤ gs s p := hs _ (List.mem_of_getElem? (gs_some h))

section
variable (g : Nat → Int)
/-- Alike in the first h symbols; ahead by them; ahead. -/
def EqK (h a b : Nat) : Prop := ∀ j, j < h → g (a + j) = g (b + j)
def LtK (h a b : Nat) : Prop := ∃ k, k < h ∧ EqK g k a b ∧ g (a + k) < g (b + k)
def Lt (a b : Nat) : Prop := ∃ k, EqK g k a b ∧ g (a + k) < g (b + k)
end

section
variable {g : Nat → Int} {h h' a b c : Nat}
theorem EqK.refl (h a : Nat) : EqK g h a a := fun _ _ => rfl
theorem EqK.symm (e : EqK g h a b) : EqK g h b a := fun j hj => (e j hj).symm
theorem EqK.trans (e : EqK g h a b) (f : EqK g h b c) : EqK g h a c := fun j hj => (e j hj).trans (f j hj)
theorem EqK.mono (e : EqK g h a b) (hh : h' ≤ h) : EqK g h' a b := fun j hj => e j (Nat.lt_of_lt_of_le hj hh)
theorem EqK.succ (e : EqK g h a b) (f : g (a + h) = g (b + h)) : EqK g (h + 1) a b := fun j hj => by
  rcases Nat.lt_or_ge j h with h1 | h1
  · exact e j h1
  · obtain rfl : j = h := by omega
    exact f
theorem EqK.add (e : EqK g h a b) (f : EqK g h' (a + h) (b + h)) : EqK g (h + h') a b := fun j hj => by
  rcases Nat.lt_or_ge j h with h1 | h1
  · exact e j h1
  · have := f (j - h) (by omega)
    rwa [show a + h + (j - h) = a + j by omega, show b + h + (j - h) = b + j by omega] at this
theorem EqK.tail (e : EqK g (h + h') a b) : EqK g h' (a + h) (b + h) := fun j hj => by
  have := e (h + j) (by omega)
  rwa [← Nat.add_assoc, ← Nat.add_assoc] at this
theorem LtK.lt (l : LtK g h a b) : Lt g a b := by
  obtain ⟨k, _, h1, h2⟩ := l
  exact ⟨k, h1, h2⟩
theorem LtK.mono (l : LtK g h a b) (hh : h ≤ h') : LtK g h' a b := by
  obtain ⟨k, h0, h1, h2⟩ := l
  exact ⟨k, by omega, h1, h2⟩
theorem Lt.trans (l : Lt g a b) (m : Lt g b c) : Lt g a c := by
  obtain ⟨k, h1, h2⟩ := l
  obtain ⟨q, h3, h4⟩ := m
  rcases Nat.lt_trichotomy k q with h5 | h5 | h5
  · exact ⟨k, h1.trans (h3.mono (by omega)), by rw [← h3 k h5]; exact h2⟩
  · subst h5
    exact ⟨k, h1.trans h3, by omega⟩
  · exact ⟨q, (h1.mono (by omega)).trans h3, by rw [h1 q h5]; exact h4⟩
theorem Lt.irrefl (l : Lt g a a) : False := by
  obtain ⟨k, _, h2⟩ := l
  omega
theorem Lt.asymm (l : Lt g a b) (m : Lt g b a) : False := (l.trans m).irrefl
theorem LtK.trans (l : LtK g h a b) (m : LtK g h b c) : LtK g h a c := by
  obtain ⟨k, h0, h1, h2⟩ := l
  obtain ⟨q, g0, h3, h4⟩ := m
  rcases Nat.lt_trichotomy k q with h5 | h5 | h5
  · exact ⟨k, h0, h1.trans (h3.mono (by omega)), by rw [← h3 k h5]; exact h2⟩
  · subst h5
    exact ⟨k, h0, h1.trans h3, by omega⟩
  · exact ⟨q, g0, (h1.mono (by omega)).trans h3, by rw [h1 q h5]; exact h4⟩
theorem LtK.asymm (l : LtK g h a b) (m : LtK g h b a) : False := l.lt.asymm m.lt
theorem LtK.not_eq (l : LtK g h a b) (e : EqK g h a b) : False := by
  obtain ⟨k, h0, _, h2⟩ := l
  rw [e k h0] at h2
  omega
theorem LtK.eq_right (l : LtK g h a b) (e : EqK g h b c) : LtK g h a c := by
  obtain ⟨k, h0, h1, h2⟩ := l
  exact ⟨k, h0, h1.trans (e.mono (by omega)), by rw [← e k h0]; exact h2⟩
theorem LtK.eq_left (e : EqK g h a b) (l : LtK g h b c) : LtK g h a c := by
  obtain ⟨k, h0, h1, h2⟩ := l
  exact ⟨k, h0, (e.mono (by omega)).trans h1, by rw [e k h0]; exact h2⟩
theorem tri (g : Nat → Int) (a b : Nat) : ∀ h, LtK g h a b ∨ EqK g h a b ∨ LtK g h b a
  | 0 => .inr (.inl fun _ hj => absurd hj (by omega))
  | h + 1 => by
    rcases tri g a b h with h1 | h1 | h1
    · exact .inl (h1.mono (by omega))
    · rcases Int.lt_trichotomy (g (a + h)) (g (b + h)) with h2 | h2 | h2
      · exact .inl ⟨h, by omega, h1, h2⟩
      · exact .inr (.inl (h1.succ h2))
      · exact .inr (.inr ⟨h, by omega, h1.symm, h2⟩)
    · exact .inr (.inr (h1.mono (by omega)))
/-- Twice as many. -/
theorem double : LtK g (h + h') a b ↔ LtK g h a b ∨ (EqK g h a b ∧ LtK g h' (a + h) (b + h)) := by
  constructor
  · rintro ⟨k, h0, h1, h2⟩
    rcases Nat.lt_or_ge k h with h3 | h3
    · exact .inl ⟨k, h3, h1, h2⟩
    · refine .inr ⟨h1.mono h3, k - h, by omega, ?_, ?_⟩
      · have h4 : EqK g (h + (k - h)) a b := h1.mono (by omega)
        exact h4.tail
      · rw [show a + h + (k - h) = a + k by omega, show b + h + (k - h) = b + k by omega]
        exact h2
  · rintro (h1 | ⟨h1, k, h2, h3, h4⟩)
    · exact h1.mono (by omega)
    · refine ⟨h + k, by omega, h1.add h3, ?_⟩
      rw [show a + (h + k) = a + h + k by omega, show b + (h + k) = b + h + k by omega]
      exact h4
/-- One that stands between two that are alike. -/
theorem sandwich (l : Lt g a b) (m : Lt g b c) (e : EqK g h a c) : EqK g h b c := by
  rcases tri g b c h with h1 | h1 | h1
  · rcases tri g a b h with h2 | h2 | h2
    · exact ((h2.trans h1).not_eq e).elim
    · exact h2.symm.trans e
    · exact (l.asymm h2.lt).elim
  · exact h1
  · exact (m.asymm h1.lt).elim
/-- What the next place has in common with the one ahead of it. -/
theorem kasai {k i p : Nat} {n : Nat} (hh : EqK g h k i) (h1 : 1 ≤ h) (l : Lt g k i) (hout : ∀ q, n ≤ q → g q < 0) (hin : ∀ q, q < n → 0 ≤ g q) (hi : i + 1 < n) (hp : Lt g p (i + 1)) (hm : ∀ q, q < n → Lt g q (i + 1) → q = p ∨ Lt g q p) : EqK g (h - 1) p (i + 1) := by
  rcases Nat.eq_zero_or_pos (h - 1) with h2 | h2
  · rw [h2]
    exact fun _ hj => absurd hj (by omega)
  · have e : EqK g (h - 1) (k + 1) (i + 1) := by
      have : EqK g (1 + (h - 1)) k i := hh.mono (by omega)
      exact this.tail
    have lt1 : Lt g (k + 1) (i + 1) := by
      obtain ⟨q, g1, g2⟩ := l
      have hq : h ≤ q := by
        rcases Nat.lt_or_ge q h with h3 | h3
        · rw [hh q h3] at g2
          omega
        · exact h3
      refine ⟨q - 1, ?_, ?_⟩
      · have : EqK g (1 + (q - 1)) k i := g1.mono (by omega)
        exact this.tail
      · rw [show k + 1 + (q - 1) = k + q by omega, show i + 1 + (q - 1) = i + q by omega]
        exact g2
    have hk : k + 1 < n := by
      rcases Nat.lt_or_ge (k + 1) n with h3 | h3
      · exact h3
      · have h4 := e 0 h2
        have h5 := hout (k + 1) h3
        have h6 := hin (i + 1) hi
        simp only [Nat.add_zero] at h4
        omega
    rcases hm (k + 1) hk lt1 with h3 | h3
    · rw [← h3]
      exact e
    · exact sandwich h3 hp e
end

section
variable {s : List Int} {a b : Nat}
/-- Two endings are not alike. -/
theorem not_alike (hs : Pos s) (ha : a < s.length) (hb : b < s.length) (hab : a ≠ b) {h : Nat} (hh : s.length ≤ h) : ¬ EqK (gs s) h a b := by
  have key : ∀ a b : Nat, a < b → b < s.length → ¬ EqK (gs s) h a b := by
    intro a b hab hb e
    have h1 := e (s.length - b) (by omega)
    rw [gs_out (p := b + (s.length - b)) (by omega)] at h1
    have h2 := gs_pos hs (p := a + (s.length - b)) (by omega)
    omega
  intro e
  rcases Nat.lt_or_ge a b with h1 | h1
  · exact key a b h1 hb e
  · exact key b a (by omega) ha e.symm
theorem lt_total (hs : Pos s) (ha : a < s.length) (hb : b < s.length) (hab : a ≠ b) : Lt (gs s) a b ∨ Lt (gs s) b a := by
  rcases tri (gs s) a b s.length with h1 | h1 | h1
  · exact .inl h1.lt
  · exact absurd h1 (not_alike hs ha hb hab (Nat.le_refl _))
  · exact .inr h1.lt

/-- The order of all endings. -/
structure IsSA (s : List Int) (sa : List Nat) : Prop where
  len : sa.length = s.length
  mem : ∀ x, x ∈ sa ↔ x < s.length
  ord : sa.Pairwise (Lt (gs s))
/-- Two orders of the same by what is asymmetric are one. -/
theorem pairwise_uniq {α : Type} {R : α → α → Prop} (hR : ∀ x y, R x y → R y x → False) : ∀ {l m : List α}, l.Pairwise R → m.Pairwise R → (∀ x, x ∈ l ↔ x ∈ m) → l = m
  | [], [], _, _, _ => rfl
  | [], y :: m, _, _, h => absurd ((h y).2 (List.mem_cons_self ..)) (by simp)
  | x :: l, [], _, _, h => absurd ((h x).1 (List.mem_cons_self ..)) (by simp)
  | x :: l, y :: m, hl, hm, h => by
    rw [List.pairwise_cons] at hl hm
    have hxy : x = y := by
      rcases List.mem_cons.1 ((h x).1 (List.mem_cons_self ..)) with h1 | h1
      · exact h1
      · rcases List.mem_cons.1 ((h y).2 (List.mem_cons_self ..)) with h2 | h2
        · exact h2.symm
        · exact (hR _ _ (hl.1 y h2) (hm.1 x h1)).elim
    subst hxy
    refine congrArg (x :: ·) (pairwise_uniq hR hl.2 hm.2 fun z => ?_)
    have hz := h z
    simp only [List.mem_cons] at hz
    constructor
    · intro h1
      rcases hz.1 (.inr h1) with h2 | h2
      · subst h2
        exact (hR _ _ (hl.1 z h1) (hl.1 z h1)).elim
      · exact h2
    · intro h1
      rcases hz.2 (.inr h1) with h2 | h2
      · subst h2
        exact (hR _ _ (hm.1 z h1) (hm.1 z h1)).elim
      · exact h2
theorem IsSA.uniq {sa sb : List Nat} (h : IsSA s sa) (k : IsSA s sb) : sa = sb :=
  pairwise_uniq (fun _ _ => Lt.asymm) h.ord k.ord fun x => (h.mem x).trans (k.mem x).symm

/-- Ranks by so many symbols. -/
structure Rk (s rank : List Int) (h : Nat) : Prop where
  len : rank.length = s.length
  pos : Pos rank
  ord : ∀ a b, a < s.length → b < s.length → (gs rank a < gs rank b ↔ LtK (gs s) h a b)
theorem rk_first (hs : Pos s) : Rk s s 1 := by
  refine ⟨rfl, hs, fun a b _ _ => ⟨fun h1 => ⟨0, by omega, fun _ hj => absurd hj (by omega), h1⟩, ?_⟩⟩
  rintro ⟨k, h0, _, h2⟩
  obtain rfl : k = 0 := by omega
  exact h2
theorem Rk.all {rank : List Int} {h : Nat} (r : Rk s rank h) (hs : Pos s) (h1 : 1 ≤ h) (a b : Nat) : gs rank a < gs rank b ↔ LtK (gs s) h a b := by
  rcases Nat.lt_or_ge a s.length with ha | ha <;> rcases Nat.lt_or_ge b s.length with hb | hb
  · exact r.ord a b ha hb
  · rw [gs_out (p := b) (by rw [r.len]; exact hb)]
    have h2 := gs_pos r.pos (p := a) (by rw [r.len]; exact ha)
    refine ⟨fun h3 => by omega, ?_⟩
    rintro ⟨k, _, h4, h5⟩
    rw [gs_out (p := b + k) (by omega)] at h5
    have h6 : ∀ p, -1 ≤ gs s p := fun p => by
      rcases Nat.lt_or_ge p s.length with h7 | h7
      · have := gs_pos hs h7
        omega
      · rw [gs_out h7]
        omega
    have := h6 (a + k)
    omega
  · rw [gs_out (p := a) (by rw [r.len]; exact ha)]
    have h2 := gs_pos r.pos (p := b) (by rw [r.len]; exact hb)
    refine ⟨fun _ => ⟨0, by omega, fun _ hj => absurd hj (by omega), ?_⟩, fun _ => by omega⟩
    rw [Nat.add_zero, Nat.add_zero, gs_out ha]
    have := gs_pos hs hb
    omega
  · rw [gs_out (p := a) (by rw [r.len]; exact ha), gs_out (p := b) (by rw [r.len]; exact hb)]
    refine ⟨fun h3 => by omega, ?_⟩
    rintro ⟨k, _, _, h5⟩
    rw [gs_out (p := a + k) (by omega), gs_out (p := b + k) (by omega)] at h5
    omega
theorem Rk.eq {rank : List Int} {h : Nat} (r : Rk s rank h) (hs : Pos s) (h1 : 1 ≤ h) (a b : Nat) : gs rank a = gs rank b ↔ EqK (gs s) h a b := by
  have g1 := r.all hs h1 a b
  have g2 := r.all hs h1 b a
  constructor
  · intro e
    rcases tri (gs s) a b h with h2 | h2 | h2
    · have := g1.2 h2
      omega
    · exact h2
    · have := g2.2 h2
      omega
  · intro e
    rcases Int.lt_trichotomy (gs rank a) (gs rank b) with h2 | h2 | h2
    · exact ((g1.1 h2).not_eq e).elim
    · exact h2
    · exact ((g2.1 h2).not_eq e.symm).elim
/-- Two ranks tell twice as many symbols. -/
theorem Rk.twice {rank : List Int} {h : Nat} (r : Rk s rank h) (hs : Pos s) (h1 : 1 ≤ h) (a b : Nat) :
    (gs rank a < gs rank b ∨ (gs rank a = gs rank b ∧ gs rank (a + h) < gs rank (b + h))) ↔ LtK (gs s) (h + h) a b := by
  rw [double, r.all hs h1, r.eq hs h1, r.all hs h1]

/-- Ranks laid along an order: the first 0, each next one more if it is ahead of. -/
structure Along (s : List Int) (sa : List Nat) (h : Nat) (r : List Int) : Prop where
  first : ∀ x, sa[0]? = some x → gs r x = 0
  next : ∀ i x y, sa[i]? = some x → sa[i + 1]? = some y → (LtK (gs s) h x y → gs r y = gs r x + 1) ∧ (¬ LtK (gs s) h x y → gs r y = gs r x)
variable {sa : List Nat} {r : List Int} {h : Nat}
theorem Along.step (al : Along s sa h r) (hp : sa.Pairwise fun x y => ¬ LtK (gs s) h y x) {i j x : Nat} (hi : sa[i]? = some x) : ∀ {y : Nat}, i ≤ j → sa[j]? = some y → gs r x ≤ gs r y ∧ gs r y ≤ gs r x + (j - i : Nat) ∧ (gs r x = gs r y ↔ EqK (gs s) h x y) := by
  induction j with
  | zero =>
    intro y hij hj
    obtain rfl : i = 0 := by omega
    obtain rfl : x = y := Option.some.inj (hi.symm.trans hj)
    exact ⟨Int.le_refl _, by omega, fun _ => EqK.refl _ _, fun _ => rfl⟩
  | succ j ih =>
    intro y hij hj
    rcases Nat.lt_or_ge i (j + 1) with h1 | h1
    · obtain ⟨hjl, _⟩ := List.getElem?_eq_some_iff.1 hj
      have hz : sa[j]? = some (sa[j]'(by omega)) := List.getElem?_eq_getElem _
      generalize sa[j]'(by omega) = z at hz
      obtain ⟨g1, g2, g3⟩ := ih (by omega) hz
      obtain ⟨n1, n2⟩ := al.next j z y hz hj
      have hzy : ¬ LtK (gs s) h y z := by
        rw [List.pairwise_iff_getElem] at hp
        obtain ⟨e1, e2⟩ := List.getElem?_eq_some_iff.1 hz
        obtain ⟨e3, e4⟩ := List.getElem?_eq_some_iff.1 hj
        have := hp j (j + 1) e1 e3 (by omega)
        rwa [e2, e4] at this
      by_cases hlt : LtK (gs s) h z y
      · have e := n1 hlt
        refine ⟨by omega, by omega, fun h2 => by omega, fun h2 => ?_⟩
        have hxz : ¬ LtK (gs s) h x z := fun h3 => (h3.trans hlt).not_eq h2
        rcases tri (gs s) x z h with h4 | h4 | h4
        · exact absurd h4 hxz
        · exact (hlt.not_eq (h4.symm.trans h2)).elim
        · -- y is alike x, z ahead of y, so z ahead of x: but x stands ahead of z
          have h5 : ¬ LtK (gs s) h z x := by
            rw [List.pairwise_iff_getElem] at hp
            obtain ⟨e1, e2⟩ := List.getElem?_eq_some_iff.1 hi
            obtain ⟨e3, e4⟩ := List.getElem?_eq_some_iff.1 hz
            rcases Nat.lt_or_ge i j with h6 | h6
            · have := hp i j e1 e3 h6
              rwa [e2, e4] at this
            · have h7 : i = j := by omega
              subst h7
              obtain rfl : x = z := Option.some.inj (hi.symm.trans hz)
              exact fun h8 => h8.asymm h8
          exact absurd h4 h5
      · have e := n2 hlt
        have hzy2 : EqK (gs s) h z y := by
          rcases tri (gs s) z y h with h4 | h4 | h4
          · exact absurd h4 hlt
          · exact h4
          · exact absurd h4 hzy
        refine ⟨by omega, by omega, fun h2 => (g3.1 (by omega)).trans hzy2, fun h2 => ?_⟩
        have := g3.2 (h2.trans hzy2.symm)
        omega
    · obtain rfl : i = j + 1 := by omega
      obtain rfl : x = y := Option.some.inj (hi.symm.trans hj)
      exact ⟨Int.le_refl _, by omega, fun _ => EqK.refl _ _, fun _ => rfl⟩
theorem Along.le (al : Along s sa h r) (hp : sa.Pairwise fun x y => ¬ LtK (gs s) h y x) {j y : Nat} (hj : sa[j]? = some y) : 0 ≤ gs r y ∧ gs r y ≤ j := by
  obtain ⟨hjl, _⟩ := List.getElem?_eq_some_iff.1 hj
  have h0 : sa[0]? = some (sa[0]'(by omega)) := List.getElem?_eq_getElem _
  obtain ⟨g1, g2, _⟩ := al.step hp h0 (Nat.zero_le j) hj
  have := al.first _ h0
  omega
/-- They are the ranks. -/
theorem Along.rk (al : Along s sa h r) (hm : ∀ x, x ∈ sa ↔ x < s.length) (hp : sa.Pairwise fun x y => ¬ LtK (gs s) h y x) (hr : r.length = s.length) : Rk s r h := by
  have at_ : ∀ x, x < s.length → ∃ i, sa[i]? = some x := fun x hx => by
    obtain ⟨i, h1, h2⟩ := List.getElem_of_mem ((hm x).2 hx)
    exact ⟨i, by rw [List.getElem?_eq_getElem h1, h2]⟩
  refine ⟨hr, fun x hx => ?_, fun a b ha hb => ?_⟩
  · obtain ⟨p, h1, h2⟩ := List.getElem_of_mem hx
    obtain ⟨i, hi⟩ := at_ p (by omega)
    have h3 := (al.le hp hi).1
    have h4 : gs r p = x := gs_at (by rw [List.getElem?_eq_getElem h1, h2])
    omega
  · obtain ⟨i, hi⟩ := at_ a ha
    obtain ⟨j, hj⟩ := at_ b hb
    have notlt : ∀ {i j x y : Nat}, sa[i]? = some x → sa[j]? = some y → i ≤ j → ¬ LtK (gs s) h y x := by
      intro i j x y hi hj hij
      rw [List.pairwise_iff_getElem] at hp
      obtain ⟨e1, e2⟩ := List.getElem?_eq_some_iff.1 hi
      obtain ⟨e3, e4⟩ := List.getElem?_eq_some_iff.1 hj
      rcases Nat.lt_or_ge i j with h6 | h6
      · have := hp i j e1 e3 h6
        rwa [e2, e4] at this
      · have h7 : i = j := by omega
        subst h7
        obtain rfl : x = y := Option.some.inj (hi.symm.trans hj)
        exact fun h8 => h8.asymm h8
    rcases Nat.le_total i j with hij | hij
    · obtain ⟨g1, _, g3⟩ := al.step hp hi hij hj
      constructor
      · intro h1
        rcases tri (gs s) a b h with h4 | h4 | h4
        · exact h4
        · have := g3.2 h4
          omega
        · exact absurd h4 (notlt hi hj hij)
      · intro h1
        have h2 : gs r a ≠ gs r b := fun e => h1.not_eq (g3.1 e)
        omega
    · obtain ⟨g1, _, _⟩ := al.step hp hj hij hi
      exact ⟨fun h1 => by omega, fun h1 => absurd h1 (notlt hj hi hij)⟩
/-- The last one's rank is the greatest that there can be: none are alike. -/
theorem Along.strict (al : Along s sa h r) (hp : sa.Pairwise fun x y => ¬ LtK (gs s) h y x) {z : Nat} (hz : sa[sa.length - 1]? = some z) (he : gs r z = (sa.length : Int) - 1) : sa.Pairwise (Lt (gs s)) := by
  rw [List.pairwise_iff_getElem]
  intro i j hi hj hij
  have e1 : sa[i]? = some sa[i] := List.getElem?_eq_getElem hi
  have e2 : sa[j]? = some sa[j] := List.getElem?_eq_getElem hj
  obtain ⟨g1, g2, g3⟩ := al.step hp e1 (by omega) e2
  obtain ⟨k1, k2, _⟩ := al.step hp e2 (show j ≤ sa.length - 1 by omega) hz
  have l1 := (al.le hp e1).2
  rcases tri (gs s) sa[i] sa[j] h with h4 | h4 | h4
  · exact h4.lt
  · have := g3.2 h4
    omega
  · rw [List.pairwise_iff_getElem] at hp
    exact absurd h4 (hp i j hi hj hij)
/-- As many symbols as there are tell all. -/
theorem strict_all (hs : Pos s) (hn : sa.Nodup) (hm : ∀ x, x ∈ sa ↔ x < s.length) (hp : sa.Pairwise fun x y => ¬ LtK (gs s) h y x) (hh : s.length ≤ h) : sa.Pairwise (Lt (gs s)) := by
  rw [List.pairwise_iff_getElem] at hp ⊢
  intro i j hi hj hij
  have hne : sa[i] ≠ sa[j] := by
    rw [List.Nodup, List.pairwise_iff_getElem] at hn
    exact hn i j hi hj hij
  rcases tri (gs s) sa[i] sa[j] h with h4 | h4 | h4
  · exact h4.lt
  · exact absurd h4 (not_alike hs ((hm _).1 (List.getElem_mem hi)) ((hm _).1 (List.getElem_mem hj)) hne hh)
  · exact absurd h4 (hp i j hi hj hij)

/-- How many symbols two endings have in common. -/
def Lcp (s : List Int) (a b m : Nat) : Prop := EqK (gs s) m a b ∧ gs s (a + m) ≠ gs s (b + m)
theorem Lcp.uniq {m m' : Nat} (h1 : Lcp s a b m) (h2 : Lcp s a b m') : m = m' := by
  rcases Nat.lt_trichotomy m m' with h | h | h
  · exact absurd (h2.1 m h) h1.2
  · exact h
  · exact absurd (h1.1 m' h) h2.2
theorem Lcp.ge {m m' : Nat} (h1 : Lcp s a b m) (h2 : EqK (gs s) m' a b) : m' ≤ m := by
  rcases Nat.lt_or_ge m m' with h | h
  · exact absurd (h2 m h) h1.2
  · exact h
end
end Go.Su
