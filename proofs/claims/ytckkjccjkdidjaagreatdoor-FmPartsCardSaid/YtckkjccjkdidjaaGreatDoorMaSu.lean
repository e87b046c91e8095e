/-
  Plain mathematics of endings, over no program: their order, by so many symbols and whole; ranks and their doubling; what neighbours have in common.
  Conditions: none; plain lemmas.
-/
/-
  What neighbours have in common, walked along the row (over no program).
-/
/-
  Plain mathematics of the program's own way, over no program: classes along an order, the order by what is behind, the placing by classes, places that come each once.
  Conditions: none; plain lemmas.
-/
/-
  Plain mathematics of rows turned, over no program: the Turn of a closed row, the way from an ending to the one ahead of it, that a Turn has one row, that a way that comes by all is one.
  Conditions: none; plain lemmas.
-/
/-
  Plain mathematics of a sort by merging that keeps what is alike as it stands: blocks of a width, and of twice the width. Over no program.
  Conditions: none; plain lemmas.
-/
/-
  Plain mathematics, over no program: each row has an order of its endings; what a row has that is turned, counted.
  Conditions: none; plain lemmas.
-/
/-
  Plain mathematics, over no program: the way from each ending to the next shorter one, along an order by symbols; a row that it makes is closed just if it is the one that was turned.
  Conditions: none; plain lemmas.
-/
/-
  Plain mathematics of searching from a pattern's end on, over no program: the endings that begin with a pattern lie side by side; where those lie that begin with one symbol more.
  Conditions: none; plain lemmas.
-/
/-
  Plain mathematics of the row of texts, over no program: where each text begins in it, that it is closed, where a pattern stands in it and in the texts.
  Conditions: none; plain lemmas.
-/
import Init
namespace Go.Su

/-- The symbol at a place; behind the end: -1. -/
def gs (s : List Int) (p : Nat) : Int := s.getD p (-1)
theorem gs_at {s : List Int} {p : Nat} {x : Int} (h : s[p]? = some x) : gs s p = x := by
  unfold gs
  rw [List.getD_eq_getElem?_getD, h]
  rfl
theorem gs_some {s : List Int} {p : Nat} (h : p < s.length) : s[p]? = some (gs s p) := by
  unfold gs
  rw [List.getD_eq_getElem?_getD, List.getElem?_eq_getElem h]
  rfl
theorem gs_out {s : List Int} {p : Nat} (h : s.length ≤ p) : gs s p = -1 := by
  unfold gs
  rw [List.getD_eq_getElem?_getD, List.getElem?_eq_none h]
  rfl
/-- No symbol is below 0. -/
def Pos (s : List Int) : Prop := ∀ x ∈ s, 0 ≤ x
theorem gs_pos {s : List Int} (hs : Pos s) {p : Nat} (h : p < s.length) : 0 ≤ gs s p := hs _ (List.mem_of_getElem? (gs_some h))

section
variable (g : Nat → Int)
/-- Alike in the first h symbols; ahead by them; ahead. -/
def EqK (h a b : Nat) : Prop := ∀ j, j < h → g (a + j) = g (b + j)
def LtK (h a b : Nat) : Prop := ∃ k, k < h ∧ EqK g k a b ∧ g (a + k) < g (b + k)
def Lt (a b : Nat) : Prop := ∃ k, EqK g k a b ∧ g (a + k) < g (b + k)
end

section
variable {g : Nat → Int} {h h' a b c : Nat}
theorem EqK.refl (h a : Nat) : EqK g h a a := fun _ _ => rfl
theorem EqK.symm (e : EqK g h a b) : EqK g h b a := fun j hj => (e j hj).symm
theorem EqK.trans (e : EqK g h a b) (f : EqK g h b c) : EqK g h a c := fun j hj => (e j hj).trans (f j hj)
theorem EqK.mono (e : EqK g h a b) (hh : h' ≤ h) : EqK g h' a b := fun j hj => e j (Nat.lt_of_lt_of_le hj hh)
theorem EqK.succ (e : EqK g h a b) (f : g (a + h) = g (b + h)) : EqK g (h + 1) a b := fun j hj => by
  rcases Nat.lt_or_ge j h with h1 | h1
  · exact e j h1
  · obtain rfl : j = h := by omega
    exact f
theorem EqK.add (e : EqK g h a b) (f : EqK g h' (a + h) (b + h)) : EqK g (h + h') a b := fun j hj => by
  rcases Nat.lt_or_ge j h with h1 | h1
  · exact e j h1
  · have := f (j - h) (by omega)
    rwa [show a + h + (j - h) = a + j by omega, show b + h + (j - h) = b + j by omega] at this
theorem EqK.tail (e : EqK g (h + h') a b) : EqK g h' (a + h) (b + h) := fun j hj => by
  have := e (h + j) (by omega)
  rwa [← Nat.add_assoc, ← Nat.add_assoc] at this
theorem LtK.lt (l : LtK g h a b) : Lt g a b := by
  obtain ⟨k, _, h1, h2⟩ := l
  exact ⟨k, h1, h2⟩
theorem LtK.mono (l : LtK g h a b) (hh : h ≤ h') : LtK g h' a b := by
  obtain ⟨k, h0, h1, h2⟩ := l
  exact ⟨k, by omega, h1, h2⟩
theorem Lt.trans (l : Lt g a b) (m : Lt g b c) : Lt g a c := by
  obtain ⟨k, h1, h2⟩ := l
  obtain ⟨q, h3, h4⟩ := m
  rcases Nat.lt_trichotomy k q with h5 | h5 | h5
  · exact ⟨k, h1.trans (h3.mono (by omega)), by rw [← h3 k h5]; exact h2⟩
  · subst h5
    exact ⟨k, h1.trans h3, by omega⟩
  · exact ⟨q, (h1.mono (by omega)).trans h3, by rw [h1 q h5]; exact h4⟩
theorem Lt.irrefl (l : Lt g a a) : False := by
  obtain ⟨k, _, h2⟩ := l
  omega
theorem Lt.asymm (l : Lt g a b) (m : Lt g b a) : False := (l.trans m).irrefl
theorem LtK.trans (l : LtK g h a b) (m : LtK g h b c) : LtK g h a c := by
  obtain ⟨k, h0, h1, h2⟩ := l
  obtain ⟨q, g0, h3, h4⟩ := m
  rcases Nat.lt_trichotomy k q with h5 | h5 | h5
  · exact ⟨k, h0, h1.trans (h3.mono (by omega)), by rw [← h3 k h5]; exact h2⟩
  · subst h5
    exact ⟨k, h0, h1.trans h3, by omega⟩
  · exact ⟨q, g0, (h1.mono (by omega)).trans h3, by rw [h1 q h5]; exact h4⟩
theorem LtK.asymm (l : LtK g h a b) (m : LtK g h b a) : False := l.lt.asymm m.lt
theorem LtK.not_eq (l : LtK g h a b) (e : EqK g h a b) : False := by
  obtain ⟨k, h0, _, h2⟩ := l
  rw [e k h0] at h2
  omega
theorem LtK.eq_right (l : LtK g h a b) (e : EqK g h b c) : LtK g h a c := by
  obtain ⟨k, h0, h1, h2⟩ := l
  exact ⟨k, h0, h1.trans (e.mono (by omega)), by rw [← e k h0]; exact h2⟩
theorem LtK.eq_left (e : EqK g h a b) (l : LtK g h b c) : LtK g h a c := by
  obtain ⟨k, h0, h1, h2⟩ := l
  exact ⟨k, h0, (e.mono (by omega)).trans h1, by rw [e k h0]; exact h2⟩
theorem tri (g : Nat → Int) (a b : Nat) : ∀ h, LtK g h a b ∨ EqK g h a b ∨ LtK g h b a
  | 0 => .inr (.inl fun _ hj => absurd hj (by omega))
  | h + 1 => by
    rcases tri g a b h with h1 | h1 | h1
    · exact .inl (h1.mono (by omega))
    · rcases Int.lt_trichotomy (g (a + h)) (g (b + h)) with h2 | h2 | h2
      · exact .inl ⟨h, by omega, h1, h2⟩
      · exact .inr (.inl (h1.succ h2))
      · exact .inr (.inr ⟨h, by omega, h1.symm, h2⟩)
    · exact .inr (.inr (h1.mono (by omega)))
/-- Twice as many. -/
theorem double : LtK g (h + h') a b ↔ LtK g h a b ∨ (EqK g h a b ∧ LtK g h' (a + h) (b + h)) := by
  constructor
  · rintro ⟨k, h0, h1, h2⟩
    rcases Nat.lt_or_ge k h with h3 | h3
    · exact .inl ⟨k, h3, h1, h2⟩
    · refine .inr ⟨h1.mono h3, k - h, by omega, ?_, ?_⟩
      · have h4 : EqK g (h + (k - h)) a b := h1.mono (by omega)
        exact h4.tail
      · rw [show a + h + (k - h) = a + k by omega, show b + h + (k - h) = b + k by omega]
        exact h2
  · rintro (h1 | ⟨h1, k, h2, h3, h4⟩)
    · exact h1.mono (by omega)
    · refine ⟨h + k, by omega, h1.add h3, ?_⟩
      rw [show a + (h + k) = a + h + k by omega, show b + (h + k) = b + h + k by omega]
      exact h4
/-- One that stands between two that are alike. -/
theorem sandwich (l : Lt g a b) (m : Lt g b c) (e : EqK g h a c) : EqK g h b c := by
  rcases tri g b c h with h1 | h1 | h1
  · rcases tri g a b h with h2 | h2 | h2
    · exact ((h2.trans h1).not_eq e).elim
    · exact h2.symm.trans e
    · exact (l.asymm h2.lt).elim
  · exact h1
  · exact (m.asymm h1.lt).elim
/-- What the next place has in common with the one ahead of it. -/
theorem kasai {k i p : Nat} {n : Nat} (hh : EqK g h k i) (h1 : 1 ≤ h) (l : Lt g k i) (hout : ∀ q, n ≤ q → g q < 0) (hin : ∀ q, q < n → 0 ≤ g q) (hi : i + 1 < n) (hp : Lt g p (i + 1)) (hm : ∀ q, q < n → Lt g q (i + 1) → q = p ∨ Lt g q p) : EqK g (h - 1) p (i + 1) := by
  rcases Nat.eq_zero_or_pos (h - 1) with h2 | h2
  · rw [h2]
    exact fun _ hj => absurd hj (by omega)
  · have e : EqK g (h - 1) (k + 1) (i + 1) := by
      have : EqK g (1 + (h - 1)) k i := hh.mono (by omega)
      exact this.tail
    have lt1 : Lt g (k + 1) (i + 1) := by
      obtain ⟨q, g1, g2⟩ := l
      have hq : h ≤ q := by
        rcases Nat.lt_or_ge q h with h3 | h3
        · rw [hh q h3] at g2
          omega
        · exact h3
      refine ⟨q - 1, ?_, ?_⟩
      · have : EqK g (1 + (q - 1)) k i := g1.mono (by omega)
        exact this.tail
      · rw [show k + 1 + (q - 1) = k + q by omega, show i + 1 + (q - 1) = i + q by omega]
        exact g2
    have hk : k + 1 < n := by
      rcases Nat.lt_or_ge (k + 1) n with h3 | h3
      · exact h3
      · have h4 := e 0 h2
        have h5 := hout (k + 1) h3
        have h6 := hin (i + 1) hi
        simp only [Nat.add_zero] at h4
        omega
    rcases hm (k + 1) hk lt1 with h3 | h3
    · rw [← h3]
      exact e
    · exact sandwich h3 hp e
end

section
variable {s : List Int} {a b : Nat}
/-- Two endings are not alike. -/
theorem not_alike (hs : Pos s) (ha : a < s.length) (hb : b < s.length) (hab : a ≠ b) {h : Nat} (hh : s.length ≤ h) : ¬ EqK (gs s) h a b := by
  have key : ∀ a b : Nat, a < b → b < s.length → ¬ EqK (gs s) h a b := by
    intro a b hab hb e
    have h1 := e (s.length - b) (by omega)
    rw [gs_out (p := b + (s.length - b)) (by omega)] at h1
    have h2 := gs_pos hs (p := a + (s.length - b)) (by omega)
    omega
  intro e
  rcases Nat.lt_or_ge a b with h1 | h1
  · exact key a b h1 hb e
  · exact key b a (by omega) ha e.symm
theorem lt_total (hs : Pos s) (ha : a < s.length) (hb : b < s.length) (hab : a ≠ b) : Lt (gs s) a b ∨ Lt (gs s) b a := by
  rcases tri (gs s) a b s.length with h1 | h1 | h1
  · exact .inl h1.lt
  · exact absurd h1 (not_alike hs ha hb hab (Nat.le_refl _))
  · exact .inr h1.lt

/-- The order of all endings. -/
structure IsSA (s : List Int) (sa : List Nat) : Prop where
  len : sa.length = s.length
  mem : ∀ x, x ∈ sa ↔ x < s.length
  ord : sa.Pairwise (Lt (gs s))
/-- Two orders of the same by what is asymmetric are one. -/
theorem pairwise_uniq {α : Type} {R : α → α → Prop} (hR : ∀ x y, R x y → R y x → False) : ∀ {l m : List α}, l.Pairwise R → m.Pairwise R → (∀ x, x ∈ l ↔ x ∈ m) → l = m
  | [], [], _, _, _ => rfl
  | [], y :: m, _, _, h => absurd ((h y).2 (List.mem_cons_self ..)) (by simp)
  | x :: l, [], _, _, h => absurd ((h x).1 (List.mem_cons_self ..)) (by simp)
  | x :: l, y :: m, hl, hm, h => by
    rw [List.pairwise_cons] at hl hm
    have hxy : x = y := by
      rcases List.mem_cons.1 ((h x).1 (List.mem_cons_self ..)) with h1 | h1
      · exact h1
      · rcases List.mem_cons.1 ((h y).2 (List.mem_cons_self ..)) with h2 | h2
        · exact h2.symm
        · exact (hR _ _ (hl.1 y h2) (hm.1 x h1)).elim
    subst hxy
    refine congrArg (x :: ·) (pairwise_uniq hR hl.2 hm.2 fun z => ?_)
    have hz := h z
    simp only [List.mem_cons] at hz
    constructor
    · intro h1
      rcases hz.1 (.inr h1) with h2 | h2
      · subst h2
        exact (hR _ _ (hl.1 z h1) (hl.1 z h1)).elim
      · exact h2
    · intro h1
      rcases hz.2 (.inr h1) with h2 | h2
      · subst h2
        exact (hR _ _ (hm.1 z h1) (hm.1 z h1)).elim
      · exact h2
theorem IsSA.uniq {sa sb : List Nat} (h : IsSA s sa) (k : IsSA s sb) : sa = sb :=
  pairwise_uniq (fun _ _ => Lt.asymm) h.ord k.ord fun x => (h.mem x).trans (k.mem x).symm

/-- Ranks by so many symbols. -/
structure Rk (s rank : List Int) (h : Nat) : Prop where
  len : rank.length = s.length
  pos : Pos rank
  ord : ∀ a b, a < s.length → b < s.length → (gs rank a < gs rank b ↔ LtK (gs s) h a b)
theorem rk_first (hs : Pos s) : Rk s s 1 := by
  refine ⟨rfl, hs, fun a b _ _ => ⟨fun h1 => ⟨0, by omega, fun _ hj => absurd hj (by omega), h1⟩, ?_⟩⟩
  rintro ⟨k, h0, _, h2⟩
  obtain rfl : k = 0 := by omega
  exact h2
theorem Rk.all {rank : List Int} {h : Nat} (r : Rk s rank h) (hs : Pos s) (h1 : 1 ≤ h) (a b : Nat) : gs rank a < gs rank b ↔ LtK (gs s) h a b := by
  rcases Nat.lt_or_ge a s.length with ha | ha <;> rcases Nat.lt_or_ge b s.length with hb | hb
  · exact r.ord a b ha hb
  · rw [gs_out (p := b) (by rw [r.len]; exact hb)]
    have h2 := gs_pos r.pos (p := a) (by rw [r.len]; exact ha)
    refine ⟨fun h3 => by omega, ?_⟩
    rintro ⟨k, _, h4, h5⟩
    rw [gs_out (p := b + k) (by omega)] at h5
    have h6 : ∀ p, -1 ≤ gs s p := fun p => by
      rcases Nat.lt_or_ge p s.length with h7 | h7
      · have := gs_pos hs h7
        omega
      · rw [gs_out h7]
        omega
    have := h6 (a + k)
    omega
  · rw [gs_out (p := a) (by rw [r.len]; exact ha)]
    have h2 := gs_pos r.pos (p := b) (by rw [r.len]; exact hb)
    refine ⟨fun _ => ⟨0, by omega, fun _ hj => absurd hj (by omega), ?_⟩, fun _ => by omega⟩
    rw [Nat.add_zero, Nat.add_zero, gs_out ha]
    have := gs_pos hs hb
    omega
  · rw [gs_out (p := a) (by rw [r.len]; exact ha), gs_out (p := b) (by rw [r.len]; exact hb)]
    refine ⟨fun h3 => by omega, ?_⟩
    rintro ⟨k, _, _, h5⟩
    rw [gs_out (p := a + k) (by omega), gs_out (p := b + k) (by omega)] at h5
    omega
theorem Rk.eq {rank : List Int} {h : Nat} (r : Rk s rank h) (hs : Pos s) (h1 : 1 ≤ h) (a b : Nat) : gs rank a = gs rank b ↔ EqK (gs s) h a b := by
  have g1 := r.all hs h1 a b
  have g2 := r.all hs h1 b a
  constructor
  · intro e
    rcases tri (gs s) a b h with h2 | h2 | h2
    · have := g1.2 h2
      omega
    · exact h2
    · have := g2.2 h2
      omega
  · intro e
    rcases Int.lt_trichotomy (gs rank a) (gs rank b) with h2 | h2 | h2
    · exact ((g1.1 h2).not_eq e).elim
    · exact h2
    · exact ((g2.1 h2).not_eq e.symm).elim
/-- Two ranks tell twice as many symbols. -/
theorem Rk.twice {rank : List Int} {h : Nat} (r : Rk s rank h) (hs : Pos s) (h1 : 1 ≤ h) (a b : Nat) :
    (gs rank a < gs rank b ∨ (gs rank a = gs rank b ∧ gs rank (a + h) < gs rank (b + h))) ↔ LtK (gs s) (h + h) a b := by
  rw [double, r.all hs h1, r.eq hs h1, r.all hs h1]

/-- Ranks laid along an order: the first 0, each next one more if it is ahead of. -/
structure Along (s : List Int) (sa : List Nat) (h : Nat) (r : List Int) : Prop where
  first : ∀ x, sa[0]? = some x → gs r x = 0
  next : ∀ i x y, sa[i]? = some x → sa[i + 1]? = some y → (LtK (gs s) h x y → gs r y = gs r x + 1) ∧ (¬ LtK (gs s) h x y → gs r y = gs r x)
variable {sa : List Nat} {r : List Int} {h : Nat}
theorem Along.step (al : Along s sa h r) (hp : sa.Pairwise fun x y => ¬ LtK (gs s) h y x) {i j x : Nat} (hi : sa[i]? = some x) : ∀ {y : Nat}, i ≤ j → sa[j]? = some y → gs r x ≤ gs r y ∧ gs r y ≤ gs r x + (j - i : Nat) ∧ (gs r x = gs r y ↔ EqK (gs s) h x y) := by
  induction j with
  | zero =>
    intro y hij hj
    obtain rfl : i = 0 := by omega
    obtain rfl : x = y := Option.some.inj (hi.symm.trans hj)
    exact ⟨Int.le_refl _, by omega, fun _ => EqK.refl _ _, fun _ => rfl⟩
  | succ j ih =>
    intro y hij hj
    rcases Nat.lt_or_ge i (j + 1) with h1 | h1
    · obtain ⟨hjl, _⟩ := List.getElem?_eq_some_iff.1 hj
      have hz : sa[j]? = some (sa[j]'(by omega)) := List.getElem?_eq_getElem _
      generalize sa[j]'(by omega) = z at hz
      obtain ⟨g1, g2, g3⟩ := ih (by omega) hz
      obtain ⟨n1, n2⟩ := al.next j z y hz hj
      have hzy : ¬ LtK (gs s) h y z := by
        rw [List.pairwise_iff_getElem] at hp
        obtain ⟨e1, e2⟩ := List.getElem?_eq_some_iff.1 hz
        obtain ⟨e3, e4⟩ := List.getElem?_eq_some_iff.1 hj
        have := hp j (j + 1) e1 e3 (by omega)
        rwa [e2, e4] at this
      by_cases hlt : LtK (gs s) h z y
      · have e := n1 hlt
        refine ⟨by omega, by omega, fun h2 => by omega, fun h2 => ?_⟩
        have hxz : ¬ LtK (gs s) h x z := fun h3 => (h3.trans hlt).not_eq h2
        rcases tri (gs s) x z h with h4 | h4 | h4
        · exact absurd h4 hxz
        · exact (hlt.not_eq (h4.symm.trans h2)).elim
        · -- y is alike x, z ahead of y, so z ahead of x: but x stands ahead of z
          have h5 : ¬ LtK (gs s) h z x := by
            rw [List.pairwise_iff_getElem] at hp
            obtain ⟨e1, e2⟩ := List.getElem?_eq_some_iff.1 hi
            obtain ⟨e3, e4⟩ := List.getElem?_eq_some_iff.1 hz
            rcases Nat.lt_or_ge i j with h6 | h6
            · have := hp i j e1 e3 h6
              rwa [e2, e4] at this
            · have h7 : i = j := by omega
              subst h7
              obtain rfl : x = z := Option.some.inj (hi.symm.trans hz)
              exact fun h8 => h8.asymm h8
          exact absurd h4 h5
      · have e := n2 hlt
        have hzy2 : EqK (gs s) h z y := by
          rcases tri (gs s) z y h with h4 | h4 | h4
          · exact absurd h4 hlt
          · exact h4
          · exact absurd h4 hzy
        refine ⟨by omega, by omega, fun h2 => (g3.1 (by omega)).trans hzy2, fun h2 => ?_⟩
        have := g3.2 (h2.trans hzy2.symm)
        omega
    · obtain rfl : i = j + 1 := by omega
      obtain rfl : x = y := Option.some.inj (hi.symm.trans hj)
      exact ⟨Int.le_refl _, by omega, fun _ => EqK.refl _ _, fun _ => rfl⟩
theorem Along.le (al : Along s sa h r) (hp : sa.Pairwise fun x y => ¬ LtK (gs s) h y x) {j y : Nat} (hj : sa[j]? = some y) : 0 ≤ gs r y ∧ gs r y ≤ j := by
  obtain ⟨hjl, _⟩ := List.getElem?_eq_some_iff.1 hj
  have h0 : sa[0]? = some (sa[0]'(by omega)) := List.getElem?_eq_getElem _
  obtain ⟨g1, g2, _⟩ := al.step hp h0 (Nat.zero_le j) hj
  have := al.first _ h0
  omega
/-- They are the ranks. -/
theorem Along.rk (al : Along s sa h r) (hm : ∀ x, x ∈ sa ↔ x < s.length) (hp : sa.Pairwise fun x y => ¬ LtK (gs s) h y x) (hr : r.length = s.length) : Rk s r h := by
  have at_ : ∀ x, x < s.length → ∃ i, sa[i]? = some x := fun x hx => by
    obtain ⟨i, h1, h2⟩ := List.getElem_of_mem ((hm x).2 hx)
    exact ⟨i, by rw [List.getElem?_eq_getElem h1, h2]⟩
  refine ⟨hr, fun x hx => ?_, fun a b ha hb => ?_⟩
  · obtain ⟨p, h1, h2⟩ := List.getElem_of_mem hx
    obtain ⟨i, hi⟩ := at_ p (by omega)
    have h3 := (al.le hp hi).1
    have h4 : gs r p = x := gs_at (by rw [List.getElem?_eq_getElem h1, h2])
    omega
  · obtain ⟨i, hi⟩ := at_ a ha
    obtain ⟨j, hj⟩ := at_ b hb
    have notlt : ∀ {i j x y : Nat}, sa[i]? = some x → sa[j]? = some y → i ≤ j → ¬ LtK (gs s) h y x := by
      intro i j x y hi hj hij
      rw [List.pairwise_iff_getElem] at hp
      obtain ⟨e1, e2⟩ := List.getElem?_eq_some_iff.1 hi
      obtain ⟨e3, e4⟩ := List.getElem?_eq_some_iff.1 hj
      rcases Nat.lt_or_ge i j with h6 | h6
      · have := hp i j e1 e3 h6
        rwa [e2, e4] at this
      · have h7 : i = j := by omega
        subst h7
        obtain rfl : x = y := Option.some.inj (hi.symm.trans hj)
        exact fun h8 => h8.asymm h8
    rcases Nat.le_total i j with hij | hij
    · obtain ⟨g1, _, g3⟩ := al.step hp hi hij hj
      constructor
      · intro h1
        rcases tri (gs s) a b h with h4 | h4 | h4
        · exact h4
        · have := g3.2 h4
          omega
        · exact absurd h4 (notlt hi hj hij)
      · intro h1
        have h2 : gs r a ≠ gs r b := fun e => h1.not_eq (g3.1 e)
        omega
    · obtain ⟨g1, _, _⟩ := al.step hp hj hij hi
      exact ⟨fun h1 => by omega, fun h1 => absurd h1 (notlt hj hi hij)⟩
/-- The last one's rank is the greatest that there can be: none are alike. -/
theorem Along.strict (al : Along s sa h r) (hp : sa.Pairwise fun x y => ¬ LtK (gs s) h y x) {z : Nat} (hz : sa[sa.length - 1]? = some z) (he : gs r z = (sa.length : Int) - 1) : sa.Pairwise (Lt (gs s)) := by
  rw [List.pairwise_iff_getElem]
  intro i j hi hj hij
  have e1 : sa[i]? = some sa[i] := List.getElem?_eq_getElem hi
  have e2 : sa[j]? = some sa[j] := List.getElem?_eq_getElem hj
  obtain ⟨g1, g2, g3⟩ := al.step hp e1 (by omega) e2
  obtain ⟨k1, k2, _⟩ := al.step hp e2 (show j ≤ sa.length - 1 by omega) hz
  have l1 := (al.le hp e1).2
  rcases tri (gs s) sa[i] sa[j] h with h4 | h4 | h4
  · exact h4.lt
  · have := g3.2 h4
    omega
  · rw [List.pairwise_iff_getElem] at hp
    exact absurd h4 (hp i j hi hj hij)
/-- As many symbols as there are tell all. -/
theorem strict_all (hs : Pos s) (hn : sa.Nodup) (hm : ∀ x, x ∈ sa ↔ x < s.length) (hp : sa.Pairwise fun x y => ¬ LtK (gs s) h y x) (hh : s.length ≤ h) : sa.Pairwise (Lt (gs s)) := by
  rw [List.pairwise_iff_getElem] at hp ⊢
  intro i j hi hj hij
  have hne : sa[i] ≠ sa[j] := by
    rw [List.Nodup, List.pairwise_iff_getElem] at hn
    exact hn i j hi hj hij
  rcases tri (gs s) sa[i] sa[j] h with h4 | h4 | h4
  · exact h4.lt
  · exact absurd h4 (not_alike hs ((hm _).1 (List.getElem_mem hi)) ((hm _).1 (List.getElem_mem hj)) hne hh)
  · exact absurd h4 (hp i j hi hj hij)

/-- How many symbols two endings have in common. -/
def Lcp (s : List Int) (a b m : Nat) : Prop := EqK (gs s) m a b ∧ gs s (a + m) ≠ gs s (b + m)
theorem Lcp.uniq {m m' : Nat} (h1 : Lcp s a b m) (h2 : Lcp s a b m') : m = m' := by
  rcases Nat.lt_trichotomy m m' with h | h | h
  · exact absurd (h2.1 m h) h1.2
  · exact h
  · exact absurd (h1.1 m' h) h2.2
theorem Lcp.ge {m m' : Nat} (h1 : Lcp s a b m) (h2 : EqK (gs s) m' a b) : m' ≤ m := by
  rcases Nat.lt_or_ge m m' with h | h
  · exact absurd (h2 m h) h1.2
  · exact h
end
end Go.Su

namespace Go.Su

theorem eqk_in {s : List Int} (hs : Pos s) {a b h : Nat} (ha : a < s.length) (hb : b < s.length) (hab : a ≠ b) (e : EqK (gs s) h a b) : a + h ≤ s.length ∧ b + h ≤ s.length := by
  have one : ∀ {a b : Nat}, a < s.length → b < s.length → EqK (gs s) h a b → s.length < a + h → s.length ≤ b + (s.length - a) := by
    intro a b ha _ e hgt
    have h1 := e (s.length - a) (by omega)
    rw [gs_out (p := a + (s.length - a)) (by omega)] at h1
    rcases Nat.lt_or_ge (b + (s.length - a)) s.length with h2 | h2
    · have := gs_pos hs h2
      omega
    · exact h2
  refine ⟨?_, ?_⟩
  · rcases Nat.lt_or_ge s.length (a + h) with h1 | h1
    · have h2 := one ha hb e h1
      have h3 := one hb ha e.symm (by omega)
      omega
    · exact h1
  · rcases Nat.lt_or_ge s.length (b + h) with h1 | h1
    · have h2 := one hb ha e.symm h1
      have h3 := one ha hb e (by omega)
      omega
    · exact h1
/-- Where the walk ends. -/
theorem lcp_end {s : List Int} (hs : Pos s) {k i h : Nat} (hk : k < s.length) (hi : i < s.length) (hki : k ≠ i) (e : EqK (gs s) h k i) (hx : s.length ≤ i + h ∨ s.length ≤ k + h ∨ gs s (i + h) ≠ gs s (k + h)) : Lcp s k i h := by
  refine ⟨e, ?_⟩
  obtain ⟨h1, h2⟩ := eqk_in hs hk hi hki e
  rcases hx with h3 | h3 | h3
  · rw [gs_out h3]
    have := gs_pos hs (p := k + h) (by omega)
    omega
  · rw [gs_out h3]
    have := gs_pos hs (p := i + h) (by omega)
    omega
  · exact fun he => h3 he.symm

/-- A row of what neighbours have in common. -/
structure Cmn (s : List Int) (L hs : List Nat) : Prop where
  len : hs.length = s.length
  zero : ∀ x, hs[0]? = some x → x = 0
  all : ∀ j x y, L[j]? = some x → L[j + 1]? = some y → ∃ m, hs[j + 1]? = some m ∧ Lcp s x y m
theorem Cmn.uniq {s : List Int} {L hs ht : List Nat} (hL : L.length = s.length) (h : Cmn s L hs) (k : Cmn s L ht) : hs = ht := by
  apply List.ext_getElem?
  intro j
  cases j with
  | zero =>
    cases e1 : hs[0]? with
    | none =>
      have := List.getElem?_eq_none_iff.1 e1
      rw [List.getElem?_eq_none (by have := h.len; have := k.len; omega)]
    | some x =>
      have h1 := h.zero x e1
      obtain ⟨h2, _⟩ := List.getElem?_eq_some_iff.1 e1
      have h3 : 0 < ht.length := by have := h.len; have := k.len; omega
      rw [List.getElem?_eq_getElem h3, k.zero _ (List.getElem?_eq_getElem h3), h1]
  | succ j =>
    rcases Nat.lt_or_ge (j + 1) s.length with h1 | h1
    · obtain ⟨m, hm, l⟩ := h.all j _ _ (List.getElem?_eq_getElem (by omega)) (List.getElem?_eq_getElem (by omega))
      obtain ⟨m', hm', l'⟩ := k.all j _ _ (List.getElem?_eq_getElem (by omega)) (List.getElem?_eq_getElem (by omega))
      rw [hm, hm', l.uniq l']
    · rw [List.getElem?_eq_none (by rw [h.len]; exact h1), List.getElem?_eq_none (by rw [k.len]; exact h1)]
/-- .. under way: of the places before i, and what is carried to i. -/
structure KInv (s : List Int) (L hs : List Nat) (i h : Nat) : Prop where
  len : hs.length = s.length
  zero : ∀ x, hs[0]? = some x → x = 0
  done : ∀ j x y, L[j]? = some x → L[j + 1]? = some y → y < i → ∃ m, hs[j + 1]? = some m ∧ Lcp s x y m
  carry : ∀ j x, L[j]? = some x → L[j + 1]? = some i → EqK (gs s) h x i
theorem at_one {L : List Nat} (hn : L.Nodup) {i j x : Nat} (hi : L[i]? = some x) (hj : L[j]? = some x) : i = j := by
  obtain ⟨h1, h2⟩ := List.getElem?_eq_some_iff.1 hi
  obtain ⟨h3, h4⟩ := List.getElem?_eq_some_iff.1 hj
  rw [List.Nodup, List.pairwise_iff_getElem] at hn
  rcases Nat.lt_trichotomy i j with h | h | h
  · exact absurd (h2.trans h4.symm) (hn i j h1 h3 h)
  · exact h
  · exact absurd (h4.trans h2.symm) (hn j i h3 h1 h)
theorem IsSA.nodup {s : List Int} {L : List Nat} (h : IsSA s L) : L.Nodup := h.ord.imp fun {a b} l e => by subst e; exact l.irrefl
theorem IsSA.lt {s : List Int} {L : List Nat} (h : IsSA s L) {i j x y : Nat} (hij : i < j) (hi : L[i]? = some x) (hj : L[j]? = some y) : Lt (gs s) x y := by
  obtain ⟨h1, h2⟩ := List.getElem?_eq_some_iff.1 hi
  obtain ⟨h3, h4⟩ := List.getElem?_eq_some_iff.1 hj
  have := (List.pairwise_iff_getElem.1 h.ord) i j h1 h3 hij
  rwa [h2, h4] at this
theorem IsSA.find {s : List Int} {L : List Nat} (h : IsSA s L) {x : Nat} (hx : x < s.length) : ∃ j : Nat, L[j]? = some x := by
  obtain ⟨j, hj, e⟩ := List.getElem_of_mem ((h.mem x).2 hx)
  exact ⟨j, by rw [List.getElem?_eq_getElem hj, e]⟩
theorem kinv_start {s : List Int} {L : List Nat} : KInv s L (List.replicate s.length 0) 0 0 := by
  refine ⟨List.length_replicate .., fun x hx => ?_, fun _ _ _ _ _ h => absurd h (by omega), fun _ _ _ _ q hq => absurd hq (by omega)⟩
  obtain ⟨h1, h2⟩ := List.getElem?_eq_some_iff.1 hx
  rw [← h2, List.getElem_replicate]
theorem KInv.first {s : List Int} {L hs : List Nat} {i h : Nat} (a : KInv s L hs i h) (hSA : IsSA s L) (hi : L[0]? = some i) : KInv s L hs (i + 1) 0 := by
  refine ⟨a.len, a.zero, fun j x y hx hy hlt => ?_, fun _ _ _ _ q hq => absurd hq (by omega)⟩
  by_cases e : y = i
  · subst e
    have := at_one hSA.nodup hi hy
    omega
  · exact a.done j x y hx hy (by omega)
theorem KInv.next {s : List Int} {L hs : List Nat} {i h j k m : Nat} (a : KInv s L hs i h) (hp : Pos s) (hSA : IsSA s L) (hk : L[j]? = some k) (hi : L[j + 1]? = some i) (hm : Lcp s k i m) : KInv s L (hs.set (j + 1) m) (i + 1) (m - 1) := by
  have hn := hSA.nodup
  have hj : j + 1 < hs.length := by
    obtain ⟨h1, _⟩ := List.getElem?_eq_some_iff.1 hi
    have := hSA.len
    have := a.len
    omega
  refine ⟨by rw [List.length_set]; exact a.len, fun x hx => ?_, fun j' x y hx hy hlt => ?_, fun j' x hx hy => ?_⟩
  · rw [List.getElem?_set_ne (by omega)] at hx
    exact a.zero x hx
  · by_cases e : y = i
    · subst e
      have := at_one hn hi hy
      obtain rfl : j' = j := by omega
      obtain rfl : x = k := Option.some.inj (hx.symm.trans hk)
      exact ⟨m, List.getElem?_set_self hj, hm⟩
    · have hne : j + 1 ≠ j' + 1 := by
        intro e2
        rw [← e2, hi] at hy
        exact e (Option.some.inj hy).symm
      rw [List.getElem?_set_ne hne]
      exact a.done j' x y hx hy (by omega)
  · rcases Nat.eq_zero_or_pos m with h0 | h0
    · subst h0
      exact fun q hq => absurd hq (by omega)
    · have hin : i + 1 < s.length := (hSA.mem _).1 (List.mem_of_getElem? hy)
      refine kasai hm.1 h0 (hSA.lt (by omega) hk hi) (n := s.length) (fun q hq => by rw [gs_out hq]; decide) (fun q hq => gs_pos hp hq) hin (hSA.lt (by omega) hx hy) fun q hq hlt => ?_
      obtain ⟨jq, hjq⟩ := hSA.find hq
      rcases Nat.lt_trichotomy jq j' with h1 | h1 | h1
      · exact .inr (hSA.lt h1 hjq hx)
      · subst h1
        exact .inl (Option.some.inj (hjq.symm.trans hx))
      · rcases Nat.lt_or_ge (j' + 1) jq with h2 | h2
        · exact absurd (hlt.trans (hSA.lt h2 hy hjq)) (fun h => h.irrefl)
        · obtain rfl : jq = j' + 1 := by omega
          obtain rfl : q = i + 1 := Option.some.inj (hjq.symm.trans hy)
          exact absurd hlt (fun h => h.irrefl)
theorem KInv.all {s : List Int} {L hs : List Nat} {i h : Nat} (a : KInv s L hs i h) (hSA : IsSA s L) (hi : s.length ≤ i) : Cmn s L hs :=
  ⟨a.len, a.zero, fun j x y hx hy => a.done j x y hx hy (by have := (hSA.mem y).1 (List.mem_of_getElem? hy); omega)⟩
end Go.Su

namespace Go.Su

/-- A plain row's number; 0 beyond. -/
def gn (c : List Nat) (p : Nat) : Nat := c.getD p 0
theorem gn_at {c : List Nat} {p x : Nat} (h : c[p]? = some x) : gn c p = x := by
  unfold gn
  rw [List.getD_eq_getElem?_getD, h]
  rfl
theorem gn_some {c : List Nat} {p : Nat} (h : p < c.length) : c[p]? = some (gn c p) := by
  unfold gn
  rw [List.getD_eq_getElem?_getD, List.getElem?_eq_getElem h]
  rfl
theorem gn_set {c : List Nat} {p q v : Nat} (hp : p < c.length) : gn (c.set p v) q = if p = q then v else gn c q := by
  unfold gn
  rw [List.getD_eq_getElem?_getD, List.getD_eq_getElem?_getD]
  by_cases h : p = q
  · subst h
    rw [if_pos rfl, List.getElem?_set_self hp]
    rfl
  · rw [if_neg h, List.getElem?_set_ne h]
/-- A row as integers. -/
def zs (c : List Nat) : List Int := c.map fun x : Nat => (x : Int)
theorem zs_len (c : List Nat) : (zs c).length = c.length := List.length_map ..
theorem zs_gs {c : List Nat} {p : Nat} (h : p < c.length) : gs (zs c) p = (gn c p : Int) := gs_at (by unfold zs; rw [List.getElem?_map, gn_some h]; rfl)

/-- All of one row stand in another one that is no longer: it is that row, in some order. -/
theorem sub_perm : ∀ (A M : List Nat), A.Nodup → (∀ x ∈ A, x ∈ M) → M.length ≤ A.length → M.Perm A
  | [], M, _, _, hl => by
    have h0 : M.length ≤ 0 := hl
    have : M = [] := List.eq_nil_of_length_eq_zero (by omega)
    rw [this]
  | a :: A, M, hn, hm, hl => by
    rw [List.nodup_cons] at hn
    have ha : a ∈ M := hm a (List.mem_cons_self ..)
    have hp := List.perm_cons_erase ha
    have hle := hp.length_eq
    rw [List.length_cons] at hle hl
    refine hp.trans (List.Perm.cons a (sub_perm A (M.erase a) hn.2 (fun x hx => ?_) (by omega)))
    have hne : x ≠ a := fun e => hn.1 (e ▸ hx)
    exact (List.mem_erase_of_ne hne).2 (hm x (List.mem_cons_of_mem _ hx))
theorem range_all {n : Nat} {M : List Nat} (hm : ∀ x, x < n → x ∈ M) (hl : M.length ≤ n) : M.Perm (List.range n) :=
  sub_perm _ M List.nodup_range (fun x hx => hm x (List.mem_range.1 hx)) (by rw [List.length_range]; exact hl)
theorem range_of {n : Nat} {M : List Nat} (hn : M.Nodup) (hm : ∀ x ∈ M, x < n) (hl : n ≤ M.length) : M.Perm (List.range n) :=
  (sub_perm M (List.range n) hn (fun x hx => List.mem_range.2 (hm x hx)) (by rw [List.length_range]; exact hl)).symm

/-- Classes under way, along the first j of an order: what is the same has the class of the one ahead of it, else its own place. -/
structure ClsUp (E : Nat → Nat → Prop) (n : Nat) (L : List Nat) (j : Nat) (c : List Nat) (a : Bool) : Prop where
  len : c.length = n
  zero : 1 ≤ j → ∀ x, L[0]? = some x → gn c x = 0
  same : ∀ i x y, i + 1 < j → L[i]? = some x → L[i + 1]? = some y → E x y → gn c y = gn c x
  diff : ∀ i x y, i + 1 < j → L[i]? = some x → L[i + 1]? = some y → ¬ E x y → gn c y = i + 1
  yes : a = true → ∀ i x y, i + 1 < j → L[i]? = some x → L[i + 1]? = some y → ¬ E x y
  no : a = false → ∃ i x y, L[i]? = some x ∧ L[i + 1]? = some y ∧ E x y
section
variable {E : Nat → Nat → Prop} {n : Nat} {L c : List Nat} {j x y : Nat} {a : Bool}
theorem clsUp_start : ClsUp E n L 0 (List.replicate n 0) true :=
  ⟨List.length_replicate .., fun h => absurd h (by omega), fun _ _ _ h => absurd h (by omega), fun _ _ _ h => absurd h (by omega), fun _ _ _ _ h => absurd h (by omega), fun h => by cases h⟩
theorem ClsUp.first (h : ClsUp E n L 0 c a) (hL : ∀ x ∈ L, x < n) (hx : L[0]? = some x) : ClsUp E n L 1 (c.set x 0) a := by
  have hxl : x < c.length := by rw [h.len]; exact hL x (List.mem_of_getElem? hx)
  refine ⟨by rw [List.length_set]; exact h.len, fun _ z hz => ?_, fun _ _ _ h => absurd h (by omega), fun _ _ _ h => absurd h (by omega), fun _ _ _ _ h => absurd h (by omega), h.no⟩
  obtain rfl : z = x := Option.some.inj (hz.symm.trans hx)
  rw [gn_set hxl, if_pos rfl]
theorem ClsUp.more (h : ClsUp E n L (j + 1) c a) (hn : L.Nodup) (hL : ∀ x ∈ L, x < n) (hx : L[j]? = some x) (hy : L[j + 1]? = some y) {v : Nat} {a' : Bool} (h1 : E x y → v = gn c x ∧ a' = false) (h2 : ¬ E x y → v = j + 1 ∧ a' = a) : ClsUp E n L (j + 2) (c.set y v) a' := by
  have hyl : y < c.length := by rw [h.len]; exact hL y (List.mem_of_getElem? hy)
  have ne : ∀ {i z}, i < j + 1 → L[i]? = some z → y ≠ z := fun {i z} hi hz e => by
    subst e
    have := at_one hn hy hz
    omega
  refine ⟨by rw [List.length_set]; exact h.len, fun _ z hz => ?_, fun i z u hi hz hu he => ?_, fun i z u hi hz hu he => ?_, fun ha i z u hi hz hu => ?_, fun ha => ?_⟩
  · rw [gn_set hyl, if_neg (ne (by omega) hz)]
    exact h.zero (by omega) z hz
  · rw [gn_set hyl, gn_set hyl, if_neg (ne (by omega) hz)]
    by_cases e : i = j
    · subst e
      obtain rfl : u = y := Option.some.inj (hu.symm.trans hy)
      obtain rfl : z = x := Option.some.inj (hz.symm.trans hx)
      rw [if_pos rfl]
      exact (h1 he).1
    · rw [if_neg (ne (by omega) hu)]
      exact h.same i z u (by omega) hz hu he
  · rw [gn_set hyl]
    by_cases e : i = j
    · subst e
      obtain rfl : u = y := Option.some.inj (hu.symm.trans hy)
      obtain rfl : z = x := Option.some.inj (hz.symm.trans hx)
      rw [if_pos rfl]
      exact (h2 he).1
    · rw [if_neg (ne (by omega) hu)]
      exact h.diff i z u (by omega) hz hu he
  · have hne : ¬ E x y := fun he => by rw [(h1 he).2] at ha; cases ha
    by_cases e : i = j
    · subst e
      obtain rfl : u = y := Option.some.inj (hu.symm.trans hy)
      obtain rfl : z = x := Option.some.inj (hz.symm.trans hx)
      exact hne
    · rw [(h2 hne).2] at ha
      exact h.yes ha i z u (by omega) hz hu
  · by_cases he : E x y
    · exact ⟨j, x, y, hx, hy, he⟩
    · rw [(h2 he).2] at ha
      exact h.no ha
end

/-- Classes along a whole order. -/
structure Cls (E : Nat → Nat → Prop) (n : Nat) (L c : List Nat) : Prop where
  len : c.length = n
  zero : ∀ x, L[0]? = some x → gn c x = 0
  same : ∀ i x y, L[i]? = some x → L[i + 1]? = some y → E x y → gn c y = gn c x
  diff : ∀ i x y, L[i]? = some x → L[i + 1]? = some y → ¬ E x y → gn c y = i + 1
section
variable {E : Nat → Nat → Prop} {n : Nat} {L c : List Nat} {a : Bool}
theorem ClsUp.all (h : ClsUp E n L L.length c a) : Cls E n L c := by
  have key : ∀ {i y}, L[i + 1]? = some y → i + 1 < L.length := fun {i y} hy => (List.getElem?_eq_some_iff.1 hy).1
  refine ⟨h.len, fun x hx => h.zero ?_ x hx, fun i x y hx hy he => h.same i x y (key hy) hx hy he, fun i x y hx hy he => h.diff i x y (key hy) hx hy he⟩
  obtain ⟨h1, _⟩ := List.getElem?_eq_some_iff.1 hx
  omega
theorem ClsUp.yesAll (h : ClsUp E n L L.length c true) : ∀ i x y, L[i]? = some x → L[i + 1]? = some y → ¬ E x y :=
  fun i x y hx hy => h.yes rfl i x y (List.getElem?_eq_some_iff.1 hy).1 hx hy
theorem Cls.congr {E' : Nat → Nat → Prop} (h : Cls E n L c) (he : ∀ i x y, L[i]? = some x → L[i + 1]? = some y → (E x y ↔ E' x y)) : Cls E' n L c :=
  ⟨h.len, h.zero, fun i x y hx hy e => h.same i x y hx hy ((he i x y hx hy).2 e), fun i x y hx hy e => h.diff i x y hx hy (fun e' => e ((he i x y hx hy).1 e'))⟩
end

/-- An order of all endings, by so many symbols. -/
structure Ord (s : List Int) (L : List Nat) (h : Nat) : Prop where
  mem : ∀ x, x ∈ L ↔ x < s.length
  nodup : L.Nodup
  ord : L.Pairwise fun x y => ¬ LtK (gs s) h y x
section
variable {s : List Int} {L c : List Nat} {h : Nat}
theorem Ord.perm (o : Ord s L h) : L.Perm (List.range s.length) := by
  rw [List.perm_ext_iff_of_nodup o.nodup List.nodup_range]
  intro a
  rw [o.mem, List.mem_range]
theorem Ord.len (o : Ord s L h) : L.length = s.length := by rw [o.perm.length_eq, List.length_range]
theorem Ord.lt (o : Ord s L h) {i x : Nat} (hx : L[i]? = some x) : x < s.length := (o.mem x).1 (List.mem_of_getElem? hx)
theorem Ord.find (o : Ord s L h) {x : Nat} (hx : x < s.length) : ∃ i : Nat, L[i]? = some x := by
  obtain ⟨i, h1, h2⟩ := List.getElem_of_mem ((o.mem x).2 hx)
  exact ⟨i, by rw [List.getElem?_eq_getElem h1, h2]⟩
theorem Ord.not (o : Ord s L h) {i j x y : Nat} (hi : L[i]? = some x) (hj : L[j]? = some y) (hij : i ≤ j) : ¬ LtK (gs s) h y x := by
  have hp := o.ord
  rw [List.pairwise_iff_getElem] at hp
  obtain ⟨e1, e2⟩ := List.getElem?_eq_some_iff.1 hi
  obtain ⟨e3, e4⟩ := List.getElem?_eq_some_iff.1 hj
  rcases Nat.lt_or_ge i j with h6 | h6
  · have := hp i j e1 e3 h6
    rwa [e2, e4] at this
  · have h7 : i = j := by omega
    subst h7
    obtain rfl : x = y := Option.some.inj (hi.symm.trans hj)
    exact fun h8 => h8.asymm h8
abbrev CK (s : List Int) (L : List Nat) (h : Nat) (c : List Nat) : Prop := Cls (EqK (gs s) h) s.length L c
theorem Cls.le (k : CK s L h c) : ∀ {j y : Nat}, L[j]? = some y → gn c y ≤ j ∧ ∃ z, L[gn c y]? = some z ∧ EqK (gs s) h z y
  | 0, y, hy => by
    rw [k.zero y hy]
    exact ⟨Nat.le_refl _, y, hy, EqK.refl _ _⟩
  | j + 1, y, hy => by
    obtain ⟨h1, _⟩ := List.getElem?_eq_some_iff.1 hy
    have hx : L[j]? = some (L[j]'(by omega)) := List.getElem?_eq_getElem _
    generalize L[j]'(by omega) = x at hx
    obtain ⟨g1, z, g2, g3⟩ := Cls.le k hx
    by_cases e : EqK (gs s) h x y
    · rw [k.same j x y hx hy e]
      exact ⟨by omega, z, g2, g3.trans e⟩
    · rw [k.diff j x y hx hy e]
      exact ⟨Nat.le_refl _, y, hy, EqK.refl _ _⟩
theorem Cls.far (k : CK s L h c) {i x : Nat} (hx : L[i]? = some x) : ∀ {j y : Nat}, i ≤ j → L[j]? = some y → ¬ EqK (gs s) h x y → i < gn c y
  | 0, y, hij, hy, hne => by
    obtain rfl : i = 0 := by omega
    obtain rfl : x = y := Option.some.inj (hx.symm.trans hy)
    exact absurd (EqK.refl _ _) hne
  | j + 1, y, hij, hy, hne => by
    rcases Nat.lt_or_ge j i with h0 | h0
    · obtain rfl : i = j + 1 := by omega
      obtain rfl : x = y := Option.some.inj (hx.symm.trans hy)
      exact absurd (EqK.refl _ _) hne
    · obtain ⟨h1, _⟩ := List.getElem?_eq_some_iff.1 hy
      have hz : L[j]? = some (L[j]'(by omega)) := List.getElem?_eq_getElem _
      generalize L[j]'(by omega) = z at hz
      by_cases e : EqK (gs s) h z y
      · rw [k.same j z y hz hy e]
        exact Cls.far k hx h0 hz (fun e2 => hne (e2.trans e))
      · rw [k.diff j z y hz hy e]
        omega
theorem Cls.near (k : CK s L h c) (o : Ord s L h) {i x : Nat} (hx : L[i]? = some x) : ∀ {j y : Nat}, i ≤ j → L[j]? = some y → EqK (gs s) h x y → gn c y = gn c x
  | 0, y, hij, hy, _ => by
    obtain rfl : i = 0 := by omega
    obtain rfl : x = y := Option.some.inj (hx.symm.trans hy)
    rfl
  | j + 1, y, hij, hy, he => by
    rcases Nat.lt_or_ge j i with h0 | h0
    · obtain rfl : i = j + 1 := by omega
      obtain rfl : x = y := Option.some.inj (hx.symm.trans hy)
      rfl
    · obtain ⟨h1, _⟩ := List.getElem?_eq_some_iff.1 hy
      have hz : L[j]? = some (L[j]'(by omega)) := List.getElem?_eq_getElem _
      generalize L[j]'(by omega) = z at hz
      have n1 := o.not hx hz h0
      have n2 := o.not hz hy (by omega)
      have e1 : EqK (gs s) h x z := by
        rcases tri (gs s) x z h with h2 | h2 | h2
        · exact absurd (h2.eq_left he.symm) n2
        · exact h2
        · exact absurd h2 n1
      rw [k.same j z y hz hy (e1.symm.trans he)]
      exact Cls.near k o hx h0 hz e1
theorem Cls.mono (k : CK s L h c) (o : Ord s L h) {i j x y : Nat} (hx : L[i]? = some x) (hy : L[j]? = some y) (hij : i ≤ j) : gn c x ≤ gn c y := by
  by_cases e : EqK (gs s) h x y
  · rw [k.near o hx hij hy e]
    exact Nat.le_refl _
  · have h1 := k.far hx hij hy e
    have h2 := (k.le hx).1
    omega
theorem Cls.lt_iff (k : CK s L h c) (o : Ord s L h) {x y : Nat} (hx : x < s.length) (hy : y < s.length) : gn c x < gn c y ↔ LtK (gs s) h x y := by
  obtain ⟨i, hi⟩ := o.find hx
  obtain ⟨j, hj⟩ := o.find hy
  rcases Nat.le_total i j with hij | hij
  · constructor
    · intro hlt
      rcases tri (gs s) x y h with h2 | h2 | h2
      · exact h2
      · rw [k.near o hi hij hj h2] at hlt
        omega
      · exact absurd h2 (o.not hi hj hij)
    · intro hlt
      have h1 := k.far hi hij hj (fun e => hlt.not_eq e)
      have h2 := (k.le hi).1
      omega
  · constructor
    · intro hlt
      have := k.mono o hj hi hij
      omega
    · intro hlt
      exact absurd hlt (o.not hj hi hij)
/-- They are ranks. -/
theorem Cls.rk (k : CK s L h c) (o : Ord s L h) : Rk s (zs c) h := by
  refine ⟨by rw [zs_len, k.len], fun x hx => ?_, fun a b ha hb => ?_⟩
  · unfold zs at hx
    obtain ⟨y, _, rfl⟩ := List.mem_map.1 hx
    omega
  · rw [zs_gs (by rw [k.len]; exact ha), zs_gs (by rw [k.len]; exact hb), ← k.lt_iff o ha hb]
    omega
theorem countP_split {p : Nat → Bool} : ∀ {L : List Nat} {m : Nat}, (∀ j y, j < m → L[j]? = some y → p y = true) → (∀ j y, m ≤ j → L[j]? = some y → p y = false) → m ≤ L.length → L.countP p = m
  | [], m, _, _, hm => by
    have h0 : m ≤ 0 := hm
    simp
    omega
  | a :: L, 0, h1, h2, hm => by
    have ha := h2 0 a (Nat.le_refl _) rfl
    rw [List.countP_cons, ha]
    exact countP_split (m := 0) (fun j y hj => absurd hj (by omega)) (fun j y _ hy => h2 (j + 1) y (by omega) (by simpa using hy)) (Nat.zero_le _)
  | a :: L, m + 1, h1, h2, hm => by
    have ha := h1 0 a (by omega) rfl
    rw [List.countP_cons, ha, countP_split (L := L) (m := m) (fun j y hj hy => h1 (j + 1) y (by omega) (by simpa using hy)) (fun j y hj hy => h2 (j + 1) y (by omega) (by simpa using hy)) (by simpa using hm)]
    rfl
/-- A class is how many are of lesser ones. -/
theorem Cls.count (k : CK s L h c) (o : Ord s L h) {x : Nat} (hx : x < s.length) : L.countP (fun y => decide (gn c y < gn c x)) = gn c x := by
  obtain ⟨j, hj⟩ := o.find hx
  obtain ⟨h1, z, h2, h3⟩ := k.le hj
  have hz : gn c z = gn c x := (k.near o h2 h1 hj h3).symm
  obtain ⟨h4, _⟩ := List.getElem?_eq_some_iff.1 h2
  refine countP_split (fun i y hi hy => ?_) (fun i y hi hy => ?_) (by omega)
  · have := (k.le hy).1
    simp
    omega
  · have := k.mono o h2 hy hi
    simp
    omega
/-- None alike: it is the order of all. -/
theorem Ord.strict (o : Ord s L h) (ha : ∀ i x y, L[i]? = some x → L[i + 1]? = some y → ¬ EqK (gs s) h x y) (k : CK s L h c) : IsSA s L := by
  refine ⟨o.len, o.mem, ?_⟩
  rw [List.pairwise_iff_getElem]
  intro i j hi hj hij
  have e1 : L[i]? = some L[i] := List.getElem?_eq_getElem hi
  have e2 : L[j]? = some L[j] := List.getElem?_eq_getElem hj
  rcases tri (gs s) L[i] L[j] h with h4 | h4 | h4
  · exact h4.lt
  · -- the place j - 1 has class at most j - 1, and j its own
    obtain ⟨q, rfl⟩ : ∃ q, j = q + 1 := ⟨j - 1, by omega⟩
    have e3 : L[q]? = some (L[q]'(by omega)) := List.getElem?_eq_getElem _
    have h5 := k.diff q _ _ e3 e2 (ha q _ _ e3 e2)
    have h6 := k.near o e1 (by omega) e2 h4
    have h7 := (k.le e1).1
    omega
  · exact absurd h4 (o.not e1 e2 (by omega))
theorem not_apart (hs : Pos s) (o : Ord s L h) (he : ∃ i x y, L[i]? = some x ∧ L[i + 1]? = some y ∧ EqK (gs s) h x y) : h < s.length := by
  obtain ⟨i, x, y, hx, hy, e⟩ := he
  rcases Nat.lt_or_ge h s.length with h1 | h1
  · exact h1
  · refine absurd e (not_alike hs (o.lt hx) (o.lt hy) (fun e2 => ?_) h1)
    subst e2
    have := at_one o.nodup hx hy
    omega
end

/-- The endings by what they have behind their first k symbols. -/
def rst (n k : Nat) (L : List Nat) : List Nat := List.range' (n - k) k ++ (L.filter (fun x => decide (k ≤ x))).map (fun x => x - k)
section
variable {s : List Int} {L : List Nat} {k : Nat}
theorem rst_mem (hL : ∀ x, x ∈ L ↔ x < s.length) (hk : k ≤ s.length) (x : Nat) : x ∈ rst s.length k L ↔ x < s.length := by
  unfold rst
  rw [List.mem_append, List.mem_range'_1, List.mem_map]
  constructor
  · rintro (h | ⟨y, hy, rfl⟩)
    · omega
    · rw [List.mem_filter] at hy
      have := (hL y).1 hy.1
      omega
  · intro h
    rcases Nat.lt_or_ge x (s.length - k) with h1 | h1
    · refine .inr ⟨x + k, ?_, by omega⟩
      rw [List.mem_filter]
      exact ⟨(hL _).2 (by omega), by simp⟩
    · exact .inl (by omega)
theorem rst_ord (hs : Pos s) (o : Ord s L k) (hk : k ≤ s.length) : (rst s.length k L).Pairwise fun x y => x ≠ y ∧ ¬ LtK (gs s) k (y + k) (x + k) := by
  have low : ∀ p, -1 ≤ gs s p := fun p => by
    rcases Nat.lt_or_ge p s.length with h7 | h7
    · have := gs_pos hs h7
      omega
    · rw [gs_out h7]
      omega
  have beyond : ∀ x y, s.length ≤ x + k → ¬ LtK (gs s) k (y + k) (x + k) := by
    rintro x y hx ⟨q, _, _, h2⟩
    rw [gs_out (p := x + k + q) (by omega)] at h2
    have := low (y + k + q)
    omega
  unfold rst
  rw [List.pairwise_append]
  refine ⟨?_, ?_, ?_⟩
  · rw [List.pairwise_iff_getElem]
    intro i j hi hj hij
    simp only [List.getElem_range']
    refine ⟨by omega, beyond _ _ (by omega)⟩
  · rw [List.pairwise_map]
    have h1 : L.Pairwise fun x y => x ≠ y ∧ ¬ LtK (gs s) k y x := o.nodup.and o.ord
    refine (h1.filter _).imp_of_mem fun {a b} ha hb hab => ?_
    rw [List.mem_filter] at ha hb
    have ha2 : k ≤ a := by simpa using ha.2
    have hb2 : k ≤ b := by simpa using hb.2
    refine ⟨fun e => hab.1 (by omega), ?_⟩
    rw [Nat.sub_add_cancel ha2, Nat.sub_add_cancel hb2]
    exact hab.2
  · intro a ha b hb
    rw [List.mem_range'_1] at ha
    obtain ⟨y, hy, rfl⟩ := List.mem_map.1 hb
    rw [List.mem_filter] at hy
    have := (o.mem y).1 hy.1
    have hy2 : k ≤ y := by simpa using hy.2
    exact ⟨by omega, beyond _ _ (by omega)⟩
theorem rst_len (o : Ord s L k) (hs : Pos s) (hk : k ≤ s.length) : (rst s.length k L).length = s.length := by
  have h1 : (rst s.length k L).Nodup := (rst_ord hs o hk).imp fun h => h.1
  have h2 : (rst s.length k L).Perm (List.range s.length) := by
    rw [List.perm_ext_iff_of_nodup h1 List.nodup_range]
    intro a
    rw [rst_mem o.mem hk, List.mem_range]
  rw [h2.length_eq, List.length_range]
end

/-- How many of the first i are of class q. -/
def upTo (f : Nat → Nat) (R : List Nat) (i q : Nat) : Nat := (R.take i).countP fun y => decide (f y = q)
/-- Where the next one of each class goes. -/
def nxt (n : Nat) (f : Nat → Nat) (R : List Nat) (i : Nat) : List Nat := (List.range n).map fun q => q + upTo f R i q
section
variable {f : Nat → Nat} {R : List Nat} {n i j x y : Nat}
theorem nxt_len : (nxt n f R i).length = n := by unfold nxt; rw [List.length_map, List.length_range]
theorem nxt_at {q : Nat} (hq : q < n) : (nxt n f R i)[q]? = some (q + upTo f R i q) := by
  unfold nxt
  rw [List.getElem?_map, List.getElem?_range hq]
  rfl
theorem upTo_next (hx : R[i]? = some x) (q : Nat) : upTo f R (i + 1) q = upTo f R i q + (if f x = q then 1 else 0) := by
  unfold upTo
  rw [List.take_add_one, hx, List.countP_append]
  simp [List.countP_cons]
theorem nxt_next (hx : R[i]? = some x) : (nxt n f R i).set (f x) (f x + upTo f R i (f x) + 1) = nxt n f R (i + 1) := by
  apply List.ext_getElem?
  intro q
  rcases Nat.lt_or_ge q n with hq | hq
  · rw [nxt_at hq, upTo_next hx]
    by_cases e : f x = q
    · subst e
      rw [List.getElem?_set_self (by rw [nxt_len]; exact hq), if_pos rfl]
      rfl
    · rw [List.getElem?_set_ne e, nxt_at hq, if_neg e]
      rfl
  · rw [List.getElem?_eq_none (by rw [List.length_set, nxt_len]; exact hq), List.getElem?_eq_none (by rw [nxt_len]; exact hq)]
theorem upTo_mono (q : Nat) (hij : i ≤ j) : upTo f R i q ≤ upTo f R j q := by
  unfold upTo
  exact (List.take_sublist_take_left hij).countP_le
theorem upTo_lt (hx : R[i]? = some x) (hij : i < j) : upTo f R i (f x) + 1 ≤ upTo f R j (f x) := by
  have h1 := upTo_next (f := f) hx (f x)
  rw [if_pos rfl] at h1
  have h2 := upTo_mono (f := f) (R := R) (f x) (show i + 1 ≤ j by omega)
  omega
theorem lo_sum (f : Nat → Nat) (q q' : Nat) (hq : q < q') : ∀ R : List Nat, R.countP (fun y => decide (f y < q)) + R.countP (fun y => decide (f y = q)) ≤ R.countP (fun y => decide (f y < q'))
  | [] => by simp
  | a :: R => by
    have := lo_sum f q q' hq R
    rw [List.countP_cons, List.countP_cons, List.countP_cons]
    by_cases h1 : f a < q
    · have h2 : ¬ f a = q := by omega
      have h3 : f a < q' := by omega
      simp [h1, h2, h3]
      omega
    · by_cases h2 : f a = q
      · have h3 : f a < q' := by omega
        simp [h2, hq]
        omega
      · by_cases h3 : f a < q' <;> simp [h1, h2, h3] <;> omega
theorem lo_all (f : Nat → Nat) (q : Nat) : ∀ R : List Nat, R.countP (fun y => decide (f y < q)) + R.countP (fun y => decide (f y = q)) ≤ R.length
  | [] => by simp
  | a :: R => by
    have := lo_all f q R
    rw [List.countP_cons, List.countP_cons, List.length_cons]
    by_cases h1 : f a < q
    · have h2 : ¬ f a = q := by omega
      simp [h1, h2]
      omega
    · by_cases h2 : f a = q <;> simp [h1, h2] <;> omega

/-- Classes that say how many are of lesser ones. -/
def Cnt (f : Nat → Nat) (R : List Nat) : Prop := ∀ x ∈ R, R.countP (fun y => decide (f y < f x)) = f x
/-- Where the i-th goes. -/
def pos (f : Nat → Nat) (R : List Nat) (i x : Nat) : Nat := f x + upTo f R i (f x)
theorem pos_top (hx : R[i]? = some x) : pos f R i x + 1 ≤ f x + R.countP (fun y => decide (f y = f x)) := by
  obtain ⟨h1, _⟩ := List.getElem?_eq_some_iff.1 hx
  have h2 := upTo_lt (f := f) hx h1
  unfold pos
  unfold upTo at *
  rw [List.take_length] at h2
  omega
theorem pos_lt (hc : Cnt f R) (hx : R[i]? = some x) : pos f R i x < R.length := by
  have h1 := pos_top (f := f) hx
  have h2 := lo_all f (f x) R
  rw [hc x (List.mem_of_getElem? hx)] at h2
  omega
theorem pos_class (hc : Cnt f R) (hx : R[i]? = some x) (hy : R[j]? = some y) (h : f x < f y) : pos f R i x < pos f R j y := by
  have h1 := pos_top (f := f) hx
  have h2 := lo_sum f (f x) (f y) h R
  rw [hc x (List.mem_of_getElem? hx), hc y (List.mem_of_getElem? hy)] at h2
  have h3 : f y ≤ pos f R j y := Nat.le_add_right _ _
  omega
theorem pos_same (hx : R[i]? = some x) (h : f x = f y) (hij : i < j) : pos f R i x < pos f R j y := by
  have h1 := upTo_lt (f := f) hx hij
  unfold pos
  rw [← h]
  omega
theorem pos_inj (hc : Cnt f R) (hx : R[i]? = some x) (hy : R[j]? = some y) (h : i ≠ j) : pos f R i x ≠ pos f R j y := by
  rcases Nat.lt_trichotomy (f x) (f y) with h1 | h1 | h1
  · have := pos_class hc hx hy h1
    omega
  · rcases Nat.lt_or_ge i j with h2 | h2
    · have := pos_same hx h1 h2
      omega
    · have := pos_same hy h1.symm (show j < i by omega)
      omega
  · have := pos_class hc hy hx h1
    omega
/-- The placing under way: the first i stand where they should. -/
structure Put (f : Nat → Nat) (R : List Nat) (i : Nat) (M : List Nat) : Prop where
  len : M.length = R.length
  at_ : ∀ j x, j < i → R[j]? = some x → M[pos f R j x]? = some x
theorem put_start : Put f R 0 (List.replicate R.length 0) := ⟨List.length_replicate .., fun _ _ h => absurd h (by omega)⟩
theorem Put.next {M : List Nat} (p : Put f R i M) (hc : Cnt f R) (hx : R[i]? = some x) : Put f R (i + 1) (M.set (pos f R i x) x) := by
  refine ⟨by rw [List.length_set]; exact p.len, fun j y hj hy => ?_⟩
  by_cases e : j = i
  · subst e
    obtain rfl : x = y := Option.some.inj (hx.symm.trans hy)
    rw [List.getElem?_set_self (by rw [p.len]; exact pos_lt hc hx)]
  · rw [List.getElem?_set_ne (pos_inj hc hx hy (fun e2 => e e2.symm))]
    exact p.at_ j y (by omega) hy
end
section
variable {s : List Int} {L c M : List Nat} {k : Nat}
theorem cls_cnt (hs : Pos s) (o : Ord s L k) (q : CK s L k c) (hk : k ≤ s.length) : Cnt (gn c) (rst s.length k L) := by
  intro x hx
  have hx2 := (rst_mem o.mem hk x).1 hx
  have h1 : (rst s.length k L).Nodup := (rst_ord hs o hk).imp fun h => h.1
  have h2 : (rst s.length k L).Perm L := by
    rw [List.perm_ext_iff_of_nodup h1 o.nodup]
    intro a
    rw [rst_mem o.mem hk, o.mem]
  rw [h2.countP_eq]
  exact q.count o hx2
/-- Placed by classes, what was in order by what is behind is in order by twice as many. -/
theorem Put.twice (hs : Pos s) (o : Ord s L k) (q : CK s L k c) (hk : k ≤ s.length) (p : Put (gn c) (rst s.length k L) s.length M) : Ord s M (k + k) := by
  have hc := cls_cnt hs o q hk
  have hR := rst_ord hs o hk
  have hl := rst_len o hs hk
  have hm := rst_mem (s := s) o.mem hk
  generalize rst s.length k L = R at *
  have look : ∀ x, x < s.length → ∃ i : Nat, R[i]? = some x ∧ M[pos (gn c) R i x]? = some x := fun x hx => by
    obtain ⟨i, h1, h2⟩ := List.getElem_of_mem ((hm x).2 hx)
    have h3 : R[i]? = some x := by rw [List.getElem?_eq_getElem h1, h2]
    exact ⟨i, h3, p.at_ i x (by omega) h3⟩
  have hM : M.Perm (List.range s.length) := range_all (fun x hx => by
    obtain ⟨i, _, h2⟩ := look x hx
    exact List.mem_of_getElem? h2) (by rw [p.len, hl]; exact Nat.le_refl _)
  have hMn : M.Nodup := hM.symm.nodup List.nodup_range
  have hMm : ∀ x, x ∈ M ↔ x < s.length := fun x => by rw [hM.mem_iff, List.mem_range]
  refine ⟨hMm, hMn, ?_⟩
  rw [List.pairwise_iff_getElem]
  intro a b ha hb hab
  have e1 : M[a]? = some M[a] := List.getElem?_eq_getElem ha
  have e2 : M[b]? = some M[b] := List.getElem?_eq_getElem hb
  generalize M[a] = x at *
  generalize M[b] = y at *
  have hx : x < s.length := (hMm x).1 (List.mem_of_getElem? e1)
  have hy : y < s.length := (hMm y).1 (List.mem_of_getElem? e2)
  obtain ⟨i, hi, hi2⟩ := look x hx
  obtain ⟨j, hj, hj2⟩ := look y hy
  have pa := at_one hMn e1 hi2
  have pb := at_one hMn e2 hj2
  rcases Nat.lt_trichotomy (gn c x) (gn c y) with h1 | h1 | h1
  · have h2 := (q.lt_iff o hx hy).1 h1
    exact fun h3 => (h2.mono (Nat.le_add_right k k)).asymm h3
  · have hij : i < j := by
      rcases Nat.lt_or_ge i j with h2 | h2
      · exact h2
      · rcases Nat.lt_or_ge j i with h3 | h3
        · have := pos_same hj h1.symm h3
          omega
        · obtain rfl : i = j := by omega
          obtain rfl : x = y := Option.some.inj (hi.symm.trans hj)
          omega
    have h3 : ¬ LtK (gs s) k (y + k) (x + k) := by
      rw [List.pairwise_iff_getElem] at hR
      obtain ⟨g1, g2⟩ := List.getElem?_eq_some_iff.1 hi
      obtain ⟨g3, g4⟩ := List.getElem?_eq_some_iff.1 hj
      have := (hR i j g1 g3 hij).2
      rwa [g2, g4] at this
    intro h4
    rcases double.1 h4 with h5 | h5
    · have := (q.lt_iff o hy hx).2 h5
      omega
    · exact h3 h5.2
  · have := pos_class hc hj hi h1
    omega
end
end Go.Su

namespace Go.Su

/-- A closed row. -/
structure Closed (s : List Int) : Prop where
  pos : Pos s
  full : 0 < s.length
  last : gs s (s.length - 1) = 0
  only : ∀ p, p < s.length - 1 → gs s p ≠ 0
/-- The place ahead; of the first one the last. -/
def prv (n x : Nat) : Nat := if x = 0 then n - 1 else x - 1
/-- l is Turn of s. -/
structure Turned (s l : List Int) : Prop where
  closed : Closed s
  len : l.length = s.length
  at_ : ∀ L, IsSA s L → ∀ i x, L[i]? = some x → gs l i = gs s (prv s.length x)
/-- Ahead of: the lesser symbol, or the same and ahead. -/
def Bef (l : List Int) (i j : Nat) : Prop := gs l i < gs l j ∨ (gs l i = gs l j ∧ i < j)
instance (l : List Int) (i j : Nat) : Decidable (Bef l i j) := by unfold Bef; infer_instance
/-- How many are ahead. -/
def lf (l : List Int) (i : Nat) : Nat := (List.range l.length).countP fun j => decide (Bef l j i)

section
variable {l : List Int} {i j k : Nat}
theorem Bef.trans (h : Bef l i j) (g : Bef l j k) : Bef l i k := by
  unfold Bef at *
  omega
theorem Bef.irrefl (h : Bef l i i) : False := by
  unfold Bef at h
  omega
theorem bef_total (h : i ≠ j) : Bef l i j ∨ Bef l j i := by
  unfold Bef
  omega
theorem countP_lt {p q : Nat → Bool} : ∀ {L : List Nat}, (∀ x ∈ L, p x = true → q x = true) → (∃ x ∈ L, q x = true ∧ p x = false) → L.countP p < L.countP q
  | [], _, ⟨x, hx, _⟩ => by cases hx
  | a :: L, h, ⟨x, hx, hq, hp⟩ => by
    have hle : L.countP p ≤ L.countP q := List.countP_mono_left fun y hy hpy => h y (List.mem_cons_of_mem _ hy) hpy
    rw [List.countP_cons, List.countP_cons]
    rcases List.mem_cons.1 hx with rfl | hx
    · simp [hq, hp]
      omega
    · have ih := countP_lt (L := L) (fun y hy => h y (List.mem_cons_of_mem _ hy)) ⟨x, hx, hq, hp⟩
      have ha := h a (List.mem_cons_self ..)
      cases hpa : p a
      · cases hqa : q a <;> simp <;> omega
      · simp [ha hpa]
        omega
theorem lf_lt_of (hi : i < l.length) (h : Bef l i j) : lf l i < lf l j := by
  unfold lf
  refine countP_lt (fun x _ hx => ?_) ⟨i, List.mem_range.2 hi, by simpa using h, by simpa using fun hb : Bef l i i => hb.irrefl⟩
  simp only [decide_eq_true_eq] at hx ⊢
  exact hx.trans h
theorem lf_lt_iff (hi : i < l.length) (hj : j < l.length) : lf l i < lf l j ↔ Bef l i j := by
  refine ⟨fun h => ?_, lf_lt_of hi⟩
  by_cases e : i = j
  · subst e
    omega
  · rcases bef_total (l := l) e with h1 | h1
    · exact h1
    · have := lf_lt_of hj h1
      omega
theorem lf_bound (hi : i < l.length) : lf l i < l.length := by
  have h : lf l i < (List.range l.length).countP (fun _ => true) := countP_lt (fun _ _ _ => rfl) ⟨i, List.mem_range.2 hi, rfl, by simpa using fun hb : Bef l i i => hb.irrefl⟩
  simpa using h
theorem lf_inj (hi : i < l.length) (hj : j < l.length) (h : lf l i = lf l j) : i = j := by
  by_cases e : i = j
  · exact e
  · rcases bef_total (l := l) e with h1 | h1
    · have := lf_lt_of hi h1
      omega
    · have := lf_lt_of hj h1
      omega
end
/-- Who counts those below itself. -/
theorem rank_unique {n : Nat} {f : Nat → Nat} (hf : ∀ i, i < n → f i < n) (hinj : ∀ i j, i < n → j < n → f i = f j → i = j) {i : Nat} (hi : i < n) : (List.range n).countP (fun j => decide (f j < f i)) = f i := by
  have hp : ((List.range n).map f).Perm (List.range n) := by
    refine range_of ?_ (fun x hx => ?_) (by simp)
    · rw [List.Nodup, List.pairwise_map]
      refine List.Pairwise.imp_of_mem (fun {a b} ha hb hab e => ?_) (List.nodup_range (n := n))
      exact hab (hinj a b (List.mem_range.1 ha) (List.mem_range.1 hb) e)
    · obtain ⟨y, hy, rfl⟩ := List.mem_map.1 hx
      exact hf y (List.mem_range.1 hy)
  have h1 : (List.range n).countP (fun j => decide (f j < f i)) = ((List.range n).map f).countP (fun q => decide (q < f i)) := by
    rw [List.countP_map]
    rfl
  rw [h1, hp.countP_eq]
  refine countP_split (fun j y hj hy => ?_) (fun j y hj hy => ?_) (by rw [List.length_range]; exact Nat.le_of_lt (hf i hi))
  · obtain ⟨h2, h3⟩ := List.getElem?_eq_some_iff.1 hy
    rw [List.getElem_range] at h3
    simp
    omega
  · obtain ⟨h2, h3⟩ := List.getElem?_eq_some_iff.1 hy
    rw [List.getElem_range] at h3
    simp
    omega
/-- A way into the places that keeps who is ahead of whom is lf. -/
theorem lf_unique {l : List Int} {f : Nat → Nat} (hf : ∀ i, i < l.length → f i < l.length) (hinj : ∀ i j, i < l.length → j < l.length → f i = f j → i = j) (hm : ∀ i j, i < l.length → j < l.length → (f i < f j ↔ Bef l i j)) {i : Nat} (hi : i < l.length) : lf l i = f i := by
  rw [← rank_unique hf hinj hi]
  unfold lf
  refine List.countP_congr fun j hj => ?_
  have := hm j i (List.mem_range.1 hj) hi
  simp only [decide_eq_true_eq]
  exact this.symm

section
variable {s l : List Int} {L : List Nat}
theorem IsSA.has {s : List Int} {L : List Nat} (h : IsSA s L) {i : Nat} (hi : i < s.length) : ∃ x, L[i]? = some x ∧ x < s.length := by
  have h1 : i < L.length := by rw [h.len]; exact hi
  exact ⟨L[i], List.getElem?_eq_getElem h1, (h.mem _).1 (List.getElem_mem h1)⟩
theorem IsSA.lt_iff {s : List Int} {L : List Nat} (h : IsSA s L) {i j x y : Nat} (hi : L[i]? = some x) (hj : L[j]? = some y) : i < j ↔ Lt (gs s) x y := by
  refine ⟨fun hij => h.lt hij hi hj, fun hl => ?_⟩
  rcases Nat.lt_trichotomy i j with h1 | h1 | h1
  · exact h1
  · subst h1
    obtain rfl : x = y := Option.some.inj (hi.symm.trans hj)
    exact hl.irrefl.elim
  · exact (hl.asymm (h.lt h1 hj hi)).elim
theorem prv_lt {n x : Nat} (hn : 0 < n) (hx : x < n) : prv n x < n := by
  unfold prv
  split <;> omega
theorem prv_inj {n x y : Nat} (hx : x < n) (hy : y < n) (h : prv n x = prv n y) : x = y := by
  unfold prv at h
  split at h <;> split at h <;> omega
/-- The first ending in the order is the last one. -/
theorem Closed.first (hc : Closed s) (h : IsSA s L) : L[0]? = some (s.length - 1) := by
  obtain ⟨x, hx, hxn⟩ := h.has (i := 0) hc.full
  by_cases e : x = s.length - 1
  · rw [hx, e]
  · obtain ⟨j, hj⟩ := h.find (x := s.length - 1) (by have := hc.full; omega)
    have hj0 : j ≠ 0 := fun e2 => by
      subst e2
      exact e (Option.some.inj (hx.symm.trans hj))
    obtain ⟨k, h1, h2⟩ := h.lt (show 0 < j by omega) hx hj
    have h3 := gs_pos hc.pos hxn
    have h4 := hc.only x (by omega)
    rcases Nat.eq_zero_or_pos k with hk | hk
    · subst hk
      simp only [Nat.add_zero] at h2
      rw [hc.last] at h2
      omega
    · have h5 := h1 0 hk
      simp only [Nat.add_zero] at h5
      rw [hc.last] at h5
      omega
/-- An ending is ahead of another one by its symbol, then by what is behind. -/
theorem lt_cons {g : Nat → Int} {a b : Nat} : Lt g a b ↔ g a < g b ∨ (g a = g b ∧ Lt g (a + 1) (b + 1)) := by
  constructor
  · rintro ⟨k, h1, h2⟩
    rcases Nat.eq_zero_or_pos k with hk | hk
    · subst hk
      exact .inl h2
    · have h3 := h1 0 hk
      refine .inr ⟨h3, k - 1, ?_, ?_⟩
      · have : EqK g (1 + (k - 1)) a b := h1.mono (by omega)
        exact this.tail
      · rw [show a + 1 + (k - 1) = a + k by omega, show b + 1 + (k - 1) = b + k by omega]
        exact h2
  · rintro (h | ⟨h, k, h1, h2⟩)
    · exact ⟨0, fun _ hj => absurd hj (by omega), h⟩
    · refine ⟨1 + k, EqK.add (h := 1) (fun j hj => by
      have hj0 : j = 0 := by omega
      subst hj0
      exact h) h1, ?_⟩
      rw [show a + (1 + k) = a + 1 + k by omega, show b + (1 + k) = b + 1 + k by omega]
      exact h2
/-- Of two places, which one's ending ahead is ahead. -/
theorem Turned.bef (t : Turned s l) (h : IsSA s L) {i j x y : Nat} (hi : L[i]? = some x) (hj : L[j]? = some y) (hxy : x ≠ y) : Lt (gs s) (prv s.length x) (prv s.length y) ↔ Bef l i j := by
  have hc := t.closed
  have hx : x < s.length := (h.mem x).1 (List.mem_of_getElem? hi)
  have hy : y < s.length := (h.mem y).1 (List.mem_of_getElem? hj)
  have ex := t.at_ L h i x hi
  have ey := t.at_ L h j y hj
  have hne : i ≠ j := fun e => by
    subst e
    exact hxy (Option.some.inj (hi.symm.trans hj))
  have zero : ∀ z, z < s.length → z ≠ 0 → gs s (prv s.length z) ≠ 0 := fun z hz h0 => by
    refine hc.only _ ?_
    unfold prv
    rw [if_neg h0]
    omega
  have last : gs s (prv s.length 0) = 0 := by
    unfold prv
    rw [if_pos rfl]
    exact hc.last
  rw [lt_cons, ← ex, ← ey]
  unfold Bef
  by_cases hx0 : x = 0
  · subst hx0
    have h1 : gs l i = 0 := by rw [ex, last]
    have h2 := zero y hy (fun e => hxy e.symm)
    rw [← ey] at h2
    omega
  · by_cases hy0 : y = 0
    · subst hy0
      have h1 : gs l j = 0 := by rw [ey, last]
      have h2 := zero x hx hx0
      rw [← ex] at h2
      omega
    · have e1 : prv s.length x + 1 = x := by unfold prv; rw [if_neg hx0]; omega
      have e2 : prv s.length y + 1 = y := by unfold prv; rw [if_neg hy0]; omega
      rw [e1, e2, h.lt_iff hi hj]
/-- The way from an ending's place to the place of the one ahead of it. -/
theorem Turned.step (t : Turned s l) (h : IsSA s L) {i x : Nat} (hi : L[i]? = some x) : L[lf l i]? = some (prv s.length x) := by
  have hn := t.closed.full
  -- where the one ahead stands
  have look : ∀ i, ∃ p, i < s.length → ∃ x, L[i]? = some x ∧ L[p]? = some (prv s.length x) := fun i => by
    rcases Nat.lt_or_ge i s.length with h1 | h1
    · obtain ⟨x, hx, hxn⟩ := h.has h1
      obtain ⟨p, hp⟩ := h.find (prv_lt hn hxn)
      exact ⟨p, fun _ => ⟨x, hx, hp⟩⟩
    · exact ⟨0, fun h2 => absurd h2 (by omega)⟩
  have hlen := t.len
  have hin : i < s.length := by
    obtain ⟨h1, _⟩ := List.getElem?_eq_some_iff.1 hi
    rw [← h.len]
    exact h1
  obtain ⟨f, hf⟩ := Classical.axiomOfChoice look
  have key := lf_unique (l := l) (f := f) (fun j hj => by
    obtain ⟨x, _, hx⟩ := hf j (by omega)
    obtain ⟨h1, _⟩ := List.getElem?_eq_some_iff.1 hx
    have := h.len
    omega) (fun a b ha hb e => by
    obtain ⟨x, hx, hx2⟩ := hf a (by omega)
    obtain ⟨y, hy, hy2⟩ := hf b (by omega)
    rw [e, hy2] at hx2
    have hxy := prv_inj ((h.mem y).1 (List.mem_of_getElem? hy)) ((h.mem x).1 (List.mem_of_getElem? hx)) (Option.some.inj hx2)
    subst hxy
    exact at_one h.nodup hx hy) (fun a b ha hb => by
    obtain ⟨x, hx, hx2⟩ := hf a (by omega)
    obtain ⟨y, hy, hy2⟩ := hf b (by omega)
    rw [h.lt_iff hx2 hy2]
    by_cases hxy : x = y
    · subst hxy
      obtain rfl := at_one h.nodup hx hy
      exact ⟨fun h => h.irrefl.elim, fun h => h.irrefl.elim⟩
    · exact t.bef h hx hy hxy) (i := i) (by omega)
  rw [key]
  obtain ⟨y, hy, hy2⟩ := hf i hin
  obtain rfl : y = x := Option.some.inj (hy.symm.trans hi)
  exact hy2

/-- The places on the way back. -/
def way (l : List Int) : Nat → Nat
  | 0 => 0
  | k + 1 => lf l (way l k)
/-- The row on the way back: its last symbol is 0, each one ahead stands where the way is. -/
def bck (l : List Int) : List Int := (List.range l.length).map fun i => if i + 1 = l.length then 0 else gs l (way l (l.length - 2 - i))
theorem bck_len : (bck l).length = l.length := by unfold bck; simp
theorem bck_at {i : Nat} (hi : i < l.length) : gs (bck l) i = if i + 1 = l.length then 0 else gs l (way l (l.length - 2 - i)) := gs_at (by unfold bck; rw [List.getElem?_map, List.getElem?_range hi]; rfl)
theorem Turned.way (t : Turned s l) (h : IsSA s L) : ∀ k, k < s.length → L[Go.Su.way l k]? = some (s.length - 1 - k)
  | 0, _ => t.closed.first h
  | k + 1, hk => by
    have h1 := t.step h (Turned.way t h k (by omega))
    have h2 : prv s.length (s.length - 1 - k) = s.length - 1 - (k + 1) := by
      unfold prv
      rw [if_neg (by omega)]
      omega
    rw [h2] at h1
    exact h1
theorem gs_ext {a b : List Int} (hl : a.length = b.length) (h : ∀ p, p < a.length → gs a p = gs b p) : a = b := by
  apply List.ext_getElem?
  intro p
  rcases Nat.lt_or_ge p a.length with h1 | h1
  · rw [gs_some h1, gs_some (by omega), h p h1]
  · rw [List.getElem?_eq_none h1, List.getElem?_eq_none (by omega)]
/-- The way back leads to the row. -/
theorem Turned.back (t : Turned s l) (h : IsSA s L) : bck l = s := by
  refine gs_ext (by rw [bck_len, t.len]) fun p hp => ?_
  rw [bck_len] at hp
  have hps : p < s.length := by rw [← t.len]; exact hp
  rw [bck_at hp, t.len]
  by_cases e : p + 1 = s.length
  · rw [if_pos e, show p = s.length - 1 by omega, t.closed.last]
  · rw [if_neg e]
    have h1 := t.way h (s.length - 2 - p) (by omega)
    rw [show s.length - 1 - (s.length - 2 - p) = p + 1 by omega] at h1
    rw [t.at_ L h _ _ h1]
    unfold prv
    rw [if_neg (by omega)]
    rfl
theorem Turned.one {s' : List Int} (t : Turned s l) (t' : Turned s' l) {L' : List Nat} (h : IsSA s L) (h' : IsSA s' L') : s = s' := by
  rw [← t.back h, t'.back h']
end
end Go.Su
namespace Go.Su
section
variable {s l : List Int} {L : List Nat}
/-- What a row has that is turned: one nought, none below it, a way that comes by all. -/
structure Round (l : List Int) : Prop where
  pos : Pos l
  full : 0 < l.length
  zero : ∃ z, z < l.length ∧ gs l z = 0 ∧ ∀ p, p < l.length → gs l p = 0 → p = z
  all : ∀ p, p < l.length → ∃ k, k < l.length ∧ way l k = p
theorem way_lt (hn : 0 < l.length) : ∀ k, way l k < l.length
  | 0 => hn
  | k + 1 => lf_bound (way_lt hn k)
theorem Round.inj (r : Round l) {j k : Nat} (hj : j < l.length) (hk : k < l.length) (h : way l j = way l k) : j = k := by
  have hp : ((List.range l.length).map (way l)).Perm (List.range l.length) := range_all (fun x hx => by
    obtain ⟨k, hk, rfl⟩ := r.all x hx
    exact List.mem_map.2 ⟨k, List.mem_range.2 hk, rfl⟩) (by simp)
  have hn := hp.symm.nodup List.nodup_range
  have h1 : ((List.range l.length).map (way l))[j]? = some (way l j) := by rw [List.getElem?_map, List.getElem?_range hj]; rfl
  have h2 : ((List.range l.length).map (way l))[k]? = some (way l k) := by rw [List.getElem?_map, List.getElem?_range hk]; rfl
  rw [← h] at h2
  exact at_one hn h1 h2
theorem lf_zero {z : Nat} (hp : Pos l) (h0 : gs l z = 0) (hu : ∀ p, p < l.length → gs l p = 0 → p = z) : lf l z = 0 := by
  unfold lf
  rw [List.countP_eq_zero]
  intro x hx
  have hx2 := List.mem_range.1 hx
  have h1 := gs_pos hp hx2
  simp only [decide_eq_true_eq]
  unfold Bef
  rw [h0]
  by_cases e : gs l x = 0
  · have := hu x hx2 e
    omega
  · omega
/-- The way comes to the nought last. -/
theorem Round.notZero (r : Round l) {k : Nat} (hk : k + 1 < l.length) : gs l (way l k) ≠ 0 := by
  obtain ⟨z, hz, h0, hu⟩ := r.zero
  intro e
  have h1 := hu _ (way_lt r.full k) e
  have h2 : way l (k + 1) = way l 0 := by
    show lf l (way l k) = 0
    rw [h1]
    exact lf_zero r.pos h0 hu
  have := r.inj hk r.full h2
  omega
theorem Round.lastZero (r : Round l) : gs l (way l (l.length - 1)) = 0 := by
  obtain ⟨z, hz, h0, hu⟩ := r.zero
  obtain ⟨k, hk, e⟩ := r.all z hz
  rcases Nat.lt_or_ge (k + 1) l.length with h1 | h1
  · have := r.notZero h1
    rw [e] at this
    exact absurd h0 this
  · rw [show l.length - 1 = k by omega, e]
    exact h0
theorem Round.closed (r : Round l) : Closed (bck l) := by
  have hn := r.full
  refine ⟨fun x hx => ?_, by rw [bck_len]; exact hn, ?_, fun p hp => ?_⟩
  · obtain ⟨p, hp, e⟩ := List.getElem_of_mem hx
    rw [bck_len] at hp
    have h1 := bck_at hp
    rw [gs_at (by rw [List.getElem?_eq_getElem (by rw [bck_len]; exact hp), e])] at h1
    rw [h1]
    split
    · omega
    · exact gs_pos r.pos (way_lt hn _)
  · rw [bck_len, bck_at (by omega), if_pos (by omega)]
  · rw [bck_len] at hp
    rw [bck_at (by omega), if_neg (by omega)]
    exact r.notZero (by omega)
/-- The way's places are the endings' places. -/
theorem Round.rank (r : Round l) : ∀ (d i j : Nat), i < l.length → j < l.length → i ≠ j → l.length ≤ max i j + 1 + d → (way l (l.length - 1 - i) < way l (l.length - 1 - j) ↔ Lt (gs (bck l)) i j) := by
  have hc := r.closed
  have hn := r.full
  have lastS : gs (bck l) (l.length - 1) = 0 := by
    have := hc.last
    rwa [bck_len] at this
  have other : ∀ p, p < l.length → p ≠ l.length - 1 → 0 < gs (bck l) p := fun p hp hne => by
    have h1 := hc.only p (by rw [bck_len]; omega)
    have h2 := gs_pos hc.pos (p := p) (by rw [bck_len]; exact hp)
    omega
  have w0 : ∀ p, p < l.length → p ≠ l.length - 1 → 0 < way l (l.length - 1 - p) := fun p hp hne => by
    rcases Nat.eq_zero_or_pos (way l (l.length - 1 - p)) with h | h
    · have := r.inj (j := l.length - 1 - p) (k := 0) (by omega) hn h
      omega
    · exact h
  have step : ∀ p, p + 1 < l.length → way l (l.length - 1 - p) = lf l (way l (l.length - 1 - (p + 1))) := fun p hp => by
    rw [show l.length - 1 - p = (l.length - 1 - (p + 1)) + 1 by omega]
    rfl
  have sym : ∀ p, p + 1 < l.length → gs (bck l) p = gs l (way l (l.length - 1 - (p + 1))) := fun p hp => by
    rw [bck_at (by omega), if_neg (by omega), show l.length - 2 - p = l.length - 1 - (p + 1) by omega]
  intro d
  induction d with
  | zero =>
    intro i j hi hj hij hd
    by_cases e : i = l.length - 1
    · have hj2 : j ≠ l.length - 1 := by omega
      refine ⟨fun _ => lt_cons.2 (.inl ?_), fun _ => ?_⟩
      · rw [e, lastS]
        exact other j hj hj2
      · rw [e, Nat.sub_self]
        exact w0 j hj hj2
    · have e2 : j = l.length - 1 := by omega
      refine ⟨fun h => ?_, fun h => ?_⟩
      · rw [e2, Nat.sub_self] at h
        exact absurd h (Nat.not_lt_zero _)
      · have h1 := other i hi e
        rcases lt_cons.1 h with h2 | ⟨h2, _⟩
        · rw [e2, lastS] at h2
          omega
        · rw [e2, lastS] at h2
          omega
  | succ d ih =>
    intro i j hi hj hij hd
    by_cases e : i = l.length - 1
    · have hj2 : j ≠ l.length - 1 := by omega
      refine ⟨fun _ => lt_cons.2 (.inl ?_), fun _ => ?_⟩
      · rw [e, lastS]
        exact other j hj hj2
      · rw [e, Nat.sub_self]
        exact w0 j hj hj2
    · by_cases e2 : j = l.length - 1
      · refine ⟨fun h => ?_, fun h => ?_⟩
        · rw [e2, Nat.sub_self] at h
          exact absurd h (Nat.not_lt_zero _)
        · have h1 := other i hi e
          rcases lt_cons.1 h with h2 | ⟨h2, _⟩
          · rw [e2, lastS] at h2
            omega
          · rw [e2, lastS] at h2
            omega
      · rw [step i (by omega), step j (by omega), lf_lt_iff (way_lt hn _) (way_lt hn _), lt_cons, sym i (by omega), sym j (by omega)]
        unfold Bef
        rw [ih (i + 1) (j + 1) (by omega) (by omega) (by omega) (by omega)]
theorem Round.sa (r : Round l) : ∃ L, IsSA (bck l) L ∧ ∀ i x, L[i]? = some x → way l (l.length - 1 - x) = i := by
  have hn := r.full
  have look : ∀ p, ∃ k, p < l.length → k < l.length ∧ way l (l.length - 1 - k) = p := fun p => by
    rcases Nat.lt_or_ge p l.length with h | h
    · obtain ⟨k, hk, e⟩ := r.all p h
      exact ⟨l.length - 1 - k, fun _ => ⟨by omega, by rw [show l.length - 1 - (l.length - 1 - k) = k by omega]; exact e⟩⟩
    · exact ⟨0, fun h2 => absurd h2 (by omega)⟩
  obtain ⟨f, hf⟩ := Classical.axiomOfChoice look
  have hat : ∀ i x, ((List.range l.length).map f)[i]? = some x → i < l.length ∧ x = f i := fun i x hx => by
    rw [List.getElem?_map] at hx
    rcases Nat.lt_or_ge i l.length with h | h
    · rw [List.getElem?_range h] at hx
      exact ⟨h, (Option.some.inj hx).symm⟩
    · rw [List.getElem?_eq_none (by simpa using h)] at hx
      cases hx
  refine ⟨(List.range l.length).map f, ⟨by rw [bck_len]; simp, fun x => ?_, ?_⟩, fun i x hx => ?_⟩
  · rw [bck_len, List.mem_map]
    constructor
    · rintro ⟨p, hp, rfl⟩
      exact (hf p (List.mem_range.1 hp)).1
    · intro hx
      refine ⟨way l (l.length - 1 - x), List.mem_range.2 (way_lt hn _), ?_⟩
      obtain ⟨h1, h2⟩ := hf _ (way_lt hn (l.length - 1 - x))
      have := r.inj (by omega) (by omega) h2
      omega
  · rw [List.pairwise_map, List.pairwise_iff_getElem]
    intro i j hi hj hij
    simp only [List.getElem_range]
    rw [List.length_range] at hi hj
    obtain ⟨h1, h2⟩ := hf i hi
    obtain ⟨h3, h4⟩ := hf j hj
    refine (r.rank l.length (f i) (f j) h1 h3 (fun e => ?_) (by omega)).1 (by omega)
    rw [e, h4] at h2
    omega
  · obtain ⟨hi, rfl⟩ := hat i x hx
    exact (hf i hi).2
/-- A row of one nought whose way comes by all is turned. -/
theorem Round.turned (r : Round l) : Turned (bck l) l := by
  obtain ⟨L, hL, hw⟩ := r.sa
  refine ⟨r.closed, by rw [bck_len], fun L' hL' i x hx => ?_⟩
  obtain rfl := hL'.uniq hL
  have h1 := hw i x hx
  have hxn := (hL.mem x).1 (List.mem_of_getElem? hx)
  rw [bck_len] at hxn ⊢
  have hn := r.full
  unfold prv
  by_cases h0 : x = 0
  · rw [if_pos h0, bck_at (by omega), if_pos (by omega), ← h1, h0, Nat.sub_zero]
    exact r.lastZero
  · rw [if_neg h0, bck_at (by omega), if_neg (by omega), show l.length - 2 - (x - 1) = l.length - 1 - x by omega, h1]
/-- .. and the other way round. -/
theorem Turned.round (t : Turned s l) (h : IsSA s L) : Round l := by
  have hc := t.closed
  have hl := t.len
  have look : ∀ p, p < l.length → ∃ x, L[p]? = some x ∧ x < s.length ∧ gs l p = gs s (prv s.length x) := fun p hp => by
    obtain ⟨x, hx, hxn⟩ := h.has (i := p) (by omega)
    exact ⟨x, hx, hxn, t.at_ L h p x hx⟩
  refine ⟨fun x hx => ?_, by have := hc.full; omega, ?_, fun p hp => ?_⟩
  · obtain ⟨p, hp, e⟩ := List.getElem_of_mem hx
    obtain ⟨y, _, hyn, e2⟩ := look p hp
    rw [gs_at (by rw [List.getElem?_eq_getElem hp, e])] at e2
    rw [e2]
    exact gs_pos hc.pos (prv_lt hc.full hyn)
  · obtain ⟨z, hz⟩ := h.find (x := 0) hc.full
    obtain ⟨hz1, _⟩ := List.getElem?_eq_some_iff.1 hz
    have hzl : z < l.length := by rw [hl, ← h.len]; exact hz1
    refine ⟨z, hzl, ?_, fun p hp e => ?_⟩
    · rw [t.at_ L h z 0 hz]
      unfold prv
      rw [if_pos rfl]
      exact hc.last
    · obtain ⟨x, hx, hxn, e2⟩ := look p hp
      rw [e] at e2
      have h0 : x = 0 := by
        by_cases h0 : x = 0
        · exact h0
        · refine absurd e2.symm (hc.only _ ?_)
          unfold prv
          rw [if_neg h0]
          omega
      subst h0
      exact at_one h.nodup hx hz
  · obtain ⟨x, hx, hxn, _⟩ := look p hp
    refine ⟨s.length - 1 - x, by omega, ?_⟩
    have h1 := t.way h (s.length - 1 - x) (by omega)
    rw [show s.length - 1 - (s.length - 1 - x) = x by omega] at h1
    exact at_one h.nodup h1 hx
end
end Go.Su

namespace Go.Su

/-- Sorted by symbols, alike ones as they stand. -/
structure Srt (l : List Int) (P : List Nat) : Prop where
  len : P.length = l.length
  lt : ∀ x ∈ P, x < l.length
  ord : ∀ (i j x y : Nat), i < j → P[i]? = some x → P[j]? = some y → Bef l x y
theorem Srt.nodup {l : List Int} {P : List Nat} (h : Srt l P) : P.Nodup := by
  rw [List.Nodup, List.pairwise_iff_getElem]
  intro i j hi hj hij e
  have := h.ord i j _ _ hij (List.getElem?_eq_getElem hi) (List.getElem?_eq_getElem hj)
  rw [e] at this
  exact this.irrefl
theorem Srt.find {l : List Int} {P : List Nat} (h : Srt l P) {x : Nat} (hx : x < l.length) : ∃ i : Nat, P[i]? = some x := by
  have hp := range_of h.nodup h.lt (by rw [h.len]; exact Nat.le_refl _)
  obtain ⟨i, hi, e⟩ := List.getElem_of_mem (hp.mem_iff.2 (List.mem_range.2 hx))
  exact ⟨i, by rw [List.getElem?_eq_getElem hi, e]⟩
/-- Where one stands is where its way goes. -/
theorem Srt.lf {l : List Int} {P : List Nat} (h : Srt l P) {i x : Nat} (hi : P[i]? = some x) : lf l x = i := by
  have look : ∀ x, ∃ i, x < l.length → P[i]? = some x := fun x => by
    rcases Nat.lt_or_ge x l.length with h1 | h1
    · obtain ⟨i, hi⟩ := h.find h1
      exact ⟨i, fun _ => hi⟩
    · exact ⟨0, fun h2 => absurd h2 (by omega)⟩
  obtain ⟨f, hf⟩ := Classical.axiomOfChoice look
  have hx : x < l.length := h.lt x (List.mem_of_getElem? hi)
  rw [lf_unique (f := f) (fun a ha => by
    obtain ⟨h1, _⟩ := List.getElem?_eq_some_iff.1 (hf a ha)
    rw [← h.len]
    exact h1) (fun a b ha hb e => by
    have h1 := hf a ha
    rw [e, hf b hb] at h1
    exact (Option.some.inj h1).symm) (fun a b ha hb => by
    have h1 := hf a ha
    have h2 := hf b hb
    constructor
    · intro h3
      exact h.ord _ _ a b h3 h1 h2
    · intro h3
      rcases Nat.lt_trichotomy (f a) (f b) with h4 | h4 | h4
      · exact h4
      · rw [h4, h2] at h1
        obtain rfl := Option.some.inj h1
        exact h3.irrefl.elim
      · exact (h3.trans (h.ord _ _ b a h4 h2 h1)).irrefl.elim) hx]
  exact at_one h.nodup (hf x hx) hi

theorem mult_one {d a b t : Nat} (ha : d ∣ a) (hb : d ∣ b) (h1 : a ≤ t) (h2 : t < a + d) (h3 : b ≤ t) (h4 : t < b + d) : a = b := by
  rcases Nat.le_total a b with h | h
  · have := Nat.eq_zero_of_dvd_of_lt (Nat.dvd_sub hb ha) (show b - a < d by omega)
    omega
  · have := Nat.eq_zero_of_dvd_of_lt (Nat.dvd_sub ha hb) (show a - b < d by omega)
    omega
/-- Sorted within each block of a width. -/
structure Wd (l : List Int) (w : Nat) (p : List Nat) : Prop where
  lt : ∀ x ∈ p, x < l.length
  blk : ∀ (b : Nat), w ∣ b → ∀ (i x : Nat), p[i]? = some x → b ≤ i → i < b + w → b ≤ x ∧ x < b + w
  ord : ∀ (b : Nat), w ∣ b → ∀ (i j x y : Nat), b ≤ i → i < j → j < b + w → p[i]? = some x → p[j]? = some y → Bef l x y
theorem wd_start (l : List Int) : Wd l 1 (List.range l.length) := by
  refine ⟨fun x hx => List.mem_range.1 hx, fun b _ i x hx h1 h2 => ?_, fun b _ i j x y h1 h2 h3 => absurd h2 (by omega)⟩
  obtain ⟨h3, h4⟩ := List.getElem?_eq_some_iff.1 hx
  rw [List.getElem_range] at h4
  omega
theorem Wd.srt {l : List Int} {w : Nat} {p : List Nat} (h : Wd l w p) (hl : p.length = l.length) (hw : l.length ≤ w) : Srt l p :=
  ⟨hl, h.lt, fun i j x y hij hx hy => h.ord 0 (Nat.dvd_zero w) i j x y (Nat.zero_le _) hij (by
    obtain ⟨h1, _⟩ := List.getElem?_eq_some_iff.1 hy
    omega) hx hy⟩
/-- Merging the two blocks from a on; the first of what is left are i and k. -/
structure Mg (l : List Int) (w : Nat) (p : List Nat) (a m z i k : Nat) (q : List Nat) : Prop where
  wd : Wd l (2 * w) q
  len : q.length + m = i + k
  ai : a ≤ i
  im : i ≤ m
  mk2 : m ≤ k
  kz : k ≤ z
  left : ∀ (t x : Nat), a ≤ t → q[t]? = some x → ∀ (j y : Nat), i ≤ j → j < m → p[j]? = some y → Bef l x y
  right : ∀ (t x : Nat), a ≤ t → q[t]? = some x → ∀ (j y : Nat), k ≤ j → j < z → p[j]? = some y → Bef l x y
section
variable {l : List Int} {w a m z i k : Nat} {p q : List Nat}
theorem mg_start (h : Wd l (2 * w) q) (hq : q.length = a) (ham : a ≤ m) (hmz : m ≤ z) : Mg l w p a m z a m q :=
  ⟨h, by omega, Nat.le_refl _, ham, Nat.le_refl _, hmz, fun t x ht hx => by
    obtain ⟨h1, _⟩ := List.getElem?_eq_some_iff.1 hx
    omega, fun t x ht hx => by
    obtain ⟨h1, _⟩ := List.getElem?_eq_some_iff.1 hx
    omega⟩
theorem snoc_at {q : List Nat} {v t x : Nat} (h : (q ++ [v])[t]? = some x) : (t < q.length ∧ q[t]? = some x) ∨ (t = q.length ∧ x = v) := by
  rcases Nat.lt_trichotomy t q.length with h1 | h1 | h1
  · rw [List.getElem?_append_left h1] at h
    exact .inl ⟨h1, h⟩
  · subst h1
    rw [List.getElem?_append_right (Nat.le_refl _), Nat.sub_self] at h
    exact .inr ⟨rfl, (Option.some.inj h).symm⟩
  · rw [List.getElem?_eq_none (by rw [List.length_append]; simp; omega)] at h
    cases h
/-- One more, if it lies in the block and comes behind all of the block that are there. -/
theorem Wd.snoc {v : Nat} (h : Wd l (2 * w) q) (ha : 2 * w ∣ a) (h1 : a ≤ q.length) (h2 : q.length < a + 2 * w) (hv : v < l.length) (hv1 : a ≤ v) (hv2 : v < a + 2 * w) (hb : ∀ t x, a ≤ t → q[t]? = some x → Bef l x v) : Wd l (2 * w) (q ++ [v]) := by
  refine ⟨fun x hx => ?_, fun b hbd t x hx h3 h4 => ?_, fun b hbd s t x y h3 h4 h5 hx hy => ?_⟩
  · rcases List.mem_append.1 hx with h6 | h6
    · exact h.lt x h6
    · simp at h6
      omega
  · rcases snoc_at hx with ⟨_, h6⟩ | ⟨h6, h7⟩
    · exact h.blk b hbd t x h6 h3 h4
    · have := mult_one ha hbd h1 h2 (by omega) (by omega)
      omega
  · rcases snoc_at hy with ⟨h8, h6⟩ | ⟨h6, h7⟩
    · rcases snoc_at hx with ⟨_, h9⟩ | ⟨h9, _⟩
      · exact h.ord b hbd s t x y h3 h4 h5 h9 h6
      · omega
    · have hab := mult_one ha hbd h1 h2 (by omega) (by omega)
      rcases snoc_at hx with ⟨_, h9⟩ | ⟨h9, _⟩
      · rw [h7]
        exact hb s x (by omega) h9
      · omega
theorem Mg.takeLeft {x : Nat} (g : Mg l w p a m z i k q) (h : Wd l w p) (ha : 2 * w ∣ a) (hm : m ≤ a + w) (hmk : m = a + w ∨ z ≤ m) (hz : z ≤ a + 2 * w) (him : i < m) (hx : p[i]? = some x) (hc : z ≤ k ∨ ∀ y, p[k]? = some y → gs l x ≤ gs l y) : Mg l w p a m z (i + 1) k (q ++ [x]) := by
  have ha1 : w ∣ a := Nat.dvd_trans ⟨2, by omega⟩ ha
  have ha2 : w ∣ a + w := Nat.dvd_add ha1 (Nat.dvd_refl w)
  have g1 := g.ai
  have g2 := g.len
  have g3 := g.mk2
  have g4 := g.kz
  have hxb := h.blk a ha1 i x hx g1 (by omega)
  have hxl := h.lt x (List.mem_of_getElem? hx)
  have toLeft : ∀ j y, i + 1 ≤ j → j < m → p[j]? = some y → Bef l x y := fun j y h1 h2 hy => h.ord a ha1 i j x y g1 (by omega) (by omega) hx hy
  have toRight : ∀ j y, k ≤ j → j < z → p[j]? = some y → Bef l x y := fun j y h1 h2 hy => by
    have hkz : k < z := by omega
    have hma : m = a + w := by omega
    have hyb := h.blk (a + w) ha2 j y hy (by omega) (by omega)
    rcases hc with hc | hc
    · omega
    · obtain ⟨y0, hy0⟩ : ∃ y0, p[k]? = some y0 := by
        obtain ⟨h5, _⟩ := List.getElem?_eq_some_iff.1 hy
        exact ⟨p[k]'(by omega), List.getElem?_eq_getElem _⟩
      have h5 := hc y0 hy0
      have h6 : gs l y0 ≤ gs l y := by
        rcases Nat.lt_or_ge k j with h7 | h7
        · have := h.ord (a + w) ha2 k j y0 y (by omega) h7 (by omega) hy0 hy
          unfold Bef at this
          omega
        · obtain rfl : k = j := by omega
          obtain rfl := Option.some.inj (hy0.symm.trans hy)
          omega
      unfold Bef
      omega
  refine ⟨g.wd.snoc ha (by omega) (by omega) hxl hxb.1 (by omega) (fun t y ht hy => g.left t y ht hy i x (Nat.le_refl _) him hx), by rw [List.length_append]; simp; omega, by omega, him, g3, g4, fun t y ht hy j u h1 h2 hu => ?_, fun t y ht hy j u h1 h2 hu => ?_⟩
  · rcases snoc_at hy with ⟨_, h6⟩ | ⟨_, rfl⟩
    · exact g.left t y ht h6 j u (by omega) h2 hu
    · exact toLeft j u h1 h2 hu
  · rcases snoc_at hy with ⟨_, h6⟩ | ⟨_, rfl⟩
    · exact g.right t y ht h6 j u h1 h2 hu
    · exact toRight j u h1 h2 hu
theorem Mg.takeRight {y : Nat} (g : Mg l w p a m z i k q) (h : Wd l w p) (ha : 2 * w ∣ a) (hm : m = a + w) (hz : z ≤ a + 2 * w) (hkz : k < z) (hy : p[k]? = some y) (hc : m ≤ i ∨ ∀ x, p[i]? = some x → gs l y < gs l x) : Mg l w p a m z i (k + 1) (q ++ [y]) := by
  have ha1 : w ∣ a := Nat.dvd_trans ⟨2, by omega⟩ ha
  have ha2 : w ∣ a + w := Nat.dvd_add ha1 (Nat.dvd_refl w)
  have g1 := g.ai
  have g2 := g.len
  have g3 := g.mk2
  have g4 := g.im
  have hyb := h.blk (a + w) ha2 k y hy (by omega) (by omega)
  have hyl := h.lt y (List.mem_of_getElem? hy)
  have toRight : ∀ j u, k + 1 ≤ j → j < z → p[j]? = some u → Bef l y u := fun j u h1 h2 hu => h.ord (a + w) ha2 k j y u (by omega) (by omega) (by omega) hy hu
  have toLeft : ∀ j u, i ≤ j → j < m → p[j]? = some u → Bef l y u := fun j u h1 h2 hu => by
    rcases hc with hc | hc
    · omega
    · obtain ⟨x0, hx0⟩ : ∃ x0, p[i]? = some x0 := by
        obtain ⟨h5, _⟩ := List.getElem?_eq_some_iff.1 hu
        exact ⟨p[i]'(by omega), List.getElem?_eq_getElem _⟩
      have h5 := hc x0 hx0
      have h6 : gs l x0 ≤ gs l u := by
        rcases Nat.lt_or_ge i j with h7 | h7
        · have := h.ord a ha1 i j x0 u g1 h7 (by omega) hx0 hu
          unfold Bef at this
          omega
        · obtain rfl : i = j := by omega
          obtain rfl := Option.some.inj (hx0.symm.trans hu)
          omega
      unfold Bef
      omega
  refine ⟨g.wd.snoc ha (by omega) (by omega) hyl (by omega) (by omega) (fun t x ht hx => g.right t x ht hx k y (Nat.le_refl _) hkz hy), by rw [List.length_append]; simp; omega, g1, g4, by omega, hkz, fun t x ht hx j u h1 h2 hu => ?_, fun t x ht hx j u h1 h2 hu => ?_⟩
  · rcases snoc_at hx with ⟨_, h6⟩ | ⟨_, rfl⟩
    · exact g.left t x ht h6 j u h1 h2 hu
    · exact toLeft j u h1 h2 hu
  · rcases snoc_at hx with ⟨_, h6⟩ | ⟨_, rfl⟩
    · exact g.right t x ht h6 j u (by omega) h2 hu
    · exact toRight j u h1 h2 hu
theorem wd_nil (l : List Int) (w : Nat) : Wd l w [] := ⟨fun x hx => (by cases hx), fun _ _ i x hx => (by simp at hx), fun _ _ i j x y _ _ _ hx => (by simp at hx)⟩
end
end Go.Su

namespace Go.Su
/-- Each row without a symbol below 0 has an order of its endings. -/
theorem sa_exists {s : List Int} (hp : Pos s) : ∃ L, IsSA s L := by
  classical
  let f : Nat → Nat := fun i => (List.range s.length).countP fun j => decide (Lt (gs s) j i)
  have mono : ∀ i j, i < s.length → Lt (gs s) i j → f i < f j := fun i j hi h => by
    refine countP_lt (fun x _ hx => ?_) ⟨i, List.mem_range.2 hi, by simpa using h, by simpa using fun hb : Lt (gs s) i i => hb.irrefl⟩
    simp only [decide_eq_true_eq] at hx ⊢
    exact hx.trans h
  have bound : ∀ i, i < s.length → f i < s.length := fun i hi => by
    have h : f i < (List.range s.length).countP (fun _ => true) := countP_lt (fun _ _ _ => rfl) ⟨i, List.mem_range.2 hi, rfl, by simpa using fun hb : Lt (gs s) i i => hb.irrefl⟩
    simpa using h
  have inj : ∀ i j, i < s.length → j < s.length → f i = f j → i = j := fun i j hi hj h => by
    by_cases e : i = j
    · exact e
    · rcases lt_total hp hi hj e with h1 | h1
      · have := mono i j hi h1
        omega
      · have := mono j i hj h1
        omega
  have perm : ((List.range s.length).map f).Perm (List.range s.length) := by
    refine range_of ?_ (fun x hx => ?_) (by simp)
    · rw [List.Nodup, List.pairwise_map]
      refine List.Pairwise.imp_of_mem (fun {a b} ha hb hab e => ?_) (List.nodup_range (n := s.length))
      exact hab (inj a b (List.mem_range.1 ha) (List.mem_range.1 hb) e)
    · obtain ⟨y, hy, rfl⟩ := List.mem_map.1 hx
      exact bound y (List.mem_range.1 hy)
  have look : ∀ p, ∃ i, p < s.length → i < s.length ∧ f i = p := fun p => by
    rcases Nat.lt_or_ge p s.length with h | h
    · obtain ⟨i, hi, e⟩ := List.mem_map.1 (perm.mem_iff.2 (List.mem_range.2 h))
      exact ⟨i, fun _ => ⟨List.mem_range.1 hi, e⟩⟩
    · exact ⟨0, fun h2 => absurd h2 (by omega)⟩
  obtain ⟨g, hg⟩ := Classical.axiomOfChoice look
  refine ⟨(List.range s.length).map g, by simp, fun x => ?_, ?_⟩
  · rw [List.mem_map]
    constructor
    · rintro ⟨p, hp, rfl⟩
      exact (hg p (List.mem_range.1 hp)).1
    · intro hx
      refine ⟨f x, List.mem_range.2 (bound x hx), ?_⟩
      obtain ⟨h1, h2⟩ := hg (f x) (bound x hx)
      exact inj _ _ h1 hx h2
  · rw [List.pairwise_map, List.pairwise_iff_getElem]
    intro i j hi hj hij
    simp only [List.getElem_range]
    rw [List.length_range] at hi hj
    obtain ⟨h1, h2⟩ := hg i hi
    obtain ⟨h3, h4⟩ := hg j hj
    have hne : g i ≠ g j := fun e => by
      rw [e, h4] at h2
      omega
    rcases lt_total hp h1 h3 hne with h5 | h5
    · exact h5
    · have := mono _ _ h3 h5
      omega
section
variable {s l : List Int}
theorem Turned.rnd (t : Turned s l) : Round l := by
  obtain ⟨L, hL⟩ := sa_exists t.closed.pos
  exact t.round hL
theorem Turned.bck (t : Turned s l) : bck l = s := by
  obtain ⟨L, hL⟩ := sa_exists t.closed.pos
  exact t.back hL
theorem Turned.uniq {s' : List Int} (t : Turned s l) (t' : Turned s' l) : s = s' := by rw [← t.bck, t'.bck]
theorem Turned.det {l' : List Int} (t : Turned s l) (t' : Turned s l') : l = l' := by
  obtain ⟨L, hL⟩ := sa_exists t.closed.pos
  refine gs_ext (by rw [t.len, t'.len]) fun p hp => ?_
  rw [t.len] at hp
  obtain ⟨x, hx, _⟩ := hL.has hp
  rw [t.at_ L hL p x hx, t'.at_ L hL p x hx]
/-- How many noughts among the first k. -/
def noughts (l : List Int) (k : Nat) : Nat := (l.take k).countP fun x => decide (x = 0)
theorem noughts_next {k : Nat} {x : Int} (h : l[k]? = some x) : noughts l (k + 1) = noughts l k + (if x = 0 then 1 else 0) := by
  unfold noughts
  rw [List.take_add_one, h, Option.toList_some, List.countP_append]
  by_cases e : x = 0 <;> simp [e]
theorem noughts_le (l : List Int) (k : Nat) : noughts l k ≤ k := by
  unfold noughts
  have h1 := List.countP_le_length (p := fun x : Int => decide (x = 0)) (l := l.take k)
  rw [List.length_take] at h1
  omega
theorem noughts_none : ∀ (l : List Int), (∀ p, p < l.length → gs l p ≠ 0) → l.countP (fun x => decide (x = 0)) = 0 := fun l h => by
  rw [List.countP_eq_zero]
  intro x hx
  obtain ⟨p, hp, e⟩ := List.getElem_of_mem hx
  have := h p hp
  rw [gs_at (by rw [List.getElem?_eq_getElem hp, e])] at this
  simpa using this
theorem noughts_one : ∀ (l : List Int) (z : Nat), z < l.length → gs l z = 0 → (∀ p, p < l.length → gs l p = 0 → p = z) → l.countP (fun x => decide (x = 0)) = 1
  | [], z, h, _, _ => absurd h (by simp)
  | a :: l, 0, _, h0, hu => by
    have ha : a = 0 := h0
    rw [List.countP_cons, noughts_none l (fun p hp e => by
      have := hu (p + 1) (by simp; omega) e
      omega)]
    simp [ha]
  | a :: l, z + 1, hz, h0, hu => by
    have ha : a ≠ 0 := fun e => by
      have := hu 0 (by simp) e
      omega
    rw [List.countP_cons, noughts_one l z (by simpa using hz) h0 (fun p hp e => by
      have := hu (p + 1) (by simp; omega) e
      omega)]
    simp [ha]
theorem Round.count (r : Round l) : noughts l l.length = 1 := by
  obtain ⟨z, hz, h0, hu⟩ := r.zero
  unfold noughts
  rw [List.take_length]
  exact noughts_one l z hz h0 hu
end
end Go.Su

namespace Go.Su

/-- The way: from the least symbol's place on. -/
def fw (P : List Nat) : Nat → Nat
  | 0 => gn P 0
  | k + 1 => gn P (fw P k)
/-- The row that it makes. -/
def fol (l : List Int) (P : List Nat) (n : Nat) : List Int := (List.range n).map fun i => gs l (fw P (i + 1))
theorem fol_len (l : List Int) (P : List Nat) (n : Nat) : (fol l P n).length = n := by unfold fol; simp
theorem fol_get {l : List Int} {P : List Nat} {n i : Nat} (h : i < n) : (fol l P n)[i]? = some (gs l (fw P (i + 1))) := by
  unfold fol
  rw [List.getElem?_map, List.getElem?_range h]
  rfl
theorem fol_at {l : List Int} {P : List Nat} {n i : Nat} (h : i < n) : gs (fol l P n) i = gs l (fw P (i + 1)) := gs_at (fol_get h)
section
variable {l : List Int} {P : List Nat}
theorem Srt.gn_lt (h : Srt l P) {y : Nat} (hy : y < l.length) : gn P y < l.length := by
  have h1 : y < P.length := by rw [h.len]; exact hy
  exact h.lt _ (List.mem_of_getElem? (gn_some h1))
/-- From the next shorter one back. -/
theorem Srt.lf_gn (h : Srt l P) {y : Nat} (hy : y < l.length) : Go.Su.lf l (gn P y) = y := h.lf (gn_some (by rw [h.len]; exact hy))
theorem Srt.gn_lf (h : Srt l P) {x : Nat} (hx : x < l.length) : gn P (Go.Su.lf l x) = x := by
  obtain ⟨i, hi⟩ := h.find hx
  rw [h.lf hi]
  exact gn_at hi
theorem Srt.fw_lt (h : Srt l P) (hn : 0 < l.length) : ∀ k, fw P k < l.length
  | 0 => h.gn_lt hn
  | k + 1 => h.gn_lt (Srt.fw_lt h hn k)
theorem Srt.gn_inj (h : Srt l P) {x y : Nat} (hx : x < l.length) (hy : y < l.length) (e : gn P x = gn P y) : x = y := by
  rw [← h.lf_gn hx, ← h.lf_gn hy, e]
/-- Of a row that is turned the way leads along the row. -/
theorem Round.fw (r : Round l) (h : Srt l P) : ∀ k, k < l.length → fw P k = way l (l.length - 1 - k)
  | 0, _ => by
    obtain ⟨z, hz, h0, hu⟩ := r.zero
    have h1 := hu _ (way_lt r.full _) r.lastZero
    have h2 := lf_zero r.pos h0 hu
    have h3 := h.gn_lf hz
    rw [h2] at h3
    show gn P 0 = _
    rw [h3, Nat.sub_zero, h1]
  | k + 1, hk => by
    have ih := Round.fw r h k (by omega)
    show gn P (Go.Su.fw P k) = _
    rw [ih, show l.length - 1 - k = (l.length - 1 - (k + 1)) + 1 by omega]
    exact h.gn_lf (way_lt r.full _)
theorem Round.fol (r : Round l) (h : Srt l P) : fol l P l.length = bck l := by
  have hn := r.full
  refine gs_ext (by rw [fol_len, bck_len]) fun p hp => ?_
  rw [fol_len] at hp
  rw [fol_at hp, bck_at hp]
  by_cases e : p + 1 = l.length
  · rw [if_pos e, e]
    have h1 := r.fw h (l.length - 1) (by omega)
    have h2 : Go.Su.fw P l.length = gn P (Go.Su.fw P (l.length - 1)) := by
      conv => lhs; rw [show l.length = l.length - 1 + 1 by omega]
      rfl
    have h3 := r.fw h 0 hn
    rw [Nat.sub_zero] at h3
    rw [h2, h1, Nat.sub_self]
    show gs l (gn P 0) = 0
    have h4 : gn P 0 = Go.Su.fw P 0 := rfl
    rw [h4, h3]
    exact r.lastZero
  · rw [if_neg e, r.fw h (p + 1) (by omega), show l.length - 1 - (p + 1) = l.length - 2 - p by omega]
/-- The row of a Turn is the row. -/
theorem Turned.fol {s : List Int} (t : Turned s l) (h : Srt l P) : fol l P l.length = s := by
  rw [t.rnd.fol h, t.bck]
theorem fw_shift (h : Srt l P) (hn : 0 < l.length) {i j : Nat} (e : fw P i = fw P j) : ∀ t, fw P (i + t) = fw P (j + t)
  | 0 => e
  | t + 1 => by
    show gn P (fw P (i + t)) = gn P (fw P (j + t))
    rw [fw_shift h hn e t]
/-- A closed row that the way makes comes by all places. -/
theorem closed_round (h : Srt l P) (hc : Closed (fol l P l.length)) : Round l := by
  have hn : 0 < l.length := by have := hc.full; rwa [fol_len] at this
  have sym : ∀ i, i < l.length → gs (fol l P l.length) i = gs l (fw P (i + 1)) := fun i hi => fol_at hi
  have last : gs l (fw P l.length) = 0 := by
    have h1 := hc.last
    rw [fol_len, sym _ (by omega), show l.length - 1 + 1 = l.length by omega] at h1
    exact h1
  have only : ∀ k, 1 ≤ k → k < l.length → gs l (fw P k) ≠ 0 := fun k h1 h2 => by
    have h3 := hc.only (k - 1) (by rw [fol_len]; omega)
    rw [sym _ (by omega), show k - 1 + 1 = k by omega] at h3
    exact h3
  have inj : ∀ i j, 1 ≤ i → i < j → j ≤ l.length → fw P i ≠ fw P j := fun i j h1 h2 h3 e => by
    have h4 := fw_shift h hn e (l.length - j)
    rw [show j + (l.length - j) = l.length by omega] at h4
    have h5 := only (i + (l.length - j)) (by omega) (by omega)
    rw [h4] at h5
    exact h5 last
  have perm : ((List.range l.length).map fun i => fw P (i + 1)).Perm (List.range l.length) := by
    refine range_of ?_ (fun x hx => ?_) (by simp)
    · rw [List.Nodup, List.pairwise_map, List.pairwise_iff_getElem]
      intro i j hi hj hij
      simp only [List.getElem_range]
      rw [List.length_range] at hi hj
      exact inj _ _ (by omega) (by omega) (by omega)
    · obtain ⟨y, _, rfl⟩ := List.mem_map.1 hx
      exact h.fw_lt hn _
  have find : ∀ p, p < l.length → ∃ k, 1 ≤ k ∧ k ≤ l.length ∧ fw P k = p := fun p hp => by
    obtain ⟨i, hi, e⟩ := List.mem_map.1 (perm.mem_iff.2 (List.mem_range.2 hp))
    have := List.mem_range.1 hi
    exact ⟨i + 1, by omega, by omega, e⟩
  have pos : Pos l := fun x hx => by
    obtain ⟨p, hp, e⟩ := List.getElem_of_mem hx
    obtain ⟨k, h1, h2, h3⟩ := find p hp
    have h4 := gs_pos hc.pos (p := k - 1) (by rw [fol_len]; omega)
    rw [sym _ (by omega), show k - 1 + 1 = k by omega, h3, gs_at (by rw [List.getElem?_eq_getElem hp, e])] at h4
    exact h4
  have uniq : ∀ p, p < l.length → gs l p = 0 → p = fw P l.length := fun p hp h0 => by
    obtain ⟨k, h1, h2, h3⟩ := find p hp
    rcases Nat.lt_or_ge k l.length with h4 | h4
    · rw [← h3] at h0
      exact absurd h0 (only k h1 h4)
    · rw [← h3, show k = l.length by omega]
  have step : ∀ k, lf l (fw P (k + 1)) = fw P k := fun k => h.lf_gn (h.fw_lt hn k)
  have zero : fw P (l.length - 1) = 0 := by
    have h1 := lf_zero pos last uniq
    rw [show l.length = l.length - 1 + 1 by omega, step] at h1
    exact h1
  have along : ∀ k, k < l.length → way l k = fw P (l.length - 1 - k) := fun k => by
    induction k with
    | zero => intro _; rw [Nat.sub_zero, zero]; rfl
    | succ k ih =>
      intro hk
      show lf l (way l k) = _
      rw [ih (by omega), show l.length - 1 - k = (l.length - 1 - (k + 1)) + 1 by omega, step]
  refine ⟨pos, hn, ⟨_, h.fw_lt hn _, last, uniq⟩, fun p hp => ?_⟩
  obtain ⟨k, h1, h2, h3⟩ := find p hp
  rcases Nat.lt_or_ge k l.length with h4 | h4
  · exact ⟨l.length - 1 - k, by omega, by rw [along _ (by omega), show l.length - 1 - (l.length - 1 - k) = k by omega, h3]⟩
  · refine ⟨l.length - 1, by omega, ?_⟩
    rw [along _ (by omega), Nat.sub_self, ← h3, show k = l.length by omega]
    have e1 : fw P l.length = gn P (fw P (l.length - 1)) := by
      conv => lhs; rw [show l.length = l.length - 1 + 1 by omega]
      rfl
    rw [e1, zero]
    rfl
theorem closed_turned (h : Srt l P) (hc : Closed (fol l P l.length)) : Turned (fol l P l.length) l := by
  have r := closed_round h hc
  rw [r.fol h]
  exact r.turned
end
end Go.Su

namespace Go.Su

/-- The row goes on as the pattern does, from x on. -/
def Pre (s : List Int) (x : Nat) (q : List Int) : Prop := ∀ j, j < q.length → gs s (x + j) = gs q j
/-- How many are less; how many are c among the first k. -/
def lsI (l : List Int) (c : Int) : Nat := l.countP fun x => decide (x < c)
def oc (l : List Int) (c : Int) (k : Nat) : Nat := (l.take k).countP fun x => decide (x = c)

section
variable {s l : List Int} {L : List Nat}
theorem pre_nil (s : List Int) (x : Nat) : Pre s x [] := fun j hj => absurd hj (by simp)
theorem pre_cons {x : Nat} {c : Int} {q : List Int} : Pre s x (c :: q) ↔ gs s x = c ∧ Pre s (x + 1) q := by
  constructor
  · intro h
    refine ⟨h 0 (by simp), fun j hj => ?_⟩
    have := h (j + 1) (by simpa using hj)
    rw [show x + 1 + j = x + (j + 1) by omega, this]
    rfl
  · rintro ⟨h1, h2⟩ j hj
    cases j with
    | zero => exact h1
    | succ j =>
      have := h2 j (by simpa using hj)
      rw [show x + (j + 1) = x + 1 + j by omega, this]
      rfl
theorem row_range (l : List Int) : (List.range l.length).map (gs l) = l := by
  refine List.ext_getElem? fun p => ?_
  rcases Nat.lt_or_ge p l.length with h | h
  · rw [List.getElem?_map, List.getElem?_range h, gs_some h]
    rfl
  · rw [List.getElem?_eq_none (by simpa using h), List.getElem?_eq_none h]
theorem take_range (l : List Int) {k : Nat} (hk : k ≤ l.length) : (List.range k).map (gs l) = l.take k := by
  have h := row_range l
  have h2 : ((List.range l.length).map (gs l)).take k = l.take k := by rw [h]
  rw [← h2, ← List.map_take]
  congr 1
  rw [List.take_range, Nat.min_eq_left hk]
theorem countP_and (p q : Nat → Bool) (hpq : ∀ x, p x = true → q x = true → False) : ∀ L : List Nat, L.countP (fun x => p x || q x) = L.countP p + L.countP q
  | [] => rfl
  | a :: L => by
    rw [List.countP_cons, List.countP_cons, List.countP_cons, countP_and p q hpq L]
    cases hp : p a <;> cases hq : q a <;> simp
    · omega
    · omega
    · exact (hpq a hp hq).elim
/-- The way by counts. -/
theorem lf_counts {i : Nat} (hi : i < l.length) : lf l i = lsI l (gs l i) + oc l (gs l i) i := by
  unfold lf lsI oc
  have e1 : (List.range l.length).countP (fun j => decide (Bef l j i)) = (List.range l.length).countP (fun j => decide (gs l j < gs l i) || decide (gs l j = gs l i ∧ j < i)) := by
    refine List.countP_congr fun j _ => ?_
    simp only [decide_eq_true_eq, Bool.or_eq_true]
    exact Iff.rfl
  rw [e1, countP_and _ _ (fun x h1 h2 => by simp at h1 h2; omega)]
  congr 1
  · conv => rhs; rw [← row_range l]
    rw [List.countP_map]
    refine List.countP_congr fun j _ => ?_
    simp [row_range]
  · rw [← take_range l (Nat.le_of_lt hi), List.countP_map]
    have e2 : List.range l.length = List.range i ++ (List.range (l.length - i)).map (fun x => i + x) := by
      rw [← List.range_add, show i + (l.length - i) = l.length by omega]
    rw [e2, List.countP_append]
    have e3 : ((List.range (l.length - i)).map (fun x => i + x)).countP (fun j => decide (gs l j = gs l i ∧ j < i)) = 0 := by
      rw [List.countP_eq_zero]
      intro y hy
      obtain ⟨z, _, rfl⟩ := List.mem_map.1 hy
      simp
    rw [e3, Nat.add_zero]
    refine List.countP_congr fun j hj => ?_
    have := List.mem_range.1 hj
    simp
    omega
theorem oc_next {c x : Int} {k : Nat} (h : l[k]? = some x) : oc l c (k + 1) = oc l c k + (if x = c then 1 else 0) := by
  unfold oc
  rw [List.take_add_one, h, Option.toList_some, List.countP_append]
  by_cases e : x = c <;> simp [e]
theorem oc_next' {c : Int} {k : Nat} (h : k < l.length) : oc l c (k + 1) = oc l c k + (if gs l k = c then 1 else 0) := oc_next (gs_some h)
theorem oc_mono {c : Int} {j : Nat} : ∀ {k : Nat}, j ≤ k → k ≤ l.length → oc l c j ≤ oc l c k
  | 0, h, _ => by
    obtain rfl : j = 0 := by omega
    exact Nat.le_refl _
  | k + 1, h, hk => by
    rcases Nat.lt_or_ge j (k + 1) with h1 | h1
    · have := oc_mono (c := c) (show j ≤ k by omega) (by omega)
      rw [oc_next' (by omega)]
      omega
    · obtain rfl : j = k + 1 := by omega
      exact Nat.le_refl _
/-- Between two places of other counts one has the count. -/
theorem oc_find {c : Int} {a r : Nat} : ∀ {b : Nat}, a ≤ b → b ≤ l.length → oc l c a ≤ r → r < oc l c b → ∃ i, a ≤ i ∧ i < b ∧ gs l i = c ∧ oc l c i = r
  | 0, h, _, h1, h2 => by
    obtain rfl : a = 0 := by omega
    omega
  | b + 1, h, hb, h1, h2 => by
    rcases Nat.lt_or_ge a (b + 1) with h3 | h3
    · rw [oc_next' (by omega)] at h2
      rcases Nat.lt_or_ge r (oc l c b) with h4 | h4
      · obtain ⟨i, g1, g2, g3⟩ := oc_find (show a ≤ b by omega) (by omega) h1 h4
        exact ⟨i, g1, by omega, g3⟩
      · by_cases e : gs l b = c
        · rw [if_pos e] at h2
          exact ⟨b, by omega, by omega, e, by omega⟩
        · rw [if_neg e] at h2
          omega
    · obtain rfl : a = b + 1 := by omega
      omega
/-- The endings that begin with a pattern: those from lo on, ahead of hi. -/
def Rng (s : List Int) (L : List Nat) (q : List Int) (lo hi : Nat) : Prop := lo ≤ hi ∧ hi ≤ s.length ∧ ∀ i x, L[i]? = some x → (Pre s x q ↔ lo ≤ i ∧ i < hi)
theorem rng_start (h : IsSA s L) : Rng s L [] 0 s.length := ⟨Nat.zero_le _, Nat.le_refl _, fun i x hx => by
  obtain ⟨h1, _⟩ := List.getElem?_eq_some_iff.1 hx
  have := h.len
  exact ⟨fun _ => by omega, fun _ => pre_nil s x⟩⟩
theorem Turned.at' (t : Turned s l) (h : IsSA s L) {i x : Nat} (hx : L[i]? = some x) : gs l i = gs s (prv s.length x) := t.at_ L h i x hx
theorem lsI_oc_le (c : Int) : lsI l c + oc l c l.length ≤ l.length := by
  unfold lsI oc
  rw [List.take_length]
  have h1 : l.countP (fun x => decide (x < c)) + l.countP (fun x => decide (x = c)) ≤ l.length := by
    induction l with
    | nil => simp
    | cons a l ih =>
      rw [List.countP_cons, List.countP_cons, List.length_cons]
      by_cases h1 : a < c
      · rw [if_pos (by simpa using h1), if_neg (by simp; omega)]
        omega
      · rw [if_neg (by simpa using h1)]
        split <;> omega
  exact h1
/-- One symbol more ahead. -/
theorem Rng.step (t : Turned s l) (h : IsSA s L) {q : List Int} {lo hi : Nat} (r : Rng s L q lo hi) {c : Int} (hc : c ≠ 0) : Rng s L (c :: q) (lsI l c + oc l c lo) (lsI l c + oc l c hi) := by
  obtain ⟨h1, h2, h3⟩ := r
  have hl := t.len
  have hcl := t.closed
  refine ⟨by have := oc_mono (l := l) (c := c) h1 (by omega); omega, ?_, fun j x hx => ?_⟩
  · have g1 := oc_mono (l := l) (c := c) (j := hi) (k := l.length) (by omega) (Nat.le_refl _)
    have g2 := lsI_oc_le (l := l) c
    omega
  · have hxn : x < s.length := (h.mem x).1 (List.mem_of_getElem? hx)
    rw [pre_cons]
    constructor
    · rintro ⟨e, hq⟩
      have hx1 : x + 1 < s.length := by
        rcases Nat.lt_or_ge (x + 1) s.length with g | g
        · exact g
        · have hl2 := hcl.last
          rw [show s.length - 1 = x by omega] at hl2
          rw [hl2] at e
          exact absurd e.symm hc
      obtain ⟨i, hi'⟩ := h.find hx1
      have hin : i < l.length := by
        obtain ⟨g, _⟩ := List.getElem?_eq_some_iff.1 hi'
        have := h.len
        omega
      obtain ⟨g1, g2⟩ := (h3 i _ hi').1 hq
      have hp : prv s.length (x + 1) = x := by unfold prv; rw [if_neg (by omega)]; omega
      have hli : gs l i = c := by rw [t.at' h hi', hp, e]
      have hst := t.step h hi'
      rw [hp] at hst
      have hj := at_one h.nodup hst hx
      rw [lf_counts hin, hli] at hj
      have g3 := oc_mono (l := l) (c := c) g1 (by omega)
      have g4 := oc_mono (l := l) (c := c) (j := i + 1) (k := hi) (by omega) (by omega)
      rw [oc_next' hin, if_pos hli] at g4
      omega
    · rintro ⟨g1, g2⟩
      obtain ⟨i, k1, k2, k3, k4⟩ := oc_find (l := l) (c := c) (a := lo) (b := hi) (r := j - lsI l c) h1 (by omega) (by omega) (by omega)
      obtain ⟨y, hy, hyn⟩ := h.has (i := i) (by omega)
      have hst := t.step h hy
      rw [lf_counts (by omega), k3, k4, show lsI l c + (j - lsI l c) = j by omega, hx] at hst
      have hxy : x = prv s.length y := Option.some.inj hst
      have hly := t.at' h hy
      rw [k3, ← hxy] at hly
      have hy0 : y ≠ 0 := fun e => by
        subst e
        have : x = s.length - 1 := by rw [hxy]; unfold prv; rw [if_pos rfl]
        rw [this, hcl.last] at hly
        exact hc hly
      have hx1 : x + 1 = y := by rw [hxy]; unfold prv; rw [if_neg hy0]; omega
      refine ⟨hly.symm, ?_⟩
      rw [hx1]
      exact (h3 i y hy).2 ⟨k1, k2⟩
end
end Go.Su

namespace Go.Su

/-- Texts of bytes, behind each a 1. -/
def body : List (List Int) → List Int
  | [] => []
  | t :: xss => t.map (fun b => b + 2) ++ 1 :: body xss
/-- The row of texts. -/
def txt (xss : List (List Int)) : List Int := body xss ++ [0]
/-- Where each text begins. -/
def beg (xss : List (List Int)) (d : Nat) : Nat := ((xss.take d).map fun t => t.length + 1).sum
/-- No byte below 0. -/
def PosB (xss : List (List Int)) : Prop := ∀ t ∈ xss, ∀ x ∈ t, 0 ≤ x
/-- A pattern stands in a text. -/
structure Occ (xss : List (List Int)) (p : List Int) (d a : Nat) : Prop where
  some : p ≠ []
  doc : d < xss.length
  fits : a + p.length ≤ (xss.getD d []).length
  same : ∀ j, j < p.length → gs (xss.getD d []) (a + j) = gs p j
/-- Its places in a text. -/
def ats (t p : List Int) : List Nat := if p = [] then [] else (List.range (t.length + 1 - p.length)).filter fun a => decide ((t.drop a).take p.length = p)
/-- Its places in the texts, in order. -/
def locs : List (List Int) → List Int → Nat → List (Nat × Nat)
  | [], _, _ => []
  | t :: xss, p, d => (ats t p).map (fun a => (d, a)) ++ locs xss p (d + 1)

section
variable {xss : List (List Int)} {t p : List Int} {d a x : Nat}
theorem body_len : ∀ xss : List (List Int), (body xss).length = beg xss xss.length
  | [] => rfl
  | t :: xss => by
    have ih := body_len xss
    unfold beg at *
    rw [List.take_length] at ih ⊢
    simp only [body, List.length_append, List.length_map, List.length_cons, List.map_cons, List.sum_cons]
    omega
theorem txt_len (xss : List (List Int)) : (txt xss).length = beg xss xss.length + 1 := by
  unfold txt
  rw [List.length_append, body_len]
  rfl
theorem beg_zero (xss : List (List Int)) : beg xss 0 = 0 := rfl
theorem beg_cons (t : List Int) (xss : List (List Int)) (d : Nat) : beg (t :: xss) (d + 1) = t.length + 1 + beg xss d := by
  unfold beg
  rw [List.take_succ_cons, List.map_cons, List.sum_cons]
theorem beg_next : ∀ (xss : List (List Int)) (d : Nat), d < xss.length → beg xss (d + 1) = beg xss d + ((xss.getD d []).length + 1)
  | [], d, h => absurd h (by simp)
  | t :: xss, 0, _ => by
    rw [beg_cons, beg_zero, beg_zero]
    simp
  | t :: xss, d + 1, h => by
    have := beg_next xss d (by simpa using h)
    rw [beg_cons, beg_cons, this]
    simp
    omega
theorem gs_app_left {u v : List Int} {p : Nat} (h : p < u.length) : gs (u ++ v) p = gs u p := by
  unfold gs
  rw [List.getD_eq_getElem?_getD, List.getD_eq_getElem?_getD, List.getElem?_append_left h]
theorem gs_app_right {u v : List Int} {p : Nat} (h : u.length ≤ p) : gs (u ++ v) p = gs v (p - u.length) := by
  unfold gs
  rw [List.getD_eq_getElem?_getD, List.getD_eq_getElem?_getD, List.getElem?_append_right h]
theorem gs_map2 {t : List Int} {a : Nat} (h : a < t.length) : gs (t.map fun b => b + 2) a = gs t a + 2 := gs_at (by rw [List.getElem?_map, gs_some h]; rfl)
theorem body_at : ∀ (xss : List (List Int)) (d a : Nat), d < xss.length → a < (xss.getD d []).length → gs (body xss) (beg xss d + a) = gs (xss.getD d []) a + 2
  | [], d, _, h, _ => absurd h (by simp)
  | t :: xss, 0, a, _, ha => by
    have ha' : a < t.length := ha
    rw [beg_zero, Nat.zero_add]
    show gs (t.map (fun b => b + 2) ++ 1 :: body xss) a = gs t a + 2
    rw [gs_app_left (by simpa using ha'), gs_map2 ha']
  | t :: xss, d + 1, a, h, ha => by
    have ih := body_at xss d a (by simpa using h) (by simpa using ha)
    rw [beg_cons]
    show gs (t.map (fun b => b + 2) ++ 1 :: body xss) _ = _
    rw [gs_app_right (by simp; omega), List.length_map, show t.length + 1 + beg xss d + a - t.length = (beg xss d + a) + 1 by omega]
    show gs (body xss) (beg xss d + a) = _
    rw [ih]
    simp
theorem body_end : ∀ (xss : List (List Int)) (d : Nat), d < xss.length → gs (body xss) (beg xss d + (xss.getD d []).length) = 1
  | [], d, h => absurd h (by simp)
  | t :: xss, 0, _ => by
    rw [beg_zero, Nat.zero_add]
    show gs (t.map (fun b => b + 2) ++ 1 :: body xss) t.length = 1
    rw [gs_app_right (by simp), List.length_map, Nat.sub_self]
    rfl
  | t :: xss, d + 1, h => by
    have ih := body_end xss d (by simpa using h)
    rw [beg_cons]
    show gs (t.map (fun b => b + 2) ++ 1 :: body xss) (t.length + 1 + beg xss d + (xss.getD d []).length) = _
    rw [gs_app_right (by simp; omega), List.length_map, show t.length + 1 + beg xss d + (xss.getD d []).length - t.length = (beg xss d + (xss.getD d []).length) + 1 by omega]
    exact ih
/-- Each place of the row but the last lies in a text, or is its end. -/
theorem spot_find : ∀ (xss : List (List Int)) (x : Nat), x < beg xss xss.length → ∃ d a, d < xss.length ∧ a ≤ (xss.getD d []).length ∧ x = beg xss d + a
  | [], x, h => absurd h (by simp [beg])
  | t :: xss, x, h => by
    rcases Nat.lt_or_ge x (t.length + 1) with h1 | h1
    · exact ⟨0, x, by simp, by simpa using by omega, by rw [beg_zero, Nat.zero_add]⟩
    · rw [List.length_cons, beg_cons] at h
      obtain ⟨d, a, g1, g2, g3⟩ := spot_find xss (x - (t.length + 1)) (by omega)
      exact ⟨d + 1, a, by simpa using g1, by simpa using g2, by rw [beg_cons]; omega⟩
theorem beg_mono (xss : List (List Int)) {d : Nat} : ∀ {e : Nat}, d ≤ e → e ≤ xss.length → beg xss d ≤ beg xss e
  | 0, h, _ => by
    obtain rfl : d = 0 := by omega
    exact Nat.le_refl _
  | e + 1, h, he => by
    rcases Nat.lt_or_ge d (e + 1) with h1 | h1
    · have := beg_mono xss (show d ≤ e by omega) (by omega)
      rw [beg_next xss e (by omega)]
      omega
    · obtain rfl : d = e + 1 := by omega
      exact Nat.le_refl _
/-- Places are in the order of texts, then of places in them. -/
theorem spot_lt {d e a b : Nat} (he : e < xss.length) (ha : a ≤ (xss.getD d []).length) (h : d < e ∨ (d = e ∧ a < b)) : beg xss d + a < beg xss e + b := by
  rcases h with h | ⟨rfl, h⟩
  · have h1 := beg_next xss d (by omega)
    have h2 := beg_mono xss (show d + 1 ≤ e by omega) (by omega)
    omega
  · omega
theorem spot_one {d e a b : Nat} (hd : d < xss.length) (he : e < xss.length) (ha : a ≤ (xss.getD d []).length) (hb : b ≤ (xss.getD e []).length) (h : beg xss d + a = beg xss e + b) : d = e ∧ a = b := by
  rcases Nat.lt_trichotomy d e with g | g | g
  · have := spot_lt (xss := xss) (a := a) (b := b) he ha (.inl g)
    omega
  · subst g
    exact ⟨rfl, by omega⟩
  · have := spot_lt (xss := xss) (a := b) (b := a) hd hb (.inl g)
    omega
theorem txt_in (x : Nat) (h : x < beg xss xss.length) : gs (txt xss) x = gs (body xss) x := by
  unfold txt
  exact gs_app_left (by rw [body_len]; exact h)
theorem txt_last : gs (txt xss) (beg xss xss.length) = 0 := by
  unfold txt
  rw [gs_app_right (by rw [body_len]; exact Nat.le_refl _), body_len, Nat.sub_self]
  rfl
theorem beg_lt {d a : Nat} (hd : d < xss.length) (ha : a ≤ (xss.getD d []).length) : beg xss d + a < beg xss xss.length := by
  have h1 := beg_next xss d hd
  have h2 := beg_mono xss (show d + 1 ≤ xss.length by omega) (Nat.le_refl _)
  omega
theorem txt_at {d a : Nat} (hd : d < xss.length) (ha : a < (xss.getD d []).length) : gs (txt xss) (beg xss d + a) = gs (xss.getD d []) a + 2 := by
  rw [txt_in _ (beg_lt hd (Nat.le_of_lt ha)), body_at _ _ _ hd ha]
theorem txt_end {d : Nat} (hd : d < xss.length) : gs (txt xss) (beg xss d + (xss.getD d []).length) = 1 := by
  rw [txt_in _ (beg_lt hd (Nat.le_refl _)), body_end _ _ hd]
theorem PosB.at_ (h : PosB xss) {d a : Nat} (hd : d < xss.length) (ha : a < (xss.getD d []).length) : 0 ≤ gs (xss.getD d []) a := by
  have e : xss.getD d [] = xss[d] := by rw [List.getD_eq_getElem?_getD, List.getElem?_eq_getElem hd]; rfl
  rw [e] at ha ⊢
  refine h xss[d] (List.getElem_mem hd) _ ?_
  rw [gs_at (List.getElem?_eq_getElem ha)]
  exact List.getElem_mem ha
theorem txt_closed (h : PosB xss) : Closed (txt xss) := by
  have hn := txt_len xss
  have key : ∀ x, x < beg xss xss.length → 0 < gs (txt xss) x := fun x hx => by
    obtain ⟨d, a, h1, h2, rfl⟩ := spot_find xss x hx
    rcases Nat.lt_or_ge a (xss.getD d []).length with h3 | h3
    · have := h.at_ h1 h3
      rw [txt_at h1 h3]
      omega
    · obtain rfl : a = (xss.getD d []).length := by omega
      rw [txt_end h1]
      omega
  refine ⟨fun v hv => ?_, by omega, by rw [hn, Nat.add_sub_cancel]; exact txt_last, fun q hq => ?_⟩
  · obtain ⟨q, hq, e⟩ := List.getElem_of_mem hv
    have e2 := gs_at (by rw [List.getElem?_eq_getElem hq, e] : (txt xss)[q]? = some v)
    rcases Nat.lt_or_ge q (beg xss xss.length) with h1 | h1
    · have := key q h1
      omega
    · rw [show q = beg xss xss.length by omega, txt_last] at e2
      omega
  · have := key q (by omega)
    omega
/-- Where a pattern stands in the row it stands in a text, and the other way round. -/
theorem pre_occ (hp : ∀ b ∈ p, 0 ≤ b) (h0 : p ≠ []) : Pre (txt xss) x (p.map fun b => b + 2) ↔ ∃ d a, x = beg xss d + a ∧ Occ xss p d a := by
  have hpl : 0 < p.length := by
    rcases p with _ | ⟨b, q⟩
    · exact absurd rfl h0
    · simp
  have hp2 : ∀ j, j < p.length → 2 ≤ gs (p.map fun b => b + 2) j ∧ gs (p.map fun b => b + 2) j = gs p j + 2 := fun j hj => by
    have h1 := gs_map2 hj
    have h2 : 0 ≤ gs p j := hp _ (by rw [gs_at (List.getElem?_eq_getElem hj)]; exact List.getElem_mem hj)
    omega
  constructor
  · intro h
    have hb : ∀ j, j < p.length → 2 ≤ gs (txt xss) (x + j) := fun j hj => by
      rw [h j (by rw [List.length_map]; exact hj)]
      exact (hp2 j hj).1
    have hlt : x < beg xss xss.length := by
      have h1 := hb 0 hpl
      rw [Nat.add_zero] at h1
      rcases Nat.lt_trichotomy x (beg xss xss.length) with g | g | g
      · exact g
      · rw [g, txt_last] at h1
        omega
      · rw [gs_out (by rw [txt_len]; omega)] at h1
        omega
    obtain ⟨d, a, h1, h2, rfl⟩ := spot_find xss x hlt
    have hfit : ∀ j, j ≤ p.length → a + j ≤ (xss.getD d []).length := fun j => by
      induction j with
      | zero => intro _; exact h2
      | succ j ih =>
        intro hj
        have h3 := ih (by omega)
        rcases Nat.lt_or_ge (a + j) (xss.getD d []).length with h4 | h4
        · omega
        · have h5 := hb j (by omega)
          rw [Nat.add_assoc, show a + j = (xss.getD d []).length by omega, txt_end h1] at h5
          omega
    refine ⟨d, a, rfl, h0, h1, hfit _ (Nat.le_refl _), fun j hj => ?_⟩
    have h3 := h j (by rw [List.length_map]; exact hj)
    rw [Nat.add_assoc, txt_at h1 (by have := hfit (j + 1) (by omega); omega), (hp2 j hj).2] at h3
    omega
  · rintro ⟨d, a, rfl, ho⟩ j hj
    rw [List.length_map] at hj
    have h1 := ho.fits
    rw [Nat.add_assoc, txt_at ho.doc (by omega), (hp2 j hj).2, ho.same j hj]
theorem occ_lt {e b : Nat} (h : Occ xss p d a) (g : Occ xss p e b) : beg xss d + a < beg xss e + b ↔ d < e ∨ (d = e ∧ a < b) := by
  have h1 := h.fits
  have g1 := g.fits
  constructor
  · intro hl
    rcases Nat.lt_trichotomy d e with k | k | k
    · exact .inl k
    · subst k
      exact .inr ⟨rfl, by omega⟩
    · have := spot_lt (xss := xss) (a := b) (b := a) h.doc (by omega) (.inl k)
      omega
  · exact spot_lt g.doc (by omega)
theorem take_eq_iff (t p : List Int) (a : Nat) (h : a + p.length ≤ t.length) : (t.drop a).take p.length = p ↔ ∀ j, j < p.length → gs t (a + j) = gs p j := by
  constructor
  · intro e j hj
    have h1 : ((t.drop a).take p.length)[j]? = p[j]? := by rw [e]
    rw [List.getElem?_take_of_lt hj, List.getElem?_drop, gs_some (by omega), gs_some hj] at h1
    exact Option.some.inj h1
  · intro g
    refine List.ext_getElem? fun j => ?_
    rcases Nat.lt_or_ge j p.length with h1 | h1
    · rw [List.getElem?_take_of_lt h1, List.getElem?_drop, gs_some (by omega), gs_some h1, g j h1]
    · rw [List.getElem?_eq_none (by rw [List.length_take]; omega), List.getElem?_eq_none h1]
theorem mem_ats : a ∈ ats t p ↔ p ≠ [] ∧ a + p.length ≤ t.length ∧ ∀ j, j < p.length → gs t (a + j) = gs p j := by
  unfold ats
  by_cases h0 : p = []
  · rw [if_pos h0]
    simp [h0]
  · rw [if_neg h0, List.mem_filter, List.mem_range, decide_eq_true_eq]
    constructor
    · rintro ⟨h1, h2⟩
      have h3 : a + p.length ≤ t.length := by omega
      exact ⟨h0, h3, (take_eq_iff t p a h3).1 h2⟩
    · rintro ⟨_, h1, h2⟩
      exact ⟨by omega, (take_eq_iff t p a h1).2 h2⟩
theorem mem_locs : ∀ (xss : List (List Int)) (k : Nat) (d a : Nat), (d, a) ∈ locs xss p k ↔ k ≤ d ∧ Occ xss p (d - k) a
  | [], k, d, a => by
    simp only [locs, List.not_mem_nil, false_iff]
    rintro ⟨_, h⟩
    have := h.doc
    simp at this
  | t :: xss, k, d, a => by
    have ih := mem_locs xss (k + 1) d a
    simp only [locs, List.mem_append, List.mem_map, Prod.mk.injEq]
    rw [ih]
    constructor
    · rintro (⟨b, hb, rfl, rfl⟩ | ⟨h1, h2⟩)
      · obtain ⟨g1, g2, g3⟩ := mem_ats.1 hb
        rw [Nat.sub_self]
        exact ⟨Nat.le_refl _, g1, by simp, g2, g3⟩
      · refine ⟨by omega, h2.some, ?_, ?_, ?_⟩
        · have := h2.doc
          simp
          omega
        · have := h2.fits
          rw [show d - k = (d - (k + 1)) + 1 by omega]
          exact this
        · have := h2.same
          rw [show d - k = (d - (k + 1)) + 1 by omega]
          exact this
    · rintro ⟨h1, h2⟩
      by_cases e : d = k
      · subst e
        rw [Nat.sub_self] at h2
        exact .inl ⟨a, mem_ats.2 ⟨h2.some, h2.fits, h2.same⟩, rfl, rfl⟩
      · right
        have e2 : d - k = (d - (k + 1)) + 1 := by omega
        rw [e2] at h2
        refine ⟨by omega, h2.some, ?_, h2.fits, h2.same⟩
        have := h2.doc
        simp at this
        omega
theorem ats_sorted (t p : List Int) : (ats t p).Pairwise (fun a b => a < b) := by
  unfold ats
  split
  · exact List.Pairwise.nil
  · exact List.Pairwise.filter _ List.pairwise_lt_range
theorem locs_sorted : ∀ (xss : List (List Int)) (k : Nat), (locs xss p k).Pairwise (fun u v => u.1 < v.1 ∨ (u.1 = v.1 ∧ u.2 < v.2))
  | [], k => List.Pairwise.nil
  | t :: xss, k => by
    simp only [locs]
    rw [List.pairwise_append]
    refine ⟨?_, locs_sorted xss (k + 1), fun u hu v hv => ?_⟩
    · rw [List.pairwise_map]
      exact (ats_sorted t p).imp fun h => .inr ⟨rfl, h⟩
    · obtain ⟨b, _, rfl⟩ := List.mem_map.1 hu
      obtain ⟨d, a⟩ := v
      have := ((mem_locs xss (k + 1) d a).1 hv).1
      exact .inl (by show k < d; omega)
end
end Go.Su
