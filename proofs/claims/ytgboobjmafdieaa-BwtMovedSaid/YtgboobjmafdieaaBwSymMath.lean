/-
  Plain mathematics of the library's stable sort, over no program: rows as functions, exchanges, ranges exchanged, rotation, one symbol moved, merging by rotation, blocks.
  Conditions: none; plain lemmas.
-/
import Derived.Test.YtgboobjmafdieaaBwStabMath
namespace Go.Su

/-- Two places exchanged. -/
def swp (f : Nat → Nat) (x y : Nat) : Nat → Nat := fun p => if p = y then f x else if p = x then f y else f p
/-- Two ranges exchanged. -/
def swr (f : Nat → Nat) (a b k : Nat) : Nat → Nat := fun p => if a ≤ p ∧ p < a + k then f (p - a + b) else if b ≤ p ∧ p < b + k then f (p - b + a) else f p
/-- Two neighbouring ranges, the other way about. -/
def rotn (f : Nat → Nat) (a m b : Nat) : Nat → Nat := fun p => if a ≤ p ∧ p < a + (b - m) then f (p - a + m) else if a + (b - m) ≤ p ∧ p < b then f (p - (b - m)) else f p
/-- What stands at a, moved up to k. -/
def mvu (f : Nat → Nat) (a k : Nat) : Nat → Nat := fun p => if a ≤ p ∧ p < k then f (p + 1) else if p = k then f a else f p
/-- What stands at m, moved down to k. -/
def mvd (f : Nat → Nat) (m k : Nat) : Nat → Nat := fun p => if k < p ∧ p ≤ m then f (p - 1) else if p = k then f m else f p

theorem swr_zero (f : Nat → Nat) (a b : Nat) : swr f a b 0 = f := by
  funext p
  unfold swr
  rw [if_neg (by omega), if_neg (by omega)]
theorem swr_next {f : Nat → Nat} {a b k : Nat} (h : a + (k + 1) ≤ b) : swp (swr f a b k) (a + k) (b + k) = swr f a b (k + 1) := by
  funext p
  unfold swp swr
  repeat' split
  all_goals first | omega | rfl | (congr 1; omega)
theorem rot_left {f : Nat → Nat} {m i j : Nat} (h : j < i) (hm : i ≤ m) : rotn (swr f (m - i) m j) (m - (i - j)) m (m + j) = rotn f (m - i) m (m + j) := by
  funext p
  unfold rotn swr
  repeat' split
  all_goals first | omega | rfl | (congr 1; omega)
theorem rot_right {f : Nat → Nat} {m i j : Nat} (h : i < j) (hm : i ≤ m) : rotn (swr f (m - i) (m + j - i) i) (m - i) m (m + (j - i)) = rotn f (m - i) m (m + j) := by
  funext p
  unfold rotn swr
  repeat' split
  all_goals first | omega | rfl | (congr 1; omega)
theorem rot_end {f : Nat → Nat} {m i : Nat} (hm : i ≤ m) : swr f (m - i) m i = rotn f (m - i) m (m + i) := by
  funext p
  unfold rotn swr
  repeat' split
  all_goals first | omega | rfl | (congr 1; omega)
theorem rot_none1 {f : Nat → Nat} {m b : Nat} : rotn f m m b = f := by
  funext p
  unfold rotn
  repeat' split
  all_goals first | omega | rfl | (congr 1; omega)
theorem rot_none2 {f : Nat → Nat} {a m : Nat} : rotn f a m m = f := by
  funext p
  unfold rotn
  repeat' split
  all_goals first | omega | rfl | (congr 1; omega)
theorem mvu_start (f : Nat → Nat) (a : Nat) : mvu f a a = f := by
  funext p
  unfold mvu
  repeat' split
  all_goals first | omega | rfl | (congr 1; omega)
theorem mvu_next {f : Nat → Nat} {a k : Nat} (h : a ≤ k) : swp (mvu f a k) k (k + 1) = mvu f a (k + 1) := by
  funext p
  unfold swp mvu
  repeat' split
  all_goals first | omega | rfl | (congr 1; omega)
theorem mvd_start (f : Nat → Nat) (m : Nat) : mvd f m m = f := by
  funext p
  unfold mvd
  repeat' split
  all_goals first | omega | rfl | (congr 1; omega)
theorem mvd_next {f : Nat → Nat} {m k : Nat} (h : k + 1 ≤ m) : swp (mvd f m (k + 1)) (k + 1) k = mvd f m k := by
  funext p
  unfold swp mvd
  repeat' split
  all_goals first | omega | rfl | (congr 1; omega)
theorem mvd_here (f : Nat → Nat) (m k : Nat) : mvd f m k k = f m := by
  unfold mvd
  rw [if_neg (by omega), if_pos rfl]
theorem mvd_ahead {f : Nat → Nat} {m k : Nat} : mvd f m (k + 1) k = f k := by
  unfold mvd
  rw [if_neg (by omega), if_neg (by omega)]

/-- Sorted from a on, ahead of b. -/
def SrtOn (l : List Int) (f : Nat → Nat) (a b : Nat) : Prop := ∀ i j, a ≤ i → i < j → j < b → Bef l (f i) (f j)
/-- The same between a and b but for the order, the same elsewhere. -/
structure Frm (f f' : Nat → Nat) (a b : Nat) : Prop where
  inn : ∀ p, a ≤ p → p < b → ∃ q, a ≤ q ∧ q < b ∧ f' p = f q
  out : ∀ p, p < a ∨ b ≤ p → f' p = f p
/-- What merging asks. -/
structure Mpre (l : List Int) (f : Nat → Nat) (a m b : Nat) : Prop where
  am : a < m
  mb : m < b
  left : SrtOn l f a m
  right : SrtOn l f m b
  cross : ∀ i j, a ≤ i → i < m → m ≤ j → j < b → f i < f j
/-- What a merge leaves. -/
structure Mpost (l : List Int) (f f' : Nat → Nat) (a b : Nat) : Prop where
  srt : SrtOn l f' a b
  frm : Frm f f' a b

section
variable {l : List Int} {f f' f2 f3 : Nat → Nat} {a m b : Nat}
theorem bef_of {x y : Nat} (hc : gs l y < gs l x) : Bef l y x := .inl hc
theorem bef_not {x y : Nat} (h : x < y) (hc : ¬ gs l y < gs l x) : Bef l x y := by
  unfold Bef
  omega
theorem Frm.refl (f : Nat → Nat) (a b : Nat) : Frm f f a b := ⟨fun p h1 h2 => ⟨p, h1, h2, rfl⟩, fun _ _ => rfl⟩
theorem Frm.trans (h : Frm f f2 a b) (g : Frm f2 f3 a b) : Frm f f3 a b := by
  refine ⟨fun p h1 h2 => ?_, fun p hp => by rw [g.out p hp, h.out p hp]⟩
  obtain ⟨q, h3, h4, e⟩ := g.inn p h1 h2
  obtain ⟨r, h5, h6, e2⟩ := h.inn q h3 h4
  exact ⟨r, h5, h6, by rw [e, e2]⟩
theorem Frm.wide {c d : Nat} (h : Frm f f2 a b) (h1 : c ≤ a) (h2 : b ≤ d) : Frm f f2 c d := by
  refine ⟨fun p h3 h4 => ?_, fun p hp => h.out p (by omega)⟩
  by_cases hp : a ≤ p ∧ p < b
  · obtain ⟨q, h5, h6, e⟩ := h.inn p hp.1 hp.2
    exact ⟨q, by omega, by omega, e⟩
  · exact ⟨p, h3, h4, h.out p (by omega)⟩
theorem frm_rot (h1 : a ≤ m) (h2 : m ≤ b) : Frm f (rotn f a m b) a b := by
  refine ⟨fun p h3 h4 => ?_, fun p hp => ?_⟩
  · unfold rotn
    by_cases h : p < a + (b - m)
    · exact ⟨p - a + m, by omega, by omega, by rw [if_pos (by omega)]⟩
    · exact ⟨p - (b - m), by omega, by omega, by rw [if_neg (by omega), if_pos (by omega)]⟩
  · unfold rotn
    rw [if_neg (by omega), if_neg (by omega)]
theorem frm_mvu {k : Nat} (h1 : a ≤ k) (h2 : k < b) : Frm f (mvu f a k) a b := by
  refine ⟨fun p h3 h4 => ?_, fun p hp => ?_⟩
  · unfold mvu
    rcases Nat.lt_trichotomy p k with h | h | h
    · exact ⟨p + 1, by omega, by omega, by rw [if_pos (by omega)]⟩
    · exact ⟨a, by omega, by omega, by rw [if_neg (by omega), if_pos h]⟩
    · exact ⟨p, by omega, by omega, by rw [if_neg (by omega), if_neg (by omega)]⟩
  · unfold mvu
    rw [if_neg (by omega), if_neg (by omega)]
theorem frm_mvd {k : Nat} (h1 : a ≤ k) (h2 : k ≤ m) : Frm f (mvd f m k) a (m + 1) := by
  refine ⟨fun p h3 h4 => ?_, fun p hp => ?_⟩
  · unfold mvd
    rcases Nat.lt_trichotomy p k with h | h | h
    · exact ⟨p, by omega, by omega, by rw [if_neg (by omega), if_neg (by omega)]⟩
    · exact ⟨m, by omega, by omega, by rw [if_neg (by omega), if_pos h]⟩
    · exact ⟨p - 1, by omega, by omega, by rw [if_pos (by omega)]⟩
  · unfold mvd
    rw [if_neg (by omega), if_neg (by omega)]
/-- One moved up among those sorted. -/
theorem srt_mvu {i : Nat} (hs : SrtOn l f (a + 1) b) (h1 : a < i) (h2 : i ≤ b) (hlo : ∀ j, a + 1 ≤ j → j < i → Bef l (f j) (f a)) (hhi : ∀ j, i ≤ j → j < b → Bef l (f a) (f j)) : SrtOn l (mvu f a (i - 1)) a b := by
  intro p q hp hpq hq
  unfold mvu
  rcases Nat.lt_trichotomy p (i - 1) with h | h | h
  · rw [if_pos (by omega)]
    rcases Nat.lt_trichotomy q (i - 1) with g | g | g
    · rw [if_pos (by omega)]
      exact hs _ _ (by omega) (by omega) (by omega)
    · rw [if_neg (by omega), if_pos g]
      exact hlo _ (by omega) (by omega)
    · rw [if_neg (by omega), if_neg (by omega)]
      exact hs _ _ (by omega) (by omega) (by omega)
  · rw [if_neg (by omega), if_pos h, if_neg (by omega), if_neg (by omega)]
    exact hhi _ (by omega) hq
  · rw [if_neg (by omega), if_neg (by omega), if_neg (by omega), if_neg (by omega)]
    exact hs _ _ (by omega) hpq hq
/-- One moved down among those sorted. -/
theorem srt_mvd {k : Nat} (hs : SrtOn l f a m) (h1 : a ≤ k) (h2 : k ≤ m) (hlo : ∀ j, a ≤ j → j < k → Bef l (f j) (f m)) (hhi : ∀ j, k ≤ j → j < m → Bef l (f m) (f j)) : SrtOn l (mvd f m k) a (m + 1) := by
  intro p q hp hpq hq
  unfold mvd
  rcases Nat.lt_trichotomy p k with h | h | h
  · rw [if_neg (by omega), if_neg (by omega)]
    rcases Nat.lt_trichotomy q k with g | g | g
    · rw [if_neg (by omega), if_neg (by omega)]
      exact hs _ _ (by omega) (by omega) (by omega)
    · rw [if_neg (by omega), if_pos g]
      exact hlo _ (by omega) (by omega)
    · rw [if_pos (by omega)]
      exact hs _ _ (by omega) (by omega) (by omega)
  · rw [if_neg (by omega), if_pos h, if_pos (by omega)]
    exact hhi _ (by omega) (by omega)
  · rw [if_pos (by omega), if_pos (by omega)]
    exact hs _ _ (by omega) (by omega) (by omega)

/-- What a search among those behind has found out: the first one ahead. -/
structure FndU (l : List Int) (f : Nat → Nat) (a b lo hi : Nat) : Prop where
  lh : lo ≤ hi
  hb : hi ≤ b
  al : a < lo
  low : ∀ j, a + 1 ≤ j → j < lo → Bef l (f j) (f a)
  high : ∀ j, hi ≤ j → j < b → Bef l (f a) (f j)
theorem fndU_start (h : a + 1 < b) : FndU l f a b (a + 1) b := ⟨by omega, Nat.le_refl _, by omega, fun j h1 h2 => absurd h1 (by omega), fun j h1 h2 => absurd h1 (by omega)⟩
theorem FndU.less {lo hi h : Nat} (g : FndU l f a b lo hi) (p : Mpre l f a (a + 1) b) (h1 : lo ≤ h) (h2 : h < hi) (hc : gs l (f h) < gs l (f a)) : FndU l f a b (h + 1) hi := by
  have ha := g.al
  have hb := g.hb
  have hx := bef_of hc
  refine ⟨by omega, g.hb, by omega, fun j h3 h4 => ?_, g.high⟩
  rcases Nat.lt_or_ge j h with h5 | h5
  · exact (p.right j h (by omega) h5 (by omega)).trans hx
  · obtain rfl : j = h := by omega
    exact hx
theorem FndU.more {lo hi h : Nat} (g : FndU l f a b lo hi) (p : Mpre l f a (a + 1) b) (h1 : lo ≤ h) (h2 : h < hi) (hc : ¬ gs l (f h) < gs l (f a)) : FndU l f a b lo h := by
  have ha := g.al
  have hb := g.hb
  have hx := bef_not (p.cross a h (Nat.le_refl _) (by omega) (by omega) (by omega)) hc
  refine ⟨h1, by omega, g.al, g.low, fun j h3 h4 => ?_⟩
  rcases Nat.lt_or_ge h j with h5 | h5
  · exact hx.trans (p.right h j (by omega) h5 (by omega))
  · obtain rfl : j = h := by omega
    exact hx
theorem FndU.done {i : Nat} (g : FndU l f a b i i) (p : Mpre l f a (a + 1) b) : Mpost l f (mvu f a (i - 1)) a b := by
  have ha := g.al
  have hb := g.hb
  exact ⟨srt_mvu p.right ha g.hb g.low g.high, frm_mvu (by omega) (by omega)⟩
/-- .. and among those ahead. -/
structure FndD (l : List Int) (f : Nat → Nat) (a m lo hi : Nat) : Prop where
  lh : lo ≤ hi
  hb : hi ≤ m
  al : a ≤ lo
  low : ∀ j, a ≤ j → j < lo → Bef l (f j) (f m)
  high : ∀ j, hi ≤ j → j < m → Bef l (f m) (f j)
theorem fndD_start (h : a < m) : FndD l f a m a m := ⟨by omega, Nat.le_refl _, Nat.le_refl _, fun j h1 h2 => absurd h1 (by omega), fun j h1 h2 => absurd h1 (by omega)⟩
theorem FndD.less {lo hi h : Nat} (g : FndD l f a m lo hi) (p : Mpre l f a m (m + 1)) (h1 : lo ≤ h) (h2 : h < hi) (hc : ¬ gs l (f m) < gs l (f h)) : FndD l f a m (h + 1) hi := by
  have ha := g.al
  have hb := g.hb
  have hx := bef_not (p.cross h m (by omega) (by omega) (Nat.le_refl _) (by omega)) hc
  refine ⟨by omega, g.hb, by omega, fun j h3 h4 => ?_, g.high⟩
  rcases Nat.lt_or_ge j h with h5 | h5
  · exact (p.left j h (by omega) h5 (by omega)).trans hx
  · obtain rfl : j = h := by omega
    exact hx
theorem FndD.more {lo hi h : Nat} (g : FndD l f a m lo hi) (p : Mpre l f a m (m + 1)) (h1 : lo ≤ h) (h2 : h < hi) (hc : gs l (f m) < gs l (f h)) : FndD l f a m lo h := by
  have ha := g.al
  have hb := g.hb
  have hx := bef_of hc
  refine ⟨h1, by omega, g.al, g.low, fun j h3 h4 => ?_⟩
  rcases Nat.lt_or_ge h j with h5 | h5
  · exact hx.trans (p.left h j (by omega) h5 (by omega))
  · obtain rfl : j = h := by omega
    exact hx
theorem FndD.done {i : Nat} (g : FndD l f a m i i) (p : Mpre l f a m (m + 1)) : Mpost l f (mvd f m i) a (m + 1) :=
  ⟨srt_mvd p.left g.al g.hb g.low g.high, frm_mvd g.al g.hb⟩

/-- The search on both sides of the middle: what is ahead of the middle is exchanged for what is behind it from here on. N is the sum of the two places that are held against each other, and one. -/
structure FndS (l : List Int) (f : Nat → Nat) (a m b N lo0 hi0 lo hi : Nat) : Prop where
  lh : lo ≤ hi
  l0 : lo0 ≤ lo
  h0 : hi ≤ hi0
  low : lo0 < lo → Bef l (f (lo - 1)) (f (N - lo))
  high : hi < hi0 → Bef l (f (N - 1 - hi)) (f hi)
/-- The bounds of that search. -/
structure Bnd (a m b N lo0 hi0 : Nat) : Prop where
  al : a ≤ lo0
  hm : hi0 ≤ m
  mn : m + hi0 ≤ N
  nb : N ≤ lo0 + b
  lh : lo0 ≤ hi0
  ea : lo0 = a ∨ N = lo0 + b
  eh : hi0 = m ∨ N = hi0 + m
theorem bnd_less {mid : Nat} (h2 : m < b) (hmid : mid = (a + b) / 2) (h : mid < m) : Bnd a m b (mid + m) (mid + m - b) mid := ⟨by omega, by omega, by omega, by omega, by omega, .inr (by omega), .inr rfl⟩
theorem bnd_more {mid : Nat} (h1 : a < m) (hmid : mid = (a + b) / 2) (h : m ≤ mid) : Bnd a m b (mid + m) a m := ⟨by omega, by omega, by omega, by omega, by omega, .inl rfl, .inl rfl⟩
theorem fndS_start {N lo0 hi0 : Nat} (g : Bnd a m b N lo0 hi0) : FndS l f a m b N lo0 hi0 lo0 hi0 := ⟨g.lh, Nat.le_refl _, Nat.le_refl _, fun h => absurd h (by omega), fun h => absurd h (by omega)⟩
theorem FndS.less {N lo0 hi0 lo hi c : Nat} (g : FndS l f a m b N lo0 hi0 lo hi) (n : Bnd a m b N lo0 hi0) (p : Mpre l f a m b) (h1 : lo ≤ c) (h2 : c < hi) (hc : ¬ gs l (f (N - 1 - c)) < gs l (f c)) : FndS l f a m b N lo0 hi0 (c + 1) hi := by
  have g1 := g.l0
  have g2 := g.h0
  have n1 := n.al
  have n2 := n.hm
  have n3 := n.mn
  have n4 := n.nb
  have hx := bef_not (p.cross c (N - 1 - c) (by omega) (by omega) (by omega) (by omega)) hc
  refine ⟨by omega, by omega, g2, fun _ => ?_, g.high⟩
  rw [show c + 1 - 1 = c by omega, show N - (c + 1) = N - 1 - c by omega]
  exact hx
theorem FndS.more {N lo0 hi0 lo hi c : Nat} (g : FndS l f a m b N lo0 hi0 lo hi) (n : Bnd a m b N lo0 hi0) (h1 : lo ≤ c) (h2 : c < hi) (hc : gs l (f (N - 1 - c)) < gs l (f c)) : FndS l f a m b N lo0 hi0 lo c := by
  have g1 := g.l0
  have g2 := g.h0
  have n1 := n.al
  have n2 := n.hm
  have n3 := n.mn
  have n4 := n.nb
  have hx := bef_of hc
  exact ⟨h1, g1, by omega, g.low, fun _ => hx⟩
end
end Go.Su
