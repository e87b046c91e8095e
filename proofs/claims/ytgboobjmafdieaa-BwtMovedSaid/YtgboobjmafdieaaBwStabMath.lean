/-
  Plain mathematics of a sort by merging that keeps what is alike as it stands: blocks of a width, and of twice the width. Over no program.
  Conditions: none; plain lemmas.
-/
import Derived.Test.YtgboobjmafdieaaBwMath
namespace Go.Su

/-- Sorted by symbols, alike ones as they stand. -/
structure Srt (l : List Int) (P : List Nat) : Prop where
  len : P.length = l.length
  lt : ∀ x ∈ P, x < l.length
  ord : ∀ (i j x y : Nat), i < j → P[i]? = some x → P[j]? = some y → Bef l x y
theorem Srt.nodup {l : List Int} {P : List Nat} (h : Srt l P) : P.Nodup := by
  rw [List.Nodup, List.pairwise_iff_getElem]
  intro i j hi hj hij e
  have := h.ord i j _ _ hij (List.getElem?_eq_getElem hi) (List.getElem?_eq_getElem hj)
  rw [e] at this
  exact this.irrefl
theorem Srt.find {l : List Int} {P : List Nat} (h : Srt l P) {x : Nat} (hx : x < l.length) : ∃ i : Nat, P[i]? = some x := by
  have hp := range_of h.nodup h.lt (by rw [h.len]; exact Nat.le_refl _)
  obtain ⟨i, hi, e⟩ := List.getElem_of_mem (hp.mem_iff.2 (List.mem_range.2 hx))
  exact ⟨i, by rw [List.getElem?_eq_getElem hi, e]⟩
/-- Where one stands is where its way goes. -/
theorem Srt.lf {l : List Int} {P : List Nat} (h : Srt l P) {i x : Nat} (hi : P[i]? = some x) : lf l x = i := by
  have look : ∀ x, ∃ i, x < l.length → P[i]? = some x := fun x => by
    rcases Nat.lt_or_ge x l.length with h1 | h1
    · obtain ⟨i, hi⟩ := h.find h1
      exact ⟨i, fun _ => hi⟩
    · exact ⟨0, fun h2 => absurd h2 (by omega)⟩
  obtain ⟨f, hf⟩ := Classical.axiomOfChoice look
  have hx : x < l.length := h.lt x (List.mem_of_getElem? hi)
  rw [lf_unique (f := f) (fun a ha => by
    obtain ⟨h1, _⟩ := List.getElem?_eq_some_iff.1 (hf a ha)
    rw [← h.len]
    exact h1) (fun a b ha hb e => by
    have h1 := hf a ha
    rw [e, hf b hb] at h1
    exact (Option.some.inj h1).symm) (fun a b ha hb => by
    have h1 := hf a ha
    have h2 := hf b hb
    constructor
    · intro h3
      exact h.ord _ _ a b h3 h1 h2
    · intro h3
      rcases Nat.lt_trichotomy (f a) (f b) with h4 | h4 | h4
      · exact h4
      · rw [h4, h2] at h1
        obtain rfl := Option.some.inj h1
        exact h3.irrefl.elim
      · exact (h3.trans (h.ord _ _ b a h4 h2 h1)).irrefl.elim) hx]
  exact at_one h.nodup (hf x hx) hi

theorem mult_one {d a b t : Nat} (ha : d ∣ a) (hb : d ∣ b) (h1 : a ≤ t) (h2 : t < a + d) (h3 : b ≤ t) (h4 : t < b + d) : a = b := by
  rcases Nat.le_total a b with h | h
  · have := Nat.eq_zero_of_dvd_of_lt (Nat.dvd_sub hb ha) (show b - a < d by omega)
    omega
  · have := Nat.eq_zero_of_dvd_of_lt (Nat.dvd_sub ha hb) (show a - b < d by omega)
    omega
/-- Sorted within each block of a width. -/
structure Wd (l : List Int) (w : Nat) (p : List Nat) : Prop where
  lt : ∀ x ∈ p, x < l.length
  blk : ∀ (b : Nat), w ∣ b → ∀ (i x : Nat), p[i]? = some x → b ≤ i → i < b + w → b ≤ x ∧ x < b + w
  ord : ∀ (b : Nat), w ∣ b → ∀ (i j x y : Nat), b ≤ i → i < j → j < b + w → p[i]? = some x → p[j]? = some y → Bef l x y
theorem wd_start (l : List Int) : Wd l 1 (List.range l.length) := by
  refine ⟨fun x hx => List.mem_range.1 hx, fun b _ i x hx h1 h2 => ?_, fun b _ i j x y h1 h2 h3 => absurd h2 (by omega)⟩
  obtain ⟨h3, h4⟩ := List.getElem?_eq_some_iff.1 hx
  rw [List.getElem_range] at h4
  omega
theorem Wd.srt {l : List Int} {w : Nat} {p : List Nat} (h : Wd l w p) (hl : p.length = l.length) (hw : l.length ≤ w) : Srt l p :=
  ⟨hl, h.lt, fun i j x y hij hx hy => h.ord 0 (Nat.dvd_zero w) i j x y (Nat.zero_le _) hij (by
    obtain ⟨h1, _⟩ := List.getElem?_eq_some_iff.1 hy
    omega) hx hy⟩
/-- Merging the two blocks from a on; the first of what is left are i and k. -/
structure Mg (l : List Int) (w : Nat) (p : List Nat) (a m z i k : Nat) (q : List Nat) : Prop where
  wd : Wd l (2 * w) q
  len : q.length + m = i + k
  ai : a ≤ i
  im : i ≤ m
  mk2 : m ≤ k
  kz : k ≤ z
  left : ∀ (t x : Nat), a ≤ t → q[t]? = some x → ∀ (j y : Nat), i ≤ j → j < m → p[j]? = some y → Bef l x y
  right : ∀ (t x : Nat), a ≤ t → q[t]? = some x → ∀ (j y : Nat), k ≤ j → j < z → p[j]? = some y → Bef l x y
section
variable {l : List Int} {w a m z i k : Nat} {p q : List Nat}
theorem mg_start (h : Wd l (2 * w) q) (hq : q.length = a) (ham : a ≤ m) (hmz : m ≤ z) : Mg l w p a m z a m q :=
  ⟨h, by omega, Nat.le_refl _, ham, Nat.le_refl _, hmz, fun t x ht hx => by
    obtain ⟨h1, _⟩ := List.getElem?_eq_some_iff.1 hx
    omega, fun t x ht hx => by
    obtain ⟨h1, _⟩ := List.getElem?_eq_some_iff.1 hx
    omega⟩
theorem snoc_at {q : List Nat} {v t x : Nat} (h : (q ++ [v])[t]? = some x) : (t < q.length ∧ q[t]? = some x) ∨ (t = q.length ∧ x = v) := by
  rcases Nat.lt_trichotomy t q.length with h1 | h1 | h1
  · rw [List.getElem?_append_left h1] at h
    exact .inl ⟨h1, h⟩
  · subst h1
    rw [List.getElem?_append_right (Nat.le_refl _), Nat.sub_self] at h
    exact .inr ⟨rfl, (Option.some.inj h).symm⟩
  · rw [List.getElem?_eq_none (by rw [List.length_append]; simp; omega)] at h
    cases h
/-- One more, if it lies in the block and comes behind all of the block that are there. -/
theorem Wd.snoc {v : Nat} (h : Wd l (2 * w) q) (ha : 2 * w ∣ a) (h1 : a ≤ q.length) (h2 : q.length < a + 2 * w) (hv : v < l.length) (hv1 : a ≤ v) (hv2 : v < a + 2 * w) (hb : ∀ t x, a ≤ t → q[t]? = some x → Bef l x v) : Wd l (2 * w) (q ++ [v]) := by
  refine ⟨fun x hx => ?_, fun b hbd t x hx h3 h4 => ?_, fun b hbd s t x y h3 h4 h5 hx hy => ?_⟩
  · rcases List.mem_append.1 hx with h6 | h6
    · exact h.lt x h6
    · simp at h6
      omega
  · rcases snoc_at hx with ⟨_, h6⟩ | ⟨h6, h7⟩
    · exact h.blk b hbd t x h6 h3 h4
    · have := mult_one ha hbd h1 h2 (by omega) (by omega)
      omega
  · rcases snoc_at hy with ⟨h8, h6⟩ | ⟨h6, h7⟩
    · rcases snoc_at hx with ⟨_, h9⟩ | ⟨h9, _⟩
      · exact h.ord b hbd s t x y h3 h4 h5 h9 h6
      · omega
    · have hab := mult_one ha hbd h1 h2 (by omega) (by omega)
      rcases snoc_at hx with ⟨_, h9⟩ | ⟨h9, _⟩
      · rw [h7]
        exact hb s x (by omega) h9
      · omega
theorem Mg.takeLeft {x : Nat} (g : Mg l w p a m z i k q) (h : Wd l w p) (ha : 2 * w ∣ a) (hm : m ≤ a + w) (hmk : m = a + w ∨ z ≤ m) (hz : z ≤ a + 2 * w) (him : i < m) (hx : p[i]? = some x) (hc : z ≤ k ∨ ∀ y, p[k]? = some y → gs l x ≤ gs l y) : Mg l w p a m z (i + 1) k (q ++ [x]) := by
  have ha1 : w ∣ a := Nat.dvd_trans ⟨2, by omega⟩ ha
  have ha2 : w ∣ a + w := Nat.dvd_add ha1 (Nat.dvd_refl w)
  have g1 := g.ai
  have g2 := g.len
  have g3 := g.mk2
  have g4 := g.kz
  have hxb := h.blk a ha1 i x hx g1 (by omega)
  have hxl := h.lt x (List.mem_of_getElem? hx)
  have toLeft : ∀ j y, i + 1 ≤ j → j < m → p[j]? = some y → Bef l x y := fun j y h1 h2 hy => h.ord a ha1 i j x y g1 (by omega) (by omega) hx hy
  have toRight : ∀ j y, k ≤ j → j < z → p[j]? = some y → Bef l x y := fun j y h1 h2 hy => by
    have hkz : k < z := by omega
    have hma : m = a + w := by omega
    have hyb := h.blk (a + w) ha2 j y hy (by omega) (by omega)
    rcases hc with hc | hc
    · omega
    · obtain ⟨y0, hy0⟩ : ∃ y0, p[k]? = some y0 := by
        obtain ⟨h5, _⟩ := List.getElem?_eq_some_iff.1 hy
        exact ⟨p[k]'(by omega), List.getElem?_eq_getElem _⟩
      have h5 := hc y0 hy0
      have h6 : gs l y0 ≤ gs l y := by
        rcases Nat.lt_or_ge k j with h7 | h7
        · have := h.ord (a + w) ha2 k j y0 y (by omega) h7 (by omega) hy0 hy
          unfold Bef at this
          omega
        · obtain rfl : k = j := by omega
          obtain rfl := Option.some.inj (hy0.symm.trans hy)
          omega
      unfold Bef
      omega
  refine ⟨g.wd.snoc ha (by omega) (by omega) hxl hxb.1 (by omega) (fun t y ht hy => g.left t y ht hy i x (Nat.le_refl _) him hx), by rw [List.length_append]; simp; omega, by omega, him, g3, g4, fun t y ht hy j u h1 h2 hu => ?_, fun t y ht hy j u h1 h2 hu => ?_⟩
  · rcases snoc_at hy with ⟨_, h6⟩ | ⟨_, rfl⟩
    · exact g.left t y ht h6 j u (by omega) h2 hu
    · exact toLeft j u h1 h2 hu
  · rcases snoc_at hy with ⟨_, h6⟩ | ⟨_, rfl⟩
    · exact g.right t y ht h6 j u h1 h2 hu
    · exact toRight j u h1 h2 hu
theorem Mg.takeRight {y : Nat} (g : Mg l w p a m z i k q) (h : Wd l w p) (ha : 2 * w ∣ a) (hm : m = a + w) (hz : z ≤ a + 2 * w) (hkz : k < z) (hy : p[k]? = some y) (hc : m ≤ i ∨ ∀ x, p[i]? = some x → gs l y < gs l x) : Mg l w p a m z i (k + 1) (q ++ [y]) := by
  have ha1 : w ∣ a := Nat.dvd_trans ⟨2, by omega⟩ ha
  have ha2 : w ∣ a + w := Nat.dvd_add ha1 (Nat.dvd_refl w)
  have g1 := g.ai
  have g2 := g.len
  have g3 := g.mk2
  have g4 := g.im
  have hyb := h.blk (a + w) ha2 k y hy (by omega) (by omega)
  have hyl := h.lt y (List.mem_of_getElem? hy)
  have toRight : ∀ j u, k + 1 ≤ j → j < z → p[j]? = some u → Bef l y u := fun j u h1 h2 hu => h.ord (a + w) ha2 k j y u (by omega) (by omega) (by omega) hy hu
  have toLeft : ∀ j u, i ≤ j → j < m → p[j]? = some u → Bef l y u := fun j u h1 h2 hu => by
    rcases hc with hc | hc
    · omega
    · obtain ⟨x0, hx0⟩ : ∃ x0, p[i]? = some x0 := by
        obtain ⟨h5, _⟩ := List.getElem?_eq_some_iff.1 hu
        exact ⟨p[i]'(by omega), List.getElem?_eq_getElem _⟩
      have h5 := hc x0 hx0
      have h6 : gs l x0 ≤ gs l u := by
        rcases Nat.lt_or_ge i j with h7 | h7
        · have := h.ord a ha1 i j x0 u g1 h7 (by omega) hx0 hu
          unfold Bef at this
          omega
        · obtain rfl : i = j := by omega
          obtain rfl := Option.some.inj (hx0.symm.trans hu)
          omega
      unfold Bef
      omega
  refine ⟨g.wd.snoc ha (by omega) (by omega) hyl (by omega) (by omega) (fun t x ht hx => g.right t x ht hx k y (Nat.le_refl _) hkz hy), by rw [List.length_append]; simp; omega, g1, g4, by omega, hkz, fun t x ht hx j u h1 h2 hu => ?_, fun t x ht hx j u h1 h2 hu => ?_⟩
  · rcases snoc_at hx with ⟨_, h6⟩ | ⟨_, rfl⟩
    · exact g.left t x ht h6 j u h1 h2 hu
    · exact toLeft j u h1 h2 hu
  · rcases snoc_at hx with ⟨_, h6⟩ | ⟨_, rfl⟩
    · exact g.right t x ht h6 j u (by omega) h2 hu
    · exact toRight j u h1 h2 hu
theorem wd_nil (l : List Int) (w : Nat) : Wd l w [] := ⟨fun x hx => (by cases hx), fun _ _ i x hx => (by simp at hx), fun _ _ i j x y _ _ _ hx => (by simp at hx)⟩
end
end Go.Su
