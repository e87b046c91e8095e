/-
  What neighbours have in common, walked along the row (over no program).
-/
import Derived.Test.YtgboobjmafdieaaSuMath
namespace Go.Su

theorem eqk_in {s : List Int} (hs : Pos s) {a b h : Nat} (ha : a < s.length) (hb : b < s.length) (hab : a ≠ b) (e : EqK (gs s) h a b) : a + h ≤ s.length ∧ b + h ≤ s.length := by
  have one : ∀ {a b : Nat}, a < s.length → b < s.length → EqK (gs s) h a b → s.length < a + h → s.length ≤ b + (s.length - a) := by
    intro a b ha _ e hgt
    have h1 := e (s.length - a) (by omega)
    rw [gs_out (p := a + (s.length - a)) (by omega)] at h1
    rcases Nat.lt_or_ge (b + (s.length - a)) s.length with h2 | h2
    · have := gs_pos hs h2
      omega
    · exact h2
  refine ⟨?_, ?_⟩
  · rcases Nat.lt_or_ge s.length (a + h) with h1 | h1
    · have h2 := one ha hb e h1
      have h3 := one hb ha e.symm (by omega)
      omega
    · exact h1
  · rcases Nat.lt_or_ge s.length (b + h) with h1 | h1
    · have h2 := one hb ha e.symm h1
      have h3 := one ha hb e (by omega)
      omega
    · exact h1
/-- Where the walk ends. -/
theorem lcp_end {s : List Int} (hs : Pos s) {k i h : Nat} (hk : k < s.length) (hi : i < s.length) (hki : k ≠ i) (e : EqK (gs s) h k i) (hx : s.length ≤ i + h ∨ s.length ≤ k + h ∨ gs s (i + h) ≠ gs s (k + h)) : Lcp s k i h := by
  refine ⟨e, ?_⟩
  obtain ⟨h1, h2⟩ := eqk_in hs hk hi hki e
  rcases hx with h3 | h3 | h3
  · rw [gs_out h3]
    have := gs_pos hs (p := k + h) (by omega)
    omega
  · rw [gs_out h3]
    have := gs_pos hs (p := i + h) (by omega)
    omega
  · exact fun he => h3 he.symm

/-- A row of what neighbours have in common. -/
structure Cmn (s : List Int) (L hs : List Nat) : Prop where
  len : hs.length = s.length
  zero : ∀ x, hs[0]? = some x → x = 0
  all : ∀ j x y, L[j]? = some x → L[j + 1]? = some y → ∃ m, hs[j + 1]? = some m ∧ Lcp s x y m
theorem Cmn.uniq {s : List Int} {L hs ht : List Nat} (hL : L.length = s.length) (h : Cmn s L hs) (k : Cmn s L ht) : hs = ht := by
  apply List.ext_getElem?
  intro j
  cases j with
  | zero =>
    cases e1 : hs[0]? with
    | none =>
      have := List.getElem?_eq_none_iff.1 e1
      rw [List.getElem?_eq_none (by have := h.len; have := k.len; omega)]
    | some x =>
      have h1 := h.zero x e1
      obtain ⟨h2, _⟩ := List.getElem?_eq_some_iff.1 e1
      have h3 : 0 < ht.length := by have := h.len; have := k.len; omega
      rw [List.getElem?_eq_getElem h3, k.zero _ (List.getElem?_eq_getElem h3), h1]
  | succ j =>
    rcases Nat.lt_or_ge (j + 1) s.length with h1 | h1
    · obtain ⟨m, hm, l⟩ := h.all j _ _ (List.getElem?_eq_getElem (by omega)) (List.getElem?_eq_getElem (by omega))
      obtain ⟨m', hm', l'⟩ := k.all j _ _ (List.getElem?_eq_getElem (by omega)) (List.getElem?_eq_getElem (by omega))
      rw [hm, hm', l.uniq l']
    · rw [List.getElem?_eq_none (by rw [h.len]; exact h1), List.getElem?_eq_none (by rw [k.len]; exact h1)]
/-- .. under way: of the places before i, and what is carried to i. -/
structure KInv (s : List Int) (L hs : List Nat) (i h : Nat) : Prop where
  len : hs.length = s.length
  zero : ∀ x, hs[0]? = some x → x = 0
  done : ∀ j x y, L[j]? = some x → L[j + 1]? = some y → y < i → ∃ m, hs[j + 1]? = some m ∧ Lcp s x y m
  carry : ∀ j x, L[j]? = some x → L[j + 1]? = some i → EqK (gs s) h x i
theorem at_one {L : List Nat} (hn : L.Nodup) {i j x : Nat} (hi : L[i]? = some x) (hj : L[j]? = some x) : i = j := by
  obtain ⟨h1, h2⟩ := List.getElem?_eq_some_iff.1 hi
  obtain ⟨h3, h4⟩ := List.getElem?_eq_some_iff.1 hj
  rw [List.Nodup, List.pairwise_iff_getElem] at hn
  rcases Nat.lt_trichotomy i j with h | h | h
  · exact absurd (h2.trans h4.symm) (hn i j h1 h3 h)
  · exact h
  · exact absurd (h4.trans h2.symm) (hn j i h3 h1 h)
theorem IsSA.nodup {s : List Int} {L : List Nat} (h : IsSA s L) : L.Nodup := h.ord.imp fun {a b} l e => by subst e; exact l.irrefl
theorem IsSA.lt {s : List Int} {L : List Nat} (h : IsSA s L) {i j x y : Nat} (hij : i < j) (hi : L[i]? = some x) (hj : L[j]? = some y) : Lt (gs s) x y := by
  obtain ⟨h1, h2⟩ := List.getElem?_eq_some_iff.1 hi
  obtain ⟨h3, h4⟩ := List.getElem?_eq_some_iff.1 hj
  have := (List.pairwise_iff_getElem.1 h.ord) i j h1 h3 hij
  rwa [h2, h4] at this
theorem IsSA.find {s : List Int} {L : List Nat} (h : IsSA s L) {x : Nat} (hx : x < s.length) : ∃ j : Nat, L[j]? = some x := by
  obtain ⟨j, hj, e⟩ := List.getElem_of_mem ((h.mem x).2 hx)
  exact ⟨j, by rw [List.getElem?_eq_getElem hj, e]⟩
theorem kinv_start {s : List Int} {L : List Nat} : KInv s L (List.replicate s.length 0) 0 0 := by
  refine ⟨List.length_replicate .., fun x hx => ?_, fun _ _ _ _ _ h => absurd h (by omega), fun _ _ _ _ q hq => absurd hq (by omega)⟩
  obtain ⟨h1, h2⟩ := List.getElem?_eq_some_iff.1 hx
  rw [← h2, List.getElem_replicate]
theorem KInv.first {s : List Int} {L hs : List Nat} {i h : Nat} (a : KInv s L hs i h) (hSA : IsSA s L) (hi : L[0]? = some i) : KInv s L hs (i + 1) 0 := by
  refine ⟨a.len, a.zero, fun j x y hx hy hlt => ?_, fun _ _ _ _ q hq => absurd hq (by omega)⟩
  by_cases e : y = i
  · subst e
    have := at_one hSA.nodup hi hy
    omega
  · exact a.done j x y hx hy (by omega)
theorem KInv.next {s : List Int} {L hs : List Nat} {i h j k m : Nat} (a : KInv s L hs i h) (hp : Pos s) (hSA : IsSA s L) (hk : L[j]? = some k) (hi : L[j + 1]? = some i) (hm : Lcp s k i m) : KInv s L (hs.set (j + 1) m) (i + 1) (m - 1) := by
  have hn := hSA.nodup
  have hj : j + 1 < hs.length := by
    obtain ⟨h1, _⟩ := List.getElem?_eq_some_iff.1 hi
    have := hSA.len
    have := a.len
    omega
  refine ⟨by rw [List.length_set]; exact a.len, fun x hx => ?_, fun j' x y hx hy hlt => ?_, fun j' x hx hy => ?_⟩
  · rw [List.getElem?_set_ne (by omega)] at hx
    exact a.zero x hx
  · by_cases e : y = i
    · subst e
      have := at_one hn hi hy
      obtain rfl : j' = j := by omega
      obtain rfl : x = k := Option.some.inj (hx.symm.trans hk)
      exact ⟨m, List.getElem?_set_self hj, hm⟩
    · have hne : j + 1 ≠ j' + 1 := by
        intro e2
        rw [← e2, hi] at hy
        exact e (Option.some.inj hy).symm
      rw [List.getElem?_set_ne hne]
      exact a.done j' x y hx hy (by omega)
  · rcases Nat.eq_zero_or_pos m with h0 | h0
    · subst h0
      exact fun q hq => absurd hq (by omega)
    · have hin : i + 1 < s.length := (hSA.mem _).1 (List.mem_of_getElem? hy)
      refine kasai hm.1 h0 (hSA.lt (by omega) hk hi) (n := s.length) (fun q hq => by rw [gs_out hq]; decide) (fun q hq => gs_pos hp hq) hin (hSA.lt (by omega) hx hy) fun q hq hlt => ?_
      obtain ⟨jq, hjq⟩ := hSA.find hq
      rcases Nat.lt_trichotomy jq j' with h1 | h1 | h1
      · exact .inr (hSA.lt h1 hjq hx)
      · subst h1
        exact .inl (Option.some.inj (hjq.symm.trans hx))
      · rcases Nat.lt_or_ge (j' + 1) jq with h2 | h2
        · exact absurd (hlt.trans (hSA.lt h2 hy hjq)) (fun h => h.irrefl)
        · obtain rfl : jq = j' + 1 := by omega
          obtain rfl : q = i + 1 := Option.some.inj (hjq.symm.trans hy)
          exact absurd hlt (fun h => h.irrefl)
theorem KInv.all {s : List Int} {L hs : List Nat} {i h : Nat} (a : KInv s L hs i h) (hSA : IsSA s L) (hi : s.length ≤ i) : Cmn s L hs :=
  ⟨a.len, a.zero, fun j x y hx hy => a.done j x y hx hy (by have := (hSA.mem y).1 (List.mem_of_getElem? hy); omega)⟩
end Go.Su
