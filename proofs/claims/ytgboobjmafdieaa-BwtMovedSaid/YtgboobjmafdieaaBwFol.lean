/-
  Plain mathematics, over no program: the way from each ending to the next shorter one, along an order by symbols; a row that it makes is closed just if it is the one that was turned.
  Conditions: none; plain lemmas.
-/
import Derived.Test.YtgboobjmafdieaaBwMath2
namespace Go.Su

/-- The way: from the least symbol's place on. -/
def fw (P : List Nat) : Nat → Nat
  | 0 => gn P 0
  | k + 1 => gn P (fw P k)
/-- The row that it makes. -/
def fol (l : List Int) (P : List Nat) (n : Nat) : List Int := (List.range n).map fun i => gs l (fw P (i + 1))
theorem fol_len (l : List Int) (P : List Nat) (n : Nat) : (fol l P n).length = n := by unfold fol; simp
theorem fol_get {l : List Int} {P : List Nat} {n i : Nat} (h : i < n) : (fol l P n)[i]? = some (gs l (fw P (i + 1))) := by
  unfold fol
  rw [List.getElem?_map, List.getElem?_range h]
  rfl
theorem fol_at {l : List Int} {P : List Nat} {n i : Nat} (h : i < n) : gs (fol l P n) i = gs l (fw P (i + 1)) := gs_at (fol_get h)
section
variable {l : List Int} {P : List Nat}
theorem Srt.gn_lt (h : Srt l P) {y : Nat} (hy : y < l.length) : gn P y < l.length := by
  have h1 : y < P.length := by rw [h.len]; exact hy
  exact h.lt _ (List.mem_of_getElem? (gn_some h1))
/-- From the next shorter one back. -/
theorem Srt.lf_gn (h : Srt l P) {y : Nat} (hy : y < l.length) : Go.Su.lf l (gn P y) = y := h.lf (gn_some (by rw [h.len]; exact hy))
theorem Srt.gn_lf (h : Srt l P) {x : Nat} (hx : x < l.length) : gn P (Go.Su.lf l x) = x := by
  obtain ⟨i, hi⟩ := h.find hx
  rw [h.lf hi]
  exact gn_at hi
theorem Srt.fw_lt (h : Srt l P) (hn : 0 < l.length) : ∀ k, fw P k < l.length
  | 0 => h.gn_lt hn
  | k + 1 => h.gn_lt (Srt.fw_lt h hn k)
theorem Srt.gn_inj (h : Srt l P) {x y : Nat} (hx : x < l.length) (hy : y < l.length) (e : gn P x = gn P y) : x = y := by
  rw [← h.lf_gn hx, ← h.lf_gn hy, e]
/-- Of a row that is turned the way leads along the row. -/
theorem Round.fw (r : Round l) (h : Srt l P) : ∀ k, k < l.length → fw P k = way l (l.length - 1 - k)
  | 0, _ => by
    obtain ⟨z, hz, h0, hu⟩ := r.zero
    have h1 := hu _ (way_lt r.full _) r.lastZero
    have h2 := lf_zero r.pos h0 hu
    have h3 := h.gn_lf hz
    rw [h2] at h3
    show gn P 0 = _
    rw [h3, Nat.sub_zero, h1]
  | k + 1, hk => by
    have ih := Round.fw r h k (by omega)
    show gn P (Go.Su.fw P k) = _
    rw [ih, show l.length - 1 - k = (l.length - 1 - (k + 1)) + 1 by omega]
    exact h.gn_lf (way_lt r.full _)
theorem Round.fol (r : Round l) (h : Srt l P) : fol l P l.length = bck l := by
  have hn := r.full
  refine gs_ext (by rw [fol_len, bck_len]) fun p hp => ?_
  rw [fol_len] at hp
  rw [fol_at hp, bck_at hp]
  by_cases e : p + 1 = l.length
  · rw [if_pos e, e]
    have h1 := r.fw h (l.length - 1) (by omega)
    have h2 : Go.Su.fw P l.length = gn P (Go.Su.fw P (l.length - 1)) := by
      conv => lhs; rw [show l.length = l.length - 1 + 1 by omega]
      rfl
    have h3 := r.fw h 0 hn
    rw [Nat.sub_zero] at h3
    rw [h2, h1, Nat.sub_self]
    show gs l (gn P 0) = 0
    have h4 : gn P 0 = Go.Su.fw P 0 := rfl
    rw [h4, h3]
    exact r.lastZero
  · rw [if_neg e, r.fw h (p + 1) (by omega), show l.length - 1 - (p + 1) = l.length - 2 - p by omega]
/-- The row of a Turn is the row. -/
theorem Turned.fol {s : List Int} (t : Turned s l) (h : Srt l P) : fol l P l.length = s := by
  rw [t.rnd.fol h, t.bck]
theorem fw_shift (h : Srt l P) (hn : 0 < l.length) {i j : Nat} (e : fw P i = fw P j) : ∀ t, fw P (i + t) = fw P (j + t)
  | 0 => e
  | t + 1 => by
    show gn P (fw P (i + t)) = gn P (fw P (j + t))
    rw [fw_shift h hn e t]
/-- A closed row that the way makes comes by all places. -/
theorem closed_round (h : Srt l P) (hc : Closed (fol l P l.length)) : Round l := by
  have hn : 0 < l.length := by have := hc.full; rwa [fol_len] at this
  have sym : ∀ i, i < l.length → gs (fol l P l.length) i = gs l (fw P (i + 1)) := fun i hi => fol_at hi
  have last : gs l (fw P l.length) = 0 := by
    have h1 := hc.last
    rw [fol_len, sym _ (by omega), show l.length - 1 + 1 = l.length by omega] at h1
    exact h1
  have only : ∀ k, 1 ≤ k → k < l.length → gs l (fw P k) ≠ 0 := fun k h1 h2 => by
    have h3 := hc.only (k - 1) (by rw [fol_len]; omega)
    rw [sym _ (by omega), show k - 1 + 1 = k by omega] at h3
    exact h3
  have inj : ∀ i j, 1 ≤ i → i < j → j ≤ l.length → fw P i ≠ fw P j := fun i j h1 h2 h3 e => by
    have h4 := fw_shift h hn e (l.length - j)
    rw [show j + (l.length - j) = l.length by omega] at h4
    have h5 := only (i + (l.length - j)) (by omega) (by omega)
    rw [h4] at h5
    exact h5 last
  have perm : ((List.range l.length).map fun i => fw P (i + 1)).Perm (List.range l.length) := by
    refine range_of ?_ (fun x hx => ?_) (by simp)
    · rw [List.Nodup, List.pairwise_map, List.pairwise_iff_getElem]
      intro i j hi hj hij
      simp only [List.getElem_range]
      rw [List.length_range] at hi hj
      exact inj _ _ (by omega) (by omega) (by omega)
    · obtain ⟨y, _, rfl⟩ := List.mem_map.1 hx
      exact h.fw_lt hn _
  have find : ∀ p, p < l.length → ∃ k, 1 ≤ k ∧ k ≤ l.length ∧ fw P k = p := fun p hp => by
    obtain ⟨i, hi, e⟩ := List.mem_map.1 (perm.mem_iff.2 (List.mem_range.2 hp))
    have := List.mem_range.1 hi
    exact ⟨i + 1, by omega, by omega, e⟩
  have pos : Pos l := fun x hx => by
    obtain ⟨p, hp, e⟩ := List.getElem_of_mem hx
    obtain ⟨k, h1, h2, h3⟩ := find p hp
    have h4 := gs_pos hc.pos (p := k - 1) (by rw [fol_len]; omega)
    rw [sym _ (by omega), show k - 1 + 1 = k by omega, h3, gs_at (by rw [List.getElem?_eq_getElem hp, e])] at h4
    exact h4
  have uniq : ∀ p, p < l.length → gs l p = 0 → p = fw P l.length := fun p hp h0 => by
    obtain ⟨k, h1, h2, h3⟩ := find p hp
    rcases Nat.lt_or_ge k l.length with h4 | h4
    · rw [← h3] at h0
      exact absurd h0 (only k h1 h4)
    · rw [← h3, show k = l.length by omega]
  have step : ∀ k, lf l (fw P (k + 1)) = fw P k := fun k => h.lf_gn (h.fw_lt hn k)
  have zero : fw P (l.length - 1) = 0 := by
    have h1 := lf_zero pos last uniq
    rw [show l.length = l.length - 1 + 1 by omega, step] at h1
    exact h1
  have along : ∀ k, k < l.length → way l k = fw P (l.length - 1 - k) := fun k => by
    induction k with
    | zero => intro _; rw [Nat.sub_zero, zero]; rfl
    | succ k ih =>
      intro hk
      show lf l (way l k) = _
      rw [ih (by omega), show l.length - 1 - k = (l.length - 1 - (k + 1)) + 1 by omega, step]
  refine ⟨pos, hn, ⟨_, h.fw_lt hn _, last, uniq⟩, fun p hp => ?_⟩
  obtain ⟨k, h1, h2, h3⟩ := find p hp
  rcases Nat.lt_or_ge k l.length with h4 | h4
  · exact ⟨l.length - 1 - k, by omega, by rw [along _ (by omega), show l.length - 1 - (l.length - 1 - k) = k by omega, h3]⟩
  · refine ⟨l.length - 1, by omega, ?_⟩
    rw [along _ (by omega), Nat.sub_self, ← h3, show k = l.length by omega]
    have e1 : fw P l.length = gn P (fw P (l.length - 1)) := by
      conv => lhs; rw [show l.length = l.length - 1 + 1 by omega]
      rfl
    rw [e1, zero]
    rfl
theorem closed_turned (h : Srt l P) (hc : Closed (fol l P l.length)) : Turned (fol l P l.length) l := by
  have r := closed_round h hc
  rw [r.fol h]
  exact r.turned
end
end Go.Su
