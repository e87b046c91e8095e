/-
  Check sums: a step of four digits by a table is four steps of one digit; another byte gives another sum. Over no program. Conditions: none.
-/
import Derived.Test.YtppplchllnalpaaDoorOcMath
namespace Go.Oct

/-- One digit. -/
def bitStep (s : Nat) : Nat := if s % 2 = 1 then (s / 2) ^^^ 3988292384 else s / 2
def bitsN : Nat → Nat → Nat
  | 0, s => s
  | k + 1, s => bitsN k (bitStep s)
theorem xor_mod2 (x y : Nat) : (x ^^^ y) % 2 = (x % 2) ^^^ (y % 2) := by
  have := Nat.xor_mod_two_pow (a := x) (b := y) (n := 1)
  simpa using this
theorem xor_lc (a b c : Nat) : a ^^^ (b ^^^ c) = b ^^^ (a ^^^ c) := by rw [← Nat.xor_assoc, Nat.xor_comm a b, Nat.xor_assoc]
theorem xor_cancel_left {a b c : Nat} (h : a ^^^ b = a ^^^ c) : b = c := by
  have h2 := congrArg (fun t => a ^^^ t) h
  simp only [← Nat.xor_assoc, Nat.xor_self, Nat.zero_xor] at h2
  exact h2
theorem xor_cancel_right {a b c : Nat} (h : a ^^^ c = b ^^^ c) : a = b := by
  rw [Nat.xor_comm a c, Nat.xor_comm b c] at h
  exact xor_cancel_left h
theorem bitStep_xor (x y : Nat) : bitStep (x ^^^ y) = bitStep x ^^^ bitStep y := by
  unfold bitStep
  rw [xor_mod2, Nat.xor_div_two]
  have hx : x % 2 = 0 ∨ x % 2 = 1 := by omega
  have hy : y % 2 = 0 ∨ y % 2 = 1 := by omega
  rcases hx with hx | hx <;> rcases hy with hy | hy <;> rw [hx, hy]
  · simp
  · simp [Nat.xor_assoc]
  · simp only [Nat.xor_zero, if_true, if_neg (show ¬ (0 = 1) by omega)]
    rw [Nat.xor_assoc, Nat.xor_assoc, Nat.xor_comm (y / 2)]
  · simp only [Nat.xor_self, if_true, if_neg (show ¬ (0 = 1) by omega)]
    rw [Nat.xor_assoc, Nat.xor_comm (y / 2), ← Nat.xor_assoc 3988292384, Nat.xor_self, Nat.zero_xor]
theorem bitsN_xor : ∀ (k x y : Nat), bitsN k (x ^^^ y) = bitsN k x ^^^ bitsN k y := by
  intro k
  induction k with
  | zero => intro x y; rfl
  | succ k ih => intro x y; simp only [bitsN]; rw [bitStep_xor, ih]
theorem bitStep_even (a : Nat) : bitStep (2 * a) = a := by
  unfold bitStep
  rw [if_neg (by omega)]
  omega
theorem split16 (s : Nat) : s = (16 * (s / 16)) ^^^ (s % 16) := by
  apply Nat.eq_of_testBit_eq
  intro i
  rw [Nat.testBit_xor, show 16 * (s / 16) = 2 ^ 4 * (s / 2 ^ 4) from rfl, show s % 16 = s % 2 ^ 4 from rfl, Nat.testBit_two_pow_mul, Nat.testBit_mod_two_pow, Nat.testBit_div_two_pow]
  by_cases h : 4 ≤ i
  · simp [h, show ¬ i < 4 by omega]
  · simp [h, show i < 4 by omega]
theorem four_bits (s : Nat) : bitsN 4 s = nib s := by
  have h := split16 s
  have h1 : bitsN 4 (16 * (s / 16)) = s / 16 := by
    simp only [bitsN]
    rw [show 16 * (s / 16) = 2 * (2 * (2 * (2 * (s / 16)))) by omega, bitStep_even, bitStep_even, bitStep_even, bitStep_even]
  have h2 : ∀ r : Fin 16, bitsN 4 r.val = tabN.getD r.val 0 := by decide +kernel
  have h3 := h2 ⟨s % 16, by omega⟩
  have h4 : bitsN 4 s = bitsN 4 ((16 * (s / 16)) ^^^ (s % 16)) := congrArg (bitsN 4) h
  rw [h4, bitsN_xor, h1]
  unfold nib
  exact congrArg _ h3
theorem bitsN_add : ∀ (j k s : Nat), bitsN (j + k) s = bitsN k (bitsN j s) := by
  intro j
  induction j with
  | zero => intro k s; rw [Nat.zero_add]; rfl
  | succ j ih => intro k s; rw [Nat.succ_add]; simp only [bitsN]; rw [ih]
theorem eight_bits (s x : Nat) : bitsN 8 (s ^^^ x) = stepN s x := by
  rw [show 8 = 4 + 4 from rfl, bitsN_add, four_bits, four_bits]
  rfl
theorem bitsN_more (k s : Nat) : bitsN (k + 1) s = bitStep (bitsN k s) := by
  rw [bitsN_add]
  rfl
theorem bitStep_lt {s : Nat} (h : s < 4294967296) : bitStep s < 4294967296 := by
  unfold bitStep
  split
  · exact xor_lt32 (by omega) (by omega)
  · omega
theorem bitsN_lt : ∀ (k : Nat) {s : Nat}, s < 4294967296 → bitsN k s < 4294967296 := by
  intro k
  induction k with
  | zero => intro s h; exact h
  | succ k ih => intro s h; exact ih (bitStep_lt h)

theorem nib_inj {s t : Nat} (hs : s < 4294967296) (ht : t < 4294967296) (h : nib s = nib t) : s = t := by
  unfold nib at h
  have h1 : (s / 16 ^^^ tabN.getD (s % 16) 0) >>> 28 = (t / 16 ^^^ tabN.getD (t % 16) 0) >>> 28 := by rw [h]
  rw [Nat.shiftRight_xor_distrib, Nat.shiftRight_xor_distrib] at h1
  simp only [Nat.shiftRight_eq_div_pow] at h1
  rw [show s / 16 / 2 ^ 28 = 0 by omega, show t / 16 / 2 ^ 28 = 0 by omega, Nat.zero_xor, Nat.zero_xor] at h1
  have h2 : ∀ i j : Fin 16, tabN.getD i.val 0 / 2 ^ 28 = tabN.getD j.val 0 / 2 ^ 28 → i = j := by decide +kernel
  have h3 := h2 ⟨s % 16, by omega⟩ ⟨t % 16, by omega⟩ h1
  have h4 : s % 16 = t % 16 := by simpa using h3
  rw [h4] at h
  have h5 := xor_cancel_right h
  omega
theorem stepN_inj {s t x : Nat} (hs : s < 4294967296) (ht : t < 4294967296) (hx : x < 256) (h : stepN s x = stepN t x) : s = t := by
  unfold stepN at h
  have h1 := nib_inj (nib_lt (xor_lt32 hs (by omega))) (nib_lt (xor_lt32 ht (by omega))) h
  exact xor_cancel_right (nib_inj (xor_lt32 hs (by omega)) (xor_lt32 ht (by omega)) h1)
theorem stepN_inj2 {s x y : Nat} (hs : s < 4294967296) (hx : x < 256) (hy : y < 256) (h : stepN s x = stepN s y) : x = y := by
  unfold stepN at h
  have h1 := nib_inj (nib_lt (xor_lt32 hs (by omega))) (nib_lt (xor_lt32 hs (by omega))) h
  exact xor_cancel_left (nib_inj (xor_lt32 hs (by omega)) (xor_lt32 hs (by omega)) h1)
theorem sumFrom_inj : ∀ (xs : List Int) (s t : Nat), Byt xs → s < 4294967296 → t < 4294967296 → sumFrom s xs = sumFrom t xs → s = t := by
  intro xs
  induction xs with
  | nil => intro s t _ _ _ h; exact h
  | cons x xs ih =>
    intro s t hb hs ht h
    have hx := hb x (by simp)
    exact stepN_inj hs ht (by omega) (ih _ _ (fun y hy => hb y (by simp [hy])) (stepN_lt hs (by omega)) (stepN_lt ht (by omega)) h)
/-- Another byte: another sum. -/
theorem sumN_other {xs : List Int} {k x y : Nat} (hb : Byt xs) (hk : xs[k]? = some (x : Int)) (hy : y < 256) (hne : x ≠ y) : sumN (xs.set k (y : Int)) ≠ sumN xs := by
  obtain ⟨h1, h2⟩ := List.getElem?_eq_some_iff.1 hk
  have hx := hb.at_ hk
  have e1 : xs = xs.take k ++ (x : Int) :: xs.drop (k + 1) := by
    rw [← h2, ← List.drop_eq_getElem_cons h1, List.take_append_drop]
  have e2 : xs.set k (y : Int) = xs.take k ++ (y : Int) :: xs.drop (k + 1) := by rw [List.set_eq_take_append_cons_drop, if_pos h1]
  have hbt : Byt (xs.take k) := hb.take k
  have hbd : Byt (xs.drop (k + 1)) := fun z hz => hb z (List.mem_of_mem_drop hz)
  have hs := sumFrom_lt (xs.take k) 4294967295 hbt (by omega)
  intro h
  unfold sumN at h
  have hby : Byt (xs.set k (y : Int)) := by
    intro z hz
    rcases List.mem_or_eq_of_mem_set hz with h3 | h3
    · exact hb z h3
    · subst h3; omega
  have l1 := sumFrom_lt (xs.set k (y : Int)) 4294967295 hby (by omega)
  have l2 := sumFrom_lt xs 4294967295 hb (by omega)
  have h4 : sumFrom 4294967295 (xs.set k (y : Int)) = sumFrom 4294967295 xs := by omega
  rw [e2, show sumFrom 4294967295 xs = sumFrom 4294967295 (xs.take k ++ (x : Int) :: xs.drop (k + 1)) from congrArg _ e1, sumFrom_app, sumFrom_app] at h4
  have h5 : sumFrom (stepN (sumFrom 4294967295 (xs.take k)) y) (xs.drop (k + 1)) = sumFrom (stepN (sumFrom 4294967295 (xs.take k)) x) (xs.drop (k + 1)) := h4
  have h6 := sumFrom_inj _ _ _ hbd (stepN_lt hs hy) (stepN_lt hs (by omega)) h5
  exact hne (stepN_inj2 hs hy (by omega) h6).symm
end Go.Oct
