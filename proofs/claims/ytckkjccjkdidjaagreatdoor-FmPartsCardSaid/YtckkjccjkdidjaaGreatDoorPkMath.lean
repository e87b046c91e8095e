/-
  Rows of small numbers as words of 64 digits: over no program. Conditions: none; plain lemmas.
-/
import Derived.Test.YtckkjccjkdidjaaGreatDoorOcWords
import Derived.Lib.BitFns
namespace Go.Pk
open Go.RowKit Go.Oct

/-- A digit of a row of numbers of b digits each. -/
def dg (b : Nat) (l : List Nat) (p : Nat) : Bool := (l.getD (p / b) 0).testBit (p % b)
theorem dg_at {b i j p : Nat} (l : List Nat) (hj : j < b) (hp : p = i * b + j) : dg b l p = (l.getD i 0).testBit j := by
  subst hp
  unfold dg
  rw [Nat.mul_comm, Nat.mul_add_div (by omega), Nat.mul_add_mod, Nat.div_eq_of_lt hj, Nat.mod_eq_of_lt hj, Nat.add_zero]
theorem dg_off {b p : Nat} {l : List Nat} (h0 : 0 < b) (h : b * l.length ≤ p) : dg b l p = false := by
  unfold dg
  rw [List.getD_eq_getElem?_getD, List.getElem?_eq_none ((Nat.le_div_iff_mul_le h0).2 (by rw [Nat.mul_comm]; exact h))]
  simp

/-- The words ws are the numbers l of wd digits each. -/
structure Pk (ws : List Nat) (wd : Nat) (l : List Nat) : Prop where
  lo : 1 ≤ wd
  hi : wd ≤ 64
  len : ws.length = (wd * l.length + 63) / 64
  lt : ∀ k, ws.getD k 0 < 18446744073709551616
  fit : ∀ k, l.getD k 0 < 2 ^ wd
  dig : ∀ p, dg 64 ws p = dg wd l p

theorem big_bit {x j : Nat} (h : x < 18446744073709551616) (hj : 64 ≤ j) : x.testBit j = false :=
  Nat.testBit_lt_two_pow (Nat.lt_of_lt_of_le h (by rw [show (18446744073709551616 : Nat) = 2 ^ 64 by rfl]; exact Nat.pow_le_pow_right (by omega) hj))
theorem fit_bit {x w j : Nat} (h : x < 2 ^ w) (hj : w ≤ j) : x.testBit j = false :=
  Nat.testBit_lt_two_pow (Nat.lt_of_lt_of_le h (Nat.pow_le_pow_right (by omega) hj))
theorem word_bit (ws : List Nat) (k : Nat) {j : Nat} (hj : j < 64) : (ws.getD k 0).testBit j = dg 64 ws (64 * k + j) := (dg_at ws hj (by omega)).symm
theorem mod64 (x : Nat) : x % 18446744073709551616 = x % 2 ^ 64 := rfl

section
variable {ws l : List Nat} {wd : Nat}
theorem Pk.bit (h : Pk ws wd l) {i j : Nat} (hj : j < wd) : (l.getD i 0).testBit j = dg 64 ws (i * wd + j) := by
  rw [h.dig, dg_at l hj rfl]
theorem get_one (h : Pk ws wd l) {i q r : Nat} (hq : i * wd = 64 * q + r) (hr : r + wd ≤ 64) : (ws.getD q 0 / 2 ^ r) &&& (2 ^ wd - 1) = l.getD i 0 := by
  refine Nat.eq_of_testBit_eq fun j => ?_
  rw [Nat.testBit_and, Nat.testBit_div_two_pow, Nat.testBit_two_pow_sub_one]
  by_cases hj : j < wd
  · rw [h.bit hj, hq, word_bit ws q (j := j + r) (by omega), show 64 * q + r + j = 64 * q + (j + r) by omega]
    simp [hj]
  · rw [fit_bit (h.fit i) (by omega)]
    simp [hj]
theorem get_two (h : Pk ws wd l) {i q r : Nat} (hq : i * wd = 64 * q + r) (hr64 : r < 64) (hr : 64 < r + wd) :
    ((ws.getD q 0 / 2 ^ r) ||| (ws.getD (q + 1) 0 * 2 ^ (64 - r) % 18446744073709551616)) &&& (2 ^ wd - 1) = l.getD i 0 := by
  have hwd := h.hi
  refine Nat.eq_of_testBit_eq fun j => ?_
  rw [Nat.testBit_and, Nat.testBit_or, Nat.testBit_div_two_pow, Nat.testBit_two_pow_sub_one, mod64, Nat.testBit_mod_two_pow, Nat.testBit_mul_two_pow]
  by_cases hj : j < wd
  · rw [h.bit hj, hq]
    by_cases hs : j + r < 64
    · rw [word_bit ws q (j := j + r) hs, show 64 * q + r + j = 64 * q + (j + r) by omega]
      have h1 : ¬ 64 - r ≤ j := by omega
      simp [hj, h1]
    · rw [big_bit (h.lt q) (by omega), word_bit ws (q + 1) (j := j - (64 - r)) (by omega), show 64 * q + r + j = 64 * (q + 1) + (j - (64 - r)) by omega]
      have h1 : 64 - r ≤ j := by omega
      have h2 : j < 64 := by omega
      simp [hj, h1, h2]
  · rw [fit_bit (h.fit i) (by omega)]
    simp [hj]

/-- A word with other digits in place of those of the mask. -/
def layN (x m d : Nat) : Nat := (x &&& (18446744073709551615 - m)) ||| d
theorem layN_bit {x m d j : Nat} (hm : m < 18446744073709551616) (hj : j < 64) : (layN x m d).testBit j = ((x.testBit j && !m.testBit j) || d.testBit j) := by
  unfold layN
  rw [Nat.testBit_or, Nat.testBit_and, show 18446744073709551615 - m = 2 ^ 64 - (m + 1) by omega, Nat.testBit_two_pow_sub_succ (by simpa using hm)]
  simp [hj]
theorem layN_lt {x m d : Nat} (hx : x < 18446744073709551616) (hd : d < 18446744073709551616) : layN x m d < 18446744073709551616 :=
  Nat.or_lt_two_pow (n := 64) (Nat.lt_of_le_of_lt Nat.and_le_left hx) hd

theorem getD_set (ws : List Nat) (k x i : Nat) : (ws.set k x).getD i 0 = if k = i ∧ k < ws.length then x else ws.getD i 0 := by
  rw [List.getD_eq_getElem?_getD, List.getElem?_set, List.getD_eq_getElem?_getD]
  by_cases e : k = i
  · subst e
    by_cases h : k < ws.length
    · simp [h]
    · simp [h]
  · simp [e]
theorem dg_set {b : Nat} (hb : 0 < b) (l : List Nat) (i v p : Nat) (hi : i < l.length) : dg b (l.set i v) p = if i * b ≤ p ∧ p < i * b + b then v.testBit (p - i * b) else dg b l p := by
  have hp := Nat.div_add_mod p b
  have hm := Nat.mod_lt p hb
  unfold dg
  rw [getD_set]
  by_cases e : i = p / b
  · subst e
    rw [Nat.mul_comm] at hp
    rw [if_pos ⟨rfl, hi⟩, if_pos (by omega), show p - p / b * b = p % b by omega]
  · rw [if_neg (fun h => e h.1), if_neg]
    rintro ⟨h1, h2⟩
    refine e ?_
    have h3 := (Nat.le_div_iff_mul_le hb).2 h1
    have h4 : p / b < i + 1 := (Nat.div_lt_iff_lt_mul hb).2 (by rw [Nat.add_mul, Nat.one_mul]; exact h2)
    omega

/-- What put makes of the words: within one word. -/
def put1 (ws : List Nat) (wd q r v : Nat) : List Nat := ws.set q (layN (ws.getD q 0) ((2 ^ wd - 1) * 2 ^ r % 18446744073709551616) (v * 2 ^ r % 18446744073709551616))
/-- .. over a word's edge. -/
def put2 (ws : List Nat) (wd q r v : Nat) : List Nat := (put1 ws wd q r v).set (q + 1) (layN (ws.getD (q + 1) 0) ((2 ^ wd - 1) / 2 ^ (64 - r)) (v / 2 ^ (64 - r)))
theorem put1_len (ws : List Nat) (wd q r v : Nat) : (put1 ws wd q r v).length = ws.length := by unfold put1; rw [List.length_set]
theorem put2_len (ws : List Nat) (wd q r v : Nat) : (put2 ws wd q r v).length = ws.length := by unfold put2; rw [List.length_set, put1_len]

theorem put1_lt (h : ∀ k, ws.getD k 0 < 18446744073709551616) (wd q r v : Nat) : ∀ k, (put1 ws wd q r v).getD k 0 < 18446744073709551616 := by
  intro k
  unfold put1
  rw [getD_set]
  split
  · exact layN_lt (h q) (Nat.mod_lt _ (by omega))
  · exact h k
theorem put2_lt (h : ∀ k, ws.getD k 0 < 18446744073709551616) {wd q r v : Nat} (hv : v < 18446744073709551616) : ∀ k, (put2 ws wd q r v).getD k 0 < 18446744073709551616 := by
  intro k
  unfold put2
  rw [getD_set]
  split
  · exact layN_lt (h _) (Nat.lt_of_le_of_lt (Nat.div_le_self _ _) hv)
  · exact put1_lt h wd q r v k
theorem put1_dg {q r v : Nat} (hwd : wd ≤ 64) (hr : r < 64) (hq : q < ws.length) (hv : v < 2 ^ wd) (p : Nat) :
    dg 64 (put1 ws wd q r v) p = if 64 * q + r ≤ p ∧ p < 64 * q + r + wd ∧ p < 64 * (q + 1) then v.testBit (p - (64 * q + r)) else dg 64 ws p := by
  unfold put1
  rw [dg_set (by omega) _ _ _ _ hq]
  by_cases h : q * 64 ≤ p ∧ p < q * 64 + 64
  · obtain ⟨s, rfl⟩ : ∃ s, p = q * 64 + s := ⟨p - q * 64, by omega⟩
    have hs : s < 64 := by omega
    rw [if_pos h, show q * 64 + s - q * 64 = s by omega, layN_bit (Nat.mod_lt _ (by omega)) hs, mod64, mod64 (v * 2 ^ r), Nat.testBit_mod_two_pow, Nat.testBit_mod_two_pow, Nat.testBit_mul_two_pow, Nat.testBit_mul_two_pow, Nat.testBit_two_pow_sub_one,
      word_bit ws q hs, show q * 64 + s = 64 * q + s by omega]
    by_cases h1 : r ≤ s
    · by_cases h2 : s - r < wd
      · rw [if_pos (by omega), show 64 * q + s - (64 * q + r) = s - r by omega]
        simp [hs, h1, h2]
      · rw [if_neg (by omega), fit_bit hv (by omega)]
        simp [h2]
    · rw [if_neg (by omega)]
      simp [h1]
  · rw [if_neg h, if_neg (by omega)]
theorem put2_dg {q r v : Nat} (hwd : wd ≤ 64) (hr : r < 64) (hrw : 64 < r + wd) (hq : q + 1 < ws.length) (hv : v < 2 ^ wd) (p : Nat) :
    dg 64 (put2 ws wd q r v) p = if 64 * q + r ≤ p ∧ p < 64 * q + r + wd then v.testBit (p - (64 * q + r)) else dg 64 ws p := by
  unfold put2
  rw [dg_set (by omega) _ _ _ _ (by rw [put1_len]; exact hq), put1_dg hwd hr (by omega) hv]
  by_cases h : (q + 1) * 64 ≤ p ∧ p < (q + 1) * 64 + 64
  · obtain ⟨s, rfl⟩ : ∃ s, p = (q + 1) * 64 + s := ⟨p - (q + 1) * 64, by omega⟩
    have hs : s < 64 := by omega
    have hm : (2 ^ wd - 1) / 2 ^ (64 - r) < 18446744073709551616 := by
      refine Nat.lt_of_le_of_lt (Nat.div_le_self _ _) ?_
      have : 2 ^ wd ≤ 2 ^ 64 := Nat.pow_le_pow_right (by omega) hwd
      have : 0 < 2 ^ wd := Nat.pow_pos (by omega)
      omega
    rw [if_pos h, show (q + 1) * 64 + s - (q + 1) * 64 = s by omega, layN_bit hm hs, Nat.testBit_div_two_pow, Nat.testBit_div_two_pow, Nat.testBit_two_pow_sub_one, word_bit ws (q + 1) hs, show (q + 1) * 64 + s = 64 * (q + 1) + s by omega]
    by_cases h2 : s + (64 - r) < wd
    · rw [if_pos (by omega), show 64 * (q + 1) + s - (64 * q + r) = s + (64 - r) by omega]
      simp [h2]
    · rw [if_neg (by omega), fit_bit hv (by omega)]
      simp [h2]
  · rw [if_neg h]
    by_cases h3 : 64 * q + r ≤ p ∧ p < 64 * q + r + wd
    · rw [if_pos (by omega), if_pos h3]
    · rw [if_neg (by omega), if_neg h3]
theorem fit_set {l : List Nat} {i v wd : Nat} (h : ∀ k, l.getD k 0 < 2 ^ wd) (hv : v < 2 ^ wd) : ∀ k, (l.set i v).getD k 0 < 2 ^ wd := by
  intro k
  rw [getD_set]
  split
  · exact hv
  · exact h k
theorem words_in (h : Pk ws wd l) {i q r : Nat} (hi : i < l.length) (hq : i * wd = 64 * q + r) (hr : r < 64) : q < ws.length ∧ (64 < r + wd → q + 1 < ws.length) := by
  have h1 := h.len
  have h2 := h.lo
  have h3 : (i + 1) * wd ≤ wd * l.length := by rw [Nat.mul_comm wd]; exact Nat.mul_le_mul_right _ hi
  rw [Nat.add_mul] at h3
  omega
theorem pk_put1 (h : Pk ws wd l) {i q r v : Nat} (hi : i < l.length) (hq : i * wd = 64 * q + r) (hr : r + wd ≤ 64) (hv : v < 2 ^ wd) : Pk (put1 ws wd q r v) wd (l.set i v) := by
  have h2 := h.lo
  refine ⟨h.lo, h.hi, by rw [put1_len, List.length_set]; exact h.len, put1_lt h.lt _ _ _ _, fit_set h.fit hv, fun p => ?_⟩
  rw [put1_dg h.hi (by omega) (words_in h hi hq (by omega)).1 hv, dg_set (by omega) _ _ _ _ hi, hq, h.dig]
  by_cases h1 : 64 * q + r ≤ p ∧ p < 64 * q + r + wd
  · rw [if_pos (by omega), if_pos h1]
  · rw [if_neg (by omega), if_neg h1]
theorem pk_put2 (h : Pk ws wd l) {i q r v : Nat} (hi : i < l.length) (hq : i * wd = 64 * q + r) (hr64 : r < 64) (hr : 64 < r + wd) (hv : v < 2 ^ wd) : Pk (put2 ws wd q r v) wd (l.set i v) := by
  have h2 := h.lo
  have hv64 : v < 18446744073709551616 := Nat.lt_of_lt_of_le hv (Nat.pow_le_pow_right (n := 2) (j := 64) (by omega) h.hi)
  refine ⟨h.lo, h.hi, by rw [put2_len, List.length_set]; exact h.len, put2_lt h.lt hv64, fit_set h.fit hv, fun p => ?_⟩
  rw [put2_dg h.hi hr64 hr ((words_in h hi hq hr64).2 hr) hv, dg_set (by omega) _ _ _ _ hi, hq, h.dig]

theorem eq_of_dg {a b : List Nat} (hl : a.length = b.length) {w : Nat} (ha : ∀ k, a.getD k 0 < 2 ^ w) (hb : ∀ k, b.getD k 0 < 2 ^ w) (h : ∀ p, dg w a p = dg w b p) : a = b := by
  refine List.ext_getElem hl fun k h1 h2 => ?_
  have e1 : a[k] = a.getD k 0 := by rw [List.getD_eq_getElem?_getD, List.getElem?_eq_getElem h1]; rfl
  have e2 : b[k] = b.getD k 0 := by rw [List.getD_eq_getElem?_getD, List.getElem?_eq_getElem h2]; rfl
  rw [e1, e2]
  refine Nat.eq_of_testBit_eq fun j => ?_
  by_cases hj : j < w
  · rw [← dg_at a hj rfl, ← dg_at b hj rfl, h]
  · rw [fit_bit (ha k) (by omega), fit_bit (hb k) (by omega)]
theorem Pk.words_uniq {ws' : List Nat} (h : Pk ws wd l) (k : Pk ws' wd l) : ws = ws' := eq_of_dg (by rw [h.len, k.len]) (w := 64) h.lt k.lt (fun p => by rw [h.dig, k.dig])
theorem Pk.row_uniq {l' : List Nat} (h : Pk ws wd l) (k : Pk ws wd l') (hl : l.length = l'.length) : l = l' := eq_of_dg hl h.fit k.fit (fun p => by rw [← h.dig, ← k.dig])

theorem getD_rep (n k : Nat) : (List.replicate n 0).getD k 0 = 0 := by
  rw [List.getD_eq_getElem?_getD, List.getElem?_replicate]
  split <;> rfl
theorem dg_rep (b n p : Nat) : dg b (List.replicate n 0) p = false := by
  unfold dg
  rw [getD_rep, Nat.zero_testBit]
theorem pk_blank {wd : Nat} (n : Nat) (h1 : 1 ≤ wd) (h2 : wd ≤ 64) : Pk (List.replicate ((wd * n + 63) / 64) 0) wd (List.replicate n 0) :=
  ⟨h1, h2, by rw [List.length_replicate, List.length_replicate], fun k => by rw [getD_rep]; omega, fun k => by rw [getD_rep]; exact Nat.pow_pos (by omega), fun p => by rw [dg_rep, dg_rep]⟩
end

/-- The greatest number of so many digits. -/
theorem great {wd : Nat} (h : wd ≤ 64) : 18446744073709551615 / 2 ^ (64 - wd) = 2 ^ wd - 1 := by
  have h1 : 2 ^ wd * 2 ^ (64 - wd) = 18446744073709551616 := by rw [← Nat.pow_add, show wd + (64 - wd) = 64 by omega]
  have h2 : 0 < 2 ^ (64 - wd) := Nat.pow_pos (by omega)
  have h3 : 0 < 2 ^ wd := Nat.pow_pos (by omega)
  generalize 2 ^ (64 - wd) = b at *
  generalize 2 ^ wd = a at *
  rw [Nat.div_eq_iff h2]
  obtain ⟨c, rfl⟩ : ∃ c, a = c + 1 := ⟨a - 1, by omega⟩
  rw [Nat.add_mul, Nat.one_mul] at h1
  rw [Nat.add_sub_cancel]
  omega
theorem great_lt {wd : Nat} (h : wd ≤ 64) : 2 ^ wd - 1 < 18446744073709551616 := by
  have : 2 ^ wd ≤ 2 ^ 64 := Nat.pow_le_pow_right (by omega) h
  have : 0 < 2 ^ wd := Nat.pow_pos (by omega)
  omega
theorem pow_le64 {wd : Nat} (h : wd ≤ 64) : 2 ^ wd ≤ 18446744073709551616 := Nat.pow_le_pow_right (n := 2) (j := 64) (by omega) h
theorem bits_lay (x m d : Nat) (hx : x < 18446744073709551616) (hm : m < 18446744073709551616) (hd : d < 18446744073709551616) :
    bits .or .u64 (bits .andNot .u64 (x : Int) (m : Int)) (d : Int) = (layN x m d : Nat) := by
  have h1 : (BitVec.ofInt 64 (x : Int)).toNat = x := by rw [BitVec.ofInt_natCast, BitVec.toNat_ofNat]; exact Nat.mod_eq_of_lt (by omega)
  have h2 : (BitVec.ofInt 64 (m : Int)).toNat = m := by rw [BitVec.ofInt_natCast, BitVec.toNat_ofNat]; exact Nat.mod_eq_of_lt (by omega)
  have e : bits .andNot .u64 (x : Int) (m : Int) = ((x &&& (18446744073709551615 - m) : Nat) : Int) := by
    show IntKind.u64.wrap ((BitVec.ofInt 64 (x : Int) &&& ~~~BitVec.ofInt 64 (m : Int)).toNat : Int) = _
    have hx2 : x &&& (18446744073709551615 - m) < 18446744073709551616 := Nat.lt_of_le_of_lt Nat.and_le_left hx
    rw [BitVec.toNat_and, BitVec.toNat_not, h1, h2, IntKind.wrap_u64]
    have : 2 ^ 64 - 1 - m = 18446744073709551615 - m := by omega
    rw [this]
    omega
  rw [e, bits_or_u64_nat _ _ (Nat.lt_of_le_of_lt Nat.and_le_left hx) hd]
  rfl

/-- One digit more. -/
def orN (x : Nat) (c : Bool) (k : Nat) : Nat := x ||| c.toNat * 2 ^ k
theorem orN_bit (x : Nat) (c : Bool) (k s : Nat) : (orN x c k).testBit s = if s = k then (x.testBit s || c) else x.testBit s := by
  unfold orN
  rw [Nat.testBit_or, Nat.testBit_mul_two_pow, Nat.testBit_bool_toNat]
  by_cases e : s = k
  · subst e
    simp
  · rw [if_neg e]
    by_cases h : k ≤ s
    · have : ¬ s - k = 0 := by omega
      simp [this]
    · simp [h]
theorem orN_lt {x k n : Nat} (c : Bool) (hx : x < 2 ^ n) (hk : k < n) : orN x c k < 2 ^ n := by
  refine Nat.or_lt_two_pow hx ?_
  have h := Nat.pow_lt_pow_right (a := 2) (by omega) hk
  cases c <;> simp <;> omega
theorem orN_dg {b i k : Nat} (l : List Nat) (hk : k < b) (hi : i < l.length) (c : Bool) (p : Nat) : dg b (l.set i (orN (l.getD i 0) c k)) p = if p = i * b + k then (dg b l p || c) else dg b l p := by
  rw [dg_set (by omega) _ _ _ _ hi]
  by_cases h : i * b ≤ p ∧ p < i * b + b
  · obtain ⟨s, rfl⟩ : ∃ s, p = i * b + s := ⟨p - i * b, by omega⟩
    rw [if_pos h, show i * b + s - i * b = s by omega, orN_bit, ← dg_at l (show s < b by omega) rfl]
    by_cases e : s = k
    · rw [if_pos e, if_pos (by omega)]
    · rw [if_neg e, if_neg (by omega)]
  · rw [if_neg h, if_neg (by omega)]
theorem set_len (l : List Nat) (i x : Nat) : (l.set i x).length = l.length := List.length_set

/-- The first m digits of the row as words, and noughts. -/
structure Up (ws : List Nat) (wd : Nat) (l : List Nat) (m : Nat) : Prop where
  len : ws.length = (wd * l.length + 63) / 64
  lt : ∀ k, ws.getD k 0 < 18446744073709551616
  dig : ∀ p, dg 64 ws p = (decide (p < m) && dg wd l p)
theorem up_zero (wd : Nat) (l : List Nat) : Up (List.replicate ((wd * l.length + 63) / 64) 0) wd l 0 :=
  ⟨by rw [List.length_replicate], fun k => by rw [getD_rep]; omega, fun p => by rw [dg_rep]; simp⟩
theorem up_next {ws l : List Nat} {wd i k m : Nat} (h : Up ws wd l m) (hk : k < wd) (hi : i < l.length) (hm : m = i * wd + k) :
    Up (ws.set (m / 64) (orN (ws.getD (m / 64) 0) ((l.getD i 0).testBit k) (m % 64))) wd l (m + 1) ∧ m / 64 < ws.length := by
  have h3 : (i + 1) * wd ≤ wd * l.length := by rw [Nat.mul_comm wd]; exact Nat.mul_le_mul_right _ hi
  rw [Nat.add_mul] at h3
  have hq : m / 64 < ws.length := by have := h.len; omega
  refine ⟨⟨by rw [set_len]; exact h.len, fun j => ?_, fun p => ?_⟩, hq⟩
  · rw [getD_set]
    split
    · exact orN_lt (n := 64) _ (h.lt _) (Nat.mod_lt _ (by omega))
    · exact h.lt j
  · rw [orN_dg ws (Nat.mod_lt _ (by omega)) hq, h.dig]
    by_cases e : p = m
    · subst e
      rw [if_pos (by omega), hm, dg_at l hk rfl]
      simp
    · rw [if_neg (by omega)]
      by_cases h1 : p < m
      · simp [h1, show p < m + 1 by omega]
      · simp [h1, show ¬ p < m + 1 by omega]
theorem up_all {ws l : List Nat} {wd : Nat} (h : Up ws wd l (l.length * wd)) (h1 : 1 ≤ wd) (h2 : wd ≤ 64) (hf : ∀ k, l.getD k 0 < 2 ^ wd) : Pk ws wd l :=
  ⟨h1, h2, h.len, h.lt, hf, fun p => by
    rw [h.dig]
    by_cases hp : p < l.length * wd
    · simp [hp]
    · rw [dg_off (by omega) (by rw [Nat.mul_comm]; omega)]
      simp⟩

/-- The first m digits of the words as numbers, and noughts. -/
structure Dn (ws : List Nat) (wd n : Nat) (l : List Nat) (m : Nat) : Prop where
  len : l.length = n
  fit : ∀ k, l.getD k 0 < 2 ^ wd
  dig : ∀ p, dg wd l p = (decide (p < m) && dg 64 ws p)
theorem dn_zero (ws : List Nat) (wd n : Nat) : Dn ws wd n (List.replicate n 0) 0 :=
  ⟨by rw [List.length_replicate], fun k => by rw [getD_rep]; exact Nat.pow_pos (by omega), fun p => by rw [dg_rep]; simp⟩
theorem dn_next {ws l : List Nat} {wd n i k m : Nat} (h : Dn ws wd n l m) (hk : k < wd) (hi : i < n) (hm : m = i * wd + k) :
    Dn ws wd n (l.set i (orN (l.getD i 0) ((ws.getD (m / 64) 0).testBit (m % 64)) k)) (m + 1) := by
  have hl := h.len
  refine ⟨by rw [set_len]; exact h.len, fun j => ?_, fun p => ?_⟩
  · rw [getD_set]
    split
    · exact orN_lt _ (h.fit _) hk
    · exact h.fit j
  · rw [orN_dg l hk (by omega), h.dig]
    by_cases e : p = m
    · subst e
      rw [if_pos hm]
      have : (ws.getD (p / 64) 0).testBit (p % 64) = dg 64 ws p := rfl
      rw [this]
      simp
    · rw [if_neg (by omega)]
      by_cases h1 : p < m
      · simp [h1, show p < m + 1 by omega]
      · simp [h1, show ¬ p < m + 1 by omega]
/-- Is there a digit behind the first m? -/
def tailB (ws : List Nat) (m : Nat) : Bool := decide (ws.getD (m / 64) 0 / 2 ^ (m % 64) ≠ 0)
theorem bit_of_pos {x : Nat} (h : x ≠ 0) : ∃ j, x.testBit j = true := Nat.exists_testBit_of_ne_zero h
theorem tail_no {ws : List Nat} {m : Nat} (hl : ws.length = (m + 63) / 64) (h : tailB ws m = false) {p : Nat} (hp : m ≤ p) : dg 64 ws p = false := by
  simp only [tailB, ne_eq, decide_eq_false_iff_not, Classical.not_not] at h
  by_cases hq : p / 64 = m / 64
  · have e : (ws.getD (m / 64) 0 / 2 ^ (m % 64)).testBit (p % 64 - m % 64) = false := by rw [h, Nat.zero_testBit]
    rw [Nat.testBit_div_two_pow] at e
    unfold dg
    rw [hq]
    rwa [show p % 64 - m % 64 + m % 64 = p % 64 by omega] at e
  · exact dg_off (by omega) (by omega)
theorem tail_yes {ws : List Nat} {m : Nat} (h : tailB ws m = true) (hlt : ∀ k, ws.getD k 0 < 18446744073709551616) : ∃ p, m ≤ p ∧ p < 64 * ws.length ∧ dg 64 ws p = true := by
  simp only [tailB, ne_eq, decide_eq_true_eq] at h
  obtain ⟨j, hj⟩ := bit_of_pos h
  rw [Nat.testBit_div_two_pow] at hj
  have h1 : j + m % 64 < 64 := by
    rcases Nat.lt_or_ge (j + m % 64) 64 with h1 | h1
    · exact h1
    · rw [big_bit (hlt _) h1] at hj
      cases hj
  have hd : dg 64 ws (64 * (m / 64) + (j + m % 64)) = true := by rw [← word_bit ws (m / 64) h1]; exact hj
  refine ⟨_, by omega, ?_, hd⟩
  rcases Nat.lt_or_ge (64 * (m / 64) + (j + m % 64)) (64 * ws.length) with h2 | h2
  · exact h2
  · rw [dg_off (by omega) h2] at hd
    cases hd
theorem dn_all {ws l : List Nat} {wd n : Nat} (h : Dn ws wd n l (n * wd)) (h1 : 1 ≤ wd) (h2 : wd ≤ 64) (hl : ws.length = (wd * n + 63) / 64) (hlt : ∀ k, ws.getD k 0 < 18446744073709551616) (ht : tailB ws (wd * n) = false) : Pk ws wd l :=
  ⟨h1, h2, by rw [h.len]; exact hl, hlt, h.fit, fun p => by
    rw [h.dig]
    by_cases hp : p < n * wd
    · simp [hp]
    · rw [tail_no hl ht (by rw [Nat.mul_comm]; omega)]
      simp⟩

/-- How many digits hold each of the numbers. -/
structure Wid (v : List Nat) (w : Nat) : Prop where
  lo : 1 ≤ w
  hi : w ≤ 64
  iff : ∀ k, 1 ≤ k → ((∀ x ∈ v, x < 2 ^ k) ↔ w ≤ k)
theorem Wid.uniq {v : List Nat} {a b : Nat} (h : Wid v a) (k : Wid v b) : a = b := by
  have h1 := (k.iff a h.lo).1 ((h.iff a h.lo).2 (Nat.le_refl _))
  have h2 := (h.iff b k.lo).1 ((k.iff b k.lo).2 (Nat.le_refl _))
  omega
theorem Wid.fit {v : List Nat} {w : Nat} (h : Wid v w) : ∀ k, v.getD k 0 < 2 ^ w := by
  intro k
  rw [List.getD_eq_getElem?_getD]
  rcases Nat.lt_or_ge k v.length with h1 | h1
  · rw [List.getElem?_eq_getElem h1]
    exact (h.iff w h.lo).2 (Nat.le_refl _) _ (List.getElem_mem h1)
  · rw [List.getElem?_eq_none h1]
    exact Nat.pow_pos (by omega)
theorem bitLen_le : ∀ f x k, x < 2 ^ f → (Lib.bitLenAux f x ≤ k ↔ x < 2 ^ k)
  | 0, x, k, h => by
    have : 0 < 2 ^ k := Nat.pow_pos (by omega)
    simp [Lib.bitLenAux] at h ⊢
    omega
  | f + 1, x, k, h => by
    have hk : 0 < 2 ^ k := Nat.pow_pos (by omega)
    unfold Lib.bitLenAux
    by_cases h0 : x = 0
    · rw [if_pos h0]
      omega
    · rw [if_neg h0]
      rw [Nat.pow_succ] at h
      rcases k with _ | k
      · simp
        omega
      · have := bitLen_le f (x / 2) k (by omega)
        rw [Nat.pow_succ]
        omega
theorem or_lt_iff (a b k : Nat) : a ||| b < 2 ^ k ↔ a < 2 ^ k ∧ b < 2 ^ k :=
  ⟨fun h => ⟨Nat.lt_of_le_of_lt Nat.left_le_or h, Nat.lt_of_le_of_lt Nat.right_le_or h⟩, fun h => Nat.or_lt_two_pow h.1 h.2⟩
/-- All digits of the numbers in one. -/
def allOr (v : List Nat) : Nat := v.foldl (· ||| ·) 0
theorem allOr_next {v : List Nat} {k x : Nat} (h : v[k]? = some x) : allOr (v.take (k + 1)) = allOr (v.take k) ||| x := by
  unfold allOr
  rw [List.take_add_one, h, List.foldl_append]
  rfl
theorem foldl_lt (v : List Nat) (a k : Nat) : v.foldl (· ||| ·) a < 2 ^ k ↔ a < 2 ^ k ∧ ∀ x ∈ v, x < 2 ^ k := by
  induction v generalizing a with
  | nil => simp
  | cons y v ih =>
    rw [List.foldl_cons, ih, or_lt_iff]
    simp only [List.mem_cons, forall_eq_or_imp]
    exact and_assoc
theorem allOr_lt (v : List Nat) (k : Nat) : allOr v < 2 ^ k ↔ ∀ x ∈ v, x < 2 ^ k := by
  unfold allOr
  rw [foldl_lt]
  have : 0 < 2 ^ k := Nat.pow_pos (by omega)
  simp [this]
def widN (v : List Nat) : Nat := max (Lib.bitLen (allOr v)) 1
theorem wid_is {v : List Nat} (h : ∀ x ∈ v, x < 18446744073709551616) : Wid v (widN v) := by
  have ha : allOr v < 2 ^ 64 := (allOr_lt v 64).2 h
  have hb : ∀ k, Lib.bitLen (allOr v) ≤ k ↔ ∀ x ∈ v, x < 2 ^ k := fun k => (bitLen_le 64 _ k ha).trans (allOr_lt v k)
  have h64 := (hb 64).2 h
  unfold widN
  refine ⟨by omega, by omega, fun k hk => ?_⟩
  rw [← hb k]
  omega
theorem gt_pow {x w : Nat} : x / 2 ^ w = 0 ↔ x < 2 ^ w := by
  rw [Nat.div_eq_zero_iff]
  have : 0 < 2 ^ w := Nat.pow_pos (by omega)
  omega

/-- The number at a place; 0, if there is none. -/
def gt (l : List Nat) (i : Int) : Nat := if 0 ≤ i then l.getD i.toNat 0 else 0
theorem gt_nat (l : List Nat) (i : Nat) : gt l (i : Int) = l.getD i 0 := by
  unfold gt
  rw [if_pos (by omega), Int.toNat_natCast]
theorem gt_out {l : List Nat} {i : Int} (h : i < 0 ∨ (l.length : Int) ≤ i) : gt l i = 0 := by
  unfold gt
  split
  · rw [List.getD_eq_getElem?_getD, List.getElem?_eq_none (by omega)]
    rfl
  · rfl

/-- The width under way: it holds the first k numbers, and no lesser one holds the first m. -/
structure WUp (l : List Nat) (k m b : Nat) : Prop where
  lo : 1 ≤ b
  hi : b ≤ 64
  fit : ∀ x ∈ l.take k, x < 2 ^ b
  low : ∀ j, 1 ≤ j → (∀ x ∈ l.take m, x < 2 ^ j) → b ≤ j
theorem pow_le_pow {a b : Nat} (h : a ≤ b) : 2 ^ a ≤ 2 ^ b := Nat.pow_le_pow_right (by omega) h
theorem wup_zero (l : List Nat) : WUp l 0 0 1 := ⟨by omega, by omega, by simp, fun j hj _ => hj⟩
theorem mem_take_succ {l : List Nat} {k x : Nat} (h : l[k]? = some x) (y : Nat) : y ∈ l.take (k + 1) ↔ y ∈ l.take k ∨ y = x := by
  rw [List.take_add_one, h]
  simp
theorem wup_open {l : List Nat} {k b x : Nat} (h : WUp l k k b) (hx : l[k]? = some x) : WUp l k (k + 1) b :=
  ⟨h.lo, h.hi, h.fit, fun j hj hf => h.low j hj fun y hy => hf y ((mem_take_succ hx y).2 (.inl hy))⟩
theorem wup_more {l : List Nat} {k b x : Nat} (h : WUp l k (k + 1) b) (hx : l[k]? = some x) (h64 : x < 18446744073709551616) (hn : 2 ^ b ≤ x) : WUp l k (k + 1) (b + 1) ∧ b < 64 := by
  have hb : b < 64 := by
    rcases Nat.lt_or_ge b 64 with h1 | h1
    · exact h1
    · have := pow_le_pow h1
      omega
  refine ⟨⟨by omega, by omega, fun y hy => Nat.lt_of_lt_of_le (h.fit y hy) (pow_le_pow (by omega)), fun j hj hf => ?_⟩, hb⟩
  have h1 := h.low j hj hf
  have h2 := hf x ((mem_take_succ hx x).2 (.inr rfl))
  rcases Nat.lt_or_ge j (b + 1) with h3 | h3
  · obtain rfl : j = b := by omega
    omega
  · exact h3
theorem wup_shut {l : List Nat} {k b x : Nat} (h : WUp l k (k + 1) b) (hx : l[k]? = some x) (hn : x < 2 ^ b) : WUp l (k + 1) (k + 1) b :=
  ⟨h.lo, h.hi, fun y hy => by
    rcases (mem_take_succ hx y).1 hy with h1 | h1
    · exact h.fit y h1
    · rw [h1]
      exact hn, h.low⟩
theorem wup_all {l : List Nat} {b : Nat} (h : WUp l l.length l.length b) (h64 : ∀ x ∈ l, x < 18446744073709551616) : b = widN l := by
  refine Wid.uniq (v := l) ⟨h.lo, h.hi, fun k hk => ⟨fun hf => h.low k hk (by rw [List.take_length]; exact hf), fun hb x hx => ?_⟩⟩ (wid_is h64)
  have h1 := h.fit
  rw [List.take_length] at h1
  exact Nat.lt_of_lt_of_le (h1 x hx) (pow_le_pow hb)
end Go.Pk
