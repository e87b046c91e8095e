/-
  The plain mathematics of octet: numbers as digits of seven bits. Over no program. Conditions: none.
-/
import Derived.WalkKit
namespace Go.Oct
open Go.RowKit

/-- A number in digits of seven bits, the lowest first, each but the last with 128 beside. -/
def encN (n : Nat) : List Int := if h : n < 128 then [(n : Int)] else ((n % 128 + 128 : Nat) : Int) :: encN (n / 128)
termination_by n
decreasing_by omega

/-- The greatest number that is laid. -/
def top62 : Nat := 4611686018427387904
theorem top62_eq : top62 = 4611686018427387904 := rfl
/-- What is laid for v. -/
def clampI (v : Int) : Nat := if v < 0 then 0 else if (top62 : Int) < v then top62 else v.toNat
def encI (v : Int) : List Int := encN (clampI v)

theorem encN_small {n : Nat} (h : n < 128) : encN n = [(n : Int)] := by rw [encN]; simp [h]
theorem encN_big {n : Nat} (h : 128 ≤ n) : encN n = ((n % 128 + 128 : Nat) : Int) :: encN (n / 128) := by rw [encN]; simp [show ¬ n < 128 by omega]
theorem encN_pos (n : Nat) : 0 < (encN n).length := by
  by_cases h : n < 128
  · simp [encN_small h]
  · simp [encN_big (by omega : 128 ≤ n)]
theorem encN_len : ∀ (k n : Nat), n < 128 ^ (k + 1) → (encN n).length ≤ k + 1 := by
  intro k
  induction k with
  | zero => intro n h; simp [encN_small (show n < 128 by simpa using h)]
  | succ k ih =>
    intro n h
    by_cases hn : n < 128
    · simp [encN_small hn]
    · rw [encN_big (by omega)]
      have h2 : n / 128 < 128 ^ (k + 1) := by
        rw [Nat.div_lt_iff_lt_mul (by omega), ← Nat.pow_succ]
        exact h
      simpa using ih _ h2
theorem clampI_le (v : Int) : clampI v ≤ top62 := by
  unfold clampI
  split
  · exact Nat.zero_le _
  · split
    · exact Nat.le_refl _
    · omega
theorem encI_len (v : Int) : (encI v).length ≤ 9 := encN_len 8 _ (Nat.lt_of_le_of_lt (clampI_le v) (by decide))
theorem clampI_in {v : Int} (h0 : 0 ≤ v) (h1 : v ≤ (top62 : Int)) : clampI v = v.toNat := by
  unfold clampI
  rw [if_neg (by omega), if_neg (by omega)]
theorem flat_len (zs : List Int) : ∀ k, ((zs.take k).flatMap encI).length ≤ 9 * k := by
  intro k
  induction k generalizing zs with
  | zero => simp
  | succ k ih =>
    cases zs with
    | nil => simp
    | cons z zs =>
      have := encI_len z
      have := ih zs
      simp only [List.take_succ_cons, List.flatMap_cons, List.length_append]
      omega
theorem take_more {α : Type} {zs : List α} {k : Nat} {z : α} (h : zs[k]? = some z) : zs.take (k + 1) = zs.take k ++ [z] := by
  rw [List.take_add_one, h]; rfl
theorem clampI_neg {v : Int} (h : v < 0) : clampI v = 0 := by unfold clampI; rw [if_pos h]
theorem clampI_zero {v : Int} (h : v ≤ 0) : clampI v = 0 := by
  unfold clampI
  by_cases h0 : v < 0
  · rw [if_pos h0]
  · rw [if_neg h0, if_neg (by omega)]
    omega
theorem clampI_top {v : Int} (h : 4611686018427387904 < v) : clampI v = top62 := by
  unfold clampI
  rw [if_neg (by omega), if_pos (by rw [top62_eq]; omega)]
theorem clampI_nat {y : Nat} (h : (y : Int) ≤ 4611686018427387904) : clampI (y : Int) = y := by
  unfold clampI
  rw [if_neg (by omega), if_neg (by rw [top62_eq]; omega)]
  simp
/-- Each byte is one. -/
theorem encN_byte (n : Nat) : ∀ x ∈ encN n, 0 ≤ x ∧ x < 256 := by
  induction n using encN.induct with
  | case1 n h => rw [encN_small h]; intro x hx; simp at hx; omega
  | case2 n h ih =>
    rw [encN_big (by omega)]
    intro x hx
    rcases List.mem_cons.1 hx with rfl | hx
    · omega
    · exact ih x hx
/-- A row with its length. -/
def rowB (xs : List Int) : List Int := encN xs.length ++ xs
theorem flat_take {α : Type} (f : α → List Int) (l : List α) : ∀ k, ((l.take k).flatMap f).length ≤ (l.flatMap f).length := by
  intro k
  induction k generalizing l with
  | zero => simp
  | succ k ih =>
    cases l with
    | nil => simp
    | cons a l =>
      have := ih l
      simp only [List.take_succ_cons, List.flatMap_cons, List.length_append]
      omega
theorem flat_more {α : Type} (f : α → List Int) {l : List α} {k : Nat} {a : α} (h : l[k]? = some a) : (l.take (k + 1)).flatMap f = (l.take k).flatMap f ++ f a := by
  rw [take_more h]
  simp
theorem flat_room {α : Type} (f : α → List Int) {l : List α} {k : Nat} {a : α} (h : l[k]? = some a) : ((l.take k).flatMap f).length + (f a).length ≤ (l.flatMap f).length := by
  have := flat_take f l (k + 1)
  rw [flat_more f h, List.length_append] at this
  exact this
/-- Rows one behind the other. -/
def cat (xss : List (List Int)) : List Int := xss.flatten
theorem cat_nil : cat [] = [] := rfl
theorem cat_more {l : List (List Int)} {k : Nat} {a : List Int} (h : l[k]? = some a) : cat (l.take (k + 1)) = cat (l.take k) ++ a := by
  unfold cat
  rw [take_more h]
  simp
theorem cat_app (a b : List (List Int)) : cat (a ++ b) = cat a ++ cat b := by simp [cat]
theorem cat_take (l : List (List Int)) : ∀ k, (cat (l.take k)).length ≤ (cat l).length := by
  intro k
  have : cat l = cat (l.take k) ++ cat (l.drop k) := by rw [← cat_app, List.take_append_drop]
  rw [this, List.length_append]
  omega
theorem cat_room {l : List (List Int)} {k : Nat} {a : List Int} (h : l[k]? = some a) : (cat (l.take k)).length + a.length ≤ (cat l).length := by
  have := cat_take l (k + 1)
  rw [cat_more h, List.length_append] at this
  exact this
/-- How many digits are behind the first. -/
def restLen (m : Nat) : Nat := if m = 0 then 0 else (encN m).length
theorem restLen_zero : restLen 0 = 0 := rfl
theorem encN_rest (y : Nat) : (encN y).length = 1 + restLen (y / 128) := by
  unfold restLen
  by_cases h : y < 128
  · rw [encN_small h, if_pos (by omega)]
    rfl
  · rw [encN_big (by omega), if_neg (by omega), List.length_cons]
    omega
theorem restLen_step {m : Nat} (h : 0 < m) : restLen m = 1 + restLen (m / 128) := by
  rw [← encN_rest]
  unfold restLen
  rw [if_neg (by omega)]
theorem enc_first (y : Nat) : ∃ x : Nat, (encN y)[0]? = some (x : Int) ∧ (x < 128 ↔ y < 128) := by
  by_cases h : y < 128
  · rw [encN_small h]
    exact ⟨y, rfl, Iff.rfl⟩
  · rw [encN_big (by omega)]
    exact ⟨_, rfl, by omega⟩
theorem enc_last_pos (y : Nat) : 0 < y → ∃ x : Int, (encN y)[(encN y).length - 1]? = some x ∧ x ≠ 0 := by
  induction y using encN.induct with
  | case1 n h =>
    intro h0
    rw [encN_small h]
    exact ⟨n, rfl, by omega⟩
  | case2 n h ih =>
    intro _
    obtain ⟨x, h1, h2⟩ := ih (by omega)
    have hp := encN_pos (n / 128)
    rw [encN_big (by omega)]
    refine ⟨x, ?_, h2⟩
    rw [List.length_cons, show (encN (n / 128)).length + 1 - 1 = ((encN (n / 128)).length - 1) + 1 by omega, List.getElem?_cons_succ]
    exact h1
theorem enc_two {y : Nat} (h : 128 ≤ y) : 2 ≤ (encN y).length := by
  have := encN_pos (y / 128)
  rw [encN_big h, List.length_cons]
  omega
/-- A number taken: i digits are in n already. -/
def takeN : Nat → Nat → List Int → Option (Nat × List Int)
  | _, _, [] => none
  | i, n, b :: r =>
    if i = 9 then none
    else if 128 ≤ b then takeN (i + 1) (n + b.toNat % 128 * 128 ^ i) r
    else if top62 < n + b.toNat % 128 * 128 ^ i ∨ (b = 0 ∧ 0 < i) then none
    else some (n + b.toNat % 128 * 128 ^ i, r)
theorem takeN_nine (n : Nat) (l : List Int) : takeN 9 n l = none := by
  cases l with
  | nil => rfl
  | cons b r => simp [takeN]
theorem takeN_more {i n x : Nat} {l : List Int} (hx : l[i]? = some (x : Int)) (hi : i ≠ 9) (hb : 128 ≤ x) : takeN i n (l.drop i) = takeN (i + 1) (n + x % 128 * 128 ^ i) (l.drop (i + 1)) := by
  obtain ⟨h1, h2⟩ := List.getElem?_eq_some_iff.1 hx
  rw [List.drop_eq_getElem_cons h1, h2]
  simp [takeN, hi, show (128 : Int) ≤ (x : Int) by omega]
theorem takeN_bad {i n x : Nat} {l : List Int} (hx : l[i]? = some (x : Int)) (hb : x < 128) (h : top62 < n + x % 128 * 128 ^ i ∨ (x = 0 ∧ 0 < i)) : takeN i n (l.drop i) = none := by
  obtain ⟨h1, h2⟩ := List.getElem?_eq_some_iff.1 hx
  rw [List.drop_eq_getElem_cons h1, h2]
  by_cases hi : i = 9
  · subst hi
    exact takeN_nine _ _
  · have h' : top62 < n + x % 128 * 128 ^ i ∨ ((x : Int) = 0 ∧ 0 < i) := by
      rcases h with h | h
      · exact .inl h
      · exact .inr ⟨by omega, h.2⟩
    simp only [takeN, if_neg hi, if_neg (show ¬ (128 : Int) ≤ (x : Int) by omega), Int.toNat_natCast, if_pos h']
theorem takeN_done {i n x : Nat} {l : List Int} (hx : l[i]? = some (x : Int)) (hi : i ≠ 9) (hb : x < 128) (h1 : n + x % 128 * 128 ^ i ≤ top62) (h2 : x = 0 → i = 0) : takeN i n (l.drop i) = some (n + x % 128 * 128 ^ i, l.drop (i + 1)) := by
  obtain ⟨g1, g2⟩ := List.getElem?_eq_some_iff.1 hx
  rw [List.drop_eq_getElem_cons g1, g2]
  have h' : ¬ (top62 < n + x % 128 * 128 ^ i ∨ ((x : Int) = 0 ∧ 0 < i)) := by
    rintro (h | ⟨h, h3⟩)
    · omega
    · have := h2 (by omega); omega
  simp only [takeN, if_neg hi, if_neg (show ¬ (128 : Int) ≤ (x : Int) by omega), Int.toNat_natCast, if_neg h']
/-- What was laid is taken. -/
theorem takeN_enc : ∀ (m i n : Nat) (r : List Int), m * 128 ^ i + n ≤ top62 → i + (encN m).length ≤ 9 → (0 < i → 0 < m) → takeN i n (encN m ++ r) = some (m * 128 ^ i + n, r) := by
  intro m
  induction m using encN.induct with
  | case1 m h =>
    intro i n r h1 h2 h3
    rw [encN_small h] at h2 ⊢
    have h' : ¬ (top62 < n + m % 128 * 128 ^ i ∨ ((m : Int) = 0 ∧ 0 < i)) := by
      rw [Nat.mod_eq_of_lt h]
      rintro (h4 | ⟨h4, h5⟩)
      · omega
      · have := h3 h5; omega
    simp only [List.length_cons, List.length_nil] at h2
    rw [Nat.mod_eq_of_lt h] at h'
    simp only [List.cons_append, List.nil_append, takeN, if_neg (show ¬ i = 9 by omega), if_neg (show ¬ (128 : Int) ≤ (m : Int) by omega), Int.toNat_natCast, Nat.mod_eq_of_lt h]
    rw [if_neg h', Nat.add_comm]
  | case2 m h ih =>
    intro i n r h1 h2 h3
    have hb : 128 ≤ m := by omega
    rw [encN_big hb] at h2 ⊢
    simp only [List.length_cons] at h2
    have e : m * 128 ^ i = m / 128 * 128 ^ (i + 1) + m % 128 * 128 ^ i := by
      rw [Nat.pow_succ, ← Nat.mul_assoc, Nat.mul_right_comm, ← Nat.add_mul]
      congr 1
      omega
    have hmod : (m % 128 + 128) % 128 = m % 128 := by omega
    simp only [List.cons_append, takeN, if_neg (show ¬ i = 9 by omega), if_pos (show (128 : Int) ≤ ((m % 128 + 128 : Nat) : Int) by omega), Int.toNat_natCast, hmod]
    rw [ih (i + 1) (n + m % 128 * 128 ^ i) r (by omega) (by omega) (fun _ => by omega)]
    congr 2
    omega
theorem takeN_enc0 {m : Nat} (h : m ≤ top62) (r : List Int) : takeN 0 0 (encN m ++ r) = some (m, r) := by
  have hl : (encN m).length ≤ 9 := encN_len 8 m (Nat.lt_of_le_of_lt h (by decide))
  rw [takeN_enc m 0 0 r (by simpa using h) (by omega) (fun h => absurd h (by omega))]
  simp
theorem pow_cast (k : Nat) : (2 : Int) ^ (7 * k) = ((128 ^ k : Nat) : Int) := by
  rw [Int.pow_mul]
  simp
theorem pow_le8 {k : Nat} (h : k ≤ 8) : 128 ^ k ≤ 72057594037927936 := by
  have : 128 ^ k ≤ 128 ^ 8 := Nat.pow_le_pow_right (by omega) h
  have e : 128 ^ 8 = 72057594037927936 := by decide
  omega
theorem digit_lt {m x k : Nat} (hm : m < 128 ^ k) : m + x % 128 * 128 ^ k < 128 ^ (k + 1) := by
  have h1 : x % 128 ≤ 127 := by omega
  have h2 : x % 128 * 128 ^ k ≤ 127 * 128 ^ k := Nat.mul_le_mul_right _ h1
  rw [Nat.pow_succ]
  omega
theorem wrap_digit {m x k : Nat} (hm : m < 128 ^ k) (hk : k ≤ 8) : wrap64 ((m : Int) + wrap64 ((x : Int) % 128 * 2 ^ (7 * k))) = ((m + x % 128 * 128 ^ k : Nat) : Int) := by
  have h8 := pow_le8 hk
  have hd := digit_lt (x := x) hm
  rw [Nat.pow_succ] at hd
  have e : (x : Int) % 128 * 2 ^ (7 * k) = ((x % 128 * 128 ^ k : Nat) : Int) := by
    rw [pow_cast]
    simp
  have hb : x % 128 * 128 ^ k ≤ 127 * 128 ^ k := Nat.mul_le_mul_right _ (by omega)
  have e2 : wrap64 ((x % 128 * 128 ^ k : Nat) : Int) = ((x % 128 * 128 ^ k : Nat) : Int) := IntWalk.wrap64_in _ ⟨by omega, by omega⟩
  rw [e, e2, IntWalk.wrap64_in _ ⟨by omega, by omega⟩]
  simp
/-- The table of four digits; a step of a check sum. -/
def tabN : List Nat := [0, 498536548, 997073096, 651767980, 1994146192, 1802195444, 1303535960, 1342533948, 3988292384, 4027552580, 3604390888, 3412177804, 2607071920, 2262029012, 2685067896, 3183342108]
def nib (s : Nat) : Nat := (s / 16) ^^^ tabN.getD (s % 16) 0
def stepN (s x : Nat) : Nat := nib (nib (s ^^^ x))
def sumFrom (s : Nat) (xs : List Int) : Nat := xs.foldl (fun s x => stepN s x.toNat) s
def sumN (xs : List Int) : Nat := 4294967295 - sumFrom 4294967295 xs
theorem tab_lt (i : Nat) (h : i < 16) : tabN.getD i 0 < 4294967296 := by
  have : ∀ i : Fin 16, tabN.getD i.val 0 < 4294967296 := by decide
  exact this ⟨i, h⟩
theorem xor_lt32 {a b : Nat} (ha : a < 4294967296) (hb : b < 4294967296) : a ^^^ b < 4294967296 := Nat.xor_lt_two_pow (n := 32) ha hb
theorem nib_lt {s : Nat} (h : s < 4294967296) : nib s < 4294967296 := xor_lt32 (by omega) (tab_lt _ (by omega))
theorem stepN_lt {s x : Nat} (hs : s < 4294967296) (hx : x < 256) : stepN s x < 4294967296 := nib_lt (nib_lt (xor_lt32 hs (by omega)))
theorem sumFrom_more {xs : List Int} {k : Nat} {x : Int} (s : Nat) (h : xs[k]? = some x) : sumFrom s (xs.take (k + 1)) = stepN (sumFrom s (xs.take k)) x.toNat := by
  unfold sumFrom
  rw [take_more h, List.foldl_append]
  rfl
theorem sumFrom_app (s : Nat) (xs ys : List Int) : sumFrom s (xs ++ ys) = sumFrom (sumFrom s xs) ys := by
  unfold sumFrom
  rw [List.foldl_append]
/-- All are bytes. -/
def Byt (xs : List Int) : Prop := ∀ x ∈ xs, 0 ≤ x ∧ x < 256
theorem Byt.at_ {xs : List Int} (h : Byt xs) {k : Nat} {x : Int} (e : xs[k]? = some x) : 0 ≤ x ∧ x < 256 := h x (List.mem_of_getElem? e)
theorem sumFrom_lt : ∀ (xs : List Int) (s : Nat), Byt xs → s < 4294967296 → sumFrom s xs < 4294967296 := by
  intro xs
  induction xs with
  | nil => intro s _ h; exact h
  | cons x xs ih =>
    intro s hb h
    have hx := hb x (by simp)
    exact ih _ (fun y hy => hb y (by simp [hy])) (stepN_lt h (by omega))
theorem Byt.take {xs : List Int} (h : Byt xs) (k : Nat) : Byt (xs.take k) := fun x hx => h x (List.mem_of_mem_take hx)
theorem Byt.app {xs ys : List Int} (h : Byt xs) (k : Byt ys) : Byt (xs ++ ys) := fun x hx => by
  rcases List.mem_append.1 hx with h1 | h1
  · exact h x h1
  · exact k x h1
theorem Byt.cat_ {xss : List (List Int)} (h : ∀ xs ∈ xss, Byt xs) : Byt (cat xss) := fun x hx => by
  obtain ⟨xs, h1, h2⟩ := List.mem_flatten.1 hx
  exact h xs h1 x h2
theorem encN_byt (n : Nat) : Byt (encN n) := encN_byte n
end Go.Oct
