/- Lemmas and contracts of this proof. Conditions: said at each. -/
import Derived.WalkKit
namespace Go.Oct
section
open Go.RowKit
/-- A number in digits of seven bits, the lowest first, each but the last with 128 beside. -/
def encN (n : Nat) : List Int := if h : n < 128 then [(n : Int)] else ((n % 128 + 128 : Nat) : Int) :: encN (n / 128)
termination_by n
decreasing_by omega
/-- The greatest number that is laid. -/
def top62 : Nat := 4611686018427387904
theorem top62_eq : top62 = 4611686018427387904 := rfl
/-- What is laid for v. -/
def clampI (v : Int) : Nat := if v < 0 then 0 else if (top62 : Int) < v then top62 else v.toNat
def encI (v : Int) : List Int := encN (clampI v)
theorem encN_small {n : Nat} (h : n < 128) : encN n = [(n : Int)] := by rw [encN]; simp [h]
theorem encN_big {n : Nat} (h : 128 ≤ n) : encN n = ((n % 128 + 128 : Nat) : Int) :: encN (n / 128) := by rw [encN]; simp [show ¬ n < 128 by omega]
theorem encN_pos (n : Nat) : 0 < (encN n).length := by
  by_cases h : n < 128
  · simp [encN_small h]
  · simp [encN_big (by omega : 128 ≤ n)]
theorem encN_len : ∀ (k n : Nat), n < 128 ^ (k + 1) → (encN n).length ≤ k + 1 := by
  intro k
  induction k with
  | zero => intro n h; simp [encN_small (show n < 128 by simpa using h)]
  | succ k ih =>
    intro n h
    by_cases hn : n < 128
    · simp [encN_small hn]
    · rw [encN_big (by omega)]
      have h2 : n / 128 < 128 ^ (k + 1) := by
        rw [Nat.div_lt_iff_lt_mul (by omega), ← Nat.pow_succ]
        exact h
      simpa using ih _ h2
theorem clampI_le (v : Int) : clampI v ≤ top62 := by
  unfold clampI
  split
  · exact Nat.zero_le _
  · split
    · exact Nat.le_refl _
    · omega
theorem encI_len (v : Int) : (encI v).length ≤ 9 := encN_len 8 _ (Nat.lt_of_le_of_lt (clampI_le v) (by decide))
theorem clampI_in {v : Int} (h0 : 0 ≤ v) (h1 : v ≤ (top62 : Int)) : clampI v = v.toNat := by
  unfold clampI
  rw [if_neg (by omega), if_neg (by omega)]
theorem flat_len (zs : List Int) : ∀ k, ((zs.take k).flatMap encI).length ≤ 9 * k := by
  intro k
  induction k generalizing zs with
  | zero => simp
  | succ k ih =>
    cases zs with
    | nil => simp
    | cons z zs =>
      have := encI_len z
      have := ih zs
      simp only [List.take_succ_cons, List.flatMap_cons, List.length_append]
      omega
theorem take_more {α : Type} {zs : List α} {k : Nat} {z : α} (h : zs[k]? = some z) : zs.take (k + 1) = zs.take k ++ [z] := by
  rw [List.take_add_one, h]; rfl
theorem clampI_neg {v : Int} (h : v < 0) : clampI v = 0 := by unfold clampI; rw [if_pos h]
theorem clampI_zero {v : Int} (h : v ≤ 0) : clampI v = 0 := by
  unfold clampI
  by_cases h0 : v < 0
  · rw [if_pos h0]
  · rw [if_neg h0, if_neg (by omega)]
    omega
theorem clampI_top {v : Int} (h : 4611686018427387904 < v) : clampI v = top62 := by
  unfold clampI
  rw [if_neg (by omega), if_pos (by rw [top62_eq]; omega)]
theorem clampI_nat {y : Nat} (h : (y : Int) ≤ 4611686018427387904) : clampI (y : Int) = y := by
  unfold clampI
  rw [if_neg (by omega), if_neg (by rw [top62_eq]; omega)]
  simp
/-- Each byte is one. -/
theorem encN_byte (n : Nat) : ∀ x ∈ encN n, 0 ≤ x ∧ x < 256 := by
  induction n using encN.induct with
  | case1 n h => rw [encN_small h]; intro x hx; simp at hx; omega
  | case2 n h ih =>
    rw [encN_big (by omega)]
    intro x hx
    rcases List.mem_cons.1 hx with rfl | hx
    · omega
    · exact ih x hx
/-- A row with its length. -/
def rowB (xs : List Int) : List Int := encN xs.length ++ xs
theorem flat_take {α : Type} (f : α → List Int) (l : List α) : ∀ k, ((l.take k).flatMap f).length ≤ (l.flatMap f).length := by
  intro k
  induction k generalizing l with
  | zero => simp
  | succ k ih =>
    cases l with
    | nil => simp
    | cons a l =>
      have := ih l
      simp only [List.take_succ_cons, List.flatMap_cons, List.length_append]
      omega
theorem flat_more {α : Type} (f : α → List Int) {l : List α} {k : Nat} {a : α} (h : l[k]? = some a) : (l.take (k + 1)).flatMap f = (l.take k).flatMap f ++ f a := by
  rw [take_more h]
  simp
theorem flat_room {α : Type} (f : α → List Int) {l : List α} {k : Nat} {a : α} (h : l[k]? = some a) : ((l.take k).flatMap f).length + (f a).length ≤ (l.flatMap f).length := by
  have := flat_take f l (k + 1)
  rw [flat_more f h, List.length_append] at this
  exact this
/-- Rows one behind the other. -/
def cat (xss : List (List Int)) : List Int := xss.flatten
theorem cat_nil : cat [] = [] := rfl
theorem cat_more {l : List (List Int)} {k : Nat} {a : List Int} (h : l[k]? = some a) : cat (l.take (k + 1)) = cat (l.take k) ++ a := by
  unfold cat
  rw [take_more h]
  simp
theorem cat_app (a b : List (List Int)) : cat (a ++ b) = cat a ++ cat b := by simp [cat]
theorem cat_take (l : List (List Int)) : ∀ k, (cat (l.take k)).length ≤ (cat l).length := by
  intro k
  have : cat l = cat (l.take k) ++ cat (l.drop k) := by rw [← cat_app, List.take_append_drop]
  rw [this, List.length_append]
  omega
theorem cat_room {l : List (List Int)} {k : Nat} {a : List Int} (h : l[k]? = some a) : (cat (l.take k)).length + a.length ≤ (cat l).length := by
  have := cat_take l (k + 1)
  rw [cat_more h, List.length_append] at this
  exact this
/-- How many digits are behind the first. -/
def restLen (m : Nat) : Nat := if m = 0 then 0 else (encN m).length
theorem restLen_zero : restLen 0 = 0 := rfl
theorem encN_rest (y : Nat) : (encN y).length = 1 + restLen (y / 128) := by
  unfold restLen
  by_cases h : y < 128
  · rw [encN_small h, if_pos (by omega)]
    rfl
  · rw [encN_big (by omega), if_neg (by omega), List.length_cons]
    omega
theorem restLen_step {m : Nat} (h : 0 < m) : restLen m = 1 + restLen (m / 128) := by
  rw [← encN_rest]
  unfold restLen
  rw [if_neg (by omega)]
theorem enc_first (y : Nat) : ∃ x : Nat, (encN y)[0]? = some (x : Int) ∧ (x < 128 ↔ y < 128) := by
  by_cases h : y < 128
  · rw [encN_small h]
    exact ⟨y, rfl, Iff.rfl⟩
  · rw [encN_big (by omega)]
    exact ⟨_, rfl, by omega⟩
theorem enc_last_pos (y : Nat) : 0 < y → ∃ x : Int, (encN y)[(encN y).length - 1]? = some x ∧ x ≠ 0 := by
  induction y using encN.induct with
  | case1 n h =>
    intro h0
    rw [encN_small h]
    exact ⟨n, rfl, by omega⟩
  | case2 n h ih =>
    intro _
    obtain ⟨x, h1, h2⟩ := ih (by omega)
    have hp := encN_pos (n / 128)
    rw [encN_big (by omega)]
    refine ⟨x, ?_, h2⟩
    rw [List.length_cons, show (encN (n / 128)).length + 1 - 1 = ((encN (n / 128)).length - 1) + 1 by omega, List.getElem?_cons_succ]
    exact h1
theorem enc_two {y : Nat} (h : 128 ≤ y) : 2 ≤ (encN y).length := by
  have := encN_pos (y / 128)
  rw [encN_big h, List.length_cons]
  omega
/-- A number taken: i digits are in n already. -/
def takeN : Nat → Nat → List Int → Option (Nat × List Int)
  | _, _, [] => none
  | i, n, b :: r =>
    if i = 9 then none
    else if 128 ≤ b then takeN (i + 1) (n + b.toNat % 128 * 128 ^ i) r
    else if top62 < n + b.toNat % 128 * 128 ^ i ∨ (b = 0 ∧ 0 < i) then none
    else some (n + b.toNat % 128 * 128 ^ i, r)
theorem takeN_nine (n : Nat) (l : List Int) : takeN 9 n l = none := by
  cases l with
  | nil => rfl
  | cons b r => simp [takeN]
theorem takeN_more {i n x : Nat} {l : List Int} (hx : l[i]? = some (x : Int)) (hi : i ≠ 9) (hb : 128 ≤ x) : takeN i n (l.drop i) = takeN (i + 1) (n + x % 128 * 128 ^ i) (l.drop (i + 1)) := by
  obtain ⟨h1, h2⟩ := List.getElem?_eq_some_iff.1 hx
  rw [List.drop_eq_getElem_cons h1, h2]
  simp [takeN, hi, show (128 : Int) ≤ (x : Int) by omega]
theorem takeN_bad {i n x : Nat} {l : List Int} (hx : l[i]? = some (x : Int)) (hb : x < 128) (h : top62 < n + x % 128 * 128 ^ i ∨ (x = 0 ∧ 0 < i)) : takeN i n (l.drop i) = none := by
  obtain ⟨h1, h2⟩ := List.getElem?_eq_some_iff.1 hx
  rw [List.drop_eq_getElem_cons h1, h2]
  by_cases hi : i = 9
  · subst hi
    exact takeN_nine _ _
  · have h' : top62 < n + x % 128 * 128 ^ i ∨ ((x : Int) = 0 ∧ 0 < i) := by
      rcases h with h | h
      · exact .inl h
      · exact .inr ⟨by omega, h.2⟩
    simp only [takeN, if_neg hi, if_neg (show ¬ (128 : Int) ≤ (x : Int) by omega), Int.toNat_natCast, if_pos h']
theorem takeN_done {i n x : Nat} {l : List Int} (hx : l[i]? = some (x : Int)) (hi : i ≠ 9) (hb : x < 128) (h1 : n + x % 128 * 128 ^ i ≤ top62) (h2 : x = 0 → i = 0) : takeN i n (l.drop i) = some (n + x % 128 * 128 ^ i, l.drop (i + 1)) := by
  obtain ⟨g1, g2⟩ := List.getElem?_eq_some_iff.1 hx
  rw [List.drop_eq_getElem_cons g1, g2]
  have h' : ¬ (top62 < n + x % 128 * 128 ^ i ∨ ((x : Int) = 0 ∧ 0 < i)) := by
    rintro (h | ⟨h, h3⟩)
    · omega
    · have := h2 (by omega); omega
  simp only [takeN, if_neg hi, if_neg (show ¬ (128 : Int) ≤ (x : Int) by omega), Int.toNat_natCast, if_neg h']
/-- What was laid is taken. -/
theorem takeN_enc : ∀ (m i n : Nat) (r : List Int), m * 128 ^ i + n ≤ top62 → i + (encN m).length ≤ 9 → (0 < i → 0 < m) → takeN i n (encN m ++ r) = some (m * 128 ^ i + n, r) := by
  intro m
  induction m using encN.induct with
  | case1 m h =>
    intro i n r h1 h2 h3
    rw [encN_small h] at h2 ⊢
    have h' : ¬ (top62 < n + m % 128 * 128 ^ i ∨ ((m : Int) = 0 ∧ 0 < i)) := by
      rw [Nat.mod_eq_of_lt h]
      rintro (h4 | ⟨h4, h5⟩)
      · omega
      · have := h3 h5; omega
    simp only [List.length_cons, List.length_nil] at h2
    rw [Nat.mod_eq_of_lt h] at h'
    simp only [List.cons_append, List.nil_append, takeN, if_neg (show ¬ i = 9 by omega), if_neg (show ¬ (128 : Int) ≤ (m : Int) by omega), Int.toNat_natCast, Nat.mod_eq_of_lt h]
    rw [if_neg h', Nat.add_comm]
  | case2 m h ih =>
    intro i n r h1 h2 h3
    have hb : 128 ≤ m := by omega
    rw [encN_big hb] at h2 ⊢
    simp only [List.length_cons] at h2
    have e : m * 128 ^ i = m / 128 * 128 ^ (i + 1) + m % 128 * 128 ^ i := by
      rw [Nat.pow_succ, ← Nat.mul_assoc, Nat.mul_right_comm, ← Nat.add_mul]
      congr 1
      omega
    have hmod : (m % 128 + 128) % 128 = m % 128 := by omega
    simp only [List.cons_append, takeN, if_neg (show ¬ i = 9 by omega), if_pos (show (128 : Int) ≤ ((m % 128 + 128 : Nat) : Int) by omega), Int.toNat_natCast, hmod]
    rw [ih (i + 1) (n + m % 128 * 128 ^ i) r (by omega) (by omega) (fun _ => by omega)]
    congr 2
    omega
theorem takeN_enc0 {m : Nat} (h : m ≤ top62) (r : List Int) : takeN 0 0 (encN m ++ r) = some (m, r) := by
  have hl : (encN m).length ≤ 9 := encN_len 8 m (Nat.lt_of_le_of_lt h (by decide))
  rw [takeN_enc m 0 0 r (by simpa using h) (by omega) (fun h => absurd h (by omega))]
  simp
theorem pow_cast (k : Nat) : (2 : Int) ^ (7 * k) = ((128 ^ k : Nat) : Int) := by
  rw [Int.pow_mul]
  simp
theorem pow_le8 {k : Nat} (h : k ≤ 8) : 128 ^ k ≤ 72057594037927936 := by
  have : 128 ^ k ≤ 128 ^ 8 := Nat.pow_le_pow_right (by omega) h
  have e : 128 ^ 8 = 72057594037927936 := by decide
  omega
theorem digit_lt {m x k : Nat} (hm : m < 128 ^ k) : m + x % 128 * 128 ^ k < 128 ^ (k + 1) := by
  have h1 : x % 128 ≤ 127 := by omega
  have h2 : x % 128 * 128 ^ k ≤ 127 * 128 ^ k := Nat.mul_le_mul_right _ h1
  rw [Nat.pow_succ]
  omega
theorem wrap_digit {m x k : Nat} (hm : m < 128 ^ k) (hk : k ≤ 8) : wrap64 ((m : Int) + wrap64 ((x : Int) % 128 * 2 ^ (7 * k))) = ((m + x % 128 * 128 ^ k : Nat) : Int) := by
  have h8 := pow_le8 hk
  have hd := digit_lt (x := x) hm
  rw [Nat.pow_succ] at hd
  have e : (x : Int) % 128 * 2 ^ (7 * k) = ((x % 128 * 128 ^ k : Nat) : Int) := by
    rw [pow_cast]
    simp
  have hb : x % 128 * 128 ^ k ≤ 127 * 128 ^ k := Nat.mul_le_mul_right _ (by omega)
  have e2 : wrap64 ((x % 128 * 128 ^ k : Nat) : Int) = ((x % 128 * 128 ^ k : Nat) : Int) := IntWalk.wrap64_in _ ⟨by omega, by omega⟩
  rw [e, e2, IntWalk.wrap64_in _ ⟨by omega, by omega⟩]
  simp
/-- The table of four digits; a step of a check sum. -/
def tabN : List Nat := [0, 498536548, 997073096, 651767980, 1994146192, 1802195444, 1303535960, 1342533948, 3988292384, 4027552580, 3604390888, 3412177804, 2607071920, 2262029012, 2685067896, 3183342108]
def nib (s : Nat) : Nat := (s / 16) ^^^ tabN.getD (s % 16) 0
def stepN (s x : Nat) : Nat := nib (nib (s ^^^ x))
def sumFrom (s : Nat) (xs : List Int) : Nat := xs.foldl (fun s x => stepN s x.toNat) s
def sumN (xs : List Int) : Nat := 4294967295 - sumFrom 4294967295 xs
theorem tab_lt (i : Nat) (h : i < 16) : tabN.getD i 0 < 4294967296 := by
  have : ∀ i : Fin 16, tabN.getD i.val 0 < 4294967296 := by decide
  exact this ⟨i, h⟩
theorem xor_lt32 {a b : Nat} (ha : a < 4294967296) (hb : b < 4294967296) : a ^^^ b < 4294967296 := Nat.xor_lt_two_pow (n := 32) ha hb
theorem nib_lt {s : Nat} (h : s < 4294967296) : nib s < 4294967296 := xor_lt32 (by omega) (tab_lt _ (by omega))
theorem stepN_lt {s x : Nat} (hs : s < 4294967296) (hx : x < 256) : stepN s x < 4294967296 := nib_lt (nib_lt (xor_lt32 hs (by omega)))
theorem sumFrom_more {xs : List Int} {k : Nat} {x : Int} (s : Nat) (h : xs[k]? = some x) : sumFrom s (xs.take (k + 1)) = stepN (sumFrom s (xs.take k)) x.toNat := by
  unfold sumFrom
  rw [take_more h, List.foldl_append]
  rfl
theorem sumFrom_app (s : Nat) (xs ys : List Int) : sumFrom s (xs ++ ys) = sumFrom (sumFrom s xs) ys := by
  unfold sumFrom
  rw [List.foldl_append]
/-- All are bytes. -/
def Byt (xs : List Int) : Prop := ∀ x ∈ xs, 0 ≤ x ∧ x < 256
theorem Byt.at_ {xs : List Int} (h : Byt xs) {k : Nat} {x : Int} (e : xs[k]? = some x) : 0 ≤ x ∧ x < 256 := h x (List.mem_of_getElem? e)
theorem sumFrom_lt : ∀ (xs : List Int) (s : Nat), Byt xs → s < 4294967296 → sumFrom s xs < 4294967296 := by
  intro xs
  induction xs with
  | nil => intro s _ h; exact h
  | cons x xs ih =>
    intro s hb h
    have hx := hb x (by simp)
    exact ih _ (fun y hy => hb y (by simp [hy])) (stepN_lt h (by omega))
theorem Byt.take {xs : List Int} (h : Byt xs) (k : Nat) : Byt (xs.take k) := fun x hx => h x (List.mem_of_mem_take hx)
theorem Byt.app {xs ys : List Int} (h : Byt xs) (k : Byt ys) : Byt (xs ++ ys) := fun x hx => by
  rcases List.mem_append.1 hx with h1 | h1
  · exact h x h1
  · exact k x h1
theorem Byt.cat_ {xss : List (List Int)} (h : ∀ xs ∈ xss, Byt xs) : Byt (cat xss) := fun x hx => by
  obtain ⟨xs, h1, h2⟩ := List.mem_flatten.1 hx
  exact h xs h1 x h2
theorem encN_byt (n : Nat) : Byt (encN n) := encN_byte n
end
end Go.Oct
namespace Go.Su
section
/-- Where each text begins. -/
def beg (xss : List (List Int)) (d : Nat) : Nat := ((xss.take d).map fun t => t.length + 1).sum
/-- Its places in a text. -/
def ats (t p : List Int) : List Nat := if p = [] then [] else (List.range (t.length + 1 - p.length)).filter fun a => decide ((t.drop a).take p.length = p)
/-- Its places in the texts, in order. -/
def locs : List (List Int) → List Int → Nat → List (Nat × Nat)
  | [], _, _ => []
  | t :: xss, p, d => (ats t p).map (fun a => (d, a)) ++ locs xss p (d + 1)
section
variable {xss : List (List Int)} {t p : List Int} {d a x : Nat}
theorem beg_zero (xss : List (List Int)) : beg xss 0 = 0 := rfl
theorem beg_cons (t : List Int) (xss : List (List Int)) (d : Nat) : beg (t :: xss) (d + 1) = t.length + 1 + beg xss d := by
  unfold beg
  rw [List.take_succ_cons, List.map_cons, List.sum_cons]
theorem beg_next : ∀ (xss : List (List Int)) (d : Nat), d < xss.length → beg xss (d + 1) = beg xss d + ((xss.getD d []).length + 1)
  | [], d, h => absurd h (by simp)
  | t :: xss, 0, _ => by
    rw [beg_cons, beg_zero, beg_zero]
    simp
  | t :: xss, d + 1, h => by
    have := beg_next xss d (by simpa using h)
    rw [beg_cons, beg_cons, this]
    simp
    omega
theorem beg_mono (xss : List (List Int)) {d : Nat} : ∀ {e : Nat}, d ≤ e → e ≤ xss.length → beg xss d ≤ beg xss e
  | 0, h, _ => by
    obtain rfl : d = 0 := by omega
    exact Nat.le_refl _
  | e + 1, h, he => by
    rcases Nat.lt_or_ge d (e + 1) with h1 | h1
    · have := beg_mono xss (show d ≤ e by omega) (by omega)
      rw [beg_next xss e (by omega)]
      omega
    · obtain rfl : d = e + 1 := by omega
      exact Nat.le_refl _
end
end
end Go.Su
namespace Go.Sg
section
open Go.Oct Go.Su Go.RowKit
/-- A key: its bytes. -/
abbrev Key := List UInt8
/-- A document: its key, its text's bytes. -/
abbrev Dc := Key × List Int
/-- A key's bytes as numbers. -/
def kI (k : Key) : List Int := k.map fun b => (b.toNat : Int)
def ks (ds : List Dc) : List Key := ds.map (·.1)
def ts (ds : List Dc) : List (List Int) := ds.map (·.2)
/-- Is a key one? -/
def okK (k : Key) : Prop := 1 ≤ k.length ∧ k.length ≤ 64
instance (k : Key) : Decidable (okK k) := by unfold okK; exact inferInstance
/-! ### the order -/
theorem key_irrefl (a : Key) : ¬ a < a := List.lt_irrefl a
theorem key_trans {a b c : Key} (h : a < b) (k : b < c) : a < c := List.lt_trans h k
theorem key_tri (a b : Key) : a < b ∨ a = b ∨ b < a := by
  by_cases h : a < b
  · exact .inl h
  · by_cases k : b < a
    · exact .inr (.inr k)
    · exact .inr (.inl (List.le_antisymm (List.not_lt.1 k) (List.not_lt.1 h)))
theorem key_le_trans {a b c : Key} (h : ¬ b < a) (k : ¬ c < b) : ¬ c < a := fun hc => by
  rcases key_tri a b with h1 | h1 | h1
  · exact k (key_trans hc h1)
  · subst h1; exact k hc
  · exact h h1
theorem key_le_of_lt {a b : Key} (h : a < b) : ¬ b < a := fun k => key_irrefl a (key_trans h k)
/-- Rising, alike ones let in. -/
def Srt (l : List Key) : Prop := l.Pairwise fun a b => ¬ b < a
/-- Rising. -/
def Rise (l : List Key) : Prop := l.Pairwise fun a b => a < b
theorem Rise.srt {l : List Key} (h : Rise l) : Srt l := h.imp key_le_of_lt
theorem Rise.nodup {l : List Key} (h : Rise l) : l.Nodup := by
  unfold List.Nodup
  unfold Rise at h
  refine List.Pairwise.imp (fun {a b} (hab : a < b) => ?_) h
  rintro rfl
  exact key_irrefl _ hab
theorem Srt.rise {l : List Key} (h : Srt l) (hn : l.Nodup) : Rise l := by
  unfold Srt at h
  unfold List.Nodup at hn
  exact (h.and hn).imp fun {a b} hab => by
    rcases key_tri a b with h1 | h1 | h1
    · exact h1
    · exact absurd h1 hab.2
    · exact absurd h1 hab.1
theorem srt_uniq {l m : List Key} (hl : Srt l) (hm : Srt m) (hp : l.Perm m) : l = m :=
  List.Perm.eq_of_pairwise (le := fun a b => ¬ b < a) (fun a b _ _ h1 h2 => by
    rcases key_tri a b with h | h | h
    · exact absurd h h2
    · exact h
    · exact absurd h h1) hl hm hp
/-- Neighbours that differ make a sorted row rising. -/
theorem srt_adj {l : List Key} (h : Srt l) : Rise l ↔ ∀ i a b, l[i]? = some a → l[i + 1]? = some b → a ≠ b := by
  constructor
  · intro hr i a b ha hb e
    obtain ⟨h1, rfl⟩ := List.getElem?_eq_some_iff.1 ha
    obtain ⟨h2, rfl⟩ := List.getElem?_eq_some_iff.1 hb
    have := (List.pairwise_iff_getElem.1 hr) i (i + 1) h1 h2 (by omega)
    rw [e] at this
    exact key_irrefl _ this
  · intro hne
    refine h.rise ?_
    induction l with
    | nil => exact List.Pairwise.nil
    | cons a l ih =>
      have h' := List.pairwise_cons.1 h
      refine List.pairwise_cons.2 ⟨fun b hb e => ?_, ih h'.2 (fun i x y hx hy => hne (i + 1) x y (by simpa using hx) (by simpa using hy))⟩
      subst e
      cases l with
      | nil => simp at hb
      | cons c l =>
        rcases List.mem_cons.1 hb with rfl | hb
        · exact hne 0 a a rfl rfl rfl
        · have h1 := h'.1 c (by simp)
          have h2 := (List.pairwise_cons.1 h'.2).1 a hb
          rcases key_tri a c with k | k | k
          · exact h2 k
          · exact hne 0 a c rfl rfl k
          · exact h1 k
/-! ### two sorted rows made one -/
structure Mrg (all out x y : List Key) : Prop where
  perm : (out ++ (x ++ y)).Perm all
  so : Srt out
  sx : Srt x
  sy : Srt y
  le : ∀ a ∈ out, ∀ b ∈ x ++ y, ¬ b < a
theorem Mrg.start {x y all : List Key} (hx : Srt x) (hy : Srt y) (h : (x ++ y).Perm all) : Mrg all [] x y := ⟨h, List.Pairwise.nil, hx, hy, fun a ha => by simp at ha⟩
theorem srt_snoc {l : List Key} {a : Key} (h : Srt l) (ha : ∀ b ∈ l, ¬ a < b) : Srt (l ++ [a]) :=
  List.pairwise_append.2 ⟨h, List.pairwise_singleton _ _, fun b hb c hc => by
    obtain rfl : c = a := by simpa using hc
    exact ha b hb⟩
theorem Mrg.left {all out x y : List Key} {a : Key} (h : Mrg all out (a :: x) y) (hy : ∀ b ∈ y, ¬ b < a) : Mrg all (out ++ [a]) x y := by
  have hx := List.pairwise_cons.1 h.sx
  refine ⟨by simpa using h.perm, srt_snoc h.so (fun b hb => h.le b hb a (by simp)), hx.2, h.sy, fun b hb c hc => ?_⟩
  rcases List.mem_append.1 hb with hb | hb
  · refine h.le b hb c ?_
    rcases List.mem_append.1 hc with hc | hc
    · simp [hc]
    · simp [hc]
  · obtain rfl : b = a := by simpa using hb
    rcases List.mem_append.1 hc with hc | hc
    · exact hx.1 c hc
    · exact hy c hc
theorem Mrg.right {all out x y : List Key} {a : Key} (h : Mrg all out x (a :: y)) (hx : ∀ b ∈ x, ¬ b < a) : Mrg all (out ++ [a]) x y := by
  have hy := List.pairwise_cons.1 h.sy
  refine ⟨?_, srt_snoc h.so (fun b hb => h.le b hb a (by simp)), h.sx, hy.2, fun b hb c hc => ?_⟩
  · refine List.Perm.trans ?_ h.perm
    rw [List.append_assoc]
    refine List.Perm.append_left _ ?_
    exact (List.perm_middle (l₁ := x) (l₂ := y) (a := a)).symm
  · rcases List.mem_append.1 hb with hb | hb
    · refine h.le b hb c ?_
      rcases List.mem_append.1 hc with hc | hc
      · simp [hc]
      · simp [hc]
    · obtain rfl : b = a := by simpa using hb
      rcases List.mem_append.1 hc with hc | hc
      · exact hx c hc
      · exact hy.1 c hc
theorem srt_head {a : Key} {l : List Key} (h : Srt (a :: l)) {c : Key} (hc : ¬ a < c) : ∀ b ∈ a :: l, ¬ b < c := fun b hb => by
  rcases List.mem_cons.1 hb with rfl | hb
  · exact hc
  · exact key_le_trans hc ((List.pairwise_cons.1 h).1 b hb)
theorem Mrg.done {all out : List Key} (h : Mrg all out [] []) : Srt out ∧ out.Perm all := ⟨h.so, by simpa using h.perm⟩
/-! ### documents -/
/-- May documents and keys that are gone stand together? -/
def ArgOk (ds : List Dc) (gs : List Key) : Prop := (∀ k ∈ ks ds ++ gs, okK k) ∧ (ks ds ++ gs).Nodup
/-- The same documents and keys, rising. -/
structure Made (docs : List Dc) (gone : List Key) (ds : List Dc) (gs : List Key) : Prop where
  pd : ds.Perm docs
  rd : Rise (ks ds)
  pg : gs.Perm gone
  rg : Rise gs
theorem ks_len (ds : List Dc) : (ks ds).length = ds.length := by simp [ks]
theorem ts_len (ds : List Dc) : (ts ds).length = ds.length := by simp [ts]
theorem ks_app (a b : List Dc) : ks (a ++ b) = ks a ++ ks b := by simp [ks]
theorem ts_app (a b : List Dc) : ts (a ++ b) = ts a ++ ts b := by simp [ts]
theorem docs_uniq : ∀ {ds es : List Dc}, ds.Perm es → Rise (ks ds) → Rise (ks es) → ds = es := by
  intro ds es hp h1 h2
  have hk : ks ds = ks es := srt_uniq h1.srt h2.srt (hp.map _)
  have hn := h1.nodup
  refine List.ext_getElem? fun i => ?_
  cases hd : ds[i]? with
  | none =>
    have : ds.length ≤ i := List.getElem?_eq_none_iff.1 hd
    rw [List.getElem?_eq_none (by rw [← hp.length_eq]; exact this)]
  | some d =>
    obtain ⟨hi, rfl⟩ := List.getElem?_eq_some_iff.1 hd
    have hi2 : i < es.length := by rw [← hp.length_eq]; exact hi
    rw [List.getElem?_eq_getElem hi2]
    congr 1
    obtain ⟨j, hj, hje⟩ := List.mem_iff_getElem.1 (hp.mem_iff.1 (List.getElem_mem hi))
    have e1 : (ks es)[i]'(by rw [ks_len]; exact hi2) = (ds[i]).1 := by
      have : (ks ds)[i]'(by rw [ks_len]; exact hi) = (ds[i]).1 := by simp [ks]
      rw [← this]
      simp only [hk]
    have e2 : (ks es)[j]'(by rw [ks_len]; exact hj) = (ds[i]).1 := by simp [ks, hje]
    have hij : i = j := by
      have h2n := h2.nodup
      exact (List.getElem_inj (xs := ks es) (h₀ := by rw [ks_len]; exact hi2) (h₁ := by rw [ks_len]; exact hj) h2n).1 (e1.trans e2.symm)
    subst hij
    exact hje.symm
theorem Made.uniq {docs ds es : List Dc} {gone gs hs : List Key} (h : Made docs gone ds gs) (k : Made docs gone es hs) : ds = es ∧ gs = hs :=
  ⟨docs_uniq (h.pd.trans k.pd.symm) h.rd k.rd, srt_uniq h.rg.srt k.rg.srt (h.pg.trans k.pg.symm)⟩
theorem ArgOk.perm {ds es : List Dc} {gs hs : List Key} (h : ArgOk ds gs) (p : es.Perm ds) (q : hs.Perm gs) : ArgOk es hs := by
  have hp : (ks es ++ hs).Perm (ks ds ++ gs) := (p.map _).append q
  exact ⟨fun k hk => h.1 k (hp.mem_iff.1 hk), hp.nodup_iff.2 h.2⟩
/-- What a row of documents has at a key. -/
def at_ (ds : List Dc) (k : Key) : Option (List Int) := (ds.find? fun d => decide (d.1 = k)).map (·.2)
/-! ### the record -/
/-- Keys as bytes. -/
def keysB (l : List Key) : List Int := encN l.length ++ l.flatMap fun k => rowB (kI k)
/-- What the record holds; t: the turned row. -/
def bod (ds : List Dc) (gs : List Key) (t : List Int) : List Int := [83, 1] ++ keysB (ks ds) ++ keysB gs ++ (encN t.length ++ t.flatMap encI)
theorem kI_len (k : Key) : (kI k).length = k.length := by simp [kI]
theorem kI_byte (k : Key) : ∀ x ∈ kI k, 0 ≤ x ∧ x < 256 := fun x hx => by
  obtain ⟨b, _, rfl⟩ := List.mem_map.1 hx
  have := b.toNat_lt
  omega
theorem kI_inj {a b : Key} (h : kI a = kI b) : a = b := by
  unfold kI at h
  refine List.map_inj_right (f := fun b : UInt8 => (b.toNat : Int)) (fun x y hxy => ?_) |>.1 h
  have : x.toNat = y.toNat := Int.ofNat.inj hxy
  exact UInt8.toNat_inj.1 this
/-- Which texts are too long. -/
def Big (ds : List Dc) : Prop := ∃ t ∈ ts ds, 4096 < t.length
/-- A segment of these documents and keys: what New says, where nothing but a text may be too long. -/
def NewRes (docs : List Dc) (gone : List Key) (ec : Int) (ds : List Dc) (gs : List Key) : Prop :=
  (¬ ArgOk docs gone ∧ ec = 1) ∨ (ArgOk docs gone ∧ Big docs ∧ ec = 5) ∨ (ArgOk docs gone ∧ ¬ Big docs ∧ ec = 0 ∧ Made docs gone ds gs)
theorem NewRes.same {docs ds es : List Dc} {gone gs hs : List Key} {ec ec' : Int} (h : NewRes docs gone ec ds gs) (k : NewRes docs gone ec' es hs) : ec = ec' ∧ (ec = 0 → ds = es ∧ gs = hs) := by
  rcases h with ⟨h1, rfl⟩ | ⟨h1, h2, rfl⟩ | ⟨h1, h2, rfl, h3⟩ <;> rcases k with ⟨k1, rfl⟩ | ⟨k1, k2, rfl⟩ | ⟨k1, k2, rfl, k3⟩
  · exact ⟨rfl, fun h => absurd h (by omega)⟩
  · exact absurd k1 h1
  · exact absurd k1 h1
  · exact absurd h1 k1
  · exact ⟨rfl, fun h => absurd h (by omega)⟩
  · exact absurd h2 k2
  · exact absurd h1 k1
  · exact absurd k2 h2
  · exact ⟨rfl, fun _ => h3.uniq k3⟩
end
end Go.Sg
