/-
  What a segment's record holds, taken apart by a Reader: what was laid comes back; what comes back was laid so. Conditions: none.
-/
import Derived.Test.YtanhnaohmaepoaaOcSteps
import Derived.Test.YtanhnaohmaepoaaSgMath
namespace Go.Sg
open Go.Oct Go.Su Go.RowKit

/-- The Reader's state behind so many rows; the rows. -/
def kst (s : Bool × List Int) : Nat → Bool × List Int
  | 0 => s
  | i + 1 => (bb (kst s i).2, br_ (kst s i).2)
def kvs (s : Bool × List Int) (i : Nat) : List (List Int) := (List.range i).map fun j => bv (kst s j).2
/-- .. behind so many numbers; the numbers. -/
def nst (s : Bool × List Int) : Nat → Bool × List Int
  | 0 => s
  | i + 1 => (nb (nst s i).2, nr (nst s i).2)
def nvs (s : Bool × List Int) (i : Nat) : List Nat := (List.range i).map fun j => nv (nst s j).2
theorem kvs_zero (s : Bool × List Int) : kvs s 0 = [] := rfl
theorem nvs_zero (s : Bool × List Int) : nvs s 0 = [] := rfl
theorem kvs_more (s : Bool × List Int) (i : Nat) : kvs s (i + 1) = kvs s i ++ [bv (kst s i).2] := by simp [kvs, List.range_succ]
theorem nvs_more (s : Bool × List Int) (i : Nat) : nvs s (i + 1) = nvs s i ++ [nv (nst s i).2] := by simp [nvs, List.range_succ]
theorem kvs_len (s : Bool × List Int) (i : Nat) : (kvs s i).length = i := by simp [kvs]
theorem nvs_len (s : Bool × List Int) (i : Nat) : (nvs s i).length = i := by simp [nvs]

theorem row_take {x : List Int} (hx : x.length ≤ top62) (more : List Int) : bv (rowB x ++ more) = x ∧ bb (rowB x ++ more) = false ∧ br_ (rowB x ++ more) = more := by
  have e : takeN 0 0 (rowB x ++ more) = some (x.length, x ++ more) := by
    unfold rowB
    rw [List.append_assoc]
    exact takeN_enc0 hx _
  unfold bv bb br_
  rw [e]
  have hl : ¬ (x ++ more).length < x.length := by rw [List.length_append]; omega
  simp only [if_neg hl]
  exact ⟨by rw [List.take_append_of_le_length (Nat.le_refl _), List.take_of_length_le (Nat.le_refl _)], trivial, by rw [List.drop_append_of_le_length (Nat.le_refl _), List.drop_eq_nil_of_le (Nat.le_refl _), List.nil_append]⟩
theorem num_take {m : Nat} (hm : m ≤ top62) (more : List Int) : nv (encN m ++ more) = m ∧ nb (encN m ++ more) = false ∧ nr (encN m ++ more) = more := by
  unfold nv nb nr
  rw [takeN_enc0 hm]
  exact ⟨rfl, rfl, rfl⟩
theorem kst_enc (l : List (List Int)) (hl : ∀ x ∈ l, x.length ≤ top62) (more : List Int) : ∀ i, i ≤ l.length → kst (false, l.flatMap rowB ++ more) i = (false, (l.drop i).flatMap rowB ++ more) := by
  intro i
  induction i with
  | zero => intro _; rfl
  | succ i ih =>
    intro hi
    unfold kst
    rw [ih (by omega)]
    have h1 : i < l.length := by omega
    rw [List.drop_eq_getElem_cons h1, List.flatMap_cons, List.append_assoc]
    obtain ⟨_, h2, h3⟩ := row_take (hl _ (List.getElem_mem h1)) ((l.drop (i + 1)).flatMap rowB ++ more)
    simp only [h2, h3]
theorem kvs_enc (l : List (List Int)) (hl : ∀ x ∈ l, x.length ≤ top62) (more : List Int) : kvs (false, l.flatMap rowB ++ more) l.length = l := by
  refine List.ext_getElem (by simp [kvs]) fun i h1 h2 => ?_
  simp only [kvs, List.getElem_map, List.getElem_range]
  rw [kst_enc l hl more i (by omega)]
  simp only
  rw [List.drop_eq_getElem_cons h2, List.flatMap_cons, List.append_assoc]
  exact (row_take (hl _ (List.getElem_mem h2)) _).1
theorem nst_enc (l : List Nat) (hl : ∀ x ∈ l, x ≤ top62) (more : List Int) : ∀ i, i ≤ l.length → nst (false, l.flatMap encN ++ more) i = (false, (l.drop i).flatMap encN ++ more) := by
  intro i
  induction i with
  | zero => intro _; rfl
  | succ i ih =>
    intro hi
    unfold nst
    rw [ih (by omega)]
    have h1 : i < l.length := by omega
    rw [List.drop_eq_getElem_cons h1, List.flatMap_cons, List.append_assoc]
    obtain ⟨_, h2, h3⟩ := num_take (hl _ (List.getElem_mem h1)) ((l.drop (i + 1)).flatMap encN ++ more)
    simp only [h2, h3]
theorem nvs_enc (l : List Nat) (hl : ∀ x ∈ l, x ≤ top62) (more : List Int) : nvs (false, l.flatMap encN ++ more) l.length = l := by
  refine List.ext_getElem (by simp [nvs]) fun i h1 h2 => ?_
  simp only [nvs, List.getElem_map, List.getElem_range]
  rw [nst_enc l hl more i (by omega)]
  simp only
  rw [List.drop_eq_getElem_cons h2, List.flatMap_cons, List.append_assoc]
  exact (num_take (hl _ (List.getElem_mem h2)) _).1
/-! ### what erred stays so -/
theorem nb_nil {xs : List Int} (h : nb xs = true) : nr xs = [] ∧ nv xs = 0 := by
  unfold nb at h
  unfold nr nv
  cases ht : takeN 0 0 xs with
  | none => exact ⟨rfl, rfl⟩
  | some y => rw [ht] at h; simp at h
theorem bb_nil {xs : List Int} (h : bb xs = true) : br_ xs = [] := by
  unfold bb at h
  unfold br_
  cases ht : takeN 0 0 xs with
  | none => rfl
  | some y =>
    obtain ⟨m, r⟩ := y
    rw [ht] at h
    simp only at h ⊢
    by_cases hm : r.length < m
    · rw [if_pos hm]
    · rw [if_neg hm] at h; simp at h
theorem nb_of_nil : nb [] = true := rfl
theorem bb_of_nil : bb [] = true := rfl
/-- A state that is one: who erred has nothing left. -/
def Sane (s : Bool × List Int) : Prop := s.1 = true → s.2 = []
theorem kst_sane {s : Bool × List Int} (h : Sane s) : ∀ i, Sane (kst s i)
  | 0 => h
  | _ + 1 => fun hb => bb_nil hb
theorem nst_sane {s : Bool × List Int} (h : Sane s) : ∀ i, Sane (nst s i)
  | 0 => h
  | _ + 1 => fun hb => (nb_nil hb).1
theorem kst_bad {s : Bool × List Int} (h : Sane s) {i : Nat} (hb : (kst s i).1 = true) : (kst s (i + 1)).1 = true := by
  show bb (kst s i).2 = true
  rw [kst_sane h i hb]
  rfl
theorem nst_bad {s : Bool × List Int} (h : Sane s) {i : Nat} (hb : (nst s i).1 = true) : (nst s (i + 1)).1 = true := by
  show nb (nst s i).2 = true
  rw [nst_sane h i hb]
  rfl
theorem kst_bad_le {s : Bool × List Int} (h : Sane s) {i : Nat} (hb : (kst s i).1 = true) : ∀ {j : Nat}, i ≤ j → (kst s j).1 = true := by
  intro j hj
  induction j with
  | zero =>
    obtain rfl : i = 0 := by omega
    exact hb
  | succ j ih =>
    rcases Nat.lt_or_ge j i with h1 | h1
    · obtain rfl : i = j + 1 := by omega
      exact hb
    · exact kst_bad h (ih h1)
theorem nst_bad_le {s : Bool × List Int} (h : Sane s) {i : Nat} (hb : (nst s i).1 = true) : ∀ {j : Nat}, i ≤ j → (nst s j).1 = true := by
  intro j hj
  induction j with
  | zero =>
    obtain rfl : i = 0 := by omega
    exact hb
  | succ j ih =>
    rcases Nat.lt_or_ge j i with h1 | h1
    · obtain rfl : i = j + 1 := by omega
      exact hb
    · exact nst_bad h (ih h1)
/-! ### a whole record taken apart -/
/-- What a Reader takes of p: the keys, those that are gone, the symbols; all of p, and no error. -/
structure Parsed (p : List Int) (kl gl : List (List Int)) (tl : List Nat) : Prop where
  len : 2 ≤ p.length
  head : p.take 2 = [83, 1]
  b0 : nb (p.drop 2) = false
  b1 : (kst (false, nr (p.drop 2)) (nv (p.drop 2))).1 = false
  kl : kl = kvs (false, nr (p.drop 2)) (nv (p.drop 2))
  b2 : nb (kst (false, nr (p.drop 2)) (nv (p.drop 2))).2 = false
  b3 : (kst (false, nr (kst (false, nr (p.drop 2)) (nv (p.drop 2))).2) (nv (kst (false, nr (p.drop 2)) (nv (p.drop 2))).2)).1 = false
  gl : gl = kvs (false, nr (kst (false, nr (p.drop 2)) (nv (p.drop 2))).2) (nv (kst (false, nr (p.drop 2)) (nv (p.drop 2))).2)
  b4 : nb (kst (false, nr (kst (false, nr (p.drop 2)) (nv (p.drop 2))).2) (nv (kst (false, nr (p.drop 2)) (nv (p.drop 2))).2)).2 = false
  tl : tl = nvs (false, nr (kst (false, nr (kst (false, nr (p.drop 2)) (nv (p.drop 2))).2) (nv (kst (false, nr (p.drop 2)) (nv (p.drop 2))).2)).2) (nv (kst (false, nr (kst (false, nr (p.drop 2)) (nv (p.drop 2))).2) (nv (kst (false, nr (p.drop 2)) (nv (p.drop 2))).2)).2)
  b5 : nst (false, nr (kst (false, nr (kst (false, nr (p.drop 2)) (nv (p.drop 2))).2) (nv (kst (false, nr (p.drop 2)) (nv (p.drop 2))).2)).2) (nv (kst (false, nr (kst (false, nr (p.drop 2)) (nv (p.drop 2))).2) (nv (kst (false, nr (p.drop 2)) (nv (p.drop 2))).2)).2) = (false, [])
theorem Parsed.uniq {p : List Int} {kl gl kl' gl' : List (List Int)} {tl tl' : List Nat} (h : Parsed p kl gl tl) (k : Parsed p kl' gl' tl') : kl = kl' ∧ gl = gl' ∧ tl = tl' :=
  ⟨h.kl.trans k.kl.symm, h.gl.trans k.gl.symm, h.tl.trans k.tl.symm⟩
/-- Rows as bytes. -/
def rowsB (l : List (List Int)) : List Int := encN l.length ++ l.flatMap rowB
def numsB (l : List Nat) : List Int := encN l.length ++ l.flatMap encN
def bod0 (kl gl : List (List Int)) (tl : List Nat) : List Int := [83, 1] ++ (rowsB kl ++ (rowsB gl ++ numsB tl))
theorem parsed_bod {kl gl : List (List Int)} {tl : List Nat} (hk : ∀ x ∈ kl, x.length ≤ top62) (hg : ∀ x ∈ gl, x.length ≤ top62) (ht : ∀ x ∈ tl, x ≤ top62) (lk : kl.length ≤ top62) (lg : gl.length ≤ top62) (lt : tl.length ≤ top62) : Parsed (bod0 kl gl tl) kl gl tl := by
  have e0 : (bod0 kl gl tl).drop 2 = encN kl.length ++ (kl.flatMap rowB ++ (rowsB gl ++ numsB tl)) := by simp [bod0, rowsB]
  obtain ⟨v0, c0, r0⟩ := num_take lk (kl.flatMap rowB ++ (rowsB gl ++ numsB tl))
  have s1 := kst_enc kl hk (rowsB gl ++ numsB tl) kl.length (Nat.le_refl _)
  have k1 := kvs_enc kl hk (rowsB gl ++ numsB tl)
  rw [List.drop_length, List.flatMap_nil, List.nil_append] at s1
  have e1 : rowsB gl ++ numsB tl = encN gl.length ++ (gl.flatMap rowB ++ numsB tl) := by simp [rowsB]
  obtain ⟨v1, c1, r1⟩ := num_take lg (gl.flatMap rowB ++ numsB tl)
  have s2 := kst_enc gl hg (numsB tl) gl.length (Nat.le_refl _)
  have k2 := kvs_enc gl hg (numsB tl)
  rw [List.drop_length, List.flatMap_nil, List.nil_append] at s2
  have e2 : numsB tl = encN tl.length ++ (tl.flatMap encN ++ []) := by simp [numsB]
  obtain ⟨v2, c2, r2⟩ := num_take lt (tl.flatMap encN ++ [])
  have s3 := nst_enc tl ht [] tl.length (Nat.le_refl _)
  have k3 := nvs_enc tl ht []
  rw [List.drop_length, List.flatMap_nil, List.nil_append] at s3
  have q1 : kst (false, nr ((bod0 kl gl tl).drop 2)) (nv ((bod0 kl gl tl).drop 2)) = (false, rowsB gl ++ numsB tl) := by rw [e0, v0, r0, s1]
  have q2 : kst (false, nr (rowsB gl ++ numsB tl)) (nv (rowsB gl ++ numsB tl)) = (false, numsB tl) := by rw [e1, v1, r1, s2]
  have q3 : nst (false, nr (numsB tl)) (nv (numsB tl)) = (false, []) := by rw [e2, v2, r2, s3]
  refine ⟨by simp [bod0], by simp [bod0], by rw [e0]; exact c0, by rw [q1], by rw [e0, v0, r0, k1], by rw [q1]; show nb (rowsB gl ++ numsB tl) = false; rw [e1]; exact c1, by rw [q1]; show (kst (false, nr (rowsB gl ++ numsB tl)) (nv (rowsB gl ++ numsB tl))).1 = false; rw [q2],
    by rw [q1]; show gl = kvs (false, nr (rowsB gl ++ numsB tl)) (nv (rowsB gl ++ numsB tl)); rw [e1, v1, r1, k2], ?_, ?_, ?_⟩
  · rw [q1]
    show nb (kst (false, nr (rowsB gl ++ numsB tl)) (nv (rowsB gl ++ numsB tl))).2 = false
    rw [q2]
    show nb (numsB tl) = false
    rw [e2]
    exact c2
  · rw [q1]
    show tl = nvs (false, nr (kst (false, nr (rowsB gl ++ numsB tl)) (nv (rowsB gl ++ numsB tl))).2) (nv (kst (false, nr (rowsB gl ++ numsB tl)) (nv (rowsB gl ++ numsB tl))).2)
    rw [q2]
    show tl = nvs (false, nr (numsB tl)) (nv (numsB tl))
    rw [e2, v2, r2, k3]
  · rw [q1]
    show nst (false, nr (kst (false, nr (rowsB gl ++ numsB tl)) (nv (rowsB gl ++ numsB tl))).2) (nv (kst (false, nr (rowsB gl ++ numsB tl)) (nv (rowsB gl ++ numsB tl))).2) = (false, [])
    rw [q2]
    exact q3
/-! ### what is taken was laid so -/
theorem takeN_inv : ∀ (l : List Int) (i n m : Nat) (r : List Int), Byt l → takeN i n l = some (m, r) → ∃ q, (0 < i → 0 < q) ∧ l = encN q ++ r ∧ m = n + q * 128 ^ i := by
  intro l
  induction l with
  | nil => intro i n m r _ h; simp [takeN] at h
  | cons b l ih =>
    intro i n m r hb h
    obtain ⟨hb0, hb1⟩ := hb b (by simp)
    unfold takeN at h
    by_cases h9 : i = 9
    · rw [if_pos h9] at h; simp at h
    rw [if_neg h9] at h
    by_cases hbig : (128 : Int) ≤ b
    · rw [if_pos hbig] at h
      obtain ⟨q, hq, hl, hm⟩ := ih (i + 1) _ m r (fun x hx => hb x (by simp [hx])) h
      have hq0 := hq (by omega)
      refine ⟨b.toNat % 128 + 128 * q, fun _ => by omega, ?_, ?_⟩
      · rw [encN_big (by omega), show (b.toNat % 128 + 128 * q) / 128 = q by omega, hl]
        have : (((b.toNat % 128 + 128 * q) % 128 + 128 : Nat) : Int) = b := by omega
        rw [this]
        rfl
      · rw [hm, Nat.pow_succ, Nat.add_mul]
        have : q * (128 ^ i * 128) = 128 * q * 128 ^ i := by
          rw [← Nat.mul_assoc, Nat.mul_comm (q * 128 ^ i) 128, Nat.mul_assoc]
        omega
    · rw [if_neg hbig] at h
      by_cases hbad : top62 < n + b.toNat % 128 * 128 ^ i ∨ (b = 0 ∧ 0 < i)
      · rw [if_pos hbad] at h; simp at h
      rw [if_neg hbad] at h
      simp only [Option.some.injEq, Prod.mk.injEq] at h
      obtain ⟨rfl, rfl⟩ := h
      refine ⟨b.toNat, fun hi => ?_, ?_, ?_⟩
      · rcases Nat.eq_zero_or_pos b.toNat with h0 | h0
        · exact absurd (.inr ⟨by omega, hi⟩) hbad
        · exact h0
      · rw [encN_small (by omega), show ((b.toNat : Nat) : Int) = b by omega]
        rfl
      · rw [Nat.mod_eq_of_lt (by omega)]
theorem num_inv {xs : List Int} (hb : Byt xs) (h : nb xs = false) : xs = encN (nv xs) ++ nr xs := by
  unfold nb at h
  unfold nv nr
  cases ht : takeN 0 0 xs with
  | none => rw [ht] at h; simp at h
  | some y =>
    obtain ⟨m, r⟩ := y
    obtain ⟨q, _, hl, hm⟩ := takeN_inv xs 0 0 m r hb ht
    simp only at hl hm ⊢
    rw [show m = q by simpa using hm]
    exact hl
theorem row_inv {xs : List Int} (hb : Byt xs) (h : bb xs = false) : xs = rowB (bv xs) ++ br_ xs := by
  unfold bb at h
  unfold bv br_
  cases ht : takeN 0 0 xs with
  | none => rw [ht] at h; simp at h
  | some y =>
    obtain ⟨m, r⟩ := y
    rw [ht] at h
    simp only at h ⊢
    by_cases hm : r.length < m
    · rw [if_pos hm] at h; simp at h
    rw [if_neg hm, if_neg hm]
    obtain ⟨q, _, hl, hq⟩ := takeN_inv xs 0 0 m r hb ht
    unfold rowB
    rw [List.length_take, Nat.min_eq_left (by omega), List.append_assoc, List.take_append_drop, show m = q by simpa using hq]
    exact hl
theorem byt_tail {a b : List Int} (h : Byt (a ++ b)) : Byt b := fun x hx => h x (by simp [hx])
theorem kst_inv {xs : List Int} (hb : Byt xs) : ∀ i, (kst (false, xs) i).1 = false → xs = (kvs (false, xs) i).flatMap rowB ++ (kst (false, xs) i).2 := by
  intro i
  induction i with
  | zero => intro _; rfl
  | succ i ih =>
    intro h
    have h0 : (kst (false, xs) i).1 = false := by
      cases hc : (kst (false, xs) i).1 with
      | false => rfl
      | true => rw [kst_bad (fun h => by simp at h) hc] at h; simp at h
    have e := ih h0
    have hb2 : Byt (kst (false, xs) i).2 := byt_tail (by rw [← e]; exact hb)
    have e2 := row_inv hb2 h
    rw [kvs_more, List.flatMap_append, List.append_assoc]
    conv => lhs; rw [e, e2]
    simp [kst]
theorem nst_inv {xs : List Int} (hb : Byt xs) : ∀ i, (nst (false, xs) i).1 = false → xs = (nvs (false, xs) i).flatMap encN ++ (nst (false, xs) i).2 := by
  intro i
  induction i with
  | zero => intro _; rfl
  | succ i ih =>
    intro h
    have h0 : (nst (false, xs) i).1 = false := by
      cases hc : (nst (false, xs) i).1 with
      | false => rfl
      | true => rw [nst_bad (fun h => by simp at h) hc] at h; simp at h
    have e := ih h0
    have hb2 : Byt (nst (false, xs) i).2 := byt_tail (by rw [← e]; exact hb)
    have e2 := num_inv hb2 h
    rw [nvs_more, List.flatMap_append, List.append_assoc]
    conv => lhs; rw [e, e2]
    simp [nst]
theorem parsed_inv {p : List Int} {kl gl : List (List Int)} {tl : List Nat} (hb : Byt p) (h : Parsed p kl gl tl) : p = bod0 kl gl tl := by
  obtain ⟨hlen, hhead, b0, b1, ek, b2, b3, eg, b4, et, b5⟩ := h
  have hp : p = [83, 1] ++ p.drop 2 := by rw [← hhead, List.take_append_drop]
  have hb0 : Byt (p.drop 2) := byt_tail (a := p.take 2) (by rw [List.take_append_drop]; exact hb)
  generalize p.drop 2 = x0 at *
  have i0 := num_inv hb0 b0
  have hb1 : Byt (nr x0) := byt_tail (a := encN (nv x0)) (by rw [← i0]; exact hb0)
  have i1 := kst_inv hb1 _ b1
  generalize (kst (false, nr x0) (nv x0)).2 = x1 at *
  rw [← ek] at i1
  have hb2 : Byt x1 := byt_tail (a := kl.flatMap rowB) (by rw [← i1]; exact hb1)
  have i2 := num_inv hb2 b2
  have hb3 : Byt (nr x1) := byt_tail (a := encN (nv x1)) (by rw [← i2]; exact hb2)
  have i3 := kst_inv hb3 _ b3
  generalize (kst (false, nr x1) (nv x1)).2 = x2 at *
  rw [← eg] at i3
  have hb4 : Byt x2 := byt_tail (a := gl.flatMap rowB) (by rw [← i3]; exact hb3)
  have i4 := num_inv hb4 b4
  have hb5 : Byt (nr x2) := byt_tail (a := encN (nv x2)) (by rw [← i4]; exact hb4)
  have i5 := nst_inv hb5 (nv x2) (by rw [b5])
  rw [b5, ← et] at i5
  have lk : kl.length = nv x0 := by rw [ek, kvs_len]
  have lg : gl.length = nv x1 := by rw [eg, kvs_len]
  have lt : tl.length = nv x2 := by rw [et, nvs_len]
  unfold bod0 rowsB numsB
  rw [lk, lg, lt]
  simp only [List.append_nil] at i5
  rw [hp]
  congr 1
  rw [List.append_assoc, List.append_assoc, ← i5, ← i4, ← i3, ← i2, ← i1]
  exact i0
/-! ### a segment's -/
theorem encI_nat {x : Nat} (h : x ≤ top62) : encI (x : Int) = encN x := by
  unfold encI
  rw [clampI_nat (by rw [top62_eq] at h; omega)]
theorem flat_encI {l : List Nat} (h : ∀ x ∈ l, x ≤ top62) : (l.map fun x : Nat => (x : Int)).flatMap encI = l.flatMap encN := by
  induction l with
  | nil => rfl
  | cons a l ih =>
    rw [List.map_cons, List.flatMap_cons, List.flatMap_cons, encI_nat (h a (by simp)), ih (fun x hx => h x (by simp [hx]))]
theorem bod_eq (ds : List Dc) (gs : List Key) {tl : List Nat} (h : ∀ x ∈ tl, x ≤ top62) : bod ds gs (tl.map fun x : Nat => (x : Int)) = bod0 ((ks ds).map kI) (gs.map kI) tl := by
  unfold bod bod0 keysB rowsB numsB
  rw [flat_encI h]
  simp [List.flatMap_map]
theorem map_kI_inj {a b : List Key} (h : a.map kI = b.map kI) : a = b := List.map_inj_right (f := kI) (fun _ _ h => kI_inj h) |>.1 h
end Go.Sg
