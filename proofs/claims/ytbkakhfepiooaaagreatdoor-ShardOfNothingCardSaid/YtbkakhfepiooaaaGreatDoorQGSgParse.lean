/- Lemmas and contracts of this proof. Conditions: said at each. -/
import Derived.Test.YtbkakhfepiooaaaGreatDoorQGMmMath
import Derived.Test.YtbkakhfepiooaaaGreatDoorQGOcRfNum
namespace Go.Sg
section
open Go.Oct Go.Su Go.RowKit
/-- The Reader's state behind so many rows; the rows. -/
def kst (s : Bool × List Int) : Nat → Bool × List Int
  | 0 => s
  | i + 1 => (bb (kst s i).2, br_ (kst s i).2)
def kvs (s : Bool × List Int) (i : Nat) : List (List Int) := (List.range i).map fun j => bv (kst s j).2
/-- .. behind so many numbers; the numbers. -/
def nst (s : Bool × List Int) : Nat → Bool × List Int
  | 0 => s
  | i + 1 => (nb (nst s i).2, nr (nst s i).2)
def nvs (s : Bool × List Int) (i : Nat) : List Nat := (List.range i).map fun j => nv (nst s j).2
theorem kvs_zero (s : Bool × List Int) : kvs s 0 = [] := rfl
theorem nvs_zero (s : Bool × List Int) : nvs s 0 = [] := rfl
theorem kvs_more (s : Bool × List Int) (i : Nat) : kvs s (i + 1) = kvs s i ++ [bv (kst s i).2] := by simp [kvs, List.range_succ]
theorem nvs_more (s : Bool × List Int) (i : Nat) : nvs s (i + 1) = nvs s i ++ [nv (nst s i).2] := by simp [nvs, List.range_succ]
theorem kvs_len (s : Bool × List Int) (i : Nat) : (kvs s i).length = i := by simp [kvs]
theorem nvs_len (s : Bool × List Int) (i : Nat) : (nvs s i).length = i := by simp [nvs]
theorem row_take {x : List Int} (hx : x.length ≤ top62) (more : List Int) : bv (rowB x ++ more) = x ∧ bb (rowB x ++ more) = false ∧ br_ (rowB x ++ more) = more := by
  have e : takeN 0 0 (rowB x ++ more) = some (x.length, x ++ more) := by
    unfold rowB
    rw [List.append_assoc]
    exact takeN_enc0 hx _
  unfold bv bb br_
  rw [e]
  have hl : ¬ (x ++ more).length < x.length := by rw [List.length_append]; omega
  simp only [if_neg hl]
  exact ⟨by rw [List.take_append_of_le_length (Nat.le_refl _), List.take_of_length_le (Nat.le_refl _)], trivial, by rw [List.drop_append_of_le_length (Nat.le_refl _), List.drop_eq_nil_of_le (Nat.le_refl _), List.nil_append]⟩
theorem num_take {m : Nat} (hm : m ≤ top62) (more : List Int) : nv (encN m ++ more) = m ∧ nb (encN m ++ more) = false ∧ nr (encN m ++ more) = more := by
  unfold nv nb nr
  rw [takeN_enc0 hm]
  exact ⟨rfl, rfl, rfl⟩
theorem kst_enc (l : List (List Int)) (hl : ∀ x ∈ l, x.length ≤ top62) (more : List Int) : ∀ i, i ≤ l.length → kst (false, l.flatMap rowB ++ more) i = (false, (l.drop i).flatMap rowB ++ more) := by
  intro i
  induction i with
  | zero => intro _; rfl
  | succ i ih =>
    intro hi
    unfold kst
    rw [ih (by omega)]
    have h1 : i < l.length := by omega
    rw [List.drop_eq_getElem_cons h1, List.flatMap_cons, List.append_assoc]
    obtain ⟨_, h2, h3⟩ := row_take (hl _ (List.getElem_mem h1)) ((l.drop (i + 1)).flatMap rowB ++ more)
    simp only [h2, h3]
theorem kvs_enc (l : List (List Int)) (hl : ∀ x ∈ l, x.length ≤ top62) (more : List Int) : kvs (false, l.flatMap rowB ++ more) l.length = l := by
  refine List.ext_getElem (by simp [kvs]) fun i h1 h2 => ?_
  simp only [kvs, List.getElem_map, List.getElem_range]
  rw [kst_enc l hl more i (by omega)]
  simp only
  rw [List.drop_eq_getElem_cons h2, List.flatMap_cons, List.append_assoc]
  exact (row_take (hl _ (List.getElem_mem h2)) _).1
theorem nst_enc (l : List Nat) (hl : ∀ x ∈ l, x ≤ top62) (more : List Int) : ∀ i, i ≤ l.length → nst (false, l.flatMap encN ++ more) i = (false, (l.drop i).flatMap encN ++ more) := by
  intro i
  induction i with
  | zero => intro _; rfl
  | succ i ih =>
    intro hi
    unfold nst
    rw [ih (by omega)]
    have h1 : i < l.length := by omega
    rw [List.drop_eq_getElem_cons h1, List.flatMap_cons, List.append_assoc]
    obtain ⟨_, h2, h3⟩ := num_take (hl _ (List.getElem_mem h1)) ((l.drop (i + 1)).flatMap encN ++ more)
    simp only [h2, h3]
theorem nvs_enc (l : List Nat) (hl : ∀ x ∈ l, x ≤ top62) (more : List Int) : nvs (false, l.flatMap encN ++ more) l.length = l := by
  refine List.ext_getElem (by simp [nvs]) fun i h1 h2 => ?_
  simp only [nvs, List.getElem_map, List.getElem_range]
  rw [nst_enc l hl more i (by omega)]
  simp only
  rw [List.drop_eq_getElem_cons h2, List.flatMap_cons, List.append_assoc]
  exact (num_take (hl _ (List.getElem_mem h2)) _).1
/-! ### what erred stays so -/
theorem nb_nil {xs : List Int} (h : nb xs = true) : nr xs = [] ∧ nv xs = 0 := by
  unfold nb at h
  unfold nr nv
  cases ht : takeN 0 0 xs with
  | none => exact ⟨rfl, rfl⟩
  | some y => rw [ht] at h; simp at h
theorem bb_nil {xs : List Int} (h : bb xs = true) : br_ xs = [] := by
  unfold bb at h
  unfold br_
  cases ht : takeN 0 0 xs with
  | none => rfl
  | some y =>
    obtain ⟨m, r⟩ := y
    rw [ht] at h
    simp only at h ⊢
    by_cases hm : r.length < m
    · rw [if_pos hm]
    · rw [if_neg hm] at h; simp at h
theorem nb_of_nil : nb [] = true := rfl
theorem bb_of_nil : bb [] = true := rfl
/-- A state that is one: who erred has nothing left. -/
def Sane (s : Bool × List Int) : Prop := s.1 = true → s.2 = []
theorem kst_sane {s : Bool × List Int} (h : Sane s) : ∀ i, Sane (kst s i)
  | 0 => h
  | _ + 1 => fun hb => bb_nil hb
theorem nst_sane {s : Bool × List Int} (h : Sane s) : ∀ i, Sane (nst s i)
  | 0 => h
  | _ + 1 => fun hb => (nb_nil hb).1
theorem kst_bad {s : Bool × List Int} (h : Sane s) {i : Nat} (hb : (kst s i).1 = true) : (kst s (i + 1)).1 = true := by
  show bb (kst s i).2 = true
  rw [kst_sane h i hb]
  rfl
theorem nst_bad {s : Bool × List Int} (h : Sane s) {i : Nat} (hb : (nst s i).1 = true) : (nst s (i + 1)).1 = true := by
  show nb (nst s i).2 = true
  rw [nst_sane h i hb]
  rfl
theorem kst_bad_le {s : Bool × List Int} (h : Sane s) {i : Nat} (hb : (kst s i).1 = true) : ∀ {j : Nat}, i ≤ j → (kst s j).1 = true := by
  intro j hj
  induction j with
  | zero =>
    obtain rfl : i = 0 := by omega
    exact hb
  | succ j ih =>
    rcases Nat.lt_or_ge j i with h1 | h1
    · obtain rfl : i = j + 1 := by omega
      exact hb
    · exact kst_bad h (ih h1)
theorem nst_bad_le {s : Bool × List Int} (h : Sane s) {i : Nat} (hb : (nst s i).1 = true) : ∀ {j : Nat}, i ≤ j → (nst s j).1 = true := by
  intro j hj
  induction j with
  | zero =>
    obtain rfl : i = 0 := by omega
    exact hb
  | succ j ih =>
    rcases Nat.lt_or_ge j i with h1 | h1
    · obtain rfl : i = j + 1 := by omega
      exact hb
    · exact nst_bad h (ih h1)
/-! ### a whole record taken apart -/
/-- What a Reader takes of p: the keys, those that are gone, the symbols; all of p, and no error. -/
structure Parsed (p : List Int) (kl gl : List (List Int)) (tl : List Nat) : Prop where
  len : 2 ≤ p.length
  head : p.take 2 = [83, 1]
  b0 : nb (p.drop 2) = false
  b1 : (kst (false, nr (p.drop 2)) (nv (p.drop 2))).1 = false
  kl : kl = kvs (false, nr (p.drop 2)) (nv (p.drop 2))
  b2 : nb (kst (false, nr (p.drop 2)) (nv (p.drop 2))).2 = false
  b3 : (kst (false, nr (kst (false, nr (p.drop 2)) (nv (p.drop 2))).2) (nv (kst (false, nr (p.drop 2)) (nv (p.drop 2))).2)).1 = false
  gl : gl = kvs (false, nr (kst (false, nr (p.drop 2)) (nv (p.drop 2))).2) (nv (kst (false, nr (p.drop 2)) (nv (p.drop 2))).2)
  b4 : nb (kst (false, nr (kst (false, nr (p.drop 2)) (nv (p.drop 2))).2) (nv (kst (false, nr (p.drop 2)) (nv (p.drop 2))).2)).2 = false
  tl : tl = nvs (false, nr (kst (false, nr (kst (false, nr (p.drop 2)) (nv (p.drop 2))).2) (nv (kst (false, nr (p.drop 2)) (nv (p.drop 2))).2)).2) (nv (kst (false, nr (kst (false, nr (p.drop 2)) (nv (p.drop 2))).2) (nv (kst (false, nr (p.drop 2)) (nv (p.drop 2))).2)).2)
  b5 : nst (false, nr (kst (false, nr (kst (false, nr (p.drop 2)) (nv (p.drop 2))).2) (nv (kst (false, nr (p.drop 2)) (nv (p.drop 2))).2)).2) (nv (kst (false, nr (kst (false, nr (p.drop 2)) (nv (p.drop 2))).2) (nv (kst (false, nr (p.drop 2)) (nv (p.drop 2))).2)).2) = (false, [])
theorem Parsed.uniq {p : List Int} {kl gl kl' gl' : List (List Int)} {tl tl' : List Nat} (h : Parsed p kl gl tl) (k : Parsed p kl' gl' tl') : kl = kl' ∧ gl = gl' ∧ tl = tl' :=
  ⟨h.kl.trans k.kl.symm, h.gl.trans k.gl.symm, h.tl.trans k.tl.symm⟩
/-- Rows as bytes. -/
def rowsB (l : List (List Int)) : List Int := encN l.length ++ l.flatMap rowB
def numsB (l : List Nat) : List Int := encN l.length ++ l.flatMap encN
def bod0 (kl gl : List (List Int)) (tl : List Nat) : List Int := [83, 1] ++ (rowsB kl ++ (rowsB gl ++ numsB tl))
theorem parsed_bod {kl gl : List (List Int)} {tl : List Nat} (hk : ∀ x ∈ kl, x.length ≤ top62) (hg : ∀ x ∈ gl, x.length ≤ top62) (ht : ∀ x ∈ tl, x ≤ top62) (lk : kl.length ≤ top62) (lg : gl.length ≤ top62) (lt : tl.length ≤ top62) : Parsed (bod0 kl gl tl) kl gl tl := by
  have e0 : (bod0 kl gl tl).drop 2 = encN kl.length ++ (kl.flatMap rowB ++ (rowsB gl ++ numsB tl)) := by simp [bod0, rowsB]
  obtain ⟨v0, c0, r0⟩ := num_take lk (kl.flatMap rowB ++ (rowsB gl ++ numsB tl))
  have s1 := kst_enc kl hk (rowsB gl ++ numsB tl) kl.length (Nat.le_refl _)
  have k1 := kvs_enc kl hk (rowsB gl ++ numsB tl)
  rw [List.drop_length, List.flatMap_nil, List.nil_append] at s1
  have e1 : rowsB gl ++ numsB tl = encN gl.length ++ (gl.flatMap rowB ++ numsB tl) := by simp [rowsB]
  obtain ⟨v1, c1, r1⟩ := num_take lg (gl.flatMap rowB ++ numsB tl)
  have s2 := kst_enc gl hg (numsB tl) gl.length (Nat.le_refl _)
  have k2 := kvs_enc gl hg (numsB tl)
  rw [List.drop_length, List.flatMap_nil, List.nil_append] at s2
  have e2 : numsB tl = encN tl.length ++ (tl.flatMap encN ++ []) := by simp [numsB]
  obtain ⟨v2, c2, r2⟩ := num_take lt (tl.flatMap encN ++ [])
  have s3 := nst_enc tl ht [] tl.length (Nat.le_refl _)
  have k3 := nvs_enc tl ht []
  rw [List.drop_length, List.flatMap_nil, List.nil_append] at s3
  have q1 : kst (false, nr ((bod0 kl gl tl).drop 2)) (nv ((bod0 kl gl tl).drop 2)) = (false, rowsB gl ++ numsB tl) := by rw [e0, v0, r0, s1]
  have q2 : kst (false, nr (rowsB gl ++ numsB tl)) (nv (rowsB gl ++ numsB tl)) = (false, numsB tl) := by rw [e1, v1, r1, s2]
  have q3 : nst (false, nr (numsB tl)) (nv (numsB tl)) = (false, []) := by rw [e2, v2, r2, s3]
  refine ⟨by simp [bod0], by simp [bod0], by rw [e0]; exact c0, by rw [q1], by rw [e0, v0, r0, k1], by rw [q1]; show nb (rowsB gl ++ numsB tl) = false; rw [e1]; exact c1, by rw [q1]; show (kst (false, nr (rowsB gl ++ numsB tl)) (nv (rowsB gl ++ numsB tl))).1 = false; rw [q2],
    by rw [q1]; show gl = kvs (false, nr (rowsB gl ++ numsB tl)) (nv (rowsB gl ++ numsB tl)); rw [e1, v1, r1, k2], ?_, ?_, ?_⟩
  · rw [q1]
    show nb (kst (false, nr (rowsB gl ++ numsB tl)) (nv (rowsB gl ++ numsB tl))).2 = false
    rw [q2]
    show nb (numsB tl) = false
    rw [e2]
    exact c2
  · rw [q1]
    show tl = nvs (false, nr (kst (false, nr (rowsB gl ++ numsB tl)) (nv (rowsB gl ++ numsB tl))).2) (nv (kst (false, nr (rowsB gl ++ numsB tl)) (nv (rowsB gl ++ numsB tl))).2)
    rw [q2]
    show tl = nvs (false, nr (numsB tl)) (nv (numsB tl))
    rw [e2, v2, r2, k3]
  · rw [q1]
    show nst (false, nr (kst (false, nr (rowsB gl ++ numsB tl)) (nv (rowsB gl ++ numsB tl))).2) (nv (kst (false, nr (rowsB gl ++ numsB tl)) (nv (rowsB gl ++ numsB tl))).2) = (false, [])
    rw [q2]
    exact q3
/-! ### what is taken was laid so -/
theorem takeN_inv : ∀ (l : List Int) (i n m : Nat) (r : List Int), Byt l → takeN i n l = some (m, r) → ∃ q, (0 < i → 0 < q) ∧ l = encN q ++ r ∧ m = n + q * 128 ^ i := by
  intro l
  induction l with
  | nil => intro i n m r _ h; simp [takeN] at h
  | cons b l ih =>
    intro i n m r hb h
    obtain ⟨hb0, hb1⟩ := hb b (by simp)
    unfold takeN at h
    by_cases h9 : i = 9
    · rw [if_pos h9] at h; simp at h
    rw [if_neg h9] at h
    by_cases hbig : (128 : Int) ≤ b
    · rw [if_pos hbig] at h
      obtain ⟨q, hq, hl, hm⟩ := ih (i + 1) _ m r (fun x hx => hb x (by simp [hx])) h
      have hq0 := hq (by omega)
      refine ⟨b.toNat % 128 + 128 * q, fun _ => by omega, ?_, ?_⟩
      · rw [encN_big (by omega), show (b.toNat % 128 + 128 * q) / 128 = q by omega, hl]
        have : (((b.toNat % 128 + 128 * q) % 128 + 128 : Nat) : Int) = b := by omega
        rw [this]
        rfl
      · rw [hm, Nat.pow_succ, Nat.add_mul]
        have : q * (128 ^ i * 128) = 128 * q * 128 ^ i := by
          rw [← Nat.mul_assoc, Nat.mul_comm (q * 128 ^ i) 128, Nat.mul_assoc]
        omega
    · rw [if_neg hbig] at h
      by_cases hbad : top62 < n + b.toNat % 128 * 128 ^ i ∨ (b = 0 ∧ 0 < i)
      · rw [if_pos hbad] at h; simp at h
      rw [if_neg hbad] at h
      simp only [Option.some.injEq, Prod.mk.injEq] at h
      obtain ⟨rfl, rfl⟩ := h
      refine ⟨b.toNat, fun hi => ?_, ?_, ?_⟩
      · rcases Nat.eq_zero_or_pos b.toNat with h0 | h0
        · exact absurd (.inr ⟨by omega, hi⟩) hbad
        · exact h0
      · rw [encN_small (by omega), show ((b.toNat : Nat) : Int) = b by omega]
        rfl
      · rw [Nat.mod_eq_of_lt (by omega)]
theorem num_inv {xs : List Int} (hb : Byt xs) (h : nb xs = false) : xs = encN (nv xs) ++ nr xs := by
  unfold nb at h
  unfold nv nr
  cases ht : takeN 0 0 xs with
  | none => rw [ht] at h; simp at h
  | some y =>
    obtain ⟨m, r⟩ := y
    obtain ⟨q, _, hl, hm⟩ := takeN_inv xs 0 0 m r hb ht
    simp only at hl hm ⊢
    rw [show m = q by simpa using hm]
    exact hl
theorem row_inv {xs : List Int} (hb : Byt xs) (h : bb xs = false) : xs = rowB (bv xs) ++ br_ xs := by
  unfold bb at h
  unfold bv br_
  cases ht : takeN 0 0 xs with
  | none => rw [ht] at h; simp at h
  | some y =>
    obtain ⟨m, r⟩ := y
    rw [ht] at h
    simp only at h ⊢
    by_cases hm : r.length < m
    · rw [if_pos hm] at h; simp at h
    rw [if_neg hm, if_neg hm]
    obtain ⟨q, _, hl, hq⟩ := takeN_inv xs 0 0 m r hb ht
    unfold rowB
    rw [List.length_take, Nat.min_eq_left (by omega), List.append_assoc, List.take_append_drop, show m = q by simpa using hq]
    exact hl
theorem byt_tail {a b : List Int} (h : Byt (a ++ b)) : Byt b := fun x hx => h x (by simp [hx])
theorem kst_inv {xs : List Int} (hb : Byt xs) : ∀ i, (kst (false, xs) i).1 = false → xs = (kvs (false, xs) i).flatMap rowB ++ (kst (false, xs) i).2 := by
  intro i
  induction i with
  | zero => intro _; rfl
  | succ i ih =>
    intro h
    have h0 : (kst (false, xs) i).1 = false := by
      cases hc : (kst (false, xs) i).1 with
      | false => rfl
      | true => rw [kst_bad (fun h => by simp at h) hc] at h; simp at h
    have e := ih h0
    have hb2 : Byt (kst (false, xs) i).2 := byt_tail (by rw [← e]; exact hb)
    have e2 := row_inv hb2 h
    rw [kvs_more, List.flatMap_append, List.append_assoc]
    conv => lhs; rw [e, e2]
    simp [kst]
theorem nst_inv {xs : List Int} (hb : Byt xs) : ∀ i, (nst (false, xs) i).1 = false → xs = (nvs (false, xs) i).flatMap encN ++ (nst (false, xs) i).2 := by
  intro i
  induction i with
  | zero => intro _; rfl
  | succ i ih =>
    intro h
    have h0 : (nst (false, xs) i).1 = false := by
      cases hc : (nst (false, xs) i).1 with
      | false => rfl
      | true => rw [nst_bad (fun h => by simp at h) hc] at h; simp at h
    have e := ih h0
    have hb2 : Byt (nst (false, xs) i).2 := byt_tail (by rw [← e]; exact hb)
    have e2 := num_inv hb2 h
    rw [nvs_more, List.flatMap_append, List.append_assoc]
    conv => lhs; rw [e, e2]
    simp [nst]
theorem parsed_inv {p : List Int} {kl gl : List (List Int)} {tl : List Nat} (hb : Byt p) (h : Parsed p kl gl tl) : p = bod0 kl gl tl := by
  obtain ⟨hlen, hhead, b0, b1, ek, b2, b3, eg, b4, et, b5⟩ := h
  have hp : p = [83, 1] ++ p.drop 2 := by rw [← hhead, List.take_append_drop]
  have hb0 : Byt (p.drop 2) := byt_tail (a := p.take 2) (by rw [List.take_append_drop]; exact hb)
  generalize p.drop 2 = x0 at *
  have i0 := num_inv hb0 b0
  have hb1 : Byt (nr x0) := byt_tail (a := encN (nv x0)) (by rw [← i0]; exact hb0)
  have i1 := kst_inv hb1 _ b1
  generalize (kst (false, nr x0) (nv x0)).2 = x1 at *
  rw [← ek] at i1
  have hb2 : Byt x1 := byt_tail (a := kl.flatMap rowB) (by rw [← i1]; exact hb1)
  have i2 := num_inv hb2 b2
  have hb3 : Byt (nr x1) := byt_tail (a := encN (nv x1)) (by rw [← i2]; exact hb2)
  have i3 := kst_inv hb3 _ b3
  generalize (kst (false, nr x1) (nv x1)).2 = x2 at *
  rw [← eg] at i3
  have hb4 : Byt x2 := byt_tail (a := gl.flatMap rowB) (by rw [← i3]; exact hb3)
  have i4 := num_inv hb4 b4
  have hb5 : Byt (nr x2) := byt_tail (a := encN (nv x2)) (by rw [← i4]; exact hb4)
  have i5 := nst_inv hb5 (nv x2) (by rw [b5])
  rw [b5, ← et] at i5
  have lk : kl.length = nv x0 := by rw [ek, kvs_len]
  have lg : gl.length = nv x1 := by rw [eg, kvs_len]
  have lt : tl.length = nv x2 := by rw [et, nvs_len]
  unfold bod0 rowsB numsB
  rw [lk, lg, lt]
  simp only [List.append_nil] at i5
  rw [hp]
  congr 1
  rw [List.append_assoc, List.append_assoc, ← i5, ← i4, ← i3, ← i2, ← i1]
  exact i0
/-! ### a segment's -/
theorem encI_nat {x : Nat} (h : x ≤ top62) : encI (x : Int) = encN x := by
  unfold encI
  rw [clampI_nat (by rw [top62_eq] at h; omega)]
theorem flat_encI {l : List Nat} (h : ∀ x ∈ l, x ≤ top62) : (l.map fun x : Nat => (x : Int)).flatMap encI = l.flatMap encN := by
  induction l with
  | nil => rfl
  | cons a l ih =>
    rw [List.map_cons, List.flatMap_cons, List.flatMap_cons, encI_nat (h a (by simp)), ih (fun x hx => h x (by simp [hx]))]
theorem bod_eq (ds : List Dc) (gs : List Key) {tl : List Nat} (h : ∀ x ∈ tl, x ≤ top62) : bod ds gs (tl.map fun x : Nat => (x : Int)) = bod0 ((ks ds).map kI) (gs.map kI) tl := by
  unfold bod bod0 keysB rowsB numsB
  rw [flat_encI h]
  simp [List.flatMap_map]
theorem map_kI_inj {a b : List Key} (h : a.map kI = b.map kI) : a = b := List.map_inj_right (f := kI) (fun _ _ h => kI_inj h) |>.1 h
end
end Go.Sg
namespace Go.Om
section
open Go.Oct Go.Su Go.Sg Go.RowKit
/-- A key of bytes. -/
def keyI (l : List Int) : Key := l.map fun x => UInt8.ofNat x.toNat
theorem kI_keyI {l : List Int} (h : Byt l) : kI (keyI l) = l := by
  unfold kI keyI
  rw [List.map_map]
  refine (List.map_congr_left (g := id) fun x hx => ?_).trans (List.map_id l)
  have := h x hx
  show ((UInt8.ofNat x.toNat).toNat : Int) = x
  rw [UInt8.toNat_ofNat']
  omega
theorem keyI_kI (k : Key) : keyI (kI k) = k := kI_inj (kI_keyI (kI_byte k))
theorem keyI_len (l : List Int) : (keyI l).length = l.length := by simp [keyI]
/-- An op. -/
structure Ao where
  kd : Int
  cl : Int
  sq : Int
  key : Key
  txt : List Int
  deriving DecidableEq
/-- No op at all. -/
def aoNo : Ao := ⟨0, 0, 0, [], []⟩
/-- What may not be handed in. -/
def ArgNo (o : Ao) : Prop := (o.kd ≠ 1 ∧ o.kd ≠ 2) ∨ o.cl < 0 ∨ 1099511627776 < o.cl ∨ o.sq < 0 ∨ 1099511627776 < o.sq ∨ ¬ okK o.key ∨ (o.kd = 2 ∧ 0 < o.txt.length)
instance (o : Ao) : Decidable (ArgNo o) := by unfold ArgNo; exact inferInstance
/-- The error of an op. -/
def errO (o : Ao) : Int := if ArgNo o then 1 else if 4096 < o.txt.length then 5 else 0
/-- An op's bytes. -/
def bytO (o : Ao) : List Int := [o.kd, o.cl, o.sq].flatMap encI ++ (rowB (kI o.key) ++ rowB o.txt)
def encO (o : Ao) : List Int := if errO o = 0 then bytO o else []
/-- Bytes that are an op's. -/
def GoodO (o : Ao) (xs : List Int) : Prop := errO o = 0 ∧ bytO o = xs
theorem errO_zero {o : Ao} : errO o = 0 ↔ ¬ ArgNo o ∧ o.txt.length ≤ 4096 := by
  unfold errO
  by_cases h : ArgNo o
  · simp [h]
  · rw [if_neg h]
    by_cases k : 4096 < o.txt.length
    · rw [if_pos k]; exact ⟨fun e => absurd e (by omega), fun e => absurd e.2 (by omega)⟩
    · rw [if_neg k]; exact ⟨fun _ => ⟨h, by omega⟩, fun _ => rfl⟩
/-- What an op that may be is. -/
structure OkO (o : Ao) : Prop where
  kd : o.kd = 1 ∨ o.kd = 2
  c0 : 0 ≤ o.cl
  c1 : o.cl ≤ 1099511627776
  s0 : 0 ≤ o.sq
  s1 : o.sq ≤ 1099511627776
  key : okK o.key
  del : o.kd = 2 → o.txt.length = 0
  txt : o.txt.length ≤ 4096
theorem okO {o : Ao} : errO o = 0 ↔ OkO o := by
  rw [errO_zero]
  constructor
  · rintro ⟨h, k⟩
    unfold ArgNo at h
    simp only [not_or, not_and, Int.not_lt, Classical.not_not] at h
    obtain ⟨h1, h2, h3, h4, h5, h6, h7⟩ := h
    refine ⟨?_, h2, h3, h4, h5, h6, fun e => by have := h7 e; omega, k⟩
    by_cases e : o.kd = 1
    · exact .inl e
    · exact .inr (h1 e)
  · intro h
    refine ⟨fun k => ?_, h.txt⟩
    rcases k with k | k | k | k | k | k | k
    · rcases h.kd with e | e
      · exact k.1 e
      · exact k.2 e
    · have := h.c0; omega
    · have := h.c1; omega
    · have := h.s0; omega
    · have := h.s1; omega
    · exact k h.key
    · have := h.del k.1; omega
theorem encI_pos {z : Int} (h0 : 0 ≤ z) (h1 : z ≤ 4611686018427387904) : encI z = encN z.toNat := by
  unfold encI
  rw [clampI_in h0 (by rw [top62_eq]; omega)]
/-- What a Reader takes as an op. -/
def s1 (xs : List Int) : List Int := nr xs
def s2 (xs : List Int) : List Int := nr (s1 xs)
def s3 (xs : List Int) : List Int := nr (s2 xs)
def s4 (xs : List Int) : List Int := br_ (s3 xs)
def s5 (xs : List Int) : List Int := br_ (s4 xs)
def takO (xs : List Int) : Ao := ⟨nv xs, nv (s1 xs), nv (s2 xs), keyI (bv (s3 xs)), bv (s4 xs)⟩
/-- .. and all of it is taken, with no error. -/
def endO (xs : List Int) : Bool := !bb (s4 xs) && (s5 xs).isEmpty
theorem takO_enc {o : Ao} (h : OkO o) : takO (bytO o) = o ∧ endO (bytO o) = true := by
  have ht : (top62 : Nat) = 4611686018427387904 := rfl
  have e0 : bytO o = encN o.kd.toNat ++ (encN o.cl.toNat ++ (encN o.sq.toNat ++ (rowB (kI o.key) ++ (rowB o.txt ++ [])))) := by
    unfold bytO
    simp only [List.flatMap_cons, List.flatMap_nil, List.append_nil, List.append_assoc]
    rw [encI_pos (by rcases h.kd with e | e <;> omega) (by rcases h.kd with e | e <;> omega), encI_pos h.c0 (by have := h.c1; omega), encI_pos h.s0 (by have := h.s1; omega)]
  obtain ⟨a1, _, a3⟩ := num_take (m := o.kd.toNat) (by rcases h.kd with e | e <;> omega) (encN o.cl.toNat ++ (encN o.sq.toNat ++ (rowB (kI o.key) ++ (rowB o.txt ++ []))))
  obtain ⟨b1, _, b3⟩ := num_take (m := o.cl.toNat) (by have := h.c1; omega) (encN o.sq.toNat ++ (rowB (kI o.key) ++ (rowB o.txt ++ [])))
  obtain ⟨c1, _, c3⟩ := num_take (m := o.sq.toNat) (by have := h.s1; omega) (rowB (kI o.key) ++ (rowB o.txt ++ []))
  obtain ⟨d1, _, d3⟩ := row_take (x := kI o.key) (by have := h.key.2; rw [kI_len]; omega) (rowB o.txt ++ [])
  obtain ⟨f1, f2, f3⟩ := row_take (x := o.txt) (by have := h.txt; omega) []
  have q1 : s1 (bytO o) = encN o.cl.toNat ++ (encN o.sq.toNat ++ (rowB (kI o.key) ++ (rowB o.txt ++ []))) := by unfold s1; rw [e0, a3]
  have q2 : s2 (bytO o) = encN o.sq.toNat ++ (rowB (kI o.key) ++ (rowB o.txt ++ [])) := by unfold s2; rw [q1, b3]
  have q3 : s3 (bytO o) = rowB (kI o.key) ++ (rowB o.txt ++ []) := by unfold s3; rw [q2, c3]
  have q4 : s4 (bytO o) = rowB o.txt ++ [] := by unfold s4; rw [q3, d3]
  have q5 : s5 (bytO o) = [] := by unfold s5; rw [q4, f3]
  constructor
  · unfold takO
    rw [q1, q2, q3, q4, b1, c1, d1, f1, keyI_kI, e0, a1, Int.toNat_of_nonneg (by rcases h.kd with e | e <;> omega), Int.toNat_of_nonneg h.c0, Int.toNat_of_nonneg h.s0]
  · unfold endO
    rw [q4, q5, f2]
    rfl
theorem bb_ok {xs : List Int} (h : bb xs = false) : xs ≠ [] := by rintro rfl; simp [bb_of_nil] at h
theorem nb_of_more {xs : List Int} (h : nr xs ≠ []) : nb xs = false := by
  cases hc : nb xs with
  | false => rfl
  | true => exact absurd (nb_nil hc).1 h
theorem bb_of_more {xs : List Int} (h : br_ xs ≠ []) : bb xs = false := by
  cases hc : bb xs with
  | false => rfl
  | true => exact absurd (bb_nil hc) h
theorem ne_nil_of_nb {xs : List Int} (h : nb xs = false) : xs ≠ [] := by rintro rfl; simp [nb_of_nil] at h
theorem encN_nat (m : Nat) (h : m ≤ top62) : encI (m : Int) = encN m := encI_nat h
theorem takeN_top : ∀ (l : List Int) (i n m : Nat) (r : List Int), takeN i n l = some (m, r) → m ≤ top62 := by
  intro l
  induction l with
  | nil => intro i n m r h; simp [takeN] at h
  | cons b l ih =>
    intro i n m r h
    unfold takeN at h
    by_cases h9 : i = 9
    · rw [if_pos h9] at h; simp at h
    rw [if_neg h9] at h
    by_cases hbig : (128 : Int) ≤ b
    · rw [if_pos hbig] at h
      exact ih _ _ _ _ h
    · rw [if_neg hbig] at h
      by_cases hbad : top62 < n + b.toNat % 128 * 128 ^ i ∨ (b = 0 ∧ 0 < i)
      · rw [if_pos hbad] at h; simp at h
      rw [if_neg hbad] at h
      simp only [Option.some.injEq, Prod.mk.injEq] at h
      obtain ⟨rfl, rfl⟩ := h
      exact Nat.not_lt.1 fun k => hbad (.inl k)
theorem nv_top (xs : List Int) : nv xs ≤ top62 := by
  unfold nv
  cases ht : takeN 0 0 xs with
  | none => exact Nat.zero_le _
  | some y => exact takeN_top xs 0 0 y.1 y.2 ht
/-- Bytes of which an op is taken, and all of them: they are that op's. -/
theorem takO_inv {xs : List Int} (hb : Byt xs) (he : endO xs = true) : bytO (takO xs) = xs := by
  unfold endO at he
  rw [Bool.and_eq_true, Bool.not_eq_true', List.isEmpty_iff] at he
  obtain ⟨h4, h5⟩ := he
  have h3 : bb (s3 xs) = false := bb_of_more (bb_ok h4)
  have h2 : nb (s2 xs) = false := nb_of_more (bb_ok h3)
  have h1 : nb (s1 xs) = false := nb_of_more (ne_nil_of_nb h2)
  have h0 : nb xs = false := nb_of_more (ne_nil_of_nb h1)
  have i0 := num_inv hb h0
  have b1 : Byt (s1 xs) := byt_tail (a := encN (nv xs)) (by rw [← show xs = encN (nv xs) ++ s1 xs from i0]; exact hb)
  have i1 := num_inv b1 h1
  have b2 : Byt (s2 xs) := byt_tail (a := encN (nv (s1 xs))) (by rw [← show s1 xs = encN (nv (s1 xs)) ++ s2 xs from i1]; exact b1)
  have i2 := num_inv b2 h2
  have b3 : Byt (s3 xs) := byt_tail (a := encN (nv (s2 xs))) (by rw [← show s2 xs = encN (nv (s2 xs)) ++ s3 xs from i2]; exact b2)
  have i3 := row_inv b3 h3
  have b4 : Byt (s4 xs) := byt_tail (a := rowB (bv (s3 xs))) (by rw [← show s3 xs = rowB (bv (s3 xs)) ++ s4 xs from i3]; exact b3)
  have i4 := row_inv b4 h4
  have bk : Byt (bv (s3 xs)) := fun x hx => b3 x (by rw [show s3 xs = rowB (bv (s3 xs)) ++ s4 xs from i3]; simp [rowB, hx])
  unfold bytO takO
  simp only [List.flatMap_cons, List.flatMap_nil, List.append_nil, List.append_assoc]
  rw [encN_nat _ (nv_top _), encN_nat _ (nv_top _), encN_nat _ (nv_top _), kI_keyI bk]
  have j4 : rowB (bv (s4 xs)) = s4 xs := by
    conv => rhs; rw [show s4 xs = rowB (bv (s4 xs)) ++ s5 xs from i4, h5, List.append_nil]
  rw [j4, ← show s3 xs = rowB (bv (s3 xs)) ++ s4 xs from i3, ← show s2 xs = encN (nv (s2 xs)) ++ s3 xs from i2, ← show s1 xs = encN (nv (s1 xs)) ++ s2 xs from i1]
  exact i0.symm
theorem GoodO.uniq {o p : Ao} {xs : List Int} (h : GoodO o xs) (k : GoodO p xs) : o = p := by
  obtain ⟨h1, h2⟩ := h
  obtain ⟨k1, k2⟩ := k
  rw [← (takO_enc (okO.1 h1)).1, ← (takO_enc (okO.1 k1)).1, h2, k2]
/-- What Decode tells of bytes: the op and 0, or none and 3. -/
def decO (xs : List Int) : Ao := if endO xs = true ∧ errO (takO xs) = 0 then takO xs else aoNo
def decE (xs : List Int) : Int := if endO xs = true ∧ errO (takO xs) = 0 then 0 else 3
theorem dec_good {o : Ao} {xs : List Int} (h : GoodO o xs) : decO xs = o ∧ decE xs = 0 := by
  obtain ⟨h1, h2⟩ := h
  obtain ⟨a, b⟩ := takO_enc (okO.1 h1)
  rw [h2] at a b
  unfold decO decE
  rw [if_pos ⟨b, by rw [a]; exact h1⟩, if_pos ⟨b, by rw [a]; exact h1⟩]
  exact ⟨a, rfl⟩
theorem dec_inv {xs : List Int} (hb : Byt xs) (h : decE xs = 0) : GoodO (decO xs) xs := by
  unfold decE at h
  split at h
  · rename_i hc
    unfold decO
    rw [if_pos hc]
    exact ⟨hc.2, takO_inv hb hc.1⟩
  · omega
/-! ### places -/
/-- A place as bytes; places as bytes. -/
def mB (m : Key × Int) : List Int := rowB (kI m.1) ++ encI m.2
def matB (l : List (Key × Int)) : List Int := encI (l.length : Int) ++ l.flatMap mB
/-! ### replies -/
/-- A reply as bytes: the first eight numbers are laid. -/
def repB (e : Int) (l : List Int) : List Int := ([e, ((l.take 8).length : Int)] ++ l.take 8).flatMap encI
end
end Go.Om
namespace Go.Sh
section
open Go.Oct Go.Su Go.Sg Go.Om
/-- What a client did last. -/
structure Ses where
  sq : Int
  rp : List Int
/-- A shard. -/
structure Sm where
  ap : Int
  ss : Int → Option Ses
  ds : List Dc
  gs : List Key
def smNew : Sm := ⟨0, fun _ => none, [], []⟩
/-- Has a key a text? -/
def hasB (ds : List Dc) (k : Key) : Bool := ds.any fun d => decide (d.1 = k)
/-- What a key has. -/
def txtOf (ds : List Dc) (k : Key) : List Int := ((ds.find? fun d => decide (d.1 = k)).map (·.2)).getD []
/-- An op that is done: what is said, what is then there. -/
def done (ds : List Dc) (gs : List Key) (o : Ao) : List Int × (List Dc × List Key) :=
  if o.kd = 1 then (repB 0 [if hasB ds o.key then 1 else 0], (tPut (ds, gs) o.key o.txt).2)
  else if hasB ds o.key then (repB 0 [], (tDel (ds, gs) o.key).2) else (repB 7 [], (ds, gs))
def at1 (ss : Int → Option Ses) (c : Int) (s : Ses) : Int → Option Ses := fun x => if x = c then some s else ss x
def newOp (m : Sm) (o : Ao) : List Int × Sm := ((done m.ds m.gs o).1, ⟨m.ap + 1, at1 m.ss o.cl ⟨o.sq, (done m.ds m.gs o).1⟩, (done m.ds m.gs o).2.1, (done m.ds m.gs o).2.2⟩)
/-- An op at the next number. -/
def step (m : Sm) (o : Ao) : List Int × Sm :=
  match m.ss o.cl with
  | none => newOp m o
  | some s => if o.sq < s.sq then (repB 13 [], ⟨m.ap + 1, m.ss, m.ds, m.gs⟩) else if o.sq = s.sq then (s.rp, ⟨m.ap + 1, m.ss, m.ds, m.gs⟩) else newOp m o
theorem step_new {m : Sm} {o : Ao} (h : ∀ s, m.ss o.cl = some s → s.sq < o.sq) : step m o = newOp m o := by
  unfold step
  cases hs : m.ss o.cl with
  | none => rfl
  | some s =>
    have := h s hs
    simp only
    rw [if_neg (by omega), if_neg (by omega)]
theorem step_again {m : Sm} {o : Ao} {s : Ses} (h : m.ss o.cl = some s) (hq : o.sq = s.sq) : step m o = (s.rp, ⟨m.ap + 1, m.ss, m.ds, m.gs⟩) := by
  unfold step
  rw [h]
  simp only
  rw [if_neg (by omega), if_pos hq]
theorem step_elder {m : Sm} {o : Ao} {s : Ses} (h : m.ss o.cl = some s) (hq : o.sq < s.sq) : step m o = (repB 13 [], ⟨m.ap + 1, m.ss, m.ds, m.gs⟩) := by
  unfold step
  rw [h]
  simp only
  rw [if_pos hq]
/-- One document alone: put, there; taken away. -/
theorem put_one (k : Key) (t t' : List Int) (hk : okK k) (ht : t'.length ≤ 4096) : (tPut ([(k, t)], []) k t').2 = ([(k, t')], []) := by
  unfold tPut
  rw [if_neg (fun h => h hk), if_neg (by omega)]
  simp [put, del, lo, hi, key_irrefl]
theorem put_none (k : Key) (t : List Int) (hk : okK k) (ht : t.length ≤ 4096) : (tPut ([], []) k t).2 = ([(k, t)], []) := by
  unfold tPut
  rw [if_neg (fun h => h hk), if_neg (by omega)]
  simp [put, del, lo, hi]
theorem del_one (k : Key) (t : List Int) (hk : okK k) : (tDel ([(k, t)], []) k).2 = ([], [k]) := by
  unfold tDel
  rw [if_neg (fun h => h hk)]
  simp [put, del, lo, hi]
theorem hasB_one (k : Key) (t : List Int) : hasB [(k, t)] k = true := by simp [hasB]
theorem hasB_none (k : Key) : hasB [] k = false := rfl
theorem txt_one (k : Key) (t : List Int) : txtOf [(k, t)] k = t := by simp [txtOf]
theorem txt_none (k : Key) : txtOf [] k = [] := rfl
theorem enc_small {z : Int} (h0 : 0 ≤ z) (h1 : z < 128) : encI z = [z] := by
  rw [encI_pos h0 (by omega), encN_small (by omega), Int.toNat_of_nonneg h0]
theorem rep_one (e z : Int) (he : 0 ≤ e ∧ e < 128) (hz : 0 ≤ z ∧ z < 128) : repB e [z] = [e, 1, z] := by
  unfold repB
  simp only [List.take_succ_cons, List.take_nil, List.length_cons, List.length_nil, List.cons_append, List.nil_append, List.flatMap_cons, List.flatMap_nil, List.append_nil]
  rw [enc_small he.1 he.2, enc_small (by omega) (by omega), enc_small hz.1 hz.2]
  rfl
theorem rep_none (e : Int) (he : 0 ≤ e ∧ e < 128) : repB e [] = [e, 0] := by
  unfold repB
  simp only [List.take_nil, List.length_nil, List.append_nil, List.flatMap_cons, List.flatMap_nil]
  rw [enc_small he.1 he.2, enc_small (by omega) (by omega)]
  rfl
end
end Go.Sh
