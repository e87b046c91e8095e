/-
  The plain mathematics of op: an op, a reply and places as bytes; what bytes are one's. Over no program. Conditions: none.
-/
import Derived.Test.YtanhnaohmaepoaaSgParse
namespace Go.Om
open Go.Oct Go.Su Go.Sg Go.RowKit

/-- A key of bytes. -/
def keyI (l : List Int) : Key := l.map fun x => UInt8.ofNat x.toNat
theorem kI_keyI {l : List Int} (h : Byt l) : kI (keyI l) = l := by
  unfold kI keyI
  rw [List.map_map]
  refine (List.map_congr_left (g := id) fun x hx => ?_).trans (List.map_id l)
  have := h x hx
  show ((UInt8.ofNat x.toNat).toNat : Int) = x
  rw [UInt8.toNat_ofNat']
  omega
theorem keyI_kI (k : Key) : keyI (kI k) = k := kI_inj (kI_keyI (kI_byte k))
theorem keyI_len (l : List Int) : (keyI l).length = l.length := by simp [keyI]

/-- An op. -/
structure Ao where
  kd : Int
  cl : Int
  sq : Int
  key : Key
  txt : List Int
  deriving DecidableEq
/-- No op at all. -/
def aoNo : Ao := ⟨0, 0, 0, [], []⟩
/-- What may not be handed in. -/
def ArgNo (o : Ao) : Prop := (o.kd ≠ 1 ∧ o.kd ≠ 2) ∨ o.cl < 0 ∨ 1099511627776 < o.cl ∨ o.sq < 0 ∨ 1099511627776 < o.sq ∨ ¬ okK o.key ∨ (o.kd = 2 ∧ 0 < o.txt.length)
instance (o : Ao) : Decidable (ArgNo o) := by unfold ArgNo; exact inferInstance
/-- The error of an op. -/
def errO (o : Ao) : Int := if ArgNo o then 1 else if 4096 < o.txt.length then 5 else 0
/-- An op's bytes. -/
def bytO (o : Ao) : List Int := [o.kd, o.cl, o.sq].flatMap encI ++ (rowB (kI o.key) ++ rowB o.txt)
def encO (o : Ao) : List Int := if errO o = 0 then bytO o else []
/-- Bytes that are an op's. -/
def GoodO (o : Ao) (xs : List Int) : Prop := errO o = 0 ∧ bytO o = xs
theorem errO_zero {o : Ao} : errO o = 0 ↔ ¬ ArgNo o ∧ o.txt.length ≤ 4096 := by
  unfold errO
  by_cases h : ArgNo o
  · simp [h]
  · rw [if_neg h]
    by_cases k : 4096 < o.txt.length
    · rw [if_pos k]; exact ⟨fun e => absurd e (by omega), fun e => absurd e.2 (by omega)⟩
    · rw [if_neg k]; exact ⟨fun _ => ⟨h, by omega⟩, fun _ => rfl⟩
/-- What an op that may be is. -/
structure OkO (o : Ao) : Prop where
  kd : o.kd = 1 ∨ o.kd = 2
  c0 : 0 ≤ o.cl
  c1 : o.cl ≤ 1099511627776
  s0 : 0 ≤ o.sq
  s1 : o.sq ≤ 1099511627776
  key : okK o.key
  del : o.kd = 2 → o.txt.length = 0
  txt : o.txt.length ≤ 4096
theorem okO {o : Ao} : errO o = 0 ↔ OkO o := by
  rw [errO_zero]
  constructor
  · rintro ⟨h, k⟩
    unfold ArgNo at h
    simp only [not_or, not_and, Int.not_lt, Classical.not_not] at h
    obtain ⟨h1, h2, h3, h4, h5, h6, h7⟩ := h
    refine ⟨?_, h2, h3, h4, h5, h6, fun e => by have := h7 e; omega, k⟩
    by_cases e : o.kd = 1
    · exact .inl e
    · exact .inr (h1 e)
  · intro h
    refine ⟨fun k => ?_, h.txt⟩
    rcases k with k | k | k | k | k | k | k
    · rcases h.kd with e | e
      · exact k.1 e
      · exact k.2 e
    · have := h.c0; omega
    · have := h.c1; omega
    · have := h.s0; omega
    · have := h.s1; omega
    · exact k h.key
    · have := h.del k.1; omega
theorem encI_pos {z : Int} (h0 : 0 ≤ z) (h1 : z ≤ 4611686018427387904) : encI z = encN z.toNat := by
  unfold encI
  rw [clampI_in h0 (by rw [top62_eq]; omega)]
/-- What a Reader takes as an op. -/
def s1 (xs : List Int) : List Int := nr xs
def s2 (xs : List Int) : List Int := nr (s1 xs)
def s3 (xs : List Int) : List Int := nr (s2 xs)
def s4 (xs : List Int) : List Int := br_ (s3 xs)
def s5 (xs : List Int) : List Int := br_ (s4 xs)
def takO (xs : List Int) : Ao := ⟨nv xs, nv (s1 xs), nv (s2 xs), keyI (bv (s3 xs)), bv (s4 xs)⟩
/-- .. and all of it is taken, with no error. -/
def endO (xs : List Int) : Bool := !bb (s4 xs) && (s5 xs).isEmpty
theorem takO_enc {o : Ao} (h : OkO o) : takO (bytO o) = o ∧ endO (bytO o) = true := by
  have ht : (top62 : Nat) = 4611686018427387904 := rfl
  have e0 : bytO o = encN o.kd.toNat ++ (encN o.cl.toNat ++ (encN o.sq.toNat ++ (rowB (kI o.key) ++ (rowB o.txt ++ [])))) := by
    unfold bytO
    simp only [List.flatMap_cons, List.flatMap_nil, List.append_nil, List.append_assoc]
    rw [encI_pos (by rcases h.kd with e | e <;> omega) (by rcases h.kd with e | e <;> omega), encI_pos h.c0 (by have := h.c1; omega), encI_pos h.s0 (by have := h.s1; omega)]
  obtain ⟨a1, _, a3⟩ := num_take (m := o.kd.toNat) (by rcases h.kd with e | e <;> omega) (encN o.cl.toNat ++ (encN o.sq.toNat ++ (rowB (kI o.key) ++ (rowB o.txt ++ []))))
  obtain ⟨b1, _, b3⟩ := num_take (m := o.cl.toNat) (by have := h.c1; omega) (encN o.sq.toNat ++ (rowB (kI o.key) ++ (rowB o.txt ++ [])))
  obtain ⟨c1, _, c3⟩ := num_take (m := o.sq.toNat) (by have := h.s1; omega) (rowB (kI o.key) ++ (rowB o.txt ++ []))
  obtain ⟨d1, _, d3⟩ := row_take (x := kI o.key) (by have := h.key.2; rw [kI_len]; omega) (rowB o.txt ++ [])
  obtain ⟨f1, f2, f3⟩ := row_take (x := o.txt) (by have := h.txt; omega) []
  have q1 : s1 (bytO o) = encN o.cl.toNat ++ (encN o.sq.toNat ++ (rowB (kI o.key) ++ (rowB o.txt ++ []))) := by unfold s1; rw [e0, a3]
  have q2 : s2 (bytO o) = encN o.sq.toNat ++ (rowB (kI o.key) ++ (rowB o.txt ++ [])) := by unfold s2; rw [q1, b3]
  have q3 : s3 (bytO o) = rowB (kI o.key) ++ (rowB o.txt ++ []) := by unfold s3; rw [q2, c3]
  have q4 : s4 (bytO o) = rowB o.txt ++ [] := by unfold s4; rw [q3, d3]
  have q5 : s5 (bytO o) = [] := by unfold s5; rw [q4, f3]
  constructor
  · unfold takO
    rw [q1, q2, q3, q4, b1, c1, d1, f1, keyI_kI, e0, a1, Int.toNat_of_nonneg (by rcases h.kd with e | e <;> omega), Int.toNat_of_nonneg h.c0, Int.toNat_of_nonneg h.s0]
  · unfold endO
    rw [q4, q5, f2]
    rfl
theorem bb_ok {xs : List Int} (h : bb xs = false) : xs ≠ [] := by rintro rfl; simp [bb_of_nil] at h
theorem nb_of_more {xs : List Int} (h : nr xs ≠ []) : nb xs = false := by
  cases hc : nb xs with
  | false => rfl
  | true => exact absurd (nb_nil hc).1 h
theorem bb_of_more {xs : List Int} (h : br_ xs ≠ []) : bb xs = false := by
  cases hc : bb xs with
  | false => rfl
  | true => exact absurd (bb_nil hc) h
theorem ne_nil_of_nb {xs : List Int} (h : nb xs = false) : xs ≠ [] := by rintro rfl; simp [nb_of_nil] at h
theorem encN_nat (m : Nat) (h : m ≤ top62) : encI (m : Int) = encN m := encI_nat h
theorem takeN_top : ∀ (l : List Int) (i n m : Nat) (r : List Int), takeN i n l = some (m, r) → m ≤ top62 := by
  intro l
  induction l with
  | nil => intro i n m r h; simp [takeN] at h
  | cons b l ih =>
    intro i n m r h
    unfold takeN at h
    by_cases h9 : i = 9
    · rw [if_pos h9] at h; simp at h
    rw [if_neg h9] at h
    by_cases hbig : (128 : Int) ≤ b
    · rw [if_pos hbig] at h
      exact ih _ _ _ _ h
    · rw [if_neg hbig] at h
      by_cases hbad : top62 < n + b.toNat % 128 * 128 ^ i ∨ (b = 0 ∧ 0 < i)
      · rw [if_pos hbad] at h; simp at h
      rw [if_neg hbad] at h
      simp only [Option.some.injEq, Prod.mk.injEq] at h
      obtain ⟨rfl, rfl⟩ := h
      exact Nat.not_lt.1 fun k => hbad (.inl k)
theorem nv_top (xs : List Int) : nv xs ≤ top62 := by
  unfold nv
  cases ht : takeN 0 0 xs with
  | none => exact Nat.zero_le _
  | some y => exact takeN_top xs 0 0 y.1 y.2 ht
/-- Bytes of which an op is taken, and all of them: they are that op's. -/
theorem takO_inv {xs : List Int} (hb : Byt xs) (he : endO xs = true) : bytO (takO xs) = xs := by
  unfold endO at he
  rw [Bool.and_eq_true, Bool.not_eq_true', List.isEmpty_iff] at he
  obtain ⟨h4, h5⟩ := he
  have h3 : bb (s3 xs) = false := bb_of_more (bb_ok h4)
  have h2 : nb (s2 xs) = false := nb_of_more (bb_ok h3)
  have h1 : nb (s1 xs) = false := nb_of_more (ne_nil_of_nb h2)
  have h0 : nb xs = false := nb_of_more (ne_nil_of_nb h1)
  have i0 := num_inv hb h0
  have b1 : Byt (s1 xs) := byt_tail (a := encN (nv xs)) (by rw [← show xs = encN (nv xs) ++ s1 xs from i0]; exact hb)
  have i1 := num_inv b1 h1
  have b2 : Byt (s2 xs) := byt_tail (a := encN (nv (s1 xs))) (by rw [← show s1 xs = encN (nv (s1 xs)) ++ s2 xs from i1]; exact b1)
  have i2 := num_inv b2 h2
  have b3 : Byt (s3 xs) := byt_tail (a := encN (nv (s2 xs))) (by rw [← show s2 xs = encN (nv (s2 xs)) ++ s3 xs from i2]; exact b2)
  have i3 := row_inv b3 h3
  have b4 : Byt (s4 xs) := byt_tail (a := rowB (bv (s3 xs))) (by rw [← show s3 xs = rowB (bv (s3 xs)) ++ s4 xs from i3]; exact b3)
  have i4 := row_inv b4 h4
  have bk : Byt (bv (s3 xs)) := fun x hx => b3 x (by rw [show s3 xs = rowB (bv (s3 xs)) ++ s4 xs from i3]; simp [rowB, hx])
  unfold bytO takO
  simp only [List.flatMap_cons, List.flatMap_nil, List.append_nil, List.append_assoc]
  rw [encN_nat _ (nv_top _), encN_nat _ (nv_top _), encN_nat _ (nv_top _), kI_keyI bk]
  have j4 : rowB (bv (s4 xs)) = s4 xs := by
    conv => rhs; rw [show s4 xs = rowB (bv (s4 xs)) ++ s5 xs from i4, h5, List.append_nil]
  rw [j4, ← show s3 xs = rowB (bv (s3 xs)) ++ s4 xs from i3, ← show s2 xs = encN (nv (s2 xs)) ++ s3 xs from i2, ← show s1 xs = encN (nv (s1 xs)) ++ s2 xs from i1]
  exact i0.symm
theorem GoodO.uniq {o p : Ao} {xs : List Int} (h : GoodO o xs) (k : GoodO p xs) : o = p := by
  obtain ⟨h1, h2⟩ := h
  obtain ⟨k1, k2⟩ := k
  rw [← (takO_enc (okO.1 h1)).1, ← (takO_enc (okO.1 k1)).1, h2, k2]
/-- What Decode tells of bytes: the op and 0, or none and 3. -/
def decO (xs : List Int) : Ao := if endO xs = true ∧ errO (takO xs) = 0 then takO xs else aoNo
def decE (xs : List Int) : Int := if endO xs = true ∧ errO (takO xs) = 0 then 0 else 3
theorem dec_good {o : Ao} {xs : List Int} (h : GoodO o xs) : decO xs = o ∧ decE xs = 0 := by
  obtain ⟨h1, h2⟩ := h
  obtain ⟨a, b⟩ := takO_enc (okO.1 h1)
  rw [h2] at a b
  unfold decO decE
  rw [if_pos ⟨b, by rw [a]; exact h1⟩, if_pos ⟨b, by rw [a]; exact h1⟩]
  exact ⟨a, rfl⟩
theorem dec_inv {xs : List Int} (hb : Byt xs) (h : decE xs = 0) : GoodO (decO xs) xs := by
  unfold decE at h
  split at h
  · rename_i hc
    unfold decO
    rw [if_pos hc]
    exact ⟨hc.2, takO_inv hb hc.1⟩
  · omega
/-! ### places -/
/-- A place as bytes; places as bytes. -/
def mB (m : Key × Int) : List Int := rowB (kI m.1) ++ encI m.2
def matB (l : List (Key × Int)) : List Int := encI (l.length : Int) ++ l.flatMap mB
/-! ### replies -/
/-- A reply as bytes: the first eight numbers are laid. -/
def repB (e : Int) (l : List Int) : List Int := ([e, ((l.take 8).length : Int)] ++ l.take 8).flatMap encI
end Go.Om
