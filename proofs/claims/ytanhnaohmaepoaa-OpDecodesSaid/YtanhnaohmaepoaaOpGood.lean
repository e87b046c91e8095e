/-
  The plain mathematics of op: what bytes are a reply's, what bytes are places'. Over no program. Conditions: none.
-/
import Derived.Test.YtanhnaohmaepoaaOpMath
namespace Go.Om
open Go.Oct Go.Su Go.Sg Go.RowKit

/-! ### replies -/
/-- Bytes that are a reply's. -/
structure GoodR (e : Nat) (l : List Nat) (xs : List Int) : Prop where
  eq : xs = encN e ++ (encN l.length ++ l.flatMap encN)
  err : e ≤ 100
  few : l.length ≤ 8
  top : ∀ x ∈ l, x ≤ top62
/-- The Reader's state behind the two first numbers. -/
def rs0 (xs : List Int) : Bool × List Int := (nb (nr xs), nr (nr xs))
theorem rs0_sane (xs : List Int) : Sane (rs0 xs) := fun h => (nb_nil h).1
theorem goodR_take {e : Nat} {l : List Nat} {xs : List Int} (h : GoodR e l xs) : nv xs = e ∧ nv (nr xs) = l.length ∧ nst (rs0 xs) l.length = (false, []) ∧ nvs (rs0 xs) l.length = l := by
  have ht : (top62 : Nat) = 4611686018427387904 := rfl
  have h1 := h.err
  have h2 := h.few
  obtain ⟨a1, a2, a3⟩ := num_take (m := e) (by omega) (encN l.length ++ (l.flatMap encN ++ []))
  obtain ⟨b1, b2, b3⟩ := num_take (m := l.length) (by omega) (l.flatMap encN ++ [])
  have e0 : xs = encN e ++ (encN l.length ++ (l.flatMap encN ++ [])) := by rw [h.eq, List.append_nil]
  have q1 : nr xs = encN l.length ++ (l.flatMap encN ++ []) := by rw [e0, a3]
  have q2 : rs0 xs = (false, l.flatMap encN ++ []) := by unfold rs0; rw [q1, b2, b3]
  refine ⟨by rw [e0, a1], by rw [q1, b1], ?_, ?_⟩
  · rw [q2, nst_enc l h.top [] l.length (Nat.le_refl _)]
    simp
  · rw [q2]
    exact nvs_enc l h.top []
theorem goodR_of {xs : List Int} (hb : Byt xs) (h : nst (rs0 xs) (nv (nr xs)) = (false, [])) (h1 : nv xs ≤ 100) (h2 : nv (nr xs) ≤ 8) : GoodR (nv xs) (nvs (rs0 xs) (nv (nr xs))) xs := by
  have b1 : nb (nr xs) = false := by
    cases hc : nb (nr xs) with
    | false => rfl
    | true =>
      have := nst_bad_le (rs0_sane xs) (i := 0) (show (nst (rs0 xs) 0).1 = true from hc) (Nat.zero_le (nv (nr xs)))
      rw [h] at this
      simp at this
  have b0 : nb xs = false := nb_of_more (ne_nil_of_nb b1)
  have i0 := num_inv hb b0
  have hb1 : Byt (nr xs) := byt_tail (a := encN (nv xs)) (by rw [← i0]; exact hb)
  have i1 := num_inv hb1 b1
  have hb2 : Byt (nr (nr xs)) := byt_tail (a := encN (nv (nr xs))) (by rw [← i1]; exact hb1)
  have hs : rs0 xs = (false, nr (nr xs)) := by unfold rs0; rw [b1]
  rw [hs] at h ⊢
  have i2 := nst_inv hb2 (nv (nr xs)) (by rw [h])
  rw [h] at i2
  refine ⟨?_, h1, by rw [nvs_len]; exact h2, fun x hx => ?_⟩
  · rw [nvs_len]
    conv => lhs; rw [i0, i1, i2]
    simp
  · unfold nvs at hx
    obtain ⟨j, _, rfl⟩ := List.mem_map.1 hx
    exact nv_top _
theorem GoodR.uniq {e e' : Nat} {l l' : List Nat} {xs : List Int} (h : GoodR e l xs) (k : GoodR e' l' xs) : e = e' ∧ l = l' := by
  obtain ⟨a1, a2, _, a4⟩ := goodR_take h
  obtain ⟨b1, b2, _, b4⟩ := goodR_take k
  refine ⟨a1.symm.trans b1, ?_⟩
  rw [← a4, ← b4, ← a2, ← b2]
/-- What EncodeReply lays of a reply that may be read. -/
theorem repB_good {e : Nat} {l : List Int} (he : e ≤ 100) (hl : ∀ x ∈ l, 0 ≤ x ∧ x ≤ 4611686018427387904) : GoodR e ((l.take 8).map Int.toNat) (repB (e : Int) l) := by
  have ht : (top62 : Nat) = 4611686018427387904 := rfl
  have hl8 : ∀ x ∈ l.take 8, 0 ≤ x ∧ x ≤ 4611686018427387904 := fun x hx => hl x (List.mem_of_mem_take hx)
  have h8 : (l.take 8).length ≤ 8 := by rw [List.length_take]; omega
  unfold repB
  generalize l.take 8 = m at *
  refine ⟨?_, he, by rw [List.length_map]; exact h8, fun x hx => ?_⟩
  · rw [List.length_map, List.flatMap_append]
    simp only [List.flatMap_cons, List.flatMap_nil, List.append_nil, List.append_assoc]
    rw [encI_nat (by omega), encI_nat (by omega)]
    congr 2
    rw [List.flatMap_map]
    clear h8
    induction m with
    | nil => rfl
    | cons a m ih =>
      rw [List.flatMap_cons, List.flatMap_cons, ih (fun x hx => hl8 x (by simp [hx])), encI_pos (hl8 a (by simp)).1 (hl8 a (by simp)).2]
  · obtain ⟨y, hy, rfl⟩ := List.mem_map.1 hx
    have := hl8 y hy
    omega
/-- .. and what was read is laid so. -/
theorem goodR_repB {e : Nat} {l : List Nat} {xs : List Int} (h : GoodR e l xs) : repB (e : Int) (l.map fun x : Nat => (x : Int)) = xs := by
  have ht : (top62 : Nat) = 4611686018427387904 := rfl
  have h1 := h.err
  have h2 := h.few
  rw [h.eq]
  unfold repB
  rw [List.take_of_length_le (by rw [List.length_map]; exact h2), List.flatMap_append, List.length_map]
  simp only [List.flatMap_cons, List.flatMap_nil, List.append_nil, List.append_assoc]
  rw [encI_nat (by omega), encI_nat (by omega), flat_encI h.top]
end Go.Om
