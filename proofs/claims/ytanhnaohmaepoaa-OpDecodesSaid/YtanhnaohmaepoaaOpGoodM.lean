/-
  The plain mathematics of op: what bytes are places'. Over no program. Conditions: none.
-/
import Derived.Test.YtanhnaohmaepoaaOpGood
namespace Go.Om
open Go.Oct Go.Su Go.Sg Go.RowKit

/-- A place that may be read. -/
def OkM (m : Key × Int) : Prop := okK m.1 ∧ 0 ≤ m.2 ∧ m.2 ≤ 4611686018427387904
/-- Bytes that are places'. -/
structure GoodM (l : List (Key × Int)) (xs : List Int) : Prop where
  eq : xs = encN l.length ++ l.flatMap mB
  few : l.length ≤ top62
  ok : ∀ m ∈ l, OkM m
/-- The Reader's state behind so many places; the places. -/
def mst1 (s : Bool × List Int) : Bool × List Int := if okK (keyI (bv s.2)) then (nb (br_ s.2), nr (br_ s.2)) else (true, [])
def mst (s : Bool × List Int) : Nat → Bool × List Int
  | 0 => s
  | i + 1 => mst1 (mst s i)
def mv (ys : List Int) : Key × Int := (keyI (bv ys), (nv (br_ ys) : Int))
def mvs (s : Bool × List Int) (i : Nat) : List (Key × Int) := (List.range i).map fun j => mv (mst s j).2
theorem mvs_zero (s : Bool × List Int) : mvs s 0 = [] := rfl
theorem mvs_more (s : Bool × List Int) (i : Nat) : mvs s (i + 1) = mvs s i ++ [mv (mst s i).2] := by simp [mvs, List.range_succ]
theorem mvs_len (s : Bool × List Int) (i : Nat) : (mvs s i).length = i := by simp [mvs]
theorem keyI_nil : keyI [] = [] := rfl
theorem mst1_bad {s : Bool × List Int} (h : s.2 = []) : (mst1 s).1 = true := by
  unfold mst1
  rw [h]
  split
  · rename_i hk
    have : bv [] = [] := rfl
    rw [this, keyI_nil] at hk
    exact absurd hk.1 (by simp)
  · rfl
theorem mst1_sane (s : Bool × List Int) : Sane (mst1 s) := fun h => by
  unfold mst1 at h ⊢
  split
  · rename_i hk
    rw [if_pos hk] at h
    exact (nb_nil h).1
  · rfl
theorem mst_sane {s : Bool × List Int} (h : Sane s) : ∀ i, Sane (mst s i)
  | 0 => h
  | _ + 1 => mst1_sane _
theorem mst_bad {s : Bool × List Int} (h : Sane s) {i : Nat} (hb : (mst s i).1 = true) : (mst s (i + 1)).1 = true := mst1_bad (mst_sane h i hb)
theorem mst_bad_le {s : Bool × List Int} (h : Sane s) {i : Nat} (hb : (mst s i).1 = true) : ∀ {j : Nat}, i ≤ j → (mst s j).1 = true := by
  intro j hj
  induction j with
  | zero =>
    obtain rfl : i = 0 := by omega
    exact hb
  | succ j ih =>
    rcases Nat.lt_or_ge j i with h1 | h1
    · obtain rfl : i = j + 1 := by omega
      exact hb
    · exact mst_bad h (ih h1)
/-- One place, taken. -/
theorem m_take {m : Key × Int} (h : OkM m) (more : List Int) : mst1 (false, mB m ++ more) = (false, more) ∧ mv (mB m ++ more) = m := by
  have ht : (top62 : Nat) = 4611686018427387904 := rfl
  obtain ⟨hk, h0, h1⟩ := h
  obtain ⟨k, a⟩ := m
  simp only at hk h0 h1
  have e : mB (k, a) ++ more = rowB (kI k) ++ (encN a.toNat ++ more) := by unfold mB; simp only; rw [encI_pos h0 h1, List.append_assoc]
  obtain ⟨r1, r2, r3⟩ := row_take (x := kI k) (by have := hk.2; rw [kI_len]; omega) (encN a.toNat ++ more)
  obtain ⟨n1, n2, n3⟩ := num_take (m := a.toNat) (by omega) more
  rw [e]
  constructor
  · unfold mst1
    simp only [r1, r3, keyI_kI, n2, n3]
    rw [if_pos hk]
  · unfold mv
    rw [r1, r3, keyI_kI, n1, Int.toNat_of_nonneg h0]
theorem mst_enc (l : List (Key × Int)) (hl : ∀ m ∈ l, OkM m) (more : List Int) : ∀ i, i ≤ l.length → mst (false, l.flatMap mB ++ more) i = (false, (l.drop i).flatMap mB ++ more) := by
  intro i
  induction i with
  | zero => intro _; rfl
  | succ i ih =>
    intro hi
    unfold mst
    rw [ih (by omega)]
    have h1 : i < l.length := by omega
    rw [List.drop_eq_getElem_cons h1, List.flatMap_cons, List.append_assoc]
    exact (m_take (hl _ (List.getElem_mem h1)) _).1
theorem mvs_enc (l : List (Key × Int)) (hl : ∀ m ∈ l, OkM m) (more : List Int) : mvs (false, l.flatMap mB ++ more) l.length = l := by
  refine List.ext_getElem (by simp [mvs]) fun i h1 h2 => ?_
  simp only [mvs, List.getElem_map, List.getElem_range]
  rw [mst_enc l hl more i (by omega)]
  simp only
  rw [List.drop_eq_getElem_cons h2, List.flatMap_cons, List.append_assoc]
  exact (m_take (hl _ (List.getElem_mem h2)) _).2
theorem goodM_take {l : List (Key × Int)} {xs : List Int} (h : GoodM l xs) : nv xs = l.length ∧ mst (nb xs, nr xs) l.length = (false, []) ∧ mvs (nb xs, nr xs) l.length = l := by
  obtain ⟨a1, a2, a3⟩ := num_take (m := l.length) h.few (l.flatMap mB ++ [])
  have e0 : xs = encN l.length ++ (l.flatMap mB ++ []) := by rw [h.eq, List.append_nil]
  rw [← e0] at a1 a2 a3
  refine ⟨a1, ?_, ?_⟩
  · rw [a2, a3, mst_enc l h.ok [] l.length (Nat.le_refl _)]
    simp
  · rw [a2, a3]
    exact mvs_enc l h.ok []
theorem m_inv {ys : List Int} (hb : Byt ys) (h : (mst1 (false, ys)).1 = false) : ys = mB (mv ys) ++ (mst1 (false, ys)).2 ∧ OkM (mv ys) := by
  have ht : (top62 : Nat) = 4611686018427387904 := rfl
  unfold mst1 at h ⊢
  by_cases hk : okK (keyI (bv ys))
  · simp only [if_pos hk] at h ⊢
    have hbb : bb ys = false := bb_of_more (ne_nil_of_nb h)
    have i0 := row_inv hb hbb
    have hb1 : Byt (br_ ys) := byt_tail (a := rowB (bv ys)) (by rw [← i0]; exact hb)
    have i1 := num_inv hb1 h
    have bk : Byt (bv ys) := fun x hx => hb x (by rw [i0]; simp [rowB, hx])
    have htop := nv_top (br_ ys)
    refine ⟨?_, hk, by unfold mv; simp only; omega, by unfold mv; simp only; omega⟩
    unfold mB mv
    simp only
    rw [kI_keyI bk, encI_nat htop, List.append_assoc, ← i1, ← i0]
  · simp only [if_neg hk] at h
    simp at h
theorem mst_inv {xs : List Int} (hb : Byt xs) : ∀ i, (mst (false, xs) i).1 = false → xs = (mvs (false, xs) i).flatMap mB ++ (mst (false, xs) i).2 ∧ ∀ m ∈ mvs (false, xs) i, OkM m := by
  intro i
  induction i with
  | zero => intro _; exact ⟨rfl, fun m hm => by simp [mvs_zero] at hm⟩
  | succ i ih =>
    intro h
    have h0 : (mst (false, xs) i).1 = false := by
      cases hc : (mst (false, xs) i).1 with
      | false => rfl
      | true => rw [mst_bad (fun h => by simp at h) hc] at h; simp at h
    obtain ⟨e, hok⟩ := ih h0
    have hb2 : Byt (mst (false, xs) i).2 := byt_tail (by rw [← e]; exact hb)
    have hs : mst (false, xs) i = (false, (mst (false, xs) i).2) := Prod.ext h0 rfl
    have h' : (mst1 (false, (mst (false, xs) i).2)).1 = false := by rw [← hs]; exact h
    obtain ⟨e2, hk⟩ := m_inv hb2 h'
    have hstep : mst (false, xs) (i + 1) = mst1 (false, (mst (false, xs) i).2) := by
      show mst1 (mst (false, xs) i) = _
      rw [← hs]
    refine ⟨?_, fun m hm => ?_⟩
    · rw [mvs_more, List.flatMap_append, List.append_assoc, hstep]
      conv => lhs; rw [e, e2]
      simp
    · rw [mvs_more] at hm
      rcases List.mem_append.1 hm with hm | hm
      · exact hok m hm
      · simp at hm
        subst hm
        exact hk
theorem goodM_of {xs : List Int} (hb : Byt xs) (h : mst (nb xs, nr xs) (nv xs) = (false, [])) : GoodM (mvs (nb xs, nr xs) (nv xs)) xs := by
  have hs : Sane (nb xs, nr xs) := fun h => (nb_nil h).1
  have b0 : nb xs = false := by
    cases hc : nb xs with
    | false => rfl
    | true =>
      have := mst_bad_le hs (i := 0) (show (mst (nb xs, nr xs) 0).1 = true from hc) (Nat.zero_le (nv xs))
      rw [h] at this
      simp at this
  have i0 := num_inv hb b0
  have hb1 : Byt (nr xs) := byt_tail (a := encN (nv xs)) (by rw [← i0]; exact hb)
  rw [b0] at h ⊢
  obtain ⟨i1, hok⟩ := mst_inv hb1 (nv xs) (by rw [h])
  rw [h, List.append_nil] at i1
  refine ⟨?_, by rw [mvs_len]; exact nv_top xs, hok⟩
  rw [mvs_len, ← i1]
  exact i0
theorem GoodM.uniq {l l' : List (Key × Int)} {xs : List Int} (h : GoodM l xs) (k : GoodM l' xs) : l = l' := by
  obtain ⟨a1, _, a3⟩ := goodM_take h
  obtain ⟨b1, _, b3⟩ := goodM_take k
  rw [← a3, ← b3, ← a1, ← b1]
theorem matB_good {l : List (Key × Int)} (h : ∀ m ∈ l, OkM m) (hn : l.length ≤ top62) : GoodM l (matB l) :=
  ⟨by unfold matB; rw [encI_nat hn], hn, h⟩
theorem goodM_matB {l : List (Key × Int)} {xs : List Int} (h : GoodM l xs) : matB l = xs := by
  rw [h.eq]
  unfold matB
  rw [encI_nat h.few]
/-- Places are told apart by their bytes' length. -/
theorem mst_room {s : Bool × List Int} (hs : Sane s) : ∀ i, (mst s i).1 = false → i + (mst s i).2.length ≤ s.2.length := by
  intro i
  induction i with
  | zero => intro _; show 0 + s.2.length ≤ _; omega
  | succ i ih =>
    intro h
    have h0 : (mst s i).1 = false := by
      cases hc : (mst s i).1 with
      | false => rfl
      | true => rw [mst_bad hs hc] at h; simp at h
    have h1 := ih h0
    have h2 : (mst1 (mst s i)).1 = false := h
    show i + 1 + (mst1 (mst s i)).2.length ≤ _
    unfold mst1 at h2 ⊢
    by_cases hk : okK (keyI (bv (mst s i).2))
    · simp only [if_pos hk] at h2 ⊢
      have hl1 : (nr (br_ (mst s i).2)).length ≤ (br_ (mst s i).2).length := nr_len _
      have hl2 : (br_ (mst s i).2).length ≤ (mst s i).2.length := br_len _
      have hl3 : (nr (br_ (mst s i).2)).length < (br_ (mst s i).2).length := by
        unfold nb at h2
        unfold nr
        cases ht : takeN 0 0 (br_ (mst s i).2) with
        | none => rw [ht] at h2; simp at h2
        | some y => exact Go.Proofs.Ytanhnaohmaepoaa.O.takeN_len _ _ _ _ _ ht
      omega
    · simp only [if_neg hk] at h2
      simp at h2
end Go.Om
