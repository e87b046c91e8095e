/-
  Rows whose bytes are cut short. Over no program. Conditions: none.
-/
import Derived.Test.YtppplchllnalpaaDoorOcMath
namespace Go.Oct

theorem takeN_pre (m : Nat) : ∀ (i n j : Nat), j < (encN m).length → takeN i n ((encN m).take j) = none := by
  induction m using encN.induct with
  | case1 m h =>
    intro i n j hj
    rw [encN_small h] at hj ⊢
    simp only [List.length_cons, List.length_nil] at hj
    obtain rfl : j = 0 := by omega
    rfl
  | case2 m h ih =>
    intro i n j hj
    have hb : 128 ≤ m := by omega
    rw [encN_big hb] at hj ⊢
    simp only [List.length_cons] at hj
    cases j with
    | zero => rfl
    | succ j =>
      rw [List.take_succ_cons]
      by_cases hi : i = 9
      · subst hi; simp [takeN]
      · simp only [takeN, if_neg hi, if_pos (show (128 : Int) ≤ ((m % 128 + 128 : Nat) : Int) by omega)]
        exact ih _ _ j (by omega)
theorem rowB_len (x : List Int) : (rowB x).length = (encN x.length).length + x.length := by simp [rowB]
theorem rowB_pos (x : List Int) : 0 < (rowB x).length := by rw [rowB_len]; have := encN_pos x.length; omega
theorem cut_whole {x more : List Int} {j : Nat} (hx : x.length ≤ 4000) (hj : (rowB x).length ≤ j) :
    takeN 0 0 ((rowB x ++ more).take j) = some (x.length, x ++ more.take (j - (rowB x).length)) := by
  rw [List.take_append, List.take_of_length_le hj]
  unfold rowB
  rw [List.append_assoc]
  exact takeN_enc0 (by rw [top62_eq]; omega) _
theorem cut_short {x more : List Int} {j : Nat} (hx : x.length ≤ 4000) (hj : j < (rowB x).length) :
    takeN 0 0 ((rowB x ++ more).take j) = none ∨ ∃ r, takeN 0 0 ((rowB x ++ more).take j) = some (x.length, r) ∧ r.length < x.length := by
  rw [List.take_append_of_le_length (by omega)]
  rw [rowB_len] at hj
  unfold rowB
  by_cases h : j < (encN x.length).length
  · left
    rw [List.take_append_of_le_length (by omega)]
    exact takeN_pre _ _ _ _ h
  · right
    refine ⟨x.take (j - (encN x.length).length), ?_, by rw [List.length_take]; omega⟩
    rw [List.take_append, List.take_of_length_le (by omega)]
    exact takeN_enc0 (by rw [top62_eq]; omega) _

def pre (l : List (List Int)) (k : Nat) : List Int := (l.take k).flatMap rowB
def ends (l : List (List Int)) (k : Nat) : List Int := (List.range k).map fun i => ((pre l (i + 1)).length : Int)
theorem pre_more {l : List (List Int)} {k : Nat} {x : List Int} (h : l[k]? = some x) : pre l (k + 1) = pre l k ++ rowB x := flat_more rowB h
theorem ends_more (l : List (List Int)) (k : Nat) : ends l (k + 1) = ends l k ++ [((pre l (k + 1)).length : Int)] := by simp [ends, List.range_succ]
theorem ends_len (l : List (List Int)) (k : Nat) : (ends l k).length = k := by simp [ends]
theorem ends_at {l : List (List Int)} {n k : Nat} (h : k < n) : (ends l n)[k]? = some ((pre l (k + 1)).length : Int) := by simp [ends, h]
theorem pre_len {l : List (List Int)} (k : Nat) : (pre l k).length ≤ 9 * k + (cat (l.take k)).length ∨ ∃ x ∈ l, 4000 < x.length := by
  by_cases hx : ∃ x ∈ l, 4000 < x.length
  · exact .inr hx
  left
  unfold pre cat
  induction k generalizing l with
  | zero => simp
  | succ k ih =>
    cases l with
    | nil => simp
    | cons a l =>
      have h1 := ih (l := l) (fun ⟨x, h1, h2⟩ => hx ⟨x, by simp [h1], h2⟩)
      have ha : a.length ≤ 4000 := by
        rcases Nat.lt_or_ge 4000 a.length with h | h
        · exact absurd ⟨a, by simp, h⟩ hx
        · exact h
      have h9 := encI_len (a.length : Int)
      have e : encI (a.length : Int) = encN a.length := by unfold encI; rw [clampI_nat (by omega)]
      rw [e] at h9
      simp only [List.take_succ_cons, List.flatMap_cons, List.flatten_cons, List.length_append, rowB_len]
      omega
theorem pre_split {l : List (List Int)} {n k : Nat} {x : List Int} (hn : l.length = n) (h : l[k]? = some x) : ∃ more, pre l n = pre l k ++ (rowB x ++ more) := by
  obtain ⟨h1, h2⟩ := List.getElem?_eq_some_iff.1 h
  refine ⟨(l.drop (k + 1)).flatMap rowB, ?_⟩
  unfold pre
  rw [List.take_of_length_le (by omega)]
  have : l = l.take k ++ x :: l.drop (k + 1) := by rw [← h2, ← List.drop_eq_getElem_cons h1, List.take_append_drop]
  calc l.flatMap rowB = (l.take k ++ x :: l.drop (k + 1)).flatMap rowB := congrArg (fun t => List.flatMap rowB t) this
    _ = _ := by rw [List.flatMap_append, List.flatMap_cons]
/-- What is left of the cut bytes behind k rows that are whole. -/
def rest (l : List (List Int)) (n cut k : Nat) : List Int := ((pre l n).take cut).drop (pre l k).length
theorem rest_zero (l : List (List Int)) (n cut : Nat) : rest l n cut 0 = (pre l n).take cut := by simp [rest, pre]
theorem rest_eq {l : List (List Int)} {n k cut : Nat} {x more : List Int} (h : pre l n = pre l k ++ (rowB x ++ more)) : rest l n cut k = (rowB x ++ more).take (cut - (pre l k).length) := by
  unfold rest
  rw [h, List.drop_take, List.drop_append_of_le_length (Nat.le_refl _), List.drop_length, List.nil_append]
theorem rest_whole {l : List (List Int)} {n k cut : Nat} {x : List Int} (hn : l.length = n) (h : l[k]? = some x) (hx : x.length ≤ 4000) (hc : (pre l (k + 1)).length ≤ cut) :
    takeN 0 0 (rest l n cut k) = some (x.length, x ++ rest l n cut (k + 1)) := by
  obtain ⟨more, hm⟩ := pre_split hn h
  have hp := pre_more h
  have hl : (pre l (k + 1)).length = (pre l k).length + (rowB x).length := by rw [hp, List.length_append]
  rw [rest_eq hm, cut_whole hx (by omega)]
  congr 3
  unfold rest
  rw [hm, ← List.append_assoc, ← hp, List.drop_take, List.drop_append_of_le_length (Nat.le_refl _), List.drop_length, List.nil_append]
  congr 1
  omega
theorem rest_short {l : List (List Int)} {n k cut : Nat} {x : List Int} (hn : l.length = n) (h : l[k]? = some x) (hx : x.length ≤ 4000) (h0 : (pre l k).length ≤ cut) (hc : cut < (pre l (k + 1)).length) :
    takeN 0 0 (rest l n cut k) = none ∨ ∃ r, takeN 0 0 (rest l n cut k) = some (x.length, r) ∧ r.length < x.length := by
  obtain ⟨more, hm⟩ := pre_split hn h
  have hp := pre_more h
  have hl : (pre l (k + 1)).length = (pre l k).length + (rowB x).length := by rw [hp, List.length_append]
  rw [rest_eq hm]
  exact cut_short hx (by omega)
end Go.Oct
