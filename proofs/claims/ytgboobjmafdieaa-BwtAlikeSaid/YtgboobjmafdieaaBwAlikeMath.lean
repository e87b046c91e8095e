/-
  A row of one symbol again and again, turned: itself. Over no program.
-/
import Derived.Test.YtgboobjmafdieaaBwMath2
namespace Go.Su
/-- One symbol n times, and the end. -/
def again (c n : Nat) : List Int := List.replicate n (c : Int) ++ [0]
theorem again_len (c n : Nat) : (again c n).length = n + 1 := by unfold again; simp
theorem again_at {c n p : Nat} (h : p < n) : gs (again c n) p = c := by
  refine gs_at ?_
  unfold again
  rw [List.getElem?_append_left (by simpa using h), List.getElem?_replicate, if_pos h]
theorem again_last (c n : Nat) : gs (again c n) n = 0 := by
  refine gs_at ?_
  unfold again
  rw [List.getElem?_append_right (by simp)]
  simp
theorem again_closed {c n : Nat} (hc : 0 < c) : Closed (again c n) := by
  refine ⟨fun x hx => ?_, by rw [again_len]; omega, by rw [again_len]; exact again_last c n, fun p hp => ?_⟩
  · unfold again at hx
    rcases List.mem_append.1 hx with h | h
    · rw [List.eq_of_mem_replicate h]
      omega
    · simp at h
      omega
  · rw [again_len] at hp
    rw [again_at (by omega)]
    omega
theorem again_sa {c n : Nat} (hc : 0 < c) : IsSA (again c n) ((List.range (n + 1)).map fun i => n - i) := by
  refine ⟨by rw [again_len]; simp, fun x => ?_, ?_⟩
  · rw [again_len]
    constructor
    · intro h
      obtain ⟨y, hy, rfl⟩ := List.mem_map.1 h
      omega
    · intro h
      exact List.mem_map.2 ⟨n - x, List.mem_range.2 (by omega), by omega⟩
  · rw [List.pairwise_map]
    refine List.pairwise_lt_range.imp_of_mem fun {i j} hi hj h => ?_
    have hj2 := List.mem_range.1 hj
    refine ⟨i, fun t ht => ?_, ?_⟩
    · rw [again_at (by omega), again_at (by omega)]
    · rw [show n - i + i = n by omega, again_last, again_at (by omega)]
      omega
theorem again_turned {c n : Nat} {l : List Int} (hc : 0 < c) (t : Turned (again c n) l) : l = again c n := by
  have hL := again_sa (n := n) hc
  refine gs_ext t.len fun p hp => ?_
  rw [t.len, again_len] at hp
  have hx : ((List.range (n + 1)).map fun i => n - i)[p]? = some (n - p) := by rw [List.getElem?_map, List.getElem?_range hp]; rfl
  rw [t.at_ _ hL p _ hx, again_len]
  unfold prv
  by_cases e : n - p = 0
  · rw [if_pos e, show n + 1 - 1 = p by omega]
  · rw [if_neg e, again_at (by omega), again_at (by omega)]
/-- Under way. -/
def rise (c n j : Nat) : List Nat := List.replicate j c ++ List.replicate (n + 1 - j) 0
theorem rise_start (c n : Nat) : rise c n 0 = List.replicate (n + 1) 0 := by unfold rise; simp
theorem rise_next {c n j : Nat} (h : j < n) : (rise c n j).set j c = rise c n (j + 1) := by
  unfold rise
  rw [List.set_append_right _ _ (by simp), List.length_replicate, Nat.sub_self, show n + 1 - j = (n + 1 - (j + 1)) + 1 by omega, List.replicate_succ, List.set_cons_zero, List.replicate_succ' (n := j), List.append_assoc]
  rfl
end Go.Su
