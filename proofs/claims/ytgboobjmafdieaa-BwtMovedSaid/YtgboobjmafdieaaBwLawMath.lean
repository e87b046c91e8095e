/-
  A row turned has the same symbols; the rows of the laws of chapter 6 are closed.
-/
import Derived.Test.YtgboobjmafdieaaBwMath2
import Derived.Test.YtgboobjmafdieaaBwCounts
namespace Go.Proofs.Ytgboobjmafdieaa
open Go.RowKit Go.Oct Go.Su

theorem gs_rows (s : List Int) : (List.range s.length).map (gs s) = s := by
  apply List.ext_getElem?
  intro p
  rcases Nat.lt_or_ge p s.length with h | h
  · rw [List.getElem?_map, List.getElem?_range h, gs_some h]
    rfl
  · rw [List.getElem?_eq_none (by simpa using h), List.getElem?_eq_none h]
theorem turned_perm {s l : List Int} (t : Turned s l) : l.Perm s := by
  obtain ⟨L, hL⟩ := sa_exists t.closed.pos
  have hn := t.closed.full
  have hLn : L.Nodup := hL.ord.imp fun {a b} l e => by subst e; exact l.irrefl
  have hLb : ∀ x ∈ L, x < s.length := fun x hx => (hL.mem x).1 hx
  have h1 : l = (L.map (prv s.length)).map (gs s) := by
    apply List.ext_getElem?
    intro i
    rcases Nat.lt_or_ge i s.length with h | h
    · obtain ⟨x, hx, _⟩ := hL.has h
      rw [List.getElem?_map, List.getElem?_map, hx, gs_some (by rw [t.len]; exact h), t.at_ L hL i x hx]
      rfl
    · rw [List.getElem?_eq_none (by rw [t.len]; exact h), List.getElem?_eq_none (by rw [List.length_map, List.length_map, hL.len]; exact h)]
  have h2 : (L.map (prv s.length)).Perm (List.range s.length) := by
    refine range_of ?_ ?_ (by rw [List.length_map, hL.len]; exact Nat.le_refl _)
    · rw [List.Nodup, List.pairwise_map]
      exact hLn.imp_of_mem fun {a b} ha hb h e => h (prv_inj (hLb a ha) (hLb b hb) e)
    · intro x hx
      obtain ⟨y, hy, rfl⟩ := List.mem_map.1 hx
      exact prv_lt hn (hLb y hy)
  have h3 := h2.map (gs s)
  rw [gs_rows, ← h1] at h3
  exact h3
theorem cnts_turned {s l : List Int} (t : Turned s l) (W : Nat) : cnts l W = cnts s W := by
  unfold cnts
  refine List.map_congr_left fun c _ => ?_
  unfold less
  exact (turned_perm t).countP_eq _
theorem cnts_len (l : List Int) (W : Nat) : (cnts l W).length = 2 ^ W + 1 := by unfold cnts; simp
/-- Numbers, each one more, and the end. -/
def shut (L : List Nat) : List Int := asI (L.map (· + 1)) ++ [0]
theorem shut_len (L : List Nat) : (shut L).length = L.length + 1 := by unfold shut asI; simp
theorem shut_at {L : List Nat} {p : Nat} (h : p < L.length) : ∃ x : Nat, gs (shut L) p = (x : Int) + 1 ∧ L[p]? = some x := by
  refine ⟨L[p], gs_at ?_, List.getElem?_eq_getElem h⟩
  unfold shut asI
  rw [List.getElem?_append_left (by simpa using h), List.getElem?_map, List.getElem?_map, List.getElem?_eq_getElem h]
  show some (((L[p] + 1 : Nat)) : Int) = _
  simp
theorem shut_last (L : List Nat) : gs (shut L) L.length = 0 := by
  refine gs_at ?_
  unfold shut asI
  rw [List.getElem?_append_right (by simp)]
  simp
theorem shut_closed (L : List Nat) : Closed (shut L) := by
  refine ⟨fun x hx => ?_, by rw [shut_len]; omega, by rw [shut_len]; exact shut_last L, fun p hp => ?_⟩
  · unfold shut asI at hx
    rcases List.mem_append.1 hx with h | h
    · obtain ⟨y, _, rfl⟩ := List.mem_map.1 h
      omega
    · simp at h
      omega
  · rw [shut_len] at hp
    obtain ⟨x, e, _⟩ := shut_at (L := L) (p := p) (by omega)
    omega
theorem shut_inj {L M : List Nat} (h : shut L = shut M) : L = M := by
  have hl : L.length = M.length := by
    have := congrArg List.length h
    rw [shut_len, shut_len] at this
    omega
  apply List.ext_getElem?
  intro p
  rcases Nat.lt_or_ge p L.length with hp | hp
  · obtain ⟨x, e1, h1⟩ := shut_at hp
    obtain ⟨y, e2, h2⟩ := shut_at (L := M) (p := p) (by omega)
    rw [h, e2] at e1
    rw [h1, h2]
    congr 1
    omega
  · rw [List.getElem?_eq_none hp, List.getElem?_eq_none (by omega)]
theorem and_low (x : Int) (k : Nat) (hk : k < 63) : bits .and .i64 x ((2 ^ k - 1 : Nat) : Int) = (((x % ((2 ^ k : Nat) : Int)).toNat : Nat) : Int) := by
  have hp : (2 : Nat) ^ k < 2 ^ 63 := Nat.pow_lt_pow_right (by decide) hk
  have hp0 : 0 < 2 ^ k := Nat.pow_pos (by decide)
  have hd : (2 : Nat) ^ k ∣ 18446744073709551616 := ⟨2 ^ (64 - k), by rw [← Nat.pow_add, show k + (64 - k) = 64 by omega]⟩
  have h2 : (BitVec.ofInt 64 (((2 ^ k - 1 : Nat)) : Int)).toNat = 2 ^ k - 1 := by
    rw [BitVec.ofInt_natCast, BitVec.toNat_ofNat]; exact Nat.mod_eq_of_lt (by omega)
  have h1 : (BitVec.ofInt 64 x).toNat = (x % (18446744073709551616 : Nat)).toNat := by
    rw [BitVec.toNat_ofInt]
  have h3 : (x % (18446744073709551616 : Nat)).toNat % 2 ^ k = (x % ((2 ^ k : Nat) : Int)).toNat := by
    have e1 : ((x % ((18446744073709551616 : Nat) : Int)).toNat : Int) = x % ((18446744073709551616 : Nat) : Int) := by omega
    have e2 : (((x % ((18446744073709551616 : Nat) : Int)).toNat % 2 ^ k : Nat) : Int) = x % ((2 ^ k : Nat) : Int) := by
      rw [Int.natCast_emod, e1]
      exact Int.emod_emod_of_dvd x (Int.natCast_dvd_natCast.2 hd)
    omega
  show IntKind.i64.wrap ((BitVec.ofInt 64 x &&& BitVec.ofInt 64 (((2 ^ k - 1 : Nat)) : Int)).toNat : Int) = _
  rw [BitVec.toNat_and, h1, h2, Nat.and_two_pow_sub_one_eq_mod, h3]
  have h4 : (x % ((2 ^ k : Nat) : Int)).toNat < 2 ^ k := by
    have := Int.emod_lt_of_pos x (show (0 : Int) < ((2 ^ k : Nat) : Int) by omega)
    have := Int.emod_nonneg x (show ((2 ^ k : Nat) : Int) ≠ 0 by omega)
    omega
  exact IntWalk.i64_in _ (by omega)
/-- The low digits of each. -/
def cut (p : Nat) (xs : List Int) : List Nat := xs.map fun x => (x % (p : Int)).toNat
theorem cut_len (p : Nat) (xs : List Int) : (cut p xs).length = xs.length := List.length_map ..
theorem cut_lt {p : Nat} (hp : 0 < p) {xs : List Int} : ∀ x ∈ cut p xs, x < p := fun x hx => by
  obtain ⟨y, _, rfl⟩ := List.mem_map.1 hx
  have := Int.emod_lt_of_pos y (show (0 : Int) < (p : Int) by omega)
  have := Int.emod_nonneg y (show (p : Int) ≠ 0 by omega)
  omega
theorem cut_at {p : Nat} {xs : List Int} {k : Nat} {x : Int} (h : xs[k]? = some x) : (cut p xs)[k]? = some (x % (p : Int)).toNat := by
  unfold cut
  rw [List.getElem?_map, h]
  rfl
theorem cut_app (p : Nat) (xs ys : List Int) : cut p (xs ++ ys) = cut p xs ++ cut p ys := List.map_append
theorem and1023 (x : Int) : bits .and .i64 x 1023 = (((x % ((1024 : Nat) : Int)).toNat : Nat) : Int) := and_low x 10 (by decide)
theorem and3 (x : Int) : bits .and .i64 x 3 = (((x % ((4 : Nat) : Int)).toNat : Nat) : Int) := and_low x 2 (by decide)
theorem shut_asI (L : List Nat) : asI (L.map (· + 1) ++ [0]) = shut L := by unfold shut asI; simp
end Go.Proofs.Ytgboobjmafdieaa
