/-
  Build of a row that may be; the contract of haystacklaw4.known: true; rows of low digits.
-/
import Derived.Test.YtbckiefkppgipaaDoorWaBuild
import Derived.Deep.RegionHeld3
namespace Go.Proofs.YtbckiefkppgipaaDoor
open Go.RowKit Go.Oct Go.Bi Go.Wa

theorem fit_nat {W x : Nat} (hW : 1 ≤ W) : fitB W (x : Int) = decide (x < 2 ^ W) := by
  unfold fitB
  generalize 2 ^ W = p
  rw [Bool.eq_iff_iff]
  simp only [Bool.and_eq_true, decide_eq_true_eq]
  omega
theorem bErr_ok {W : Nat} {l : List Nat} (h1 : 1 ≤ W) (h2 : W ≤ 16) (hl : l.length ≤ 131072) (h : ∀ x ∈ l, x < 2 ^ W) : bErr W (asI l) = 0 := by
  unfold bErr
  rw [if_neg (by omega), if_neg (by rw [asI_len]; omega), Int.toNat_natCast, if_pos]
  rw [List.all_eq_true]
  intro x hx
  obtain ⟨y, hy, rfl⟩ := List.mem_map.1 hx
  rw [fit_nat h1]
  exact decide_eq_true (h y hy)
theorem bErr_is {W : Int} {xs : List Int} (h : bErr W xs = 0) : ∃ (w : Nat) (l : List Nat), W = w ∧ 1 ≤ w ∧ w ≤ 16 ∧ xs = asI l ∧ xs.length ≤ 131072 ∧ ∀ x ∈ l, x < 2 ^ w := by
  unfold bErr at h
  by_cases h1 : W < 1 ∨ 16 < W
  · rw [if_pos h1] at h
    cases h
  · rw [if_neg h1] at h
    by_cases h2 : 131072 < xs.length
    · rw [if_pos h2] at h
      cases h
    · rw [if_neg h2] at h
      by_cases h3 : xs.all (fitB W.toNat) = true
      · rw [List.all_eq_true] at h3
        refine ⟨W.toNat, xs.map Int.toNat, by omega, by omega, by omega, ?_, by omega, fun x hx => ?_⟩
        · unfold asI
          rw [List.map_map]
          refine ((List.map_congr_left (g := id) (fun x hx => ?_)).trans (List.map_id xs)).symm
          obtain ⟨n, rfl, _⟩ := fit_in (h3 x hx)
          rfl
        · obtain ⟨y, hy, rfl⟩ := List.mem_map.1 hx
          obtain ⟨n, rfl, hn⟩ := fit_in (h3 y hy)
          exact hn
      · rw [if_neg h3] at h
        cases h

theorem build_val (Wi : Int) (W : Nat) (l : List Nat) (A : Option Addr) (n c : Nat) (w : World) (F : Nat → Prop) (hWi : Wi = W) (hs : Sl w F .i64 A n (asI l)) (hW1 : 1 ≤ W) (hW2 : W ≤ 16) (hn : n ≤ 131072) (hlt : ∀ x ∈ l, x < 2 ^ W) (hc : n ≤ c) (hcm : c ≤ maxLen) :
    Calls Tryd.prog 8 #[.int .i64 Wi, .slice A n c] w fun e w' => ∃ T : Nat, e = .returned (.tuple #[.pointer (some ⟨T, 0, none⟩), .int .i64 0]) ∧ Tr w' (fun k => w.heap.size ≤ k) T W l ∧ Ch (fun _ => False) w w' := by
  subst hWi
  have hl : l.length = n := by rw [← asI_len]; exact hs.len
  exact build_ok W l A n c w F hs hW1 hW2 hn hlt hc hcm (bErr_ok hW1 hW2 (by omega) hlt)

/-- The document's example. -/
theorem four_ex : ∃ l : List Nat, asI l = [2, 5, 2, 7] ∧ (∀ x ∈ l, x < 2 ^ 3) ∧ ((rk (hit l 2) true 3 : Nat) : Int) = 2 ∧ sel (hit l 2) true 1 = 2 ∧ ((bel l 5 0 4 : Nat) : Int) = 2 :=
  ⟨[2, 5, 2, 7], rfl, by decide, by decide, sel_eq (.inl ⟨2, rfl, by decide, by decide⟩), by decide⟩

set_option maxHeartbeats 1000000 in
theorem known_any (w : World) (ht : Tab w) : Calls Tryd.prog 11 #[] w fun e w' => e = .returned (.bool true) ∧ Ch (fun _ => False) w w' := by
  have HT := Bx.mk ht
  clear ht
  obtain ⟨l, h1, h2, h3, h4, h5⟩ := four_ex
  have hs : Sl (w.alloc (.cells #[.int .i64 2, .int .i64 5, .int .i64 2, .int .i64 7] 3)) (fun b => b = w.heap.size) .i64 (some ⟨w.heap.size, 0, none⟩) 4 (asI l) := by
    rw [h1]
    exact Vs.built w 3 [.int .i64 2, .int .i64 5, .int .i64 2, .int .i64 7]
  have HS := Bx.mk hs
  have H2 := Bx.mk h2
  have H3 := Bx.mk h3
  have H4 := Bx.mk h4
  have H5 := Bx.mk h5
  clear h1 h2 h3 h4 h5 hs
  obtain ⟨W, hW⟩ : ∃ W : Nat, W = 3 := ⟨_, rfl⟩
  have hW3 : (3 : Int) = (W : Int) := by omega
  rw [← hW] at H2
  have hm : (4 : Nat) ≤ maxLen := by unfold maxLen; omega
  have HW3 := Bx.mk hW3
  have hWl : 1 ≤ W ∧ W ≤ 16 := by omega
  clear hW hW3
  go_enter Tryd.func11, Tryd.ntmps11
  go_wp2_with fail
  refine (build_val 3 W l _ 4 4 _ (fun b => b = w.heap.size) HW3.out HS.out hWl.1 hWl.2 (by omega) H2.out (by omega) hm).mono ?_
  rintro e w1 ⟨T, rfl, hT, hC⟩
  have HTr := Bx.mk hT
  have HC := Bx.mk (((Ch.refl (fun _ => False) w).alloc (.cells #[.int .i64 2, .int .i64 5, .int .i64 2, .int .i64 7] 3)).trans hC (fun _ _ h => h))
  clear hT hC
  go_wp2_with fail
  refine (trank_any T W l 2 3 2 _ HTr.out H3.out).mono ?_
  rintro e w2 ⟨rfl, hC2⟩
  have HTr2 := Bx.mk (HTr.out.keep hC2)
  have HC2 := Bx.mk (HC.out.trans hC2 (fun _ _ h => h))
  clear hC2
  go_wp2_with fail
  refine (tselect_any T W l 2 1 2 _ HTr2.out (HT.out.keep HC2.out) H4.out).mono ?_
  rintro e w3 ⟨rfl, hC3⟩
  have HTr3 := Bx.mk (HTr2.out.keep hC3)
  have HC3 := Bx.mk (HC2.out.trans hC3 (fun _ _ h => h))
  clear hC3
  go_wp2_with fail
  refine (tbelow_any T W l 5 0 4 2 _ HTr3.out H5.out).mono ?_
  rintro e w4 ⟨rfl, hC4⟩
  have HC4 := Bx.mk (HC3.out.trans hC4 (fun _ _ h => h))
  clear hC4
  go_wp2
  go_ret
  exact ⟨rfl, HC4.out⟩

theorem and_low (x : Int) (k : Nat) (hk : k < 63) : bits .and .i64 x ((2 ^ k - 1 : Nat) : Int) = (((x % ((2 ^ k : Nat) : Int)).toNat : Nat) : Int) := by
  have hp : (2 : Nat) ^ k < 2 ^ 63 := Nat.pow_lt_pow_right (by decide) hk
  have hp0 : 0 < 2 ^ k := Nat.pow_pos (by decide)
  have hd : (2 : Nat) ^ k ∣ 18446744073709551616 := ⟨2 ^ (64 - k), by rw [← Nat.pow_add, show k + (64 - k) = 64 by omega]⟩
  have h2 : (BitVec.ofInt 64 (((2 ^ k - 1 : Nat)) : Int)).toNat = 2 ^ k - 1 := by
    rw [BitVec.ofInt_natCast, BitVec.toNat_ofNat]; exact Nat.mod_eq_of_lt (by omega)
  have h1 : (BitVec.ofInt 64 x).toNat = (x % (18446744073709551616 : Nat)).toNat := by
    rw [BitVec.toNat_ofInt]
  have h3 : (x % (18446744073709551616 : Nat)).toNat % 2 ^ k = (x % ((2 ^ k : Nat) : Int)).toNat := by
    have e1 : ((x % ((18446744073709551616 : Nat) : Int)).toNat : Int) = x % ((18446744073709551616 : Nat) : Int) := by omega
    have e2 : (((x % ((18446744073709551616 : Nat) : Int)).toNat % 2 ^ k : Nat) : Int) = x % ((2 ^ k : Nat) : Int) := by
      rw [Int.natCast_emod, e1]
      exact Int.emod_emod_of_dvd x (Int.natCast_dvd_natCast.2 hd)
    omega
  show IntKind.i64.wrap ((BitVec.ofInt 64 x &&& BitVec.ofInt 64 (((2 ^ k - 1 : Nat)) : Int)).toNat : Int) = _
  rw [BitVec.toNat_and, h1, h2, Nat.and_two_pow_sub_one_eq_mod, h3]
  have h4 : (x % ((2 ^ k : Nat) : Int)).toNat < 2 ^ k := by
    have := Int.emod_lt_of_pos x (show (0 : Int) < ((2 ^ k : Nat) : Int) by omega)
    have := Int.emod_nonneg x (show ((2 ^ k : Nat) : Int) ≠ 0 by omega)
    omega
  exact IntWalk.i64_in _ (by omega)
/-- The low digits of each. -/
def cut (p : Nat) (xs : List Int) : List Nat := xs.map fun x => (x % (p : Int)).toNat
theorem cut_len (p : Nat) (xs : List Int) : (cut p xs).length = xs.length := List.length_map ..
theorem cut_lt {p : Nat} (hp : 0 < p) {xs : List Int} : ∀ x ∈ cut p xs, x < p := fun x hx => by
  obtain ⟨y, _, rfl⟩ := List.mem_map.1 hx
  have := Int.emod_lt_of_pos y (show (0 : Int) < (p : Int) by omega)
  have := Int.emod_nonneg y (show (p : Int) ≠ 0 by omega)
  omega
theorem cut_at {p : Nat} {xs : List Int} {k : Nat} {x : Int} (h : xs[k]? = some x) : (cut p xs)[k]? = some (x % (p : Int)).toNat := by
  unfold cut
  rw [List.getElem?_map, h]
  rfl
theorem cut_app (p : Nat) (xs ys : List Int) : cut p (xs ++ ys) = cut p xs ++ cut p ys := List.map_append
end Go.Proofs.YtbckiefkppgipaaDoor
