/-
  The contracts of suffix.upTo, rest and check.
  Conditions: the row reads as it says.
-/
import Derived.Test.YtgboobjmafdieaaSuArray
import Derived.Test.YtgboobjmafdieaaSvCell
import Derived.Test.YtgboobjmafdieaaSvMath
namespace Go.Proofs.Ytgboobjmafdieaa
open Go.RowKit Go.Oct Go.Su

/-- A new row of the call's own. -/
def NewRow (n : Nat) (l : List Nat) (w : World) (e : Ending) (w' : World) : Prop := ∃ g : Nat, e = .returned (.slice (some ⟨g, 0, none⟩) n n) ∧ Own w' 3 1 g n n (vals l) ∧ w.heap.size ≤ g ∧ Ch (fun _ => False) w w'
theorem vals_rng (n : Nat) : (rng n).map (Value.int .i64) = vals (List.range n) := by unfold rng; exact vals_asI _
theorem upto_any (n : Nat) (w : World) (hn : n ≤ 1048576) : Calls Try.prog 44 #[.int .i64 n] w (NewRow n (List.range n) w) := by
  have hmk := mkI w n hn
  go_enter Try.func44, Try.ntmps44
  go_wp2_with fail
  go_loopw [4, 9] (fun _ i wr => ∃ k : Nat, k ≤ n ∧ i = .int .i64 k ∧ Own wr 3 1 w.heap.size n n ((upZ (rng n) k).map (Value.int .i64)) ∧ Ch (fun _ => False) w wr) (fun _ i _ => n - (intOf i).toNat)
  case atStart =>
    refine ⟨0, Nat.zero_le _, rfl, ?_, (Ch.refl _ _).alloc _⟩
    have := own_made1 w 3 (.int .i64 0) n (by omega)
    rw [upZ_zero, rng_len, List.map_replicate]
    exact this
  case round =>
    obtain ⟨k, hk, rfl, hO, hC⟩ := hrel
    by_cases hlt : k < n
    · have hcell := hO.cellI hlt
      have hfz := hO.frozenAt k
      have hst := hO.storedI k (k : Int)
      rw [upZ_next (rng_at hlt)] at hst
      have HST := Bx.mk hst
      have HC := Bx.mk hC
      generalize (upZ (rng n) k).getD k 0 = old at *
      clear hC hst hO
      go_wp2
      go_roundw
      case rel => exact ⟨k + 1, by omega, by go_num, HST.out.1, HC.out.trans HST.out.2 (fun i hi (e : i = w.heap.size) => by omega)⟩
      case measure => simp [intOf]; omega
    · obtain rfl : k = n := by omega
      have hu := upZ_all (rng k)
      rw [rng_len] at hu
      rw [hu, vals_rng] at hO
      have HO := Bx.mk hO
      have HC := Bx.mk hC
      clear hO hC hu
      go_wp2
      go_ret
      exact ⟨_, rfl, HO.out, Nat.le_refl _, HC.out⟩

section
variable {F : Nat → Prop}
/-- The class of what an ending has behind its first k symbols; -1: nothing. -/
theorem rest_any (c : List Int) (A : Option Addr) (n d a k : Nat) (w : World) (hs : Sl w F .i64 A n c) (hn : n ≤ 1048576) (hk : k ≤ 1048576) (ha : a < n) :
    Calls Try.prog 40 #[.slice A n d, .int .i64 a, .int .i64 k] w fun e w' => e = .returned (.int .i64 (gs c (a + k))) ∧ w = w' := by
  have hl := hs.len
  have HS := Bx.mk hs
  clear hs
  rcases Nat.lt_or_ge (a + k) n with h | h
  · obtain ⟨b, off, rfl, _, hc⟩ := Sl.gsAt HS.out h
    generalize gs c (a + k) = x at *
    have i1 : (0 : Int) ≤ (a : Int) + (k : Int) := by omega
    have i2 : (a : Int) + (k : Int) < (n : Int) := by omega
    have hc' : w.cell? ⟨b, off + ((a : Int) + (k : Int)).toNat, none⟩ = some (.int .i64 x) := by
      rw [show ((a : Int) + (k : Int)).toNat = a + k by omega]
      exact hc
    have d1 : decide ((n : Int) ≤ (a : Int) + (k : Int)) = false := by simp; omega
    go_enter Try.func40, Try.ntmps40
    go_wp2
    go_ret
    exact ⟨rfl, rfl⟩
  · rw [gs_out (by omega)]
    have d1 : decide ((n : Int) ≤ (a : Int) + (k : Int)) = true := by simp; omega
    go_enter Try.func40, Try.ntmps40
    go_wp2
    go_ret
    exact ⟨rfl, rfl⟩

/-- The error of a row that may not be. -/
theorem check_any (s : List Int) (A : Option Addr) (n c : Nat) (w : World) (hs : Sl w F .i64 A n s) (hn : n ≤ 9223372036854775807) :
    Calls Try.prog 27 #[.slice A n c] w fun e w' => e = .returned (.int .i64 (aErr s)) ∧ w = w' := by
  have HS := Bx.mk hs
  have HL := Bx.mk hs.len
  clear hs
  obtain ⟨v, hv0⟩ : ∃ v, aErr s = v := ⟨_, rfl⟩
  rw [hv0]
  have HV := Bx.mk hv0
  clear hv0
  by_cases hlong : 65536 < n
  · obtain rfl : 5 = v := by rw [← HV.out]; unfold aErr; rw [HL.out, if_pos hlong]
    go_enter Try.func27, Try.ntmps27
    go_wp2
    go_ret
    exact ⟨rfl, rfl⟩
  · have d1 : decide (65536 < (n : Int)) = false := by simp; omega
    go_enter Try.func27, Try.ntmps27
    go_wp2_with fail
    go_loop [4, 10] (fun _ i => ∃ k : Nat, k ≤ n ∧ i = .int .i64 k ∧ Bx ((s.take k).all (fun x => decide (0 ≤ x)) = true)) (fun _ i => n - (intOf i).toNat)
    case atStart => exact ⟨0, Nat.zero_le _, rfl, ⟨rfl⟩⟩
    case round =>
      obtain ⟨k, hk, rfl, hA⟩ := hrel
      by_cases hlt : k < n
      · obtain ⟨b, off, x, rfl, _, hx, hcx⟩ := HS.out.at_ hlt
        by_cases h0 : x < 0
        · obtain rfl : 1 = v := by
            rw [← HV.out]
            unfold aErr
            rw [HL.out, if_neg hlong, if_neg]
            intro hall
            have := List.all_eq_true.1 hall x (List.mem_of_getElem? hx.out)
            simp at this
            omega
          clear hx
          go_wp2
          go_ret
          exact ⟨rfl, rfl⟩
        · have h1 : 0 ≤ x := by omega
          have hall : (s.take (k + 1)).all (fun x => decide (0 ≤ x)) = true := by
            rw [List.take_add_one, hx.out, List.all_append, hA.out]
            simpa using h1
          have HAA := Bx.mk hall
          clear hx hall h0
          go_wp2
          go_round
          case rel => exact ⟨k + 1, by omega, by go_num, HAA⟩
          case measure => simp [intOf]; omega
      · have h2 := hA.out
        rw [List.take_of_length_le (by rw [HL.out]; omega)] at h2
        obtain rfl : 0 = v := by rw [← HV.out]; unfold aErr; rw [HL.out, if_neg hlong, if_pos h2]
        clear h2
        go_wp2
        go_ret
        exact ⟨rfl, rfl⟩
end
end Go.Proofs.Ytgboobjmafdieaa
