/-
  The walk of the law BwtAlike: true for every input.
-/
import Derived.Test.YtgboobjmafdieaaBwTurns
import Derived.Test.YtgboobjmafdieaaBwAlikeMath
import Derived.Test.YtgboobjmafdieaaSvCell
namespace Go.Proofs.Ytgboobjmafdieaa
open Go.RowKit Go.Oct Go.Su
theorem rise_asI (c n : Nat) : asI (rise c n n) = again c n := by unfold rise asI again; rw [show n + 1 - n = 1 by omega]; simp
section
set_option maxHeartbeats 4000000 in
theorem alikelaw_any (z y : Int) (w : World) :
    Calls Try.prog 7 #[.int .i64 z, .int .i64 y] w fun e w' => e = .returned (.bool true) ∧ Ch (fun _ => False) w w' := by
  by_cases h1 : z < 1
  · have d1 : decide (z < 1) = true := by simpa using h1
    go_enter Try.func7, Try.ntmps7
    go_wp2_with fail
    refine (known_any w).mono ?_
    rintro e w1 ⟨rfl, hC1⟩
    have HC1 := Bx.mk hC1
    clear hC1
    go_wp2
    go_ret
    exact ⟨rfl, HC1.out⟩
  have d1 : decide (z < 1) = false := by simpa using h1
  by_cases h2 : 1048576 < z
  · have d2 : decide (1048576 < z) = true := by simpa using h2
    go_enter Try.func7, Try.ntmps7
    go_wp2_with fail
    refine (known_any w).mono ?_
    rintro e w1 ⟨rfl, hC1⟩
    have HC1 := Bx.mk hC1
    clear hC1
    go_wp2
    go_ret
    exact ⟨rfl, HC1.out⟩
  have d2 : decide (1048576 < z) = false := by simpa using h2
  by_cases h3 : y < 0
  · have d3 : decide (y < 0) = true := by simpa using h3
    go_enter Try.func7, Try.ntmps7
    go_wp2_with fail
    refine (known_any w).mono ?_
    rintro e w1 ⟨rfl, hC1⟩
    have HC1 := Bx.mk hC1
    clear hC1
    go_wp2
    go_ret
    exact ⟨rfl, HC1.out⟩
  have d3 : decide (y < 0) = false := by simpa using h3
  by_cases h4 : 2000 < y
  · have d4 : decide (2000 < y) = true := by simpa using h4
    go_enter Try.func7, Try.ntmps7
    go_wp2_with fail
    refine (known_any w).mono ?_
    rintro e w1 ⟨rfl, hC1⟩
    have HC1 := Bx.mk hC1
    clear hC1
    go_wp2
    go_ret
    exact ⟨rfl, HC1.out⟩
  obtain ⟨c, rfl⟩ : ∃ c : Nat, z = c := ⟨z.toNat, by omega⟩
  obtain ⟨n, rfl⟩ : ∃ n : Nat, y = n := ⟨y.toNat, by omega⟩
  have hc0 : 0 < c := by omega
  have hn : n ≤ 2000 := by omega
  have d4 : decide (2000 < (n : Int)) = false := by simpa using h4
  have hmk := mkI w (n + 1) (by omega)
  rw [show ((n + 1 : Nat) : Int) = (n : Int) + 1 by omega] at hmk
  have HC0 := Bx.mk hc0
  clear h3 h4 hc0
  go_enter Try.func7, Try.ntmps7
  go_wp2_with fail
  obtain ⟨H, hH⟩ : ∃ H, w.heap.size = H := ⟨_, rfl⟩
  obtain ⟨w0, hw0⟩ : ∃ w0, w.alloc (.cells (madeCells #[.int .i64 0] (n + 1)) 3) = w0 := ⟨_, rfl⟩
  have hCa : Ch (fun _ => False) w w0 := by rw [← hw0]; exact (Ch.refl (fun _ => False) w).alloc _
  have hO0 : Own w0 3 1 H (n + 1) (n + 1) (vals (rise c n 0)) := by
    rw [rise_start]
    unfold vals
    rw [List.map_replicate, ← hw0, ← hH]
    exact own_made1 w 3 (.int .i64 0) (n + 1) (by omega)
  have HO0 := Bx.mk hO0
  have HCa := Bx.mk hCa
  have HH := Bx.mk (Nat.le_of_eq hH)
  rw [hw0, hH]
  clear hw0 hH hCa hO0 hmk
  go_loopw [6] (fun i wr => ∃ k : Nat, k ≤ n ∧ i = .int .i64 k ∧ Own wr 3 1 H (n + 1) (n + 1) (vals (rise c n k)) ∧ Ch (fun b => b = H) w0 wr) (fun i _ => n - (intOf i).toNat)
  case atStart => exact ⟨0, Nat.zero_le _, rfl, HO0.out, Ch.refl _ _⟩
  case round =>
    obtain ⟨k, hk, rfl, hO, hC⟩ := hrel
    by_cases hlt : k < n
    · have dk : decide ((k : Int) < (n : Int)) = true := by simp; omega
      have i1 : (0 : Int) ≤ (k : Int) := by omega
      have i2 : (k : Int) < (n : Int) + 1 := by omega
      have hcell := hO.cellN (j := k) (by omega)
      have hfz := hO.frozenAt k
      obtain ⟨hst, hCs⟩ := hO.storedN k c
      generalize gn (rise c n k) k = old at *
      rw [rise_next hlt] at hst
      have HST := Bx.mk hst
      have HCS := Bx.mk (hC.trans hCs (fun _ _ h => h))
      clear hst hCs hO hC
      go_wp2
      go_roundw
      case rel => exact ⟨k + 1, by omega, by go_num, HST.out, HCS.out⟩
      case measure => simp [intOf]; omega
    · have hkn : k = n := by omega
      have dk : decide ((k : Int) < (n : Int)) = false := by simp; omega
      rw [hkn] at hO
      have hsl0 : Sl wr (fun b => b = H) .i64 (some ⟨H, 0, none⟩) (n + 1) (asI (rise c n n)) := Own.sl (by rw [vals_asI]; exact hO)
      rw [rise_asI] at hsl0
      obtain ⟨S, hS⟩ : ∃ S, again c n = S := ⟨_, rfl⟩
      have hcl : Closed S := by rw [← hS]; exact again_closed HC0.out
      have HAT : Bx (∀ p, p < n → S[p]? = some (c : Int)) := ⟨fun p hp => by rw [← hS, gs_some (by rw [again_len]; omega), again_at hp]⟩
      have HLA : Bx (S[n]? = some (0 : Int)) := ⟨by rw [← hS, gs_some (by rw [again_len]; omega), again_last]⟩
      have HTU : Bx (∀ l, Turned S l → l = S) := ⟨fun l t => by rw [← hS] at t ⊢; exact again_turned HC0.out t⟩
      rw [hS] at hsl0
      have HCL := Bx.mk hcl
      have HCr := Bx.mk (HCa.out.trans hC (S := fun _ => False) (fun i hi (e : i = H) => by have := HH.out; omega))
      have htu := turn_any S (some ⟨H, 0, none⟩) (n + 1) (n + 1) wr hsl0 (by omega)
      have HSL := Bx.mk hsl0
      clear hO hC hS hcl hsl0 hkn
      go_wp2_with fail
      refine htu.mono ?_
      rintro e w3 ⟨A4, c4, m, ec, l, rfl, hS3, hr, hC3⟩
      obtain ⟨rfl, rfl, hT⟩ := tres_ok hr (by omega) HCL.out
      obtain rfl := HTU.out l hT
      have hbk := back_any l A4 (n + 1) c4 w3 hS3 (by omega)
      have HS3 := Bx.mk hS3
      have HT := Bx.mk hT
      have HSA := Bx.mk (HSL.out.ch hC3 (fun _ _ _ h => h))
      have HC3 := Bx.mk (HCr.out.trans hC3 (fun _ _ h => h))
      clear hS3 hr hT hC3 htu HSL HCr
      go_wp2_with fail
      refine hbk.mono ?_
      rintro e w4 ⟨A5, c5, m2, ec, u, rfl, hS4, hr, hC4⟩
      obtain ⟨rfl, rfl, rfl⟩ := bres_ok hr (by omega) HT.out
      have HSB := Bx.mk (HSA.out.ch hC4 (fun _ _ _ h => h))
      have HS5 := Bx.mk (HS3.out.ch hC4 (fun _ _ _ h => h))
      have hin := ints6_yes u A5 (some ⟨H, 0, none⟩) (n + 1) c5 (n + 1) w4 hS4 HSB.out (by omega)
      have HC4 := Bx.mk (HC3.out.trans hC4 (fun _ _ h => h))
      have hnn : (((n : Int) + 1) != ((n : Int) + 1)) = false := by simp
      clear hS4 hr hC4 hbk HSA HS3 HC3
      go_wp2_with fail
      refine hin.mono ?_
      rintro e w5 ⟨rfl, hC5⟩
      have HS6 := Bx.mk (HS5.out.ch hC5 (fun _ _ _ h => h))
      have HC5 := Bx.mk (HC4.out.trans hC5 (fun _ _ h => h))
      clear hC5 hin HSB HS5 HC4 hnn
      go_wp2_with fail
      go_loop [11] (fun i => ∃ k : Nat, k ≤ n ∧ i = .int .i64 k) (fun i => n - (intOf i).toNat)
      case atStart => exact ⟨0, Nat.zero_le _, rfl⟩
      case round =>
        obtain ⟨q, hq, rfl⟩ := hrel
        by_cases hqn : q < n
        · have dq : decide ((q : Int) < (n : Int)) = true := by simp; omega
          obtain ⟨b1, o1, x, rfl, _, hx, hcx⟩ := HS6.out.at_ (k := q) (by omega)
          obtain rfl : x = (c : Int) := Option.some.inj (hx.out.symm.trans (HAT.out q hqn))
          have i1 : (0 : Int) ≤ (q : Int) := by omega
          have i2 : (q : Int) < (n : Int) + 1 := by omega
          have hcc : ((c : Int) != (c : Int)) = false := by simp
          clear hx
          go_wp2
          go_round
          case rel => exact ⟨q + 1, by omega, by go_num⟩
          case measure => simp [intOf]; omega
        · have dq : decide ((q : Int) < (n : Int)) = false := by simp; omega
          obtain ⟨b1, o1, x, rfl, _, hx, hcx⟩ := HS6.out.at_ (k := n) (by omega)
          obtain rfl : x = 0 := Option.some.inj (hx.out.symm.trans HLA.out)
          have i1 : (0 : Int) ≤ (n : Int) := by omega
          have i2 : (n : Int) < (n : Int) + 1 := by omega
          clear hx
          go_wp2_with fail
          refine (known_any w5).mono ?_
          rintro e w6 ⟨rfl, hC6⟩
          have HC6 := Bx.mk (HC5.out.trans hC6 (fun _ _ h => h))
          clear hC6
          go_wp2
          go_ret
          exact ⟨rfl, HC6.out⟩
end
end Go.Proofs.Ytgboobjmafdieaa
