/-
  The law's matches: are two rows of places the same?
  Conditions: the rows read as they say.
-/
import Derived.Test.YtanhnaohmaepoaaOpW
import Derived.BigQuiet
namespace Go.Proofs.Ytanhnaohmaepoaa
open Go.RowKit Go.Oct Go.Su Go.Sg Go.Om

section
variable {F G : Nat → Prop}
set_option maxHeartbeats 1000000 in
theorem lawmatches_any (a b : List (Key × Int)) (A B : Option Addr) (n m c d : Nat) (w : World) (hz : Mts w F A n a) (hy : Mts w G B m b) (hn : n ≤ 9223372036854775806) (o : Bool) (ho : decide (a = b) = o) :
    Calls Try.prog 22 #[.slice A n c, .slice B m d] w fun e w' => e = .returned (.bool o) ∧ ∃ q, w' = w.drewN q := by
  have HL : Bx (a.length = n) := ⟨Ro.len hz⟩
  have HM : Bx (b.length = m) := ⟨Ro.len hy⟩
  have HZ := Bx.mk hz
  have HY := Bx.mk hy
  have HO := Bx.mk ho
  clear hz hy ho
  by_cases hnm : n = m
  · subst hnm
    have e0 : ((n : Int) != (n : Int)) = false := by simp
    go_enter Try.func22, Try.ntmps22
    go_wp2_with fail
    go_loopw [5] (fun i wr => ∃ k q : Nat, k ≤ n ∧ i = .int .i64 k ∧ wr = w.drewN q ∧ Bx (a.take k = b.take k)) (fun i _ => n - (intOf i).toNat)
    case atStart => exact ⟨0, 0, Nat.zero_le _, rfl, rfl, ⟨rfl⟩⟩
    case round =>
      obtain ⟨k, q, hk, rfl, rfl, hT⟩ := hrel
      by_cases hkn : k < n
      · have dk : decide ((k : Int) < (n : Int)) = true := decide_eq_true (by omega)
        have i1 : (k : Int) < (n : Int) := by omega
        obtain ⟨b1, o1, x, rfl, _, hx, hcx, hcx2⟩ := HZ.out.get hkn
        obtain ⟨b2, o2, y, rfl, _, hy, hcy, hcy2⟩ := HY.out.get hkn
        obtain ⟨SX, hSX⟩ : ∃ S : ByteArray, (⟨x.1.toArray⟩ : ByteArray) = S := ⟨_, rfl⟩
        obtain ⟨SY, hSY⟩ : ∃ S : ByteArray, (⟨y.1.toArray⟩ : ByteArray) = S := ⟨_, rfl⟩
        have hkx : kv x.1 = .string SX := by unfold kv; rw [hSX]
        have hky : kv y.1 = .string SY := by unfold kv; rw [hSY]
        have hsq : (SX.toList == SY.toList) = decide (x.1 = y.1) := by rw [← hSX, ← hSY]; exact str_beq x.1 y.1
        rw [hkx] at hcx
        rw [hky] at hcy
        have HX := Bx.mk hx.out
        have HYY := Bx.mk hy.out
        have HTX := Bx.mk (Oct.take_more hx.out)
        have HTY := Bx.mk (Oct.take_more hy.out)
        obtain ⟨px, hpx⟩ : ∃ p, x.2 = p := ⟨_, rfl⟩
        obtain ⟨py, hpy⟩ : ∃ p, y.2 = p := ⟨_, rfl⟩
        rw [hpx] at hcx2
        rw [hpy] at hcy2
        have HPX := Bx.mk hpx
        have HPY := Bx.mk hpy
        clear hx hy hkx hky hSX hSY hpx hpy
        by_cases hxy : x = y
        · have e1 : (SX.toList == SY.toList) = true := by rw [hsq, hxy]; simp
          have e2 : ((px : Int) == (py : Int)) = true := by rw [← HPX.out, ← HPY.out, hxy]; simp
          have HN : Bx (a.take (k + 1) = b.take (k + 1)) := ⟨by rw [HTX.out, HTY.out, hT.out, hxy]⟩
          clear hsq hxy
          go_wp2_with fail
          go_quiet (fail)
          go_wp2_with fail
          go_roundw
          case rel => exact ⟨k + 1, q + nq, by omega, by go_num, rfl, HN⟩
          case measure => simp [intOf]; omega
        · have HN : Bx (false = o) := ⟨by
            rw [← HO.out]
            symm
            refine decide_eq_false fun h => hxy ?_
            have h1 := HX.out
            rw [h, HYY.out] at h1
            injection h1 with h1
            exact h1.symm⟩
          have e3 : x.1 = y.1 → ((px : Int) == (py : Int)) = false := fun h => beq_false_of_ne fun e => hxy (Prod.ext h (by rw [HPX.out, HPY.out]; omega))
          by_cases h1 : x.1 = y.1
          · have e1 : (SX.toList == SY.toList) = true := by rw [hsq]; simpa using h1
            have e2 := e3 h1
            clear hsq hxy e3 h1
            go_wp2_with fail
            go_quiet (fail)
            go_wp2_with fail
            go_ret
            exact ⟨ret_bool HN.out, q + nq, by rw [World.drewN_drewN]⟩
          · have e1 : (SX.toList == SY.toList) = false := by rw [hsq]; simpa using h1
            clear hsq hxy e3 h1
            go_wp2_with fail
            go_quiet (fail)
            go_wp2_with fail
            go_ret
            exact ⟨ret_bool HN.out, q + nq, by rw [World.drewN_drewN]⟩
      · obtain rfl : n = k := by omega
        have dk : decide ((n : Int) < (n : Int)) = false := decide_eq_false (by omega)
        have HN : Bx (true = o) := ⟨by
          rw [← HO.out]
          symm
          refine decide_eq_true ?_
          have h := hT.out
          rwa [List.take_of_length_le (Nat.le_of_eq HL.out), List.take_of_length_le (Nat.le_of_eq HM.out)] at h⟩
        clear hT
        go_wp2_with fail
        go_ret
        exact ⟨ret_bool HN.out, q, rfl⟩
  · have e0 : ((n : Int) != (m : Int)) = true := by simp; omega
    have HN : Bx (false = o) := ⟨by
      rw [← HO.out]
      symm
      exact decide_eq_false fun h => hnm (by rw [← HL.out, ← HM.out, h])⟩
    go_enter Try.func22, Try.ntmps22
    go_wp2_with fail
    go_ret
    exact ⟨ret_bool HN.out, 0, rfl⟩
end
end Go.Proofs.Ytanhnaohmaepoaa
