/-
  The contract of the statements' own helper haystacklaw7.ints.
-/
import Derived.Test.YtckkjccjkdidjaaGreatDoorSuA
namespace Go.Proofs.YtckkjccjkdidjaaGreatDoor
open Go.RowKit Go.Oct Go.Su
section
variable {F : Nat → Prop}
/-- Two slices of the same numbers. -/
theorem ints7_yes {G : Nat → Prop} (xs : List Int) (A A' : Option Addr) (n c c' : Nat) (w : World) (hx : Sl w F .i64 A n xs) (hy : Sl w G .i64 A' n xs) (hn : n ≤ 1048576) :
    Calls Tryz.prog 23 #[.slice A n c, .slice A' n c'] w fun e w' => e = .returned (.bool true) ∧ Ch (fun _ => False) w w' := by
  have HX := Bx.mk hx
  have HY := Bx.mk hy
  have hnn : ((n : Int) != (n : Int)) = false := by simp
  clear hx hy
  go_enter Tryz.func23, Tryz.ntmps23
  go_wp2
  go_loopw [5] (fun i wr => ∃ k m : Nat, k ≤ n ∧ i = .int .i64 k ∧ wr = w.drewN m) (fun i _ => n - (intOf i).toNat)
  case atStart => exact ⟨0, 0, Nat.zero_le _, rfl, rfl⟩
  case round =>
    obtain ⟨k, m, hk, rfl, rfl⟩ := hrel
    by_cases hlt : k < n
    · obtain ⟨b, off, x, rfl, _, ex, hc⟩ := HX.out.at_ hlt
      obtain ⟨b', off', y, rfl, _, ey, hc'⟩ := HY.out.at_ hlt
      obtain rfl : x = y := Option.some.inj (ex.out.symm.trans ey.out)
      have hb : (x != x) = false := by simp
      clear ex ey
      go_wp2
      go_quiet (fail)
      go_wp2
      go_roundw
      case rel => exact ⟨k + 1, _, by omega, by go_num, rfl⟩
      case measure => simp [intOf]; omega
    · go_wp2
      go_ret
      exact ⟨rfl, (Ch.refl _ w).drewN m⟩
/-- Two slices of other numbers. -/
theorem ints7_no {G : Nat → Prop} (xs ys : List Int) (A A' : Option Addr) (n m c c' : Nat) (w : World) (hx : Sl w F .i64 A n xs) (hy : Sl w G .i64 A' m ys) (hn : n ≤ 1048576) (hne : xs ≠ ys) :
    Calls Tryz.prog 23 #[.slice A n c, .slice A' m c'] w fun e w' => e = .returned (.bool false) ∧ Ch (fun _ => False) w w' := by
  by_cases hnm : n = m
  · subst hnm
    have HX := Bx.mk hx
    have HY := Bx.mk hy
    have HNE := Bx.mk hne
    have hnn : ((n : Int) != (n : Int)) = false := by simp
    clear hx hy hne
    go_enter Tryz.func23, Tryz.ntmps23
    go_wp2
    go_loopw [5] (fun i wr => ∃ k m : Nat, k ≤ n ∧ i = .int .i64 k ∧ Bx (xs.take k = ys.take k) ∧ wr = w.drewN m) (fun i _ => n - (intOf i).toNat)
    case atStart => exact ⟨0, 0, Nat.zero_le _, rfl, ⟨rfl⟩, rfl⟩
    case round =>
      obtain ⟨k, m, hk, rfl, hT, rfl⟩ := hrel
      by_cases hlt : k < n
      · obtain ⟨b, off, x, rfl, _, ex, hc⟩ := HX.out.at_ hlt
        obtain ⟨b', off', y, rfl, _, ey, hc'⟩ := HY.out.at_ hlt
        by_cases hxy : x = y
        · subst hxy
          have hb : (x != x) = false := by simp
          have HT2 : Bx (xs.take (k + 1) = ys.take (k + 1)) := ⟨by rw [List.take_add_one, List.take_add_one, hT.out, ex.out, ey.out]⟩
          clear ex ey hT
          go_wp2
          go_quiet (fail)
          go_wp2
          go_roundw
          case rel => exact ⟨k + 1, _, by omega, by go_num, HT2, rfl⟩
          case measure => simp [intOf]; omega
        · have hb : (x != y) = true := by simpa using hxy
          clear ex ey hT hxy
          go_wp2
          go_quiet (fail)
          go_wp2
          go_ret
          exact ⟨rfl, by first | exact (Ch.refl _ w).drewN _ | exact ((Ch.refl _ w).drewN _).drewN _⟩
      · have h1 := hT.out
        rw [List.take_of_length_le (by rw [HX.out.len]; omega), List.take_of_length_le (by rw [HY.out.len]; omega)] at h1
        exact absurd h1 HNE.out
  · have hb : ((n : Int) != (m : Int)) = true := by simp; omega
    clear hx hy hne hnm
    go_enter Tryz.func23, Tryz.ntmps23
    go_wp2
    go_ret
    exact ⟨rfl, Ch.refl _ _⟩
end
end Go.Proofs.YtckkjccjkdidjaaGreatDoor
