/-
  The contract of haystackref1.Sum.
-/
import Derived.Test.YtppplchllnalpaaDoorOcCrc
import Derived.Test.YtppplchllnalpaaDoorOcSum
namespace Go.Proofs.YtppplchllnalpaaDoor
open Go.RowKit Go.Oct

theorem u32_and1 (a : Nat) (ha : a < 4294967296) : bits .and .u32 (a : Int) 1 = ((a % 2 : Nat) : Int) := by
  show IntKind.u32.wrap ((BitVec.ofInt 32 (a : Int) &&& BitVec.ofInt 32 ((1 : Nat) : Int)).toNat : Int) = _
  rw [BitVec.toNat_and, ofInt_u32 a ha, ofInt_u32 1 (by omega), IntKind.wrap_u32, Nat.and_one_is_mod]
  omega

set_option maxHeartbeats 1000000 in
set_option maxRecDepth 100000 in
theorem refsum_any (xs : List Int) (A : Option Addr) (n c : Nat) (w : World) (F : Nat → Prop) (hn : n ≤ 100000000000000) (hz : Sl w F .u8 A n xs) (hby : Byt xs) :
    Calls Tryd.prog 39 #[.slice A n c] w fun e w' => e = .returned (.int .u32 (sumN xs : Nat)) ∧ w = w' := by
  have HB := Lib.hid hby
  clear hby
  go_enter Tryd.func39, Tryd.ntmps39
  go_wp2
  go_loop [3, 4] (fun s i => ∃ k : Nat, k ≤ n ∧ i = .int .i64 k ∧ ∃ t : Nat, t < 4294967296 ∧ s = .int .u32 t ∧ t = sumFrom 4294967295 (xs.take k)) (fun _ i => n - (intOf i).toNat)
  case atStart => exact ⟨0, Nat.zero_le _, rfl, _, by decide, rfl, rfl⟩
  case round =>
    obtain ⟨k, hk, rfl, t, ht1, rfl, hrel⟩ := hrel
    have HR := Lib.hid hrel
    clear hrel
    by_cases hlt : k < n
    · obtain ⟨b, off, x, rfl, _, ex, hc⟩ := hz.at_ hlt
      have hx := HB.out.at_ ex.out
      obtain ⟨x, rfl⟩ : ∃ y : Nat, x = (y : Int) := ⟨x.toNat, by omega⟩
      obtain ⟨y, ey⟩ : ∃ y, y = t ^^^ x := ⟨_, rfl⟩
      have h1 : bits .xor .u32 (t : Int) (x : Int) = (y : Int) := by rw [u32_xor t x ht1 (by omega), ey]
      have hy : y < 4294967296 := by rw [ey]; exact xor_lt32 ht1 (by omega)
      have hfin : bitsN 8 y = sumFrom 4294967295 (xs.take (k + 1)) := by rw [ey, eight_bits, sumFrom_more _ ex.out, ← HR.out]; simp
      have HF := Lib.hid hfin
      clear hfin ey
      go_wp2
      go_loop [3, 5] (fun s i => ∃ j : Nat, j ≤ 8 ∧ i = .int .i64 j ∧ ∃ u : Nat, u < 4294967296 ∧ s = .int .u32 u ∧ u = bitsN j y) (fun _ i => 8 - (intOf i).toNat)
      case atStart => exact ⟨0, Nat.zero_le _, rfl, _, hy, rfl, rfl⟩
      case round =>
        obtain ⟨j, hj, rfl, u, hu, rfl, hrel⟩ := hrel
        have HU := Lib.hid hrel
        clear hrel h1
        by_cases hlt8 : j < 8
        · have hm : u % 2 = 0 ∨ u % 2 = 1 := by omega
          rcases hm with hm | hm
          · have h1 : bits .and .u32 (u : Int) 1 = 0 := by rw [u32_and1 u hu, hm]; rfl
            have hst : u / 2 = bitsN (j + 1) y := by
              rw [bitsN_more, ← HU.out]
              unfold bitStep
              rw [if_neg (by omega)]
            have HS := Lib.hid hst
            clear hst hm
            go_wp2
            exact ⟨⟨j + 1, by omega, by go_num, u / 2, by omega, by go_num, HS.out⟩, by simp [intOf]; omega⟩
          · have h1 : bits .and .u32 (u : Int) 1 = 1 := by rw [u32_and1 u hu, hm]; rfl
            obtain ⟨z, ez⟩ : ∃ z, z = (u / 2) ^^^ 3988292384 := ⟨_, rfl⟩
            have hz1 : z < 4294967296 := by rw [ez]; exact xor_lt32 (by omega) (by omega)
            have h2 : bits .xor .u32 ((u : Int) / 2) 3988292384 = (z : Int) := by
              rw [ez, ← u32_xor (u / 2) 3988292384 (by omega) (by omega)]
              simp
            have hst : z = bitsN (j + 1) y := by
              rw [bitsN_more, ← HU.out, ez]
              unfold bitStep
              rw [if_pos hm]
            have HS := Lib.hid hst
            clear hst hm ez
            go_wp2
            exact ⟨⟨j + 1, by omega, by go_num, z, hz1, rfl, HS.out⟩, by simp [intOf]; omega⟩
        · obtain rfl : j = 8 := by omega
          have HU2 : Hid (u = sumFrom 4294967295 (xs.take (k + 1))) := HU.out.trans HF.out
          go_wp2
          go_round
          case rel => exact ⟨k + 1, by omega, by go_num, u, hu, rfl, HU2.out⟩
          case measure => simp [intOf]; omega
    · obtain rfl : k = n := by omega
      go_wp2
      go_ret
      refine ⟨?_, rfl⟩
      show Ending.returned (.int .u32 (bits .xor .u32 IntKind.u32.max (t : Int))) = _
      rw [not_u32 t ht1]
      have hs := HR.out
      rw [List.take_of_length_le (by rw [hz.len]; omega)] at hs
      unfold sumN
      rw [← hs]
end Go.Proofs.YtppplchllnalpaaDoor
