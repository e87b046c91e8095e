/-
  The contracts of math/bits.OnesCount64, math/bits.TrailingZeros64 and bits.place.
-/
import Derived.Test.YtbckiefkppgipaaDoorOcWords
import Derived.Test.YtbckiefkppgipaaDoorBiMath
import Derived.Test.YtbckiefkppgipaaDoorProg
import Derived.Shelf.Spec.TrailingZeros
import Derived.Deep.QuietTactic
import Derived.BigQuiet
import Derived.Outline
import Derived.Lib.Hide
import Derived.Handy
namespace Go.Proofs.YtbckiefkppgipaaDoor
open Go.RowKit Go.Oct Go.Bi

/-- A fact that no assumption looks into. -/
structure Bx (p : Prop) : Prop where
  out : p

theorem ret_int {k : IntKind} {a b : Int} (h : a = b) : Ending.returned (.int k a) = .returned (.int k b) := by rw [h]
theorem ret_bool {a b : Bool} (h : a = b) : Ending.returned (.bool a) = .returned (.bool b) := by rw [h]
theorem and_nat {a b c : Nat} (h : a &&& b = c) (ha : a < 18446744073709551616) (hb : b < 18446744073709551616) : bits .and .u64 (a : Int) (b : Int) = (c : Int) := by rw [bits_and_u64_nat a b ha hb, h]
theorem and127 (a : Nat) (ha : a < 9223372036854775808) : bits .and .i64 (a : Int) 127 = ((a % 128 : Nat) : Int) := by
  have hx : a &&& 127 = a % 128 := Nat.and_two_pow_sub_one_eq_mod a 7
  have h1 : (BitVec.ofInt 64 (a : Int)).toNat = a := by
    rw [BitVec.ofInt_natCast, BitVec.toNat_ofNat]; exact Nat.mod_eq_of_lt (by omega)
  have h2 : (BitVec.ofInt 64 (127 : Int)).toNat = 127 := by decide
  show IntKind.i64.wrap ((BitVec.ofInt 64 (a : Int) &&& BitVec.ofInt 64 (127 : Int)).toNat : Int) = _
  rw [BitVec.toNat_and, h1, h2, hx]
  simp [IntKind.wrap, IntKind.signed, IntKind.bits]
  omega

set_option maxHeartbeats 400000 in
set_option maxRecDepth 100000 in
theorem ones_word (x : Nat) (w : World) (hx : x < 18446744073709551616) :
    Calls Tryd.prog 38 #[.int .u64 x] w fun e w' => e = .returned (.int .i64 (pop 64 x : Nat)) ∧ w = w' := by
  obtain ⟨a1, b1, a2, b2, z, h1, h2, h3, h4, h5, l1, l2, l3, l4, l5, hp⟩ := swar x
  have HP := Lib.hid hp
  have e1 : bits .and .u64 ((x : Int) / 2) 6148914691236517205 = (a1 : Int) := and_nat (a := x / 2) (b := 6148914691236517205) h1 (by omega) (by omega)
  have e2 : bits .and .u64 (x : Int) 6148914691236517205 = (b1 : Int) := and_nat (a := x) (b := 6148914691236517205) h2 (by omega) (by omega)
  have e3 : bits .and .u64 (((a1 : Int) + (b1 : Int)) / 4) 3689348814741910323 = (a2 : Int) := and_nat (a := (a1 + b1) / 4) (b := 3689348814741910323) h3 (by omega) (by omega)
  have e4 : bits .and .u64 ((a1 : Int) + (b1 : Int)) 3689348814741910323 = (b2 : Int) := and_nat (a := a1 + b1) (b := 3689348814741910323) h4 (by omega) (by omega)
  have e5 : bits .and .u64 (((a2 : Int) + (b2 : Int)) / 16 + ((a2 : Int) + (b2 : Int))) 1085102592571150095 = (z : Int) := and_nat (a := (a2 + b2) / 16 + (a2 + b2)) (b := 1085102592571150095) h5 (by omega) (by omega)
  clear h1 h2 h3 h4 h5 hp
  go_enter Tryd.func38, Tryd.ntmps38
  go_wp2
  go_ret
  refine ⟨ret_int ?_, rfl⟩
  exact (and127 (z + z / 256 + (z + z / 256) / 65536 + (z + z / 256 + (z + z / 256) / 65536) / 4294967296) (by omega)).trans (congrArg Int.ofNat HP.out)

theorem ones_is (x p : Nat) (w : World) (hx : x < 18446744073709551616) (hp : pop 64 x = p) :
    Calls Tryd.prog 38 #[.int .u64 x] w fun e w' => e = .returned (.int .i64 p) ∧ w = w' := by
  subst hp
  exact ones_word x w hx

/-- The library's table stands. -/
abbrev Tab (w : World) : Prop := TabAt 0 Lib.deBruijn64tab w

theorem tz_zero (w : World) : Calls Tryd.prog 45 #[.int .u64 0] w fun e w' => e = .returned (.int .i64 64) ∧ w = w' := by
  go_enter Tryd.func45, Tryd.ntmps45
  go_wp2
  go_ret
  exact ⟨rfl, rfl⟩
set_option maxHeartbeats 400000 in
theorem tz_core (x k idx : Nat) (w : World) (hx0 : ((x : Int) == 0) = false)
    (key : IntKind.u64.wrap (bits BinOp.and IntKind.u64 (x : Int) (IntKind.u64.wrap (-(x : Int))) * 285870213051353865) / 288230376151711744 = (idx : Int))
    (hi : idx < 64) (hk : k < 64) (hcell : w.cell? ⟨0, idx, none⟩ = some (.int .u8 k)) :
    Calls Tryd.prog 45 #[.int .u64 x] w fun e w' => e = .returned (.int .i64 k) ∧ w = w' := by
  go_enter Tryd.func45, Tryd.ntmps45
  go_wp2_with (simp only [key])
  go_ret
  exact ⟨rfl, rfl⟩
theorem tz_any (x : Nat) (w : World) (hx0 : x ≠ 0) (hx : x < 18446744073709551616) (hT : Tab w) :
    Calls Tryd.prog 45 #[.int .u64 x] w fun e w' => e = .returned (.int .i64 (Lib.ctz 64 x)) ∧ w = w' := by
  obtain ⟨hlow, hk⟩ := Lib.lowest_bit 64 x hx0 hx
  obtain ⟨hi, htab⟩ := Lib.deBruijn64_at _ hk
  have hcell := hT _ hi
  rw [htab] at hcell
  exact tz_core x _ _ w (by simp; omega) (tz64_key x _ hx hx0 hlow) hi hk hcell

/-- What place leaves. -/
def PlacePost (x k : Nat) (w : World) (e : Ending) (w' : World) : Prop := ∃ i : Nat, e = .returned (.int .i64 i) ∧ At1 x k i ∧ i < 64 ∧ w = w'
/-- k ones taken away. -/
def Gone (x y j : Nat) : Prop := y < 18446744073709551616 ∧ pop 64 x = pop 64 y + j ∧ ∀ m i, At1 y m i → At1 x (m + j) i
theorem gone_zero {x : Nat} (h : x < 18446744073709551616) : Gone x x 0 := ⟨h, (Nat.add_zero _).symm, fun _ _ h => h⟩
theorem gone_next {x y j : Nat} (h : Gone x y j) (h0 : y ≠ 0) : Gone x (y &&& (y - 1)) (j + 1) := by
  obtain ⟨h1, h2, h3⟩ := h
  obtain ⟨g1, g2⟩ := clear_low 64 y h1 h0
  exact ⟨Nat.lt_of_le_of_lt Nat.and_le_left h1, by omega, fun m i hi => by
    have := h3 _ _ (g2 _ _ hi)
    rwa [show m + (j + 1) = m + 1 + j by omega]⟩

set_option maxHeartbeats 400000 in
set_option maxRecDepth 100000 in
theorem place_any (x k : Nat) (w : World) (hx : x < 18446744073709551616) (hk : k < pop 64 x) (hT : Tab w) :
    Calls Tryd.prog 44 #[.int .u64 x, .int .i64 k] w (PlacePost x k w) := by
  have HT := Lib.hid hT
  have h64 := pop_le 64 x
  have HK := Lib.hid hk
  have hk64 : k < 64 := by omega
  clear hT hk h64
  go_enter Tryd.func44, Tryd.ntmps44
  go_wp2
  go_loop [0, 6] (fun y i => ∃ j z : Nat, j ≤ k ∧ i = .int .i64 j ∧ y = .int .u64 z ∧ Gone x z j) (fun _ i => k - (intOf i).toNat)
  case atStart => exact ⟨0, x, Nat.zero_le _, rfl, rfl, gone_zero hx⟩
  case round =>
    obtain ⟨j, z, hj, rfl, rfl, hg⟩ := hrel
    have hz0 : z ≠ 0 := by
      rintro rfl
      have := hg.2.1
      have := HK.out
      rw [pop_zero] at *
      omega
    have hz64 := hg.1
    by_cases hlt : j < k
    · have hg2 := gone_next hg hz0
      have HG := Lib.hid hg2
      obtain ⟨y, hy⟩ : ∃ y, y = z &&& (z - 1) := ⟨_, rfl⟩
      rw [← hy] at HG
      have e : bits .and .u64 (z : Int) ((z : Int) - 1) = (y : Int) := by
        have := and_nat (a := z) (b := z - 1) hy.symm hz64 (by omega)
        rwa [show ((z - 1 : Nat) : Int) = (z : Int) - 1 by omega] at this
      clear hg hg2 hy
      have hz1 : 1 ≤ z := by omega
      go_wp2
      go_round
      case rel => exact ⟨j + 1, y, by omega, by go_num, rfl, HG.out⟩
      case measure => simp [intOf]; omega
    · obtain rfl : j = k := by omega
      obtain ⟨h1, h2⟩ := ctz_at64 hz0 hz64
      have h3 := hg.2.2 _ _ h1
      rw [Nat.zero_add] at h3
      have HA := Lib.hid h3
      clear h1 h3 hg
      go_wp2_with fail
      refine (tz_any z _ hz0 hz64 HT.out).mono ?_
      rintro e w' ⟨rfl, rfl⟩
      go_wp2
      go_ret
      exact ⟨_, rfl, HA.out, h2, rfl⟩

theorem at1_uniq {x k i j : Nat} (h : At1 x k i) (g : At1 x k j) : i = j := by
  have key : ∀ i j, At1 x k i → At1 x k j → ¬ i < j := fun i j h g hlt => by
    have := pop_mono x (a := i + 1) (b := j) (by omega)
    rw [pop_succ, h.1, h.2, g.2] at this
    simp at this
    omega
  have := key i j h g
  have := key j i g h
  omega
theorem at1_ex (x k : Nat) : ∀ n, k < pop n x → ∃ i, At1 x k i ∧ i < n
  | 0, h => by simp [pop] at h
  | n + 1, h => by
    rw [pop_succ] at h
    by_cases hk : k < pop n x
    · obtain ⟨i, h1, h2⟩ := at1_ex x k n hk
      exact ⟨i, h1, by omega⟩
    · cases hb : x.testBit n
      · rw [hb] at h
        simp at h
        omega
      · rw [hb] at h
        simp at h
        exact ⟨n, ⟨hb, by omega⟩, by omega⟩
/-- The place of the 1 that has k ahead of it. -/
noncomputable def plN (x k : Nat) : Nat := @dite _ (∃ i, At1 x k i ∧ i < 64) (Classical.propDecidable _) (fun h => Classical.choose h) (fun _ => 0)
theorem plN_spec {x k : Nat} (hk : k < pop 64 x) : At1 x k (plN x k) ∧ plN x k < 64 := by
  have h := at1_ex x k 64 hk
  unfold plN
  rw [dif_pos h]
  exact Classical.choose_spec h
theorem place_quiet (x k : Nat) (w : World) (n : Nat) (hx : x < 18446744073709551616) (hk : k < pop 64 x) (hT : Tab (w.drewN n)) :
    Calls Tryd.prog 44 #[.int .u64 x, .int .i64 k] (w.drewN n) fun e w' => e = .returned (.int .i64 (plN x k)) ∧ ∃ m, w' = w.drewN m :=
  Calls.quiet_of_same ((place_any x k (w.drewN n) hx hk hT).mono fun _ _ h => by
    obtain ⟨i, h1, h2, _, h4⟩ := h
    rw [h1, at1_uniq h2 (plN_spec hk).1]
    exact ⟨rfl, h4.symm⟩)
end Go.Proofs.YtbckiefkppgipaaDoor
