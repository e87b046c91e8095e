/-
  The contract of slices.rotateCmpFunc: two neighbouring ranges of a row of the call's own, the other way about.
  Conditions: the row is the call's own; the places lie within it.
-/
import Derived.Test.YtgboobjmafdieaaBwSymRow
namespace Go.Proofs.Ytgboobjmafdieaa
open Go.RowKit Go.Oct Go.Su

set_option maxHeartbeats 1000000 in
theorem rotate_any (g n a m b : Nat) (f : Nat → Nat) (cmp : Value) (w : World) (hO : Rw w g n f) (hn : n ≤ 1048576) (ham : a < m) (hmb : m < b) (hb : b ≤ n) :
    Calls Try.prog 51 #[.slice (some ⟨g, 0, none⟩) n n, .int .i64 a, .int .i64 m, .int .i64 b, cmp] w (Row1 g n (fun f' => f' = rotn f a m b) w) := by
  have HO := Bx.mk hO
  clear hO
  go_enter Try.func51, Try.ntmps51
  go_wp2_with fail
  go_loopw [10, 11] (fun x y wr => ∃ (i j : Nat) (f' : Nat → Nat), x = .int .i64 i ∧ y = .int .i64 j ∧ 0 < i ∧ 0 < j ∧ a + i ≤ m ∧ m + j ≤ b ∧ Bx (rotn f' (m - i) m (m + j) = rotn f a m b) ∧ Rw wr g n f' ∧ Ch (fun b => b = g) w wr) (fun x y _ => (intOf x).toNat + (intOf y).toNat)
  case atStart => exact ⟨m - a, b - m, f, by rw [show ((m - a : Nat) : Int) = (m : Int) - (a : Int) by omega], by rw [show ((b - m : Nat) : Int) = (b : Int) - (m : Int) by omega], by omega, by omega, by omega, by omega, ⟨by rw [show m - (m - a) = a by omega, show m + (b - m) = b by omega]⟩, HO.out, Ch.refl _ _⟩
  case round =>
    obtain ⟨i, j, f', rfl, rfl, hi, hj, hai, hbj, hR, hO, hC⟩ := hrel
    have HO := Bx.mk hO
    have HC := Bx.mk hC
    clear hO hC
    have e1 : (m : Int) - (i : Int) = ((m - i : Nat) : Int) := by omega
    rcases Nat.lt_trichotomy i j with h | h | h
    · have d1 : ((i : Int) != (j : Int)) = true := by simp; omega
      have d2 : decide ((j : Int) < (i : Int)) = false := by simp; omega
      have e2 : (m : Int) + (j : Int) - (i : Int) = ((m + j - i : Nat) : Int) := by omega
      have hsw := swaprange_any g n (m - i) (m + j - i) i f' cmp wr HO.out hn (by omega) (by omega)
      rw [← e1, ← e2] at hsw
      have HR : Bx (rotn (swr f' (m - i) (m + j - i) i) (m - i) m (m + (j - i)) = rotn f a m b) := ⟨by rw [rot_right h (by omega)]; exact hR.out⟩
      have HSW := Bx.mk hsw
      clear hsw hR e1 e2
      go_wp2_with fail
      refine HSW.out.mono ?_
      rintro e w2 ⟨rfl, f2, rfl, hO2, hC2⟩
      have HO2 := Bx.mk hO2
      have HC2 := Bx.mk (HC.out.trans hC2 (fun _ _ h => h))
      clear hO2 hC2 HSW
      go_wp2
      go_roundw
      case rel => exact ⟨i, j - i, _, rfl, by rw [show ((j - i : Nat) : Int) = (j : Int) - (i : Int) by omega], by omega, by omega, by omega, by omega, HR, HO2.out, HC2.out⟩
      case measure => simp [intOf]; omega
    · subst h
      have d1 : ((i : Int) != (i : Int)) = false := by simp
      have hsw := swaprange_any g n (m - i) m i f' cmp wr HO.out hn (by omega) (by omega)
      rw [← e1] at hsw
      have HR : Bx (swr f' (m - i) m i = rotn f a m b) := ⟨by rw [rot_end (by omega)]; exact hR.out⟩
      have HSW := Bx.mk hsw
      clear hsw hR e1
      go_wp2_with fail
      refine HSW.out.mono ?_
      rintro e w2 ⟨rfl, f2, rfl, hO2, hC2⟩
      have HO2 := Bx.mk hO2
      have HC2 := Bx.mk (HC.out.trans hC2 (fun _ _ h => h))
      clear hO2 hC2 HSW
      go_wp2
      go_returns
      exact ⟨rfl, _, HR.out, HO2.out, HC2.out⟩
    · have d1 : ((i : Int) != (j : Int)) = true := by simp; omega
      have d2 : decide ((j : Int) < (i : Int)) = true := by simp; omega
      have hsw := swaprange_any g n (m - i) m j f' cmp wr HO.out hn (by omega) (by omega)
      rw [← e1] at hsw
      have HR : Bx (rotn (swr f' (m - i) m j) (m - (i - j)) m (m + j) = rotn f a m b) := ⟨by rw [rot_left h (by omega)]; exact hR.out⟩
      have HSW := Bx.mk hsw
      clear hsw hR e1
      go_wp2_with fail
      refine HSW.out.mono ?_
      rintro e w2 ⟨rfl, f2, rfl, hO2, hC2⟩
      have HO2 := Bx.mk hO2
      have HC2 := Bx.mk (HC.out.trans hC2 (fun _ _ h => h))
      clear hO2 hC2 HSW
      go_wp2
      go_roundw
      case rel => exact ⟨i - j, j, _, by rw [show ((i - j : Nat) : Int) = (i : Int) - (j : Int) by omega], rfl, by omega, by omega, by omega, by omega, HR, HO2.out, HC2.out⟩
      case measure => simp [intOf]; omega
end Go.Proofs.Ytgboobjmafdieaa
