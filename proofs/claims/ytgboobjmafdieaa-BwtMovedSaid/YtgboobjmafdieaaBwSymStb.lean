/-
  The contracts of slices.stableCmpFunc and SortStableFunc over a row of places that stand in their own order: sorted by symbols, those of one symbol in their own order.
  Conditions: the row is the call's own; the comparison holds symbols against each other.
-/
import Derived.Test.YtgboobjmafdieaaBwSymMrg
namespace Go.Proofs.Ytgboobjmafdieaa
open Go.RowKit Go.Oct Go.Su

set_option maxRecDepth 100000 in
set_option maxHeartbeats 8000000 in
theorem stablefn_any (l : List Int) (g n fc : Nat) (cb : Array Value) (f : Nat → Nat) (w : World) (hO : Rw w g n f) (hc : CmpOk l n g fc cb w) (hn : n ≤ 1048576) (hf : ∀ p, p < n → f p = p) (hl : l.length = n) :
    Calls Try.prog 42 #[.slice (some ⟨g, 0, none⟩) n n, .int .i64 n, .func (.func fc) #[] cb] w (Row1 g n (fun f' => Srt l (tb n f')) w) := by
  have HO := Bx.mk hO
  have HCM := Bx.mk hc
  have HI := Bx.mk (ins_start (l := l) (W := 20) hf)
  have HL := Bx.mk hl
  clear hO hc hf hl
  go_enter Try.func42, Try.ntmps42
  go_wp2_with fail
  go_loopw [7, 8] (fun x y wr => ∃ (a b : Nat) (f : Nat → Nat), x = .int .i64 a ∧ y = .int .i64 b ∧ Bx (b = a + 20) ∧ a ≤ n ∧ Bx (Ins l n 20 a f) ∧ Rw wr g n f ∧ Ch (fun b => b = g) w wr) (fun x _ _ => n - (intOf x).toNat)
  case atStart => exact ⟨0, 20, f, rfl, rfl, ⟨rfl⟩, Nat.zero_le _, HI, HO.out, Ch.refl _ _⟩
  case round =>
    obtain ⟨a, b, f1, rfl, rfl, HAB, han, hI, hO, hC⟩ := hrel
    have hab := HAB.out
    by_cases hbn : b ≤ n
    · have dk : decide ((b : Int) ≤ (n : Int)) = true := by simp; omega
      have hins := insertion_any l g n fc a b cb f1 wr hO (HCM.out.later hC) hn (by omega) hbn hI.out.lt (hI.out.rise hbn)
      have HC := Bx.mk hC
      have HINS := Bx.mk hins
      have hlt : a < b := by omega
      clear hO hC hins hab
      go_wp2_with fail
      refine HINS.out.mono ?_
      rintro e w2 ⟨rfl, f2, hq, hO2, hC2⟩
      have HIN := Bx.mk (hI.out.next (by have := HAB.out; omega) (by rw [← HAB.out]; exact hq))
      have HO2 := Bx.mk hO2
      have HC2 := Bx.mk (HC.out.trans hC2 (fun _ _ h => h))
      clear hO2 hC2 HINS hq
      go_wp2
      go_roundw
      case rel => exact ⟨b, b + 20, f2, rfl, by go_num, ⟨rfl⟩, hbn, by rw [HAB.out]; exact HIN, HO2.out, HC2.out⟩
      case measure => simp [intOf]; omega
    · have dk : decide ((b : Int) ≤ (n : Int)) = false := by simp; omega
      have hins := insertion_any l g n fc a n cb f1 wr hO (HCM.out.later hC) hn han (Nat.le_refl _) hI.out.lt (hI.out.rise (Nat.le_refl _))
      have HC := Bx.mk hC
      have HINS := Bx.mk hins
      have hlt : a < b := by omega
      clear hO hC hins hab
      go_wp2_with fail
      refine HINS.out.mono ?_
      rintro e w2 ⟨rfl, f2, hq, hO2, hC2⟩
      have HAL := Bx.mk (hI.out.last (by have := HAB.out; omega) hq han)
      have HO2 := Bx.mk hO2
      have HC2 := Bx.mk (HC.out.trans hC2 (fun _ _ h => h))
      have HCM2 := Bx.mk (HCM.out.later HC2.out)
      clear hO2 hC2 HINS hq hI han hbn dk HC HO HCM HI HAB
      go_wp2_with fail
      go_loopw [6, 7, 8, 9] (fun x _ _ _ wr => ∃ (W : Nat) (f : Nat → Nat), x = .int .i64 W ∧ 0 < W ∧ W ≤ 2097152 ∧ Bx (All l n W f) ∧ Rw wr g n f ∧ Ch (fun b => b = g) w2 wr) (fun x _ _ _ _ => n - (intOf x).toNat)
      case atStart => exact ⟨20, f2, rfl, by omega, by omega, HAL, HO2.out, Ch.refl _ _⟩
      case round =>
        obtain ⟨W, f3, rfl, hW0, hW, hA, hO, hC⟩ := hrel
        by_cases hWn : W < n
        · have dW : decide ((W : Int) < (n : Int)) = true := by simp; omega
          have HO3 := Bx.mk hO
          have HC3 := Bx.mk hC
          have HCM3 := Bx.mk (HCM2.out.later hC)
          have HH3 := Bx.mk hA.out.half
          obtain ⟨w3, rfl⟩ : ∃ w3 : World, w3 = wr := ⟨_, rfl⟩
          clear hO hC hA
          go_wp2_with fail
          go_loopw [7, 8] (fun x y wr => ∃ (a b : Nat) (f : Nat → Nat), x = .int .i64 a ∧ y = .int .i64 b ∧ Bx (b = a + 2 * W) ∧ a ≤ n ∧ Bx (Half l n W a f) ∧ Rw wr g n f ∧ Ch (fun b => b = g) w3 wr) (fun x _ _ => n - (intOf x).toNat)
          case atStart => exact ⟨0, 2 * W, f3, rfl, by go_num, ⟨by omega⟩, Nat.zero_le _, HH3, HO3.out, Ch.refl _ _⟩
          case round =>
            obtain ⟨a, b, f4, rfl, rfl, HAB, han, hH, hO, hC⟩ := hrel
            have hab := HAB.out
            obtain ⟨m, hm⟩ : ∃ m, a + W = m := ⟨_, rfl⟩
            have hmi : (a : Int) + (W : Int) = (m : Int) := by omega
            by_cases hbn : b ≤ n
            · have dk : decide ((b : Int) ≤ (n : Int)) = true := by simp; omega
              have hmg := merge_any l g n fc a m b cb f4 wr hO (HCM3.out.later hC) hn hbn hH.out.lt (by rw [← hm]; exact hH.out.pre hW0 (by omega) (by omega))
              have HC := Bx.mk hC
              have HMG := Bx.mk hmg
              have HM := Bx.mk hm
              have hlt : a < b := by omega
              clear hO hC hmg hab hm
              go_wp2_with fail
              refine HMG.out.mono ?_
              rintro e w4 ⟨rfl, f5, hq, hO2, hC2⟩
              have HHN := Bx.mk (hH.out.next hW0 (by have := HAB.out; omega) (by rw [← HAB.out]; exact hq))
              have HO4 := Bx.mk hO2
              have HC4 := Bx.mk (HC.out.trans hC2 (fun _ _ h => h))
              clear hO2 hC2 HMG hq
              go_wp2
              go_roundw
              case rel => exact ⟨b, b + 2 * W, f5, rfl, by go_num, ⟨rfl⟩, hbn, by rw [HAB.out]; exact HHN, HO4.out, HC4.out⟩
              case measure => simp [intOf]; omega
            · have dk : decide ((b : Int) ≤ (n : Int)) = false := by simp; omega
              by_cases hmn : m < n
              · have dm : decide ((m : Int) < (n : Int)) = true := by simp; omega
                have hmg := merge_any l g n fc a m n cb f4 wr hO (HCM3.out.later hC) hn (Nat.le_refl _) hH.out.lt (by rw [← hm]; exact hH.out.pre hW0 (by omega) (by omega))
                have HC := Bx.mk hC
                have HMG := Bx.mk hmg
                have HM := Bx.mk hm
                clear hO hC hmg hab hm
                go_wp2_with fail
                refine HMG.out.mono ?_
                rintro e w4 ⟨rfl, f5, hq, hO2, hC2⟩
                have HAN := Bx.mk (hH.out.last (by have := HAB.out; omega) (by have := HM.out; omega) hq)
                have HO4 := Bx.mk hO2
                have HC4 := Bx.mk (HC3.out.trans (HC.out.trans hC2 (S := fun b => b = g) (fun _ _ h => h)) (fun _ _ h => h))
                clear hO2 hC2 HMG hq
                go_wp2
                go_roundw
                case rel => exact ⟨2 * W, f5, by go_num, by omega, by omega, HAN, HO4.out, HC4.out⟩
                case measure => simp [intOf]; omega
              · have dm : decide ((m : Int) < (n : Int)) = false := by simp; omega
                have HAN := Bx.mk (hH.out.lastNone (by omega))
                have HO4 := Bx.mk hO
                have HC4 := Bx.mk (HC3.out.trans hC (fun _ _ h => h))
                clear hO hC hab hm
                go_wp2
                go_roundw
                case rel => exact ⟨2 * W, f4, by go_num, by omega, by omega, HAN, HO4.out, HC4.out⟩
                case measure => simp [intOf]; omega
        · have dW : decide ((W : Int) < (n : Int)) = false := by simp; omega
          have HS := Bx.mk (hA.out.srt (by omega) HL.out)
          have HO3 := Bx.mk hO
          have HC3 := Bx.mk (HC2.out.trans hC (fun _ _ h => h))
          clear hO hC hA
          go_wp2
          go_returns
          exact ⟨rfl, f3, HS.out, HO3.out, HC3.out⟩
theorem sortstable_any (l : List Int) (g n fc : Nat) (cb : Array Value) (f : Nat → Nat) (w : World) (hO : Rw w g n f) (hc : CmpOk l n g fc cb w) (hn : n ≤ 1048576) (hf : ∀ p, p < n → f p = p) (hl : l.length = n) :
    Calls Try.prog 31 #[.slice (some ⟨g, 0, none⟩) n n, .func (.func fc) #[] cb] w (Row1 g n (fun f' => Srt l (tb n f')) w) := by
  have hs := stablefn_any l g n fc cb f w hO hc hn hf hl
  clear hO hc hf hl
  go_enter Try.func31, Try.ntmps31
  go_wp2_with fail
  refine hs.mono ?_
  rintro e w2 ⟨rfl, f2, hq, hO2, hC2⟩
  go_wp2
  go_returns
  exact ⟨rfl, f2, hq, hO2, hC2⟩
end Go.Proofs.Ytgboobjmafdieaa
