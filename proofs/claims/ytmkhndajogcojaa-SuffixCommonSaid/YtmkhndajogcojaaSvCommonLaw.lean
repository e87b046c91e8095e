/-
  The walk of the law SuffixCommon: true for every input.
-/
import Derived.Test.YtmkhndajogcojaaSvKnown
namespace Go.Proofs.Ytmkhndajogcojaa
open Go.RowKit Go.Oct Go.Su
section
theorem commonlaw_long (A B : Option Addr) (n m c d : Nat) (own : Bool) (w : World) (h : 300 < n ∨ 300 < m) :
    Calls Try.prog 6 #[.slice A n c, .slice B m d, .bool own] w fun e w' => e = .returned (.bool true) ∧ Ch (fun _ => False) w w' := by
  by_cases h1 : 300 < n
  · have d1 : decide (300 < (n : Int)) = true := by simp; omega
    go_enter Try.func6, Try.ntmps6
    go_wp2
    go_ret
    exact ⟨rfl, Ch.refl _ _⟩
  · have h2 : 300 < m := by omega
    have d1 : decide (300 < (n : Int)) = false := by simp; omega
    have d2 : decide (300 < (m : Int)) = true := by simp; omega
    go_enter Try.func6, Try.ntmps6
    go_wp2
    go_ret
    exact ⟨rfl, Ch.refl _ _⟩
set_option maxHeartbeats 2000000 in
theorem commonlaw_any (s xs0 : List Int) (A B0 : Option Addr) (n m0 c d0 : Nat) (own : Bool) (w : World) (hs : Sl w (fun _ => True) .i64 A n s) (hx : Sl w (fun _ => True) .i64 B0 m0 xs0) :
    Calls Try.prog 6 #[.slice A n c, .slice B0 m0 d0, .bool own] w fun e w' => e = .returned (.bool true) ∧ Ch (fun _ => False) w w' := by
  by_cases hlong : 300 < n ∨ 300 < m0
  · exact commonlaw_long A B0 n m0 c d0 own w hlong
  · have hn : n ≤ 300 := by omega
    have hm : m0 ≤ 300 := by omega
    have e1 : decide (300 < (n : Int)) = false := by simp; omega
    have e2 : decide (300 < (m0 : Int)) = false := by simp; omega
    have e3 : decide (300 < n) = false := by simp; omega
    have e4 : decide (300 < m0) = false := by simp; omega
    have HS := Bx.mk hs
    have HX0 := Bx.mk hx
    clear hs hx hlong
    cases own with
    | false =>
      have HC0 := Bx.mk (Ch.refl (fun _ => False) w)
      have HX := HX0
      clear HX0
      obtain ⟨W0, rfl⟩ : ∃ W0 : World, W0 = w := ⟨_, rfl⟩
      obtain ⟨xs, rfl⟩ : ∃ xs : List Int, xs = xs0 := ⟨_, rfl⟩
      obtain ⟨B, rfl⟩ : ∃ B : Option Addr, B = B0 := ⟨_, rfl⟩
      obtain ⟨m, rfl⟩ : ∃ m : Nat, m = m0 := ⟨_, rfl⟩
      obtain ⟨d, rfl⟩ : ∃ d : Nat, d = d0 := ⟨_, rfl⟩
      go_enter Try.func6, Try.ntmps6
      have hcm := common_any s xs A B n m c d W0 (HS.out.ch HC0.out (fun _ _ _ h => h)) HX.out (by omega)
      go_wp2_with fail
      refine hcm.mono ?_
      rintro e w2 ⟨A2, c2, m2, ec, q, rfl, hS2, hr, hC2⟩
      have hC2w := HC0.out.trans hC2 (fun _ _ h => h)
      have hcm2 := refcommon_any s xs A B n m c d w2 (HS.out.ch hC2w (fun _ _ _ h => h)) (HX.out.ch hC2 (fun _ _ _ h => h)) (by omega)
      have HS2 := Bx.mk hS2
      have HR := Bx.mk hr
      have HC2w := Bx.mk hC2w
      clear hS2 hr hC2 hC2w hcm
      go_wp2_with fail
      refine hcm2.mono ?_
      rintro e w3 ⟨A3, c3, m3, ec', q', rfl, hS3, hr3, hC3⟩
      obtain ⟨rfl, rfl, rfl⟩ := com_one HR.out hr3
      have hmn : m3 ≤ n := by
        rcases hr3 with ⟨_, _, h, _⟩ | ⟨_, _, _, h, _⟩ | ⟨_, _, _, _, _, h, _⟩ <;> omega
      have hin := ints_any (asI q') A2 A3 m3 c2 c3 w3 (HS2.out.ch hC3 (fun _ _ _ h => h)) hS3 (by omega)
      have HC3 := Bx.mk (HC2w.out.trans hC3 (fun _ _ h => h))
      have hee : (ec' == ec') = true := by simp
      clear hS3 hr3 hC3 hcm2 HS2 HR HC2w
      go_wp2_with fail
      refine hin.mono ?_
      rintro e w4 ⟨rfl, hC4⟩
      have HC4 := Bx.mk (HC3.out.trans hC4 (fun _ _ h => h))
      clear hC4 hin HC3
      go_wp2_with fail
      refine (known_any w4).mono ?_
      rintro e w6 ⟨rfl, hC6⟩
      have HC6 := Bx.mk (HC4.out.trans hC6 (fun _ _ h => h))
      clear hC6
      go_wp2
      go_ret
      exact ⟨rfl, HC6.out⟩
    | true =>
      have har := refarray_any s A n c w HS.out (by omega)
      go_enter Try.func6, Try.ntmps6
      go_wp2_with fail
      refine har.mono ?_
      rintro e W0 ⟨B, d, m, L, rfl, hX, _, hC0⟩
      obtain ⟨xs, hxs⟩ : ∃ xs : List Int, asI L = xs := ⟨_, rfl⟩
      rw [hxs] at hX
      have HX := Bx.mk hX
      have HC0 := Bx.mk hC0
      generalize aErr s = ea at *
      clear hX hC0 har HX0 hxs
      have hcm := common_any s xs A B n m c d W0 (HS.out.ch HC0.out (fun _ _ _ h => h)) HX.out (by omega)
      go_wp2_with fail
      refine hcm.mono ?_
      rintro e w2 ⟨A2, c2, m2, ec, q, rfl, hS2, hr, hC2⟩
      have hC2w := HC0.out.trans hC2 (fun _ _ h => h)
      have hcm2 := refcommon_any s xs A B n m c d w2 (HS.out.ch hC2w (fun _ _ _ h => h)) (HX.out.ch hC2 (fun _ _ _ h => h)) (by omega)
      have HS2 := Bx.mk hS2
      have HR := Bx.mk hr
      have HC2w := Bx.mk hC2w
      clear hS2 hr hC2 hC2w hcm
      go_wp2_with fail
      refine hcm2.mono ?_
      rintro e w3 ⟨A3, c3, m3, ec', q', rfl, hS3, hr3, hC3⟩
      obtain ⟨rfl, rfl, rfl⟩ := com_one HR.out hr3
      have hmn : m3 ≤ n := by
        rcases hr3 with ⟨_, _, h, _⟩ | ⟨_, _, _, h, _⟩ | ⟨_, _, _, _, _, h, _⟩ <;> omega
      have hin := ints_any (asI q') A2 A3 m3 c2 c3 w3 (HS2.out.ch hC3 (fun _ _ _ h => h)) hS3 (by omega)
      have HC3 := Bx.mk (HC2w.out.trans hC3 (fun _ _ h => h))
      have hee : (ec' == ec') = true := by simp
      clear hS3 hr3 hC3 hcm2 HS2 HR HC2w
      go_wp2_with fail
      refine hin.mono ?_
      rintro e w4 ⟨rfl, hC4⟩
      have HC4 := Bx.mk (HC3.out.trans hC4 (fun _ _ h => h))
      clear hC4 hin HC3
      go_wp2_with fail
      refine (known_any w4).mono ?_
      rintro e w6 ⟨rfl, hC6⟩
      have HC6 := Bx.mk (HC4.out.trans hC6 (fun _ _ h => h))
      clear hC6
      go_wp2
      go_ret
      exact ⟨rfl, HC6.out⟩
end
end Go.Proofs.Ytmkhndajogcojaa
