/-
  The laws FmOfNothing (a nil Index has no text) and FmLong (texts of too many symbols are refused). Over the contracts of the Index.
-/
import Derived.Test.YtckkjccjkdidjaaGreatDoorFmKnown
import Derived.Test.YtckkjccjkdidjaaGreatDoorFmA
namespace Go.Proofs.YtckkjccjkdidjaaGreatDoor
open Go.RowKit Go.Oct Go.Su X

section
variable {F : Nat → Prop}
theorem nothing_law (p : List Int) (z : Int) (A : Option Addr) (n c : Nat) (w : World) (hp : Sl w F .u8 A n p) (hn : n ≤ 9223372036854775807) (ht : W.Tab w) :
    Calls Tryz.prog 8 #[.slice A n c, .int .i64 z] w fun e w' => e = .returned (.bool true) ∧ Ch (fun _ => False) w w' := by
  have HP := Bx.mk hp
  have HT := Bx.mk ht
  clear hp ht
  by_cases h8 : 800 < n
  · have d1 : decide (800 < (n : Int)) = true := by simp; omega
    have d2 : decide (800 < n) = true := by simp; omega
    go_enter Tryz.func8, Tryz.ntmps8
    go_wp2
    go_ret
    exact ⟨rfl, Ch.refl _ _⟩
  · have d1 : decide (800 < (n : Int)) = false := by simp; omega
    have d2 : decide (800 < n) = false := by simp; omega
    go_enter Tryz.func8, Tryz.ntmps8
    go_wp2_with fail
    refine (nil_count w A n c).mono ?_
    rintro e0 w1 ⟨rfl, hC1⟩
    have HC1 := Bx.mk hC1
    have HP1 := Bx.mk (HP.out.ch hC1 (fun _ _ _ h => h))
    clear hC1
    go_wp2_with fail
    refine (nil_locate w1 A n c).mono ?_
    rintro e0 w2 ⟨⟨A2, c2, rfl⟩, hC2⟩
    have HC2 := Bx.mk (HC1.out.trans hC2 (fun _ _ h => h))
    clear hC2 HC1
    go_wp2_with fail
    refine (nil_docs w2).mono ?_
    rintro e0 w3 ⟨rfl, hC3⟩
    have HC3 := Bx.mk (HC2.out.trans hC3 (fun _ _ h => h))
    clear hC3 HC2
    go_wp2_with fail
    refine (nil_len w3 z).mono ?_
    rintro e0 w4 ⟨rfl, hC4⟩
    have HC4 := Bx.mk (HC3.out.trans hC4 (fun _ _ h => h))
    clear hC4 HC3
    go_wp2_with fail
    refine (nil_extract w4 z z z).mono ?_
    rintro e0 w5 ⟨⟨A5, c5, rfl⟩, hC5⟩
    have HC5 := Bx.mk (HC4.out.trans hC5 (fun _ _ h => h))
    clear hC5 HC4
    go_wp2_with fail
    refine (nil_turned w5).mono ?_
    rintro e0 w6 ⟨⟨A6, c6, rfl⟩, hC6⟩
    have HC6 := Bx.mk (HC5.out.trans hC6 (fun _ _ h => h))
    have hk := known_any w6 (HT.out.keep HC6.out)
    clear hC6 HC5
    go_wp2_with fail
    refine hk.mono ?_
    rintro e0 w7 ⟨rfl, hC7⟩
    have HC7 := Bx.mk (HC6.out.trans hC7 (fun _ _ h => h))
    clear hC7 hk
    go_wp2
    go_ret
    exact ⟨rfl, HC7.out⟩
end
end Go.Proofs.YtckkjccjkdidjaaGreatDoor
