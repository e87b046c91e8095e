/-
  The walks of the laws BwtTurns and BwtBack: true for every input.
-/
import Derived.Test.YtgboobjmafdieaaBwKnown
namespace Go.Proofs.Ytgboobjmafdieaa
open Go.RowKit Go.Oct Go.Su
theorem own_nil (w : World) : (w.alloc (.cells #[] 3)).ownsRow 0 3 1 (.slice (some ⟨w.heap.size, 0, none⟩) 0 0) 0 [] := own_none w
theorem copied {w w1 : World} {v : Value} {n : Nat} {s : List Int} (ho : w1.ownsRow 0 3 1 v n (s.map (Value.int .i64))) (hg : (w.alloc (.cells #[] 3)).grownBy w1 (Value.slice (some ⟨w.heap.size, 0, none⟩) 0 0).ownBlock) (hb : v.ownBlock = (Value.slice (some ⟨w.heap.size, 0, none⟩) 0 0).ownBlock ∨ v.ownBlock = some (w.heap.size + 1)) :
    ∃ A c, v = .slice A n c ∧ Sl w1 (fun b => w.heap.size ≤ b) .i64 A n s ∧ Ch (fun _ => False) w w1 := by
  obtain ⟨A, c, rfl, _, _⟩ := own_shape ho
  have hC : Ch (fun _ => False) w w1 := ((Ch.refl (fun _ => False) w).alloc _).grown hg (fun k hk => by simp [Value.ownBlock] at hk; omega)
  refine ⟨A, c, rfl, (Sl.of_own ho).mono (fun b _ hb' => ?_), hC⟩
  rcases hb with h | h
  · rw [h] at hb'
    simp [Value.ownBlock] at hb'
    omega
  · rw [h] at hb'
    injection hb' with hb'
    omega
section
set_option maxHeartbeats 2000000 in
theorem turns_any (s : List Int) (A : Option Addr) (n c : Nat) (w : World) (hs : Sl w (fun _ => True) .i64 A n s) :
    Calls Try.prog 3 #[.slice A n c] w fun e w' => e = .returned (.bool true) ∧ Ch (fun _ => False) w w' := by
  by_cases hlong : 500 < n
  · go_enter Try.func3, Try.ntmps3
    go_wp2
    go_ret
    exact ⟨rfl, Ch.refl _ _⟩
  · have hn : n ≤ 500 := by omega
    have d1 : decide (500 < (n : Int)) = false := by simp; omega
    have d2 : decide (500 < n) = false := by simp; omega
    have hsa : Vs (w.alloc (.cells #[] 3)) (fun _ => True) A n (s.map (Value.int .i64)) := Sl.alloc hs _
    have HS := Bx.mk hs
    have HSA := Bx.mk hsa
    have HLEN := Bx.mk hs.len
    clear hs hsa hlong
    go_enter Try.func3, Try.ntmps3
    go_wp2_with (at_builtin; refine wp_app rfl (.tmp 11) (.tmp 12) elemI rfl rfl (own_nil w) rfl HSA.out ?c1 ?c2 ?c3 ?_)
    case c1 => exact ints_cells .i64 s
    case c2 => omega
    case c3 => omega
    intro v1 w1 ho1 hg1 hb1
    obtain ⟨A1, c1, rfl, hS1, hC1⟩ := copied ho1 hg1 hb1
    have har := turn_any s A1 n c1 w1 hS1 (by omega)
    have HS1 := Bx.mk hS1
    have HC1 := Bx.mk hC1
    clear ho1 hg1 hb1 hS1 hC1 HSA
    go_wp2_with fail
    refine har.mono ?_
    rintro e w2 ⟨A2, c2, m, ea, L, rfl, hS2, hr, hC2⟩
    have hC2w := HC1.out.trans hC2 (fun _ _ h => h)
    have har2 := refturn_any s A n c w2 (HS.out.ch hC2w (fun _ _ _ h => h)) (by omega)
    have HS2 := Bx.mk hS2
    have HR := Bx.mk hr
    have HC2 := Bx.mk hC2
    have HC2w := Bx.mk hC2w
    clear hS2 hr hC2 hC2w har
    go_wp2_with fail
    refine har2.mono ?_
    rintro e w3 ⟨A3, c3, m', ea', L', rfl, hS3, hr3, hC3⟩
    obtain ⟨rfl, rfl, rfl⟩ := tres_one HR.out hr3
    have hmn := tres_len hr3
    have hin := ints6_yes L' A2 A3 m' c2 c3 w3 (HS2.out.ch hC3 (fun _ _ _ h => h)) hS3 (by omega)
    have HC3 := Bx.mk (HC2w.out.trans hC3 (fun _ _ h => h))
    have HS13 : Bx (Sl w3 (fun b => w.heap.size ≤ b) .i64 A1 n s) := ⟨HS1.out.ch (HC2.out.trans hC3 (S := fun _ => False) (fun _ _ h => h)) (fun _ _ _ h => h)⟩
    have hee : (ea' == ea') = true := by simp
    clear hS3 hr3 hC3 har2 HS2 HR HC2 HC2w HS1
    go_wp2_with fail
    refine hin.mono ?_
    rintro e w4 ⟨rfl, hC4⟩
    have hC4w := HC3.out.trans hC4 (fun _ _ h => h)
    have hin2 := ints6_yes s A1 A n c1 c w4 (HS13.out.ch hC4 (fun _ _ _ h => h)) (HS.out.ch hC4w (fun _ _ _ h => h)) (by omega)
    have HC4 := Bx.mk hC4w
    clear hC4 hC4w hin HC3 HS13
    go_wp2_with fail
    refine hin2.mono ?_
    rintro e w5 ⟨rfl, hC5⟩
    have HC5 := Bx.mk (HC4.out.trans hC5 (fun _ _ h => h))
    clear hC5 hin2 HC4
    go_wp2_with fail
    refine (known_any w5).mono ?_
    rintro e w6 ⟨rfl, hC6⟩
    have HC6 := Bx.mk (HC5.out.trans hC6 (fun _ _ h => h))
    clear hC6
    go_wp2
    go_ret
    exact ⟨rfl, HC6.out⟩
set_option maxHeartbeats 2000000 in
theorem backs_any (s : List Int) (A : Option Addr) (n c : Nat) (w : World) (hs : Sl w (fun _ => True) .i64 A n s) :
    Calls Try.prog 4 #[.slice A n c] w fun e w' => e = .returned (.bool true) ∧ Ch (fun _ => False) w w' := by
  by_cases hlong : 500 < n
  · go_enter Try.func4, Try.ntmps4
    go_wp2
    go_ret
    exact ⟨rfl, Ch.refl _ _⟩
  · have hn : n ≤ 500 := by omega
    have d1 : decide (500 < (n : Int)) = false := by simp; omega
    have d2 : decide (500 < n) = false := by simp; omega
    have hsa : Vs (w.alloc (.cells #[] 3)) (fun _ => True) A n (s.map (Value.int .i64)) := Sl.alloc hs _
    have HS := Bx.mk hs
    have HSA := Bx.mk hsa
    have HLEN := Bx.mk hs.len
    clear hs hsa hlong
    go_enter Try.func4, Try.ntmps4
    go_wp2_with (at_builtin; refine wp_app rfl (.tmp 11) (.tmp 12) elemI rfl rfl (own_nil w) rfl HSA.out ?c1 ?c2 ?c3 ?_)
    case c1 => exact ints_cells .i64 s
    case c2 => omega
    case c3 => omega
    intro v1 w1 ho1 hg1 hb1
    obtain ⟨A1, c1, rfl, hS1, hC1⟩ := copied ho1 hg1 hb1
    have har := back_any s A1 n c1 w1 hS1 (by omega)
    have HS1 := Bx.mk hS1
    have HC1 := Bx.mk hC1
    clear ho1 hg1 hb1 hS1 hC1 HSA
    go_wp2_with fail
    refine har.mono ?_
    rintro e w2 ⟨A2, c2, m, ea, L, rfl, hS2, hr, hC2⟩
    have hC2w := HC1.out.trans hC2 (fun _ _ h => h)
    have har2 := refback_any s A n c w2 (HS.out.ch hC2w (fun _ _ _ h => h)) (by omega)
    have HS2 := Bx.mk hS2
    have HR := Bx.mk hr
    have HC2 := Bx.mk hC2
    have HC2w := Bx.mk hC2w
    clear hS2 hr hC2 hC2w har
    go_wp2_with fail
    refine har2.mono ?_
    rintro e w3 ⟨A3, c3, m', ea', L', rfl, hS3, hr3, hC3⟩
    obtain ⟨rfl, rfl, rfl⟩ := bres_one HR.out hr3
    have hmn := bres_len hr3
    have hin := ints6_yes L' A2 A3 m' c2 c3 w3 (HS2.out.ch hC3 (fun _ _ _ h => h)) hS3 (by omega)
    have HC3 := Bx.mk (HC2w.out.trans hC3 (fun _ _ h => h))
    have HS13 : Bx (Sl w3 (fun b => w.heap.size ≤ b) .i64 A1 n s) := ⟨HS1.out.ch (HC2.out.trans hC3 (S := fun _ => False) (fun _ _ h => h)) (fun _ _ _ h => h)⟩
    have hee : (ea' == ea') = true := by simp
    clear hS3 hr3 hC3 har2 HS2 HR HC2 HC2w HS1
    go_wp2_with fail
    refine hin.mono ?_
    rintro e w4 ⟨rfl, hC4⟩
    have hC4w := HC3.out.trans hC4 (fun _ _ h => h)
    have hin2 := ints6_yes s A1 A n c1 c w4 (HS13.out.ch hC4 (fun _ _ _ h => h)) (HS.out.ch hC4w (fun _ _ _ h => h)) (by omega)
    have HC4 := Bx.mk hC4w
    clear hC4 hC4w hin HC3 HS13
    go_wp2_with fail
    refine hin2.mono ?_
    rintro e w5 ⟨rfl, hC5⟩
    have HC5 := Bx.mk (HC4.out.trans hC5 (fun _ _ h => h))
    clear hC5 hin2 HC4
    go_wp2_with fail
    refine (known_any w5).mono ?_
    rintro e w6 ⟨rfl, hC6⟩
    have HC6 := Bx.mk (HC5.out.trans hC6 (fun _ _ h => h))
    clear hC6
    go_wp2
    go_ret
    exact ⟨rfl, HC6.out⟩
end
end Go.Proofs.Ytgboobjmafdieaa
