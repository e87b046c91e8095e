/-
  The walks of the laws BwtCounts and BwtRound: true for every input.
-/
import Derived.Test.YtgboobjmafdieaaBwTurns
import Derived.Test.YtgboobjmafdieaaBwLawMath
namespace Go.Proofs.Ytgboobjmafdieaa
open Go.RowKit Go.Oct Go.Su
theorem clamp_le (z : Int) : clampW z ≤ 16 := by unfold clampW; split <;> (try split) <;> omega
theorem pow_le {W : Nat} (h : W ≤ 16) : 2 ^ W + 1 ≤ 65537 := by
  have := Nat.pow_le_pow_right (n := 2) (by decide) h
  omega
theorem clamp11 : clampW 11 = 11 := by decide
theorem vals_sl {w : World} {g n : Nat} {L : List Nat} (h : Own w 3 1 g n n (vals L)) : Sl w (fun b => b = g) .i64 (some ⟨g, 0, none⟩) n (asI L) := Own.sl (by rw [vals_asI]; exact h)
section
set_option maxHeartbeats 2000000 in
theorem countslaw_any (s : List Int) (z : Int) (A : Option Addr) (n c : Nat) (w : World) (hs : Sl w (fun _ => True) .i64 A n s) :
    Calls Try.prog 6 #[.slice A n c, .int .i64 z] w fun e w' => e = .returned (.bool true) ∧ Ch (fun _ => False) w w' := by
  by_cases hlong : 500 < n
  · go_enter Try.func6, Try.ntmps6
    go_wp2
    go_ret
    exact ⟨rfl, Ch.refl _ _⟩
  · have hn : n ≤ 500 := by omega
    have d1 : decide (500 < (n : Int)) = false := by simp; omega
    have d2 : decide (500 < n) = false := by simp; omega
    obtain ⟨W, hW⟩ : ∃ W, clampW z = W := ⟨_, rfl⟩
    have hW16 : W ≤ 16 := by rw [← hW]; exact clamp_le z
    have hp := pow_le hW16
    have hdc := counts_any s A n c W z w hs (by omega) hW
    have HS := Bx.mk hs
    have HW := Bx.mk hW
    clear hs hlong hW
    go_enter Try.func6, Try.ntmps6
    go_wp2_with fail
    refine hdc.mono ?_
    rintro e w1 ⟨A1, c1, rfl, hS1, hC1⟩
    have hrc := refcounts_any s A n c W z w1 (HS.out.ch hC1 (fun _ _ _ h => h)) (by omega) HW.out
    have HS1 := Bx.mk hS1
    have HC1 := Bx.mk hC1
    clear hS1 hC1 hdc
    go_wp2_with fail
    refine hrc.mono ?_
    rintro e w2 ⟨g, rfl, hO, hg, hC2⟩
    have hin := ints6_yes (asI (cnts s W)) A1 (some ⟨g, 0, none⟩) (2 ^ W + 1) c1 (2 ^ W + 1) w2 (HS1.out.ch hC2 (fun _ _ _ h => h)) (vals_sl hO) (by omega)
    have HC2 := Bx.mk (HC1.out.trans hC2 (fun _ _ h => h))
    clear hO hg hC2 hrc HS1 HC1
    go_wp2_with fail
    refine hin.mono ?_
    rintro e w3 ⟨rfl, hC3⟩
    have HC3 := Bx.mk (HC2.out.trans hC3 (fun _ _ h => h))
    clear hC3 hin HC2
    go_wp2_with fail
    refine (known_any w3).mono ?_
    rintro e w4 ⟨rfl, hC4⟩
    have HC4 := Bx.mk (HC3.out.trans hC4 (fun _ _ h => h))
    clear hC4
    go_wp2
    go_ret
    exact ⟨rfl, HC4.out⟩
set_option maxHeartbeats 4000000 in
theorem roundlaw_any (xs : List Int) (A : Option Addr) (n c : Nat) (w : World) (hs : Sl w (fun _ => True) .i64 A n xs) :
    Calls Try.prog 5 #[.slice A n c] w fun e w' => e = .returned (.bool true) ∧ Ch (fun _ => False) w w' := by
  by_cases hlong : 500 < n
  · go_enter Try.func5, Try.ntmps5
    go_wp2
    go_ret
    exact ⟨rfl, Ch.refl _ _⟩
  · have hn : n ≤ 500 := by omega
    have d1 : decide (500 < (n : Int)) = false := by simp; omega
    have d2 : decide (500 < n) = false := by simp; omega
    have HS := Bx.mk hs
    obtain ⟨L, hL⟩ : ∃ L, (cut 1024 xs).map (· + 1) = L := ⟨_, rfl⟩
    have HLL := Bx.mk hL
    have HLN : Bx (L.length = n) := ⟨by rw [← hL, List.length_map, cut_len]; exact hs.len⟩
    clear hs hlong hL
    go_enter Try.func5, Try.ntmps5
    go_wp2_with fail
    go_loopw [3, 4] (fun v i wr => ∃ j : Nat, j ≤ n ∧ i = .int .i64 j ∧ Gr w wr v (L.take j)) (fun _ i _ => n - (intOf i).toNat)
    case atStart => exact ⟨0, Nat.zero_le _, rfl, by rw [List.take_zero]; exact Gr.nil w⟩
    case round =>
      obtain ⟨j, hj, rfl, hG⟩ := hrel
      by_cases hlt : j < n
      · obtain ⟨b1, o1, x, rfl, _, hx0, hcx⟩ := (HS.out.ch hG.ch (fun _ _ _ h => h)).at_ hlt
        have hx : L[j]? = some ((x % ((1024 : Nat) : Int)).toNat + 1) := by rw [← HLL.out, List.getElem?_map, cut_at (p := 1024) hx0.out]; rfl
        have ha := and1023 x
        have hyb : (x % ((1024 : Nat) : Int)).toNat < 1024 := by omega
        generalize (x % ((1024 : Nat) : Int)).toNat = y at *
        have htk := take_more hx
        have htl : (L.take j).length = j := by rw [List.length_take, HLN.out]; omega
        generalize L.take j = P at *
        have hq : (1 : Int) + (y : Int) = ((y + 1 : Nat) : Int) := by omega
        have HQ := Bx.mk hq
        have HG := Bx.mk hG
        have HTK := Bx.mk htk
        obtain ⟨A2, c2, rfl, _, _⟩ := own_shape hG.own
        have HPL := Bx.mk htl
        have hPl : P.length ≤ 600 := by omega
        clear hG htk hx hx0 htl hq
        go_wp2_with (at_builtin; refine wp_app rfl (.tmp 18) (.tmp 25) elemI rfl rfl (HG.out.own.alloc _) rfl (Vs.one _ _ _) ?c1 ?c2 ?c3 ?_)
        case c1 => intro u hu; simp at hu; subst hu; rfl
        case c2 => omega
        case c3 => omega
        intro v' w2 ho1 hg1 hb1
        rw [HQ.out] at ho1 hg1
        have HG2 : Bx (Gr w w2 v' (L.take (j + 1))) := ⟨by rw [HTK.out]; exact HG.out.one ho1 hg1 hb1⟩
        clear ho1 hg1 hb1
        go_wp2
        go_roundw
        case rel => exact ⟨j + 1, by omega, by go_num, HG2.out⟩
        case measure => simp [intOf]; omega
      · have hjn : j = n := by omega
        rw [hjn, List.take_of_length_le (by rw [HLN.out]; omega)] at hG
        have hsh : asI (L ++ [0]) = shut (cut 1024 xs) := by rw [← HLL.out]; exact shut_asI _
        have hcl : Closed (asI (L ++ [0])) := by rw [hsh]; exact shut_closed _
        have hLl : (L ++ [0]).length = n + 1 := by rw [List.length_append, HLN.out]; rfl
        have ej : decide ((j : Int) < (n : Int)) = false := by simp; omega
        have HG := Bx.mk hG
        obtain ⟨A2, c2, rfl, _, _⟩ := own_shape hG.own
        have hPl : L.length ≤ 600 := by rw [HLN.out]; omega
        have HCL := Bx.mk hcl
        have HLL1 := Bx.mk hLl
        clear hG hjn hsh hcl hLl
        go_wp2_with (at_builtin; refine wp_app rfl (.tmp 27) (.tmp 28) elemI rfl rfl (HG.out.own.alloc _) rfl (Vs.one _ _ _) ?c1 ?c2 ?c3 ?_)
        case c1 => intro u hu; simp at hu; subst hu; rfl
        case c2 => omega
        case c3 => omega
        intro v' w2 ho1 hg1 hb1
        have hG2 : Gr w w2 v' (L ++ [0]) := HG.out.one ho1 hg1 hb1
        obtain ⟨A3, c3, rfl, hSl, hc1, hc2⟩ := hG2.shape
        have HC2 := Bx.mk hG2.ch
        rw [HLL1.out] at hSl hc1
        have hLn2 := HLL1.out
        try rw [hLn2]
        generalize asI (L ++ [0]) = S at *
        have htu := turn_any S A3 (n + 1) c3 w2 hSl (by omega)
        have HS2 := Bx.mk hSl
        clear ho1 hg1 hb1 hG2 hSl hc1 hc2 HG hLn2
        go_wp2_with fail
        refine htu.mono ?_
        rintro e w3 ⟨A4, c4, m, ec, l, rfl, hS3, hr, hC3⟩
        obtain ⟨rfl, rfl, hT⟩ := tres_ok hr (by omega) HCL.out
        have hbk := back_any l A4 (n + 1) c4 w3 hS3 (by omega)
        have HS3 := Bx.mk hS3
        have HT := Bx.mk hT
        have HSA := Bx.mk (HS2.out.ch hC3 (fun _ _ _ h => h))
        have HC3 := Bx.mk (HC2.out.trans hC3 (fun _ _ h => h))
        clear hS3 hr hT hC3 htu HS2 HC2
        go_wp2_with fail
        refine hbk.mono ?_
        rintro e w4 ⟨A5, c5, m2, ec, u, rfl, hS4, hr, hC4⟩
        obtain ⟨rfl, rfl, rfl⟩ := bres_ok hr (by omega) HT.out
        have HSB := Bx.mk (HSA.out.ch hC4 (fun _ _ _ h => h))
        have HS5 := Bx.mk (HS3.out.ch hC4 (fun _ _ _ h => h))
        have hin := ints6_yes u A5 A3 (n + 1) c5 c3 w4 hS4 HSB.out (by omega)
        have HC4 := Bx.mk (HC3.out.trans hC4 (fun _ _ h => h))
        clear hS4 hr hC4 hbk HSA HS3 HC3
        go_wp2_with fail
        refine hin.mono ?_
        rintro e w5 ⟨rfl, hC5⟩
        have HSC := Bx.mk (HSB.out.ch hC5 (fun _ _ _ h => h))
        have HS6 := Bx.mk (HS5.out.ch hC5 (fun _ _ _ h => h))
        have hk1 := counts_any l A4 (n + 1) c4 11 11 w5 HS6.out (by omega) clamp11
        have HC5 := Bx.mk (HC4.out.trans hC5 (fun _ _ h => h))
        clear hC5 hin HSB HS5 HC4
        go_wp2_with fail
        refine hk1.mono ?_
        rintro e w6 ⟨A6, c6, rfl, hK1, hC6⟩
        have HSD := Bx.mk (HSC.out.ch hC6 (fun _ _ _ h => h))
        have HS7 := Bx.mk (HS6.out.ch hC6 (fun _ _ _ h => h))
        have hk2 := counts_any u A3 (n + 1) c3 11 11 w6 HSD.out (by omega) clamp11
        have HK1 := Bx.mk hK1
        have HC6 := Bx.mk (HC5.out.trans hC6 (fun _ _ h => h))
        clear hK1 hC6 hk1 HSC HS6 HC5
        go_wp2_with fail
        refine hk2.mono ?_
        rintro e w7 ⟨A7, c7, rfl, hK2, hC7⟩
        have HSE := Bx.mk (HSD.out.ch hC7 (fun _ _ _ h => h))
        have HS8 := Bx.mk (HS7.out.ch hC7 (fun _ _ _ h => h))
        rw [← cnts_turned HT.out] at hK2
        have hin2 := ints6_yes (asI (cnts l 11)) A6 A7 (2 ^ 11 + 1) c6 c7 w7 (HK1.out.ch hC7 (fun _ _ _ h => h)) hK2 (by omega)
        have HC7 := Bx.mk (HC6.out.trans hC7 (fun _ _ h => h))
        clear hK2 hC7 hk2 HSD HS7 HK1 HC6
        go_wp2_with fail
        refine hin2.mono ?_
        rintro e w8 ⟨rfl, hC8⟩
        have HSF := Bx.mk (HSE.out.ch hC8 (fun _ _ _ h => h))
        have hk3 := counts_any l A4 (n + 1) c4 11 11 w8 (HS8.out.ch hC8 (fun _ _ _ h => h)) (by omega) clamp11
        have HC8 := Bx.mk (HC7.out.trans hC8 (fun _ _ h => h))
        clear hC8 hin2 HSE HS8 HC7
        go_wp2_with fail
        refine hk3.mono ?_
        rintro e w9 ⟨A8, c8, rfl, hK3, hC9⟩
        have hk4 := refcounts_any u A3 (n + 1) c3 11 11 w9 (HSF.out.ch hC9 (fun _ _ _ h => h)) (by omega) clamp11
        have HK3 := Bx.mk hK3
        have HC9 := Bx.mk (HC8.out.trans hC9 (fun _ _ h => h))
        clear hK3 hC9 hk3 HSF HC8
        go_wp2_with fail
        refine hk4.mono ?_
        rintro e w10 ⟨g, rfl, hO, hg, hC10⟩
        rw [← cnts_turned HT.out] at hO
        have hin3 := ints6_yes (asI (cnts l 11)) A8 (some ⟨g, 0, none⟩) (2 ^ 11 + 1) c8 (2 ^ 11 + 1) w10 (HK3.out.ch hC10 (fun _ _ _ h => h)) (vals_sl hO) (by omega)
        have HC10 := Bx.mk (HC9.out.trans hC10 (fun _ _ h => h))
        clear hO hg hC10 hk4 HK3 HC9
        go_wp2_with fail
        refine hin3.mono ?_
        rintro e w11 ⟨rfl, hC11⟩
        have HC11 := Bx.mk (HC10.out.trans hC11 (fun _ _ h => h))
        clear hC11 hin3 HC10
        go_wp2_with fail
        refine (known_any w11).mono ?_
        rintro e w12 ⟨rfl, hC12⟩
        have HC12 := Bx.mk (HC11.out.trans hC12 (fun _ _ h => h))
        clear hC12
        go_wp2
        go_ret
        exact ⟨rfl, HC12.out⟩
end
end Go.Proofs.Ytgboobjmafdieaa
