/-
  The walk of the law BwtMoved: true for every input that the form can hold.
-/
import Derived.Test.YtgboobjmafdieaaBwTurns
import Derived.Test.YtgboobjmafdieaaBwLawMath
namespace Go.Proofs.Ytgboobjmafdieaa
open Go.RowKit Go.Oct Go.Su
section
set_option maxHeartbeats 4000000 in
theorem movedlaw_any (xs ys : List Int) (A B : Option Addr) (n c m d : Nat) (w : World) (hs : Sl w (fun _ => True) .i64 A n xs) (ht : Sl w (fun _ => True) .i64 B m ys) (hz0 : n * 8 ≤ 140737488351232) (hz1 : m * 8 ≤ 140737488351232) :
    Calls Try.prog 8 #[.slice A n c, .slice B m d] w fun e w' => e = .returned (.bool true) ∧ Ch (fun _ => False) w w' := by
  by_cases hlong : 500 < n + m
  · have d1 : decide (500 < (n : Int) + (m : Int)) = true := by simp; omega
    go_enter Try.func8, Try.ntmps8
    go_wp2
    go_ret
    exact ⟨rfl, Ch.refl _ _⟩
  · have hn : n ≤ 500 := by omega
    have hm : m ≤ 500 := by omega
    have d1 : decide (500 < (n : Int) + (m : Int)) = false := by simp; omega
    have HS := Bx.mk hs
    have HT := Bx.mk ht
    obtain ⟨L, hL⟩ : ∃ L, (cut 4 xs).map (· + 1) = L := ⟨_, rfl⟩
    obtain ⟨M, hM⟩ : ∃ M, (cut 4 ys).map (· + 1) = M := ⟨_, rfl⟩
    have HLL := Bx.mk hL
    have HMM := Bx.mk hM
    have HLN : Bx (L.length = n) := ⟨by rw [← hL, List.length_map, cut_len]; exact hs.len⟩
    have HMN : Bx (M.length = m) := ⟨by rw [← hM, List.length_map, cut_len]; exact ht.len⟩
    clear hs ht hlong hL hM
    go_enter Try.func8, Try.ntmps8
    go_wp2_with fail
    go_loopw [5, 7] (fun v i wr => ∃ j : Nat, j ≤ n ∧ i = .int .i64 j ∧ Gr w wr v (L.take j)) (fun _ i _ => n - (intOf i).toNat)
    case atStart => exact ⟨0, Nat.zero_le _, rfl, by rw [List.take_zero]; exact Gr.nil w⟩
    case round =>
      obtain ⟨j, hj, rfl, hG⟩ := hrel
      by_cases hlt : j < n
      · obtain ⟨b1, o1, x, rfl, _, hx0, hcx⟩ := (HS.out.ch hG.ch (fun _ _ _ h => h)).at_ hlt
        have hx : L[j]? = some ((x % ((4 : Nat) : Int)).toNat + 1) := by rw [← HLL.out, List.getElem?_map, cut_at (p := 4) hx0.out]; rfl
        have ha := and3 x
        have hyb : (x % ((4 : Nat) : Int)).toNat < 4 := by omega
        generalize (x % ((4 : Nat) : Int)).toNat = y at *
        have htk := take_more hx
        have htl : (L.take j).length = j := by rw [List.length_take, HLN.out]; omega
        generalize L.take j = P at *
        have hq : (1 : Int) + (y : Int) = ((y + 1 : Nat) : Int) := by omega
        have HQ := Bx.mk hq
        have HG := Bx.mk hG
        have HTK := Bx.mk htk
        obtain ⟨A2, c2, rfl, _, _⟩ := own_shape hG.own
        have hPl : P.length ≤ 600 := by omega
        clear hG htk hx hx0 htl hq
        go_wp2_with (at_builtin; refine wp_app rfl (.tmp 25) (.tmp 32) elemI rfl rfl (HG.out.own.alloc _) rfl (Vs.one _ _ _) ?c1 ?c2 ?c3 ?_)
        case c1 => intro u hu; simp at hu; subst hu; rfl
        case c2 => omega
        case c3 => omega
        intro v' w2 ho1 hg1 hb1
        rw [HQ.out] at ho1 hg1
        have HG2 : Bx (Gr w w2 v' (L.take (j + 1))) := ⟨by rw [HTK.out]; exact HG.out.one ho1 hg1 hb1⟩
        clear ho1 hg1 hb1
        go_wp2
        go_roundw
        case rel => exact ⟨j + 1, by omega, by go_num, HG2.out⟩
        case measure => simp [intOf]; omega
      · have hjn : j = n := by omega
        rw [hjn, List.take_of_length_le (by rw [HLN.out]; omega)] at hG
        have ej : decide ((j : Int) < (n : Int)) = false := by simp; omega
        have hGW : Gr wr wr (.slice none 0 0) [] := Gr.nil wr
        have HG := Bx.mk hG
        obtain ⟨A2, c2, rfl, _, _⟩ := own_shape hG.own
        clear hG hjn
        generalize wr = wA at *
        go_wp2_with fail
        go_loopw [6, 8] (fun v i wq => ∃ j : Nat, j ≤ m ∧ i = .int .i64 j ∧ Gr wA wq v (M.take j)) (fun _ i _ => m - (intOf i).toNat)
        case atStart => exact ⟨0, Nat.zero_le _, rfl, by rw [List.take_zero]; exact hGW⟩
        case round =>
          obtain ⟨k, hk, rfl, hK⟩ := hrel
          by_cases hlt2 : k < m
          · obtain ⟨b1, o1, x, rfl, _, hx0, hcx⟩ := (HT.out.ch (HG.out.ch.trans hK.ch (fun _ _ h => h)) (fun _ _ _ h => h)).at_ hlt2
            have hx : M[k]? = some ((x % ((4 : Nat) : Int)).toNat + 1) := by rw [← HMM.out, List.getElem?_map, cut_at (p := 4) hx0.out]; rfl
            have ha := and3 x
            have hyb : (x % ((4 : Nat) : Int)).toNat < 4 := by omega
            generalize (x % ((4 : Nat) : Int)).toNat = y at *
            have htk := take_more hx
            have htl : (M.take k).length = k := by rw [List.length_take, HMN.out]; omega
            generalize M.take k = P at *
            have hq : (1 : Int) + (y : Int) = ((y + 1 : Nat) : Int) := by omega
            have HQ := Bx.mk hq
            have HK := Bx.mk hK
            have HTK := Bx.mk htk
            obtain ⟨A3, c3, rfl, _, _⟩ := own_shape hK.own
            have hPl : P.length ≤ 600 := by omega
            clear hK htk hx hx0 htl hq hGW
            go_wp2_with (at_builtin; refine wp_app rfl (.tmp 40) (.tmp 47) elemI rfl rfl (HK.out.own.alloc _) rfl (Vs.one _ _ _) ?c1 ?c2 ?c3 ?_)
            case c1 => intro u hu; simp at hu; subst hu; rfl
            case c2 => omega
            case c3 => omega
            intro v' w2 ho1 hg1 hb1
            rw [HQ.out] at ho1 hg1
            have HG2 : Bx (Gr wA w2 v' (M.take (k + 1))) := ⟨by rw [HTK.out]; exact HK.out.one ho1 hg1 hb1⟩
            clear ho1 hg1 hb1
            go_wp2
            go_roundw
            case rel => exact ⟨k + 1, by omega, by go_num, HG2.out⟩
            case measure => simp [intOf]; omega
          · have hkm : k = m := by omega
            rw [hkm, List.take_of_length_le (by rw [HMN.out]; omega)] at hK
            have ek : decide ((k : Int) < (m : Int)) = false := by simp; omega
            have HK := Bx.mk hK
            obtain ⟨A3, c3, rfl, _, _⟩ := own_shape hK.own
            have hPl : L.length ≤ 600 := by rw [HLN.out]; omega
            have hMl : M.length ≤ 600 := by rw [HMN.out]; omega
            clear hK hkm hGW
            have HA : Bx (Gr w wr (.slice A2 L.length c2) L) := ⟨⟨HK.out.ch.own HG.out.own (fun _ _ h => h), HG.out.lies, HG.out.ch.trans HK.out.ch (fun _ _ h => h)⟩⟩
            go_wp2_with (at_builtin; refine wp_app rfl (.tmp 49) (.tmp 50) elemI rfl rfl (HA.out.own.alloc _) rfl (Vs.one _ _ _) ?c1 ?c2 ?c3 ?_)
            case c1 => intro u hu; simp at hu; subst hu; rfl
            case c2 => omega
            case c3 => omega
            intro v1 w2 ho1 hg1 hb1
            have HA2 : Bx (Gr w w2 v1 (L ++ [0])) := ⟨HA.out.one ho1 hg1 hb1⟩
            have hno : ∀ k, (Value.slice A3 M.length c3).ownBlock = some k → ¬ (Value.slice A2 L.length c2).ownBlock = some k := fun k h1 h2 => by
              have h3 := HK.out.lies k h1
              have h4 := (HG.out.own.lt k h2).2
              omega
            have hCg := ((Ch.refl (fun k => (Value.slice A2 L.length c2).ownBlock = some k) wr).alloc (.cells #[.int .i64 0] 3)).grown hg1 (fun k hk => .inl hk)
            have HKo : Bx (w2.ownsRow 0 3 1 (.slice A3 M.length c3) M.length (vals M)) := ⟨hCg.own HK.out.own hno⟩
            have HNO : Bx (∀ k, v1.ownBlock = some k → ¬ (Value.slice A3 M.length c3).ownBlock = some k) := ⟨fun k h1 h2 => by
              rcases hb1 with hb1 | hb1
              · exact hno k h2 (by rw [← hb1]; exact h1)
              · have h4 := (HK.out.own.lt k h2).2
                have h5 : some k = some (wr.heap.size + 1) := by first | exact h1.symm.trans hb1 | (rw [← h1, hb1]; simp [World.alloc])
                injection h5 with h5
                omega⟩
            have HK2 : Bx (Gr w w2 (.slice A3 M.length c3) M) := ⟨⟨HKo.out, fun g hg => Nat.le_trans HG.out.ch.size (HK.out.lies g hg), HA2.out.ch⟩⟩
            clear ho1 hg1 hb1 hCg HA hno HKo
            go_wp2_with (at_builtin; refine wp_app rfl (.tmp 52) (.tmp 53) elemI rfl rfl (HK2.out.own.alloc _) rfl (Vs.one _ _ _) ?c1 ?c2 ?c3 ?_)
            case c1 => intro u hu; simp at hu; subst hu; rfl
            case c2 => omega
            case c3 => omega
            intro v2 w3 ho1 hg1 hb1
            have hB3 : Gr w w3 v2 (M ++ [0]) := HK2.out.one ho1 hg1 hb1
            have hCg := ((Ch.refl (fun k => (Value.slice A3 M.length c3).ownBlock = some k) w2).alloc (.cells #[.int .i64 0] 3)).grown hg1 (fun k hk => .inl hk)
            have hA3 : Gr w w3 v1 (L ++ [0]) := ⟨hCg.own HA2.out.own HNO.out, HA2.out.lies, hB3.ch⟩
            obtain ⟨A4, c4, rfl, hS1, _, _⟩ := hA3.shape
            obtain ⟨A5, c5, rfl, hS2, _, _⟩ := hB3.shape
            have hl1 : (L ++ [0]).length = n + 1 := by rw [List.length_append, HLN.out]; rfl
            have hl2 : (M ++ [0]).length = m + 1 := by rw [List.length_append, HMN.out]; rfl
            have hc1 : Closed (asI (L ++ [0])) := by rw [← HLL.out, shut_asI]; exact shut_closed _
            have hc2 : Closed (asI (M ++ [0])) := by rw [← HMM.out, shut_asI]; exact shut_closed _
            rw [hl1] at hS1
            rw [hl2] at hS2
            rw [hl1, hl2]
            generalize asI (L ++ [0]) = S at *
            generalize asI (M ++ [0]) = T at *
            have HC1 := Bx.mk hc1
            have HC2 := Bx.mk hc2
            have HS1 := Bx.mk hS1
            have HS2 := Bx.mk hS2
            have HCC := Bx.mk hB3.ch
            have htu := turn_any S A4 (n + 1) c4 w3 hS1 (by omega)
            clear ho1 hg1 hb1 hCg hA3 hB3 hl1 hl2 hc1 hc2 hS1 hS2 HA2 HK2 HNO HG HK HLN HMN HLL HMM HS HT
            go_wp2_with fail
            refine htu.mono ?_
            rintro e w4 ⟨A6, c6, q, ec, l, rfl, hS3, hr, hC3⟩
            obtain ⟨rfl, rfl, hT⟩ := tres_ok hr (by omega) HC1.out
            have htv := turn_any T A5 (m + 1) c5 w4 (HS2.out.ch hC3 (fun _ _ _ h => h)) (by omega)
            have HS3 := Bx.mk hS3
            have HT1 := Bx.mk hT
            have HSA := Bx.mk (HS1.out.ch hC3 (fun _ _ _ h => h))
            have HSB := Bx.mk (HS2.out.ch hC3 (fun _ _ _ h => h))
            have HC3 := Bx.mk (HCC.out.trans hC3 (fun _ _ h => h))
            clear hS3 hr hT hC3 htu HS1 HS2 HCC
            go_wp2_with fail
            refine htv.mono ?_
            rintro e w5 ⟨A7, c7, q, ec, t, rfl, hS4, hr, hC4⟩
            obtain ⟨rfl, rfl, hT⟩ := tres_ok hr (by omega) HC2.out
            have HT2 := Bx.mk hT
            have HSC := Bx.mk (HSA.out.ch hC4 (fun _ _ _ h => h))
            have HSD := Bx.mk (HSB.out.ch hC4 (fun _ _ _ h => h))
            have HS5 := Bx.mk (HS3.out.ch hC4 (fun _ _ _ h => h))
            have HS4 := Bx.mk hS4
            have HC4 := Bx.mk (HC3.out.trans hC4 (fun _ _ h => h))
            clear hS4 hr hT hC4 htv HSA HSB HS3 HC3
            obtain ⟨bb, h1, h2⟩ : ∃ b : Bool, Calls Try.prog 11 #[.slice A6 (n + 1) c6, .slice A7 (m + 1) c7] w5 (fun e w' => e = .returned (.bool b) ∧ Ch (fun _ => False) w5 w') ∧ ∀ wz, Ch (fun _ => False) w5 wz → Calls Try.prog 11 #[.slice A4 (n + 1) c4, .slice A5 (m + 1) c5] wz (fun e w' => e = .returned (.bool b) ∧ Ch (fun _ => False) wz w') := by
              by_cases hST : S = T
              · subst hST
                have hnm : n + 1 = m + 1 := by rw [← HSC.out.len, ← HSD.out.len]
                obtain rfl : n = m := by omega
                have hlt := HT1.out.det HT2.out
                subst hlt
                exact ⟨true, ints6_yes l A6 A7 (n + 1) c6 c7 w5 HS5.out HS4.out (by omega), fun wz hz => ints6_yes S A4 A5 (n + 1) c4 c5 wz (HSC.out.ch hz (fun _ _ _ h => h)) (HSD.out.ch hz (fun _ _ _ h => h)) (by omega)⟩
              · refine ⟨false, ints6_no l t A6 A7 (n + 1) (m + 1) c6 c7 w5 HS5.out HS4.out (by omega) (fun e => ?_), fun wz hz => ints6_no S T A4 A5 (n + 1) (m + 1) c4 c5 wz (HSC.out.ch hz (fun _ _ _ h => h)) (HSD.out.ch hz (fun _ _ _ h => h)) (by omega) hST⟩
                subst e
                exact hST (HT1.out.uniq HT2.out)
            have hbb : (bb == bb) = true := by simp
            have H2 := Bx.mk h2
            clear h2 HSC HSD HS5 HS4 HT1 HT2 HC1 HC2
            go_wp2_with fail
            refine h1.mono ?_
            rintro e w6 ⟨rfl, hC6⟩
            have hk2 := H2.out w6 hC6
            have HC6 := Bx.mk (HC4.out.trans hC6 (fun _ _ h => h))
            clear hC6 h1 H2 HC4
            go_wp2_with fail
            refine hk2.mono ?_
            rintro e w7 ⟨rfl, hC7⟩
            have HC7 := Bx.mk (HC6.out.trans hC7 (fun _ _ h => h))
            clear hC7 hk2 HC6
            go_wp2_with fail
            refine (known_any w7).mono ?_
            rintro e w8 ⟨rfl, hC8⟩
            have HC8 := Bx.mk (HC7.out.trans hC8 (fun _ _ h => h))
            clear hC8
            go_wp2
            go_ret
            exact ⟨rfl, HC8.out⟩
end
end Go.Proofs.Ytgboobjmafdieaa
