/-
  The walk of the law SuffixAlike: true for every input.
-/
import Derived.Test.YtmkhndajogcojaaSvRepeats
import Derived.Test.YtmkhndajogcojaaSvBackLaw
import Derived.Test.YtmkhndajogcojaaSvOrder
namespace Go.Proofs.Ytmkhndajogcojaa
open Go.RowKit Go.Oct Go.Su
theorem gs_take {s : List Int} {m j : Nat} (h : j < m) : gs (s.take m) j = gs s j := by
  unfold gs
  rw [List.getD_eq_getElem?_getD, List.getD_eq_getElem?_getD, List.getElem?_take, if_pos h]
/-- What two endings have in common is one row. -/
theorem part_one {s : List Int} {a b m : Nat} (ha : a + m ≤ s.length) (hb : b + m ≤ s.length) (h : EqK (gs s) m a b) : (s.drop a).take m = (s.drop b).take m := by
  apply List.ext_getElem?
  intro j
  rcases Nat.lt_or_ge j m with hj | hj
  · rw [List.getElem?_take, if_pos hj, List.getElem?_take, if_pos hj, List.getElem?_drop, List.getElem?_drop, gs_some (by omega), gs_some (by omega), h j hj]
  · rw [List.getElem?_eq_none (by rw [List.length_take]; omega), List.getElem?_eq_none (by rw [List.length_take]; omega)]
section
set_option maxRecDepth 100000 in
set_option maxHeartbeats 8000000 in
theorem alikelaw_any (xs : List Int) (A : Option Addr) (n c : Nat) (w : World) (hs : Sl w (fun _ => True) .i64 A n xs) :
    Calls Try.prog 9 #[.slice A n c] w fun e w' => e = .returned (.bool true) ∧ Ch (fun _ => False) w w' := by
  by_cases hlong : 200 < n
  · go_enter Try.func9, Try.ntmps9
    go_wp2
    go_ret
    exact ⟨rfl, Ch.refl _ _⟩
  · have hn : n ≤ 200 := by omega
    have d1 : decide (200 < (n : Int)) = false := by simp; omega
    have d2 : decide (200 < n) = false := by simp; omega
    have HS := Bx.mk hs
    obtain ⟨L, hL⟩ : ∃ L, cut 4 xs = L := ⟨_, rfl⟩
    have HLL := Bx.mk hL
    have HLN : Bx (L.length = n) := ⟨by rw [← hL, cut_len]; exact hs.len⟩
    clear hs hlong hL
    go_enter Try.func9, Try.ntmps9
    go_wp2_with fail
    go_loopw [3, 4] (fun v i wr => ∃ j : Nat, j ≤ n ∧ i = .int .i64 j ∧ Gr w wr v (L.take j)) (fun _ i _ => n - (intOf i).toNat)
    case atStart => exact ⟨0, Nat.zero_le _, rfl, by rw [List.take_zero]; exact Gr.nil w⟩
    case round =>
      obtain ⟨j, hj, rfl, hG⟩ := hrel
      by_cases hlt : j < n
      · obtain ⟨b1, o1, x, rfl, _, hx0, hcx⟩ := (HS.out.ch hG.ch (fun _ _ _ h => h)).at_ hlt
        have hx := cut_at (p := 4) hx0.out
        rw [HLL.out] at hx
        have ha := and3 x
        generalize (x % ((4 : Nat) : Int)).toNat = y at *
        have htk := take_more hx
        have htl : (L.take j).length = j := by rw [List.length_take, HLN.out]; omega
        generalize L.take j = P at *
        have HG := Bx.mk hG
        have HTK := Bx.mk htk
        obtain ⟨A2, c2, rfl, _, _⟩ := own_shape hG.own
        have HPL := Bx.mk htl
        have hPl : P.length ≤ 600 := by omega
        clear hG htk hx hx0 htl
        go_wp2_with (at_builtin; refine wp_app rfl (.tmp 21) (.tmp 27) elemI rfl rfl (HG.out.own.alloc _) rfl (Vs.one _ _ _) ?c1 ?c2 ?c3 ?_)
        case c1 => intro u hu; simp at hu; subst hu; rfl
        case c2 => omega
        case c3 => omega
        intro v' w2 ho1 hg1 hb1
        have HG2 : Bx (Gr w w2 v' (L.take (j + 1))) := ⟨by rw [HTK.out]; exact HG.out.one ho1 hg1 hb1⟩
        clear ho1 hg1 hb1
        go_wp2
        go_roundw
        case rel => exact ⟨j + 1, by omega, by go_num, HG2.out⟩
        case measure => simp [intOf]; omega
      · have hjn : j = n := by omega
        rw [hjn, List.take_of_length_le (by rw [HLN.out]; omega)] at hG
        obtain ⟨A2, c2, rfl, hSl, hc1, hc2⟩ := hG.shape
        rw [HLN.out] at hSl hc1
        have hLn2 := HLN.out
        rw [hLn2]
        have hc3 : c2 ≤ 9223372036854775807 := by unfold maxLen at hc2; omega
        have hl : (asI L).length = n := by rw [asI_len, HLN.out]
        obtain ⟨s, hsE⟩ : ∃ s, asI L = s := ⟨_, rfl⟩
        have HP : Bx (Pos s) := ⟨by rw [← hsE]; exact pos_asI L⟩
        rw [hsE] at hSl hl
        have har := array_ok s A2 n c2 wr hSl (by omega) HP.out
        have HSl := Bx.mk hSl
        have HL := Bx.mk hl
        have HC := Bx.mk hG.ch
        have ej : decide ((j : Int) < (n : Int)) = false := by simp; omega
        clear hG hSl hjn hLn2 hc2 hl hsE HLL HLN HS
        go_wp2_with fail
        refine har.mono ?_
        rintro e w3 ⟨A3, c3, S, rfl, hSA, hS3, _, _, hC3⟩
        have hcom := common_ok s S A2 A3 n c2 c3 w3 (HSl.out.ch hC3 (fun _ _ _ h => h)) hS3 (by omega) HP.out hSA
        have HS3 := Bx.mk hS3
        have HSA := Bx.mk hSA
        have HC3 := Bx.mk hC3
        have HSl3 := Bx.mk (HSl.out.ch hC3 (fun _ _ _ h => h))
        have HCw := Bx.mk (HC.out.trans hC3 (fun _ _ h => h))
        clear hSA hS3 hC3 har HSl HC
        go_wp2_with fail
        refine hcom.mono ?_
        rintro e w4 ⟨g4, q, rfl, hCm, hO4, hg4, hC4⟩
        have HS4 := Bx.mk (HS3.out.ch hC4 (fun _ _ _ h => h))
        have HSl4 := Bx.mk (HSl3.out.ch hC4 (fun _ _ _ h => h))
        have HCw4 := Bx.mk (HCw.out.trans hC4 (fun _ _ h => h))
        have HO4 := Bx.mk hO4
        have HCM := Bx.mk hCm
        have hnn : ((n : Int) != (n : Int)) = false := by simp
        clear hCm hO4 hg4 hC4 hcom HS3 HSl3 HCw HC3
        go_wp2_with fail
        go_loopw [9, 10, 11] (fun i _ _ wr => ∃ i' d : Nat, 1 ≤ i' ∧ (i' ≤ n ∨ i' = 1) ∧ i = .int .i64 i' ∧ wr = w4.drewN d) (fun i _ _ _ => n - (intOf i).toNat)
        case atStart => exact ⟨1, 0, Nat.le_refl _, .inr rfl, rfl, rfl⟩
        case round =>
          obtain ⟨i', d, hi1, hi2, rfl, rfl⟩ := hrel
          by_cases hin : i' < n
          · obtain ⟨i, rfl⟩ : ∃ i, i' = i + 1 := ⟨i' - 1, by omega⟩
            have jc : ((i + 1 : Nat) : Int) = (i : Int) + 1 := by omega
            obtain ⟨b3, o3, y0, rfl, _, hy0, hcy⟩ := HS4.out.at_ hin
            obtain ⟨b4, o4, x0, hA3, _, hx0, hcx⟩ := HS4.out.at_ (k := i) (by omega)
            injection hA3 with hA3
            injection hA3 with f1 f2
            subst f1 f2
            obtain ⟨b, rfl, hb⟩ := asI_at hy0.out
            obtain ⟨a, rfl, ha⟩ := asI_at hx0.out
            have han : a < n := by rw [← HL.out]; exact (HSA.out.mem a).1 (List.mem_of_getElem? ha)
            have hbn : b < n := by rw [← HL.out]; exact (HSA.out.mem b).1 (List.mem_of_getElem? hb)
            have hab : a ≠ b := fun e => by subst e; have := at_one HSA.out.nodup ha hb; omega
            obtain ⟨m, hm, hlcp⟩ := HCM.out.all i a b ha hb
            have hbd := eqk_in HP.out (by rw [HL.out]; exact han) (by rw [HL.out]; exact hbn) hab hlcp.1
            rw [HL.out] at hbd
            have hcm : w4.cell? ⟨g4, i + 1, none⟩ = some (.int .i64 (m : Int)) := HO4.out.cellAt (by unfold vals; rw [List.getElem?_map, hm]; rfl)
            obtain ⟨bs, os, _, rfl, _⟩ := HSl4.out.at_ (k := 0) (by omega)
            have hXs := (HSl4.out.drop (k := a) (by omega)).take (k := m) (by omega)
            have hYs := (HSl4.out.drop (k := b) (by omega)).take (k := m) (by omega)
            have hpo := part_one (s := s) (by rw [HL.out]; omega) (by rw [HL.out]; omega) hlcp.1
            rw [← hpo] at hYs
            have HXs := Bx.mk hXs
            have HYs := Bx.mk hYs
            have HLCP := Bx.mk hlcp
            have i1 : (0 : Int) ≤ (i : Int) := by omega
            have i2 : (i : Int) < (n : Int) := by omega
            have i3 : (0 : Int) ≤ (i : Int) + 1 := by omega
            have i4 : (i : Int) + 1 < (n : Int) := by omega
            have j1 : (i : Int) + 1 - 1 = (i : Int) := by omega
            have di : decide ((i : Int) + 1 < (n : Int)) = true := by simp; omega
            clear hy0 hx0 ha hb hm hlcp hXs hYs hpo jc hin hi1 hi2
            go_wp2_with fail
            go_quiet (fail)
            have e1 : decide ((m : Int) < 0) = false := by simp
            have e2 : decide ((n : Int) < (a : Int) + (m : Int)) = false := by simp; omega
            have e3 : decide ((n : Int) < (b : Int) + (m : Int)) = false := by simp; omega
            have k1 : (0 : Int) ≤ (a : Int) := by omega
            have k2 : (a : Int) ≤ (a : Int) + (m : Int) := by omega
            have k3 : (0 : Int) ≤ (b : Int) := by omega
            have k4 : (b : Int) ≤ (b : Int) + (m : Int) := by omega
            have e4 : decide (n < a + m) = false := by simp; omega
            have e5 : decide (n < b + m) = false := by simp; omega
            have wr1 : IntKind.i64.wrap ((a : Int) + (m : Int)) = (a : Int) + (m : Int) := IntWalk.i64_in _ (by omega)
            have wr2 : IntKind.i64.wrap ((b : Int) + (m : Int)) = (b : Int) + (m : Int) := IntWalk.i64_in _ (by omega)
            have ca : ¬ c2 = a := by omega
            have cb : ¬ c2 = b := by omega
            have k5 : (a : Int) + (m : Int) ≤ (n : Int) := by omega
            have k6 : (b : Int) + (m : Int) ≤ (n : Int) := by omega
            have k7 : (a : Int) + (m : Int) ≤ (c2 : Int) := by omega
            have k8 : (b : Int) + (m : Int) ≤ (c2 : Int) := by omega
            have t1 : ((a : Int) + (m : Int)).toNat = a + m := by omega
            have t2 : ((b : Int) + (m : Int)).toNat = b + m := by omega
            have s1 : a + m - a = m := by omega
            have s2 : b + m - b = m := by omega
            rw [World.drewN_drewN]
            generalize hW5 : w4.drewN (d + nq) = W5
            go_wp2_with fail
            have hcm5 : W5.cell? ⟨g4, i + 1, none⟩ = some (.int .i64 (m : Int)) := by rw [← hW5]; exact hcm
            have HSl5 : Bx (Sl W5 (fun b => w.heap.size ≤ b) .i64 (some ⟨bs, os, none⟩) n s) := ⟨by rw [← hW5]; exact HSl4.out.drewN _⟩
            have HIN : Bx (∀ e, Calls Try.prog 12 #[.slice (some ⟨bs, os + a, none⟩) m (c2 - a), .slice (some ⟨bs, os + b, none⟩) m (c2 - b)] (W5.drewN e) fun r w' => r = .returned (.bool true) ∧ ∃ q, w' = W5.drewN q) := ⟨fun e => ints_draw _ _ _ m (c2 - a) (c2 - b) W5 e (by rw [← hW5]; exact HXs.out.drewN _) (by rw [← hW5]; exact HYs.out.drewN _) (by omega)⟩
            have HW5 : Bx (∃ D, W5 = w4.drewN D) := ⟨⟨_, hW5.symm⟩⟩
            clear hW5 hcm HXs HYs
            go_quiet ((go_at_call 12; exact HIN.out _))
            clear HIN
            rcases Nat.lt_or_ge (a + m) n with h1 | h1
            · rcases Nat.lt_or_ge (b + m) n with h2 | h2
              · obtain ⟨b7, o7, hA7, _, hcA⟩ := Sl.gsAt HSl5.out h1
                injection hA7 with hA7
                injection hA7 with f1 f2
                subst f1 f2
                obtain ⟨b8, o8, hA8, _, hcB⟩ := Sl.gsAt HSl5.out h2
                injection hA8 with hA8
                injection hA8 with f1 f2
                subst f1 f2
                have hne := HLCP.out.2
                generalize gs s (a + m) = x at *
                generalize gs s (b + m) = y at *
                have hb3 : (x == y) = false := by simpa using hne
                have g1 : decide ((a : Int) + (m : Int) < (n : Int)) = true := by simp; omega
                have g2 : decide ((b : Int) + (m : Int) < (n : Int)) = true := by simp; omega
                have m1 : (0 : Int) ≤ (a : Int) + (m : Int) := by omega
                have m2 : (a : Int) + (m : Int) < (n : Int) := by omega
                have m3 : (0 : Int) ≤ (b : Int) + (m : Int) := by omega
                have m4 : (b : Int) + (m : Int) < (n : Int) := by omega
                clear hne
                go_wp2_with fail
                go_quiet (fail)
                go_wp2
                go_roundw
                case rel =>
                  obtain ⟨D, rfl⟩ := HW5.out
                  exact ⟨i + 1 + 1, _, by omega, .inl (by omega), by go_num, by first | exact World.drewN_drewN .. | (rw [World.drewN_drewN]; exact World.drewN_drewN ..)⟩
                case measure => simp [intOf]; omega
              · have g1 : decide ((a : Int) + (m : Int) < (n : Int)) = true := by simp; omega
                have g2 : decide ((b : Int) + (m : Int) < (n : Int)) = false := by simp; omega
                have g3 : decide (b + m < n) = false := by simp; omega
                go_wp2_with fail
                go_quiet (fail)
                go_wp2
                go_roundw
                case rel =>
                  obtain ⟨D, rfl⟩ := HW5.out
                  exact ⟨i + 1 + 1, _, by omega, .inl (by omega), by go_num, by first | exact World.drewN_drewN .. | (rw [World.drewN_drewN]; exact World.drewN_drewN ..)⟩
                case measure => simp [intOf]; omega
            · have g1 : decide ((a : Int) + (m : Int) < (n : Int)) = false := by simp; omega
              have g3 : decide (a + m < n) = false := by simp; omega
              go_wp2_with fail
              go_quiet (fail)
              go_wp2
              go_roundw
              case rel =>
                obtain ⟨D, rfl⟩ := HW5.out
                exact ⟨i + 1 + 1, _, by omega, .inl (by omega), by go_num, by first | exact World.drewN_drewN .. | (rw [World.drewN_drewN]; exact World.drewN_drewN ..)⟩
              case measure => simp [intOf]; omega
          · have di : decide ((i' : Int) < (n : Int)) = false := by simp; omega
            have hC4d := HCw4.out.drewN d
            by_cases hn0 : n = 0
            · have z1 : ((n : Int) == 0) = true := by simp; omega
              have HCd := Bx.mk hC4d
              clear hC4d hn0
              go_wp2_with fail
              refine (known_any _).mono ?_
              rintro e w6 ⟨rfl, hC6⟩
              have HC6 := Bx.mk (HCd.out.trans hC6 (fun _ _ h => h))
              clear hC6
              go_wp2
              go_ret
              exact ⟨rfl, HC6.out⟩
            · have z1 : ((n : Int) == 0) = false := by simp; omega
              have hq0 : q[0]? = some 0 := by
                have h1 := HCM.out.len
                rw [HL.out] at h1
                have h2 : q[0]? = some (q[0]'(by omega)) := List.getElem?_eq_getElem _
                rw [h2, HCM.out.zero _ h2]
              have hc0 : (w4.drewN d).cell? ⟨g4, 0, none⟩ = some (.int .i64 0) := HO4.out.cellAt (by unfold vals; rw [List.getElem?_map, hq0]; rfl)
              have z2 : (0 : Int) < (n : Int) := by omega
              have HCd := Bx.mk hC4d
              clear hC4d hn0 hq0
              go_wp2_with fail
              refine (known_any _).mono ?_
              rintro e w6 ⟨rfl, hC6⟩
              have HC6 := Bx.mk (HCd.out.trans hC6 (fun _ _ h => h))
              clear hC6
              go_wp2
              go_ret
              exact ⟨rfl, HC6.out⟩
end
end Go.Proofs.Ytmkhndajogcojaa
