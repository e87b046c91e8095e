/-
  The walk of the law SuffixRepeats: true for every input.
-/
import Derived.Test.YtmkhndajogcojaaSvKnown
namespace Go.Proofs.Ytmkhndajogcojaa
open Go.RowKit Go.Oct Go.Su
theorem and3 (x : Int) : bits .and .i64 x 3 = (((x % ((4 : Nat) : Int)).toNat : Nat) : Int) := and_low x 2 (by decide)
/-- A row again and again. -/
def again (P : List Nat) (t : Nat) : List Nat := (List.replicate t P).flatten
theorem again_len (P : List Nat) (t : Nat) : (again P t).length = t * P.length := by unfold again; simp
theorem again_next (P : List Nat) (t : Nat) : again P (t + 1) = again P t ++ P := by
  unfold again
  rw [List.replicate_succ', List.flatten_append]
  simp
section
theorem repeats_known (A : Option Addr) (n c : Nat) (t : Int) (w : World) (h : n < 1 ∨ 8 < n ∨ t < 1 ∨ 200 < t) :
    Calls Try.prog 7 #[.slice A n c, .int .i64 t] w fun e w' => e = .returned (.bool true) ∧ Ch (fun _ => False) w w' := by
  have hk := known_any w
  by_cases h1 : n < 1
  · have d1 : decide ((n : Int) < 1) = true := by simp; omega
    have d2 : decide (n < 1) = true := by simp; omega
    go_enter Try.func7, Try.ntmps7
    go_wp2_with fail
    refine hk.mono ?_
    rintro e w6 ⟨rfl, hC6⟩
    go_wp2
    go_ret
    exact ⟨rfl, hC6⟩
  · have d1 : decide ((n : Int) < 1) = false := by simp; omega
    by_cases h2 : 8 < n
    · have d2 : decide (8 < (n : Int)) = true := by simp; omega
      go_enter Try.func7, Try.ntmps7
      go_wp2_with fail
      refine hk.mono ?_
      rintro e w6 ⟨rfl, hC6⟩
      go_wp2
      go_ret
      exact ⟨rfl, hC6⟩
    · have d2 : decide (8 < (n : Int)) = false := by simp; omega
      by_cases h3 : t < 1
      · have d3 : decide (t < 1) = true := by simpa using h3
        go_enter Try.func7, Try.ntmps7
        go_wp2_with fail
        refine hk.mono ?_
        rintro e w6 ⟨rfl, hC6⟩
        go_wp2
        go_ret
        exact ⟨rfl, hC6⟩
      · have h4 : 200 < t := by omega
        have d3 : decide (t < 1) = false := by simp; omega
        have d4 : decide (200 < t) = true := by simpa using h4
        go_enter Try.func7, Try.ntmps7
        go_wp2_with fail
        refine hk.mono ?_
        rintro e w6 ⟨rfl, hC6⟩
        go_wp2
        go_ret
        exact ⟨rfl, hC6⟩
set_option maxHeartbeats 4000000 in
theorem repeats_any (xs : List Int) (A : Option Addr) (n c : Nat) (z : Int) (w : World) (hs : Sl w (fun _ => True) .i64 A n xs) :
    Calls Try.prog 7 #[.slice A n c, .int .i64 z] w fun e w' => e = .returned (.bool true) ∧ Ch (fun _ => False) w w' := by
  by_cases hout : n < 1 ∨ 8 < n ∨ z < 1 ∨ 200 < z
  · exact repeats_known A n c z w hout
  · obtain ⟨t, rfl⟩ : ∃ t : Nat, z = t := ⟨z.toNat, by omega⟩
    have hn : 1 ≤ n ∧ n ≤ 8 := by omega
    have ht : 1 ≤ t ∧ t ≤ 200 := by omega
    have d1 : decide ((n : Int) < 1) = false := by simp; omega
    have d2 : decide (8 < (n : Int)) = false := by simp; omega
    have d3 : decide ((t : Int) < 1) = false := by simp; omega
    have d4 : decide (200 < (t : Int)) = false := by simp; omega
    have HS := Bx.mk hs
    obtain ⟨P, hP⟩ : ∃ P, cut 4 xs = P := ⟨_, rfl⟩
    have HPP := Bx.mk hP
    have HPN : Bx (P.length = n) := ⟨by rw [← hP, cut_len]; exact hs.len⟩
    have HAL : Bx (∀ j, j ≤ t → (again P j).length ≤ 1600) := ⟨fun j hj => by
      rw [again_len, HPN.out]
      have : j * n ≤ 200 * 8 := Nat.mul_le_mul (by omega) hn.2
      omega⟩
    clear hs hout hP
    go_enter Try.func7, Try.ntmps7
    go_wp2_with fail
    go_loopw [5, 6, 7] (fun v i _ wr => ∃ j : Nat, j ≤ t ∧ i = .int .i64 j ∧ Gr w wr v (again P j)) (fun _ i _ _ => t - (intOf i).toNat)
    case atStart => exact ⟨0, Nat.zero_le _, rfl, Gr.nil w⟩
    case round =>
      obtain ⟨j, hj, rfl, hG⟩ := hrel
      by_cases hjt : j < t
      · have HG := Bx.mk hG
        obtain ⟨wo, rfl⟩ : ∃ wo : World, wo = wr := ⟨_, rfl⟩
        have dj : decide ((j : Int) < (t : Int)) = true := by simp; omega
        clear hG
        go_wp2_with fail
        go_loopw [5, 7] (fun v i wr => ∃ q : Nat, q ≤ n ∧ i = .int .i64 q ∧ Gr w wr v (again P j ++ P.take q)) (fun _ i _ => n - (intOf i).toNat)
        case atStart => exact ⟨0, Nat.zero_le _, rfl, by rw [List.take_zero, List.append_nil]; exact HG.out⟩
        case round =>
          obtain ⟨q, hq, rfl, hG⟩ := hrel
          by_cases hlt : q < n
          · obtain ⟨b1, o1, x, rfl, _, hx0, hcx⟩ := (HS.out.ch hG.ch (fun _ _ _ h => h)).at_ hlt
            have hx := cut_at (p := 4) hx0.out
            rw [HPP.out] at hx
            have ha := and3 x
            generalize (x % ((4 : Nat) : Int)).toNat = y at *
            have htk : again P j ++ P.take (q + 1) = (again P j ++ P.take q) ++ [y] := by rw [take_more hx, List.append_assoc]
            have hql : (again P j ++ P.take q).length ≤ 1700 := by
              have h1 := HAL.out j (by omega)
              rw [List.length_append, List.length_take]
              omega
            generalize again P j ++ P.take q = R at *
            have HG := Bx.mk hG
            have HTK := Bx.mk htk
            obtain ⟨A2, c2, rfl, _, _⟩ := own_shape hG.own
            clear hG htk hx hx0
            go_wp2_with (at_builtin; refine wp_app rfl (.tmp 40) (.tmp 46) elemI rfl rfl (HG.out.own.alloc _) rfl (Vs.one _ _ _) ?c1 ?c2 ?c3 ?_)
            case c1 => intro u hu; simp at hu; subst hu; rfl
            case c2 => omega
            case c3 => omega
            intro v' w2 ho1 hg1 hb1
            have HG2 : Bx (Gr w w2 v' (again P j ++ P.take (q + 1))) := ⟨by rw [HTK.out]; exact HG.out.one ho1 hg1 hb1⟩
            clear ho1 hg1 hb1
            go_wp2
            go_roundw
            case rel => exact ⟨q + 1, by omega, by go_num, HG2.out⟩
            case measure => simp [intOf]; omega
          · have dq : decide ((q : Int) < (n : Int)) = false := by simp; omega
            have HG2 : Bx (Gr w wr u5 (again P (j + 1))) := ⟨by
              rw [again_next]
              rw [List.take_of_length_le (by rw [HPN.out]; omega)] at hG
              exact hG⟩
            clear hG
            go_wp2
            go_roundw
            case rel => exact ⟨j + 1, by omega, by go_num, HG2.out⟩
            case measure => simp [intOf]; omega
      · have hjn : j = t := by omega
        have dj : decide ((j : Int) < (t : Int)) = false := by simp; omega
        rw [hjn] at hG
        have hlen := HAL.out t (Nat.le_refl _)
        obtain ⟨R, hR⟩ : ∃ R, again P t = R := ⟨_, rfl⟩
        rw [hR] at hG hlen
        obtain ⟨A2, c2, rfl, hSl, hc1, hc2⟩ := hG.shape
        obtain ⟨N, hN⟩ : ∃ N, R.length = N := ⟨_, rfl⟩
        rw [hN] at hSl hlen ⊢
        have har := array_any (asI R) A2 N c2 wr hSl (by omega)
        have HSl := Bx.mk hSl
        have HC := Bx.mk hG.ch
        clear hG hSl hc1 hc2 hjn hR hN HAL
        go_wp2_with fail
        refine har.mono ?_
        rintro e w2 ⟨A3, c3, m, L, rfl, hS2, hr, hC2⟩
        have har2 := refarray_any (asI R) A2 N c2 w2 (HSl.out.ch hC2 (fun _ _ _ h => h)) (by omega)
        have HS2 := Bx.mk hS2
        have HR := Bx.mk hr
        have HC2w := Bx.mk (HC.out.trans hC2 (fun _ _ h => h))
        clear hS2 hr hC2 har
        go_wp2_with fail
        refine har2.mono ?_
        rintro e w3 ⟨A4, c4, m', L', rfl, hS3, hr3, hC3⟩
        obtain ⟨rfl, rfl⟩ := arr_one HR.out hr3
        have hmn : m' ≤ N := by
          rcases hr3 with ⟨_, h, _⟩ | ⟨_, h, _⟩ <;> omega
        have hin := ints_any (asI L') A3 A4 m' c3 c4 w3 (HS2.out.ch hC3 (fun _ _ _ h => h)) hS3 (by omega)
        have HC3 := Bx.mk (HC2w.out.trans hC3 (fun _ _ h => h))
        generalize aErr (asI R) = ea at *
        have hee : (ea == ea) = true := by simp
        clear hS3 hr3 hC3 har2 HS2 HR HC2w
        go_wp2_with fail
        refine hin.mono ?_
        rintro e w4 ⟨rfl, hC4⟩
        have HC4 := Bx.mk (HC3.out.trans hC4 (fun _ _ h => h))
        clear hC4 hin HC3
        go_wp2_with fail
        refine (known_any w4).mono ?_
        rintro e w6 ⟨rfl, hC6⟩
        have HC6 := Bx.mk (HC4.out.trans hC6 (fun _ _ h => h))
        clear hC6
        go_wp2
        go_ret
        exact ⟨rfl, HC6.out⟩
end
end Go.Proofs.Ytmkhndajogcojaa
