/-
  The law OpEncodes: any op as bytes, or refused; and back.
  Conditions: the text reads as it says; nothing is longer than the form's own reach.
-/
import Derived.Test.YtanhnaohmaepoaaOpKnown
import Derived.Test.YtanhnaohmaepoaaOpDec
import Derived.Test.YtanhnaohmaepoaaOpOps
import Derived.Test.YtanhnaohmaepoaaOpLawW
namespace Go.Proofs.Ytanhnaohmaepoaa
open Go.RowKit Go.Oct Go.Su Go.Sg Go.Om

theorem w64_two {a b s : Nat} (h : a + b = s) (hs : s ≤ 1000000000000000000) : wrap64 ((a : Int) + (b : Int)) = (s : Int) := by
  unfold wrap64
  omega
theorem encO_len' {o : Ao} {N : Nat} (h : o.key.length + o.txt.length ≤ N) : (encO o).length ≤ N + 100 := by
  by_cases he : errO o = 0
  · have hk := okO.1 he
    have hkey : o.key.length ≤ 64 := hk.key.2
    have htx := hk.txt
    unfold encO bytO
    rw [if_pos he, List.length_append, List.length_append]
    have h1 := enc3_len o.kd o.cl o.sq
    have h2 := rowB_len (xs := kI o.key) rfl (by rw [kI_len]; omega)
    have h3 := rowB_len (xs := o.txt) rfl (by omega)
    rw [kI_len] at h2
    omega
  · unfold encO
    rw [if_neg he]
    simp
section
variable {F : Nat → Prop}
set_option maxHeartbeats 4000000 in
theorem opencodes_any (kd cl sq : Int) (k : Key) (xs : List Int) (A : Option Addr) (n c : Nat) (w : World)
    (hx : Sl w F .u8 A n xs) (hby : Byt xs) (_hnc : n ≤ c) (hc : c ≤ maxLen) (hn : n ≤ 140737488351232) (hk : k.length ≤ 140737488351232) :
    Calls Try.prog 3 #[.agg #[.int .i64 kd, .int .i64 cl, .int .i64 sq, kv k, .slice A n c]] w fun e w' => e = .returned (.bool true) ∧ Ch (fun _ => False) w w' := by
  obtain ⟨S, p, hS, hz, hp⟩ : ∃ (S : ByteArray) (p : Nat), kv k = .string S ∧ S.size = p ∧ k.length = p := ⟨_, _, rfl, kv_size k, rfl⟩
  obtain ⟨b0, hb0⟩ : ∃ b, w.heap.size = b := ⟨_, rfl⟩
  obtain ⟨w1, hw1⟩ : ∃ w1, w.alloc (.cells #[.int .i64 kd, .int .i64 cl, .int .i64 sq, .string S, .slice A n c] 24) = w1 := ⟨_, rfl⟩
  have hC1 : Ch (fun _ => False) w w1 := by rw [← hw1]; exact (Ch.refl _ _).alloc _
  have hA1 : OpB w1 b0 kd cl sq (.string S) (.slice A n c) := by rw [← hw1, ← hb0]; exact heap_alloc_new w _
  have HC1 := Bx.mk hC1
  have HA1 := Bx.mk hA1
  have HX := Bx.mk hx
  have HS := Bx.mk hS
  have HXL := Bx.mk hx.len
  have HBY := Bx.mk hby
  obtain ⟨y0, y1, y2, y3, y4, _, _, _, _, _⟩ := hA1.facts
  have HP := Bx.mk hp
  have HBD := Bx.mk hc
  have hc63 : c ≤ 9223372036854775807 := by unfold maxLen at hc; omega
  rw [hS]
  obtain ⟨s1, hs1⟩ : ∃ s, p + n = s := ⟨_, rfl⟩
  rw [hp] at hk
  have l1 : s1 ≤ 1000000000000000000 := by omega
  have HSUM := Bx.mk hs1
  have e1 : wrap64 ((p : Int) + (n : Int)) = (s1 : Int) := w64_two hs1 l1
  clear hC1 hA1 hx hS hp hs1 hk hc l1 hby
  by_cases hbig : 6000 < s1
  · have dt : decide ((6000 : Int) < (s1 : Int)) = true := decide_eq_true (by omega)
    go_enter Try.func3, Try.ntmps3
    go_wp2_with fail
    go_ret
    exact ⟨rfl, HC1.out⟩
  · have dt : decide ((6000 : Int) < (s1 : Int)) = false := decide_eq_false (by omega)
    have dt2 : decide (6000 < s1) = false := decide_eq_false (by omega)
    go_enter Try.func3, Try.ntmps3
    go_upto_region 3 with fail
    have hsm : p ≤ 6000 ∧ n ≤ 6000 := by have := HSUM.out; omega
    have HSM := Bx.mk hsm
    obtain ⟨hp6, hn6⟩ := hsm
    have HRM := Bx.mk (roomy_any xs A n c w1 _ (by omega) (HX.out.ch HC1.out (fun _ _ _ h => h)))
    clear e1 dt dt2 hbig hw1 hb0 hn
    go_wp2_with fail
    refine HRM.out.mono ?_
    rintro e w2 ⟨g, q, rfl, hg, hnq, hq, ho, hC2⟩
    have hq63 : q ≤ 9223372036854775807 := by unfold maxLen at hq; omega
    have hA2 := HA1.out.ch hC2 (fun h => h)
    obtain ⟨z0, z1, z2, z3, z4, _, _, _, _, _⟩ := hA2.facts
    have HO2 := Bx.mk ho
    have HC2 := Bx.mk (HC1.out.trans hC2 (fun _ _ h => h))
    have HA2 := Bx.mk hA2
    have HQ := Bx.mk hq
    have HG := Bx.mk hg
    have HCR := Bx.mk hC2
    have x4 : (w2.alloc (.cells #[.int .i64 kd, .int .i64 cl, .int .i64 sq, .string S, .slice A n c] 24)).cell? ⟨b0, 4, none⟩ = some (.slice A n c) := ((Ch.refl (fun _ => False) w2).alloc _).cell (fun h => h) z4
    clear y0 y1 y2 y3 y4 ho hC2 hA2 hg hq HRM
    go_upto_region 6 with fail
    obtain ⟨w3, hw3⟩ : ∃ w3, w2.alloc (.cells #[.int .i64 kd, .int .i64 cl, .int .i64 sq, .string S, .slice (some ⟨g, 0, none⟩) n q] 24) = w3 := ⟨_, rfl⟩
    obtain ⟨bx, hbx⟩ : ∃ b, w2.heap.size = b := ⟨_, rfl⟩
    have hX3 : OpB w3 bx kd cl sq (.string S) (.slice (some ⟨g, 0, none⟩) n q) := by rw [← hw3, ← hbx]; exact heap_alloc_new w2 _
    have hC23 : Ch (fun _ => False) w2 w3 := by rw [← hw3]; exact (Ch.refl _ _).alloc _
    rw [hw3, hbx]
    have HC3 := Bx.mk (HC2.out.trans hC23 (fun _ _ h => h))
    have HA3 := Bx.mk (HA2.out.ch hC23 (fun h => h))
    have hO3 := hC23.own HO2.out (fun _ _ h => h)
    have HO3 := Bx.mk hO3
    have hS3 : Sl w3 (fun b => b = g) .u8 (some ⟨g, 0, none⟩) n xs := by
      have h := own_takeB hO3 (k := n) (by omega)
      rw [List.take_append_of_le_length (by rw [List.length_map, HXL.out]; omega), List.take_of_length_le (by rw [List.length_map, HXL.out]; omega)] at h
      exact (Sl.of_own h).mono fun b _ hb => by simp [Value.ownBlock] at hb; omega
    have HE := Bx.mk (encode_any kd cl sq k xs (some ⟨g, 0, none⟩) n q w3 hS3 (by omega) (by omega) HQ.out (by rw [HP.out]; omega))
    rw [HS.out] at HE
    obtain ⟨r, hr⟩ : ∃ r, errO ⟨kd, cl, sq, k, xs⟩ = r := ⟨_, rfl⟩
    have HR := Bx.mk hr
    obtain ⟨R, hRR⟩ : ∃ R, encO ⟨kd, cl, sq, k, xs⟩ = R := ⟨_, rfl⟩
    have HRR := Bx.mk hRR
    obtain ⟨lx, hlx⟩ : ∃ l, R.length = l := ⟨_, rfl⟩
    have HLX := Bx.mk hlx
    have hl7 : lx ≤ 70000 := by
      have h := encO_len' (o := ⟨kd, cl, sq, k, xs⟩) (N := 12000) (by show k.length + xs.length ≤ _; rw [HP.out, HXL.out]; omega)
      rw [hRR, hlx] at h
      omega
    obtain ⟨y0, y1, y2, y3, y4, _, _, _, _, _⟩ := hX3.facts
    clear hX3 hC23 hO3 hS3 hw3 hbx hr hRR hlx z0 z1 z2 z3 z4 x4 HO2 HA2 HA1
    go_wp2_with fail
    refine HE.out.mono ?_
    rintro e w4 ⟨v4, rfl, hf4⟩
    rw [HR.out]
    rw [HRR.out] at hf4
    obtain ⟨A4, c4, rfl, h41, h42⟩ := own_shape hf4.1
    have hS4 := Fresh.sl hf4 rfl
    rw [HLX.out] at hS4 h41 ⊢
    have HS4 := Bx.mk hS4
    have HC4 := Bx.mk (HC3.out.trans hf4.2.2 (fun _ _ h => h))
    have hA4 := HA3.out.ch hf4.2.2 (fun h => h)
    obtain ⟨z0, z1, z2, z3, z4, _, _, _, _, _⟩ := hA4.facts
    have HO4 := Bx.mk (hf4.2.2.own HO3.out (fun _ _ h => h))
    have HA4 := Bx.mk hA4
    have HD4 := Bx.mk (And.intro h41 h42)
    have HRE := Bx.mk (refenc_any kd cl sq k xs A n c w4 (HX.out.ch HC4.out (fun _ _ _ h => h)) (by omega) (by rw [HP.out]; omega))
    rw [HS.out] at HRE
    clear hf4 hS4 hA4 h41 h42 HE HO3 HA3 y0 y1 y2 y3 y4
    go_wp2_with fail
    refine HRE.out.mono ?_
    rintro e w5 ⟨v5, rfl, hf5⟩
    rw [HR.out]
    rw [HRR.out] at hf5
    obtain ⟨A5, c5, rfl, _, _⟩ := own_shape hf5.1
    have hS5 := Fresh.sl hf5 rfl
    rw [HLX.out] at hS5 ⊢
    have HC5 := Bx.mk (HC4.out.trans hf5.2.2 (fun _ _ h => h))
    have hS45 := HS4.out.ch hf5.2.2 (fun _ _ _ h => h)
    have HSM := Bx.mk (same_o A4 A5 lx lx c4 c5 R R _ _ w5 (by omega) (by omega) hS45 hS5 true (by simp))
    have HS5 := Bx.mk hS45
    have HO5 := Bx.mk (hf5.2.2.own HO4.out (fun _ _ h => h))
    have HA5 := Bx.mk (HA4.out.ch hf5.2.2 (fun h => h))
    clear hf5 hS5 hS45 HRE HS4 HO4 HA4 z0 z1 z2 z3 z4
    go_wp2_with fail
    refine HSM.out.mono ?_
    rintro e w6 ⟨rfl, hC6⟩
    have hA6 := HA5.out.ch hC6 (fun h => h)
    obtain ⟨z0, z1, z2, z3, z4, _, _, _, _, _⟩ := hA6.facts
    have HC6 := Bx.mk (HC5.out.trans hC6 (fun _ _ h => h))
    have HS6 := Bx.mk (HS5.out.ch hC6 (fun _ _ _ h => h))
    have HA6 := Bx.mk hA6
    have hO6 := hC6.own HO5.out (fun _ _ h => h)
    have HST := Bx.mk (stands_any xs A n c g q w6 _ (by omega) (by omega) HQ.out (HX.out.ch HC6.out (fun _ _ _ h => h)) hO6)
    have hrr : (r != r) = false := by simp
    clear hC6 hA6 HSM HS5 HO5 HA5 hO6
    go_wp2_with fail
    refine HST.out.mono ?_
    rintro e w7 ⟨rfl, j7, hj7⟩
    have hC67 : Ch (fun _ => False) w6 w7 := by rw [hj7]; exact (Ch.refl _ _).drewN j7
    have HC7 := Bx.mk (HC6.out.trans hC67 (fun _ _ h => h))
    have HS7 := Bx.mk (HS6.out.ch hC67 (fun _ _ _ h => h))
    have HA7 := Bx.mk (HA6.out.ch hC67 (fun h => h))
    clear hC67 hj7 HST HS6 HA6 z0 z1 z2 z3 z4 hrr
    by_cases h0 : r = 0
    case neg =>
      have d0 : (r != 0) = true := by simpa using h0
      clear h0
      go_wp2_with fail
      refine (known_any w7).mono ?_
      rintro e w8 ⟨rfl, hC8⟩
      have HC8 := Bx.mk (HC7.out.trans hC8 (fun _ _ h => h))
      clear hC8
      go_wp2
      go_ret
      exact ⟨rfl, HC8.out⟩
    case pos =>
    subst h0
    have hgood : GoodO ⟨kd, cl, sq, k, xs⟩ R := by
      refine ⟨HR.out, ?_⟩
      rw [← HRR.out]
      unfold encO
      rw [if_pos HR.out]
    have HDG := Bx.mk (dec_good hgood)
    have HDC := Bx.mk (decode_any R A4 lx c4 w7 HS7.out (by rw [← HRR.out]; exact byt_op HBY.out) (by omega) HD4.out.1 HD4.out.2)
    clear hgood
    go_wp2_with fail
    refine HDC.out.mono ?_
    rintro e w8 ⟨A8, c8, rfl, hf8⟩
    rw [HDG.out.1] at hf8
    rw [HDG.out.1, HDG.out.2]
    dsimp only at hf8 ⊢
    rw [HXL.out] at hf8 ⊢
    rw [HS.out]
    have hS8 := Fresh.sl hf8 HXL.out.symm
    have hC89 : Ch (fun _ => False) w8 (w8.alloc (.cells #[.int .i64 kd, .int .i64 cl, .int .i64 sq, .string S, .slice A8 n c8] 24)) := (Ch.refl _ _).alloc _
    have hC08 := HC7.out.trans hf8.2.2 (fun _ _ h => h)
    have HC8 := Bx.mk hC08
    have HA8 := Bx.mk (HA7.out.ch hf8.2.2 (fun h => h))
    have HS8 := Bx.mk hS8
    clear hf8 HDC hS8 hC08 hC89 HA7 HS7
    go_upto_region 13 with fail
    obtain ⟨w9, hw9⟩ : ∃ w9, w8.alloc (.cells #[.int .i64 kd, .int .i64 cl, .int .i64 sq, .string S, .slice A8 n c8] 24) = w9 := ⟨_, rfl⟩
    obtain ⟨by9, hb9⟩ : ∃ b, w8.heap.size = b := ⟨_, rfl⟩
    have hY9 : OpB w9 by9 kd cl sq (.string S) (.slice A8 n c8) := by rw [← hw9, ← hb9]; exact heap_alloc_new w8 _
    have hC89 : Ch (fun _ => False) w8 w9 := by rw [← hw9]; exact (Ch.refl _ _).alloc _
    rw [hw9, hb9]
    have HC9 := Bx.mk (HC8.out.trans hC89 (fun _ _ h => h))
    obtain ⟨y0, y1, y2, y3, y4, _, _, _, _, _⟩ := hY9.facts
    obtain ⟨z0, z1, z2, z3, z4, _, _, _, _, _⟩ := (HA8.out.ch hC89 (fun h => h)).facts
    have HOP := Bx.mk (ops_any kd cl sq k xs A8 n c8 kd cl sq k xs A n c w9 (HS8.out.ch hC89 (fun _ _ _ h => h)) (HX.out.ch HC9.out (fun _ _ _ h => h)) (by omega) (by omega) true (by simp))
    rw [HS.out] at HOP
    clear hY9 hC89 hw9 hb9 HA8 HS8
    go_wp2_with fail
    refine HOP.out.mono ?_
    rintro e w10 ⟨rfl, hC10⟩
    have HC10 := Bx.mk (HC9.out.trans hC10 (fun _ _ h => h))
    clear hC10 HOP
    go_wp2_with fail
    refine (known_any w10).mono ?_
    rintro e w11 ⟨rfl, hC11⟩
    have HC11 := Bx.mk (HC10.out.trans hC11 (fun _ _ h => h))
    clear hC11
    go_wp2
    go_ret
    exact ⟨rfl, HC11.out⟩
end
end Go.Proofs.Ytanhnaohmaepoaa
