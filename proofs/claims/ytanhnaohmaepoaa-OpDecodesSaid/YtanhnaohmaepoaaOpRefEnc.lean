/-
  The contract of the document's answer haystackref13.Encode.
  Conditions: the text reads as it says; key and text are not too long.
-/
import Derived.Test.YtanhnaohmaepoaaOpW
namespace Go.Proofs.Ytanhnaohmaepoaa
open Go.RowKit Go.Oct Go.Su Go.Sg Go.Om

theorem arg_paths {o : Ao} (h : ArgNo o) : (o.kd ≠ 1 ∧ o.kd ≠ 2) ∨ ((o.kd = 1 ∨ o.kd = 2) ∧ (o.cl < 0 ∨ (0 ≤ o.cl ∧ 1099511627776 < o.cl) ∨ (0 ≤ o.cl ∧ o.cl ≤ 1099511627776 ∧ o.sq < 0) ∨ (0 ≤ o.cl ∧ o.cl ≤ 1099511627776 ∧ 0 ≤ o.sq ∧ 1099511627776 < o.sq) ∨
    (0 ≤ o.cl ∧ o.cl ≤ 1099511627776 ∧ 0 ≤ o.sq ∧ o.sq ≤ 1099511627776 ∧ ¬ okK o.key))) ∨ (o.kd = 2 ∧ 0 ≤ o.cl ∧ o.cl ≤ 1099511627776 ∧ 0 ≤ o.sq ∧ o.sq ≤ 1099511627776 ∧ okK o.key ∧ 0 < o.txt.length) := by
  unfold ArgNo at h
  by_cases hk : okK o.key
  · simp only [hk, not_true_eq_false, false_or, and_false, or_false, true_and] at h ⊢
    omega
  · simp only [hk, not_false_eq_true, true_or, or_true, false_and, and_false, or_false, and_true] at h ⊢
    omega
/-- What Encode leaves. -/
def EncPost (o : Ao) (w : World) (e : Ending) (w' : World) : Prop := ∃ v, e = .returned (.tuple #[v, .int .i64 (errO o)]) ∧ Fresh w v (encO o) w'
theorem EncPost.yes {o : Ao} {w w' : World} {v : Value} (h : errO o = 0) (hf : Fresh w v (encO o) w') : EncPost o w (.returned (.tuple #[v, .int .i64 0])) w' := ⟨_, by rw [h], hf⟩
theorem EncPost.no {o : Ao} {w w' : World} {z : Int} (h : errO o = z) (h0 : z ≠ 0) (hc : Ch (fun _ => False) w w') : EncPost o w (.returned (.tuple #[.slice none 0 0, .int .i64 z])) w' :=
  ⟨_, by rw [h], by unfold encO; rw [if_neg (by rw [h]; exact h0)]; exact fresh_none hc⟩
set_option maxHeartbeats 4000000 in
theorem refenc_arg (kd cl sq : Int) (k : Key) (xs : List Int) (A : Option Addr) (n c : Nat) (w : World) (hn : xs.length = n) (hk : k.length ≤ 9223372036854775807) (ha : ArgNo ⟨kd, cl, sq, k, xs⟩) :
    Calls Try.prog 10 #[.agg #[.int .i64 kd, .int .i64 cl, .int .i64 sq, kv k, .slice A n c]] w (EncPost ⟨kd, cl, sq, k, xs⟩ w) := by
  have HE : Bx (errO ⟨kd, cl, sq, k, xs⟩ = 1) := ⟨by unfold errO; rw [if_pos ha]⟩
  have hp := arg_paths ha
  simp only [hn] at hp
  obtain ⟨S, hS, hz⟩ : ∃ S : ByteArray, kv k = .string S ∧ S.size = k.length := ⟨_, rfl, kv_size k⟩
  have HK := Bx.mk hS
  have HKL := Bx.mk hk
  rw [hS]
  clear ha hk hz hS
  rcases hp with ⟨h1, h2⟩ | ⟨hkd, hp⟩ | ⟨rfl, h2, h3, h4, h5, h6, h7⟩
  · have b1 : (kd != 1) = true := by simpa using h1
    have b2 : (kd != 2) = true := by simpa using h2
    clear h1 h2
    go_enter Try.func10, Try.ntmps10
    go_wp2
    go_ret2
    exact EncPost.no HE.out (by omega) ((Ch.refl _ _).alloc _)
  · rcases hp with h1 | ⟨h1, h2⟩ | ⟨h1, h2, h3⟩ | ⟨h1, h2, h3, h4⟩ | ⟨h1, h2, h3, h4, h5⟩
    · rcases hkd with rfl | rfl
      · have dc0 : decide (cl < 0) = true := decide_eq_true (by omega)
        go_enter Try.func10, Try.ntmps10
        go_wp2
        go_ret2
        exact EncPost.no HE.out (by omega) ((Ch.refl _ _).alloc _)
      · have dc0 : decide (cl < 0) = true := decide_eq_true (by omega)
        go_enter Try.func10, Try.ntmps10
        go_wp2
        go_ret2
        exact EncPost.no HE.out (by omega) ((Ch.refl _ _).alloc _)
    · rcases hkd with rfl | rfl
      · have dc0 : decide (cl < 0) = false := decide_eq_false (by omega)
        have dc1 : decide ((1099511627776 : Int) < cl) = true := decide_eq_true (by omega)
        go_enter Try.func10, Try.ntmps10
        go_wp2
        go_ret2
        exact EncPost.no HE.out (by omega) ((Ch.refl _ _).alloc _)
      · have dc0 : decide (cl < 0) = false := decide_eq_false (by omega)
        have dc1 : decide ((1099511627776 : Int) < cl) = true := decide_eq_true (by omega)
        go_enter Try.func10, Try.ntmps10
        go_wp2
        go_ret2
        exact EncPost.no HE.out (by omega) ((Ch.refl _ _).alloc _)
    · rcases hkd with rfl | rfl
      · have dc0 : decide (cl < 0) = false := decide_eq_false (by omega)
        have dc1 : decide ((1099511627776 : Int) < cl) = false := decide_eq_false (by omega)
        have dq0 : decide (sq < 0) = true := decide_eq_true (by omega)
        go_enter Try.func10, Try.ntmps10
        go_wp2
        go_ret2
        exact EncPost.no HE.out (by omega) ((Ch.refl _ _).alloc _)
      · have dc0 : decide (cl < 0) = false := decide_eq_false (by omega)
        have dc1 : decide ((1099511627776 : Int) < cl) = false := decide_eq_false (by omega)
        have dq0 : decide (sq < 0) = true := decide_eq_true (by omega)
        go_enter Try.func10, Try.ntmps10
        go_wp2
        go_ret2
        exact EncPost.no HE.out (by omega) ((Ch.refl _ _).alloc _)
    · rcases hkd with rfl | rfl
      · have dc0 : decide (cl < 0) = false := decide_eq_false (by omega)
        have dc1 : decide ((1099511627776 : Int) < cl) = false := decide_eq_false (by omega)
        have dq0 : decide (sq < 0) = false := decide_eq_false (by omega)
        have dq1 : decide ((1099511627776 : Int) < sq) = true := decide_eq_true (by omega)
        go_enter Try.func10, Try.ntmps10
        go_wp2
        go_ret2
        exact EncPost.no HE.out (by omega) ((Ch.refl _ _).alloc _)
      · have dc0 : decide (cl < 0) = false := decide_eq_false (by omega)
        have dc1 : decide ((1099511627776 : Int) < cl) = false := decide_eq_false (by omega)
        have dq0 : decide (sq < 0) = false := decide_eq_false (by omega)
        have dq1 : decide ((1099511627776 : Int) < sq) = true := decide_eq_true (by omega)
        go_enter Try.func10, Try.ntmps10
        go_wp2
        go_ret2
        exact EncPost.no HE.out (by omega) ((Ch.refl _ _).alloc _)
    · rcases hkd with rfl | rfl
      · have dc0 : decide (cl < 0) = false := decide_eq_false (by omega)
        have dc1 : decide ((1099511627776 : Int) < cl) = false := decide_eq_false (by omega)
        have dq0 : decide (sq < 0) = false := decide_eq_false (by omega)
        have dq1 : decide ((1099511627776 : Int) < sq) = false := decide_eq_false (by omega)
        have HN := Bx.mk h5
        clear h5
        go_enter Try.func10, Try.ntmps10
        go_wp2_with fail
        rw [← HK.out]
        refine (key_any k _ HKL.out false (decide_eq_false HN.out)).mono ?_
        rintro e w1 ⟨rfl, rfl⟩
        go_wp2
        go_ret2
        exact EncPost.no HE.out (by omega) ((Ch.refl _ _).alloc _)
      · have dc0 : decide (cl < 0) = false := decide_eq_false (by omega)
        have dc1 : decide ((1099511627776 : Int) < cl) = false := decide_eq_false (by omega)
        have dq0 : decide (sq < 0) = false := decide_eq_false (by omega)
        have dq1 : decide ((1099511627776 : Int) < sq) = false := decide_eq_false (by omega)
        have HN := Bx.mk h5
        clear h5
        go_enter Try.func10, Try.ntmps10
        go_wp2_with fail
        rw [← HK.out]
        refine (key_any k _ HKL.out false (decide_eq_false HN.out)).mono ?_
        rintro e w1 ⟨rfl, rfl⟩
        go_wp2
        go_ret2
        exact EncPost.no HE.out (by omega) ((Ch.refl _ _).alloc _)
  · have dc0 : decide (cl < 0) = false := decide_eq_false (by omega)
    have dc1 : decide ((1099511627776 : Int) < cl) = false := decide_eq_false (by omega)
    have dq0 : decide (sq < 0) = false := decide_eq_false (by omega)
    have dq1 : decide ((1099511627776 : Int) < sq) = false := decide_eq_false (by omega)
    have dn : decide ((0 : Int) < (n : Int)) = true := decide_eq_true (by omega)
    have HN := Bx.mk h6
    clear h6
    go_enter Try.func10, Try.ntmps10
    go_wp2_with fail
    rw [← HK.out]
    refine (key_any k _ HKL.out true (decide_eq_true HN.out)).mono ?_
    rintro e w1 ⟨rfl, rfl⟩
    go_wp2
    go_ret2
    exact EncPost.no HE.out (by omega) ((Ch.refl _ _).alloc _)
set_option maxHeartbeats 1000000 in
theorem refenc_ok {F : Nat → Prop} (kd cl sq : Int) (k : Key) (xs : List Int) (A : Option Addr) (n c : Nat) (w : World) (hs : Sl w F .u8 A n xs) (hn : n ≤ 100000000000000) (ha : ¬ ArgNo ⟨kd, cl, sq, k, xs⟩) :
    Calls Try.prog 10 #[.agg #[.int .i64 kd, .int .i64 cl, .int .i64 sq, kv k, .slice A n c]] w (EncPost ⟨kd, cl, sq, k, xs⟩ w) := by
  have hxl := hs.len
  obtain ⟨hkd, h1, h2, h3, h4, h5, h6⟩ : (kd = 1 ∨ kd = 2) ∧ 0 ≤ cl ∧ cl ≤ 1099511627776 ∧ 0 ≤ sq ∧ sq ≤ 1099511627776 ∧ okK k ∧ (kd = 2 → n = 0) := by
    unfold ArgNo at ha
    simp only [not_or, not_and, Int.not_lt, Classical.not_not] at ha
    obtain ⟨a1, a2, a3, a4, a5, a6, a7⟩ := ha
    refine ⟨?_, a2, a3, a4, a5, a6, fun e => by have := a7 e; omega⟩
    by_cases e : kd = 1
    · exact .inl e
    · exact .inr (a1 e)
  have HE : Bx (errO ⟨kd, cl, sq, k, xs⟩ = if 4096 < n then 5 else 0) := ⟨by unfold errO; rw [if_neg ha, ← hxl]⟩
  have hk : k.length ≤ 64 := h5.2
  have HKL : Bx (k.length ≤ 9223372036854775807) := ⟨by omega⟩
  have HN := Bx.mk h5
  have HS := Bx.mk hs
  obtain ⟨S, hS, hz⟩ : ∃ S : ByteArray, kv k = .string S ∧ S.size = k.length := ⟨_, rfl, kv_size k⟩
  have HK := Bx.mk hS
  rw [hS]
  have HKS := Bx.mk hk
  have HXL := Bx.mk hxl
  clear ha hS hz h5 hs hk hxl
  have dc0 : decide (cl < 0) = false := decide_eq_false (by omega)
  have dc1 : decide ((1099511627776 : Int) < cl) = false := decide_eq_false (by omega)
  have dq0 : decide (sq < 0) = false := decide_eq_false (by omega)
  have dq1 : decide ((1099511627776 : Int) < sq) = false := decide_eq_false (by omega)
  clear h1 h2 h3 h4
  by_cases hlong : 4096 < n
  · have hkd1 : kd = 1 := by
      rcases hkd with e | e
      · exact e
      · have := h6 e; omega
    subst hkd1
    have dl : decide ((4096 : Int) < (n : Int)) = true := decide_eq_true (by omega)
    go_enter Try.func10, Try.ntmps10
    go_wp2_with fail
    rw [← HK.out]
    refine (key_any k _ HKL.out true (decide_eq_true HN.out)).mono ?_
    rintro e w1 ⟨rfl, rfl⟩
    rw [HK.out]
    have HE5 : Bx (errO ⟨1, cl, sq, k, xs⟩ = 5) := ⟨by rw [HE.out, if_pos hlong]⟩
    go_wp2
    go_ret2
    exact EncPost.no HE5.out (by omega) ((Ch.refl _ _).alloc _)
  · have dl : decide ((4096 : Int) < (n : Int)) = false := decide_eq_false (by omega)
    have HE0 : Bx (errO ⟨kd, cl, sq, k, xs⟩ = 0) := ⟨by rw [HE.out, if_neg hlong]⟩
    have HB : Bx (encO ⟨kd, cl, sq, k, xs⟩ = [kd, cl, sq].flatMap encI ++ (rowB (kI k) ++ rowB xs)) := ⟨by unfold encO bytO; rw [if_pos HE0.out]⟩
    clear HE
    rcases hkd with rfl | rfl
    · have dn : True := trivial
      go_enter Try.func10, Try.ntmps10
      go_wp2_with fail
      rw [← HK.out]
      refine (key_any k _ HKL.out true (decide_eq_true HN.out)).mono ?_
      rintro e w1 ⟨rfl, rfl⟩
      rw [HK.out]
      go_wp2_with fail
      have c3 : (w.alloc (.cells #[.int .i64 1, .int .i64 cl, .int .i64 sq, .string S, .slice A n c] 24)).cell? ⟨w.heap.size, 3, none⟩ = some (.string S) := ncells_at (j := 3) rfl
      have c4 : (w.alloc (.cells #[.int .i64 1, .int .i64 cl, .int .i64 sq, .string S, .slice A n c] 24)).cell? ⟨w.heap.size, 4, none⟩ = some (.slice A n c) := ncells_at (j := 4) rfl
      have C4 := Bx.mk c4
      have hCw : Ch (fun _ => False) w (w.alloc (.cells #[.int .i64 1, .int .i64 cl, .int .i64 sq, .string S, .slice A n c] 24)) := (Ch.refl _ _).alloc _
      have hsz := World.size_alloc w (.cells #[.int .i64 1, .int .i64 cl, .int .i64 sq, .string S, .slice A n c] 24)
      generalize (w.alloc (.cells #[.int .i64 1, .int .i64 cl, .int .i64 sq, .string S, .slice A n c] 24)) = w0 at *
      have hlit := sl_lit w0 3 .i64 [1, cl, sq]
      rw [hsz] at hlit
      have hlit : Sl (w0.alloc (.cells #[.int .i64 1, .int .i64 cl, .int .i64 sq] 3)) (fun b => b = w.heap.size + 1) .i64 (some ⟨w.heap.size + 1, 0, none⟩) 3 [1, cl, sq] := hlit
      have hC0 : Ch (fun _ => False) w0 (w0.alloc (.cells #[.int .i64 1, .int .i64 cl, .int .i64 sq] 3)) := (Ch.refl _ _).alloc _
      refine (O.refnums_any [1, cl, sq] _ 3 3 _ _ (by omega) hlit).mono ?_
      rintro e w1 ⟨v1, rfl, hf1⟩
      have HF1 := Bx.mk (Fresh.after hC0 (Fresh.rw hf1))
      have hc3 := HF1.out.2.2.cell (fun h => h) c3
      have hc4 := HF1.out.2.2.cell (fun h => h) c4
      have hX := enc3_len 1 cl sq
      have HCW := Bx.mk hCw
      generalize [1, cl, sq].flatMap encI = X1 at *
      obtain ⟨A1, c1, rfl, h11, h12⟩ := own_shape HF1.out.1
      clear hlit c3 c4 hC0 hCw hf1
      go_wp2_with (refine wp_bytes rfl (.tmp 64) rfl Try.underlying9 Try.underlying22 Try.underlying5 (k := k) (by have := HKS.out; unfold maxLen; omega) HK.out.symm ?_)
      intro c6 w6 _ _ hs6 hC6
      have HF6 := Bx.mk (HF1.out.keep hC6)
      have hc46 := hC6.cell (fun h => h) hc4
      have HB6 := Bx.mk (O.refbytes_any (kI k) (some ⟨w1.heap.size, 0, none⟩) k.length c6 w6 _ (by have := HKS.out; omega) hs6)
      have hY := rowB_len (kI_len k) (by have := HKS.out; omega)
      have hkl := HKS.out
      obtain ⟨Y1, hY1⟩ : ∃ Y, rowB (kI k) = Y := ⟨_, rfl⟩
      rw [hY1] at HB6 hY HB
      clear hc3 hc4 HF1 hs6 hC6 hY1
      go_wp2_with fail
      refine HB6.out.mono ?_
      rintro e w7 ⟨v7, rfl, hf7⟩
      obtain ⟨A7, c7, rfl, h71, h72⟩ := own_shape hf7.1
      have HF7 := Bx.mk (HF6.out.keep hf7.2.2)
      have HS7 := Bx.mk (Fresh.sl (Fresh.rw hf7) rfl)
      have hc47 := hf7.2.2.cell (fun h => h) hc46
      clear hf7 HB6 HF6 hc46
      go_wp2_with (at_builtin; refine wp_app rfl (.tmp 62) (.tmp 66) Tb rfl rfl HF7.out.1 rfl HS7.out ?c1 ?c2 ?c3 ?_)
      case c1 => exact ints_cells _ _
      case c2 => omega
      case c3 => omega
      intro v8 w8 ho hg hb
      have HF8 := Bx.mk (Fresh.app HF7.out hg ho hb)
      have hc48 := HF8.out.2.2.cell (fun h => h) C4.out
      have hl8 : (X1 ++ Y1).length ≤ 100 := by rw [List.length_append]; omega
      have HS8 := Bx.mk (HS.out.ch (HCW.out.trans HF8.out.2.2 (fun _ _ h => h)) (fun _ _ _ h => h))
      obtain ⟨X8, hX8⟩ : ∃ X, X1 ++ Y1 = X := ⟨_, rfl⟩
      have HX8 : Bx (X8 ++ rowB xs = X1 ++ (Y1 ++ rowB xs)) := ⟨by rw [← hX8, List.append_assoc]⟩
      rw [hX8] at HF8 hl8
      obtain ⟨A8, c8, rfl, h81, h82⟩ := own_shape HF8.out.1
      clear hX8
      clear ho hg hb HF7 HS7 hc47
      go_wp2_with fail
      refine (O.refbytes_any xs A n c w8 _ hn HS8.out).mono ?_
      rintro e w9 ⟨v9, rfl, hf9⟩
      obtain ⟨A9, c9, rfl, h91, h92⟩ := own_shape hf9.1
      have hZ := rowB_len HXL.out hn
      have HF9 := Bx.mk (HF8.out.keep hf9.2.2)
      have HS9 := Bx.mk (Fresh.sl (Fresh.rw hf9) rfl)
      clear hf9 HF8 HS8 hc48
      generalize rowB xs = Z1 at *
      go_wp2_with (at_builtin; refine wp_app rfl (.tmp 68) (.tmp 71) Tb rfl rfl HF9.out.1 rfl HS9.out ?c1 ?c2 ?c3 ?_)
      case c1 => exact ints_cells _ _
      case c2 => omega
      case c3 => omega
      intro v10 w10 ho hg hb
      have HF10 := Bx.mk (Fresh.after HCW.out (Fresh.app HF9.out hg ho hb))
      clear ho hg hb HF9 HS9
      go_wp2
      go_ret2
      exact EncPost.yes HE0.out (by rw [HB.out, ← HX8.out]; exact HF10.out)
    · have dn : decide ((0 : Int) < (n : Int)) = false := decide_eq_false (by have := h6 rfl; omega)
      have dn2 : decide (0 < n) = false := decide_eq_false (by have := h6 rfl; omega)
      clear h6
      go_enter Try.func10, Try.ntmps10
      go_wp2_with fail
      rw [← HK.out]
      refine (key_any k _ HKL.out true (decide_eq_true HN.out)).mono ?_
      rintro e w1 ⟨rfl, rfl⟩
      rw [HK.out]
      go_wp2_with fail
      have c3 : (w.alloc (.cells #[.int .i64 2, .int .i64 cl, .int .i64 sq, .string S, .slice A n c] 24)).cell? ⟨w.heap.size, 3, none⟩ = some (.string S) := ncells_at (j := 3) rfl
      have c4 : (w.alloc (.cells #[.int .i64 2, .int .i64 cl, .int .i64 sq, .string S, .slice A n c] 24)).cell? ⟨w.heap.size, 4, none⟩ = some (.slice A n c) := ncells_at (j := 4) rfl
      have C4 := Bx.mk c4
      have hCw : Ch (fun _ => False) w (w.alloc (.cells #[.int .i64 2, .int .i64 cl, .int .i64 sq, .string S, .slice A n c] 24)) := (Ch.refl _ _).alloc _
      have hsz := World.size_alloc w (.cells #[.int .i64 2, .int .i64 cl, .int .i64 sq, .string S, .slice A n c] 24)
      generalize (w.alloc (.cells #[.int .i64 2, .int .i64 cl, .int .i64 sq, .string S, .slice A n c] 24)) = w0 at *
      have hlit := sl_lit w0 3 .i64 [2, cl, sq]
      rw [hsz] at hlit
      have hlit : Sl (w0.alloc (.cells #[.int .i64 2, .int .i64 cl, .int .i64 sq] 3)) (fun b => b = w.heap.size + 1) .i64 (some ⟨w.heap.size + 1, 0, none⟩) 3 [2, cl, sq] := hlit
      have hC0 : Ch (fun _ => False) w0 (w0.alloc (.cells #[.int .i64 2, .int .i64 cl, .int .i64 sq] 3)) := (Ch.refl _ _).alloc _
      refine (O.refnums_any [2, cl, sq] _ 3 3 _ _ (by omega) hlit).mono ?_
      rintro e w1 ⟨v1, rfl, hf1⟩
      have HF1 := Bx.mk (Fresh.after hC0 (Fresh.rw hf1))
      have hc3 := HF1.out.2.2.cell (fun h => h) c3
      have hc4 := HF1.out.2.2.cell (fun h => h) c4
      have hX := enc3_len 2 cl sq
      have HCW := Bx.mk hCw
      generalize [2, cl, sq].flatMap encI = X1 at *
      obtain ⟨A1, c1, rfl, h11, h12⟩ := own_shape HF1.out.1
      clear hlit c3 c4 hC0 hCw hf1
      go_wp2_with (refine wp_bytes rfl (.tmp 64) rfl Try.underlying9 Try.underlying22 Try.underlying5 (k := k) (by have := HKS.out; unfold maxLen; omega) HK.out.symm ?_)
      intro c6 w6 _ _ hs6 hC6
      have HF6 := Bx.mk (HF1.out.keep hC6)
      have hc46 := hC6.cell (fun h => h) hc4
      have HB6 := Bx.mk (O.refbytes_any (kI k) (some ⟨w1.heap.size, 0, none⟩) k.length c6 w6 _ (by have := HKS.out; omega) hs6)
      have hY := rowB_len (kI_len k) (by have := HKS.out; omega)
      have hkl := HKS.out
      obtain ⟨Y1, hY1⟩ : ∃ Y, rowB (kI k) = Y := ⟨_, rfl⟩
      rw [hY1] at HB6 hY HB
      clear hc3 hc4 HF1 hs6 hC6 hY1
      go_wp2_with fail
      refine HB6.out.mono ?_
      rintro e w7 ⟨v7, rfl, hf7⟩
      obtain ⟨A7, c7, rfl, h71, h72⟩ := own_shape hf7.1
      have HF7 := Bx.mk (HF6.out.keep hf7.2.2)
      have HS7 := Bx.mk (Fresh.sl (Fresh.rw hf7) rfl)
      have hc47 := hf7.2.2.cell (fun h => h) hc46
      clear hf7 HB6 HF6 hc46
      go_wp2_with (at_builtin; refine wp_app rfl (.tmp 62) (.tmp 66) Tb rfl rfl HF7.out.1 rfl HS7.out ?c1 ?c2 ?c3 ?_)
      case c1 => exact ints_cells _ _
      case c2 => omega
      case c3 => omega
      intro v8 w8 ho hg hb
      have HF8 := Bx.mk (Fresh.app HF7.out hg ho hb)
      have hc48 := HF8.out.2.2.cell (fun h => h) C4.out
      have hl8 : (X1 ++ Y1).length ≤ 100 := by rw [List.length_append]; omega
      have HS8 := Bx.mk (HS.out.ch (HCW.out.trans HF8.out.2.2 (fun _ _ h => h)) (fun _ _ _ h => h))
      obtain ⟨X8, hX8⟩ : ∃ X, X1 ++ Y1 = X := ⟨_, rfl⟩
      have HX8 : Bx (X8 ++ rowB xs = X1 ++ (Y1 ++ rowB xs)) := ⟨by rw [← hX8, List.append_assoc]⟩
      rw [hX8] at HF8 hl8
      obtain ⟨A8, c8, rfl, h81, h82⟩ := own_shape HF8.out.1
      clear hX8
      clear ho hg hb HF7 HS7 hc47
      go_wp2_with fail
      refine (O.refbytes_any xs A n c w8 _ hn HS8.out).mono ?_
      rintro e w9 ⟨v9, rfl, hf9⟩
      obtain ⟨A9, c9, rfl, h91, h92⟩ := own_shape hf9.1
      have hZ := rowB_len HXL.out hn
      have HF9 := Bx.mk (HF8.out.keep hf9.2.2)
      have HS9 := Bx.mk (Fresh.sl (Fresh.rw hf9) rfl)
      clear hf9 HF8 HS8 hc48
      generalize rowB xs = Z1 at *
      go_wp2_with (at_builtin; refine wp_app rfl (.tmp 68) (.tmp 71) Tb rfl rfl HF9.out.1 rfl HS9.out ?c1 ?c2 ?c3 ?_)
      case c1 => exact ints_cells _ _
      case c2 => omega
      case c3 => omega
      intro v10 w10 ho hg hb
      have HF10 := Bx.mk (Fresh.after HCW.out (Fresh.app HF9.out hg ho hb))
      clear ho hg hb HF9 HS9
      go_wp2
      go_ret2
      exact EncPost.yes HE0.out (by rw [HB.out, ← HX8.out]; exact HF10.out)
end Go.Proofs.Ytanhnaohmaepoaa
