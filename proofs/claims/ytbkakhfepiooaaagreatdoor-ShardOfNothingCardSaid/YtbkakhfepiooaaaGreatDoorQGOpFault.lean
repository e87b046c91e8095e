/- Lemmas and contracts of this proof. Conditions: said at each. -/
import Derived.Test.YtbkakhfepiooaaaGreatDoorQGSgFind
namespace Go.Proofs.YtbkakhfepiooaaaGreatDoor
section
open Go.RowKit Go.Oct Go.Su Go.Sg Go.Om
/-- No Client and no Seq. -/
def Bey (z : Int) : Prop := z < 0 ∨ 1099511627776 < z
instance (z : Int) : Decidable (Bey z) := by unfold Bey; exact inferInstance
theorem beyond_any (z : Int) (w : World) (o : Bool) (ho : decide (Bey z) = o) : Calls Tryz.prog 194 #[.int .i64 z] w fun e w' => e = .returned (.bool o) ∧ w = w' := by
  have HO := Bx.mk ho
  clear ho
  by_cases h1 : z < 0
  · have e1 : decide (z < 0) = true := decide_eq_true h1
    have HB : Bx (true = o) := ⟨by rw [← HO.out]; exact (decide_eq_true (.inl h1)).symm⟩
    go_enter Tryz.func194, Tryz.ntmps194
    go_wp2
    go_ret
    exact ⟨ret_bool HB.out, rfl⟩
  · have e1 : decide (z < 0) = false := decide_eq_false h1
    by_cases h2 : 1099511627776 < z
    · have e2 : decide ((1099511627776 : Int) < z) = true := decide_eq_true h2
      have HB : Bx (true = o) := ⟨by rw [← HO.out]; exact (decide_eq_true (.inr h2)).symm⟩
      go_enter Tryz.func194, Tryz.ntmps194
      go_wp2
      go_ret
      exact ⟨ret_bool HB.out, rfl⟩
    · have e2 : decide ((1099511627776 : Int) < z) = false := decide_eq_false h2
      have HB : Bx (false = o) := ⟨by rw [← HO.out]; exact (decide_eq_false (fun h => h.elim h1 h2)).symm⟩
      go_enter Tryz.func194, Tryz.ntmps194
      go_wp2
      go_ret
      exact ⟨ret_bool HB.out, rfl⟩
theorem nokey_any (k : Key) (w : World) (hk : k.length ≤ 9223372036854775807) (o : Bool) (ho : (!decide (okK k)) = o) : Calls Tryz.prog 195 #[kv k] w fun e w' => e = .returned (.bool o) ∧ w = w' := by
  obtain ⟨S, hS, hz, hq⟩ : ∃ S : ByteArray, kv k = .string S ∧ S.size = k.length ∧ (S.toList == ([] : List UInt8)) = decide (k = []) := by
    refine ⟨_, rfl, kv_size k, ?_⟩
    have h1 := str_beq k ([] : Key)
    have h2 : (⟨([] : Key).toArray⟩ : ByteArray).toList = ([] : List UInt8) := by rw [Lib.toList_data]
    rw [h2] at h1
    exact h1
  have HO := Bx.mk ho
  rw [hS]
  have HOK : Bx (okK k ↔ 1 ≤ k.length ∧ k.length ≤ 64) := ⟨Iff.rfl⟩
  have hnil : k = [] ↔ k.length = 0 := ⟨fun h => by rw [h]; rfl, fun h => List.eq_nil_of_length_eq_zero h⟩
  clear hS ho
  by_cases h1 : k = []
  · have e1 : (S.toList == ([] : List UInt8)) = true := by rw [hq]; exact decide_eq_true h1
    have HB : Bx (true = o) := ⟨by rw [← HO.out]; rw [decide_eq_false (fun h => by have := (HOK.out.1 h).1; have := hnil.1 h1; omega)]; rfl⟩
    clear hq hnil h1 hz
    go_enter Tryz.func195, Tryz.ntmps195
    go_wp2
    go_ret
    exact ⟨ret_bool HB.out, rfl⟩
  · have e1 : (S.toList == ([] : List UInt8)) = false := by rw [hq]; exact decide_eq_false h1
    have h0 : 1 ≤ k.length := by
      have : ¬ k.length = 0 := fun h => h1 (hnil.2 h)
      omega
    have H0 := Bx.mk h0
    clear hq hnil h1 h0
    generalize k.length = n at *
    by_cases h2 : 64 < n
    · have e2 : decide ((64 : Int) < (n : Int)) = true := decide_eq_true (by omega)
      have HB : Bx (true = o) := ⟨by rw [← HO.out]; rw [decide_eq_false (fun h => by have := (HOK.out.1 h).2; omega)]; rfl⟩
      go_enter Tryz.func195, Tryz.ntmps195
      go_wp2
      go_ret
      exact ⟨ret_bool HB.out, rfl⟩
    · have e2 : decide ((64 : Int) < (n : Int)) = false := decide_eq_false (by omega)
      have HB : Bx (false = o) := ⟨by rw [← HO.out]; rw [decide_eq_true (HOK.out.2 ⟨H0.out, by omega⟩)]; rfl⟩
      go_enter Tryz.func195, Tryz.ntmps195
      go_wp2
      go_ret
      exact ⟨ret_bool HB.out, rfl⟩
/-- What fault leaves. -/
def FltPost (o : Ao) (w : World) (e : Ending) (w' : World) : Prop := e = .returned (.int .i64 (errO o)) ∧ Ch (fun _ => False) w w'
theorem FltPost.one {o : Ao} {w w' : World} (h : ArgNo o) (hc : Ch (fun _ => False) w w') : FltPost o w (.returned (.int .i64 1)) w' := ⟨by unfold errO; rw [if_pos h], hc⟩
theorem FltPost.five {o : Ao} {w w' : World} (h : ¬ ArgNo o) (h5 : 4096 < o.txt.length) (hc : Ch (fun _ => False) w w') : FltPost o w (.returned (.int .i64 5)) w' := ⟨by unfold errO; rw [if_neg h, if_pos h5], hc⟩
theorem FltPost.zero {o : Ao} {w w' : World} (h : ¬ ArgNo o) (h5 : ¬ 4096 < o.txt.length) (hc : Ch (fun _ => False) w w') : FltPost o w (.returned (.int .i64 0)) w' := ⟨by unfold errO; rw [if_neg h, if_neg h5], hc⟩
theorem arg_not {o : Ao} (h1 : o.kd = 1 ∨ o.kd = 2) (h2 : ¬ Bey o.cl) (h3 : ¬ Bey o.sq) (h4 : okK o.key) (h5 : o.kd = 2 → ¬ 0 < o.txt.length) : ¬ ArgNo o := fun h => by
  unfold Bey at h2 h3
  rcases h with h | h | h | h | h | h | h
  · omega
  · omega
  · omega
  · omega
  · omega
  · exact h h4
  · exact h5 h.1 h.2
set_option maxHeartbeats 2000000 in
theorem fault_any (kd cl sq : Int) (k : Key) (xs : List Int) (A : Option Addr) (n c : Nat) (w : World) (hn : xs.length = n) (hk : k.length ≤ 9223372036854775807) :
    Calls Tryz.prog 124 #[.agg #[.int .i64 kd, .int .i64 cl, .int .i64 sq, kv k, .slice A n c]] w (FltPost ⟨kd, cl, sq, k, xs⟩ w) := by
  obtain ⟨S, hS⟩ : ∃ S : ByteArray, kv k = .string S := ⟨_, rfl⟩
  have HC : Bx (Ch (fun _ => False) w (w.alloc (.cells #[.int .i64 kd, .int .i64 cl, .int .i64 sq, .string S, .slice A n c] 114))) := ⟨(Ch.refl _ _).alloc _⟩
  have HB1 := Bx.mk (fun w => beyond_any cl w _ rfl)
  have HB2 := Bx.mk (fun w => beyond_any sq w _ rfl)
  have HB3 := Bx.mk (fun w => nokey_any k w hk _ rfl)
  rw [hS] at HB3 ⊢
  have HN := Bx.mk hn
  clear hS hn hk
  by_cases hkd : kd ≠ 1 ∧ kd ≠ 2
  · have b1 : (kd != 1) = true := by simpa using hkd.1
    have b2 : (kd != 2) = true := by simpa using hkd.2
    have HA : Bx (ArgNo ⟨kd, cl, sq, k, xs⟩) := ⟨.inl hkd⟩
    clear hkd
    go_enter Tryz.func124, Tryz.ntmps124
    go_wp2
    go_ret
    exact FltPost.one HA.out HC.out
  · have h12 : kd = 1 ∨ kd = 2 := by omega
    have H12 := Bx.mk h12
    obtain ⟨p1, hp1⟩ : ∃ p : Bool, decide (Bey cl) = p := ⟨_, rfl⟩
    obtain ⟨p2, hp2⟩ : ∃ p : Bool, decide (Bey sq) = p := ⟨_, rfl⟩
    obtain ⟨p3, hp3⟩ : ∃ p : Bool, (!decide (okK k)) = p := ⟨_, rfl⟩
    rw [hp1] at HB1
    rw [hp2] at HB2
    rw [hp3] at HB3
    have HP1 := Bx.mk hp1
    have HP2 := Bx.mk hp2
    have HP3 := Bx.mk hp3
    clear hp1 hp2 hp3 hkd
    rcases h12 with rfl | rfl
    all_goals
      go_enter Tryz.func124, Tryz.ntmps124
      go_wp2_with fail
      refine (HB1.out _).mono ?_
      rintro e w1 ⟨rfl, rfl⟩
      cases p1
      case true =>
        go_wp2
        go_ret
        exact FltPost.one ((of_decide_eq_true HP1.out).elim (fun h => .inr (.inl h)) (fun h => .inr (.inr (.inl h)))) HC.out
      go_wp2_with fail
      refine (HB2.out _).mono ?_
      rintro e w1 ⟨rfl, rfl⟩
      cases p2
      case true =>
        go_wp2
        go_ret
        exact FltPost.one ((of_decide_eq_true HP2.out).elim (fun h => .inr (.inr (.inr (.inl h)))) (fun h => .inr (.inr (.inr (.inr (.inl h)))))) HC.out
      go_wp2_with fail
      refine (HB3.out _).mono ?_
      rintro e w1 ⟨rfl, rfl⟩
      cases p3
      case true =>
        have HQ3 : Bx (¬ okK k) := ⟨fun h => by have := HP3.out; rw [decide_eq_true h] at this; simp at this⟩
        go_wp2
        go_ret
        exact FltPost.one (.inr (.inr (.inr (.inr (.inr (.inl HQ3.out)))))) HC.out
      have HQ1 : Bx (¬ Bey cl ∧ ¬ Bey sq ∧ okK k) := ⟨of_decide_eq_false HP1.out, of_decide_eq_false HP2.out, by have := HP3.out; simpa using this⟩
    · by_cases h5 : 4096 < n
      · have d5 : decide ((4096 : Int) < (n : Int)) = true := decide_eq_true (by omega)
        have HA : Bx (¬ ArgNo ⟨1, cl, sq, k, xs⟩) := ⟨arg_not (.inl rfl) HQ1.out.1 HQ1.out.2.1 HQ1.out.2.2 (fun h => by have h' : (1 : Int) = 2 := h; omega)⟩
        have HL : Bx (4096 < (⟨1, cl, sq, k, xs⟩ : Ao).txt.length) := ⟨by show 4096 < xs.length; rw [HN.out]; exact h5⟩
        go_wp2
        go_ret
        exact FltPost.five HA.out HL.out HC.out
      · have d5 : decide ((4096 : Int) < (n : Int)) = false := decide_eq_false (by omega)
        have HA : Bx (¬ ArgNo ⟨1, cl, sq, k, xs⟩) := ⟨arg_not (.inl rfl) HQ1.out.1 HQ1.out.2.1 HQ1.out.2.2 (fun h => by have h' : (1 : Int) = 2 := h; omega)⟩
        have HL : Bx (¬ 4096 < (⟨1, cl, sq, k, xs⟩ : Ao).txt.length) := ⟨by show ¬ 4096 < xs.length; rw [HN.out]; exact h5⟩
        go_wp2
        go_ret
        exact FltPost.zero HA.out HL.out HC.out
    · by_cases h0 : 0 < n
      · have d0 : decide ((0 : Int) < (n : Int)) = true := decide_eq_true (by omega)
        have HA : Bx (ArgNo ⟨2, cl, sq, k, xs⟩) := ⟨.inr (.inr (.inr (.inr (.inr (.inr ⟨rfl, by show 0 < xs.length; rw [HN.out]; exact h0⟩)))))⟩
        go_wp2
        go_ret
        exact FltPost.one HA.out HC.out
      · have d0 : decide ((0 : Int) < (n : Int)) = false := decide_eq_false (by omega)
        have d5 : decide ((4096 : Int) < (n : Int)) = false := decide_eq_false (by omega)
        have HA : Bx (¬ ArgNo ⟨2, cl, sq, k, xs⟩) := ⟨arg_not (.inr rfl) HQ1.out.1 HQ1.out.2.1 HQ1.out.2.2 (fun _ => by show ¬ 0 < xs.length; rw [HN.out]; exact h0)⟩
        have HL : Bx (¬ 4096 < (⟨2, cl, sq, k, xs⟩ : Ao).txt.length) := ⟨by show ¬ 4096 < xs.length; rw [HN.out]; omega⟩
        go_wp2
        go_ret
        exact FltPost.zero HA.out HL.out HC.out
end
section
open Go.RowKit Go.Oct Go.Su Go.Sg Go.Om
theorem arg_paths {o : Ao} (h : ArgNo o) : (o.kd ≠ 1 ∧ o.kd ≠ 2) ∨ ((o.kd = 1 ∨ o.kd = 2) ∧ (o.cl < 0 ∨ (0 ≤ o.cl ∧ 1099511627776 < o.cl) ∨ (0 ≤ o.cl ∧ o.cl ≤ 1099511627776 ∧ o.sq < 0) ∨ (0 ≤ o.cl ∧ o.cl ≤ 1099511627776 ∧ 0 ≤ o.sq ∧ 1099511627776 < o.sq) ∨
    (0 ≤ o.cl ∧ o.cl ≤ 1099511627776 ∧ 0 ≤ o.sq ∧ o.sq ≤ 1099511627776 ∧ ¬ okK o.key))) ∨ (o.kd = 2 ∧ 0 ≤ o.cl ∧ o.cl ≤ 1099511627776 ∧ 0 ≤ o.sq ∧ o.sq ≤ 1099511627776 ∧ okK o.key ∧ 0 < o.txt.length) := by
  unfold ArgNo at h
  by_cases hk : okK o.key
  · simp only [hk, not_true_eq_false, false_or, and_false, or_false, true_and] at h ⊢
    omega
  · simp only [hk, not_false_eq_true, true_or, or_true, false_and, and_false, or_false, and_true] at h ⊢
    omega
/-- What Encode leaves. -/
def EncPost (o : Ao) (w : World) (e : Ending) (w' : World) : Prop := ∃ v, e = .returned (.tuple #[v, .int .i64 (errO o)]) ∧ Fresh w v (encO o) w'
theorem EncPost.yes {o : Ao} {w w' : World} {v : Value} (h : errO o = 0) (hf : Fresh w v (encO o) w') : EncPost o w (.returned (.tuple #[v, .int .i64 0])) w' := ⟨_, by rw [h], hf⟩
theorem EncPost.no {o : Ao} {w w' : World} {z : Int} (h : errO o = z) (h0 : z ≠ 0) (hc : Ch (fun _ => False) w w') : EncPost o w (.returned (.tuple #[.slice none 0 0, .int .i64 z])) w' :=
  ⟨_, by rw [h], by unfold encO; rw [if_neg (by rw [h]; exact h0)]; exact fresh_none hc⟩
set_option maxHeartbeats 4000000 in
theorem refenc_arg (kd cl sq : Int) (k : Key) (xs : List Int) (A : Option Addr) (n c : Nat) (w : World) (hn : xs.length = n) (hk : k.length ≤ 9223372036854775807) (ha : ArgNo ⟨kd, cl, sq, k, xs⟩) :
    Calls Tryz.prog 47 #[.agg #[.int .i64 kd, .int .i64 cl, .int .i64 sq, kv k, .slice A n c]] w (EncPost ⟨kd, cl, sq, k, xs⟩ w) := by
  have HE : Bx (errO ⟨kd, cl, sq, k, xs⟩ = 1) := ⟨by unfold errO; rw [if_pos ha]⟩
  have hp := arg_paths ha
  simp only [hn] at hp
  obtain ⟨S, hS, hz⟩ : ∃ S : ByteArray, kv k = .string S ∧ S.size = k.length := ⟨_, rfl, kv_size k⟩
  have HK := Bx.mk hS
  have HKL := Bx.mk hk
  rw [hS]
  clear ha hk hz hS
  rcases hp with ⟨h1, h2⟩ | ⟨hkd, hp⟩ | ⟨rfl, h2, h3, h4, h5, h6, h7⟩
  · have b1 : (kd != 1) = true := by simpa using h1
    have b2 : (kd != 2) = true := by simpa using h2
    clear h1 h2
    go_enter Tryz.func47, Tryz.ntmps47
    go_wp2
    go_ret2
    exact EncPost.no HE.out (by omega) ((Ch.refl _ _).alloc _)
  · rcases hp with h1 | ⟨h1, h2⟩ | ⟨h1, h2, h3⟩ | ⟨h1, h2, h3, h4⟩ | ⟨h1, h2, h3, h4, h5⟩
    · rcases hkd with rfl | rfl
      · have dc0 : decide (cl < 0) = true := decide_eq_true (by omega)
        go_enter Tryz.func47, Tryz.ntmps47
        go_wp2
        go_ret2
        exact EncPost.no HE.out (by omega) ((Ch.refl _ _).alloc _)
      · have dc0 : decide (cl < 0) = true := decide_eq_true (by omega)
        go_enter Tryz.func47, Tryz.ntmps47
        go_wp2
        go_ret2
        exact EncPost.no HE.out (by omega) ((Ch.refl _ _).alloc _)
    · rcases hkd with rfl | rfl
      · have dc0 : decide (cl < 0) = false := decide_eq_false (by omega)
        have dc1 : decide ((1099511627776 : Int) < cl) = true := decide_eq_true (by omega)
        go_enter Tryz.func47, Tryz.ntmps47
        go_wp2
        go_ret2
        exact EncPost.no HE.out (by omega) ((Ch.refl _ _).alloc _)
      · have dc0 : decide (cl < 0) = false := decide_eq_false (by omega)
        have dc1 : decide ((1099511627776 : Int) < cl) = true := decide_eq_true (by omega)
        go_enter Tryz.func47, Tryz.ntmps47
        go_wp2
        go_ret2
        exact EncPost.no HE.out (by omega) ((Ch.refl _ _).alloc _)
    · rcases hkd with rfl | rfl
      · have dc0 : decide (cl < 0) = false := decide_eq_false (by omega)
        have dc1 : decide ((1099511627776 : Int) < cl) = false := decide_eq_false (by omega)
        have dq0 : decide (sq < 0) = true := decide_eq_true (by omega)
        go_enter Tryz.func47, Tryz.ntmps47
        go_wp2
        go_ret2
        exact EncPost.no HE.out (by omega) ((Ch.refl _ _).alloc _)
      · have dc0 : decide (cl < 0) = false := decide_eq_false (by omega)
        have dc1 : decide ((1099511627776 : Int) < cl) = false := decide_eq_false (by omega)
        have dq0 : decide (sq < 0) = true := decide_eq_true (by omega)
        go_enter Tryz.func47, Tryz.ntmps47
        go_wp2
        go_ret2
        exact EncPost.no HE.out (by omega) ((Ch.refl _ _).alloc _)
    · rcases hkd with rfl | rfl
      · have dc0 : decide (cl < 0) = false := decide_eq_false (by omega)
        have dc1 : decide ((1099511627776 : Int) < cl) = false := decide_eq_false (by omega)
        have dq0 : decide (sq < 0) = false := decide_eq_false (by omega)
        have dq1 : decide ((1099511627776 : Int) < sq) = true := decide_eq_true (by omega)
        go_enter Tryz.func47, Tryz.ntmps47
        go_wp2
        go_ret2
        exact EncPost.no HE.out (by omega) ((Ch.refl _ _).alloc _)
      · have dc0 : decide (cl < 0) = false := decide_eq_false (by omega)
        have dc1 : decide ((1099511627776 : Int) < cl) = false := decide_eq_false (by omega)
        have dq0 : decide (sq < 0) = false := decide_eq_false (by omega)
        have dq1 : decide ((1099511627776 : Int) < sq) = true := decide_eq_true (by omega)
        go_enter Tryz.func47, Tryz.ntmps47
        go_wp2
        go_ret2
        exact EncPost.no HE.out (by omega) ((Ch.refl _ _).alloc _)
    · rcases hkd with rfl | rfl
      · have dc0 : decide (cl < 0) = false := decide_eq_false (by omega)
        have dc1 : decide ((1099511627776 : Int) < cl) = false := decide_eq_false (by omega)
        have dq0 : decide (sq < 0) = false := decide_eq_false (by omega)
        have dq1 : decide ((1099511627776 : Int) < sq) = false := decide_eq_false (by omega)
        have HN := Bx.mk h5
        clear h5
        go_enter Tryz.func47, Tryz.ntmps47
        go_wp2_with fail
        rw [← HK.out]
        refine (key_any k _ HKL.out false (decide_eq_false HN.out)).mono ?_
        rintro e w1 ⟨rfl, rfl⟩
        go_wp2
        go_ret2
        exact EncPost.no HE.out (by omega) ((Ch.refl _ _).alloc _)
      · have dc0 : decide (cl < 0) = false := decide_eq_false (by omega)
        have dc1 : decide ((1099511627776 : Int) < cl) = false := decide_eq_false (by omega)
        have dq0 : decide (sq < 0) = false := decide_eq_false (by omega)
        have dq1 : decide ((1099511627776 : Int) < sq) = false := decide_eq_false (by omega)
        have HN := Bx.mk h5
        clear h5
        go_enter Tryz.func47, Tryz.ntmps47
        go_wp2_with fail
        rw [← HK.out]
        refine (key_any k _ HKL.out false (decide_eq_false HN.out)).mono ?_
        rintro e w1 ⟨rfl, rfl⟩
        go_wp2
        go_ret2
        exact EncPost.no HE.out (by omega) ((Ch.refl _ _).alloc _)
  · have dc0 : decide (cl < 0) = false := decide_eq_false (by omega)
    have dc1 : decide ((1099511627776 : Int) < cl) = false := decide_eq_false (by omega)
    have dq0 : decide (sq < 0) = false := decide_eq_false (by omega)
    have dq1 : decide ((1099511627776 : Int) < sq) = false := decide_eq_false (by omega)
    have dn : decide ((0 : Int) < (n : Int)) = true := decide_eq_true (by omega)
    have HN := Bx.mk h6
    clear h6
    go_enter Tryz.func47, Tryz.ntmps47
    go_wp2_with fail
    rw [← HK.out]
    refine (key_any k _ HKL.out true (decide_eq_true HN.out)).mono ?_
    rintro e w1 ⟨rfl, rfl⟩
    go_wp2
    go_ret2
    exact EncPost.no HE.out (by omega) ((Ch.refl _ _).alloc _)
set_option maxHeartbeats 1000000 in
theorem refenc_ok {F : Nat → Prop} (kd cl sq : Int) (k : Key) (xs : List Int) (A : Option Addr) (n c : Nat) (w : World) (hs : Sl w F .u8 A n xs) (hn : n ≤ 100000000000000) (ha : ¬ ArgNo ⟨kd, cl, sq, k, xs⟩) :
    Calls Tryz.prog 47 #[.agg #[.int .i64 kd, .int .i64 cl, .int .i64 sq, kv k, .slice A n c]] w (EncPost ⟨kd, cl, sq, k, xs⟩ w) := by
  have hxl := hs.len
  obtain ⟨hkd, h1, h2, h3, h4, h5, h6⟩ : (kd = 1 ∨ kd = 2) ∧ 0 ≤ cl ∧ cl ≤ 1099511627776 ∧ 0 ≤ sq ∧ sq ≤ 1099511627776 ∧ okK k ∧ (kd = 2 → n = 0) := by
    unfold ArgNo at ha
    simp only [not_or, not_and, Int.not_lt, Classical.not_not] at ha
    obtain ⟨a1, a2, a3, a4, a5, a6, a7⟩ := ha
    refine ⟨?_, a2, a3, a4, a5, a6, fun e => by have := a7 e; omega⟩
    by_cases e : kd = 1
    · exact .inl e
    · exact .inr (a1 e)
  have HE : Bx (errO ⟨kd, cl, sq, k, xs⟩ = if 4096 < n then 5 else 0) := ⟨by unfold errO; rw [if_neg ha, ← hxl]⟩
  have hk : k.length ≤ 64 := h5.2
  have HKL : Bx (k.length ≤ 9223372036854775807) := ⟨by omega⟩
  have HN := Bx.mk h5
  have HS := Bx.mk hs
  obtain ⟨S, hS, hz⟩ : ∃ S : ByteArray, kv k = .string S ∧ S.size = k.length := ⟨_, rfl, kv_size k⟩
  have HK := Bx.mk hS
  rw [hS]
  have HKS := Bx.mk hk
  have HXL := Bx.mk hxl
  clear ha hS hz h5 hs hk hxl
  have dc0 : decide (cl < 0) = false := decide_eq_false (by omega)
  have dc1 : decide ((1099511627776 : Int) < cl) = false := decide_eq_false (by omega)
  have dq0 : decide (sq < 0) = false := decide_eq_false (by omega)
  have dq1 : decide ((1099511627776 : Int) < sq) = false := decide_eq_false (by omega)
  clear h1 h2 h3 h4
  by_cases hlong : 4096 < n
  · have hkd1 : kd = 1 := by
      rcases hkd with e | e
      · exact e
      · have := h6 e; omega
    subst hkd1
    have dl : decide ((4096 : Int) < (n : Int)) = true := decide_eq_true (by omega)
    go_enter Tryz.func47, Tryz.ntmps47
    go_wp2_with fail
    rw [← HK.out]
    refine (key_any k _ HKL.out true (decide_eq_true HN.out)).mono ?_
    rintro e w1 ⟨rfl, rfl⟩
    rw [HK.out]
    have HE5 : Bx (errO ⟨1, cl, sq, k, xs⟩ = 5) := ⟨by rw [HE.out, if_pos hlong]⟩
    go_wp2
    go_ret2
    exact EncPost.no HE5.out (by omega) ((Ch.refl _ _).alloc _)
  · have dl : decide ((4096 : Int) < (n : Int)) = false := decide_eq_false (by omega)
    have HE0 : Bx (errO ⟨kd, cl, sq, k, xs⟩ = 0) := ⟨by rw [HE.out, if_neg hlong]⟩
    have HB : Bx (encO ⟨kd, cl, sq, k, xs⟩ = [kd, cl, sq].flatMap encI ++ (rowB (kI k) ++ rowB xs)) := ⟨by unfold encO bytO; rw [if_pos HE0.out]⟩
    clear HE
    rcases hkd with rfl | rfl
    · have dn : True := trivial
      go_enter Tryz.func47, Tryz.ntmps47
      go_wp2_with fail
      rw [← HK.out]
      refine (key_any k _ HKL.out true (decide_eq_true HN.out)).mono ?_
      rintro e w1 ⟨rfl, rfl⟩
      rw [HK.out]
      go_wp2_with fail
      have c3 : (w.alloc (.cells #[.int .i64 1, .int .i64 cl, .int .i64 sq, .string S, .slice A n c] 114)).cell? ⟨w.heap.size, 3, none⟩ = some (.string S) := ncells_at (j := 3) rfl
      have c4 : (w.alloc (.cells #[.int .i64 1, .int .i64 cl, .int .i64 sq, .string S, .slice A n c] 114)).cell? ⟨w.heap.size, 4, none⟩ = some (.slice A n c) := ncells_at (j := 4) rfl
      have C4 := Bx.mk c4
      have hCw : Ch (fun _ => False) w (w.alloc (.cells #[.int .i64 1, .int .i64 cl, .int .i64 sq, .string S, .slice A n c] 114)) := (Ch.refl _ _).alloc _
      have hsz := World.size_alloc w (.cells #[.int .i64 1, .int .i64 cl, .int .i64 sq, .string S, .slice A n c] 114)
      generalize (w.alloc (.cells #[.int .i64 1, .int .i64 cl, .int .i64 sq, .string S, .slice A n c] 114)) = w0 at *
      have hlit := sl_lit w0 3 .i64 [1, cl, sq]
      rw [hsz] at hlit
      have hlit : Sl (w0.alloc (.cells #[.int .i64 1, .int .i64 cl, .int .i64 sq] 3)) (fun b => b = w.heap.size + 1) .i64 (some ⟨w.heap.size + 1, 0, none⟩) 3 [1, cl, sq] := hlit
      have hC0 : Ch (fun _ => False) w0 (w0.alloc (.cells #[.int .i64 1, .int .i64 cl, .int .i64 sq] 3)) := (Ch.refl _ _).alloc _
      refine (O.refnums_any [1, cl, sq] _ 3 3 _ _ (by omega) hlit).mono ?_
      rintro e w1 ⟨v1, rfl, hf1⟩
      have HF1 := Bx.mk (Fresh.after hC0 (Fresh.rw hf1))
      have hc3 := HF1.out.2.2.cell (fun h => h) c3
      have hc4 := HF1.out.2.2.cell (fun h => h) c4
      have hX := enc3_len 1 cl sq
      have HCW := Bx.mk hCw
      generalize [1, cl, sq].flatMap encI = X1 at *
      obtain ⟨A1, c1, rfl, h11, h12⟩ := own_shape HF1.out.1
      clear hlit c3 c4 hC0 hCw hf1
      go_wp2_with (refine wp_bytes rfl (.tmp 64) rfl Tryz.underlying9 Tryz.underlying22 Tryz.underlying5 (k := k) (by have := HKS.out; unfold maxLen; omega) HK.out.symm ?_)
      intro c6 w6 _ _ hs6 hC6
      have HF6 := Bx.mk (HF1.out.keep hC6)
      have hc46 := hC6.cell (fun h => h) hc4
      have HB6 := Bx.mk (O.refbytes_any (kI k) (some ⟨w1.heap.size, 0, none⟩) k.length c6 w6 _ (by have := HKS.out; omega) hs6)
      have hY := rowB_len (kI_len k) (by have := HKS.out; omega)
      have hkl := HKS.out
      obtain ⟨Y1, hY1⟩ : ∃ Y, rowB (kI k) = Y := ⟨_, rfl⟩
      rw [hY1] at HB6 hY HB
      clear hc3 hc4 HF1 hs6 hC6 hY1
      go_wp2_with fail
      refine HB6.out.mono ?_
      rintro e w7 ⟨v7, rfl, hf7⟩
      obtain ⟨A7, c7, rfl, h71, h72⟩ := own_shape hf7.1
      have HF7 := Bx.mk (HF6.out.keep hf7.2.2)
      have HS7 := Bx.mk (Fresh.sl (Fresh.rw hf7) rfl)
      have hc47 := hf7.2.2.cell (fun h => h) hc46
      clear hf7 HB6 HF6 hc46
      go_wp2_with (at_builtin; refine wp_app rfl (.tmp 62) (.tmp 66) Tb rfl rfl HF7.out.1 rfl HS7.out ?c1 ?c2 ?c3 ?_)
      case c1 => exact ints_cells _ _
      case c2 => omega
      case c3 => omega
      intro v8 w8 ho hg hb
      have HF8 := Bx.mk (Fresh.app HF7.out hg ho hb)
      have hc48 := HF8.out.2.2.cell (fun h => h) C4.out
      have hl8 : (X1 ++ Y1).length ≤ 100 := by rw [List.length_append]; omega
      have HS8 := Bx.mk (HS.out.ch (HCW.out.trans HF8.out.2.2 (fun _ _ h => h)) (fun _ _ _ h => h))
      obtain ⟨X8, hX8⟩ : ∃ X, X1 ++ Y1 = X := ⟨_, rfl⟩
      have HX8 : Bx (X8 ++ rowB xs = X1 ++ (Y1 ++ rowB xs)) := ⟨by rw [← hX8, List.append_assoc]⟩
      rw [hX8] at HF8 hl8
      obtain ⟨A8, c8, rfl, h81, h82⟩ := own_shape HF8.out.1
      clear hX8
      clear ho hg hb HF7 HS7 hc47
      go_wp2_with fail
      refine (O.refbytes_any xs A n c w8 _ hn HS8.out).mono ?_
      rintro e w9 ⟨v9, rfl, hf9⟩
      obtain ⟨A9, c9, rfl, h91, h92⟩ := own_shape hf9.1
      have hZ := rowB_len HXL.out hn
      have HF9 := Bx.mk (HF8.out.keep hf9.2.2)
      have HS9 := Bx.mk (Fresh.sl (Fresh.rw hf9) rfl)
      clear hf9 HF8 HS8 hc48
      generalize rowB xs = Z1 at *
      go_wp2_with (at_builtin; refine wp_app rfl (.tmp 68) (.tmp 71) Tb rfl rfl HF9.out.1 rfl HS9.out ?c1 ?c2 ?c3 ?_)
      case c1 => exact ints_cells _ _
      case c2 => omega
      case c3 => omega
      intro v10 w10 ho hg hb
      have HF10 := Bx.mk (Fresh.after HCW.out (Fresh.app HF9.out hg ho hb))
      clear ho hg hb HF9 HS9
      go_wp2
      go_ret2
      exact EncPost.yes HE0.out (by rw [HB.out, ← HX8.out]; exact HF10.out)
    · have dn : decide ((0 : Int) < (n : Int)) = false := decide_eq_false (by have := h6 rfl; omega)
      have dn2 : decide (0 < n) = false := decide_eq_false (by have := h6 rfl; omega)
      clear h6
      go_enter Tryz.func47, Tryz.ntmps47
      go_wp2_with fail
      rw [← HK.out]
      refine (key_any k _ HKL.out true (decide_eq_true HN.out)).mono ?_
      rintro e w1 ⟨rfl, rfl⟩
      rw [HK.out]
      go_wp2_with fail
      have c3 : (w.alloc (.cells #[.int .i64 2, .int .i64 cl, .int .i64 sq, .string S, .slice A n c] 114)).cell? ⟨w.heap.size, 3, none⟩ = some (.string S) := ncells_at (j := 3) rfl
      have c4 : (w.alloc (.cells #[.int .i64 2, .int .i64 cl, .int .i64 sq, .string S, .slice A n c] 114)).cell? ⟨w.heap.size, 4, none⟩ = some (.slice A n c) := ncells_at (j := 4) rfl
      have C4 := Bx.mk c4
      have hCw : Ch (fun _ => False) w (w.alloc (.cells #[.int .i64 2, .int .i64 cl, .int .i64 sq, .string S, .slice A n c] 114)) := (Ch.refl _ _).alloc _
      have hsz := World.size_alloc w (.cells #[.int .i64 2, .int .i64 cl, .int .i64 sq, .string S, .slice A n c] 114)
      generalize (w.alloc (.cells #[.int .i64 2, .int .i64 cl, .int .i64 sq, .string S, .slice A n c] 114)) = w0 at *
      have hlit := sl_lit w0 3 .i64 [2, cl, sq]
      rw [hsz] at hlit
      have hlit : Sl (w0.alloc (.cells #[.int .i64 2, .int .i64 cl, .int .i64 sq] 3)) (fun b => b = w.heap.size + 1) .i64 (some ⟨w.heap.size + 1, 0, none⟩) 3 [2, cl, sq] := hlit
      have hC0 : Ch (fun _ => False) w0 (w0.alloc (.cells #[.int .i64 2, .int .i64 cl, .int .i64 sq] 3)) := (Ch.refl _ _).alloc _
      refine (O.refnums_any [2, cl, sq] _ 3 3 _ _ (by omega) hlit).mono ?_
      rintro e w1 ⟨v1, rfl, hf1⟩
      have HF1 := Bx.mk (Fresh.after hC0 (Fresh.rw hf1))
      have hc3 := HF1.out.2.2.cell (fun h => h) c3
      have hc4 := HF1.out.2.2.cell (fun h => h) c4
      have hX := enc3_len 2 cl sq
      have HCW := Bx.mk hCw
      generalize [2, cl, sq].flatMap encI = X1 at *
      obtain ⟨A1, c1, rfl, h11, h12⟩ := own_shape HF1.out.1
      clear hlit c3 c4 hC0 hCw hf1
      go_wp2_with (refine wp_bytes rfl (.tmp 64) rfl Tryz.underlying9 Tryz.underlying22 Tryz.underlying5 (k := k) (by have := HKS.out; unfold maxLen; omega) HK.out.symm ?_)
      intro c6 w6 _ _ hs6 hC6
      have HF6 := Bx.mk (HF1.out.keep hC6)
      have hc46 := hC6.cell (fun h => h) hc4
      have HB6 := Bx.mk (O.refbytes_any (kI k) (some ⟨w1.heap.size, 0, none⟩) k.length c6 w6 _ (by have := HKS.out; omega) hs6)
      have hY := rowB_len (kI_len k) (by have := HKS.out; omega)
      have hkl := HKS.out
      obtain ⟨Y1, hY1⟩ : ∃ Y, rowB (kI k) = Y := ⟨_, rfl⟩
      rw [hY1] at HB6 hY HB
      clear hc3 hc4 HF1 hs6 hC6 hY1
      go_wp2_with fail
      refine HB6.out.mono ?_
      rintro e w7 ⟨v7, rfl, hf7⟩
      obtain ⟨A7, c7, rfl, h71, h72⟩ := own_shape hf7.1
      have HF7 := Bx.mk (HF6.out.keep hf7.2.2)
      have HS7 := Bx.mk (Fresh.sl (Fresh.rw hf7) rfl)
      have hc47 := hf7.2.2.cell (fun h => h) hc46
      clear hf7 HB6 HF6 hc46
      go_wp2_with (at_builtin; refine wp_app rfl (.tmp 62) (.tmp 66) Tb rfl rfl HF7.out.1 rfl HS7.out ?c1 ?c2 ?c3 ?_)
      case c1 => exact ints_cells _ _
      case c2 => omega
      case c3 => omega
      intro v8 w8 ho hg hb
      have HF8 := Bx.mk (Fresh.app HF7.out hg ho hb)
      have hc48 := HF8.out.2.2.cell (fun h => h) C4.out
      have hl8 : (X1 ++ Y1).length ≤ 100 := by rw [List.length_append]; omega
      have HS8 := Bx.mk (HS.out.ch (HCW.out.trans HF8.out.2.2 (fun _ _ h => h)) (fun _ _ _ h => h))
      obtain ⟨X8, hX8⟩ : ∃ X, X1 ++ Y1 = X := ⟨_, rfl⟩
      have HX8 : Bx (X8 ++ rowB xs = X1 ++ (Y1 ++ rowB xs)) := ⟨by rw [← hX8, List.append_assoc]⟩
      rw [hX8] at HF8 hl8
      obtain ⟨A8, c8, rfl, h81, h82⟩ := own_shape HF8.out.1
      clear hX8
      clear ho hg hb HF7 HS7 hc47
      go_wp2_with fail
      refine (O.refbytes_any xs A n c w8 _ hn HS8.out).mono ?_
      rintro e w9 ⟨v9, rfl, hf9⟩
      obtain ⟨A9, c9, rfl, h91, h92⟩ := own_shape hf9.1
      have hZ := rowB_len HXL.out hn
      have HF9 := Bx.mk (HF8.out.keep hf9.2.2)
      have HS9 := Bx.mk (Fresh.sl (Fresh.rw hf9) rfl)
      clear hf9 HF8 HS8 hc48
      generalize rowB xs = Z1 at *
      go_wp2_with (at_builtin; refine wp_app rfl (.tmp 68) (.tmp 71) Tb rfl rfl HF9.out.1 rfl HS9.out ?c1 ?c2 ?c3 ?_)
      case c1 => exact ints_cells _ _
      case c2 => omega
      case c3 => omega
      intro v10 w10 ho hg hb
      have HF10 := Bx.mk (Fresh.after HCW.out (Fresh.app HF9.out hg ho hb))
      clear ho hg hb HF9 HS9
      go_wp2
      go_ret2
      exact EncPost.yes HE0.out (by rw [HB.out, ← HX8.out]; exact HF10.out)
end
end Go.Proofs.YtbkakhfepiooaaaGreatDoor
