/-
  The contracts of op's beyond, noKey and fault: why an op may not be.
  Conditions: the key is not too long to be a text.
-/
import Derived.Test.YtanhnaohmaepoaaOpW
namespace Go.Proofs.Ytanhnaohmaepoaa
open Go.RowKit Go.Oct Go.Su Go.Sg Go.Om

/-- No Client and no Seq. -/
def Bey (z : Int) : Prop := z < 0 ∨ 1099511627776 < z
instance (z : Int) : Decidable (Bey z) := by unfold Bey; exact inferInstance
theorem beyond_any (z : Int) (w : World) (o : Bool) (ho : decide (Bey z) = o) : Calls Try.prog 46 #[.int .i64 z] w fun e w' => e = .returned (.bool o) ∧ w = w' := by
  have HO := Bx.mk ho
  clear ho
  by_cases h1 : z < 0
  · have e1 : decide (z < 0) = true := decide_eq_true h1
    have HB : Bx (true = o) := ⟨by rw [← HO.out]; exact (decide_eq_true (.inl h1)).symm⟩
    go_enter Try.func46, Try.ntmps46
    go_wp2
    go_ret
    exact ⟨ret_bool HB.out, rfl⟩
  · have e1 : decide (z < 0) = false := decide_eq_false h1
    by_cases h2 : 1099511627776 < z
    · have e2 : decide ((1099511627776 : Int) < z) = true := decide_eq_true h2
      have HB : Bx (true = o) := ⟨by rw [← HO.out]; exact (decide_eq_true (.inr h2)).symm⟩
      go_enter Try.func46, Try.ntmps46
      go_wp2
      go_ret
      exact ⟨ret_bool HB.out, rfl⟩
    · have e2 : decide ((1099511627776 : Int) < z) = false := decide_eq_false h2
      have HB : Bx (false = o) := ⟨by rw [← HO.out]; exact (decide_eq_false (fun h => h.elim h1 h2)).symm⟩
      go_enter Try.func46, Try.ntmps46
      go_wp2
      go_ret
      exact ⟨ret_bool HB.out, rfl⟩
theorem nokey_any (k : Key) (w : World) (hk : k.length ≤ 9223372036854775807) (o : Bool) (ho : (!decide (okK k)) = o) : Calls Try.prog 43 #[kv k] w fun e w' => e = .returned (.bool o) ∧ w = w' := by
  obtain ⟨S, hS, hz, hq⟩ : ∃ S : ByteArray, kv k = .string S ∧ S.size = k.length ∧ (S.toList == ([] : List UInt8)) = decide (k = []) := by
    refine ⟨_, rfl, kv_size k, ?_⟩
    have h1 := str_beq k ([] : Key)
    have h2 : (⟨([] : Key).toArray⟩ : ByteArray).toList = ([] : List UInt8) := by rw [Lib.toList_data]
    rw [h2] at h1
    exact h1
  have HO := Bx.mk ho
  rw [hS]
  have HOK : Bx (okK k ↔ 1 ≤ k.length ∧ k.length ≤ 64) := ⟨Iff.rfl⟩
  have hnil : k = [] ↔ k.length = 0 := ⟨fun h => by rw [h]; rfl, fun h => List.eq_nil_of_length_eq_zero h⟩
  clear hS ho
  by_cases h1 : k = []
  · have e1 : (S.toList == ([] : List UInt8)) = true := by rw [hq]; exact decide_eq_true h1
    have HB : Bx (true = o) := ⟨by rw [← HO.out]; rw [decide_eq_false (fun h => by have := (HOK.out.1 h).1; have := hnil.1 h1; omega)]; rfl⟩
    clear hq hnil h1 hz
    go_enter Try.func43, Try.ntmps43
    go_wp2
    go_ret
    exact ⟨ret_bool HB.out, rfl⟩
  · have e1 : (S.toList == ([] : List UInt8)) = false := by rw [hq]; exact decide_eq_false h1
    have h0 : 1 ≤ k.length := by
      have : ¬ k.length = 0 := fun h => h1 (hnil.2 h)
      omega
    have H0 := Bx.mk h0
    clear hq hnil h1 h0
    generalize k.length = n at *
    by_cases h2 : 64 < n
    · have e2 : decide ((64 : Int) < (n : Int)) = true := decide_eq_true (by omega)
      have HB : Bx (true = o) := ⟨by rw [← HO.out]; rw [decide_eq_false (fun h => by have := (HOK.out.1 h).2; omega)]; rfl⟩
      go_enter Try.func43, Try.ntmps43
      go_wp2
      go_ret
      exact ⟨ret_bool HB.out, rfl⟩
    · have e2 : decide ((64 : Int) < (n : Int)) = false := decide_eq_false (by omega)
      have HB : Bx (false = o) := ⟨by rw [← HO.out]; rw [decide_eq_true (HOK.out.2 ⟨H0.out, by omega⟩)]; rfl⟩
      go_enter Try.func43, Try.ntmps43
      go_wp2
      go_ret
      exact ⟨ret_bool HB.out, rfl⟩
/-- What fault leaves. -/
def FltPost (o : Ao) (w : World) (e : Ending) (w' : World) : Prop := e = .returned (.int .i64 (errO o)) ∧ Ch (fun _ => False) w w'
theorem FltPost.one {o : Ao} {w w' : World} (h : ArgNo o) (hc : Ch (fun _ => False) w w') : FltPost o w (.returned (.int .i64 1)) w' := ⟨by unfold errO; rw [if_pos h], hc⟩
theorem FltPost.five {o : Ao} {w w' : World} (h : ¬ ArgNo o) (h5 : 4096 < o.txt.length) (hc : Ch (fun _ => False) w w') : FltPost o w (.returned (.int .i64 5)) w' := ⟨by unfold errO; rw [if_neg h, if_pos h5], hc⟩
theorem FltPost.zero {o : Ao} {w w' : World} (h : ¬ ArgNo o) (h5 : ¬ 4096 < o.txt.length) (hc : Ch (fun _ => False) w w') : FltPost o w (.returned (.int .i64 0)) w' := ⟨by unfold errO; rw [if_neg h, if_neg h5], hc⟩
theorem arg_not {o : Ao} (h1 : o.kd = 1 ∨ o.kd = 2) (h2 : ¬ Bey o.cl) (h3 : ¬ Bey o.sq) (h4 : okK o.key) (h5 : o.kd = 2 → ¬ 0 < o.txt.length) : ¬ ArgNo o := fun h => by
  unfold Bey at h2 h3
  rcases h with h | h | h | h | h | h | h
  · omega
  · omega
  · omega
  · omega
  · omega
  · exact h h4
  · exact h5 h.1 h.2
set_option maxHeartbeats 2000000 in
theorem fault_any (kd cl sq : Int) (k : Key) (xs : List Int) (A : Option Addr) (n c : Nat) (w : World) (hn : xs.length = n) (hk : k.length ≤ 9223372036854775807) :
    Calls Try.prog 27 #[.agg #[.int .i64 kd, .int .i64 cl, .int .i64 sq, kv k, .slice A n c]] w (FltPost ⟨kd, cl, sq, k, xs⟩ w) := by
  obtain ⟨S, hS⟩ : ∃ S : ByteArray, kv k = .string S := ⟨_, rfl⟩
  have HC : Bx (Ch (fun _ => False) w (w.alloc (.cells #[.int .i64 kd, .int .i64 cl, .int .i64 sq, .string S, .slice A n c] 24))) := ⟨(Ch.refl _ _).alloc _⟩
  have HB1 := Bx.mk (fun w => beyond_any cl w _ rfl)
  have HB2 := Bx.mk (fun w => beyond_any sq w _ rfl)
  have HB3 := Bx.mk (fun w => nokey_any k w hk _ rfl)
  rw [hS] at HB3 ⊢
  have HN := Bx.mk hn
  clear hS hn hk
  by_cases hkd : kd ≠ 1 ∧ kd ≠ 2
  · have b1 : (kd != 1) = true := by simpa using hkd.1
    have b2 : (kd != 2) = true := by simpa using hkd.2
    have HA : Bx (ArgNo ⟨kd, cl, sq, k, xs⟩) := ⟨.inl hkd⟩
    clear hkd
    go_enter Try.func27, Try.ntmps27
    go_wp2
    go_ret
    exact FltPost.one HA.out HC.out
  · have h12 : kd = 1 ∨ kd = 2 := by omega
    have H12 := Bx.mk h12
    obtain ⟨p1, hp1⟩ : ∃ p : Bool, decide (Bey cl) = p := ⟨_, rfl⟩
    obtain ⟨p2, hp2⟩ : ∃ p : Bool, decide (Bey sq) = p := ⟨_, rfl⟩
    obtain ⟨p3, hp3⟩ : ∃ p : Bool, (!decide (okK k)) = p := ⟨_, rfl⟩
    rw [hp1] at HB1
    rw [hp2] at HB2
    rw [hp3] at HB3
    have HP1 := Bx.mk hp1
    have HP2 := Bx.mk hp2
    have HP3 := Bx.mk hp3
    clear hp1 hp2 hp3 hkd
    rcases h12 with rfl | rfl
    all_goals
      go_enter Try.func27, Try.ntmps27
      go_wp2_with fail
      refine (HB1.out _).mono ?_
      rintro e w1 ⟨rfl, rfl⟩
      cases p1
      case true =>
        go_wp2
        go_ret
        exact FltPost.one ((of_decide_eq_true HP1.out).elim (fun h => .inr (.inl h)) (fun h => .inr (.inr (.inl h)))) HC.out
      go_wp2_with fail
      refine (HB2.out _).mono ?_
      rintro e w1 ⟨rfl, rfl⟩
      cases p2
      case true =>
        go_wp2
        go_ret
        exact FltPost.one ((of_decide_eq_true HP2.out).elim (fun h => .inr (.inr (.inr (.inl h)))) (fun h => .inr (.inr (.inr (.inr (.inl h)))))) HC.out
      go_wp2_with fail
      refine (HB3.out _).mono ?_
      rintro e w1 ⟨rfl, rfl⟩
      cases p3
      case true =>
        have HQ3 : Bx (¬ okK k) := ⟨fun h => by have := HP3.out; rw [decide_eq_true h] at this; simp at this⟩
        go_wp2
        go_ret
        exact FltPost.one (.inr (.inr (.inr (.inr (.inr (.inl HQ3.out)))))) HC.out
      have HQ1 : Bx (¬ Bey cl ∧ ¬ Bey sq ∧ okK k) := ⟨of_decide_eq_false HP1.out, of_decide_eq_false HP2.out, by have := HP3.out; simpa using this⟩
    · by_cases h5 : 4096 < n
      · have d5 : decide ((4096 : Int) < (n : Int)) = true := decide_eq_true (by omega)
        have HA : Bx (¬ ArgNo ⟨1, cl, sq, k, xs⟩) := ⟨arg_not (.inl rfl) HQ1.out.1 HQ1.out.2.1 HQ1.out.2.2 (fun h => by have h' : (1 : Int) = 2 := h; omega)⟩
        have HL : Bx (4096 < (⟨1, cl, sq, k, xs⟩ : Ao).txt.length) := ⟨by show 4096 < xs.length; rw [HN.out]; exact h5⟩
        go_wp2
        go_ret
        exact FltPost.five HA.out HL.out HC.out
      · have d5 : decide ((4096 : Int) < (n : Int)) = false := decide_eq_false (by omega)
        have HA : Bx (¬ ArgNo ⟨1, cl, sq, k, xs⟩) := ⟨arg_not (.inl rfl) HQ1.out.1 HQ1.out.2.1 HQ1.out.2.2 (fun h => by have h' : (1 : Int) = 2 := h; omega)⟩
        have HL : Bx (¬ 4096 < (⟨1, cl, sq, k, xs⟩ : Ao).txt.length) := ⟨by show ¬ 4096 < xs.length; rw [HN.out]; exact h5⟩
        go_wp2
        go_ret
        exact FltPost.zero HA.out HL.out HC.out
    · by_cases h0 : 0 < n
      · have d0 : decide ((0 : Int) < (n : Int)) = true := decide_eq_true (by omega)
        have HA : Bx (ArgNo ⟨2, cl, sq, k, xs⟩) := ⟨.inr (.inr (.inr (.inr (.inr (.inr ⟨rfl, by show 0 < xs.length; rw [HN.out]; exact h0⟩)))))⟩
        go_wp2
        go_ret
        exact FltPost.one HA.out HC.out
      · have d0 : decide ((0 : Int) < (n : Int)) = false := decide_eq_false (by omega)
        have d5 : decide ((4096 : Int) < (n : Int)) = false := decide_eq_false (by omega)
        have HA : Bx (¬ ArgNo ⟨2, cl, sq, k, xs⟩) := ⟨arg_not (.inr rfl) HQ1.out.1 HQ1.out.2.1 HQ1.out.2.2 (fun _ => by show ¬ 0 < xs.length; rw [HN.out]; exact h0)⟩
        have HL : Bx (¬ 4096 < (⟨2, cl, sq, k, xs⟩ : Ao).txt.length) := ⟨by show ¬ 4096 < xs.length; rw [HN.out]; omega⟩
        go_wp2
        go_ret
        exact FltPost.zero HA.out HL.out HC.out
end Go.Proofs.Ytanhnaohmaepoaa
