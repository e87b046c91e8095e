/- Lemmas and contracts of this proof. Conditions: said at each. -/
import Derived.Test.YtbkakhfepiooaaaGreatDoorQShNil
import Derived.Test.YtbkakhfepiooaaaGreatDoorQShOpen
namespace Go.Proofs.YtbkakhfepiooaaaGreatDoor
open Go.RowKit Go.Oct Go.Su Go.Sg Go.Om Go.Sh Go.Maps

theorem skip_nil (i : Int) (w : World) : Calls Tryz.prog 5 #[.pointer none, .int .i64 i] w fun e w' => e = .returned (.tuple #[]) ∧ Ch (fun _ => False) w w' := by
  go_enter Tryz.func5, Tryz.ntmps5
  go_wp2_with fail
  refine (comes_nil i w).mono ?_
  rintro e w1 ⟨rfl, rfl⟩
  go_wp2
  exact bodyPost_end (v := .tuple #[]) (by simp [results, Tryz.results5, go_sem]) rfl ⟨rfl, Ch.refl _ _⟩

theorem find_nil_s (A : Option Addr) (n c : Nat) (w : World) : Calls Tryz.prog 7 #[.pointer none, .slice A n c] w fun e w' => (∃ A c, e = .returned (.tuple #[.slice A 0 c, .int .i64 10])) ∧ Ch (fun _ => False) w w' := by
  go_enter Tryz.func7, Tryz.ntmps7
  go_wp2_with fail
  refine (none_nil w).mono ?_
  rintro e w1 ⟨rfl, rfl⟩
  go_wp2
  go_ret2
  exact ⟨⟨_, _, rfl⟩, Ch.refl _ _⟩
theorem parts_nil (w : World) : Calls Tryz.prog 8 #[.pointer none] w fun e w' => e = .returned (.tuple #[.int .i64 0, .int .i64 0, .int .i64 0]) ∧ Ch (fun _ => False) w w' := by
  go_enter Tryz.func8, Tryz.ntmps8
  go_wp2_with fail
  refine (none_nil w).mono ?_
  rintro e w1 ⟨rfl, rfl⟩
  go_wp2
  refine bodyPost_ret (v := .tuple #[.int .i64 0, .int .i64 0, .int .i64 0]) (by simp [results, Tryz.results8, go_sem]) rfl ?_
  exact ⟨rfl, Ch.refl _ _⟩
theorem apply_nil_s (i : Int) (A : Option Addr) (n c : Nat) (w : World) : Calls Tryz.prog 11 #[.pointer none, .int .i64 i, .slice A n c] w fun e w' => (∃ A c, e = .returned (.slice A 0 c)) ∧ Ch (fun _ => False) w w' := by
  go_enter Tryz.func11, Tryz.ntmps11
  go_wp2_with fail
  refine (comes_nil i w).mono ?_
  rintro e w1 ⟨rfl, rfl⟩
  go_wp2
  go_ret
  exact ⟨⟨_, _, rfl⟩, Ch.refl _ _⟩
theorem snap_nil (w : World) : Calls Tryz.prog 13 #[.pointer none] w fun e w' => (∃ A c, e = .returned (.slice A 0 c)) ∧ Ch (fun _ => False) w w' := by
  go_enter Tryz.func13, Tryz.ntmps13
  go_wp2_with fail
  refine (none_nil w).mono ?_
  rintro e w1 ⟨rfl, rfl⟩
  go_wp2
  go_ret
  exact ⟨⟨_, _, rfl⟩, Ch.refl _ _⟩
theorem install_nil (i : Int) (A : Option Addr) (n c : Nat) (w : World) : Calls Tryz.prog 14 #[.pointer none, .int .i64 i, .slice A n c] w fun e w' => e = .returned (.int .i64 1) ∧ Ch (fun _ => False) w w' := by
  go_enter Tryz.func14, Tryz.ntmps14
  go_wp2_with fail
  refine (none_nil w).mono ?_
  rintro e w1 ⟨rfl, rfl⟩
  go_wp2
  go_ret
  exact ⟨rfl, Ch.refl _ _⟩
theorem flush_nil (w : World) : Calls Tryz.prog 15 #[.pointer none] w fun e w' => e = .returned (.int .i64 1) ∧ Ch (fun _ => False) w w' := by
  go_enter Tryz.func15, Tryz.ntmps15
  go_wp2_with fail
  refine (none_nil w).mono ?_
  rintro e w1 ⟨rfl, rfl⟩
  go_wp2
  go_ret
  exact ⟨rfl, Ch.refl _ _⟩
theorem open_nil (S : ByteArray) (w : World) : Calls Tryz.prog 9 #[.pointer none, .string S] w fun e w' => e = .returned (.tuple #[.pointer none, .int .i64 1]) ∧ Ch (fun _ => False) w w' := by
  go_enter Tryz.func9, Tryz.ntmps9
  go_wp2
  refine bodyPost_ret (v := .tuple #[.pointer none, .int .i64 1]) (by simp [results, Tryz.results9, go_sem]) rfl ?_
  exact ⟨rfl, Ch.refl _ _⟩
theorem open_bad (k : Key) (d : Nat) (w : World) (hk : ¬ (1 ≤ k.length ∧ k.length ≤ 20)) : Calls Tryz.prog 9 #[.pointer (some ⟨d, 0, none⟩), kv k] w fun e w' => e = .returned (.tuple #[.pointer none, .int .i64 1]) ∧ w = w' := by
  by_cases h0 : k.length = 0
  · have e : k = [] := List.eq_nil_of_length_eq_zero h0
    subst e
    have e1 : kv [] = .string ⟨#[]⟩ := rfl
    rw [e1]
    go_enter Tryz.func9, Tryz.ntmps9
    go_wp2
    refine bodyPost_ret (v := .tuple #[.pointer none, .int .i64 1]) (by simp [results, Tryz.results9, go_sem]) rfl ?_
    exact ⟨rfl, rfl⟩
  · have hsz : (⟨k.toArray⟩ : ByteArray).size = k.length := kv_size k
    have h20 : 20 < k.length := by omega
    have hie : (⟨k.toArray⟩ : ByteArray).toList.isEmpty = false := by
      have hne := str_beq k []
      rw [show (⟨([] : Key).toArray⟩ : ByteArray) = ByteArray.empty from rfl, decide_eq_false (fun e => h0 (by rw [e]; rfl))] at hne
      have e0 : ByteArray.empty.toList = [] := by simp [go_sem]
      rw [e0] at hne
      generalize ByteArray.toList _ = l at hne ⊢
      cases l with
      | nil => exact absurd hne (by decide)
      | cons a r => rfl
    have ek : kv k = .string ⟨k.toArray⟩ := rfl
    rw [ek]
    obtain ⟨KS, hKS⟩ : ∃ S : ByteArray, (⟨k.toArray⟩ : ByteArray) = S := ⟨_, rfl⟩
    rw [hKS] at hsz hie ⊢
    obtain ⟨kl, hkl⟩ : ∃ kl, k.length = kl := ⟨_, rfl⟩
    rw [hkl] at hsz h20
    have d20 : decide ((20 : Int) < (kl : Int)) = true := decide_eq_true (by omega)
    have d20' : decide (20 < kl) = true := decide_eq_true h20
    clear hKS hkl ek h0 hk
    go_enter Tryz.func9, Tryz.ntmps9
    go_wp2
    refine bodyPost_ret (v := .tuple #[.pointer none, .int .i64 1]) (by simp [results, Tryz.results9, go_sem]) rfl ?_
    exact ⟨rfl, rfl⟩
theorem shNil : ShNil ShP where
  skip_ := skip_nil
  get_ := get_nil_s
  find_ := find_nil_s
  parts_ := parts_nil
  open0_ := open_nil
  openk_ := fun k _ _ _ _ h1 h2 hd hmx hms => (open_new k h1 h2 hd hmx hms).mono fun _ _ ⟨_, b, he, _, _, hc⟩ => ⟨b, he, hc⟩
  openn_ := fun k w _ d _ hk _ => (open_bad k d w hk).mono fun _ _ ⟨he, hw⟩ => ⟨he, hw ▸ Ch.refl _ _⟩
  apply_ := apply_nil_s
  applied_ := applied_nil
  snap_ := snap_nil
  install_ := install_nil
  flush_ := flush_nil
end Go.Proofs.YtbkakhfepiooaaaGreatDoor
