/-
  The refusals of the document's answers Array and Common.
-/
import Derived.Test.YtmkhndajogcojaaSuArray
namespace Go.Proofs.Ytmkhndajogcojaa
open Go.RowKit Go.Oct Go.Su

theorem pos_of_all {s : List Int} (h : s.all (fun x => decide (0 ≤ x)) = true) : Pos s := fun x hx => by
  have := List.all_eq_true.1 h x hx
  simpa using this
theorem aErr_ok {s : List Int} (h : aErr s = 0) : s.length ≤ 65536 ∧ Pos s := by
  unfold aErr at h
  split at h
  · cases h
  · rename_i h1
    split at h
    · rename_i h2
      exact ⟨by omega, pos_of_all h2⟩
    · cases h
section
variable {F : Nat → Prop}
theorem refarr_err (s : List Int) (A : Option Addr) (n c : Nat) (w : World) (hs : Sl w F .i64 A n s) (hn : n ≤ 9223372036854775807) (h : aErr s ≠ 0) :
    Calls Try.prog 11 #[.slice A n c] w fun e w' => e = .returned (.tuple #[.slice none 0 0, .int .i64 (aErr s)]) ∧ w = w' := by
  unfold aErr at h ⊢
  rw [hs.len] at h ⊢
  by_cases h1 : 65536 < n
  · rw [if_pos h1]
    exact refarr_long A n c w hn h1
  · rw [if_neg h1] at h ⊢
    by_cases h2 : s.all (fun x => decide (0 ≤ x)) = true
    · rw [if_pos h2] at h
      exact absurd rfl h
    · rw [if_neg h2]
      exact refarr_neg s A n c w hs (by omega) (by simpa using h2)
theorem refcom_err (s : List Int) (A B : Option Addr) (n m c d : Nat) (w : World) (hs : Sl w F .i64 A n s) (hn : n ≤ 9223372036854775807) (h : aErr s ≠ 0) :
    Calls Try.prog 18 #[.slice A n c, .slice B m d] w fun e w' => e = .returned (.tuple #[.slice none 0 0, .int .i64 (aErr s)]) ∧ w = w' := by
  obtain ⟨v, hv⟩ : ∃ v, aErr s = v := ⟨_, rfl⟩
  rw [hv] at h ⊢
  have HS := Bx.mk hs
  have HV := Bx.mk hv
  have HE := Bx.mk h
  have hb : (v != 0) = true := by simpa using h
  clear hs h hv
  go_enter Try.func18, Try.ntmps18
  go_wp2_with fail
  refine (refarr_err s A n c _ HS.out hn (by rw [HV.out]; exact HE.out)).mono ?_
  rw [HV.out]
  rintro e w1 ⟨rfl, rfl⟩
  go_wp2
  go_returns
  exact ⟨rfl, rfl⟩
theorem refcom_len (s : List Int) (A B : Option Addr) (n m c d : Nat) (w : World) (hs : Sl w F .i64 A n s) (hn : n ≤ 65536) (hp : Pos s) (h : n ≠ m) :
    Calls Try.prog 18 #[.slice A n c, .slice B m d] w fun e w' => e = .returned (.tuple #[.slice none 0 0, .int .i64 1]) ∧ Ch (fun _ => False) w w' := by
  have HS := Bx.mk hs
  have HP := Bx.mk hp
  have hb : ((n : Int) != (m : Int)) = true := by simp; omega
  clear hs hp h
  go_enter Try.func18, Try.ntmps18
  go_wp2_with fail
  refine (refarr_ok s A n c _ HS.out hn HP.out).mono ?_
  rintro e w1 ⟨A1, c1, L, rfl, _, _, _, _, hC1⟩
  have HC := Bx.mk hC1
  clear hC1
  go_wp2
  go_returns
  exact ⟨rfl, HC.out⟩
theorem refcom_diff {G : Nat → Prop} (s xs : List Int) (A B : Option Addr) (n c d : Nat) (w : World) (hs : Sl w F .i64 A n s) (hx : Sl w G .i64 B n xs) (hn : n ≤ 65536) (hp : Pos s) (h : ∀ L, IsSA s L → xs ≠ asI L) :
    Calls Try.prog 18 #[.slice A n c, .slice B n d] w fun e w' => e = .returned (.tuple #[.slice none 0 0, .int .i64 1]) ∧ Ch (fun _ => False) w w' := by
  have HS := Bx.mk hs
  have HP := Bx.mk hp
  have HX := Bx.mk hx
  have hnn : ((n : Int) != (n : Int)) = false := by simp
  clear hs hp hx
  go_enter Try.func18, Try.ntmps18
  go_wp2_with fail
  refine (refarr_ok s A n c _ HS.out hn HP.out).mono ?_
  rintro e w1 ⟨A1, c1, L, rfl, hSA, hS1, _, _, hC1⟩
  have HNE := Bx.mk (h L hSA)
  have HLL : Bx ((asI L).length = n) := ⟨hS1.len⟩
  have HS1 := Bx.mk hS1
  have HX1 := Bx.mk (HX.out.ch hC1 (fun _ _ _ h => h))
  have HC := Bx.mk hC1
  clear hC1 hS1 hSA h
  go_wp2_with fail
  go_loopw [8] (fun i wr => ∃ k : Nat, k ≤ n ∧ i = .int .i64 k ∧ Bx (xs.take k = (asI L).take k) ∧ Ch (fun _ => False) w1 wr) (fun i _ => n - (intOf i).toNat)
  case atStart => exact ⟨0, Nat.zero_le _, rfl, ⟨rfl⟩, Ch.refl _ _⟩
  case round =>
    obtain ⟨k, hk, rfl, hT, hC⟩ := hrel
    by_cases hlt : k < n
    · obtain ⟨b, off, x, rfl, _, ex, hc⟩ := (HX1.out.ch hC (fun _ _ _ h => h)).at_ hlt
      obtain ⟨b', off', y, rfl, _, ey, hc'⟩ := (HS1.out.ch hC (fun _ _ _ h => h)).at_ hlt
      have HCC := Bx.mk hC
      by_cases hxy : x = y
      · subst hxy
        have hb : (x != x) = false := by simp
        have HT2 : Bx (xs.take (k + 1) = (asI L).take (k + 1)) := ⟨by rw [List.take_add_one, List.take_add_one, hT.out, ex.out, ey.out]⟩
        clear ex ey hC hT
        go_wp2
        go_quiet (fail)
        go_wp2
        go_roundw
        case rel => exact ⟨k + 1, by omega, by go_num, HT2, HCC.out.drewN _⟩
        case measure => simp [intOf]; omega
      · have hb : (x != y) = true := by simpa using hxy
        clear ex ey hC hT hxy
        go_wp2
        go_quiet (fail)
        go_wp2
        go_returns
        exact ⟨rfl, HC.out.trans (HCC.out.drewN _) (fun _ _ h => h)⟩
    · have h1 := hT.out
      rw [List.take_of_length_le (by rw [HX.out.len]; omega), List.take_of_length_le (by rw [HLL.out]; omega)] at h1
      exact absurd h1 HNE.out
end
end Go.Proofs.Ytmkhndajogcojaa
