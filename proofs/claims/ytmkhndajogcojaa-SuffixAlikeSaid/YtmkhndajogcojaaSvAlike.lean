/-
  The contracts of suffix.alike and of slices.Equal at rows of integers.
-/
import Derived.Test.YtmkhndajogcojaaSvUp
namespace Go.Proofs.Ytmkhndajogcojaa
open Go.RowKit Go.Oct Go.Su

section
variable {F G : Nat → Prop}
set_option maxHeartbeats 2000000 in
theorem alike_any (s : List Int) (A : Option Addr) (n c a b h : Nat) (w : World) (hs : Sl w F .i64 A n s) (hn : n ≤ 65536) (hp : Pos s) (ha : a < n) (hb : b < n) (hab : b ≠ a) (he : EqK (gs s) h b a) :
    Calls Try.prog 25 #[.slice A n c, .int .i64 a, .int .i64 b, .int .i64 h] w fun e w' => ∃ m : Nat, e = .returned (.int .i64 m) ∧ Lcp s b a m ∧ m ≤ n ∧ ∃ q, w' = w.drewN q := by
  have hl := hs.len
  have HS := Bx.mk hs
  have HP := Bx.mk hp
  have HL := Bx.mk hl
  have HE := Bx.mk he
  have HAB := Bx.mk hab
  obtain ⟨mx, hmx2⟩ : ∃ mx : Nat, (mx = a ∧ b < a) ∨ (mx = b ∧ a < b) := by
    rcases Nat.lt_or_gt_of_ne hab with h | h
    · exact ⟨a, .inl ⟨rfl, h⟩⟩
    · exact ⟨b, .inr ⟨rfl, h⟩⟩
  have hhn : h ≤ n := by
    have := eqk_in hp (by omega) (by omega) hab he
    omega
  have HM2 := Bx.mk hmx2
  clear hs hp hl he hab
  go_enter Try.func25, Try.ntmps25
  go_wp2_with fail
  go_loopw [3] (fun i wr => ∃ m q : Nat, m ≤ n ∧ i = .int .i64 m ∧ EqK (gs s) m b a ∧ wr = w.drewN q) (fun i _ => n - (intOf i).toNat)
  case atStart => exact ⟨h, 0, hhn, rfl, HE.out, rfl⟩
  case round =>
    obtain ⟨m, q, hmn, rfl, hem, rfl⟩ := hrel
    have hin2 := eqk_in HP.out (by rw [HL.out]; exact hb) (by rw [HL.out]; exact ha) HAB.out hem
    rw [HL.out] at hin2
    have hmx3 := HM2.out
    have hend : (n ≤ a + m ∨ n ≤ b + m ∨ gs s (a + m) ≠ gs s (b + m)) → Bx (Lcp s b a m) := fun h => ⟨lcp_end HP.out (by rw [HL.out]; exact hb) (by rw [HL.out]; exact ha) HAB.out hem (by rw [HL.out]; exact h)⟩
    have HEM := Bx.mk hem
    clear hem
    rcases Nat.lt_or_ge (mx + m) n with h1 | h1
    · have h1a : a + m < n := by omega
      have h1b : b + m < n := by omega
      obtain ⟨b1, o1, x, rfl, _, hx, hcx⟩ := HS.out.at_ h1a
      obtain ⟨b2, o2, y, hA2, _, hy, hcy⟩ := HS.out.at_ h1b
      injection hA2 with hA2
      injection hA2 with e1 e2
      subst e1 e2
      have ex := gs_at hx.out
      have ey := gs_at hy.out
      have e1 : decide ((mx : Int) + (m : Int) < (n : Int)) = true := by simp; omega
      have i5 : (0 : Int) ≤ (a : Int) + (m : Int) := by omega
      have i6 : (a : Int) + (m : Int) < (n : Int) := by omega
      have i7 : (0 : Int) ≤ (b : Int) + (m : Int) := by omega
      have i8 : (b : Int) + (m : Int) < (n : Int) := by omega
      by_cases hxy : x = y
      · subst hxy
        have HEN : Bx (EqK (gs s) (m + 1) b a) := ⟨EqK.succ HEM.out (by rw [ex, ey])⟩
        have hb3 : (x == x) = true := by simp
        clear hend hx hy ex ey hmx3
        rcases HM2.out with ⟨rfl, hba⟩ | ⟨rfl, hba⟩
        all_goals
          go_wp2_with fail
          go_quiet (fail)
          go_wp2
          go_roundw
          case rel => exact ⟨m + 1, _, by omega, by go_num, HEN.out, rfl⟩
          case measure => simp [intOf]; omega
      · have hb3 : (x == y) = false := by simpa using hxy
        have HM := hend (.inr (.inr (by rw [ex, ey]; exact hxy)))
        clear hend hx hy ex ey hmx3 hxy
        rcases HM2.out with ⟨rfl, hba⟩ | ⟨rfl, hba⟩
        all_goals
          go_wp2_with fail
          go_quiet (fail)
          go_wp2
          go_ret
          exact ⟨m, rfl, HM.out, hmn, by first | exact ⟨_, rfl⟩ | exact ⟨_, World.drewN_drewN ..⟩⟩
    · have HM := hend (by omega)
      have e1 : decide ((mx : Int) + (m : Int) < (n : Int)) = false := by simp; omega
      clear hend hmx3
      rcases HM2.out with ⟨rfl, hba⟩ | ⟨rfl, hba⟩
      all_goals
        go_wp2_with fail
        go_quiet (fail)
        go_wp2
        go_ret
        exact ⟨m, rfl, HM.out, hmn, by first | exact ⟨_, rfl⟩ | exact ⟨_, World.drewN_drewN ..⟩⟩

theorem equal_len (A A' : Option Addr) (n m c c' : Nat) (w : World) (h : n ≠ m) :
    Calls Try.prog 24 #[.slice A n c, .slice A' m c'] w fun e w' => e = .returned (.bool false) ∧ w = w' := by
  have hb : ((n : Int) != (m : Int)) = true := by simp; omega
  clear h
  go_enter Try.func24, Try.ntmps24
  go_wp2
  go_ret
  exact ⟨rfl, rfl⟩
theorem equal_yes (xs : List Int) (A A' : Option Addr) (n c c' : Nat) (w : World) (hx : Sl w F .i64 A n xs) (hy : Sl w G .i64 A' n xs) (hn : n ≤ 1048576) :
    Calls Try.prog 24 #[.slice A n c, .slice A' n c'] w fun e w' => e = .returned (.bool true) ∧ Ch (fun _ => False) w w' := by
  have HX := Bx.mk hx
  have HY := Bx.mk hy
  have hnn : ((n : Int) != (n : Int)) = false := by simp
  clear hx hy
  go_enter Try.func24, Try.ntmps24
  go_wp2
  go_loopw [5, 13] (fun _ i wr => ∃ k m : Nat, k ≤ n ∧ i = .int .i64 k ∧ wr = w.drewN m) (fun _ i _ => n - (intOf i).toNat)
  case atStart => exact ⟨0, 0, Nat.zero_le _, rfl, rfl⟩
  case round =>
    obtain ⟨k, m, hk, rfl, rfl⟩ := hrel
    by_cases hlt : k < n
    · obtain ⟨b, off, x, rfl, _, ex, hc⟩ := HX.out.at_ hlt
      obtain ⟨b', off', y, rfl, _, ey, hc'⟩ := HY.out.at_ hlt
      obtain rfl : x = y := Option.some.inj (ex.out.symm.trans ey.out)
      have hb : (x != x) = false := by simp
      clear ex ey
      go_wp2
      go_quiet (fail)
      go_wp2
      go_roundw
      case rel => exact ⟨k + 1, _, by omega, by go_num, rfl⟩
      case measure => simp [intOf]; omega
    · go_wp2
      go_ret
      exact ⟨rfl, (Ch.refl _ w).drewN m⟩
theorem equal_no (xs ys : List Int) (A A' : Option Addr) (n c c' : Nat) (w : World) (hx : Sl w F .i64 A n xs) (hy : Sl w G .i64 A' n ys) (hn : n ≤ 1048576) (hne : xs ≠ ys) :
    Calls Try.prog 24 #[.slice A n c, .slice A' n c'] w fun e w' => e = .returned (.bool false) ∧ Ch (fun _ => False) w w' := by
  have HX := Bx.mk hx
  have HY := Bx.mk hy
  have HNE := Bx.mk hne
  have hnn : ((n : Int) != (n : Int)) = false := by simp
  clear hx hy hne
  go_enter Try.func24, Try.ntmps24
  go_wp2
  go_loopw [5, 13] (fun _ i wr => ∃ k m : Nat, k ≤ n ∧ i = .int .i64 k ∧ Bx (xs.take k = ys.take k) ∧ wr = w.drewN m) (fun _ i _ => n - (intOf i).toNat)
  case atStart => exact ⟨0, 0, Nat.zero_le _, rfl, ⟨rfl⟩, rfl⟩
  case round =>
    obtain ⟨k, m, hk, rfl, hT, rfl⟩ := hrel
    by_cases hlt : k < n
    · obtain ⟨b, off, x, rfl, _, ex, hc⟩ := HX.out.at_ hlt
      obtain ⟨b', off', y, rfl, _, ey, hc'⟩ := HY.out.at_ hlt
      by_cases hxy : x = y
      · subst hxy
        have hb : (x != x) = false := by simp
        have HT2 : Bx (xs.take (k + 1) = ys.take (k + 1)) := ⟨by rw [List.take_add_one, List.take_add_one, hT.out, ex.out, ey.out]⟩
        clear ex ey hT
        go_wp2
        go_quiet (fail)
        go_wp2
        go_roundw
        case rel => exact ⟨k + 1, _, by omega, by go_num, HT2, rfl⟩
        case measure => simp [intOf]; omega
      · have hb : (x != y) = true := by simpa using hxy
        clear ex ey hT hxy
        go_wp2
        go_quiet (fail)
        go_wp2
        go_ret
        exact ⟨rfl, by first | exact (Ch.refl _ w).drewN _ | exact ((Ch.refl _ w).drewN _).drewN _⟩
    · have h1 := hT.out
      rw [List.take_of_length_le (by rw [HX.out.len]; omega), List.take_of_length_le (by rw [HY.out.len]; omega)] at h1
      exact absurd h1 HNE.out
end
end Go.Proofs.Ytmkhndajogcojaa
