/-
  The contracts of the statements' own helpers haystacklaw5.ints and ahead, where only draws are left behind.
-/
import Derived.Test.YtmkhndajogcojaaSuRow
namespace Go.Proofs.Ytmkhndajogcojaa
open Go.RowKit Go.Oct Go.Su
section
variable {F : Nat → Prop}
/-- Two slices of the same numbers. -/
theorem ints_drawn {G : Nat → Prop} (xs : List Int) (A A' : Option Addr) (n c c' : Nat) (w : World) (hx : Sl w F .i64 A n xs) (hy : Sl w G .i64 A' n xs) (hn : n ≤ 1048576) :
    Calls Try.prog 12 #[.slice A n c, .slice A' n c'] w fun e w' => e = .returned (.bool true) ∧ ∃ q, w' = w.drewN q := by
  have HX := Bx.mk hx
  have HY := Bx.mk hy
  have hnn : ((n : Int) != (n : Int)) = false := by simp
  clear hx hy
  go_enter Try.func12, Try.ntmps12
  go_wp2
  go_loopw [5] (fun i wr => ∃ k m : Nat, k ≤ n ∧ i = .int .i64 k ∧ wr = w.drewN m) (fun i _ => n - (intOf i).toNat)
  case atStart => exact ⟨0, 0, Nat.zero_le _, rfl, rfl⟩
  case round =>
    obtain ⟨k, m, hk, rfl, rfl⟩ := hrel
    by_cases hlt : k < n
    · obtain ⟨b, off, x, rfl, _, ex, hc⟩ := HX.out.at_ hlt
      obtain ⟨b', off', y, rfl, _, ey, hc'⟩ := HY.out.at_ hlt
      obtain rfl : x = y := Option.some.inj (ex.out.symm.trans ey.out)
      have hb : (x != x) = false := by simp
      clear ex ey
      go_wp2
      go_quiet (fail)
      go_wp2
      go_roundw
      case rel => exact ⟨k + 1, _, by omega, by go_num, rfl⟩
      case measure => simp [intOf]; omega
    · go_wp2
      go_ret
      exact ⟨rfl, m, rfl⟩
theorem ints_draw {G : Nat → Prop} (xs : List Int) (A A' : Option Addr) (n c c' : Nat) (w : World) (m : Nat) (hx : Sl w F .i64 A n xs) (hy : Sl w G .i64 A' n xs) (hn : n ≤ 1048576) :
    Calls Try.prog 12 #[.slice A n c, .slice A' n c'] (w.drewN m) fun e w' => e = .returned (.bool true) ∧ ∃ q, w' = w.drewN q :=
  (ints_drawn xs A A' n c c' (w.drewN m) (hx.drewN m) (hy.drewN m) hn).mono fun e w' ⟨h1, q, h2⟩ => ⟨h1, m + q, by rw [h2, World.drewN_drewN]⟩
/-- A row that is ahead of another one. -/
theorem ahead_drawn {G : Nat → Prop} (xs ys : List Int) (A A' : Option Addr) (n m c c' : Nat) (w : World) (hx : Sl w F .i64 A n xs) (hy : Sl w G .i64 A' m ys) (hn : n ≤ 1048576) (px : Pos xs) (py : Pos ys) (k : Nat) (hk : ∀ j, j < k → gs xs j = gs ys j) (hl : gs xs k < gs ys k) :
    Calls Try.prog 14 #[.slice A n c, .slice A' m c'] w fun e w' => e = .returned (.bool true) ∧ ∃ q, w' = w.drewN q := by
  have hkm : k < m := by
    rcases Nat.lt_or_ge k m with h | h
    · exact h
    · rw [gs_out (s := ys) (p := k) (by rw [hy.len]; exact h)] at hl
      rcases Nat.lt_or_ge k n with h2 | h2
      · have := gs_pos px (p := k) (by rw [hx.len]; exact h2)
        omega
      · rw [gs_out (s := xs) (p := k) (by rw [hx.len]; exact h2)] at hl
        omega
  have hkn : k ≤ n := by
    rcases Nat.lt_or_ge n k with h | h
    · have h1 := hk n h
      rw [gs_out (s := xs) (p := n) (by rw [hx.len]; exact Nat.le_refl _)] at h1
      have := gs_pos py (p := n) (by rw [hy.len]; omega)
      omega
    · exact h
  have HX := Bx.mk hx
  have HY := Bx.mk hy
  have HK := Bx.mk hk
  have HL := Bx.mk hl
  clear hx hy hk hl px py
  go_enter Try.func14, Try.ntmps14
  go_wp2
  go_loopw [5] (fun i wr => ∃ j q : Nat, j ≤ k ∧ i = .int .i64 j ∧ wr = w.drewN q) (fun i _ => k - (intOf i).toNat)
  case atStart => exact ⟨0, 0, Nat.zero_le _, rfl, rfl⟩
  case round =>
    obtain ⟨j, q, hj, rfl, rfl⟩ := hrel
    by_cases hlt : j < n
    · obtain ⟨b, off, x, rfl, _, ex, hc⟩ := HX.out.at_ hlt
      obtain ⟨b', off', y, rfl, _, ey, hc'⟩ := HY.out.at_ (k := j) (by omega)
      have exx := gs_at ex.out
      have eyy := gs_at ey.out
      have i1 : (0 : Int) ≤ (j : Int) := by omega
      have i2 : (j : Int) < (n : Int) := by omega
      have i3 : (j : Int) < (m : Int) := by omega
      by_cases hjk : j < k
      · obtain rfl : x = y := by have := HK.out j hjk; rw [exx, eyy] at this; exact this
        have hb : (x != x) = false := by simp
        clear ex ey exx eyy
        go_wp2
        go_quiet (fail)
        go_wp2
        go_roundw
        case rel => exact ⟨j + 1, _, by omega, by go_num, rfl⟩
        case measure => simp [intOf]; omega
      · obtain rfl : j = k := by omega
        have hxy : x < y := by have := HL.out; rw [exx, eyy] at this; exact this
        have hb : (x != y) = true := by simp; omega
        have hb2 : decide (x < y) = true := by simpa using hxy
        clear ex ey exx eyy hjk
        go_wp2
        go_quiet (fail)
        go_wp2
        go_quiet (fail)
        go_wp2
        go_ret
        exact ⟨rfl, by first | exact ⟨_, rfl⟩ | exact ⟨_, World.drewN_drewN ..⟩ | exact ⟨_, by rw [World.drewN_drewN, World.drewN_drewN]⟩⟩
    · obtain rfl : j = n := by omega
      have i3 : (j : Int) < (m : Int) := by omega
      go_wp2
      go_ret
      exact ⟨rfl, by first | exact ⟨_, rfl⟩ | exact ⟨_, World.drewN_drewN ..⟩⟩
theorem ahead_draw {G : Nat → Prop} (xs ys : List Int) (A A' : Option Addr) (n m c c' : Nat) (w : World) (d : Nat) (hx : Sl w F .i64 A n xs) (hy : Sl w G .i64 A' m ys) (hn : n ≤ 1048576) (px : Pos xs) (py : Pos ys) (k : Nat) (hk : ∀ j, j < k → gs xs j = gs ys j) (hl : gs xs k < gs ys k) :
    Calls Try.prog 14 #[.slice A n c, .slice A' m c'] (w.drewN d) fun e w' => e = .returned (.bool true) ∧ ∃ q, w' = w.drewN q :=
  (ahead_drawn xs ys A A' n m c c' (w.drewN d) (hx.drewN d) (hy.drewN d) hn px py k hk hl).mono fun e w' ⟨h1, q, h2⟩ => ⟨h1, d + q, by rw [h2, World.drewN_drewN]⟩
end
end Go.Proofs.Ytmkhndajogcojaa
