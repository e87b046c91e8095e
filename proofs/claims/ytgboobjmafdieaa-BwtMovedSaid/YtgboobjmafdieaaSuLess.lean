/-
  The contracts of the document's answers haystackref5.less and before.
-/
import Derived.Test.YtgboobjmafdieaaSuRow
namespace Go.Proofs.Ytgboobjmafdieaa
open Go.RowKit Go.Oct Go.Su

/-- Is a ahead of b, by ranks and by the ranks of what stands so far behind? -/
def lessB (rank : List Int) (step a b : Nat) : Bool := decide (gs rank a < gs rank b) || (decide (gs rank a = gs rank b) && decide (gs rank (a + step) < gs rank (b + step)))
/-- .. at the first step by ranks alone. -/
def befB (rank : List Int) (step a b : Nat) : Bool := if step = 0 then decide (gs rank a < gs rank b) else lessB rank step a b
theorem Sl.gsAt {w : World} {F : Nat → Prop} {A : Option Addr} {n : Nat} {xs : List Int} (h : Sl w F .i64 A n xs) {k : Nat} (hk : k < n) : ∃ b off, A = some ⟨b, off, none⟩ ∧ F b ∧ w.cell? ⟨b, off + k, none⟩ = some (.int .i64 (gs xs k)) := by
  obtain ⟨b, off, x, e, hb, hx, hc⟩ := h.at_ hk
  exact ⟨b, off, e, hb, by rw [gs_at hx.out]; exact hc⟩

section
variable {F : Nat → Prop}
set_option maxHeartbeats 1000000 in
theorem less_any (rank : List Int) (A : Option Addr) (n c step a b : Nat) (w : World) (hs : Sl w F .i64 A n rank) (hn : n ≤ 1048576) (hst : step ≤ 1048576) (ha : a < n) (hb : b < n) :
    Calls Try.prog 41 #[.slice A n c, .int .i64 step, .int .i64 a, .int .i64 b] w fun e w' => e = .returned (.bool (lessB rank step a b)) ∧ ∃ k, w' = w.drewN k := by
  have hl := hs.len
  obtain ⟨B, o, rfl, _, hca⟩ := Sl.gsAt hs ha
  obtain ⟨B', o', hA, _, hcb⟩ := Sl.gsAt hs hb
  injection hA with hA
  injection hA with hA1 hA2
  subst hA1 hA2
  have hx : (a + step < n ∧ w.cell? ⟨B, o + (a + step), none⟩ = some (.int .i64 (gs rank (a + step)))) ∨ (n ≤ a + step ∧ gs rank (a + step) = -1) := by
    rcases Nat.lt_or_ge (a + step) n with h | h
    · obtain ⟨B2, o2, hA, _, hc⟩ := Sl.gsAt hs h
      injection hA with hA
      injection hA with hA1 hA2
      subst hA1 hA2
      exact .inl ⟨h, hc⟩
    · exact .inr ⟨h, gs_out (by omega)⟩
  have hy : (b + step < n ∧ w.cell? ⟨B, o + (b + step), none⟩ = some (.int .i64 (gs rank (b + step)))) ∨ (n ≤ b + step ∧ gs rank (b + step) = -1) := by
    rcases Nat.lt_or_ge (b + step) n with h | h
    · obtain ⟨B2, o2, hA, _, hc⟩ := Sl.gsAt hs h
      injection hA with hA
      injection hA with hA1 hA2
      subst hA1 hA2
      exact .inl ⟨h, hc⟩
    · exact .inr ⟨h, gs_out (by omega)⟩
  have HL : Bx (∀ r : Bool, lessB rank step a b = r → lessB rank step a b = r) := ⟨fun _ h => h⟩
  obtain ⟨x, hxv⟩ : ∃ x, gs rank a = x := ⟨_, rfl⟩
  obtain ⟨y, hyv⟩ : ∃ y, gs rank b = y := ⟨_, rfl⟩
  obtain ⟨x2, hx2v⟩ : ∃ x, gs rank (a + step) = x := ⟨_, rfl⟩
  obtain ⟨y2, hy2v⟩ : ∃ y, gs rank (b + step) = y := ⟨_, rfl⟩
  have hB : lessB rank step a b = (decide (x < y) || (decide (x = y) && decide (x2 < y2))) := by unfold lessB; rw [hxv, hyv, hx2v, hy2v]
  rw [hB]
  rw [hxv] at hca
  rw [hyv] at hcb
  rw [hx2v] at hx
  rw [hy2v] at hy
  have i1 : (0 : Int) ≤ (a : Int) := by omega
  have i2 : (a : Int) < (n : Int) := by omega
  have i3 : (0 : Int) ≤ (b : Int) := by omega
  have i4 : (b : Int) < (n : Int) := by omega
  have HX := Bx.mk hx
  have HY := Bx.mk hy
  clear hs hl hxv hyv hx2v hy2v hB hx hy HL
  by_cases hxy : x = y
  · subst hxy
    have hb : (x != x) = false := by simp
    have hR : (decide (x < x) || (decide (x = x) && decide (x2 < y2))) = decide (x2 < y2) := by simp
    rw [hR]
    clear hR
    rcases HX.out with ⟨h1, h2⟩ | ⟨h1, rfl⟩ <;> rcases HY.out with ⟨h3, h4⟩ | ⟨h3, rfl⟩
    all_goals
      go_enter Try.func41, Try.ntmps41
      go_wp2
      go_quiet (fail)
      go_wp2
      go_ret
      exact ⟨rfl, _, rfl⟩
  · have hb : (x != y) = true := by simpa using hxy
    have hR : (decide (x < y) || (decide (x = y) && decide (x2 < y2))) = decide (x < y) := by simp [hxy]
    rw [hR]
    have HXY := Bx.mk hxy
    clear hR hxy
    go_enter Try.func41, Try.ntmps41
    go_wp2
    go_quiet (fail)
    go_wp2
    go_quiet (fail)
    go_wp2
    go_ret
    exact ⟨rfl, _, World.drewN_drewN ..⟩
set_option maxHeartbeats 400000 in
theorem before_any (rank : List Int) (A : Option Addr) (n c step a b : Nat) (w : World) (hs : Sl w F .i64 A n rank) (hn : n ≤ 1048576) (hst : step ≤ 1048576) (ha : a < n) (hb : b < n) :
    Calls Try.prog 30 #[.slice A n c, .int .i64 step, .int .i64 a, .int .i64 b] w fun e w' => e = .returned (.bool (befB rank step a b)) ∧ ∃ k, w' = w.drewN k := by
  by_cases h0 : step = 0
  · obtain ⟨B, o, rfl, _, hca⟩ := Sl.gsAt hs ha
    obtain ⟨B', o', hA, _, hcb⟩ := Sl.gsAt hs hb
    injection hA with hA
    injection hA with hA1 hA2
    subst hA1 hA2
    have hB : befB rank step a b = decide (gs rank a < gs rank b) := by unfold befB; rw [if_pos h0]
    rw [hB]
    subst h0
    generalize gs rank a = x at *
    generalize gs rank b = y at *
    have i1 : (0 : Int) ≤ (a : Int) := by omega
    have i2 : (a : Int) < (n : Int) := by omega
    have i3 : (0 : Int) ≤ (b : Int) := by omega
    have i4 : (b : Int) < (n : Int) := by omega
    clear hs hB
    go_enter Try.func30, Try.ntmps30
    go_wp2
    go_quiet (fail)
    go_wp2
    go_ret
    exact ⟨rfl, _, rfl⟩
  · have hB : befB rank step a b = lessB rank step a b := by unfold befB; rw [if_neg h0]
    rw [hB]
    have HS := Bx.mk hs
    have HA := Bx.mk ha
    have HB := Bx.mk hb
    have hst0 : ((step : Int) == 0) = false := by simp; omega
    clear hs hB ha hb
    go_enter Try.func30, Try.ntmps30
    go_wp2_with fail
    refine (less_any rank A n c step a b _ HS.out hn hst HA.out HB.out).mono ?_
    rintro e w' ⟨rfl, k, rfl⟩
    go_wp2
    go_ret
    exact ⟨rfl, _, rfl⟩
/-- before, wherever draws have been. -/
theorem before_quiet (rank : List Int) (A : Option Addr) (n c step a b : Nat) (w : World) (m : Nat) (hs : Sl w F .i64 A n rank) (hn : n ≤ 1048576) (hst : step ≤ 1048576) (ha : a < n) (hb : b < n) :
    Calls Try.prog 30 #[.slice A n c, .int .i64 step, .int .i64 a, .int .i64 b] (w.drewN m) fun e w' => e = .returned (.bool (befB rank step a b)) ∧ ∃ k, w' = w.drewN k :=
  (before_any rank A n c step a b (w.drewN m) (hs.drewN m) hn hst ha hb).mono fun e w' h => by
    obtain ⟨h1, k, h2⟩ := h
    exact ⟨h1, m + k, by rw [h2, World.drewN_drewN]⟩
end
end Go.Proofs.Ytgboobjmafdieaa
