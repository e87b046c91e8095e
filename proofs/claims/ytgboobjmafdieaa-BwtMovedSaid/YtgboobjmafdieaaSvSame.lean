/-
  The contracts of the three function literals of package suffix.
-/
import Derived.Test.YtgboobjmafdieaaSvUp
import Derived.Test.YtgboobjmafdieaaSuLaid
namespace Go.Proofs.Ytgboobjmafdieaa
open Go.RowKit Go.Oct Go.Su

section
variable {F : Nat → Prop}
/-- sorted's first one: the same symbol. -/
theorem same1_any (s : List Int) (A : Option Addr) (n c a b B : Nat) (w : World) (hs : Sl w F .i64 A n s) (hbx : w.cell? ⟨B, 0, none⟩ = some (.slice A n c)) (ha : a < n) (hb : b < n) :
    Calls Try.prog 36 #[.int .i64 a, .int .i64 b, .pointer (some ⟨B, 0, none⟩)] w fun e w' => e = .returned (.bool (decide (gs s a = gs s b))) ∧ ∃ q, w' = w.drewN q := by
  obtain ⟨b1, o1, rfl, _, hca⟩ := Sl.gsAt hs ha
  obtain ⟨b2, o2, hA, _, hcb⟩ := Sl.gsAt hs hb
  injection hA with hA
  injection hA with hA1 hA2
  subst hA1 hA2
  generalize gs s a = x at *
  generalize gs s b = y at *
  have i1 : (0 : Int) ≤ (a : Int) := by omega
  have i2 : (a : Int) < (n : Int) := by omega
  have i3 : (0 : Int) ≤ (b : Int) := by omega
  have i4 : (b : Int) < (n : Int) := by omega
  obtain ⟨r, hr⟩ : ∃ r, decide (x = y) = r := ⟨_, rfl⟩
  have hb2 : (x == y) = r := by rw [← hr]; by_cases h : x = y <;> simp [h]
  rw [hr]
  clear hs hr
  go_enter Try.func36, Try.ntmps36
  go_wp2
  go_quiet (fail)
  go_wp2
  go_ret
  exact ⟨rfl, _, rfl⟩
theorem rest_val (c : List Int) (A : Option Addr) (n d a k : Nat) (x : Int) (w : World) (m : Nat) (hs : Sl w F .i64 A n c) (hn : n ≤ 1048576) (hk : k ≤ 1048576) (ha : a < n) (hx : gs c (a + k) = x) :
    Calls Try.prog 40 #[.slice A n d, .int .i64 a, .int .i64 k] (w.drewN m) fun e w' => e = .returned (.int .i64 x) ∧ ∃ q, w' = w.drewN q := by
  subst hx
  exact (rest_any c A n d a k (w.drewN m) (hs.drewN m) hn hk ha).mono fun e w' h => ⟨h.1, m, h.2.symm⟩
set_option maxHeartbeats 2000000 in
/-- sorted's second one: the same class, and the same class behind. -/
theorem same2_any (s : List Int) (A : Option Addr) (n c a b k B K : Nat) (w : World) (hs : Sl w F .i64 A n s) (hn : n ≤ 1048576) (hk : k ≤ 1048576) (hbx : w.cell? ⟨B, 0, none⟩ = some (.slice A n c)) (hkx : w.cell? ⟨K, 0, none⟩ = some (.int .i64 k)) (ha : a < n) (hb : b < n) :
    Calls Try.prog 39 #[.int .i64 a, .int .i64 b, .pointer (some ⟨B, 0, none⟩), .pointer (some ⟨K, 0, none⟩)] w fun e w' => e = .returned (.bool (decide (gs s a = gs s b) && decide (gs s (a + k) = gs s (b + k)))) ∧ ∃ q, w' = w.drewN q := by
  obtain ⟨g, hg⟩ : ∃ g : Nat → Int, ∀ p, gs s (p + k) = g p := ⟨_, fun _ => rfl⟩
  have HR : Bx (∀ p m, p = a ∨ p = b → Calls Try.prog 40 #[.slice A n c, .int .i64 p, .int .i64 k] (w.drewN m) fun e w' => e = .returned (.int .i64 (g p)) ∧ ∃ q, w' = w.drewN q) := ⟨fun p m hp => rest_val s A n c p k (g p) w m hs hn hk (by rcases hp with h | h <;> omega) (hg p)⟩
  rw [hg, hg]
  clear hg
  obtain ⟨b1, o1, rfl, _, hca⟩ := Sl.gsAt hs ha
  obtain ⟨b2, o2, hA, _, hcb⟩ := Sl.gsAt hs hb
  injection hA with hA
  injection hA with hA1 hA2
  subst hA1 hA2
  generalize gs s a = x at *
  generalize gs s b = y at *
  have i1 : (0 : Int) ≤ (a : Int) := by omega
  have i2 : (a : Int) < (n : Int) := by omega
  have i3 : (0 : Int) ≤ (b : Int) := by omega
  have i4 : (b : Int) < (n : Int) := by omega
  clear hs ha hb
  by_cases hxy : x = y
  · subst hxy
    have hb2 : (x == x) = true := by simp
    obtain ⟨r, hr⟩ : ∃ r, decide (g a = g b) = r := ⟨_, rfl⟩
    have hb3 : (g a == g b) = r := by rw [← hr]; by_cases h : g a = g b <;> simp [h]
    have hR : (decide (x = x) && decide (g a = g b)) = r := by rw [← hr]; simp
    rw [hR]
    clear hR hr
    go_enter Try.func39, Try.ntmps39
    go_wp2_with fail
    go_quiet ((go_at_call 40; exact HR.out _ _ (by first | exact .inl rfl | exact .inr rfl)))
    go_wp2
    go_ret
    exact ⟨rfl, _, rfl⟩
  · have hb2 : (x == y) = false := by simpa using hxy
    have hR : (decide (x = y) && decide (g a = g b)) = false := by simp [hxy]
    rw [hR]
    clear hR hxy
    go_enter Try.func39, Try.ntmps39
    go_wp2_with fail
    go_quiet (fail)
    go_wp2
    go_ret
    exact ⟨rfl, _, rfl⟩

theorem cmp_val (x y : Int) (w : World) (m : Nat) : Calls Try.prog 33 #[.int .i64 x, .int .i64 y] (w.drewN m) fun e w' => e = .returned (.int .i64 (Lib.compareInt x y)) ∧ ∃ q, w' = w.drewN q :=
  (AnyG.cmp_Compare_int Try.suCmp x y (w.drewN m)).mono fun _ _ h => ⟨h.1, m, h.2⟩
/-- bySymbol's one. -/
theorem cmp_any (s : List Int) (A : Option Addr) (n c a b B : Nat) (w : World) (hs : Sl w F .i64 A n s) (hbx : w.cell? ⟨B, 0, none⟩ = some (.slice A n c)) (ha : a < n) (hb : b < n) :
    Calls Try.prog 46 #[.int .i64 a, .int .i64 b, .pointer (some ⟨B, 0, none⟩)] w fun e w' => e = .returned (.int .i64 (Lib.compareInt (gs s a) (gs s b))) ∧ ∃ q, w' = w.drewN q := by
  obtain ⟨b1, o1, rfl, _, hca⟩ := Sl.gsAt hs ha
  obtain ⟨b2, o2, hA, _, hcb⟩ := Sl.gsAt hs hb
  injection hA with hA
  injection hA with hA1 hA2
  subst hA1 hA2
  generalize gs s a = x at *
  generalize gs s b = y at *
  have i1 : (0 : Int) ≤ (a : Int) := by omega
  have i2 : (a : Int) < (n : Int) := by omega
  have i3 : (0 : Int) ≤ (b : Int) := by omega
  have i4 : (b : Int) < (n : Int) := by omega
  have hcc := fun m => cmp_val x y w m
  generalize Lib.compareInt x y = r at *
  clear hs
  go_enter Try.func46, Try.ntmps46
  go_wp2_with fail
  go_quiet ((go_at_call 33; exact hcc _))
  go_wp2
  go_ret
  exact ⟨rfl, _, rfl⟩
end
end Go.Proofs.Ytgboobjmafdieaa
