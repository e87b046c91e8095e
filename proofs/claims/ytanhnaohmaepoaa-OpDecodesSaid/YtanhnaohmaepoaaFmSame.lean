/-
  The contract of haystacklaw13.same: two byte slices that read as lists: true just if the lists are one. Conditions: both can be read; nothing but draws turns the world.
-/
import Derived.Test.YtanhnaohmaepoaaSuRow
import Derived.Deep.QuietTactic
import Derived.BigQuiet
import Derived.Outline
import Derived.Lib.Hide
namespace Go.Proofs.Ytanhnaohmaepoaa
open Go.RowKit Go.Oct

/-- The first k are alike. -/
def Alike (xs ys : List Int) (k : Nat) : Prop := ∀ j, j < k → xs[j]? = ys[j]?

theorem alike_all {xs ys : List Int} {n : Nat} (hx : xs.length = n) (hy : ys.length = n) (ha : Alike xs ys n) : xs = ys := by
  apply List.ext_getElem?
  intro j
  rcases Nat.lt_or_ge j n with h | h
  · exact ha j h
  · rw [List.getElem?_eq_none (by omega), List.getElem?_eq_none (by omega)]
theorem alike_succ {xs ys : List Int} {k : Nat} {x : Int} (ha : Alike xs ys k) (hx : xs[k]? = some x) (hy : ys[k]? = some x) : Alike xs ys (k + 1) := by
  intro j hj
  rcases Nat.lt_or_ge j k with h | h
  · exact ha j h
  · obtain rfl : j = k := by omega
    rw [hx, hy]
theorem alike_not {xs ys : List Int} {k : Nat} {x y : Int} (hx : xs[k]? = some x) (hy : ys[k]? = some y) (h : x ≠ y) : xs ≠ ys := by
  rintro rfl
  rw [hx] at hy
  exact h (Option.some.inj hy)

set_option maxHeartbeats 400000 in
theorem same_any (A A' : Option Addr) (n n' c c' : Nat) (xs ys : List Int) (F F' : Nat → Prop) (w : World) (hn : n ≤ 9223372036854775807) (hn' : n' ≤ 9223372036854775807)
    (hx : Sl w F .u8 A n xs) (hy : Sl w F' .u8 A' n' ys) :
    Calls Try.prog 11 #[.slice A n c, .slice A' n' c'] w fun e w' => e = .returned (.bool (decide (xs = ys))) ∧ ∃ k, w' = w.drewN k := by
  by_cases hne : n = n'
  · subst hne
    go_enter Try.func11, Try.ntmps11
    go_wp2
    go_loopw [5] (fun i wr => ∃ k : Nat, k ≤ n ∧ i = .int .i64 k ∧ Alike xs ys k ∧ ∃ m, wr = w.drewN m) (fun i _ => n - (intOf i).toNat)
    case atStart => exact ⟨0, Nat.zero_le _, rfl, fun j hj => absurd hj (by omega), 0, rfl⟩
    case round =>
      obtain ⟨k, hk, rfl, ha, m, rfl⟩ := hrel
      have HA := Lib.hid ha
      clear ha
      by_cases hlt : k < n
      · obtain ⟨b, off, x, rfl, _, ex, hc⟩ := hx.at_ hlt
        obtain ⟨b', off', y, rfl, _, ey, hc'⟩ := hy.at_ hlt
        by_cases he : x = y
        · subst he
          have hb : (x != x) = false := by simp
          go_wp2
          go_quiet (fail)
          go_wp2
          go_roundw
          case rel => exact ⟨k + 1, by omega, by go_num, alike_succ HA.out ex.out ey.out, _, rfl⟩
          case measure => simp [intOf]; omega
        · have hb : (x != y) = true := by simpa using he
          have HE := Lib.hid he
          clear he
          go_wp2
          go_quiet (fail)
          go_wp2
          go_ret
          exact ⟨ret_bool (by rw [decide_eq_false (alike_not ex.out ey.out HE.out)]), _, World.drewN_drewN _ _ _⟩
      · go_wp2
        go_ret
        obtain rfl : k = n := by omega
        exact ⟨ret_bool (by rw [decide_eq_true (alike_all hx.len hy.len HA.out)]), _, rfl⟩
  · have hb : ((n : Int) != (n' : Int)) = true := by rw [bne_iff_ne]; omega
    go_enter Try.func11, Try.ntmps11
    go_wp2
    go_ret
    exact ⟨ret_bool (by rw [decide_eq_false (fun e => hne (by rw [← hx.len, ← hy.len, e]))]), 0, rfl⟩
end Go.Proofs.Ytanhnaohmaepoaa
