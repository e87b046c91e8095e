/-
  Plain mathematics of texts in a row, over no program: where each begins, where a pattern stands in them. Conditions: none; plain lemmas.
-/
import Derived.Test.YtanhnaohmaepoaaOcMath
namespace Go.Su

/-- Where each text begins. -/
def beg (xss : List (List Int)) (d : Nat) : Nat := ((xss.take d).map fun t => t.length + 1).sum
/-- Its places in a text. -/
def ats (t p : List Int) : List Nat := if p = [] then [] else (List.range (t.length + 1 - p.length)).filter fun a => decide ((t.drop a).take p.length = p)
/-- Its places in the texts, in order. -/
def locs : List (List Int) → List Int → Nat → List (Nat × Nat)
  | [], _, _ => []
  | t :: xss, p, d => (ats t p).map (fun a => (d, a)) ++ locs xss p (d + 1)

section
variable {xss : List (List Int)} {t p : List Int} {d a x : Nat}
theorem beg_zero (xss : List (List Int)) : beg xss 0 = 0 := rfl
theorem beg_cons (t : List Int) (xss : List (List Int)) (d : Nat) : beg (t :: xss) (d + 1) = t.length + 1 + beg xss d := by
  unfold beg
  rw [List.take_succ_cons, List.map_cons, List.sum_cons]
theorem beg_next : ∀ (xss : List (List Int)) (d : Nat), d < xss.length → beg xss (d + 1) = beg xss d + ((xss.getD d []).length + 1)
  | [], d, h => absurd h (by simp)
  | t :: xss, 0, _ => by
    rw [beg_cons, beg_zero, beg_zero]
    simp
  | t :: xss, d + 1, h => by
    have := beg_next xss d (by simpa using h)
    rw [beg_cons, beg_cons, this]
    simp
    omega
theorem beg_mono (xss : List (List Int)) {d : Nat} : ∀ {e : Nat}, d ≤ e → e ≤ xss.length → beg xss d ≤ beg xss e
  | 0, h, _ => by
    obtain rfl : d = 0 := by omega
    exact Nat.le_refl _
  | e + 1, h, he => by
    rcases Nat.lt_or_ge d (e + 1) with h1 | h1
    · have := beg_mono xss (show d ≤ e by omega) (by omega)
      rw [beg_next xss e (by omega)]
      omega
    · obtain rfl : d = e + 1 := by omega
      exact Nat.le_refl _
end
end Go.Su
