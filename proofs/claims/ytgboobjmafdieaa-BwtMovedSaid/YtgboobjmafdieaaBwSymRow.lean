/-
  Words for the library's stable sort: a row by a function of its places, exchanges in memory, what a comparison answers; the contracts of slices.swapRangeCmpFunc and rotateCmpFunc.
  Conditions: the row is the call's own; the places lie within it.
-/
import Derived.Test.YtgboobjmafdieaaSvCell
import Derived.Test.YtgboobjmafdieaaBwSymMath
import Derived.BigRegion
namespace Go.Proofs.Ytgboobjmafdieaa
open Go.RowKit Go.Oct Go.Su

/-- A row by a function. -/
def tb (n : Nat) (f : Nat → Nat) : List Nat := (List.range n).map f
theorem tb_len (n : Nat) (f : Nat → Nat) : (tb n f).length = n := by unfold tb; simp
theorem tb_at {n : Nat} {f : Nat → Nat} {j : Nat} (h : j < n) : (tb n f)[j]? = some (f j) := by
  unfold tb
  rw [List.getElem?_map, List.getElem?_range h]
  rfl
theorem tb_ext {n : Nat} {f f' : Nat → Nat} (h : ∀ p, p < n → f p = f' p) : tb n f = tb n f' := by
  unfold tb
  exact List.map_congr_left fun p hp => h p (List.mem_range.1 hp)
theorem tb_set {n : Nat} {f f' : Nat → Nat} {j v : Nat} (h1 : f' j = v) (h2 : ∀ q, q ≠ j → f' q = f q) : (tb n f).set j v = tb n f' := by
  apply List.ext_getElem?
  intro q
  rcases Nat.lt_or_ge q n with h | h
  · rw [tb_at h]
    by_cases e : j = q
    · subst e
      rw [List.getElem?_set_self (by rw [tb_len]; exact h), h1]
    · rw [List.getElem?_set_ne e, tb_at h, h2 q (fun e2 => e e2.symm)]
  · rw [List.getElem?_eq_none (by rw [List.length_set, tb_len]; exact h), List.getElem?_eq_none (by rw [tb_len]; exact h)]
/-- .. in memory, the call's own. -/
structure Rw (w : World) (g n : Nat) (f : Nat → Nat) : Prop where
  own : Own w 3 1 g n n (vals (tb n f))
section
variable {w w' : World} {g n : Nat} {f f' : Nat → Nat}
theorem Rw.cell (h : Rw w g n f) {j : Nat} (hj : j < n) : w.cell? ⟨g, j, none⟩ = some (.int .i64 (f j : Nat)) := by
  have := h.own.cellN hj
  rwa [gn_at (tb_at hj)] at this
theorem Rw.frozen (h : Rw w g n f) (j : Nat) : w.frozen? ⟨g, j, none⟩ = false := h.own.frozenAt j
theorem Rw.ch {S : Nat → Prop} (h : Rw w g n f) (hc : Ch S w w') (hg : ¬ S g) : Rw w' g n f := ⟨h.own.ch hc hg⟩
theorem Rw.keep (h : Rw w g n f) (hc : Ch (fun _ => False) w w') : Rw w' g n f := ⟨h.own.keep hc⟩
theorem Rw.drewN (h : Rw w g n f) (q : Nat) : Rw (w.drewN q) g n f := h.keep ((Ch.refl _ w).drewN q)
theorem Rw.swap (h : Rw w g n f) (x y : Nat) : Rw ((w.setCell ⟨g, x, none⟩ (.int .i64 (f y : Nat))).setCell ⟨g, y, none⟩ (.int .i64 (f x : Nat))) g n (swp f x y) ∧ Ch (fun b => b = g) w ((w.setCell ⟨g, x, none⟩ (.int .i64 (f y : Nat))).setCell ⟨g, y, none⟩ (.int .i64 (f x : Nat))) := by
  obtain ⟨h1, c1⟩ := h.own.storedN x (f y)
  rw [tb_set (f' := fun p => if p = x then f y else f p) (if_pos rfl) (fun q hq => if_neg hq)] at h1
  obtain ⟨h2, c2⟩ := h1.storedN y (f x)
  rw [tb_set (f' := swp f x y) (by unfold swp; rw [if_pos rfl]) (fun q hq => by unfold swp; rw [if_neg hq])] at h2
  exact ⟨⟨h2⟩, c1.trans c2 (fun _ _ h => h)⟩
end
/-- What a function that only turns the row leaves. -/
def Row1 (g n : Nat) (p : (Nat → Nat) → Prop) (w : World) (e : Ending) (w' : World) : Prop := e = .returned (.tuple #[]) ∧ ∃ f', p f' ∧ Rw w' g n f' ∧ Ch (fun b => b = g) w w'

set_option maxHeartbeats 1000000 in
theorem swaprange_any (g n a b k : Nat) (f : Nat → Nat) (cmp : Value) (w : World) (hO : Rw w g n f) (hn : n ≤ 1048576) (hab : a + k ≤ b) (hb : b + k ≤ n) :
    Calls Try.prog 61 #[.slice (some ⟨g, 0, none⟩) n n, .int .i64 a, .int .i64 b, .int .i64 k, cmp] w (Row1 g n (fun f' => f' = swr f a b k) w) := by
  have HO : Bx (Rw w g n (swr f a b 0)) := ⟨by rw [swr_zero]; exact hO⟩
  clear hO
  go_enter Try.func61, Try.ntmps61
  go_wp2_with fail
  go_loopw [10] (fun i wr => ∃ j : Nat, j ≤ k ∧ i = .int .i64 j ∧ Rw wr g n (swr f a b j) ∧ Ch (fun b => b = g) w wr) (fun i _ => k - (intOf i).toNat)
  case atStart => exact ⟨0, Nat.zero_le _, rfl, HO.out, Ch.refl _ _⟩
  case round =>
    obtain ⟨j, hj, rfl, hO, hC⟩ := hrel
    by_cases hlt : j < k
    · have dj : decide ((j : Int) < (k : Int)) = true := by simp; omega
      obtain ⟨x, hx⟩ : ∃ x, a + j = x := ⟨_, rfl⟩
      obtain ⟨y, hy⟩ : ∃ y, b + j = y := ⟨_, rfl⟩
      have ex : (a : Int) + (j : Int) = (x : Int) := by omega
      have ey : (b : Int) + (j : Int) = (y : Int) := by omega
      have hcx := hO.cell (j := x) (by omega)
      have hcy := hO.cell (j := y) (by omega)
      have hfx := hO.frozen x
      have hfy := hO.frozen y
      have hst := hO.swap x y
      have hnx := swr_next (f := f) (a := a) (b := b) (k := j) (by omega)
      rw [hx, hy] at hnx
      rw [hnx] at hst
      generalize swr f a b j x = vx at *
      generalize swr f a b j y = vy at *
      have HST := Bx.mk hst
      have HC := Bx.mk (hC.trans hst.2 (fun _ _ h => h))
      have i1 : (x : Int) < (n : Int) := by omega
      have i2 : (y : Int) < (n : Int) := by omega
      clear hst hnx hO hC hx hy
      go_wp2_with fail
      go_region
      all_goals
        go_wp2
        go_roundw
        case rel => exact ⟨j + 1, by omega, by go_num, HST.out.1.keep ((Ch.refl (fun _ => False) _).drew), HC.out.drew⟩
        case measure => simp [intOf]; omega
    · obtain rfl : j = k := by omega
      have HO := Bx.mk hO
      have HC := Bx.mk hC
      have dj : decide ((j : Int) < (j : Int)) = false := by simp
      clear hO hC
      go_wp2
      go_returns
      exact ⟨rfl, _, rfl, HO.out, HC.out⟩
end Go.Proofs.Ytgboobjmafdieaa
