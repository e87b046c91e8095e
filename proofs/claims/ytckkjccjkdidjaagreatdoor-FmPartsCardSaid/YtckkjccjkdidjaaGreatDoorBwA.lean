/-
  Words for the library's stable sort: a row by a function of its places, exchanges in memory, what a comparison answers; the contracts of slices.swapRangeCmpFunc and rotateCmpFunc.
  Conditions: the row is the call's own; the places lie within it.
-/
/-
  The contract of slices.rotateCmpFunc: two neighbouring ranges of a row of the call's own, the other way about.
  Conditions: the row is the call's own; the places lie within it.
-/
/-
  What is asked of a comparison, and the contract of slices.insertionSortCmpFunc over a row of the call's own, where it is as it began.
  Conditions: the row is the call's own; the places lie within it; the comparison holds symbols against each other.
-/
import Derived.Test.YtckkjccjkdidjaaGreatDoorSuA
import Derived.Test.YtckkjccjkdidjaaGreatDoorMaBw
import Derived.BigRegion
import Derived.BigQuiet
import Derived.Lib.Small
namespace Go.Proofs.YtckkjccjkdidjaaGreatDoor
open Go.RowKit Go.Oct Go.Su

/-- A row by a function. -/
def tb (n : Nat) (f : Nat → Nat) : List Nat := (List.range n).map f
theorem tb_len (n : Nat) (f : Nat → Nat) : (tb n f).length = n := by unfold tb; simp
theorem tb_at {n : Nat} {f : Nat → Nat} {j : Nat} (h : j < n) : (tb n f)[j]? = some (f j) := by
  unfold tb
  rw [List.getElem?_map, List.getElem?_range h]
  rfl
theorem tb_ext {n : Nat} {f f' : Nat → Nat} (h : ∀ p, p < n → f p = f' p) : tb n f = tb n f' := by
  unfold tb
  exact List.map_congr_left fun p hp => h p (List.mem_range.1 hp)
theorem tb_set {n : Nat} {f f' : Nat → Nat} {j v : Nat} (h1 : f' j = v) (h2 : ∀ q, q ≠ j → f' q = f q) : (tb n f).set j v = tb n f' := by
  apply List.ext_getElem?
  intro q
  rcases Nat.lt_or_ge q n with h | h
  · rw [tb_at h]
    by_cases e : j = q
    · subst e
      rw [List.getElem?_set_self (by rw [tb_len]; exact h), h1]
    · rw [List.getElem?_set_ne e, tb_at h, h2 q (fun e2 => e e2.symm)]
  · rw [List.getElem?_eq_none (by rw [List.length_set, tb_len]; exact h), List.getElem?_eq_none (by rw [tb_len]; exact h)]
/-- .. in memory, the call's own. -/
structure Rw (w : World) (g n : Nat) (f : Nat → Nat) : Prop where
  own : Own w 3 1 g n n (vals (tb n f))
section
variable {w w' : World} {g n : Nat} {f f' : Nat → Nat}
theorem Rw.cell (h : Rw w g n f) {j : Nat} (hj : j < n) : w.cell? ⟨g, j, none⟩ = some (.int .i64 (f j : Nat)) := by
  have := h.own.cellN hj
  rwa [gn_at (tb_at hj)] at this
theorem Rw.frozen (h : Rw w g n f) (j : Nat) : w.frozen? ⟨g, j, none⟩ = false := h.own.frozenAt j
theorem Rw.ch {S : Nat → Prop} (h : Rw w g n f) (hc : Ch S w w') (hg : ¬ S g) : Rw w' g n f := ⟨h.own.ch hc hg⟩
theorem Rw.keep (h : Rw w g n f) (hc : Ch (fun _ => False) w w') : Rw w' g n f := ⟨h.own.keep hc⟩
theorem Rw.drewN (h : Rw w g n f) (q : Nat) : Rw (w.drewN q) g n f := h.keep ((Ch.refl _ w).drewN q)
theorem Rw.swap (h : Rw w g n f) (x y : Nat) : Rw ((w.setCell ⟨g, x, none⟩ (.int .i64 (f y : Nat))).setCell ⟨g, y, none⟩ (.int .i64 (f x : Nat))) g n (swp f x y) ∧ Ch (fun b => b = g) w ((w.setCell ⟨g, x, none⟩ (.int .i64 (f y : Nat))).setCell ⟨g, y, none⟩ (.int .i64 (f x : Nat))) := by
  obtain ⟨h1, c1⟩ := h.own.storedN x (f y)
  rw [tb_set (f' := fun p => if p = x then f y else f p) (if_pos rfl) (fun q hq => if_neg hq)] at h1
  obtain ⟨h2, c2⟩ := h1.storedN y (f x)
  rw [tb_set (f' := swp f x y) (by unfold swp; rw [if_pos rfl]) (fun q hq => by unfold swp; rw [if_neg hq])] at h2
  exact ⟨⟨h2⟩, c1.trans c2 (fun _ _ h => h)⟩
end
/-- What a function that only turns the row leaves. -/
def Row1 (g n : Nat) (p : (Nat → Nat) → Prop) (w : World) (e : Ending) (w' : World) : Prop := e = .returned (.tuple #[]) ∧ ∃ f', p f' ∧ Rw w' g n f' ∧ Ch (fun b => b = g) w w'

set_option maxHeartbeats 1000000 in
theorem swaprange_any (g n a b k : Nat) (f : Nat → Nat) (cmp : Value) (w : World) (hO : Rw w g n f) (hn : n ≤ 1048576) (hab : a + k ≤ b) (hb : b + k ≤ n) :
    Calls Tryz.prog 154 #[.slice (some ⟨g, 0, none⟩) n n, .int .i64 a, .int .i64 b, .int .i64 k, cmp] w (Row1 g n (fun f' => f' = swr f a b k) w) := by
  have HO : Bx (Rw w g n (swr f a b 0)) := ⟨by rw [swr_zero]; exact hO⟩
  clear hO
  go_enter Tryz.func154, Tryz.ntmps154
  go_wp2_with fail
  go_loopw [10] (fun i wr => ∃ j : Nat, j ≤ k ∧ i = .int .i64 j ∧ Rw wr g n (swr f a b j) ∧ Ch (fun b => b = g) w wr) (fun i _ => k - (intOf i).toNat)
  case atStart => exact ⟨0, Nat.zero_le _, rfl, HO.out, Ch.refl _ _⟩
  case round =>
    obtain ⟨j, hj, rfl, hO, hC⟩ := hrel
    by_cases hlt : j < k
    · have dj : decide ((j : Int) < (k : Int)) = true := by simp; omega
      obtain ⟨x, hx⟩ : ∃ x, a + j = x := ⟨_, rfl⟩
      obtain ⟨y, hy⟩ : ∃ y, b + j = y := ⟨_, rfl⟩
      have ex : (a : Int) + (j : Int) = (x : Int) := by omega
      have ey : (b : Int) + (j : Int) = (y : Int) := by omega
      have hcx := hO.cell (j := x) (by omega)
      have hcy := hO.cell (j := y) (by omega)
      have hfx := hO.frozen x
      have hfy := hO.frozen y
      have hst := hO.swap x y
      have hnx := swr_next (f := f) (a := a) (b := b) (k := j) (by omega)
      rw [hx, hy] at hnx
      rw [hnx] at hst
      generalize swr f a b j x = vx at *
      generalize swr f a b j y = vy at *
      have HST := Bx.mk hst
      have HC := Bx.mk (hC.trans hst.2 (fun _ _ h => h))
      have i1 : (x : Int) < (n : Int) := by omega
      have i2 : (y : Int) < (n : Int) := by omega
      clear hst hnx hO hC hx hy
      go_wp2_with fail
      go_region
      all_goals
        go_wp2
        go_roundw
        case rel => exact ⟨j + 1, by omega, by go_num, HST.out.1.keep ((Ch.refl (fun _ => False) _).drew), HC.out.drew⟩
        case measure => simp [intOf]; omega
    · obtain rfl : j = k := by omega
      have HO := Bx.mk hO
      have HC := Bx.mk hC
      have dj : decide ((j : Int) < (j : Int)) = false := by simp
      clear hO hC
      go_wp2
      go_returns
      exact ⟨rfl, _, rfl, HO.out, HC.out⟩
end Go.Proofs.YtckkjccjkdidjaaGreatDoor

namespace Go.Proofs.YtckkjccjkdidjaaGreatDoor
open Go.RowKit Go.Oct Go.Su

set_option maxHeartbeats 1000000 in
theorem rotate_any (g n a m b : Nat) (f : Nat → Nat) (cmp : Value) (w : World) (hO : Rw w g n f) (hn : n ≤ 1048576) (ham : a < m) (hmb : m < b) (hb : b ≤ n) :
    Calls Tryz.prog 146 #[.slice (some ⟨g, 0, none⟩) n n, .int .i64 a, .int .i64 m, .int .i64 b, cmp] w (Row1 g n (fun f' => f' = rotn f a m b) w) := by
  have HO := Bx.mk hO
  clear hO
  go_enter Tryz.func146, Tryz.ntmps146
  go_wp2_with fail
  go_loopw [10, 11] (fun x y wr => ∃ (i j : Nat) (f' : Nat → Nat), x = .int .i64 i ∧ y = .int .i64 j ∧ 0 < i ∧ 0 < j ∧ a + i ≤ m ∧ m + j ≤ b ∧ Bx (rotn f' (m - i) m (m + j) = rotn f a m b) ∧ Rw wr g n f' ∧ Ch (fun b => b = g) w wr) (fun x y _ => (intOf x).toNat + (intOf y).toNat)
  case atStart => exact ⟨m - a, b - m, f, by rw [show ((m - a : Nat) : Int) = (m : Int) - (a : Int) by omega], by rw [show ((b - m : Nat) : Int) = (b : Int) - (m : Int) by omega], by omega, by omega, by omega, by omega, ⟨by rw [show m - (m - a) = a by omega, show m + (b - m) = b by omega]⟩, HO.out, Ch.refl _ _⟩
  case round =>
    obtain ⟨i, j, f', rfl, rfl, hi, hj, hai, hbj, hR, hO, hC⟩ := hrel
    have HO := Bx.mk hO
    have HC := Bx.mk hC
    clear hO hC
    have e1 : (m : Int) - (i : Int) = ((m - i : Nat) : Int) := by omega
    rcases Nat.lt_trichotomy i j with h | h | h
    · have d1 : ((i : Int) != (j : Int)) = true := by simp; omega
      have d2 : decide ((j : Int) < (i : Int)) = false := by simp; omega
      have e2 : (m : Int) + (j : Int) - (i : Int) = ((m + j - i : Nat) : Int) := by omega
      have hsw := swaprange_any g n (m - i) (m + j - i) i f' cmp wr HO.out hn (by omega) (by omega)
      rw [← e1, ← e2] at hsw
      have HR : Bx (rotn (swr f' (m - i) (m + j - i) i) (m - i) m (m + (j - i)) = rotn f a m b) := ⟨by rw [rot_right h (by omega)]; exact hR.out⟩
      have HSW := Bx.mk hsw
      clear hsw hR e1 e2
      go_wp2_with fail
      refine HSW.out.mono ?_
      rintro e w2 ⟨rfl, f2, rfl, hO2, hC2⟩
      have HO2 := Bx.mk hO2
      have HC2 := Bx.mk (HC.out.trans hC2 (fun _ _ h => h))
      clear hO2 hC2 HSW
      go_wp2
      go_roundw
      case rel => exact ⟨i, j - i, _, rfl, by rw [show ((j - i : Nat) : Int) = (j : Int) - (i : Int) by omega], by omega, by omega, by omega, by omega, HR, HO2.out, HC2.out⟩
      case measure => simp [intOf]; omega
    · subst h
      have d1 : ((i : Int) != (i : Int)) = false := by simp
      have hsw := swaprange_any g n (m - i) m i f' cmp wr HO.out hn (by omega) (by omega)
      rw [← e1] at hsw
      have HR : Bx (swr f' (m - i) m i = rotn f a m b) := ⟨by rw [rot_end (by omega)]; exact hR.out⟩
      have HSW := Bx.mk hsw
      clear hsw hR e1
      go_wp2_with fail
      refine HSW.out.mono ?_
      rintro e w2 ⟨rfl, f2, rfl, hO2, hC2⟩
      have HO2 := Bx.mk hO2
      have HC2 := Bx.mk (HC.out.trans hC2 (fun _ _ h => h))
      clear hO2 hC2 HSW
      go_wp2
      go_returns
      exact ⟨rfl, _, HR.out, HO2.out, HC2.out⟩
    · have d1 : ((i : Int) != (j : Int)) = true := by simp; omega
      have d2 : decide ((j : Int) < (i : Int)) = true := by simp; omega
      have hsw := swaprange_any g n (m - i) m j f' cmp wr HO.out hn (by omega) (by omega)
      rw [← e1] at hsw
      have HR : Bx (rotn (swr f' (m - i) m j) (m - (i - j)) m (m + j) = rotn f a m b) := ⟨by rw [rot_left h (by omega)]; exact hR.out⟩
      have HSW := Bx.mk hsw
      clear hsw hR e1
      go_wp2_with fail
      refine HSW.out.mono ?_
      rintro e w2 ⟨rfl, f2, rfl, hO2, hC2⟩
      have HO2 := Bx.mk hO2
      have HC2 := Bx.mk (HC.out.trans hC2 (fun _ _ h => h))
      clear hO2 hC2 HSW
      go_wp2
      go_roundw
      case rel => exact ⟨i - j, j, _, by rw [show ((i - j : Nat) : Int) = (i : Int) - (j : Int) by omega], rfl, by omega, by omega, by omega, by omega, HR, HO2.out, HC2.out⟩
      case measure => simp [intOf]; omega
end Go.Proofs.YtckkjccjkdidjaaGreatDoor

namespace Go.Proofs.YtckkjccjkdidjaaGreatDoor
open Go.RowKit Go.Oct Go.Su

/-- How two stand to each other by their symbols. -/
def cv (l : List Int) (x y : Nat) : Int := Lib.compareInt (gs l x) (gs l y)
theorem cv_neg (l : List Int) (x y : Nat) : cv l x y < 0 ↔ gs l x < gs l y := by
  unfold cv Lib.compareInt
  by_cases h1 : gs l x < gs l y
  · simp [h1]
  · by_cases h2 : gs l y < gs l x <;> simp [h1, h2]
/-- A comparison that does so, from a world on. -/
structure CmpOk (l : List Int) (n g fc : Nat) (cb : Array Value) (w : World) : Prop where
  enters : ∀ args w, (callFunc fc args).run Tryz.prog w = .ok (.enter fc args) w
  calls : ∀ W, Ch (fun b => b = g) w W → ∀ x y : Nat, x < n → y < n → Calls Tryz.prog fc (#[.int .i64 (x : Int), .int .i64 (y : Int)] ++ cb) W fun e w' => e = .returned (.int .i64 (cv l x y)) ∧ ∃ q, w' = W.drewN q
theorem CmpOk.later {l : List Int} {n g fc : Nat} {cb : Array Value} {w w' : World} (h : CmpOk l n g fc cb w) (hc : Ch (fun b => b = g) w w') : CmpOk l n g fc cb w' := ⟨h.enters, fun W hW => h.calls W (hc.trans hW (fun _ _ h => h))⟩
theorem CmpOk.quiet {l : List Int} {n g fc : Nat} {cb : Array Value} {w : World} (h : CmpOk l n g fc cb w) {x y : Nat} (hx : x < n) (hy : y < n) (m : Nat) : Calls Tryz.prog fc (#[.int .i64 (x : Int), .int .i64 (y : Int)] ++ cb) (w.drewN m) fun e w' => e = .returned (.int .i64 (cv l x y)) ∧ ∃ q, w' = (w.drewN m).drewN q :=
  h.calls _ ((Ch.refl _ w).drewN m) x y hx hy

set_option maxRecDepth 100000 in
set_option maxHeartbeats 4000000 in
theorem insertion_any (l : List Int) (g n fc a b : Nat) (cb : Array Value) (f : Nat → Nat) (w : World) (hO : Rw w g n f) (hc : CmpOk l n g fc cb w) (hn : n ≤ 1048576) (hab : a ≤ b) (hb : b ≤ n) (hlt : ∀ p, p < n → f p < n) (hid : ∀ i j, a ≤ i → i < j → j < b → f i < f j) :
    Calls Tryz.prog 143 #[.slice (some ⟨g, 0, none⟩) n n, .int .i64 a, .int .i64 b, .func (.func fc) #[] cb] w (Row1 g n (fun f' => Mpost l f f' a b) w) := by
  have HO := Bx.mk hO
  have HCM := Bx.mk hc
  have HLT := Bx.mk hlt
  have HID := Bx.mk hid
  have eg := hc.enters
  clear hO hc hlt hid
  go_enter Tryz.func143, Tryz.ntmps143
  go_wp2_with fail
  go_loopw [8] (fun x wr => ∃ (i : Nat) (F : Nat → Nat), x = .int .i64 i ∧ a < i ∧ i ≤ b + 1 ∧ Bx (SrtOn l F a (min i b) ∧ Frm f F a (min i b)) ∧ Rw wr g n F ∧ Ch (fun b => b = g) w wr) (fun x _ => b + 1 - (intOf x).toNat)
  case atStart => exact ⟨a + 1, f, by go_num, by omega, by omega, ⟨fun i j h1 h2 h3 => absurd h1 (by omega), Frm.refl _ _ _⟩, HO.out, Ch.refl _ _⟩
  case round =>
    obtain ⟨i, F, rfl, hai, hib, hS, hO, hC⟩ := hrel
    by_cases hlt : i < b
    · have dj : decide ((i : Int) < (b : Int)) = true := by simp; omega
      have hmin : min i b = i := by omega
      rw [hmin] at hS
      have HO1 := Bx.mk hO
      have HC1 := Bx.mk hC
      have HFL : Bx (∀ p, p < n → F p < n) := ⟨fun p hp => by
        by_cases h : a ≤ p ∧ p < i
        · obtain ⟨q, h1, h2, e⟩ := hS.out.2.inn p h.1 h.2
          rw [e]
          exact HLT.out q (by omega)
        · rw [hS.out.2.out p (by omega)]
          exact HLT.out p hp⟩
      have HCR : Bx (∀ q, a ≤ q → q < i → F q < F i) := ⟨fun q h1 h2 => by
        obtain ⟨r, h3, h4, e⟩ := hS.out.2.inn q h1 h2
        rw [e, hS.out.2.out i (by omega)]
        exact HID.out r i h3 h4 hlt⟩
      obtain ⟨wo, rfl⟩ : ∃ wo : World, wo = wr := ⟨_, rfl⟩
      clear hO hC hmin
      go_wp2_with fail
      go_loopw [9] (fun x wr => ∃ j : Nat, x = .int .i64 j ∧ a ≤ j ∧ j ≤ i ∧ Bx (∀ q, j ≤ q → q < i → Bef l (F i) (F q)) ∧ Rw wr g n (mvd F i j) ∧ Ch (fun b => b = g) wo wr) (fun x _ => (intOf x).toNat)
      case atStart => exact ⟨i, rfl, by omega, Nat.le_refl _, ⟨fun q h1 h2 => absurd h1 (by omega)⟩, by rw [mvd_start]; exact HO1.out, Ch.refl _ _⟩
      case round =>
        obtain ⟨j, rfl, haj, hji, hB, hO, hC⟩ := hrel
        have HO := Bx.mk hO
        have HC := Bx.mk hC
        clear hO hC
        have out : (j = a ∨ ∃ k, j = k + 1 ∧ ¬ gs l (F i) < gs l (F k)) → Mpost l f (mvd F i j) a (i + 1) := fun hs => by
          refine ⟨srt_mvd hS.out.1 haj hji (fun q h1 h2 => ?_) hB.out, (hS.out.2.wide (Nat.le_refl _) (by omega)).trans (frm_mvd haj hji)⟩
          rcases hs with hs | ⟨k, hk, hs⟩
          · omega
          · have hx := bef_not (HCR.out k (by omega) (by omega)) hs
            rcases Nat.lt_or_ge q k with h5 | h5
            · exact (hS.out.1 q k h1 h5 (by omega)).trans hx
            · obtain rfl : q = k := by omega
              exact hx
        have OUT := Bx.mk out
        have bmin : min (i + 1) b = i + 1 := by omega
        have BMIN := Bx.mk bmin
        clear out bmin
        by_cases hja : a < j
        · obtain ⟨k, rfl⟩ : ∃ k, j = k + 1 := ⟨j - 1, by omega⟩
          have jc : ((k + 1 : Nat) : Int) = (k : Int) + 1 := by omega
          have d0 : decide ((a : Int) < (k : Int) + 1) = true := by simp; omega
          have hcj := HO.out.cell (j := k + 1) (by omega)
          have hck := HO.out.cell (j := k) (by omega)
          rw [mvd_here] at hcj
          rw [mvd_ahead] at hck
          have hq := (HCM.out.later (HC1.out.trans HC.out (fun _ _ h => h))).quiet (HFL.out i (by omega)) (HFL.out k (by omega))
          have hF1 := mvd_here F i (k + 1)
          have hF0 := mvd_ahead (f := F) (m := i) (k := k)
          obtain ⟨v, hv⟩ : ∃ v, cv l (F i) (F k) = v := ⟨_, rfl⟩
          have hvl := cv_neg l (F i) (F k)
          rw [hv] at hq hvl
          have HVL := Bx.mk hvl
          have HBN : Bx (v < 0 → ∀ q, k ≤ q → q < i → Bef l (F i) (F q)) := ⟨fun h0 q h1 h2 => by
            rcases Nat.lt_or_ge k q with h5 | h5
            · exact hB.out q (by omega) h2
            · obtain rfl : q = k := by omega
              exact bef_of (hvl.1 h0)⟩
          obtain ⟨x, hx⟩ : ∃ x, F i = x := ⟨_, rfl⟩
          rw [hx] at hq hcj hF1
          obtain ⟨y, hy⟩ : ∃ y, F k = y := ⟨_, rfl⟩
          rw [hy] at hq hck hF0
          have HQ := Bx.mk hq
          have i1 : (k : Int) + 1 < (n : Int) := by omega
          have i2 : (k : Int) < (n : Int) := by omega
          clear hB hv hvl hq hx hy
          by_cases h0 : v < 0
          · have HBN2 := Bx.mk (HBN.out h0)
            have d1 : decide (v < 0) = true := by simpa using h0
            go_wp2_with fail
            go_quiet (refine Calls.quiet_of (HQ.out _))
            have hst := (HO.out.drewN nq).swap (k + 1) k
            rw [mvd_next (by omega), hF1, hF0] at hst
            have HST := Bx.mk hst.1
            have HCD := Bx.mk ((HC.out.drewN nq).trans hst.2 (fun _ _ h => h))
            have hcj1 : (wr.drewN nq).cell? ⟨g, k + 1, none⟩ = some (.int .i64 (x : Int)) := hcj
            have hck1 : (wr.drewN nq).cell? ⟨g, k, none⟩ = some (.int .i64 (y : Int)) := hck
            have hfj1 := (HO.out.drewN nq).frozen (k + 1)
            have hfk1 := (HO.out.drewN nq).frozen k
            clear hst hcj hck HQ
            generalize wr.drewN nq = w1 at *
            go_wp2_with fail
            go_region
            all_goals
              go_wp2
              go_roundw
              case rel => exact ⟨k, by go_num, by omega, by omega, HBN2, HST.out.keep ((Ch.refl (fun _ => False) _).drew), HCD.out.drew⟩
              case measure => first | (simp [intOf]; done) | (simp [intOf]; omega)
          · have HOU := Bx.mk (OUT.out (.inr ⟨k, rfl, fun h => h0 (HVL.out.2 h)⟩))
            have d1 : decide (v < 0) = false := by simpa using h0
            go_wp2_with fail
            go_quiet (refine Calls.quiet_of (HQ.out _))
            have HCD := Bx.mk (HC1.out.trans (HC.out.drewN nq) (fun _ _ h => h))
            have HOD := Bx.mk (HO.out.drewN nq)
            generalize wr.drewN nq = w1 at *
            go_wp2
            go_roundw
            case rel => exact ⟨i + 1, _, by go_num, by omega, by omega, ⟨by rw [BMIN.out]; exact ⟨HOU.out.srt, HOU.out.frm⟩⟩, HOD.out, HCD.out⟩
            case measure => simp [intOf]; omega
        · have HOU := Bx.mk (OUT.out (.inl (by omega)))
          have d0 : decide ((a : Int) < (j : Int)) = false := by simp; omega
          have d1 : decide (a < j) = false := by simp; omega
          go_wp2_with fail
          go_quiet (fail)
          have HCD := Bx.mk (HC1.out.trans (HC.out.drewN nq) (fun _ _ h => h))
          have HOD := Bx.mk (HO.out.drewN nq)
          generalize wr.drewN nq = w1 at *
          go_wp2
          go_roundw
          case rel => exact ⟨i + 1, _, by go_num, by omega, by omega, ⟨by rw [BMIN.out]; exact ⟨HOU.out.srt, HOU.out.frm⟩⟩, HOD.out, HCD.out⟩
          case measure => simp [intOf]; omega
    · have dj : decide ((i : Int) < (b : Int)) = false := by simp; omega
      have hmin : min i b = b := by omega
      rw [hmin] at hS
      have HO1 := Bx.mk hO
      have HC1 := Bx.mk hC
      clear hO hC hmin
      go_wp2
      go_returns
      exact ⟨rfl, F, ⟨hS.out.1, hS.out.2⟩, HO1.out, HC1.out⟩
end Go.Proofs.YtckkjccjkdidjaaGreatDoor
