/-
  An Array in memory, and the contracts of the methods that only read: Len, Width, has, place, greatest, Get.
-/
import Derived.Test.YtknmhhccemojiaaOcWords
import Derived.Test.YtknmhhccemojiaaPkMath
import Derived.Test.YtknmhhccemojiaaProg
import Derived.Deep.QuietTactic
import Derived.BigQuiet
import Derived.Outline
import Derived.Lib.Hide
import Derived.Handy
import Derived.RegionTactic
import Derived.ChangeAlike
import Derived.StillTailTactics
namespace Go.Proofs.Ytknmhhccemojiaa
open Go.RowKit Go.Oct Go.Pk

/-- A fact that no assumption looks into. -/
structure Bx (p : Prop) : Prop where
  out : p

theorem ret_int {k : IntKind} {a b : Int} (h : a = b) : Ending.returned (.int k a) = .returned (.int k b) := by rw [h]
theorem ret_bool {a b : Bool} (h : a = b) : Ending.returned (.bool a) = .returned (.bool b) := by rw [h]
theorem ret_two {k m : IntKind} {a b c d : Int} (h : a = b) (h' : c = d) : Ending.returned (.tuple #[.int k a, .int m c]) = .returned (.tuple #[.int k b, .int m d]) := by rw [h, h']
theorem div_cast (x r : Nat) : ((x / 2 ^ r : Nat) : Int) = (x : Int) / 2 ^ r := by
  rw [Int.natCast_ediv, Int.natCast_pow]
  rfl
theorem and_nat {a b c : Nat} (h : a &&& b = c) (ha : a < 18446744073709551616) (hb : b < 18446744073709551616) : bits .and .u64 (a : Int) (b : Int) = (c : Int) := by rw [bits_and_u64_nat a b ha hb, h]
theorem or_nat {a b c : Nat} (h : a ||| b = c) (ha : a < 18446744073709551616) (hb : b < 18446744073709551616) : bits .or .u64 (a : Int) (b : Int) = (c : Int) := by rw [bits_or_u64_nat a b ha hb, h]
theorem wrap_nat (a : Nat) : IntKind.u64.wrap (a : Int) = ((a % 18446744073709551616 : Nat) : Int) := by rw [IntKind.wrap_u64]; omega
theorem shl_nat (x r : Nat) : IntKind.u64.wrap ((x : Int) * 2 ^ r) = ((x * 2 ^ r % 18446744073709551616 : Nat) : Int) := (congrArg IntKind.u64.wrap (by push_cast; rfl)).trans (wrap_nat _)

/-- Numbers that a slice reads as. -/
abbrev Sn (w : World) (F : Nat → Prop) (A : Option Addr) (xs : List Nat) : Prop := Sl w F .u64 A xs.length (xs.map fun x : Nat => (x : Int))
theorem Sn.at_ {w : World} {F : Nat → Prop} {A : Option Addr} {xs : List Nat} (h : Sn w F A xs) {k : Nat} (hk : k < xs.length) : ∃ b off, A = some ⟨b, off, none⟩ ∧ F b ∧ w.cell? ⟨b, off + k, none⟩ = some (.int .u64 (xs.getD k 0 : Nat)) := by
  obtain ⟨b, off, x, e, hb, hx, hc⟩ := Sl.at_ h hk
  refine ⟨b, off, e, hb, ?_⟩
  have := hx.out
  rw [List.getElem?_map, List.getElem?_eq_getElem hk] at this
  rw [hc, List.getD_eq_getElem?_getD, List.getElem?_eq_getElem hk]
  simp at this
  simp [this]

/-- An Array at block bv of n numbers of wd digits, its words ws in block bw. -/
structure Raw (w : World) (bv bw wd n : Nat) (ws : List Nat) : Prop where
  blk : w.heap[bv]? = some (.cells #[.int .i64 wd, .int .i64 n, .slice (some ⟨bw, 0, none⟩) ws.length ws.length] 60 (0, 0))
  own : w.ownsRow 0 25 1 (.slice (some ⟨bw, 0, none⟩) ws.length ws.length) ws.length (ws.map fun x : Nat => Value.int .u64 x)
  ne : bv ≠ bw
  lo : 1 ≤ wd
  hi : wd ≤ 64
  most : n ≤ 1048576
  len : ws.length = (wd * n + 63) / 64
  lt : ∀ k, ws.getD k 0 < 18446744073709551616

theorem cells3 {w : World} {b : Nat} {u v x : Value} {t : TypeId} (h : w.heap[b]? = some (.cells #[u, v, x] t (0, 0))) :
    w.cell? ⟨b, 0, none⟩ = some u ∧ w.cell? ⟨b, 1, none⟩ = some v ∧ w.cell? ⟨b, 2, none⟩ = some x := by
  simp [World.cell?, h]
theorem Raw.ch {w w' : World} {S : Nat → Prop} {bv bw wd n : Nat} {ws : List Nat} (h : Raw w bv bw wd n ws) (hc : Ch S w w') (h1 : ¬ S bv) (h2 : ¬ S bw) : Raw w' bv bw wd n ws :=
  ⟨by rw [hc.block bv (Array.getElem?_eq_some_iff.1 h.blk).1 h1]; exact h.blk, hc.own h.own (fun g hg => by simp [Value.ownBlock] at hg; subst hg; exact h2), h.ne, h.lo, h.hi, h.most, h.len, h.lt⟩
theorem Raw.keep {w w' : World} {bv bw wd n : Nat} {ws : List Nat} (h : Raw w bv bw wd n ws) (hc : Ch (fun _ => False) w w') : Raw w' bv bw wd n ws := h.ch hc (fun h => h) (fun h => h)
theorem Raw.drewN {w : World} {bv bw wd n : Nat} {ws : List Nat} (h : Raw w bv bw wd n ws) (m : Nat) : Raw (w.drewN m) bv bw wd n ws := h.keep ((Ch.refl (fun _ => False) w).drewN m)
theorem Raw.cellAt {w : World} {bv bw wd n : Nat} {ws : List Nat} (h : Raw w bv bw wd n ws) {j : Nat} (hj : j < ws.length) : w.cell? ⟨bw, j, none⟩ = some (.int .u64 (ws.getD j 0 : Nat)) := by
  have := h.own.cellAt j (by omega)
  rw [List.getElem?_map, List.getElem?_eq_getElem hj] at this
  rw [this, List.getD_eq_getElem?_getD, List.getElem?_eq_getElem hj]
  rfl
theorem Raw.frozenAt {w : World} {bv bw wd n : Nat} {ws : List Nat} (h : Raw w bv bw wd n ws) (j : Nat) : w.frozen? ⟨bw, j, none⟩ = false := h.own.frozenAt j
theorem Raw.lts {w : World} {bv bw wd n : Nat} {ws : List Nat} (h : Raw w bv bw wd n ws) : bv < w.heap.size ∧ bw < w.heap.size := ⟨(Array.getElem?_eq_some_iff.1 h.blk).1, (h.own.lt bw rfl).2⟩
/-- One word turned. -/
theorem Raw.stored {w : World} {bv bw wd n : Nat} {ws : List Nat} (h : Raw w bv bw wd n ws) (j x : Nat) (hx : x < 18446744073709551616) : Raw (w.setCell ⟨bw, j, none⟩ (.int .u64 x)) bv bw wd n (ws.set j x) ∧ Ch (fun k => k = bw) w (w.setCell ⟨bw, j, none⟩ (.int .u64 x)) := by
  have hC : Ch (fun k => k = bw) w (w.setCell ⟨bw, j, none⟩ (.int .u64 x)) := (Ch.refl (fun k => k = bw) w).setCell (p := ⟨bw, j, none⟩) (.inl rfl) _
  obtain ⟨ho, _⟩ := h.own.stored j (.int .u64 x)
  refine ⟨⟨?_, ?_, h.ne, h.lo, h.hi, h.most, by rw [List.length_set]; exact h.len, fun k => ?_⟩, hC⟩
  · rw [List.length_set, hC.block bv (Array.getElem?_eq_some_iff.1 h.blk).1 h.ne]
    exact h.blk
  · rw [List.length_set, List.map_set]
    exact ho
  · rw [getD_set]
    split
    · exact hx
    · exact h.lt k

section
variable (bv bw wd n : Nat) (ws : List Nat)
theorem len_any (w : World) (h : Raw w bv bw wd n ws) : Calls Try.prog 21 #[.pointer (some ⟨bv, 0, none⟩)] w fun e w' => e = .returned (.int .i64 n) ∧ w = w' := by
  obtain ⟨h0, h1, h2⟩ := cells3 h.blk
  have H := Bx.mk h
  clear h
  go_enter Try.func21, Try.ntmps21
  go_wp2
  go_ret
  exact ⟨rfl, rfl⟩
theorem width_any (w : World) (h : Raw w bv bw wd n ws) : Calls Try.prog 22 #[.pointer (some ⟨bv, 0, none⟩)] w fun e w' => e = .returned (.int .i64 wd) ∧ w = w' := by
  obtain ⟨h0, h1, h2⟩ := cells3 h.blk
  have H := Bx.mk h
  clear h
  go_enter Try.func22, Try.ntmps22
  go_wp2
  go_ret
  exact ⟨rfl, rfl⟩
theorem len_nil (w : World) : Calls Try.prog 21 #[.pointer none] w fun e w' => e = .returned (.int .i64 0) ∧ w = w' := by
  go_enter Try.func21, Try.ntmps21
  go_wp2
  go_ret
  exact ⟨rfl, rfl⟩
theorem width_nil (w : World) : Calls Try.prog 22 #[.pointer none] w fun e w' => e = .returned (.int .i64 0) ∧ w = w' := by
  go_enter Try.func22, Try.ntmps22
  go_wp2
  go_ret
  exact ⟨rfl, rfl⟩
theorem has_in (i : Nat) (w : World) (h : Raw w bv bw wd n ws) (hi : i < n) : Calls Try.prog 30 #[.pointer (some ⟨bv, 0, none⟩), .int .i64 i] w fun e w' => e = .returned (.bool true) ∧ w = w' := by
  have H := Bx.mk h
  clear h
  go_enter Try.func30, Try.ntmps30
  go_wp2_with (go_at_call 21; refine (len_any bv bw wd n ws _ H.out).mono ?_; rintro e w' ⟨rfl, rfl⟩)
  go_ret
  exact ⟨rfl, rfl⟩
theorem has_out (i : Int) (w : World) (h : Raw w bv bw wd n ws) (hi : i < 0 ∨ (n : Int) ≤ i) : Calls Try.prog 30 #[.pointer (some ⟨bv, 0, none⟩), .int .i64 i] w fun e w' => e = .returned (.bool false) ∧ w = w' := by
  have H := Bx.mk h
  clear h
  rcases hi with hi | hi
  · go_enter Try.func30, Try.ntmps30
    go_wp2
    go_ret
    exact ⟨rfl, rfl⟩
  · have hi0 : 0 ≤ i := by omega
    go_enter Try.func30, Try.ntmps30
    go_wp2_with (go_at_call 21; refine (len_any bv bw wd n ws _ H.out).mono ?_; rintro e w' ⟨rfl, rfl⟩)
    go_ret
    exact ⟨ret_bool (by simp; omega), rfl⟩
theorem has_nil (i : Int) (w : World) : Calls Try.prog 30 #[.pointer none, .int .i64 i] w fun e w' => e = .returned (.bool false) ∧ w = w' := by
  by_cases hi : 0 ≤ i
  · go_enter Try.func30, Try.ntmps30
    go_wp2_with (go_at_call 21; refine (len_nil _).mono ?_; rintro e w' ⟨rfl, rfl⟩)
    go_ret
    exact ⟨ret_bool (by simp; omega), rfl⟩
  · have hi' : i < 0 := by omega
    clear hi
    go_enter Try.func30, Try.ntmps30
    go_wp2
    go_ret
    exact ⟨rfl, rfl⟩

theorem prod_in {i wd n : Nat} (hi : i < n) (hn : n ≤ 1048576) (hw : wd ≤ 64) : (i : Int) * (wd : Int) = ((i * wd : Nat) : Int) ∧ i * wd ≤ 67108864 := by
  refine ⟨by push_cast; rfl, ?_⟩
  calc i * wd ≤ 1048576 * 64 := Nat.mul_le_mul (by omega) hw
    _ = 67108864 := rfl
theorem place_any (i q r : Nat) (w : World) (h : Raw w bv bw wd n ws) (hi : i < n) (hq : i * wd = 64 * q + r) (hr : r < 64) :
    Calls Try.prog 35 #[.pointer (some ⟨bv, 0, none⟩), .int .i64 i] w fun e w' => e = .returned (.tuple #[.int .i64 q, .int .i64 r]) ∧ w = w' := by
  obtain ⟨h0, h1, h2⟩ := cells3 h.blk
  obtain ⟨e1, e2⟩ := prod_in hi h.most h.hi
  rw [hq] at e1 e2
  have H := Bx.mk h
  have HQ := Bx.mk hq
  clear h hq
  go_enter Try.func35, Try.ntmps35
  go_wp2
  go_returns
  exact ⟨ret_two (by omega) (by omega), rfl⟩
theorem greatest_any (w : World) (h : Raw w bv bw wd n ws) : Calls Try.prog 31 #[.pointer (some ⟨bv, 0, none⟩)] w fun e w' => e = .returned (.int .u64 (2 ^ wd - 1 : Nat)) ∧ w = w' := by
  obtain ⟨h0, h1, h2⟩ := cells3 h.blk
  have hg := great h.hi
  have hhi := h.hi
  have hlo := h.lo
  have H := Bx.mk h
  have HG := Bx.mk hg
  clear h hg
  go_enter Try.func31, Try.ntmps31
  go_wp2
  go_ret
  exact ⟨ret_int (by rw [← HG.out, div_cast]; rfl), rfl⟩
theorem greatest_is (g : Nat) (w : World) (h : Raw w bv bw wd n ws) (hg : 2 ^ wd - 1 = g) : Calls Try.prog 31 #[.pointer (some ⟨bv, 0, none⟩)] w fun e w' => e = .returned (.int .u64 g) ∧ w = w' := by
  subst hg
  exact greatest_any bv bw wd n ws w h
set_option maxHeartbeats 400000 in
theorem get_in (l : List Nat) (i : Nat) (w : World) (h : Raw w bv bw wd n ws) (hp : Pk ws wd l) (hl : l.length = n) (hi : i < n) :
    Calls Try.prog 23 #[.pointer (some ⟨bv, 0, none⟩), .int .i64 i] w fun e w' => e = .returned (.int .u64 (l.getD i 0 : Nat)) ∧ w = w' := by
  obtain ⟨h0, h1, h2⟩ := cells3 h.blk
  obtain ⟨q, r, hq, hr⟩ : ∃ q r, i * wd = 64 * q + r ∧ r < 64 := ⟨i * wd / 64, i * wd % 64, by omega, by omega⟩
  obtain ⟨hq1, hq2⟩ := words_in hp (by omega) hq hr
  have hc1 := h.cellAt hq1
  have hx := h.lt q
  have hwd := h.hi
  have hlo := h.lo
  have hlen : ws.length ≤ 1048576 := by
    have h3 := h.len
    have h4 : wd * n ≤ 64 * 1048576 := Nat.mul_le_mul h.hi h.most
    omega
  have hg64 := great_lt h.hi
  have H := Bx.mk h
  have HQ := Bx.mk hq
  by_cases hrw : r + wd ≤ 64
  · have hv := get_one hp hq hrw
    generalize ws.getD q 0 = x at *
    generalize l.getD i 0 = v at *
    obtain ⟨g, hg⟩ : ∃ g, 2 ^ wd - 1 = g := ⟨_, rfl⟩
    rw [hg] at hv hg64
    have HG := Bx.mk hg
    have hand := and_nat hv (Nat.lt_of_le_of_lt (Nat.div_le_self _ _) hx) hg64
    rw [div_cast] at hand
    have HA := Bx.mk hand
    clear h hp hq hv hg hand hq2
    go_enter Try.func23, Try.ntmps23
    go_wp2_with (first | (go_at_call 30; refine (has_in bv bw wd n ws i _ H.out hi).mono ?_; rintro e w' ⟨rfl, rfl⟩) | (go_at_call 35; refine (place_any bv bw wd n ws i q r _ H.out hi HQ.out hr).mono ?_; rintro e w' ⟨rfl, rfl⟩) | (go_at_call 31; refine (greatest_is bv bw wd n ws g _ H.out HG.out).mono ?_; rintro e w' ⟨rfl, rfl⟩))
    go_ret
    exact ⟨ret_int HA.out, rfl⟩
  · have hv := get_two hp hq hr (by omega)
    have hc2 := h.cellAt (hq2 (by omega))
    have hy := h.lt (q + 1)
    have hq3 := hq2 (by omega)
    generalize ws.getD q 0 = x at *
    generalize ws.getD (q + 1) 0 = y at *
    generalize l.getD i 0 = v at *
    obtain ⟨g, hg⟩ : ∃ g, 2 ^ wd - 1 = g := ⟨_, rfl⟩
    rw [hg] at hv hg64
    have HG := Bx.mk hg
    have hz64 : y * 2 ^ (64 - r) % 18446744073709551616 < 18446744073709551616 := Nat.mod_lt _ (by omega)
    have hu64 : x / 2 ^ r < 18446744073709551616 := Nat.lt_of_le_of_lt (Nat.div_le_self _ _) hx
    have hshl := shl_nat y (64 - r)
    obtain ⟨z, hz⟩ : ∃ z, y * 2 ^ (64 - r) % 18446744073709551616 = z := ⟨_, rfl⟩
    rw [hz] at hv hz64 hshl
    obtain ⟨o, ho⟩ : ∃ o, x / 2 ^ r ||| z = o := ⟨_, rfl⟩
    have ho64 : o < 18446744073709551616 := by rw [← ho]; exact Nat.or_lt_two_pow (n := 64) hu64 hz64
    rw [ho] at hv
    have hor := or_nat ho hu64 hz64
    rw [div_cast] at hor
    have HA := Bx.mk (and_nat hv ho64 hg64)
    have HO := Bx.mk hor
    have HS := Bx.mk hshl
    clear h hp hq hv hg hz ho hor hshl hq2
    go_enter Try.func23, Try.ntmps23
    go_wp2_with (first | (go_at_call 30; refine (has_in bv bw wd n ws i _ H.out hi).mono ?_; rintro e w' ⟨rfl, rfl⟩) | (go_at_call 35; refine (place_any bv bw wd n ws i q r _ H.out hi HQ.out hr).mono ?_; rintro e w' ⟨rfl, rfl⟩) | (go_at_call 31; refine (greatest_is bv bw wd n ws g _ H.out HG.out).mono ?_; rintro e w' ⟨rfl, rfl⟩))
    go_ret
    exact ⟨ret_int (by rw [HS.out, HO.out, HA.out]), rfl⟩
/-- Get. -/
theorem get_any (l : List Nat) (i : Int) (w : World) (h : Raw w bv bw wd n ws) (hp : Pk ws wd l) (hl : l.length = n) :
    Calls Try.prog 23 #[.pointer (some ⟨bv, 0, none⟩), .int .i64 i] w fun e w' => e = .returned (.int .u64 (gt l i : Nat)) ∧ w = w' := by
  by_cases h0 : i < 0 ∨ (n : Int) ≤ i
  · have H := Bx.mk h
    rw [gt_out (by rw [hl]; exact h0)]
    clear h hp
    go_enter Try.func23, Try.ntmps23
    go_wp2_with (go_at_call 30; refine (has_out bv bw wd n ws i _ H.out h0).mono ?_; rintro e w' ⟨rfl, rfl⟩)
    go_ret
    exact ⟨rfl, rfl⟩
  · obtain ⟨k, rfl⟩ : ∃ k : Nat, i = k := ⟨i.toNat, by omega⟩
    rw [gt_nat]
    exact get_in bv bw wd n ws l k w h hp hl (by omega)
theorem get_nil (i : Int) (w : World) : Calls Try.prog 23 #[.pointer none, .int .i64 i] w fun e w' => e = .returned (.int .u64 0) ∧ w = w' := by
  go_enter Try.func23, Try.ntmps23
  go_wp2_with (go_at_call 30; refine (has_nil i _).mono ?_; rintro e w' ⟨rfl, rfl⟩)
  go_ret
  exact ⟨rfl, rfl⟩
end
end Go.Proofs.Ytknmhhccemojiaa
