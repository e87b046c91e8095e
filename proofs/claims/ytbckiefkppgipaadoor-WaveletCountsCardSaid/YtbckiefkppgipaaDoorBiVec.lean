/-
  A Vector in memory, and the contracts of the methods that only read: Len, has, Get, Rank, Ones.
-/
import Derived.Test.YtbckiefkppgipaaDoorBiWord
namespace Go.Proofs.YtbckiefkppgipaaDoor
open Go.RowKit Go.Oct Go.Bi

/-- Numbers that a slice reads as. -/
abbrev Sn (w : World) (F : Nat → Prop) (K : IntKind) (A : Option Addr) (xs : List Nat) : Prop := Sl w F K A xs.length (xs.map fun x : Nat => (x : Int))
theorem Sn.at_ {w : World} {F : Nat → Prop} {K : IntKind} {A : Option Addr} {xs : List Nat} (h : Sn w F K A xs) {k : Nat} (hk : k < xs.length) : ∃ b off, A = some ⟨b, off, none⟩ ∧ F b ∧ w.cell? ⟨b, off + k, none⟩ = some (.int K (xs.getD k 0 : Nat)) := by
  obtain ⟨b, off, x, e, hb, hx, hc⟩ := Sl.at_ h hk
  refine ⟨b, off, e, hb, ?_⟩
  have := hx.out
  rw [List.getElem?_map, List.getElem?_eq_getElem hk] at this
  rw [hc, List.getD_eq_getElem?_getD, List.getElem?_eq_getElem hk]
  simp at this
  simp [this]

/-- A Vector at block b, in blocks of F, that is the row l. -/
def Vec (w : World) (F : Nat → Prop) (b : Nat) (l : List Bool) : Prop :=
  ∃ (Aw Aa : Option Addr) (cw ca : Nat) (ws us : List Nat), w.cell? ⟨b, 0, none⟩ = some (.int .i64 l.length) ∧ w.cell? ⟨b, 1, none⟩ = some (.slice Aw ws.length cw) ∧ w.cell? ⟨b, 2, none⟩ = some (.slice Aa us.length ca) ∧
    F b ∧ Sn w F .u64 Aw ws ∧ Sn w F .i64 Aa us ∧ l.length ≤ 1048576 ∧ Wd ws l ∧ Ah us l
theorem Vec.ch {w w' : World} {F S : Nat → Prop} {b : Nat} {l : List Bool} (h : Vec w F b l) (hc : Ch S w w') (hF : ∀ k, F k → k < w.heap.size → ¬ S k) : Vec w' F b l := by
  obtain ⟨Aw, Aa, cw, ca, ws, us, h0, h1, h2, hb, hw, ha, hl, hW, hA⟩ := h
  have hn := hF b hb (lt_of_cell h0)
  exact ⟨Aw, Aa, cw, ca, ws, us, hc.cell hn h0, hc.cell hn h1, hc.cell hn h2, hb, hw.ch hc hF, ha.ch hc hF, hl, hW, hA⟩
theorem Vec.keep {w w' : World} {F : Nat → Prop} {b : Nat} {l : List Bool} (h : Vec w F b l) (hc : Ch (fun _ => False) w w') : Vec w' F b l := h.ch hc (fun _ _ _ h => h)
theorem Vec.mono {w : World} {F G : Nat → Prop} {b : Nat} {l : List Bool} (h : Vec w F b l) (hF : ∀ b, b < w.heap.size → F b → G b) : Vec w G b l := by
  obtain ⟨Aw, Aa, cw, ca, ws, us, h0, h1, h2, hb, hw, ha, hl, hW, hA⟩ := h
  exact ⟨Aw, Aa, cw, ca, ws, us, h0, h1, h2, hF b (lt_of_cell h0) hb, hw.mono hF, ha.mono hF, hl, hW, hA⟩
theorem Vec.short {w : World} {F : Nat → Prop} {b : Nat} {l : List Bool} (h : Vec w F b l) : l.length ≤ 1048576 := by
  obtain ⟨_, _, _, _, _, _, _, _, _, _, _, _, hl, _⟩ := h
  exact hl
theorem Vec.cell0 {w : World} {F : Nat → Prop} {b : Nat} {l : List Bool} (h : Vec w F b l) : w.cell? ⟨b, 0, none⟩ = some (.int .i64 l.length) := by
  obtain ⟨_, _, _, _, _, _, h0, _⟩ := h
  exact h0
theorem Vec.lt {w : World} {F : Nat → Prop} {b : Nat} {l : List Bool} (h : Vec w F b l) : b < w.heap.size := lt_of_cell h.cell0

section
variable {F : Nat → Prop}
theorem len_any (b : Nat) (l : List Bool) (w : World) (h : Vec w F b l) : Calls Tryd.prog 26 #[.pointer (some ⟨b, 0, none⟩)] w fun e w' => e = .returned (.int .i64 l.length) ∧ w = w' := by
  have h0 := h.cell0
  go_enter Tryd.func26, Tryd.ntmps26
  go_wp2
  go_ret
  exact ⟨rfl, rfl⟩
theorem len_nil (w : World) : Calls Tryd.prog 26 #[.pointer none] w fun e w' => e = .returned (.int .i64 0) ∧ w = w' := by
  go_enter Tryd.func26, Tryd.ntmps26
  go_wp2
  go_ret
  exact ⟨rfl, rfl⟩

/-- Is there a place? -/
def inB (l : List Bool) (i : Int) : Bool := decide (0 ≤ i) && decide (i < l.length)
theorem has_in (b : Nat) (l : List Bool) (i : Nat) (w : World) (h : Vec w F b l) (hi : i < l.length) : Calls Tryd.prog 36 #[.pointer (some ⟨b, 0, none⟩), .int .i64 i] w fun e w' => e = .returned (.bool true) ∧ w = w' := by
  have H := Lib.hid h
  clear h
  go_enter Tryd.func36, Tryd.ntmps36
  go_wp2_with (go_at_call 26; refine (len_any b l _ H.out).mono ?_; rintro e w' ⟨rfl, rfl⟩)
  go_ret
  exact ⟨rfl, rfl⟩
theorem has_out (b : Nat) (l : List Bool) (i : Int) (w : World) (h : Vec w F b l) (hi : i < 0 ∨ (l.length : Int) ≤ i) : Calls Tryd.prog 36 #[.pointer (some ⟨b, 0, none⟩), .int .i64 i] w fun e w' => e = .returned (.bool false) ∧ w = w' := by
  have H := Lib.hid h
  clear h
  rcases hi with hi | hi
  · go_enter Tryd.func36, Tryd.ntmps36
    go_wp2_with (go_at_call 26; refine (len_any b l _ H.out).mono ?_; rintro e w' ⟨rfl, rfl⟩)
    go_ret
    exact ⟨rfl, rfl⟩
  · have hi0 : 0 ≤ i := by omega
    go_enter Tryd.func36, Tryd.ntmps36
    go_wp2_with (go_at_call 26; refine (len_any b l _ H.out).mono ?_; rintro e w' ⟨rfl, rfl⟩)
    go_ret
    exact ⟨ret_bool (by simp; omega), rfl⟩
theorem has_nil (i : Int) (w : World) : Calls Tryd.prog 36 #[.pointer none, .int .i64 i] w fun e w' => e = .returned (.bool false) ∧ w = w' := by
  by_cases hi : 0 ≤ i
  · go_enter Tryd.func36, Tryd.ntmps36
    go_wp2_with (go_at_call 26; refine (len_nil _).mono ?_; rintro e w' ⟨rfl, rfl⟩)
    go_ret
    exact ⟨ret_bool (by simp; omega), rfl⟩
  · have hi' : i < 0 := by omega
    clear hi
    go_enter Tryd.func36, Tryd.ntmps36
    go_wp2
    go_ret
    exact ⟨rfl, rfl⟩

theorem shl_word {x r : Nat} (hr : r < 64) : pop 64 (x * 2 ^ (64 - r) % 18446744073709551616) = pop r x := by
  have e : x * 2 ^ (64 - r) % 18446744073709551616 = (x % 2 ^ r) * 2 ^ (64 - r) := by
    rw [show (18446744073709551616 : Nat) = 2 ^ r * 2 ^ (64 - r) by rw [← Nat.pow_add, show r + (64 - r) = 64 by omega], Nat.mul_mod_mul_right]
  have hz : ∀ m y, pop (m + r) (y * 2 ^ m) = pop r y := by
    intro m y
    rw [pop_add, Nat.mul_div_cancel _ (Nat.pow_pos (by omega))]
    have : pop m (y * 2 ^ m) = pop m 0 := by rw [← pop_mod m, Nat.mul_mod_left]
    rw [this, pop_zero, Nat.zero_add]
  have h := hz (64 - r) (x % 2 ^ r)
  rw [show 64 - r + r = 64 by omega] at h
  rw [e, h, pop_mod]

theorem wrap_nat (a : Nat) : IntKind.u64.wrap (a : Int) = ((a % 18446744073709551616 : Nat) : Int) := by rw [IntKind.wrap_u64]; omega
theorem shl_facts (x r : Nat) (hr : r < 64) : ∃ y q : Nat, IntKind.u64.wrap ((x : Int) * 2 ^ (64 - r)) = (y : Int) ∧ y < 18446744073709551616 ∧ pop 64 y = q ∧ q = pop r x ∧ q ≤ 64 :=
  ⟨x * 2 ^ (64 - r) % 18446744073709551616, _, (congrArg IntKind.u64.wrap (by push_cast; rfl)).trans (wrap_nat _), Nat.mod_lt _ (by decide), rfl, shl_word hr, pop_le 64 _⟩
set_option maxHeartbeats 1000000 in
theorem rank_in (b : Nat) (l : List Bool) (o : Bool) (i : Nat) (j : Int) (w : World) (h : Vec w F b l) (h0 : 0 < i) (hi : i ≤ l.length) (hj : j = i ∨ ((l.length : Int) < j ∧ i = l.length)) :
    Calls Tryd.prog 33 #[.pointer (some ⟨b, 0, none⟩), .bool o, .int .i64 j] w fun e w' => e = .returned (.int .i64 ((l.take i).count o : Nat)) ∧ w = w' := by
  have H := Lib.hid h
  have hl := h.short
  obtain ⟨Aw, Aa, cw, ca, ws, us, hc0, hc1, hc2, hb, hw, ha, _, hW, hA⟩ := h
  have hR := rank_words hW hA hi
  have hF := false_count l i hi
  have hlw := hW.len
  have hla := hA.len
  have hlw1 : i / 64 < us.length := by omega
  obtain ⟨ba, oa, rfl, _, hca⟩ := ha.at_ (k := i / 64) (by omega)
  have HR := Lib.hid hR
  have HF := Lib.hid hF
  have hal := hA.le (i / 64)
  have HCT := Lib.hid (count_take_le true l i)
  by_cases hr : 0 < i % 64
  · have hlw2 : i / 64 < ws.length := by omega
    obtain ⟨bw, ow, rfl, _, hcw⟩ := hw.at_ (k := i / 64) (by omega)
    have hx := hW.lt (i / 64)
    generalize ws.getD (i / 64) 0 = x at *
    generalize us.getD (i / 64) 0 = u at *
    obtain ⟨y, q, hwr, hy, hq, hqx, hp⟩ := shl_facts x (i % 64) (Nat.mod_lt i (by decide : 0 < 64))
    rw [← hqx] at HR
    have HQ := Bx.mk hq
    have HWR := Bx.mk hwr
    clear hW hA ha hw hR hF hlw hla hq hwr hqx
    rcases hj with rfl | ⟨hj, rfl⟩ <;> cases o
    all_goals
      go_enter Tryd.func33, Tryd.ntmps33
      go_wp2_with (first | (go_at_call 26; refine (len_any b l _ H.out).mono ?_; rintro e w' ⟨rfl, rfl⟩) | (go_at_call 38; rw [HWR.out]; refine (ones_is y q _ hy HQ.out).mono ?_; rintro e w' ⟨rfl, rfl⟩))
      go_ret
      first
      | exact ⟨ret_int (by rw [HF.out, ← HR.out]; have hct := HCT.out; rw [← HR.out] at hct; omega), rfl⟩
      | exact ⟨ret_int (by rw [← HR.out]; omega), rfl⟩
  · have hr0 : i % 64 = 0 := by omega
    rw [hr0] at HR
    generalize us.getD (i / 64) 0 = u at *
    generalize ws.getD (i / 64) 0 = x at *
    have hu : u = (l.take i).count true := HR.out
    have HU := Lib.hid hu
    have hul : u ≤ i := by have := HCT.out; omega
    clear hW hA ha hw hR hF hlw hla hu hr0
    rcases hj with rfl | ⟨hj, rfl⟩ <;> cases o
    all_goals
      go_enter Tryd.func33, Tryd.ntmps33
      go_wp2_with (first | (go_at_call 26; refine (len_any b l _ H.out).mono ?_; rintro e w' ⟨rfl, rfl⟩))
      go_ret
      first
      | exact ⟨ret_int (by rw [HF.out, ← HU.out]; omega), rfl⟩
      | exact ⟨ret_int (by rw [← HU.out]), rfl⟩
set_option maxHeartbeats 400000 in
theorem rank_low (b : Nat) (l : List Bool) (o : Bool) (i : Int) (w : World) (h : Vec w F b l) (h0 : i ≤ 0 ∨ l = []) :
    Calls Tryd.prog 33 #[.pointer (some ⟨b, 0, none⟩), .bool o, .int .i64 i] w fun e w' => e = .returned (.int .i64 0) ∧ w = w' := by
  have H := Lib.hid h
  clear h
  by_cases h1 : i < 0
  · clear h0
    go_enter Tryd.func33, Tryd.ntmps33
    go_wp2_with (first | (go_at_call 26; refine (len_any b l _ H.out).mono ?_; rintro e w' ⟨rfl, rfl⟩))
    go_ret
    exact ⟨rfl, rfl⟩
  · by_cases h2 : i = 0
    · subst h2
      clear h0
      go_enter Tryd.func33, Tryd.ntmps33
      go_wp2_with (first | (go_at_call 26; refine (len_any b l _ H.out).mono ?_; rintro e w' ⟨rfl, rfl⟩))
      go_ret
      exact ⟨rfl, rfl⟩
    · obtain rfl : l = [] := by rcases h0 with h0 | h0 <;> first | exact h0 | omega
      have h3 : 0 < i := by omega
      clear h0 h1 h2
      go_enter Tryd.func33, Tryd.ntmps33
      go_wp2_with (first | (go_at_call 26; refine (len_any b [] _ H.out).mono ?_; rintro e w' ⟨rfl, rfl⟩))
      go_ret
      exact ⟨rfl, rfl⟩
set_option maxHeartbeats 400000 in
theorem rank_nil (o : Bool) (i : Int) (w : World) :
    Calls Tryd.prog 33 #[.pointer none, .bool o, .int .i64 i] w fun e w' => e = .returned (.int .i64 0) ∧ w = w' := by
  go_enter Tryd.func33, Tryd.ntmps33
  go_wp2_with (first | (go_at_call 26; refine (len_nil _).mono ?_; rintro e w' ⟨rfl, rfl⟩))
  all_goals
    go_ret
    exact ⟨rfl, rfl⟩
/-- Rank. -/
theorem rank_any (b : Nat) (l : List Bool) (o : Bool) (i : Int) (w : World) (h : Vec w F b l) :
    Calls Tryd.prog 33 #[.pointer (some ⟨b, 0, none⟩), .bool o, .int .i64 i] w fun e w' => e = .returned (.int .i64 (rk l o i : Nat)) ∧ w = w' := by
  by_cases h0 : i ≤ 0
  · rw [rk_neg h0]
    exact rank_low b l o i w h (.inl h0)
  · by_cases h1 : i ≤ l.length
    · obtain ⟨k, rfl⟩ : ∃ k : Nat, i = k := ⟨i.toNat, by omega⟩
      exact rank_in b l o k k w h (by omega) (by omega) (.inl rfl)
    · rw [rk_all (by omega)]
      by_cases h2 : l = []
      · subst h2
        exact rank_low b [] o i w h (.inr rfl)
      · have h3 := rank_in b l o l.length i w h (List.length_pos_iff.2 h2) (Nat.le_refl _) (.inr ⟨by omega, rfl⟩)
        rwa [List.take_length] at h3

theorem ones_any (b : Nat) (l : List Bool) (w : World) (h : Vec w F b l) :
    Calls Tryd.prog 35 #[.pointer (some ⟨b, 0, none⟩)] w fun e w' => e = .returned (.int .i64 (l.count true : Nat)) ∧ w = w' := by
  have H := Lib.hid h
  have hk : rk l true (l.length : Nat) = l.count true := rk_all (Int.le_refl _)
  rw [← hk]
  clear h hk
  go_enter Tryd.func35, Tryd.ntmps35
  go_wp2_with (first | (go_at_call 26; refine (len_any b l _ H.out).mono ?_; rintro e w' ⟨rfl, rfl⟩) | (go_at_call 33; refine (rank_any b l _ _ _ H.out).mono ?_; rintro e w' ⟨rfl, rfl⟩))
  go_ret
  exact ⟨rfl, rfl⟩
theorem ones_nil (w : World) : Calls Tryd.prog 35 #[.pointer none] w fun e w' => e = .returned (.int .i64 0) ∧ w = w' := by
  go_enter Tryd.func35, Tryd.ntmps35
  go_wp2_with (first | (go_at_call 26; refine (len_nil _).mono ?_; rintro e w' ⟨rfl, rfl⟩) | (go_at_call 33; refine (rank_nil _ _ _).mono ?_; rintro e w' ⟨rfl, rfl⟩))
  go_ret
  exact ⟨rfl, rfl⟩

/-- The bit at a place; no bit is 0. -/
def bitAt (l : List Bool) (i : Int) : Bool := if 0 ≤ i then l.getD i.toNat false else false
theorem bitAt_in {l : List Bool} {i : Nat} {c : Bool} (h : l[i]? = some c) : bitAt l i = c := by
  unfold bitAt
  rw [if_pos (by omega), List.getD_eq_getElem?_getD, Int.toNat_natCast, h]
  rfl
theorem bitAt_out {l : List Bool} {i : Int} (h : i < 0 ∨ (l.length : Int) ≤ i) : bitAt l i = false := by
  unfold bitAt
  split
  · rw [List.getD_eq_getElem?_getD, List.getElem?_eq_none (by omega)]
    rfl
  · rfl
theorem bit_word {x j : Nat} (hx : x < 18446744073709551616) : bits .and .u64 ((x : Int) / 2 ^ j) 1 = (((x.testBit j).toNat : Nat) : Int) := by
  have h : x / 2 ^ j &&& 1 = (x.testBit j).toNat := by
    rw [Nat.testBit_eq_decide_div_mod_eq, Nat.and_one_is_mod]
    rcases Nat.mod_two_eq_zero_or_one (x / 2 ^ j) with h | h <;> simp [h]
  have := and_nat (a := x / 2 ^ j) (b := 1) h (Nat.lt_of_le_of_lt (Nat.div_le_self _ _) hx) (by omega)
  rw [← this]
  push_cast
  rfl
set_option maxHeartbeats 400000 in
theorem get_in (b : Nat) (l : List Bool) (i : Nat) (w : World) (h : Vec w F b l) (hi : i < l.length) :
    Calls Tryd.prog 27 #[.pointer (some ⟨b, 0, none⟩), .int .i64 i] w fun e w' => e = .returned (.bool (bitAt l i)) ∧ w = w' := by
  have H := Lib.hid h
  have hl := h.short
  obtain ⟨Aw, Aa, cw, ca, ws, us, hc0, hc1, hc2, hb, hw, ha, _, hW, hA⟩ := h
  have hlw := hW.len
  have hlw2 : i / 64 < ws.length := by omega
  have hbit := hW.bit (i / 64) (i % 64) (by omega) (by omega)
  rw [show 64 * (i / 64) + i % 64 = i by omega] at hbit
  have hB := bitAt_in hbit
  obtain ⟨bw, ow, rfl, _, hcw⟩ := hw.at_ hlw2
  have hx := hW.lt (i / 64)
  generalize ws.getD (i / 64) 0 = x at *
  have hand := bit_word (j := i % 64) hx
  rw [hB]
  have HA := Bx.mk hand
  clear hlw hbit hB hW hA ha hw hand
  cases hc : x.testBit (i % 64)
  all_goals
    rw [hc] at HA
    have HC := Bx.mk hc
    clear hc
    go_enter Tryd.func27, Tryd.ntmps27
    go_wp2_with (go_at_call 36; refine (has_in b l i _ H.out hi).mono ?_; rintro e w' ⟨rfl, rfl⟩)
    go_ret
    exact ⟨ret_bool (by rw [HA.out]; rfl), rfl⟩
/-- Get. -/
theorem get_any (b : Nat) (l : List Bool) (i : Int) (w : World) (h : Vec w F b l) :
    Calls Tryd.prog 27 #[.pointer (some ⟨b, 0, none⟩), .int .i64 i] w fun e w' => e = .returned (.bool (bitAt l i)) ∧ w = w' := by
  by_cases h0 : i < 0 ∨ (l.length : Int) ≤ i
  · have H := Lib.hid h
    rw [bitAt_out h0]
    clear h
    go_enter Tryd.func27, Tryd.ntmps27
    go_wp2_with (go_at_call 36; refine (has_out b l i _ H.out h0).mono ?_; rintro e w' ⟨rfl, rfl⟩)
    go_ret
    exact ⟨rfl, rfl⟩
  · obtain ⟨k, rfl⟩ : ∃ k : Nat, i = k := ⟨i.toNat, by omega⟩
    exact get_in b l k w h (by omega)
theorem get_nil (i : Int) (w : World) : Calls Tryd.prog 27 #[.pointer none, .int .i64 i] w fun e w' => e = .returned (.bool false) ∧ w = w' := by
  go_enter Tryd.func27, Tryd.ntmps27
  go_wp2_with (go_at_call 36; refine (has_nil i _).mono ?_; rintro e w' ⟨rfl, rfl⟩)
  go_ret
  exact ⟨rfl, rfl⟩
end
end Go.Proofs.YtbckiefkppgipaaDoor
