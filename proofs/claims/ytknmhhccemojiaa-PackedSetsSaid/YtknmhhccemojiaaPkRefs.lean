/-
  The contracts of the document's answers haystackref3.words, fits, Words, Pack, New, Set.
-/
import Derived.Test.YtknmhhccemojiaaPkPack
namespace Go.Proofs.Ytknmhhccemojiaa
open Go.RowKit Go.Oct Go.Pk

theorem ref_words (wd n N : Nat) (w : World) (hw : wd ≤ 64) (hn : n ≤ 1048576) (hN : need wd n = N) :
    Calls Try.prog 34 #[.int .i64 wd, .int .i64 n] w fun e w' => e = .returned (.int .i64 N) ∧ w = w' := by
  obtain ⟨m, hm⟩ : ∃ m, wd * n = m := ⟨_, rfl⟩
  have h1 := (need_le hw hn).2
  rw [hm] at h1
  have e1 : (wd : Int) * (n : Int) = (m : Int) := by rw [← hm]; push_cast; rfl
  unfold need at hN
  rw [hm] at hN
  have HN := Bx.mk hN
  clear hm hN
  go_enter Try.func34, Try.ntmps34
  go_wp2
  go_ret
  exact ⟨ret_int (by rw [← HN.out]; omega), rfl⟩
theorem beq_dec (y : Nat) : ((y : Int) == 0) = decide (y = 0) := by
  by_cases h : y = 0
  · subst h
    rfl
  · rw [decide_eq_false h]
    simpa using h
theorem ref_fits (wd v : Nat) (o : Bool) (w : World) (hw : wd ≤ 64) (hv : v < 18446744073709551616) (ho : decide (v < 2 ^ wd) = o) :
    Calls Try.prog 27 #[.int .i64 wd, .int .u64 v] w fun e w' => e = .returned (.bool o) ∧ w = w' := by
  by_cases h64 : wd = 64
  · subst h64
    have ho2 : o = true := by rw [← ho]; simpa using hv
    subst ho2
    clear ho
    go_enter Try.func27, Try.ntmps27
    go_wp2
    go_ret
    exact ⟨rfl, rfl⟩
  · have h1 : wd < 64 := by omega
    have h2 : ((wd : Int) == 64) = false := by simpa using fun h : (wd : Int) = 64 => h64 (by omega)
    obtain ⟨y, hy⟩ : ∃ y, v / 2 ^ wd = y := ⟨_, rfl⟩
    have hy2 : (v : Int) / 2 ^ wd = (y : Int) := by rw [← hy, div_cast]
    have ho2 : o = decide (y = 0) := by rw [← ho, ← hy]; exact decide_eq_decide.2 gt_pow.symm
    have HO := Bx.mk ho2
    have HY := Bx.mk hy2
    clear ho hy h64 ho2 hy2
    go_enter Try.func27, Try.ntmps27
    go_wp2
    go_ret
    exact ⟨ret_bool (by rw [HO.out, HY.out]; exact beq_dec y), rfl⟩

theorem bit_word {x j : Nat} (hx : x < 18446744073709551616) : bits .and .u64 ((x : Int) / 2 ^ j) 1 = (((x.testBit j).toNat : Nat) : Int) := by
  have h : x / 2 ^ j &&& 1 = (x.testBit j).toNat := by
    rw [Nat.testBit_eq_decide_div_mod_eq, Nat.and_one_is_mod]
    rcases Nat.mod_two_eq_zero_or_one (x / 2 ^ j) with h | h <;> simp [h]
  have := and_nat (a := x / 2 ^ j) (b := 1) h (Nat.lt_of_le_of_lt (Nat.div_le_self _ _) hx) (by omega)
  rw [← this]
  push_cast
  rfl
/-- The digit at a place, laid at another one: the words of the walk. -/
theorem or_word {x y j r : Nat} (hx : x < 18446744073709551616) (hy : y < 18446744073709551616) (hr : r < 64) :
    ∃ (c z o : Nat), bits .and .u64 ((y : Int) / 2 ^ j) 1 = (c : Int) ∧ IntKind.u64.wrap ((c : Int) * 2 ^ r) = (z : Int) ∧ bits .or .u64 (x : Int) (z : Int) = (o : Int) ∧ o = orN x (y.testBit j) r := by
  have hz : (y.testBit j).toNat * 2 ^ r < 18446744073709551616 := by
    have h := Nat.pow_lt_pow_right (a := 2) (by omega) hr
    cases y.testBit j <;> simp <;> omega
  refine ⟨(y.testBit j).toNat, (y.testBit j).toNat * 2 ^ r, orN x (y.testBit j) r, bit_word hy, ?_, or_nat rfl hx hz, rfl⟩
  rw [shl_nat, Nat.mod_eq_of_lt hz]

set_option maxHeartbeats 2000000 in
theorem ref_Words (l : List Nat) (wd : Nat) (A : Option Addr) (c : Nat) (w : World) (F : Nat → Prop) (hs : Sn w F A l) (hl : l.length ≤ 1048576) (h1 : 1 ≤ wd) (h2 : wd ≤ 64) (hf : ∀ k, l.getD k 0 < 2 ^ wd) :
    Calls Try.prog 28 #[.int .i64 wd, .slice A l.length c] w fun e w' => ∃ ws : List Nat, e = .returned (.slice (some ⟨w.heap.size, 0, none⟩) ws.length ws.length) ∧ Ow w' w.heap.size ws.length ws ∧ Pk ws wd l ∧ Ch (fun _ => False) w w' := by
  obtain ⟨N, hN⟩ : ∃ N, need wd l.length = N := ⟨_, rfl⟩
  have hNle := (need_le h2 hl).1
  have hmle := (need_le h2 hl).2
  rw [hN] at hNle
  have hmk := run_mk2 elem64 N (by omega) (by omega)
  have HN := Bx.mk hN
  have HS := Bx.mk hs
  have HF := Bx.mk hf
  have HM := Bx.mk hmle
  clear hN hs hf hmle
  go_enter Try.func28, Try.ntmps28
  go_wp2_with fail
  refine (ref_words wd l.length N _ h2 hl HN.out).mono ?_
  rintro e w' ⟨rfl, rfl⟩
  go_wp2
  clear hmk
  go_loopw [6, 7, 8] (fun i _ _ wr => ∃ (k : Nat) (ws : List Nat), k ≤ l.length ∧ i = .int .i64 k ∧ ws.length = N ∧ Ow wr w.heap.size N ws ∧ Up ws wd l (k * wd) ∧ Ch (fun _ => False) w wr) (fun i _ _ _ => l.length - (intOf i).toNat)
  case atStart => exact ⟨0, List.replicate N 0, Nat.zero_le _, rfl, List.length_replicate, ow_made w N hNle, by rw [Nat.zero_mul, ← HN.out]; exact up_zero wd l, (Ch.refl _ _).alloc _⟩
  case round =>
    obtain ⟨k, ws, hk, rfl, hwl, hO, hU, hC⟩ := hrel
    have HWL := Bx.mk hwl
    have HO := Bx.mk hO
    have HU := Bx.mk hU
    have HC := Bx.mk hC
    clear hwl hO hU hC
    by_cases hlt : k < l.length
    · obtain ⟨wo, rfl⟩ : ∃ wo : World, wo = wr := ⟨_, rfl⟩
      go_wp2
      go_loopw [7, 8] (fun j _ wr => ∃ (i : Nat) (vs : List Nat), i ≤ wd ∧ j = .int .i64 i ∧ vs.length = N ∧ Ow wr w.heap.size N vs ∧ Up vs wd l (k * wd + i) ∧ Ch (fun _ => False) w wr) (fun j _ _ => wd - (intOf j).toNat)
      case atStart => exact ⟨0, ws, Nat.zero_le _, rfl, HWL.out, HO.out, HU.out, HC.out⟩
      case round =>
        obtain ⟨i, vs, hi, rfl, hvl, hO, hU, hC⟩ := hrel
        by_cases hlt2 : i < wd
        · obtain ⟨e1, e2⟩ := prod_in hlt hl h2
          obtain ⟨m, hm⟩ : ∃ m, k * wd + i = m := ⟨_, rfl⟩
          obtain ⟨hn, hq⟩ := up_next (m := m) (by rw [← hm]; exact hU) hlt2 hlt hm.symm
          obtain ⟨b, off, rfl, _, hcl⟩ := Sn.at_ (Sl.ch HS.out hC (fun _ _ _ h => h)) hlt
          have hc1 := hO.cellAt hq
          have hf1 := hO.frozenAt (m / 64)
          have hx := hU.lt (m / 64)
          have hy : l.getD k 0 < 18446744073709551616 := Nat.lt_of_lt_of_le (HF.out k) (pow_le64 h2)
          obtain ⟨c1, z, o, hc, hz, ho, hoe⟩ := or_word (x := vs.getD (m / 64) 0) (y := l.getD k 0) (j := i) (r := m % 64) hx hy (Nat.mod_lt _ (by omega))
          have hst := hO.stored (m / 64) o
          rw [← hoe] at hn
          have hsl : (vs.set (m / 64) o).length = N := by rw [set_len]; exact hvl
          have hmi : ((k * wd : Nat) : Int) + (i : Int) = (m : Int) := by rw [← hm]; push_cast; rfl
          have hm26 : m < 67108864 := by omega
          rw [hvl] at hq
          obtain ⟨q, hqe⟩ : ∃ q, m / 64 = q := ⟨_, rfl⟩
          obtain ⟨r, hre⟩ : ∃ r, m % 64 = r := ⟨_, rfl⟩
          rw [hqe] at hc1 hf1 hx ho hst hsl hn hq
          rw [hre] at hz
          have hr64 : r < 64 := by omega
          have hqI : (m : Int) / 64 = (q : Int) := by omega
          have hrI : (m : Int).tmod 64 = (r : Int) := by rw [Int.tmod_eq_emod_of_nonneg (by omega)]; omega
          have hi64 : i < 64 := by omega
          generalize vs.getD q 0 = x at *
          generalize l.getD k 0 = y at *
          rw [hm] at hU
          have hsn : k * wd + (i + 1) = m + 1 := by omega
          generalize k * wd = kw at *
          have HN2 := Bx.mk hn
          have HST := Bx.mk hst
          have HCC := Bx.mk hC
          have HSL := Bx.mk hsl
          have HSN := Bx.mk hsn
          clear hn hst hC hO hU hsl hoe hsn hm hvl hqe hre
          go_wp2_with fail
          have hw1 : IntKind.i64.wrap (q : Int) = (q : Int) := IntWalk.i64_in _ (by omega)
          have hw2 : IntKind.u64.wrap (i : Int) = (i : Int) := by rw [IntKind.wrap_u64]; omega
          have hw3 : IntKind.u64.wrap (r : Int) = (r : Int) := by rw [IntKind.wrap_u64]; omega
          have hw4 : (q : Int) < (N : Int) := by omega
          refine wp_region_still_tail 22 (by kernel_rfl) (by kernel_rfl) ?_
          simp only [List.take_succ_cons, List.take_zero, List.drop_succ_cons, List.drop_zero]
          repeat still_step
          refine wpStill_nil ?_
          clear hw1 hw2 hw3 hqI hrI
          change wpList _ _ _ _ _ wr.drew
          go_wp2
          go_roundw
          case rel =>
            have h := HST.out
            exact ⟨i + 1, vs.set q o, by omega, by go_num, HSL.out, h.1.keep ((Ch.refl (fun _ => False) _).drew), by rw [HSN.out]; exact HN2.out, (HCC.out.trans h.2 (fun i hi (e : i = w.heap.size) => absurd hi (by omega))).drew⟩
          case measure => simp [intOf]; omega
        · obtain rfl : i = wd := by omega
          have hsn : (k + 1) * i = k * i + i := by rw [Nat.add_mul, Nat.one_mul]
          rw [← hsn] at hU
          have HVL := Bx.mk hvl
          have HU2 := Bx.mk hU
          have HO2 := Bx.mk hO
          have HCC := Bx.mk hC
          clear hvl hU hO hC hsn
          go_wp2
          go_roundw
          case rel => exact ⟨k + 1, vs, by omega, by go_num, HVL.out, HO2.out, HU2.out, HCC.out⟩
          case measure => simp [intOf]; omega
    · obtain rfl : k = l.length := by omega
      have HP := Bx.mk (up_all HU.out h1 h2 HF.out)
      have hwl := HWL.out
      clear HWL
      subst hwl
      go_wp2
      go_ret
      exact ⟨ws, rfl, HO.out, HP.out, HC.out⟩
end Go.Proofs.Ytknmhhccemojiaa
