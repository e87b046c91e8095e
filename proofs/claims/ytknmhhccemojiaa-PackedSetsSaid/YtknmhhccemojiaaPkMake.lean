/-
  How Arrays are made and turned: needed, blank, lay, put, Set, Words.
-/
import Derived.Test.YtknmhhccemojiaaPkRaw
namespace Go.Proofs.Ytknmhhccemojiaa
open Go.RowKit Go.Oct Go.Pk

theorem elem64 : Elem Try.prog 22 25 (.int .u64 0) 8 := ⟨Try.underlying22, by kernel_rfl, rfl⟩
/-- make of a length. -/
theorem run_mk2 {P : Program} {t e : TypeId} {z : Value} {bytes : Nat} (T : Elem P t e z bytes) (L : Nat) (hb : bytes * L ≤ 281474976710656) (h63 : L ≤ 281474976710656) (w : World) :
    (Instr.makeSlice t (.int .i64 (L : Int)) (.int .i64 (L : Int))).run P w = .ok (.slice (some ⟨w.heap.size, 0, none⟩) L L) (w.alloc (.cells (madeCells z.cells L) e)) := by
  obtain ⟨i, hi, hz, hs, hby⟩ := info_parts T.info
  have hb' : (i.bytes : Int) * (L : Int) ≤ 281474976710656 := by
    rw [hby]
    have h : ((bytes * L : Nat) : Int) ≤ 281474976710656 := by omega
    rwa [Int.natCast_mul] at h
  have hr := run_make (P := P) w t e i z T.t hi hz .i64 .i64 L L (by omega) (by omega) hb' (by omega)
  simp only [Int.toNat_natCast, hs, Nat.mul_one] at hr
  exact hr
theorem made_list (z : Value) (n : Nat) : (madeCells #[z] n).toList = List.replicate n z := by
  apply List.ext_getElem
  · simp [madeCells]
  · intro i h1 h2
    simp [madeCells, Nat.mod_one]

/-- How many words. -/
def need (wd n : Nat) : Nat := (wd * n + 63) / 64
theorem need_le {wd n : Nat} (hw : wd ≤ 64) (hn : n ≤ 1048576) : need wd n ≤ 1048576 ∧ wd * n ≤ 67108864 := by
  have h4 : wd * n ≤ 64 * 1048576 := Nat.mul_le_mul hw hn
  unfold need
  omega
theorem needed_any (wd n : Nat) (w : World) (hw : wd ≤ 64) (hn : n ≤ 1048576) :
    Calls Try.prog 32 #[.int .i64 wd, .int .i64 n] w fun e w' => e = .returned (.int .i64 (need wd n : Nat)) ∧ w = w' := by
  obtain ⟨m, hm⟩ : ∃ m, wd * n = m := ⟨_, rfl⟩
  have h1 := (need_le hw hn).2
  rw [hm] at h1
  have e1 : (wd : Int) * (n : Int) = (m : Int) := by rw [← hm]; push_cast; rfl
  have HM := Bx.mk hm
  clear hm
  go_enter Try.func32, Try.ntmps32
  go_wp2
  go_ret
  exact ⟨ret_int (by unfold need; rw [HM.out]; omega), rfl⟩
set_option maxHeartbeats 400000 in
theorem blank_any (wd n : Nat) (w : World) (h1 : 1 ≤ wd) (h2 : wd ≤ 64) (hn : n ≤ 1048576) :
    Calls Try.prog 24 #[.int .i64 wd, .int .i64 n] w fun e w' => e = .returned (.pointer (some ⟨w.heap.size + 1, 0, none⟩)) ∧ Raw w' (w.heap.size + 1) w.heap.size wd n (List.replicate (need wd n) 0) ∧ Ch (fun _ => False) w w' := by
  have hle := (need_le h2 hn).1
  have hmk := run_mk2 elem64 (need wd n) (by omega) (by omega)
  have HD : Bx (need wd n = (wd * n + 63) / 64) := ⟨rfl⟩
  generalize hN : need wd n = N at *
  have HN := Bx.mk hN
  clear hN
  go_enter Try.func24, Try.ntmps24
  go_wp2_with fail
  refine (needed_any wd n _ h2 hn).mono ?_
  rintro e w' ⟨he, rfl⟩
  rw [HN.out] at he
  subst he
  go_wp2
  go_ret
  refine ⟨rfl, ⟨?_, ?_, by omega, h1, h2, hn, by rw [List.length_replicate]; exact HD.out, fun k => by rw [getD_rep]; omega⟩, (((Ch.refl _ w).alloc _).alloc _)⟩
  · rw [List.length_replicate]
    have := heap_alloc_new (w.alloc (.cells (madeCells #[.int .u64 0] N) 25)) (.cells #[.int .i64 wd, .int .i64 n, .slice (some ⟨w.heap.size, 0, none⟩) N N] 60)
    rwa [World.size_alloc] at this
  · rw [List.length_replicate]
    have h := World.ownsRow_lit (base := 0) (e := 25) (size := 1) w (madeCells #[.int .u64 0] N) N (Nat.zero_le _) (by unfold maxLen; omega) (by simp [madeCells])
    have e : (madeCells #[Value.int .u64 0] N).toList = (List.replicate N 0).map fun x : Nat => Value.int .u64 x := by rw [made_list]; simp
    rw [e] at h
    exact h.alloc _

theorem lay_is (b j x m d : Nat) (mI dI : Int) (w : World) (hc : w.cell? ⟨b, j, none⟩ = some (.int .u64 x)) (hf : w.frozen? ⟨b, j, none⟩ = false) (hx : x < 18446744073709551616) (hm : m < 18446744073709551616) (hd : d < 18446744073709551616) (e1 : mI = m) (e2 : dI = d) :
    Calls Try.prog 37 #[.pointer (some ⟨b, j, none⟩), .int .u64 mI, .int .u64 dI] w fun e w' => e = .returned (.tuple #[]) ∧ w' = w.setCell ⟨b, j, none⟩ (.int .u64 (layN x m d : Nat)) := by
  subst e1 e2
  have HB := Bx.mk (bits_lay x m d hx hm hd)
  go_enter Try.func37, Try.ntmps37
  go_wp2
  go_returns
  exact ⟨rfl, by rw [HB.out]⟩

/-- What put leaves. -/
def PutPost (bv bw wd n : Nat) (l' : List Nat) (w : World) (e : Ending) (w' : World) : Prop := e = .returned (.tuple #[]) ∧ (∃ ws', Raw w' bv bw wd n ws' ∧ Pk ws' wd l') ∧ Ch (fun k => k = bw) w w'
theorem Raw.words_short {w : World} {bv bw wd n : Nat} {ws : List Nat} (h : Raw w bv bw wd n ws) : ws.length ≤ 1048576 := by
  have h3 := h.len
  have h4 := (need_le h.hi h.most).1
  unfold need at h4
  omega
set_option maxHeartbeats 2000000 in
theorem put_any (bv bw wd n : Nat) (ws l : List Nat) (i v : Nat) (w : World) (h : Raw w bv bw wd n ws) (hp : Pk ws wd l) (hl : l.length = n) (hi : i < n) (hv : v < 2 ^ wd) :
    Calls Try.prog 26 #[.pointer (some ⟨bv, 0, none⟩), .int .i64 i, .int .u64 v] w (PutPost bv bw wd n (l.set i v) w) := by
  obtain ⟨h0, h1, h2⟩ := cells3 h.blk
  obtain ⟨q, r, hq, hr⟩ : ∃ q r, i * wd = 64 * q + r ∧ r < 64 := ⟨i * wd / 64, i * wd % 64, by omega, by omega⟩
  obtain ⟨hq1, hq2⟩ := words_in hp (by omega) hq hr
  have hlen := h.words_short
  have hwd := h.hi
  have hlo := h.lo
  have hg64 := great_lt h.hi
  have hv64 : v < 18446744073709551616 := Nat.lt_of_lt_of_le hv (pow_le64 h.hi)
  have hC0 : Ch (fun k => k = bw) w (w.drewN 1) := (Ch.refl _ w).drewN 1
  have H := Bx.mk h
  have R1 := Bx.mk (h.drewN 1)
  have hc1 := R1.out.cellAt hq1
  have hf1 := R1.out.frozenAt q
  have hx := h.lt q
  have HQ := Bx.mk hq
  have HV := Bx.mk hv
  have HP := Bx.mk hp
  have HQ2 := Bx.mk hq2
  have m1 := shl_nat (2 ^ wd - 1) r
  have d1 := shl_nat v r
  have s1 := R1.out.stored q (layN (ws.getD q 0) ((2 ^ wd - 1) * 2 ^ r % 18446744073709551616) (v * 2 ^ r % 18446744073709551616)) (layN_lt (h.lt q) (Nat.mod_lt _ (by omega)))
  have P1 : put1 ws wd q r v = ws.set q (layN (ws.getD q 0) ((2 ^ wd - 1) * 2 ^ r % 18446744073709551616) (v * 2 ^ r % 18446744073709551616)) := rfl
  rw [← P1] at s1
  have hp1 := put1_len ws wd q r v
  have hp1q : (put1 ws wd q r v).getD (q + 1) 0 = ws.getD (q + 1) 0 := by
    rw [P1, getD_set, if_neg (by omega)]
  obtain ⟨ws1, hws1⟩ : ∃ ws1, put1 ws wd q r v = ws1 := ⟨_, rfl⟩
  rw [hws1] at s1 hp1 hp1q
  have HW1 := Bx.mk hws1
  have HPQ := Bx.mk hp1q
  obtain ⟨g, hg⟩ : ∃ g, 2 ^ wd - 1 = g := ⟨_, rfl⟩
  have HG := Bx.mk hg
  rw [hg] at m1 hg64 s1
  obtain ⟨m, hm⟩ : ∃ m, g * 2 ^ r % 18446744073709551616 = m := ⟨_, rfl⟩
  obtain ⟨d, hd⟩ : ∃ d, v * 2 ^ r % 18446744073709551616 = d := ⟨_, rfl⟩
  have hm64 : m < 18446744073709551616 := by rw [← hm]; exact Nat.mod_lt _ (by omega)
  have hd64 : d < 18446744073709551616 := by rw [← hd]; exact Nat.mod_lt _ (by omega)
  rw [hm] at m1 s1
  rw [hd] at d1 s1
  have M1 := Bx.mk m1
  have D1 := Bx.mk d1
  have S1 := Bx.mk s1
  generalize ws.getD q 0 = x at *
  clear h hp hq hv hg hm hd m1 d1 s1 hq2 P1 hws1 hp1q
  go_enter Try.func26, Try.ntmps26
  go_wp2_with fail
  refine (place_any bv bw wd n ws i q r _ H.out hi HQ.out hr).mono ?_
  rintro e w' ⟨rfl, rfl⟩
  go_wp2_with fail
  refine wp_region_still_tail 13 (by kernel_rfl) (by kernel_rfl) ?_
  simp only [List.take_succ_cons, List.take_zero, List.drop_succ_cons, List.drop_zero]
  repeat still_step
  still_call ((greatest_is bv bw wd n ws g (w.drewN 1) R1.out HG.out).mono fun _ _ h => ⟨h.1, h.2.symm⟩)
  repeat still_step
  refine wpStill_nil ?_
  change wpList _ _ _ _ _ (w.drewN 1)
  generalize w.drewN 1 = w1 at *
  clear h0 h1 h2
  go_wp2_with fail
  refine (lay_is bw q x m d _ _ w1 hc1 hf1 hx hm64 hd64 M1.out D1.out).mono ?_
  rintro e w2 ⟨rfl, he⟩
  rw [← he] at S1
  have R2 := Bx.mk S1.out.1
  have C2 := Bx.mk (hC0.trans S1.out.2 (fun _ _ h => h))
  obtain ⟨k0, k1, k2⟩ := cells3 R2.out.blk
  clear hc1 hf1 hC0 S1 he M1 D1 R1
  by_cases hrw : r + wd ≤ 64
  · have HP1 := Bx.mk (pk_put1 HP.out (by omega) HQ.out hrw HV.out)
    rw [HW1.out] at HP1
    go_wp2
    go_returns
    exact ⟨rfl, ⟨ws1, R2.out, HP1.out⟩, C2.out⟩
  · have hq2 := HQ2.out (by omega)
    have HP2 := Bx.mk (pk_put2 HP.out (by omega) HQ.out hr (by omega) HV.out)
    have hc2 := (R2.out.drewN 1).cellAt (j := q + 1) (by omega)
    have hf2 := (R2.out.drewN 1).frozenAt (q + 1)
    rw [HPQ.out] at hc2
    have hy := H.out.lt (q + 1)
    have hgr : g / 2 ^ (64 - r) < 18446744073709551616 := Nat.lt_of_le_of_lt (Nat.div_le_self _ _) hg64
    have hvr : v / 2 ^ (64 - r) < 18446744073709551616 := Nat.lt_of_le_of_lt (Nat.div_le_self _ _) hv64
    have s2 := (R2.out.drewN 1).stored (q + 1) (layN (ws.getD (q + 1) 0) (g / 2 ^ (64 - r)) (v / 2 ^ (64 - r))) (layN_lt hy hvr)
    have P2 : put2 ws wd q r v = ws1.set (q + 1) (layN (ws.getD (q + 1) 0) (g / 2 ^ (64 - r)) (v / 2 ^ (64 - r))) := by
      rw [← HG.out, ← HW1.out]
      rfl
    rw [← P2] at s2
    have m2 := (div_cast g (64 - r)).symm
    have d2 := (div_cast v (64 - r)).symm
    have hC0 := C2.out.drewN 1
    have R3 := Bx.mk (R2.out.drewN 1)
    generalize ws.getD (q + 1) 0 = y at *
    generalize g / 2 ^ (64 - r) = m' at *
    generalize v / 2 ^ (64 - r) = d' at *
    have M2 := Bx.mk m2
    have D2 := Bx.mk d2
    have S2 := Bx.mk s2
    have HC0 := Bx.mk hC0
    clear m2 d2 s2 P2 hC0
    go_wp2_with fail
    have hw1 : IntKind.i64.wrap ((q : Int) + 1) = (q : Int) + 1 := IntWalk.i64_in _ (by omega)
    have hw2 : ((q : Int) + 1).toNat = q + 1 := by omega
    have hw3 : 0 ≤ (q : Int) + 1 := by omega
    have hw4 : (q : Int) + 1 < (ws.length : Int) := by omega
    refine wp_region_still_tail 14 (by kernel_rfl) (by kernel_rfl) ?_
    simp only [List.take_succ_cons, List.take_zero, List.drop_succ_cons, List.drop_zero]
    repeat still_step
    still_call ((greatest_is bv bw wd n ws1 g (w2.drewN 1) R3.out HG.out).mono fun _ _ h => ⟨h.1, h.2.symm⟩)
    repeat still_step
    refine wpStill_nil ?_
    clear hw1 hw2 hw3 hw4
    change wpList _ _ _ _ _ (w2.drewN 1)
    generalize w2.drewN 1 = w3 at *
    clear k0 k1 k2
    go_wp2_with fail
    refine (lay_is bw (q + 1) y m' d' _ _ w3 hc2 hf2 hy hgr hvr M2.out D2.out).mono ?_
    rintro e w4 ⟨rfl, rfl⟩
    go_wp2
    go_returns
    exact ⟨rfl, ⟨_, S2.out.1, HP2.out⟩, HC0.out.trans S2.out.2 (fun _ _ h => h)⟩
end Go.Proofs.Ytknmhhccemojiaa
