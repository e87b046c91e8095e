/-
  The contract of the document's answer haystackref3.From.
-/
import Derived.Test.YtknmhhccemojiaaPkRefs2
namespace Go.Proofs.Ytknmhhccemojiaa
open Go.RowKit Go.Oct Go.Pk

theorem ref_from_bad (wd n e0 : Int) (V : Value) (w : World) (h : chk wd n = e0) (h0 : e0 ≠ 0) :
    Calls Try.prog 19 #[.int .i64 wd, .int .i64 n, V] w fun e w' => e = .returned (.tuple #[.slice none 0 0, .int .i64 e0]) ∧ w = w' := by
  have H := Bx.mk h
  have H0 := Bx.mk h0
  have hb : (e0 != 0) = true := by simpa using h0
  clear h h0
  go_enter Try.func19, Try.ntmps19
  go_wp2_with fail
  refine (ref_new_bad wd n e0 _ H.out H0.out).mono ?_
  rintro e w' ⟨rfl, rfl⟩
  go_wp2
  go_returns
  exact ⟨rfl, rfl⟩
theorem ref_from_len (ws : List Nat) (wd n : Nat) (A : Option Addr) (c : Nat) (w : World) (h1 : 1 ≤ wd) (h2 : wd ≤ 64) (hn : n ≤ 1048576) (hl : ws.length ≠ need wd n) :
    Calls Try.prog 19 #[.int .i64 wd, .int .i64 n, .slice A ws.length c] w fun e w' => e = .returned (.tuple #[.slice none 0 0, .int .i64 3]) ∧ Ch (fun _ => False) w w' := by
  obtain ⟨N, hN⟩ : ∃ N, need wd n = N := ⟨_, rfl⟩
  rw [hN] at hl
  have HN := Bx.mk hN
  have hb : ((ws.length : Int) != (N : Int)) = true := by simpa using fun h : (ws.length : Int) = N => hl (by omega)
  clear hN
  go_enter Try.func19, Try.ntmps19
  go_wp2_with fail
  refine (ref_new_ok wd n _ h1 h2 hn).mono ?_
  rintro e w1 ⟨rfl, hO, hC⟩
  have HC := Bx.mk hC
  clear hO hC
  go_wp2_with fail
  refine (ref_words wd n N _ h2 hn HN.out).mono ?_
  rintro e w' ⟨rfl, rfl⟩
  go_wp2
  go_returns
  exact ⟨rfl, HC.out⟩

/-- What From leaves where the sizes may be and the words are as many as are wanted. -/
def FromPost (ws : List Nat) (wd n : Nat) (w : World) (e : Ending) (w' : World) : Prop :=
  (tailB ws (wd * n) = true ∧ e = .returned (.tuple #[.slice none 0 0, .int .i64 3]) ∧ Ch (fun _ => False) w w') ∨
  (tailB ws (wd * n) = false ∧ ∃ (g : Nat) (l : List Nat), w.heap.size ≤ g ∧ l.length = n ∧ e = .returned (.tuple #[.slice (some ⟨g, 0, none⟩) n n, .int .i64 0]) ∧ Ow w' g n l ∧ Pk ws wd l ∧ Ch (fun _ => False) w w')
set_option maxHeartbeats 4000000 in
theorem ref_from (ws : List Nat) (wd n : Nat) (A : Option Addr) (c : Nat) (w : World) (F : Nat → Prop) (hs : Sn w F A ws) (h1 : 1 ≤ wd) (h2 : wd ≤ 64) (hn : n ≤ 1048576) (hl : ws.length = need wd n) (h64 : ∀ k, ws.getD k 0 < 18446744073709551616) :
    Calls Try.prog 19 #[.int .i64 wd, .int .i64 n, .slice A ws.length c] w (FromPost ws wd n w) := by
  have hNle := (need_le h2 hn).1
  have hmle := (need_le h2 hn).2
  rw [← hl] at hNle
  have HL := Bx.mk hl
  have HL2 : Bx (ws.length = (wd * n + 63) / 64) := ⟨hl⟩
  have HS := Bx.mk hs
  have H64 := Bx.mk h64
  have HM := Bx.mk hmle
  clear hl hs h64 hmle
  go_enter Try.func19, Try.ntmps19
  go_wp2_with fail
  refine (ref_new_ok wd n _ h1 h2 hn).mono ?_
  rintro e w1 ⟨rfl, hO, hC⟩
  have HO1 := Bx.mk hO
  have HC1 := Bx.mk hC
  clear hO hC
  go_wp2_with fail
  refine (ref_words wd n ws.length _ h2 hn HL.out.symm).mono ?_
  rintro e w' ⟨rfl, rfl⟩
  go_wp2
  go_loopw [10, 11, 12] (fun i _ _ wr => ∃ (k : Nat) (l : List Nat), k ≤ n ∧ i = .int .i64 k ∧ Ow wr w.heap.size n l ∧ Dn ws wd n l (k * wd) ∧ Ch (fun _ => False) w wr) (fun i _ _ _ => n - (intOf i).toNat)
  case atStart => exact ⟨0, _, Nat.zero_le _, rfl, HO1.out, by rw [Nat.zero_mul]; exact dn_zero ws wd n, HC1.out⟩
  case round =>
    obtain ⟨k, l0, hk, rfl, hO, hD, hC⟩ := hrel
    have HO := Bx.mk hO
    have HD := Bx.mk hD
    have HC := Bx.mk hC
    clear hO hD hC
    by_cases hlt : k < n
    · obtain ⟨wo, rfl⟩ : ∃ wo : World, wo = wr := ⟨_, rfl⟩
      go_wp2
      go_loopw [11, 12] (fun j _ wr => ∃ (i : Nat) (l : List Nat), i ≤ wd ∧ j = .int .i64 i ∧ Ow wr w.heap.size n l ∧ Dn ws wd n l (k * wd + i) ∧ Ch (fun _ => False) w wr) (fun j _ _ => wd - (intOf j).toNat)
      case atStart => exact ⟨0, l0, Nat.zero_le _, rfl, HO.out, HD.out, HC.out⟩
      case round =>
        obtain ⟨i, l, hi, rfl, hO, hD, hC⟩ := hrel
        by_cases hlt2 : i < wd
        · obtain ⟨e1, e2⟩ := prod_in hlt hn h2
          obtain ⟨m, hm⟩ : ∃ m, k * wd + i = m := ⟨_, rfl⟩
          have hdn := dn_next (m := m) (by rw [← hm]; exact hD) hlt2 hlt hm.symm
          have hmn : m < wd * n := by
            have h3 : (k + 1) * wd ≤ wd * n := by rw [Nat.mul_comm wd]; exact Nat.mul_le_mul_right _ hlt
            rw [Nat.add_mul] at h3
            omega
          have hq : m / 64 < ws.length := by have := HL2.out; omega
          obtain ⟨b, off, rfl, _, hcl⟩ := Sn.at_ (Sl.ch HS.out hC (fun _ _ _ h => h)) hq
          have hll := hD.len
          have hc1 := hO.cellAt (j := k) (by omega)
          have hf1 := hO.frozenAt k
          have hx : l.getD k 0 < 18446744073709551616 := Nat.lt_of_lt_of_le (hD.fit k) (pow_le64 h2)
          have hy := H64.out (m / 64)
          obtain ⟨c1, z, o, hc, hz, ho, hoe⟩ := or_word (x := l.getD k 0) (y := ws.getD (m / 64) 0) (j := m % 64) (r := i) hx hy (by omega)
          have hst := hO.stored k o
          rw [← hoe] at hdn
          have hmi : ((k * wd : Nat) : Int) + (i : Int) = (m : Int) := by rw [← hm]; push_cast; rfl
          have hm26 : m < 67108864 := by have := HM.out; omega
          obtain ⟨q, hqe⟩ : ∃ q, m / 64 = q := ⟨_, rfl⟩
          obtain ⟨r, hre⟩ : ∃ r, m % 64 = r := ⟨_, rfl⟩
          rw [hqe] at hcl hy hc hq
          rw [hre] at hc
          have hr64 : r < 64 := by omega
          have hqI : (m : Int) / 64 = (q : Int) := by omega
          have hrI : (m : Int).tmod 64 = (r : Int) := by rw [Int.tmod_eq_emod_of_nonneg (by omega)]; omega
          have hi64 : i < 64 := by omega
          generalize ws.getD q 0 = y at *
          generalize l.getD k 0 = x at *
          rw [hm] at hD
          have hsn : k * wd + (i + 1) = m + 1 := by omega
          generalize k * wd = kw at *
          have HN2 := Bx.mk hdn
          have HST := Bx.mk hst
          have HCC := Bx.mk hC
          have HSN := Bx.mk hsn
          clear hdn hst hC hO hD hoe hsn hm hll hqe hre hmn
          go_wp2_with fail
          have hw1 : IntKind.i64.wrap (q : Int) = (q : Int) := IntWalk.i64_in _ (by omega)
          have hw2 : IntKind.u64.wrap (i : Int) = (i : Int) := by rw [IntKind.wrap_u64]; omega
          have hw3 : IntKind.u64.wrap (r : Int) = (r : Int) := by rw [IntKind.wrap_u64]; omega
          have hw4 : (q : Int) < (ws.length : Int) := by omega
          have hw5 : (k : Int) < (n : Int) := by omega
          refine wp_region_still_tail 21 (by kernel_rfl) (by kernel_rfl) ?_
          simp only [List.take_succ_cons, List.take_zero, List.drop_succ_cons, List.drop_zero]
          repeat still_step
          refine wpStill_nil ?_
          clear hw1 hw2 hw3 hqI hrI
          change wpList _ _ _ _ _ wr.drew
          go_wp2
          go_roundw
          case rel =>
            have h := HST.out
            exact ⟨i + 1, l.set k o, by omega, by go_num, h.1.keep ((Ch.refl (fun _ => False) _).drew), by rw [HSN.out]; exact HN2.out, (HCC.out.trans h.2 (fun i hi (e : i = w.heap.size) => absurd hi (by omega))).drew⟩
          case measure => simp [intOf]; omega
        · obtain rfl : i = wd := by omega
          have hsn : (k + 1) * i = k * i + i := by rw [Nat.add_mul, Nat.one_mul]
          rw [← hsn] at hD
          have HD2 := Bx.mk hD
          have HO2 := Bx.mk hO
          have HCC := Bx.mk hC
          clear hD hO hC hsn
          go_wp2
          go_roundw
          case rel => exact ⟨k + 1, l, by omega, by go_num, HO2.out, HD2.out, HCC.out⟩
          case measure => simp [intOf]; omega
    · obtain rfl : k = n := by omega
      obtain ⟨m0, hm0⟩ : ∃ m0, wd * k = m0 := ⟨_, rfl⟩
      have e1 : (wd : Int) * (k : Int) = (m0 : Int) := by rw [← hm0]; push_cast; rfl
      have hm26 : m0 ≤ 67108864 := by have := HM.out; omega
      have hlen := HL2.out
      rw [hm0] at hlen
      have HM0 := Bx.mk hm0
      have hmw : m0 ≤ 64 * ws.length := by omega
      have HLEN := Bx.mk hlen
      clear hm0 hlen hlt
      go_wp2
      go_loop [13] (fun a => ∃ p : Nat, m0 ≤ p ∧ p ≤ 64 * ws.length ∧ a = .int .i64 p ∧ ∀ j, m0 ≤ j → j < p → dg 64 ws j = false) (fun a => 64 * ws.length - (intOf a).toNat)
      case atStart => exact ⟨m0, Nat.le_refl _, hmw, rfl, fun j h1 h2 => absurd h2 (by omega)⟩
      case round =>
        obtain ⟨p, hp1, hp2, rfl, hp⟩ := hrel
        have HP := Bx.mk hp
        clear hp
        by_cases hlt3 : p < 64 * ws.length
        · obtain ⟨b, off, rfl, _, hcl⟩ := Sn.at_ (Sl.ch HS.out HC.out (fun _ _ _ h => h)) (k := p / 64) (by omega)
          have hy := H64.out (p / 64)
          have hbit := bit_word (x := ws.getD (p / 64) 0) (j := p % 64) hy
          have hdg : dg 64 ws p = (ws.getD (p / 64) 0).testBit (p % 64) := rfl
          generalize ws.getD (p / 64) 0 = y at *
          have HDG := Bx.mk hdg
          clear hdg
          have hpI : ((p : Int) / 64).toNat = p / 64 := by omega
          have hrI : ((p : Int) % 64).toNat = p % 64 := by omega
          cases hcb : y.testBit (p % 64)
          · rw [hcb] at hbit
            have HCB := Bx.mk hcb
            have hbit0 : bits .and .u64 ((y : Int) / 2 ^ (p % 64)) 1 = 0 := hbit
            clear hbit hcb
            go_wp2
            go_round
            case rel => exact ⟨p + 1, by omega, by omega, by go_num, fun j hj1 hj2 => by
              by_cases hjp : j = p
              · rw [hjp, HDG.out]
                exact HCB.out
              · exact HP.out j hj1 (by omega)⟩
            case measure => simp [intOf]; omega
          · rw [hcb] at hbit
            have HT : Bx (tailB ws (wd * k) = true) := ⟨by
              rw [HM0.out]
              cases ht : tailB ws m0
              · have h := tail_no HLEN.out ht hp1
                rw [HDG.out, hcb] at h
                cases h
              · rfl⟩
            have hbit0 : bits .and .u64 ((y : Int) / 2 ^ (p % 64)) 1 = 1 := hbit
            clear hbit hcb
            go_wp2
            go_returns
            exact .inl ⟨HT.out, rfl, HC.out⟩
        · obtain rfl : p = 64 * ws.length := by omega
          have HT : Bx (tailB ws (wd * k) = false) := ⟨by
            rw [HM0.out]
            cases ht : tailB ws m0
            · rfl
            · obtain ⟨j, hj1, hj2, hj3⟩ := tail_yes ht H64.out
              rw [HP.out j hj1 hj2] at hj3
              cases hj3⟩
          have HPK := Bx.mk (dn_all HD.out h1 h2 HL2.out H64.out HT.out)
          have hl0 := HD.out.len
          have HL0 := Bx.mk hl0
          clear hl0
          go_wp2
          go_returns
          exact .inr ⟨HT.out, _, l0, Nat.le_refl _, HL0.out, rfl, HO.out, HPK.out, HC.out⟩
end Go.Proofs.Ytknmhhccemojiaa
