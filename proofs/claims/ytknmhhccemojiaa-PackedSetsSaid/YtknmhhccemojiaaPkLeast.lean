/-
  The walk of haystacklaw3.PackedLeast: true, whatever the row. Conditions: none.
-/
import Derived.Test.YtknmhhccemojiaaPkPacks
namespace Go.Proofs.Ytknmhhccemojiaa
open Go.RowKit Go.Oct Go.Pk

theorem tail_of_pk {ws l : List Nat} {wd n : Nat} (h : Pk ws wd l) (hl : l.length = n) : tailN ws (wd * n) = 0 := by
  subst hl
  cases ht : tailB ws (wd * l.length)
  · simpa [tailB, tailN] using ht
  · obtain ⟨p, h1, _, h2⟩ := tail_yes ht h.lt
    rw [h.dig, dg_off (by have := h.lo; omega) h1] at h2
    cases h2
/-- The greatest of the first k numbers, by what it is below. -/
def TopUp (l : List Nat) (k t : Nat) : Prop := ∀ j, (∀ x ∈ l.take k, x < 2 ^ j) ↔ t < 2 ^ j
theorem top_zero (l : List Nat) : TopUp l 0 0 := fun j => by simp [Nat.pow_pos (show 0 < 2 by omega)]
theorem top_next {l : List Nat} {k t x z : Nat} (h : TopUp l k t) (hx : l[k]? = some x) (hz : max t x = z) : TopUp l (k + 1) z := fun j => by
  have h1 := h j
  have h2 : z < 2 ^ j ↔ t < 2 ^ j ∧ x < 2 ^ j := by omega
  rw [h2, ← h1]
  exact ⟨fun g => ⟨fun y hy => g y ((mem_take_succ hx y).2 (.inl hy)), g x ((mem_take_succ hx x).2 (.inr rfl))⟩, fun g y hy => by
    rcases (mem_take_succ hx y).1 hy with h3 | h3
    · exact g.1 y h3
    · rw [h3]
      exact g.2⟩
theorem top_wid {l : List Nat} {t d : Nat} (h : TopUp l l.length t) (h1 : 1 ≤ d) (h2 : d ≤ 64) (hlow : ∀ j, 1 ≤ j → t < 2 ^ j → d ≤ j) (he : t < 2 ^ d) (h64 : ∀ x ∈ l, x < 18446744073709551616) : d = widN l := by
  refine Wid.uniq (v := l) ⟨h1, h2, fun k hk => ?_⟩ (wid_is h64)
  have h3 := h k
  rw [List.take_length] at h3
  rw [h3]
  exact ⟨hlow k hk, fun hb => Nat.lt_of_lt_of_le he (pow_le_pow hb)⟩
theorem from_is (ws : List Nat) (wd n N : Nat) (A : Option Addr) (c : Nat) (w : World) (F : Nat → Prop) (hs : Sn w F A ws) (hN : ws.length = N) (h1 : 1 ≤ wd) (h2 : wd ≤ 64) (hn : n ≤ 1048576) (hl : N = need wd n) (ht : tailN ws (wd * n) = 0) (h64 : ∀ k, ws.getD k 0 < 18446744073709551616) :
    Calls Try.prog 18 #[.int .i64 wd, .int .i64 n, .slice A N c] w fun e w' => ∃ bv bw, e = .returned (.tuple #[.pointer (some ⟨bv, 0, none⟩), .int .i64 0]) ∧ w.heap.size ≤ bw ∧ w.heap.size ≤ bv ∧ Raw w' bv bw wd n ws ∧ Ch (fun _ => False) w w' := by
  subst hN
  exact (from_ok ws wd n A c w F hs h1 h2 hn hl ht h64).mono fun e w' ⟨g1, g2, g3⟩ => ⟨_, _, g1, Nat.le_refl _, Nat.le_succ _, g2, g3⟩

set_option maxHeartbeats 4000000 in
theorem least_in (l : List Nat) (A : Option Addr) (c : Nat) (w : World) (F : Nat → Prop) (hs : Sn w F A l) (hl : l.length ≤ 300) (hc : l.length ≤ c) (h64 : ∀ x ∈ l, x < 18446744073709551616) :
    Calls Try.prog 7 #[.slice A l.length c] w fun e w' => e = .returned (.bool true) ∧ Ch (fun _ => False) w w' := by
  obtain ⟨n, hn⟩ : ∃ n, l.length = n := ⟨_, rfl⟩
  obtain ⟨wd, hwd⟩ : ∃ wd, widN l = wd := ⟨_, rfl⟩
  have hwid := wid_is h64
  rw [hwd] at hwid
  have hlo := hwid.lo
  have hhi := hwid.hi
  have HS := Bx.mk hs.low
  have H64 := Bx.mk h64
  have HN := Bx.mk hn
  have HWD := Bx.mk hwd
  rw [hn] at hl hc ⊢
  clear hs h64 hn hwd hwid
  go_enter Try.func7, Try.ntmps7
  go_wp2_with fail
  refine (pack_is l n wd A c _ _ HS.out HN.out HWD.out (by omega) hc H64.out).mono ?_
  rintro e w1 ⟨bv, bw, ws, rfl, hbw, hbv, hr, hp, hC⟩
  have HR := Bx.mk hr
  have HP := Bx.mk hp
  have HC := Bx.mk hC
  clear hr hp hC
  go_wp2_with fail
  refine (len_any _ _ _ _ _ _ HR.out).mono ?_
  rintro e w' ⟨rfl, rfl⟩
  go_wp2
  go_loopw [4, 5] (fun a i wr => ∃ k t : Nat, k ≤ n ∧ i = .int .i64 k ∧ a = .int .u64 t ∧ t < 18446744073709551616 ∧ TopUp l k t ∧ Ch (fun _ => False) w1 wr) (fun _ i _ => n - (intOf i).toNat)
  case atStart => exact ⟨0, 0, Nat.zero_le _, rfl, rfl, by omega, top_zero l, Ch.refl _ _⟩
  case round =>
    obtain ⟨k, t, hk, rfl, rfl, ht64, hT, hC⟩ := hrel
    have HT := Bx.mk hT
    have HRR := Bx.mk (HR.out.keep hC)
    have HCC := Bx.mk (HC.out.trans hC (fun _ _ h => h))
    have HCR := Bx.mk hC
    have HSS := Bx.mk (HS.out.keep HCC.out)
    clear hT hC
    by_cases hlt : k < n
    · obtain ⟨b, off, rfl, _, hcx⟩ := HSS.out.at_ (k := k) (by rw [HN.out]; exact hlt)
      have hg := gt_nat l k
      have hx := getD_some (l := l) (k := k) (by rw [HN.out]; exact hlt)
      have hx64 := getD_64 H64.out k
      generalize l.getD k 0 = x at *
      obtain ⟨z, hz⟩ : ∃ z, max t x = z := ⟨_, rfl⟩
      have hzI : max (t : Int) (x : Int) = (z : Int) := by omega
      have hz64 : z < 18446744073709551616 := by omega
      have HTN := Bx.mk (top_next HT.out hx hz)
      have HG := Bx.mk hg
      have hb : ((x : Int) != (x : Int)) = false := by simp
      clear hg hx hz
      go_wp2
      go_quiet ((go_at_call 23; exact get_quiet _ _ wd _ _ l _ x _ _ HRR.out HP.out HN.out HG.out))
      go_wp2
      go_roundw
      case rel => exact ⟨k + 1, z, by omega, by go_num, rfl, hz64, HTN.out, HCR.out.drewN _⟩
      case measure => simp [intOf]; omega
    · obtain rfl : k = n := by omega
      go_wp2
      go_loop [6] (fun a => ∃ d : Nat, 1 ≤ d ∧ d ≤ 64 ∧ a = .int .i64 d ∧ ∀ j, 1 ≤ j → t < 2 ^ j → d ≤ j) (fun a => 64 - (intOf a).toNat)
      case atStart => exact ⟨1, by omega, by omega, rfl, fun j hj _ => hj⟩
      case round =>
        obtain ⟨d, hd1, hd2, rfl, hlow⟩ := hrel
        have HLOW := Bx.mk hlow
        clear hlow
        by_cases hgo : d < 64 ∧ 2 ^ d ≤ t
        · obtain ⟨hd64, hdt⟩ := hgo
          obtain ⟨y, hy⟩ : ∃ y, t / 2 ^ d = y := ⟨_, rfl⟩
          have hy0 : y ≠ 0 := fun h0 => by have := gt_pow.1 (hy.trans h0); omega
          have hyI : (t : Int) / 2 ^ d = (y : Int) := by rw [← hy, div_cast]
          have hy1 : 0 < y := by omega
          have HLN : Bx (∀ j, 1 ≤ j → t < 2 ^ j → d + 1 ≤ j) := ⟨fun j hj ht => by
            have h1 := HLOW.out j hj ht
            rcases Nat.lt_or_ge j (d + 1) with h2 | h2
            · obtain rfl : j = d := by omega
              omega
            · exact h2⟩
          clear hy hdt hy0
          go_wp2
          go_round
          case rel => exact ⟨d + 1, by omega, by omega, by go_num, HLN.out⟩
          case measure => simp [intOf]; omega
        · have hdt : t < 2 ^ d := by
            by_cases h1 : d < 64
            · omega
            · obtain rfl : d = 64 := by omega
              exact ht64
          have hdw : d = wd := by
            rw [← HWD.out]
            exact top_wid (by rw [HN.out]; exact HT.out) hd1 hd2 HLOW.out hdt H64.out
          subst hdw
          have hend : 64 ≤ d ∨ (d < 64 ∧ (t : Int) / 2 ^ d = 0) := by
            by_cases h1 : 64 ≤ d
            · exact .inl h1
            · exact .inr ⟨by omega, by rw [← div_cast, gt_pow.2 hdt]; rfl⟩
          obtain ⟨m, hm⟩ : ∃ m, d * k = m := ⟨_, rfl⟩
          have hlen := HRR.out.len
          rw [hm] at hlen
          obtain ⟨N, hN⟩ : ∃ N, ws.length = N := ⟨_, rfl⟩
          rw [hN] at hlen
          have hNle := HRR.out.words_short
          rw [hN] at hNle
          have hneed : N = need d k := by rw [hlen, ← hm]; rfl
          have hm26 : m ≤ 67108864 := by rw [← hm]; exact (need_le hd2 (by omega)).2
          have e1 : (d : Int) * (k : Int) = (m : Int) := by rw [← hm]; push_cast; rfl
          have hb2 : ((N : Int) == ((m : Int) + 63) / 64) = true := by
            rw [beq_iff_eq]
            omega
          have HNN := Bx.mk hN
          have HNEED := Bx.mk hneed
          have HTAIL := Bx.mk (tail_of_pk HP.out HN.out)
          have HLT := Bx.mk HP.out.lt
          have hbd : ((d : Int) == (d : Int)) = true := by simp
          clear hgo hdt HLOW hm hlen hN hneed
          rcases hend with h1 | ⟨h1, h3⟩
          all_goals
            go_wp2_with fail
            refine (width_any _ _ _ _ _ _ HRR.out).mono ?_
            rintro e w' ⟨rfl, rfl⟩
            go_wp2_with fail
            refine (words_is _ _ _ _ N _ _ HRR.out HNN.out).mono ?_
            rintro e w3 ⟨g3, _, rfl, hO3, hC3⟩
            have HO3 := Bx.mk hO3
            have HC3 := Bx.mk (HCC.out.trans hC3 (fun _ _ h => h))
            have HR3 := Bx.mk (HRR.out.keep hC3)
            clear hO3 hC3
            go_wp2_with fail
            refine (from_is ws d k N _ _ _ _ HO3.out.sn HNN.out hd1 hd2 (by omega) HNEED.out HTAIL.out HLT.out).mono ?_
            rintro e w4 ⟨bv4, bw4, rfl, _, _, hR4, hC4⟩
            have HR4 := Bx.mk hR4
            have HC4 := Bx.mk (HC3.out.trans hC4 (fun _ _ h => h))
            have HRA := Bx.mk (HR3.out.keep hC4)
            clear hR4 hC4
            go_wp2_with fail
            refine (width_any _ _ _ _ _ _ HRA.out).mono ?_
            rintro e w' ⟨rfl, rfl⟩
            go_wp2_with fail
            refine (words_is _ _ _ _ N _ _ HR4.out HNN.out).mono ?_
            rintro e w5 ⟨g5, _, rfl, hO5, hC5⟩
            have HO5 := Bx.mk hO5
            have HC5 := Bx.mk (HC4.out.trans hC5 (fun _ _ h => h))
            have HRB := Bx.mk (HRA.out.keep hC5)
            clear hO5 hC5
            go_wp2_with fail
            refine (words_is _ _ _ _ N _ _ HRB.out HNN.out).mono ?_
            rintro e w6 ⟨g6, _, rfl, hO6, hC6⟩
            have HO6 := Bx.mk hO6
            have HO56 := Bx.mk (HO5.out.keep hC6)
            have HC6 := Bx.mk (HC5.out.trans hC6 (fun _ _ h => h))
            have HRC := Bx.mk (HRB.out.keep hC6)
            clear hO6 hC6
            go_wp2_with fail
            refine (same_is ws N _ _ _ _ _ _ _ HNN.out hNle HO56.out.sn HO6.out.sn).mono ?_
            rintro e w7 ⟨rfl, m7, rfl⟩
            have HC7 := Bx.mk (HC6.out.drewN m7)
            have HRD := Bx.mk (HRC.out.drewN m7)
            generalize w6.drewN m7 = w7 at *
            go_wp2_with fail
            refine (words_is _ _ _ _ N _ _ HRD.out HNN.out).mono ?_
            rintro e w8 ⟨g8, _, rfl, hO8, hC8⟩
            have HC8 := Bx.mk (HC7.out.trans hC8 (fun _ _ h => h))
            clear hO8 hC8
            go_wp2_with fail
            refine (known_any _).mono ?_
            rintro e w9 ⟨rfl, hC9⟩
            go_wp2
            go_ret
            exact ⟨rfl, HC8.out.trans hC9 (fun _ _ h => h)⟩
theorem least_law (l : List Nat) (A : Option Addr) (c : Nat) (w : World) (F : Nat → Prop) (hs : Sn w F A l) (hc : l.length ≤ c) (h64 : ∀ x ∈ l, x < 18446744073709551616) :
    Calls Try.prog 7 #[.slice A l.length c] w fun e w' => e = .returned (.bool true) ∧ Ch (fun _ => False) w w' := by
  by_cases h1 : 300 < l.length
  · clear hs h64
    go_enter Try.func7, Try.ntmps7
    go_wp2
    go_ret
    exact ⟨rfl, Ch.refl _ _⟩
  · exact least_in l A c w F hs (by omega) hc h64
end Go.Proofs.Ytknmhhccemojiaa
