/-
  slices.symMergeCmpFunc where one of the two ranges is one symbol: over a row of the call's own.
  Conditions: the row is the call's own; the places lie within it; the comparison holds symbols against each other.
-/
/-
  slices.symMergeCmpFunc where the second range is one symbol, and the first one is more: over a row of the call's own.
  Conditions: the row is the call's own; the places lie within it; the comparison holds symbols against each other.
-/
import Derived.Test.YtckkjccjkdidjaaGreatDoorBwA
namespace Go.Proofs.YtckkjccjkdidjaaGreatDoor
open Go.RowKit Go.Oct Go.Su

theorem mvu_here (f : Nat → Nat) (a k : Nat) : mvu f a k k = f a := by
  unfold mvu
  rw [if_neg (by omega), if_pos rfl]
theorem mvu_next1 {f : Nat → Nat} {a k : Nat} : mvu f a k (k + 1) = f (k + 1) := by
  unfold mvu
  rw [if_neg (by omega), if_neg (by omega)]
set_option maxRecDepth 100000 in
set_option maxHeartbeats 4000000 in
theorem merge_up (l : List Int) (g n fc a b : Nat) (cb : Array Value) (f : Nat → Nat) (w : World) (hO : Rw w g n f) (hc : CmpOk l n g fc cb w) (hn : n ≤ 1048576) (hb : b ≤ n) (hlt : ∀ p, p < n → f p < n) (hp : Mpre l f a (a + 1) b) :
    Calls Tryz.prog 144 #[.slice (some ⟨g, 0, none⟩) n n, .int .i64 a, .int .i64 ((a : Int) + 1), .int .i64 b, .func (.func fc) #[] cb] w (Row1 g n (fun f' => Mpost l f f' a b) w) := by
  have HO := Bx.mk hO
  have HCM := Bx.mk hc
  have HLT := Bx.mk hlt
  have HP := Bx.mk hp
  have hab := hp.mb
  have eg := hc.enters
  have d0 : ((a : Int) + 1 - (a : Int) == 1) = true := by simp; omega
  clear hO hc hlt hp
  go_enter Tryz.func144, Tryz.ntmps144
  go_wp2_with fail
  go_loopw [10, 11, 12] (fun x y _ wr => ∃ lo hi : Nat, x = .int .i64 lo ∧ y = .int .i64 hi ∧ Bx (FndU l f a b lo hi) ∧ Rw wr g n f ∧ Ch (fun b => b = g) w wr) (fun x y _ _ => (intOf y).toNat - (intOf x).toNat)
  case atStart => exact ⟨a + 1, b, by go_num, rfl, ⟨fndU_start hab⟩, HO.out, Ch.refl _ _⟩
  case round =>
    obtain ⟨lo, hi, rfl, rfl, hF, hO, hC⟩ := hrel
    have h1 := hF.out.lh
    have h2 := hF.out.hb
    have h3 := hF.out.al
    by_cases hlh : lo < hi
    · have dj : decide ((lo : Int) < (hi : Int)) = true := by simp; omega
      obtain ⟨m, hm⟩ : ∃ m, (lo + hi) / 2 = m := ⟨_, rfl⟩
      have hme : ((lo : Int) + (hi : Int)) / 2 = (m : Int) := by omega
      have hlm : lo ≤ m := by omega
      have hmh : m < hi := by omega
      have hcm := hO.cell (j := m) (by omega)
      have hca := hO.cell (j := a) (by omega)
      have hq := (HCM.out.later hC).quiet (HLT.out m (by omega)) (HLT.out a (by omega))
      obtain ⟨v, hv⟩ : ∃ v, cv l (f m) (f a) = v := ⟨_, rfl⟩
      have hvl := cv_neg l (f m) (f a)
      rw [hv] at hq hvl
      obtain ⟨x, hx⟩ : ∃ x, f m = x := ⟨_, rfl⟩
      rw [hx] at hq hcm
      obtain ⟨y, hy⟩ : ∃ y, f a = y := ⟨_, rfl⟩
      rw [hy] at hq hca
      have HQ := Bx.mk hq
      have HOR := Bx.mk hO
      have HCR := Bx.mk hC
      have i1 : (m : Int) < (n : Int) := by omega
      have i2 : (a : Int) < (n : Int) := by omega
      have HLM : Bx (lo ≤ m ∧ m < hi) := ⟨hlm, hmh⟩
      clear hm hO hC hv hq hx hy
      by_cases h0 : v < 0
      · have HFN := Bx.mk (hF.out.less HP.out hlm hmh (hvl.1 h0))
        have d1 : decide (v < 0) = true := by simpa using h0
        clear hvl
        go_wp2_with fail
        go_quiet (refine Calls.quiet_of (HQ.out _))
        have HCD := Bx.mk (HCR.out.drewN nq)
        have HOD := Bx.mk (HOR.out.drewN nq)
        clear HQ hcm hca
        generalize wr.drewN nq = w1 at *
        go_wp2
        go_roundw
        case rel => exact ⟨m + 1, hi, by go_num, rfl, HFN, HOD.out, HCD.out⟩
        case measure => have := HLM.out; simp [intOf]; omega
      · have HFN := Bx.mk (hF.out.more HP.out hlm hmh (fun h => h0 (hvl.2 h)))
        have d1 : decide (v < 0) = false := by simpa using h0
        clear hvl
        go_wp2_with fail
        go_quiet (refine Calls.quiet_of (HQ.out _))
        have HCD := Bx.mk (HCR.out.drewN nq)
        have HOD := Bx.mk (HOR.out.drewN nq)
        clear HQ hcm hca
        generalize wr.drewN nq = w1 at *
        go_wp2
        go_roundw
        case rel => exact ⟨lo, m, rfl, rfl, HFN, HOD.out, HCD.out⟩
        case measure => have := HLM.out; simp [intOf]; omega
    · obtain rfl : lo = hi := by omega
      have dj : decide ((lo : Int) < (lo : Int)) = false := by simp
      have HPO := Bx.mk (hF.out.done HP.out)
      obtain ⟨i, rfl⟩ : ∃ i, lo = i + 1 := ⟨lo - 1, by omega⟩
      have ic : ((i + 1 : Nat) : Int) = (i : Int) + 1 := by omega
      have hai : a ≤ i := by omega
      have HOR := Bx.mk hO
      have HCR := Bx.mk hC
      obtain ⟨wo, rfl⟩ : ∃ wo : World, wo = wr := ⟨_, rfl⟩
      clear hO hC hF h1
      go_wp2_with fail
      go_loopw [13] (fun x wr => ∃ k : Nat, x = .int .i64 k ∧ a ≤ k ∧ k ≤ i ∧ Rw wr g n (mvu f a k) ∧ Ch (fun b => b = g) wo wr) (fun x _ => i - (intOf x).toNat)
      case atStart => exact ⟨a, rfl, Nat.le_refl _, hai, by rw [mvu_start]; exact HOR.out, Ch.refl _ _⟩
      case round =>
        obtain ⟨k, rfl, hak, hki, hO, hC⟩ := hrel
        by_cases hlk : k < i
        · have dk : decide ((k : Int) < (i : Int)) = true := by simp; omega
          have hck := hO.cell (j := k) (by omega)
          have hck1 := hO.cell (j := k + 1) (by omega)
          have hfk := hO.frozen k
          have hfk1 := hO.frozen (k + 1)
          have hst := hO.swap k (k + 1)
          rw [mvu_next hak, mvu_here, mvu_next1] at hst
          rw [mvu_here] at hck
          rw [mvu_next1] at hck1
          generalize f a = x at *
          generalize f (k + 1) = y at *
          have HST := Bx.mk hst.1
          have HCN := Bx.mk (hC.trans hst.2 (fun _ _ h => h))
          have i1 : (k : Int) + 1 < (n : Int) := by omega
          have i2 : (k : Int) < (n : Int) := by omega
          clear hst hO hC
          go_wp2_with fail
          go_region
          all_goals
            go_wp2
            go_roundw
            case rel => exact ⟨k + 1, by go_num, by omega, by omega, HST.out.keep ((Ch.refl (fun _ => False) _).drew), HCN.out.drew⟩
            case measure => simp [intOf]; omega
        · obtain rfl : k = i := by omega
          have dk : decide ((k : Int) < (k : Int)) = false := by simp
          have HOF := Bx.mk hO
          have HCF := Bx.mk (HCR.out.trans hC (fun _ _ h => h))
          clear hO hC
          go_wp2
          go_returns
          exact ⟨rfl, _, HPO.out, HOF.out, HCF.out⟩
end Go.Proofs.YtckkjccjkdidjaaGreatDoor

namespace Go.Proofs.YtckkjccjkdidjaaGreatDoor
open Go.RowKit Go.Oct Go.Su

set_option maxRecDepth 100000 in
set_option maxHeartbeats 4000000 in
theorem merge_down (l : List Int) (g n fc a m : Nat) (cb : Array Value) (f : Nat → Nat) (w : World) (hO : Rw w g n f) (hc : CmpOk l n g fc cb w) (hn : n ≤ 1048576) (hb : m + 1 ≤ n) (hlt : ∀ p, p < n → f p < n) (hp : Mpre l f a m (m + 1)) (hne : m ≠ a + 1) :
    Calls Tryz.prog 144 #[.slice (some ⟨g, 0, none⟩) n n, .int .i64 a, .int .i64 m, .int .i64 ((m : Int) + 1), .func (.func fc) #[] cb] w (Row1 g n (fun f' => Mpost l f f' a (m + 1)) w) := by
  have HO := Bx.mk hO
  have HCM := Bx.mk hc
  have HLT := Bx.mk hlt
  have HP := Bx.mk hp
  have ham := hp.am
  have eg := hc.enters
  have dd : ((m : Int) - (a : Int) == 1) = false := by simp; omega
  have d0 : ((m : Int) + 1 - (m : Int) == 1) = true := by simp; omega
  clear hO hc hlt hp hne
  go_enter Tryz.func144, Tryz.ntmps144
  go_wp2_with fail
  go_loopw [14, 15, 16] (fun x y _ wr => ∃ lo hi : Nat, x = .int .i64 lo ∧ y = .int .i64 hi ∧ Bx (FndD l f a m lo hi) ∧ Rw wr g n f ∧ Ch (fun b => b = g) w wr) (fun x y _ _ => (intOf y).toNat - (intOf x).toNat)
  case atStart => exact ⟨a, m, rfl, rfl, ⟨fndD_start ham⟩, HO.out, Ch.refl _ _⟩
  case round =>
    obtain ⟨lo, hi, rfl, rfl, hF, hO, hC⟩ := hrel
    have h1 := hF.out.lh
    have h2 := hF.out.hb
    have h3 := hF.out.al
    by_cases hlh : lo < hi
    · have dj : decide ((lo : Int) < (hi : Int)) = true := by simp; omega
      obtain ⟨h, hm⟩ : ∃ h, (lo + hi) / 2 = h := ⟨_, rfl⟩
      have hme : ((lo : Int) + (hi : Int)) / 2 = (h : Int) := by omega
      have hlm : lo ≤ h := by omega
      have hmh : h < hi := by omega
      have hcm := hO.cell (j := m) (by omega)
      have hca := hO.cell (j := h) (by omega)
      have hq := (HCM.out.later hC).quiet (HLT.out m (by omega)) (HLT.out h (by omega))
      obtain ⟨v, hv⟩ : ∃ v, cv l (f m) (f h) = v := ⟨_, rfl⟩
      have hvl := cv_neg l (f m) (f h)
      rw [hv] at hq hvl
      obtain ⟨x, hx⟩ : ∃ x, f m = x := ⟨_, rfl⟩
      rw [hx] at hq hcm
      obtain ⟨y, hy⟩ : ∃ y, f h = y := ⟨_, rfl⟩
      rw [hy] at hq hca
      have HQ := Bx.mk hq
      have HOR := Bx.mk hO
      have HCR := Bx.mk hC
      have i1 : (m : Int) < (n : Int) := by omega
      have i2 : (h : Int) < (n : Int) := by omega
      have HLM : Bx (lo ≤ h ∧ h < hi) := ⟨hlm, hmh⟩
      clear hm hO hC hv hq hx hy
      by_cases h0 : v < 0
      · have HFN := Bx.mk (hF.out.more HP.out hlm hmh (hvl.1 h0))
        have d1 : decide (v < 0) = true := by simpa using h0
        clear hvl
        go_wp2_with fail
        go_quiet (refine Calls.quiet_of (HQ.out _))
        have HCD := Bx.mk (HCR.out.drewN nq)
        have HOD := Bx.mk (HOR.out.drewN nq)
        clear HQ hcm hca
        generalize wr.drewN nq = w1 at *
        go_wp2
        go_roundw
        case rel => exact ⟨lo, h, rfl, rfl, HFN, HOD.out, HCD.out⟩
        case measure => have := HLM.out; simp [intOf]; omega
      · have HFN := Bx.mk (hF.out.less HP.out hlm hmh (fun h => h0 (hvl.2 h)))
        have d1 : decide (v < 0) = false := by simpa using h0
        clear hvl
        go_wp2_with fail
        go_quiet (refine Calls.quiet_of (HQ.out _))
        have HCD := Bx.mk (HCR.out.drewN nq)
        have HOD := Bx.mk (HOR.out.drewN nq)
        clear HQ hcm hca
        generalize wr.drewN nq = w1 at *
        go_wp2
        go_roundw
        case rel => exact ⟨h + 1, hi, by go_num, rfl, HFN, HOD.out, HCD.out⟩
        case measure => have := HLM.out; simp [intOf]; omega
    · obtain rfl : lo = hi := by omega
      have dj : decide ((lo : Int) < (lo : Int)) = false := by simp
      have HPO := Bx.mk (hF.out.done HP.out)
      have HOR := Bx.mk hO
      have HCR := Bx.mk hC
      obtain ⟨wo, rfl⟩ : ∃ wo : World, wo = wr := ⟨_, rfl⟩
      clear hO hC hF h1
      go_wp2_with fail
      go_loopw [17] (fun x wr => ∃ k : Nat, x = .int .i64 k ∧ lo ≤ k ∧ k ≤ m ∧ Rw wr g n (mvd f m k) ∧ Ch (fun b => b = g) wo wr) (fun x _ => (intOf x).toNat)
      case atStart => exact ⟨m, rfl, h2, Nat.le_refl _, by rw [mvd_start]; exact HOR.out, Ch.refl _ _⟩
      case round =>
        obtain ⟨k, rfl, hak, hki, hO, hC⟩ := hrel
        by_cases hlk : lo < k
        · obtain ⟨k, rfl⟩ : ∃ k', k = k' + 1 := ⟨k - 1, by omega⟩
          have kc : ((k + 1 : Nat) : Int) = (k : Int) + 1 := by omega
          have dk : decide ((lo : Int) < (k : Int) + 1) = true := by simp; omega
          have hck := hO.cell (j := k + 1) (by omega)
          have hck1 := hO.cell (j := k) (by omega)
          have hfk := hO.frozen k
          have hfk1 := hO.frozen (k + 1)
          have hst := hO.swap (k + 1) k
          rw [mvd_next hki, mvd_here, mvd_ahead] at hst
          rw [mvd_here] at hck
          rw [mvd_ahead] at hck1
          generalize f m = x at *
          generalize f k = y at *
          have HST := Bx.mk hst.1
          have HCN := Bx.mk (hC.trans hst.2 (fun _ _ h => h))
          have i1 : (k : Int) + 1 < (n : Int) := by omega
          have i2 : (k : Int) < (n : Int) := by omega
          clear hst hO hC
          go_wp2_with fail
          go_region
          all_goals
            go_wp2
            go_roundw
            case rel => exact ⟨k, by go_num, by omega, by omega, HST.out.keep ((Ch.refl (fun _ => False) _).drew), HCN.out.drew⟩
            case measure => first | (simp [intOf]; done) | (simp [intOf]; omega)
        · obtain rfl : k = lo := by omega
          have dk : decide ((k : Int) < (k : Int)) = false := by simp
          have HOF := Bx.mk hO
          have HCF := Bx.mk (HCR.out.trans hC (fun _ _ h => h))
          clear hO hC
          go_wp2
          go_returns
          exact ⟨rfl, _, HPO.out, HOF.out, HCF.out⟩
end Go.Proofs.YtckkjccjkdidjaaGreatDoor
