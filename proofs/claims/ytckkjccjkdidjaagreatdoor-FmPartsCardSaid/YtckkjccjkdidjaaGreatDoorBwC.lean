/-
  The contract of slices.symMergeCmpFunc: two sorted neighbouring ranges of a row of the call's own, merged in place.
  Conditions: the row is the call's own; the places lie within it; the comparison holds symbols against each other.
-/
/-
  The contracts of slices.stableCmpFunc and SortStableFunc over a row of places that stand in their own order: sorted by symbols, those of one symbol in their own order.
  Conditions: the row is the call's own; the comparison holds symbols against each other.
-/
import Derived.Test.YtckkjccjkdidjaaGreatDoorBwB
import Derived.Test.YtckkjccjkdidjaaGreatDoorBwA
import Derived.Test.YtckkjccjkdidjaaGreatDoorMaBw
import Derived.Deep.DeepCutAuto
namespace Go.Proofs.YtckkjccjkdidjaaGreatDoor
open Go.RowKit Go.Oct Go.Su

/-- What a merge of ranges of at most K in all leaves. -/
def MrgIH (l : List Int) (g n fc : Nat) (cb : Array Value) (K : Nat) : Prop := ∀ (a m b : Nat) (f : Nat → Nat) (w : World), b ≤ a + K → Rw w g n f → CmpOk l n g fc cb w → b ≤ n → (∀ p, p < n → f p < n) → Mpre l f a m b →
    Calls Tryz.prog 144 #[.slice (some ⟨g, 0, none⟩) n n, .int .i64 a, .int .i64 m, .int .i64 b, .func (.func fc) #[] cb] w (Row1 g n (fun f' => Mpost l f f' a b) w)

set_option maxRecDepth 100000 in
set_option maxHeartbeats 8000000 in
theorem merge_step (l : List Int) (g n fc a m b K : Nat) (cb : Array Value) (f : Nat → Nat) (w : World) (ih : Bx (MrgIH l g n fc cb K)) (hK : b ≤ a + (K + 1)) (hO : Rw w g n f) (hc : CmpOk l n g fc cb w) (hn : n ≤ 1048576) (hb : b ≤ n) (hlt : ∀ p, p < n → f p < n) (hp : Mpre l f a m b) (hm1 : m ≠ a + 1) (hm2 : b ≠ m + 1) :
    Calls Tryz.prog 144 #[.slice (some ⟨g, 0, none⟩) n n, .int .i64 a, .int .i64 m, .int .i64 b, .func (.func fc) #[] cb] w (Row1 g n (fun f' => Mpost l f f' a b) w) := by
  have HO := Bx.mk hO
  have HCM := Bx.mk hc
  have HLT := Bx.mk hlt
  have HP := Bx.mk hp
  have ham := hp.am
  have hmb := hp.mb
  have eg := hc.enters
  have dd : ((m : Int) - (a : Int) == 1) = false := by simp; omega
  have d0 : ((b : Int) - (m : Int) == 1) = false := by simp; omega
  obtain ⟨mid, hmid⟩ : ∃ mid, (a + b) / 2 = mid := ⟨_, rfl⟩
  have hme : ((a : Int) + (b : Int)) / 2 = (mid : Int) := by omega
  obtain ⟨N, hN⟩ : ∃ N, mid + m = N := ⟨_, rfl⟩
  have hNe : (mid : Int) + (m : Int) = (N : Int) := by omega
  obtain ⟨lo0, hi0, HB, hlo, hhi⟩ : ∃ lo0 hi0 : Nat, Bx (Bnd a m b N lo0 hi0) ∧ ((mid < m ∧ lo0 + b = N ∧ hi0 = mid) ∨ (m ≤ mid ∧ lo0 = a ∧ hi0 = m)) ∧ True := by
    rcases Nat.lt_or_ge mid m with h | h
    · exact ⟨mid + m - b, mid, ⟨by rw [← hN]; exact bnd_less hmb hmid.symm h⟩, .inl ⟨h, by omega, rfl⟩, trivial⟩
    · exact ⟨a, m, ⟨by rw [← hN]; exact bnd_more ham hmid.symm h⟩, .inr ⟨h, rfl, rfl⟩, trivial⟩
  have HMID : Bx (mid = (a + b) / 2 ∧ mid + m = N) := ⟨by omega⟩
  have HLO := Bx.mk hlo
  clear hO hc hlt hp hmid hN hlo hhi hm1 hm2
  go_enter Tryz.func144, Tryz.ntmps144
  go_upto_if 140 with fail
  go_cut [20, 21] from 138 to 146 (fun s20 s21 wx => s20 = .int .i64 (lo0 : Int) ∧ s21 = .int .i64 (hi0 : Int) ∧ wx = w)
  case first =>
    rcases HLO.out with ⟨h1, h2, rfl⟩ | ⟨h1, rfl, rfl⟩
    · have d1 : decide ((hi0 : Int) < (m : Int)) = true := by simp; omega
      have e1 : (N : Int) - (b : Int) = (lo0 : Int) := by omega
      go_wp2_with fail
      all_goals
        go_meet
        exact ⟨rfl, rfl, rfl⟩
    · have d1 : decide ((mid : Int) < (hi0 : Int)) = false := by simp; omega
      go_wp2_with fail
      all_goals
        go_meet
        exact ⟨rfl, rfl, rfl⟩
  case rest =>
    obtain ⟨rfl, rfl, rfl⟩ := hcut
    go_wp2_with fail
    go_loopw [20, 21, 23] (fun x y _ wr => ∃ lo hi : Nat, x = .int .i64 lo ∧ y = .int .i64 hi ∧ Bx (FndS l f a m b N lo0 hi0 lo hi) ∧ Rw wr g n f ∧ Ch (fun b => b = g) wc wr) (fun x y _ _ => (intOf y).toNat - (intOf x).toNat)
    case atStart => exact ⟨lo0, hi0, rfl, rfl, ⟨fndS_start HB.out⟩, HO.out, Ch.refl _ _⟩
    case round =>
      obtain ⟨lo, hi, rfl, rfl, hF, hO, hC⟩ := hrel
      have h1 := hF.out.lh
      have h2 := hF.out.l0
      have h3 := hF.out.h0
      by_cases hlh : lo < hi
      · have dj : decide ((lo : Int) < (hi : Int)) = true := by simp; omega
        obtain ⟨c, hm⟩ : ∃ c, (lo + hi) / 2 = c := ⟨_, rfl⟩
        have hme2 : ((lo : Int) + (hi : Int)) / 2 = (c : Int) := by omega
        have hlm : lo ≤ c := by omega
        have hmh : c < hi := by omega
        have hbd := HB.out
        have b1 := hbd.al
        have b2 := hbd.hm
        have b3 := hbd.mn
        have b4 := hbd.nb
        obtain ⟨r, hr⟩ : ∃ r, N - 1 - c = r := ⟨_, rfl⟩
        have hre : (N : Int) - 1 - (c : Int) = (r : Int) := by omega
        have hrn : r < n := by omega
        have hcn : c < n := by omega
        have hcm := hO.cell hrn
        have hca := hO.cell hcn
        have hq := (HCM.out.later hC).quiet (HLT.out r hrn) (HLT.out c hcn)
        obtain ⟨v, hv⟩ : ∃ v, cv l (f r) (f c) = v := ⟨_, rfl⟩
        have hvl := cv_neg l (f r) (f c)
        rw [hv] at hq hvl
        obtain ⟨x, hx⟩ : ∃ x, f r = x := ⟨_, rfl⟩
        rw [hx] at hq hcm
        obtain ⟨y, hy⟩ : ∃ y, f c = y := ⟨_, rfl⟩
        rw [hy] at hq hca
        have HQ := Bx.mk hq
        have HOR := Bx.mk hO
        have HCR := Bx.mk hC
        have i1 : (r : Int) < (n : Int) := by omega
        have i2 : (c : Int) < (n : Int) := by omega
        have HLM : Bx (lo ≤ c ∧ c < hi) := ⟨hlm, hmh⟩
        rw [← hr] at hvl
        clear hm hO hC hv hq hx hy hbd b1 b2 b3 b4 hr hrn hcn
        by_cases h0 : v < 0
        · have HFN := Bx.mk (hF.out.more HB.out hlm hmh (hvl.1 h0))
          have d1 : decide (v < 0) = true := by simpa using h0
          clear hvl
          go_wp2_with fail
          go_quiet (refine Calls.quiet_of (HQ.out _))
          have HCD := Bx.mk (HCR.out.drewN nq)
          have HOD := Bx.mk (HOR.out.drewN nq)
          clear HQ hcm hca
          generalize wr.drewN nq = w1 at *
          go_wp2
          go_roundw
          case rel => exact ⟨lo, c, rfl, rfl, HFN, HOD.out, HCD.out⟩
          case measure => have := HLM.out; simp [intOf]; omega
        · have HFN := Bx.mk (hF.out.less HB.out HP.out hlm hmh (fun h => h0 (hvl.2 h)))
          have d1 : decide (v < 0) = false := by simpa using h0
          clear hvl
          go_wp2_with fail
          go_quiet (refine Calls.quiet_of (HQ.out _))
          have HCD := Bx.mk (HCR.out.drewN nq)
          have HOD := Bx.mk (HOR.out.drewN nq)
          clear HQ hcm hca
          generalize wr.drewN nq = w1 at *
          go_wp2
          go_roundw
          case rel => exact ⟨c + 1, hi, by go_num, rfl, HFN, HOD.out, HCD.out⟩
          case measure => have := HLM.out; simp [intOf]; omega
      · obtain rfl : lo = hi := by omega
        have dj : decide ((lo : Int) < (lo : Int)) = false := by simp
        have HS := Bx.mk (hF.out.split HB.out HP.out HMID.out.2.symm)
        obtain ⟨e, he⟩ : ∃ e, N - lo = e := ⟨_, rfl⟩
        rw [he] at HS
        have k1 := HS.out.as_
        have k2 := HS.out.sm
        have k3 := HS.out.me
        have k4 := HS.out.eb
        have k5 := HS.out.smid
        have k6 := HS.out.mide
        have hee : (N : Int) - (lo : Int) = (e : Int) := by omega
        have HOR := Bx.mk hO
        have HCR := Bx.mk hC
        have HCMR := Bx.mk (HCM.out.later hC)
        have HHM := Bx.mk HMID.out.1
        clear hO hC hF h1 h2 h3 he
        obtain ⟨wo, rfl⟩ : ∃ wo : World, wo = wr := ⟨_, rfl⟩
        go_upto_region 39 with fail
        obtain ⟨b1, hb1⟩ : ∃ b1, (decide (lo < m) && decide (m < e)) = b1 := ⟨_, rfl⟩
        have HB1 := Bx.mk hb1
        clear hb1
        go_cut [185] from 178 to 185 (fun s185 wx => s185 = .bool b1 ∧ wo = wx)
        case first =>
          by_cases f1 : lo < m
          · have g1 : decide ((lo : Int) < (m : Int)) = true := decide_eq_true (by omega)
            have g2 : decide (lo < m) = true := decide_eq_true f1
            have e1 : decide (m < e) = b1 := by rw [← HB1.out, g2]; rfl
            go_wp2_with fail
            all_goals
              go_meet
              first | exact ⟨rfl, rfl⟩ | exact ⟨congrArg Value.bool e1, rfl⟩
          · have g1 : decide ((lo : Int) < (m : Int)) = false := decide_eq_false (by omega)
            have g2 : decide (lo < m) = false := decide_eq_false f1
            have e1 : b1 = false := by rw [← HB1.out, g2]; rfl
            subst e1
            go_wp2_with fail
            all_goals
              go_meet
              exact ⟨rfl, rfl⟩
        case rest =>
        obtain ⟨rfl, rfl⟩ := hcut
        have hcb1 : (b1 = true ∧ lo < m ∧ m < e) ∨ (b1 = false ∧ ¬ (lo < m ∧ m < e)) := by
          rw [← HB1.out]
          by_cases f1 : lo < m <;> by_cases f2 : m < e <;> simp [f1, f2] <;> omega
        have HCB1 := Bx.mk hcb1
        clear hcb1 HB1
        go_upto_if 185 with fail
        go_cut [24] from 186 to 191 (fun s24 wx => s24 = .int .i64 (e : Int) ∧ Rw wx g n (rotn f lo m e) ∧ Ch (fun b => b = g) wo wx)
        case first =>
          rcases HCB1.out with ⟨rfl, f1, f2⟩ | ⟨rfl, f1⟩
          · have hr := rotate_any g n lo m e f (.func (.func fc) #[] cb) wo HOR.out hn f1 f2 (by omega)
            go_wp2_with fail
            refine hr.mono ?_
            rintro e0 w2 ⟨rfl, f2, rfl, hO2, hC2⟩
            have HO2 := Bx.mk hO2
            have HC2 := Bx.mk hC2
            clear hO2 hC2 hr
            go_wp2_with fail
            all_goals
              go_meet
              exact ⟨rfl, HO2.out, HC2.out⟩
          · have hrn : rotn f lo m e = f := by
              by_cases h : lo < m
              · obtain rfl : m = e := by omega
                exact rot_none2
              · obtain rfl : lo = m := by omega
                exact rot_none1
            have HRN := Bx.mk hrn
            clear hrn
            go_wp2_with fail
            all_goals
              go_meet
              exact ⟨rfl, by rw [HRN.out]; exact HOR.out, Ch.refl _ _⟩
        case rest =>
        obtain ⟨rfl, hO1, hC1⟩ := hcut
        obtain ⟨w1, rfl⟩ : ∃ w1 : World, w1 = wc := ⟨_, rfl⟩
        have HO1 := Bx.mk hO1
        have HC1 := Bx.mk (HCR.out.trans hC1 (fun _ _ h => h))
        have HCM1 := Bx.mk (HCMR.out.later hC1)
        have HL1 := Bx.mk ((frm_rot k2 k3).lt (f := f) (show e ≤ n by omega) HLT.out)
        clear hO1 hC1
        go_upto_region 41 with fail
        obtain ⟨b2, hb2⟩ : ∃ b2, (decide (a < lo) && decide (lo < mid)) = b2 := ⟨_, rfl⟩
        have HB2 := Bx.mk hb2
        clear hb2
        go_cut [199] from 192 to 199 (fun s199 wx => s199 = .bool b2 ∧ w1 = wx)
        case first =>
          by_cases f1 : a < lo
          · have g1 : decide ((a : Int) < (lo : Int)) = true := decide_eq_true (by omega)
            have g2 : decide (a < lo) = true := decide_eq_true f1
            have e1 : decide (lo < mid) = b2 := by rw [← HB2.out, g2]; rfl
            go_wp2_with fail
            all_goals
              go_meet
              first | exact ⟨rfl, rfl⟩ | exact ⟨congrArg Value.bool e1, rfl⟩
          · have g1 : decide ((a : Int) < (lo : Int)) = false := decide_eq_false (by omega)
            have g2 : decide (a < lo) = false := decide_eq_false f1
            have e1 : b2 = false := by rw [← HB2.out, g2]; rfl
            subst e1
            go_wp2_with fail
            all_goals
              go_meet
              exact ⟨rfl, rfl⟩
        case rest =>
        obtain ⟨rfl, rfl⟩ := hcut
        have hcb2 : (b2 = true ∧ a < lo ∧ lo < mid) ∨ (b2 = false ∧ ¬ (a < lo ∧ lo < mid)) := by
          rw [← HB2.out]
          by_cases f1 : a < lo <;> by_cases f2 : lo < mid <;> simp [f1, f2] <;> omega
        have HCB2 := Bx.mk hcb2
        clear hcb2 HB2
        go_upto_if 199 with fail
        go_cut [24] from 200 to 205 (fun s24 wx => s24 = .int .i64 (e : Int) ∧ ∃ f2, Bx (Mpost l (rotn f lo m e) f2 a mid) ∧ Rw wx g n f2 ∧ Ch (fun b => b = g) w1 wx)
        case first =>
          rcases HCB2.out with ⟨rfl, f1, f2⟩ | ⟨rfl, f1⟩
          · have hr := ih.out a lo mid (rotn f lo m e) w1 (by have := HHM.out; omega) HO1.out HCM1.out (by omega) HL1.out (HS.out.leftPre f1 f2)
            go_wp2_with fail
            refine hr.mono ?_
            rintro e0 w2 ⟨rfl, f2, hq, hO2, hC2⟩
            have HQ := Bx.mk hq
            have HO2 := Bx.mk hO2
            have HC2 := Bx.mk hC2
            clear hO2 hC2 hr hq
            go_wp2_with fail
            all_goals
              go_meet
              exact ⟨rfl, f2, HQ, HO2.out, HC2.out⟩
          · have HQ := Bx.mk (HS.out.leftNone f1)
            go_wp2_with fail
            all_goals
              go_meet
              exact ⟨rfl, _, HQ, HO1.out, Ch.refl _ _⟩
        case rest =>
        obtain ⟨rfl, f2, HQ, hO2, hC2⟩ := hcut
        obtain ⟨w2, rfl⟩ : ∃ w2 : World, w2 = wc := ⟨_, rfl⟩
        have HO2 := Bx.mk hO2
        have HC2 := Bx.mk (HC1.out.trans hC2 (fun _ _ h => h))
        have HCM2 := Bx.mk (HCM1.out.later hC2)
        have HL2 := Bx.mk (HQ.out.frm.lt (show mid ≤ n by omega) HL1.out)
        clear hO2 hC2
        go_upto_region 43 with fail
        obtain ⟨b3, hb3⟩ : ∃ b3, (decide (mid < e) && decide (e < b)) = b3 := ⟨_, rfl⟩
        have HB3 := Bx.mk hb3
        clear hb3
        go_cut [213] from 206 to 213 (fun s213 wx => s213 = .bool b3 ∧ w2 = wx)
        case first =>
          by_cases f1 : mid < e
          · have g1 : decide ((mid : Int) < (e : Int)) = true := decide_eq_true (by omega)
            have g2 : decide (mid < e) = true := decide_eq_true f1
            have e1 : decide (e < b) = b3 := by rw [← HB3.out, g2]; rfl
            go_wp2_with fail
            all_goals
              go_meet
              first | exact ⟨rfl, rfl⟩ | exact ⟨congrArg Value.bool e1, rfl⟩
          · have g1 : decide ((mid : Int) < (e : Int)) = false := decide_eq_false (by omega)
            have g2 : decide (mid < e) = false := decide_eq_false f1
            have e1 : b3 = false := by rw [← HB3.out, g2]; rfl
            subst e1
            go_wp2_with fail
            all_goals
              go_meet
              exact ⟨rfl, rfl⟩
        case rest =>
        obtain ⟨rfl, rfl⟩ := hcut
        have hcb3 : (b3 = true ∧ mid < e ∧ e < b) ∨ (b3 = false ∧ ¬ (mid < e ∧ e < b)) := by
          rw [← HB3.out]
          by_cases f1 : mid < e <;> by_cases f2 : e < b <;> simp [f1, f2] <;> omega
        have HCB3 := Bx.mk hcb3
        clear hcb3 HB3
        rcases HCB3.out with ⟨rfl, f1, f3⟩ | ⟨rfl, f1⟩
        · have hr := ih.out mid e b f2 w2 (by have := HHM.out; omega) HO2.out HCM2.out hb HL2.out (HS.out.rightPre HQ.out f1 f3)
          go_wp2_with fail
          refine hr.mono ?_
          rintro e0 w3 ⟨rfl, f3, hq, hO3, hC3⟩
          have HQ3 := Bx.mk (HS.out.done HQ.out hq)
          have HO3 := Bx.mk hO3
          have HC3 := Bx.mk (HC2.out.trans hC3 (fun _ _ h => h))
          clear hO3 hC3 hr hq
          go_wp2
          go_returns
          exact ⟨rfl, f3, HQ3.out, HO3.out, HC3.out⟩
        · have HQ3 := Bx.mk (HS.out.done HQ.out (HS.out.rightNone HQ.out f1))
          go_wp2
          go_returns
          exact ⟨rfl, f2, HQ3.out, HO2.out, HC2.out⟩

theorem merge_all (l : List Int) (g n fc : Nat) (cb : Array Value) (hn : n ≤ 1048576) : ∀ K, MrgIH l g n fc cb K
  | 0 => fun a m b f w hK _ _ _ _ hp => by
    have h1 := hp.am
    have h2 := hp.mb
    omega
  | K + 1 => fun a m b f w hK hO hc hb hlt hp => by
    by_cases h1 : m = a + 1
    · subst h1
      exact merge_up l g n fc a b cb f w hO hc hn hb hlt hp
    · by_cases h2 : b = m + 1
      · subst h2
        exact merge_down l g n fc a m cb f w hO hc hn hb hlt hp h1
      · exact merge_step l g n fc a m b K cb f w ⟨merge_all l g n fc cb hn K⟩ hK hO hc hn hb hlt hp h1 h2
theorem merge_any (l : List Int) (g n fc a m b : Nat) (cb : Array Value) (f : Nat → Nat) (w : World) (hO : Rw w g n f) (hc : CmpOk l n g fc cb w) (hn : n ≤ 1048576) (hb : b ≤ n) (hlt : ∀ p, p < n → f p < n) (hp : Mpre l f a m b) :
    Calls Tryz.prog 144 #[.slice (some ⟨g, 0, none⟩) n n, .int .i64 a, .int .i64 m, .int .i64 b, .func (.func fc) #[] cb] w (Row1 g n (fun f' => Mpost l f f' a b) w) :=
  merge_all l g n fc cb hn b a m b f w (by omega) hO hc hb hlt hp
end Go.Proofs.YtckkjccjkdidjaaGreatDoor

namespace Go.Proofs.YtckkjccjkdidjaaGreatDoor
open Go.RowKit Go.Oct Go.Su

set_option maxRecDepth 100000 in
set_option maxHeartbeats 8000000 in
theorem stablefn_any (l : List Int) (g n fc : Nat) (cb : Array Value) (f : Nat → Nat) (w : World) (hO : Rw w g n f) (hc : CmpOk l n g fc cb w) (hn : n ≤ 1048576) (hf : ∀ p, p < n → f p = p) (hl : l.length = n) :
    Calls Tryz.prog 135 #[.slice (some ⟨g, 0, none⟩) n n, .int .i64 n, .func (.func fc) #[] cb] w (Row1 g n (fun f' => Srt l (tb n f')) w) := by
  have HO := Bx.mk hO
  have HCM := Bx.mk hc
  have HI := Bx.mk (ins_start (l := l) (W := 20) hf)
  have HL := Bx.mk hl
  clear hO hc hf hl
  go_enter Tryz.func135, Tryz.ntmps135
  go_wp2_with fail
  go_loopw [7, 8] (fun x y wr => ∃ (a b : Nat) (f : Nat → Nat), x = .int .i64 a ∧ y = .int .i64 b ∧ Bx (b = a + 20) ∧ a ≤ n ∧ Bx (Ins l n 20 a f) ∧ Rw wr g n f ∧ Ch (fun b => b = g) w wr) (fun x _ _ => n - (intOf x).toNat)
  case atStart => exact ⟨0, 20, f, rfl, rfl, ⟨rfl⟩, Nat.zero_le _, HI, HO.out, Ch.refl _ _⟩
  case round =>
    obtain ⟨a, b, f1, rfl, rfl, HAB, han, hI, hO, hC⟩ := hrel
    have hab := HAB.out
    by_cases hbn : b ≤ n
    · have dk : decide ((b : Int) ≤ (n : Int)) = true := by simp; omega
      have hins := insertion_any l g n fc a b cb f1 wr hO (HCM.out.later hC) hn (by omega) hbn hI.out.lt (hI.out.rise hbn)
      have HC := Bx.mk hC
      have HINS := Bx.mk hins
      have hlt : a < b := by omega
      clear hO hC hins hab
      go_wp2_with fail
      refine HINS.out.mono ?_
      rintro e w2 ⟨rfl, f2, hq, hO2, hC2⟩
      have HIN := Bx.mk (hI.out.next (by have := HAB.out; omega) (by rw [← HAB.out]; exact hq))
      have HO2 := Bx.mk hO2
      have HC2 := Bx.mk (HC.out.trans hC2 (fun _ _ h => h))
      clear hO2 hC2 HINS hq
      go_wp2
      go_roundw
      case rel => exact ⟨b, b + 20, f2, rfl, by go_num, ⟨rfl⟩, hbn, by rw [HAB.out]; exact HIN, HO2.out, HC2.out⟩
      case measure => simp [intOf]; omega
    · have dk : decide ((b : Int) ≤ (n : Int)) = false := by simp; omega
      have hins := insertion_any l g n fc a n cb f1 wr hO (HCM.out.later hC) hn han (Nat.le_refl _) hI.out.lt (hI.out.rise (Nat.le_refl _))
      have HC := Bx.mk hC
      have HINS := Bx.mk hins
      have hlt : a < b := by omega
      clear hO hC hins hab
      go_wp2_with fail
      refine HINS.out.mono ?_
      rintro e w2 ⟨rfl, f2, hq, hO2, hC2⟩
      have HAL := Bx.mk (hI.out.last (by have := HAB.out; omega) hq han)
      have HO2 := Bx.mk hO2
      have HC2 := Bx.mk (HC.out.trans hC2 (fun _ _ h => h))
      have HCM2 := Bx.mk (HCM.out.later HC2.out)
      clear hO2 hC2 HINS hq hI han hbn dk HC HO HCM HI HAB
      go_wp2_with fail
      go_loopw [6, 7, 8, 9] (fun x _ _ _ wr => ∃ (W : Nat) (f : Nat → Nat), x = .int .i64 W ∧ 0 < W ∧ W ≤ 2097152 ∧ Bx (All l n W f) ∧ Rw wr g n f ∧ Ch (fun b => b = g) w2 wr) (fun x _ _ _ _ => n - (intOf x).toNat)
      case atStart => exact ⟨20, f2, rfl, by omega, by omega, HAL, HO2.out, Ch.refl _ _⟩
      case round =>
        obtain ⟨W, f3, rfl, hW0, hW, hA, hO, hC⟩ := hrel
        by_cases hWn : W < n
        · have dW : decide ((W : Int) < (n : Int)) = true := by simp; omega
          have HO3 := Bx.mk hO
          have HC3 := Bx.mk hC
          have HCM3 := Bx.mk (HCM2.out.later hC)
          have HH3 := Bx.mk hA.out.half
          obtain ⟨w3, rfl⟩ : ∃ w3 : World, w3 = wr := ⟨_, rfl⟩
          clear hO hC hA
          go_wp2_with fail
          go_loopw [7, 8] (fun x y wr => ∃ (a b : Nat) (f : Nat → Nat), x = .int .i64 a ∧ y = .int .i64 b ∧ Bx (b = a + 2 * W) ∧ a ≤ n ∧ Bx (Half l n W a f) ∧ Rw wr g n f ∧ Ch (fun b => b = g) w3 wr) (fun x _ _ => n - (intOf x).toNat)
          case atStart => exact ⟨0, 2 * W, f3, rfl, by go_num, ⟨by omega⟩, Nat.zero_le _, HH3, HO3.out, Ch.refl _ _⟩
          case round =>
            obtain ⟨a, b, f4, rfl, rfl, HAB, han, hH, hO, hC⟩ := hrel
            have hab := HAB.out
            obtain ⟨m, hm⟩ : ∃ m, a + W = m := ⟨_, rfl⟩
            have hmi : (a : Int) + (W : Int) = (m : Int) := by omega
            by_cases hbn : b ≤ n
            · have dk : decide ((b : Int) ≤ (n : Int)) = true := by simp; omega
              have hmg := merge_any l g n fc a m b cb f4 wr hO (HCM3.out.later hC) hn hbn hH.out.lt (by rw [← hm]; exact hH.out.pre hW0 (by omega) (by omega))
              have HC := Bx.mk hC
              have HMG := Bx.mk hmg
              have HM := Bx.mk hm
              have hlt : a < b := by omega
              clear hO hC hmg hab hm
              go_wp2_with fail
              refine HMG.out.mono ?_
              rintro e w4 ⟨rfl, f5, hq, hO2, hC2⟩
              have HHN := Bx.mk (hH.out.next hW0 (by have := HAB.out; omega) (by rw [← HAB.out]; exact hq))
              have HO4 := Bx.mk hO2
              have HC4 := Bx.mk (HC.out.trans hC2 (fun _ _ h => h))
              clear hO2 hC2 HMG hq
              go_wp2
              go_roundw
              case rel => exact ⟨b, b + 2 * W, f5, rfl, by go_num, ⟨rfl⟩, hbn, by rw [HAB.out]; exact HHN, HO4.out, HC4.out⟩
              case measure => simp [intOf]; omega
            · have dk : decide ((b : Int) ≤ (n : Int)) = false := by simp; omega
              by_cases hmn : m < n
              · have dm : decide ((m : Int) < (n : Int)) = true := by simp; omega
                have hmg := merge_any l g n fc a m n cb f4 wr hO (HCM3.out.later hC) hn (Nat.le_refl _) hH.out.lt (by rw [← hm]; exact hH.out.pre hW0 (by omega) (by omega))
                have HC := Bx.mk hC
                have HMG := Bx.mk hmg
                have HM := Bx.mk hm
                clear hO hC hmg hab hm
                go_wp2_with fail
                refine HMG.out.mono ?_
                rintro e w4 ⟨rfl, f5, hq, hO2, hC2⟩
                have HAN := Bx.mk (hH.out.last (by have := HAB.out; omega) (by have := HM.out; omega) hq)
                have HO4 := Bx.mk hO2
                have HC4 := Bx.mk (HC3.out.trans (HC.out.trans hC2 (S := fun b => b = g) (fun _ _ h => h)) (fun _ _ h => h))
                clear hO2 hC2 HMG hq
                go_wp2
                go_roundw
                case rel => exact ⟨2 * W, f5, by go_num, by omega, by omega, HAN, HO4.out, HC4.out⟩
                case measure => simp [intOf]; omega
              · have dm : decide ((m : Int) < (n : Int)) = false := by simp; omega
                have HAN := Bx.mk (hH.out.lastNone (by omega))
                have HO4 := Bx.mk hO
                have HC4 := Bx.mk (HC3.out.trans hC (fun _ _ h => h))
                clear hO hC hab hm
                go_wp2
                go_roundw
                case rel => exact ⟨2 * W, f4, by go_num, by omega, by omega, HAN, HO4.out, HC4.out⟩
                case measure => simp [intOf]; omega
        · have dW : decide ((W : Int) < (n : Int)) = false := by simp; omega
          have HS := Bx.mk (hA.out.srt (by omega) HL.out)
          have HO3 := Bx.mk hO
          have HC3 := Bx.mk (HC2.out.trans hC (fun _ _ h => h))
          clear hO hC hA
          go_wp2
          go_returns
          exact ⟨rfl, f3, HS.out, HO3.out, HC3.out⟩
theorem sortstable_any (l : List Int) (g n fc : Nat) (cb : Array Value) (f : Nat → Nat) (w : World) (hO : Rw w g n f) (hc : CmpOk l n g fc cb w) (hn : n ≤ 1048576) (hf : ∀ p, p < n → f p = p) (hl : l.length = n) :
    Calls Tryz.prog 110 #[.slice (some ⟨g, 0, none⟩) n n, .func (.func fc) #[] cb] w (Row1 g n (fun f' => Srt l (tb n f')) w) := by
  have hs := stablefn_any l g n fc cb f w hO hc hn hf hl
  clear hO hc hf hl
  go_enter Tryz.func110, Tryz.ntmps110
  go_wp2_with fail
  refine hs.mono ?_
  rintro e w2 ⟨rfl, f2, hq, hO2, hC2⟩
  go_wp2
  go_returns
  exact ⟨rfl, f2, hq, hO2, hC2⟩
end Go.Proofs.YtckkjccjkdidjaaGreatDoor
