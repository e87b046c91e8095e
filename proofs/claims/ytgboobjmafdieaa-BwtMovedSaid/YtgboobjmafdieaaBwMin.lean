/-
  The contracts of slices.Min and Index over a row of ints, and of bwt.closed and ahead.
  Conditions: the row reads as it says.
-/
import Derived.Test.YtgboobjmafdieaaBwTurn
import Derived.Deep.DeepCutAuto
namespace Go.Proofs.Ytgboobjmafdieaa
open Go.RowKit Go.Oct Go.Su

/-- The least. -/
def Least (s : List Int) (w : World) (e : Ending) (w' : World) : Prop := ∃ v : Int, e = .returned (.int .i64 v) ∧ (∃ p, p < s.length ∧ gs s p = v) ∧ (∀ p, p < s.length → v ≤ gs s p) ∧ w = w'
/-- The first place that has it. -/
def IsIdx (s : List Int) (x : Int) (v : Int) : Prop := (∃ k : Nat, v = k ∧ k < s.length ∧ gs s k = x ∧ ∀ p, p < k → gs s p ≠ x) ∨ (v = -1 ∧ ∀ p, p < s.length → gs s p ≠ x)
def Idx (s : List Int) (x : Int) (w : World) (e : Ending) (w' : World) : Prop := ∃ v : Int, e = .returned (.int .i64 v) ∧ IsIdx s x v ∧ w = w'
section
variable {F : Nat → Prop}
theorem min_any (s : List Int) (A : Option Addr) (n c : Nat) (w : World) (hs : Sl w F .i64 A n s) (hn : n ≤ 1048576) (h0 : 0 < n) :
    Calls Try.prog 25 #[.slice A n c] w (Least s w) := by
  have HS := Bx.mk hs
  have HL := Bx.mk hs.len
  obtain ⟨b, off, x0, rfl, _, hx, hcx⟩ := hs.at_ h0
  have hg := gs_at hx.out
  have HG := Bx.mk hg
  have HST : Bx ((∃ p, p < n ∧ gs s p = x0) ∧ ∀ p, p < 1 → x0 ≤ gs s p) := ⟨⟨0, h0, hg⟩, fun p hp => by
    obtain rfl : p = 0 := by omega
    rw [hg]
    exact Int.le_refl _⟩
  rw [Nat.add_zero] at hcx
  have d1 : decide ((n : Int) < 1) = false := by simp; omega
  have i0 : (0 : Int) < (n : Int) := by omega
  clear hs hx hg
  go_enter Try.func25, Try.ntmps25
  go_wp2_with fail
  go_loop [3, 4] (fun m i => ∃ (k : Nat) (v : Int), 1 ≤ k ∧ k ≤ n ∧ i = .int .i64 k ∧ m = .int .i64 v ∧ Bx ((∃ p, p < n ∧ gs s p = v) ∧ ∀ p, p < k → v ≤ gs s p)) (fun _ i => n - (intOf i).toNat)
  case atStart => exact ⟨1, x0, Nat.le_refl _, h0, rfl, rfl, HST⟩
  case round =>
    obtain ⟨k, v, hk1, hk, rfl, rfl, hM⟩ := hrel
    by_cases hlt : k < n
    · have dk : decide ((k : Int) < (n : Int)) = true := by simp; omega
      obtain ⟨b', off', y, hA, _, hy, hcy⟩ := HS.out.at_ hlt
      injection hA with hA
      injection hA with e1 e2
      subst e1 e2
      have hgy := gs_at hy.out
      have HGY := Bx.mk hgy
      have i1 : (k : Int) < (n : Int) := by omega
      clear hy hgy
      by_cases hv : y < v
      · have HN : Bx ((∃ p, p < n ∧ gs s p = y) ∧ ∀ p, p < k + 1 → y ≤ gs s p) := ⟨⟨k, hlt, HGY.out⟩, fun p hp => by
          by_cases e : p = k
          · rw [e, HGY.out]
            exact Int.le_refl _
          · have := hM.out.2 p (by omega)
            omega⟩
        clear hM
        go_wp2
        go_round
        case rel => exact ⟨k + 1, y, by omega, by omega, by go_num, rfl, HN⟩
        case measure => simp [intOf]; omega
      · have HN : Bx ((∃ p, p < n ∧ gs s p = v) ∧ ∀ p, p < k + 1 → v ≤ gs s p) := ⟨hM.out.1, fun p hp => by
          by_cases e : p = k
          · rw [e, HGY.out]
            omega
          · exact hM.out.2 p (by omega)⟩
        clear hM
        go_wp2
        go_round
        case rel => exact ⟨k + 1, v, by omega, by omega, by go_num, rfl, HN⟩
        case measure => simp [intOf]; omega
    · have dk : decide ((k : Int) < (n : Int)) = false := by simp; omega
      have HN : Bx ((∃ p, p < s.length ∧ gs s p = v) ∧ ∀ p, p < s.length → v ≤ gs s p) := ⟨by
        rw [HL.out]
        exact ⟨hM.out.1, fun p hp => hM.out.2 p (by omega)⟩⟩
      clear hM
      go_wp2
      go_ret
      exact ⟨v, rfl, HN.out.1, HN.out.2, rfl⟩
theorem index_any (s : List Int) (A : Option Addr) (n c : Nat) (x : Int) (w : World) (hs : Sl w F .i64 A n s) (hn : n ≤ 1048576) :
    Calls Try.prog 26 #[.slice A n c, .int .i64 x] w (Idx s x w) := by
  have HS := Bx.mk hs
  have HL := Bx.mk hs.len
  clear hs
  go_enter Try.func26, Try.ntmps26
  go_wp2_with fail
  go_loop [5, 8] (fun _ i => ∃ k : Nat, k ≤ n ∧ i = .int .i64 k ∧ Bx (∀ p, p < k → gs s p ≠ x)) (fun _ i => n - (intOf i).toNat)
  case atStart => exact ⟨0, Nat.zero_le _, rfl, ⟨fun p hp => absurd hp (by omega)⟩⟩
  case round =>
    obtain ⟨k, hk, rfl, hM⟩ := hrel
    by_cases hlt : k < n
    · have dk : decide ((k : Int) < (n : Int)) = true := by simp; omega
      obtain ⟨b, off, y, rfl, _, hy, hcy⟩ := HS.out.at_ hlt
      have hgy := gs_at hy.out
      have HGY := Bx.mk hgy
      have i1 : (k : Int) < (n : Int) := by omega
      clear hy hgy
      by_cases hv : x = y
      · have HN : Bx (IsIdx s x (k : Int)) := ⟨.inl ⟨k, rfl, by rw [HL.out]; exact hlt, by rw [HGY.out]; exact hv.symm, hM.out⟩⟩
        have hb : (x == y) = true := by simpa using hv
        clear hM hv
        go_wp2
        go_ret
        exact ⟨_, rfl, HN.out, rfl⟩
      · have HN : Bx (∀ p, p < k + 1 → gs s p ≠ x) := ⟨fun p hp => by
          by_cases e : p = k
          · rw [e, HGY.out]
            exact fun e => hv e.symm
          · exact hM.out p (by omega)⟩
        have hb : (x == y) = false := by simpa using hv
        clear hM hv
        go_wp2
        go_round
        case rel => exact ⟨k + 1, by omega, by go_num, HN⟩
        case measure => simp [intOf]; omega
    · have dk : decide ((k : Int) < (n : Int)) = false := by simp; omega
      have HN : Bx (IsIdx s x (-1)) := ⟨.inr ⟨rfl, fun p hp => hM.out p (by rw [HL.out] at hp; omega)⟩⟩
      clear hM
      go_wp2
      go_ret
      exact ⟨_, rfl, HN.out, rfl⟩
theorem closed_iff {s : List Int} {n : Nat} {v i : Int} (hl : s.length = n) (h0 : 0 < n) (hv1 : ∃ p, p < s.length ∧ gs s p = v) (hv2 : ∀ p, p < s.length → v ≤ gs s p) (hi : IsIdx s 0 i) : Closed s ↔ (v = 0 ∧ i = (n : Int) - 1) := by
  constructor
  · intro hc
    have h1 := hv2 (s.length - 1) (by omega)
    rw [hc.last] at h1
    obtain ⟨p, hp, e⟩ := hv1
    have h2 := gs_pos hc.pos hp
    refine ⟨by omega, ?_⟩
    rcases hi with ⟨k, rfl, hk, hk0, _⟩ | ⟨_, h3⟩
    · rcases Nat.lt_or_ge k (s.length - 1) with h4 | h4
      · exact absurd hk0 (hc.only k h4)
      · omega
    · exact absurd hc.last (h3 _ (by omega))
  · rintro ⟨rfl, rfl⟩
    rcases hi with ⟨k, hk1, hk, hk0, hk2⟩ | ⟨h3, _⟩
    · refine ⟨fun x hx => ?_, by omega, by rw [show s.length - 1 = k by omega]; exact hk0, fun p hp => hk2 p (by omega)⟩
      obtain ⟨p, hp, e⟩ := List.getElem_of_mem hx
      have := hv2 p hp
      rwa [gs_at (by rw [List.getElem?_eq_getElem hp, e])] at this
    · omega
theorem closed_any (s : List Int) (A : Option Addr) (n c : Nat) (w : World) (hs : Sl w F .i64 A n s) (hn : n ≤ 1048576) :
    Calls Try.prog 17 #[.slice A n c] w (TellsClosed s w) := by
  have hl := hs.len
  have HL := Bx.mk hl
  by_cases h0 : n = 0
  · have d0 : decide ((0 : Int) < (n : Int)) = false := by simp; omega
    have d1 : decide (0 < n) = false := by simp; omega
    have HN : Bx (¬ Closed s) := ⟨fun hc => by have := hc.full; omega⟩
    clear hs h0 hl
    go_enter Try.func17, Try.ntmps17
    go_wp2
    go_ret
    exact ⟨false, rfl, ⟨fun h => (by cases h), fun h => absurd h HN.out⟩, rfl⟩
  · have d0 : decide ((0 : Int) < (n : Int)) = true := by simp; omega
    have d1 : decide (0 < n) = true := by simp; omega
    have H0 : Bx (0 < n) := ⟨by omega⟩
    have hmin := min_any s A n c w hs hn (by omega)
    have hidx := index_any s A n c 0 w hs hn
    have HIX := Bx.mk hidx
    clear hs h0 hidx hl
    go_enter Try.func17, Try.ntmps17
    go_wp2_with fail
    refine hmin.mono ?_
    rintro e w1 ⟨v, rfl, hv1, hv2, rfl⟩
    have HV := Bx.mk (And.intro hv1 hv2)
    clear hv1 hv2 hmin
    by_cases hv : v = 0
    · have hb : (v == 0) = true := by simpa using hv
      go_wp2_with fail
      refine HIX.out.mono ?_
      rintro e w2 ⟨i, rfl, hi, rfl⟩
      have HC := Bx.mk (closed_iff HL.out H0.out HV.out.1 HV.out.2 hi)
      obtain ⟨r, hr⟩ : ∃ r, (i == (n : Int) - 1) = r := ⟨_, rfl⟩
      have HR : Bx (r = true ↔ Closed s) := ⟨by
        rw [HC.out, ← hr]
        simp [hv]⟩
      clear hi hv
      go_wp2
      go_ret
      exact ⟨r, rfl, HR.out, rfl⟩
    · have hb : (v == 0) = false := by simpa using hv
      have HN : Bx (¬ Closed s) := ⟨fun hc => by
        have h1 := HV.out.2 (s.length - 1) (by have := hc.full; omega)
        rw [hc.last] at h1
        obtain ⟨p, hp, e⟩ := HV.out.1
        have := gs_pos hc.pos hp
        omega⟩
      clear hv
      go_wp2
      go_ret
      exact ⟨false, rfl, ⟨fun h => (by cases h), fun h => absurd h HN.out⟩, rfl⟩
theorem ahead_any (s : List Int) (A : Option Addr) (n c x : Nat) (w : World) (hs : Sl w F .i64 A n s) (hn : n ≤ 1048576) (hx : x < n) :
    Calls Try.prog 19 #[.slice A n c, .int .i64 x] w fun e w' => e = .returned (.int .i64 (gs s (prv n x))) ∧ w = w' := by
  obtain ⟨p, hp⟩ : ∃ p, prv n x = p := ⟨_, rfl⟩
  have hpn : p < n := by rw [← hp]; exact prv_lt (by omega) hx
  obtain ⟨b, off, rfl, _, hc⟩ := Sl.gsAt hs hpn
  rw [hp]
  generalize gs s p = v at *
  have i1 : (p : Int) < (n : Int) := by omega
  by_cases h0 : x = 0
  · subst h0
    have e1 : (n : Int) - 1 = (p : Int) := by unfold prv at hp; rw [if_pos rfl] at hp; omega
    clear hp hs
    go_enter Try.func19, Try.ntmps19
    go_wp2
    go_ret
    exact ⟨rfl, rfl⟩
  · have e1 : (x : Int) - 1 = (p : Int) := by unfold prv at hp; rw [if_neg h0] at hp; omega
    have hb : ((x : Int) == 0) = false := by simp; omega
    clear hp hs h0
    go_enter Try.func19, Try.ntmps19
    go_wp2
    go_ret
    exact ⟨rfl, rfl⟩
end
end Go.Proofs.Ytgboobjmafdieaa
