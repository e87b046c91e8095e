/-
  The walk of haystacklaw3.PackedOne: true, whatever the row, the place and the number. Conditions: none.
-/
import Derived.Test.YtknmhhccemojiaaPkAlike
namespace Go.Proofs.Ytknmhhccemojiaa
open Go.RowKit Go.Oct Go.Pk

theorem Sn.low {w : World} {F : Nat → Prop} {A : Option Addr} {xs : List Nat} (h : Sn w F A xs) : Sn w (fun b => b < w.heap.size) A xs := Sl.mono h fun _ hb _ => hb
theorem gt_set {l : List Nat} {i k x : Nat} (hi : i < l.length) : gt (l.set i x) (k : Int) = if i = k then x else l.getD k 0 := by
  rw [gt_nat, getD_set]
  by_cases h : i = k
  · rw [if_pos ⟨h, hi⟩, if_pos h]
  · rw [if_neg (fun h2 => h h2.1), if_neg h]
set_option maxHeartbeats 4000000 in
theorem one_in (l : List Nat) (A : Option Addr) (c i x : Nat) (w : World) (F : Nat → Prop) (hs : Sn w F A l) (hl : l.length ≤ 300) (hc : l.length ≤ c) (h64 : ∀ x ∈ l, x < 18446744073709551616) (hi : i < l.length) (hx : x < 18446744073709551616) :
    Calls Try.prog 8 #[.slice A l.length c, .int .i64 i, .int .u64 x] w fun e w' => e = .returned (.bool true) ∧ Ch (fun _ => False) w w' := by
  obtain ⟨n, hn⟩ : ∃ n, l.length = n := ⟨_, rfl⟩
  obtain ⟨wd, hwd⟩ : ∃ wd, widN l = wd := ⟨_, rfl⟩
  have hwid := wid_is h64
  rw [hwd] at hwid
  have hlo := hwid.lo
  have hhi := hwid.hi
  have HS := Bx.mk hs.low
  have H64 := Bx.mk h64
  have HN := Bx.mk hn
  have HWD := Bx.mk hwd
  rw [hn] at hl hc hi ⊢
  clear hs h64 hn hwd hwid
  go_enter Try.func8, Try.ntmps8
  go_wp2_with fail
  refine (pack_is l n wd A c _ _ HS.out HN.out HWD.out (by omega) hc H64.out).mono ?_
  rintro e w1 ⟨bv, bw, ws, rfl, hbw, hbv, hr, hp, hC⟩
  have HR := Bx.mk hr
  have HP := Bx.mk hp
  have HC := Bx.mk hC
  clear hr hp hC
  go_wp2_with fail
  refine (width_any _ _ _ _ _ _ HR.out).mono ?_
  rintro e w' ⟨rfl, rfl⟩
  go_wp2_with fail
  by_cases hf : x < 2 ^ wd
  · refine (set_in _ _ wd n ws l i x _ HR.out HP.out HN.out hi hf).mono ?_
    rintro e w2 ⟨rfl, ⟨ws2, hr2, hp2⟩, hC2⟩
    have HR2 := Bx.mk hr2
    have HP2 := Bx.mk hp2
    have HC2 := Bx.mk (HC.out.trans hC2 (fun i hi (e : i = bw) => absurd hi (by omega)))
    have HS2 := Bx.mk (HS.out.keep HC2.out)
    have HL2 : Bx ((l.set i x).length = n) := ⟨by rw [set_len]; exact HN.out⟩
    have HG : Bx (∀ k : Nat, gt (l.set i x) (k : Int) = if i = k then x else l.getD k 0) := ⟨fun k => gt_set (by rw [HN.out]; exact hi)⟩
    clear hr2 hp2 hC2
    have hz : wd = 64 ∨ (wd < 64 ∧ x / 2 ^ wd = 0) := by
      by_cases h1 : wd = 64
      · exact .inl h1
      · exact .inr ⟨by omega, gt_pow.2 hf⟩
    clear hf
    rcases hz with h1 | ⟨h1, hz⟩
    case' inl => have h2 : ((wd : Int) == 64) = true := by simpa using (by omega : (wd : Int) = 64)
    case' inr =>
      have h2 : ((wd : Int) == 64) = false := by simpa using (by omega : ¬ (wd : Int) = 64)
      have h3 : (x : Int) / 2 ^ wd = 0 := by rw [← div_cast, hz]; rfl
    all_goals
      go_wp2
      go_loop [11, 12] (fun a _ => ∃ k : Nat, k ≤ n ∧ a = .int .i64 k) (fun a _ => n - (intOf a).toNat)
      case atStart => exact ⟨0, Nat.zero_le _, rfl⟩
      case round =>
        obtain ⟨k, hk, rfl⟩ := hrel
        by_cases hlt : k < n
        · obtain ⟨b, off, rfl, _, hcx⟩ := HS2.out.at_ (k := k) (by rw [HN.out]; exact hlt)
          have hg := HG.out k
          generalize l.getD k 0 = y at *
          by_cases hki : i = k
          · subst hki
            rw [if_pos rfl] at hg
            have HGK := Bx.mk hg
            have hb : ((x : Int) != (x : Int)) = false := by simp
            have hb2 : ((i : Int) == (i : Int)) = true := by simp
            clear hg
            go_wp2_with fail
            refine (get_val _ _ wd n ws2 (l.set i x) _ x _ HR2.out HP2.out HL2.out HGK.out).mono ?_
            rintro e w' ⟨rfl, rfl⟩
            go_wp2
            go_round
            case rel => exact ⟨i + 1, by omega, by go_num⟩
            case measure => simp [intOf]; omega
          · rw [if_neg hki] at hg
            have HGK := Bx.mk hg
            have hb : ((y : Int) != (y : Int)) = false := by simp
            have hb2 : ((k : Int) == (i : Int)) = false := by simpa using (by omega : ¬ (k : Int) = (i : Int))
            clear hg
            go_wp2_with fail
            refine (get_val _ _ wd n ws2 (l.set i x) _ y _ HR2.out HP2.out HL2.out HGK.out).mono ?_
            rintro e w' ⟨rfl, rfl⟩
            go_wp2
            go_round
            case rel => exact ⟨k + 1, by omega, by go_num⟩
            case measure => simp [intOf]; omega
        · obtain rfl : k = n := by omega
          go_wp2_with fail
          refine (width_any _ _ _ _ _ _ HR2.out).mono ?_
          rintro e w' ⟨rfl, rfl⟩
          go_wp2_with fail
          refine (len_any _ _ _ _ _ _ HR2.out).mono ?_
          rintro e w' ⟨rfl, rfl⟩
          go_wp2_with fail
          refine (known_any _).mono ?_
          rintro e w3 ⟨rfl, hC3⟩
          go_wp2
          go_ret
          exact ⟨rfl, HC2.out.trans hC3 (fun _ _ h => h)⟩
  · refine (set_big _ _ wd n ws i x _ HR.out hi (by omega)).mono ?_
    rintro e w' ⟨rfl, rfl⟩
    have HS2 := Bx.mk (HS.out.keep HC.out)
    have h1 : wd < 64 := by
      rcases Nat.lt_or_ge wd 64 with h1 | h1
      · exact h1
      · have := pow_le_pow h1
        omega
    have h2 : ((wd : Int) == 64) = false := by simpa using (by omega : ¬ (wd : Int) = 64)
    obtain ⟨y, hy⟩ : ∃ y, x / 2 ^ wd = y := ⟨_, rfl⟩
    have hy0 : y ≠ 0 := fun h0 => hf (gt_pow.1 (hy.trans h0))
    have h3 : (x : Int) / 2 ^ wd = (y : Int) := by rw [← hy, div_cast]
    have h4 : ((y : Int) == 0) = false := by simpa using hy0
    clear hf hy hy0
    go_wp2
    go_loop [11, 12] (fun a _ => ∃ k : Nat, k ≤ n ∧ a = .int .i64 k) (fun a _ => n - (intOf a).toNat)
    case atStart => exact ⟨0, Nat.zero_le _, rfl⟩
    case round =>
      obtain ⟨k, hk, rfl⟩ := hrel
      by_cases hlt : k < n
      · obtain ⟨b, off, rfl, _, hcx⟩ := HS2.out.at_ (k := k) (by rw [HN.out]; exact hlt)
        have hg := gt_nat l k
        generalize l.getD k 0 = y at *
        have HGK := Bx.mk hg
        have hb : ((y : Int) != (y : Int)) = false := by simp
        clear hg
        by_cases hki : i = k
        · subst hki
          have hb2 : ((i : Int) == (i : Int)) = true := by simp
          go_wp2_with fail
          refine (get_val _ _ wd n ws l _ y _ HR.out HP.out HN.out HGK.out).mono ?_
          rintro e w' ⟨rfl, rfl⟩
          go_wp2
          go_round
          case rel => exact ⟨i + 1, by omega, by go_num⟩
          case measure => simp [intOf]; omega
        · have hb2 : ((k : Int) == (i : Int)) = false := by simpa using (by omega : ¬ (k : Int) = (i : Int))
          go_wp2_with fail
          refine (get_val _ _ wd n ws l _ y _ HR.out HP.out HN.out HGK.out).mono ?_
          rintro e w' ⟨rfl, rfl⟩
          go_wp2
          go_round
          case rel => exact ⟨k + 1, by omega, by go_num⟩
          case measure => simp [intOf]; omega
      · obtain rfl : k = n := by omega
        go_wp2_with fail
        refine (width_any _ _ _ _ _ _ HR.out).mono ?_
        rintro e w' ⟨rfl, rfl⟩
        go_wp2_with fail
        refine (len_any _ _ _ _ _ _ HR.out).mono ?_
        rintro e w' ⟨rfl, rfl⟩
        go_wp2_with fail
        refine (known_any _).mono ?_
        rintro e w3 ⟨rfl, hC3⟩
        go_wp2
        go_ret
        exact ⟨rfl, HC.out.trans hC3 (fun _ _ h => h)⟩

theorem one_law (l : List Nat) (A : Option Addr) (c : Nat) (i : Int) (x : Nat) (w : World) (F : Nat → Prop) (hs : Sn w F A l) (hc : l.length ≤ c) (h64 : ∀ x ∈ l, x < 18446744073709551616) (hx : x < 18446744073709551616) :
    Calls Try.prog 8 #[.slice A l.length c, .int .i64 i, .int .u64 x] w fun e w' => e = .returned (.bool true) ∧ Ch (fun _ => False) w w' := by
  by_cases h1 : 300 < l.length
  · clear hs h64
    go_enter Try.func8, Try.ntmps8
    go_wp2
    go_ret
    exact ⟨rfl, Ch.refl _ _⟩
  · by_cases h2 : i < 0
    · clear hs h64
      go_enter Try.func8, Try.ntmps8
      go_wp2
      go_ret
      exact ⟨rfl, Ch.refl _ _⟩
    · by_cases h3 : (l.length : Int) ≤ i
      · clear hs h64
        go_enter Try.func8, Try.ntmps8
        go_wp2
        go_ret
        exact ⟨rfl, Ch.refl _ _⟩
      · obtain ⟨k, rfl⟩ : ∃ k : Nat, i = k := ⟨i.toNat, by omega⟩
        exact one_in l A c k x w F hs (by omega) hc h64 (by omega) hx
end Go.Proofs.Ytknmhhccemojiaa
