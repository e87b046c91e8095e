/-
  The walk of haystacklaw2.BitsFlips: true, whatever the row and the place. Condition: the library's table stands as start-up lays it.
-/
import Derived.Test.YtaglgmgpifmkdaaDoorBiSums
namespace Go.Proofs.YtaglgmgpifmkdaaDoor
open Go.RowKit Go.Oct Go.Bi

theorem count_flip (l : List Bool) (o : Bool) : (l.map not).count (!o) = l.count o := by
  induction l with
  | nil => rfl
  | cons c l ih => cases c <;> cases o <;> simp_all
theorem rk_flip (l : List Bool) (o : Bool) (i : Int) : rk (l.map not) (!o) i = rk l o i := by
  unfold rk
  rw [← List.map_take, count_flip]
theorem isSel_flip {l : List Bool} {o : Bool} {k : Int} {i : Nat} (h : IsSel l o k i) : IsSel (l.map not) (!o) k i := by
  obtain ⟨h1, h2⟩ := h
  exact ⟨by rw [List.getElem?_map, h1]; rfl, by rw [← List.map_take, count_flip]; exact h2⟩
theorem sel_flip (l : List Bool) (o : Bool) (k : Int) : sel (l.map not) (!o) k = sel l o k := by
  refine sel_eq ?_
  rcases sel_is l o k with ⟨i, h, hi⟩ | ⟨h, hk⟩
  · exact .inl ⟨i, h, isSel_flip hi⟩
  · exact .inr ⟨h, by rw [count_flip]; exact hk⟩
theorem bitAt_flip {l : List Bool} {i : Nat} (h : i < l.length) : bitAt (l.map not) i = !bitAt l i := by
  have h1 : l[i]? = some l[i] := List.getElem?_eq_getElem h
  rw [bitAt_in h1, bitAt_in (c := !l[i]) (by rw [List.getElem?_map, h1]; rfl)]

theorem len_val {F : Nat → Prop} (b : Nat) (l : List Bool) (r : Int) (w : World) (h : Vec w F b l) (hr : (l.length : Int) = r) :
    Calls Tryd.prog 19 #[.pointer (some ⟨b, 0, none⟩)] w fun e w' => e = .returned (.int .i64 r) ∧ w = w' := by
  subst hr
  exact len_any b l w h
set_option maxHeartbeats 2000000 in
theorem flips_law (l : List Bool) (A : Option Addr) (n c : Nat) (i : Int) (w : World) (F : Nat → Prop) (ht : Tab w) (hs : Sb w F A n l) (hc : n ≤ c) (hcm : c ≤ maxLen) :
    Calls Tryd.prog 9 #[.slice A n c, .int .i64 i] w fun e w' => e = .returned (.bool true) ∧ Ch (fun _ => False) w w' := by
  unfold maxLen at hcm
  by_cases hn : 2000 < n
  · go_enter Tryd.func9, Tryd.ntmps9
    go_wp2
    go_ret
    exact ⟨rfl, Ch.refl _ _⟩
  · have hl := Sb.len hs
    have hn2 : n ≤ 2000 := by omega
    have hcmm : c ≤ 9223372036854775807 := by omega
    have hcnt : l.count true + (l.map not).count true = n := by
      have h1 := count_both l
      have h2 := count_flip l false
      rw [Bool.not_false] at h2
      omega
    obtain ⟨q1, hq1e⟩ : ∃ q1, l.count true = q1 := ⟨_, rfl⟩
    obtain ⟨q2, hq2e⟩ : ∃ q2, (l.map not).count true = q2 := ⟨_, rfl⟩
    rw [hq1e, hq2e] at hcnt
    have hq1 : q1 ≤ 2000 := by omega
    have hq2 : q2 ≤ 2000 := by omega
    have C1 : Bx (((l.count true : Nat) : Int) = q1) := ⟨by rw [hq1e]⟩
    have C2 : Bx ((((l.map not).count true : Nat) : Int) = q2) := ⟨by rw [hq2e]⟩
    have hr1 := rk_flip l true i
    have hr0 := rk_flip l false i
    have hs1 := sel_flip l true i
    have hs0 := sel_flip l false i
    rw [Bool.not_true] at hr1 hs1
    rw [Bool.not_false] at hr0 hs0
    obtain ⟨a1, ha1⟩ : ∃ a1, rk l true i = a1 := ⟨_, rfl⟩
    obtain ⟨a0, ha0⟩ : ∃ a0, rk l false i = a0 := ⟨_, rfl⟩
    obtain ⟨s1, hs1'⟩ : ∃ s1, sel l true i = s1 := ⟨_, rfl⟩
    obtain ⟨s0, hs0'⟩ : ∃ s0, sel l false i = s0 := ⟨_, rfl⟩
    rw [ha1] at hr1
    rw [ha0] at hr0
    rw [hs1'] at hs1
    rw [hs0'] at hs0
    have ht1 : ((q1 : Int) + (q2 : Int) != (n : Int)) = false := by rw [bne_eq_false_iff_eq]; omega
    have HT := Bx.mk ht
    have HS := Bx.mk hs
    have R1 : Bx (((rk l true i : Nat) : Int) = (a1 : Nat)) := ⟨by rw [ha1]⟩
    have R0 : Bx (((rk l false i : Nat) : Int) = (a0 : Nat)) := ⟨by rw [ha0]⟩
    have Q1 : Bx (((rk (l.map not) false i : Nat) : Int) = (a1 : Nat)) := ⟨by rw [hr1]⟩
    have Q0 : Bx (((rk (l.map not) true i : Nat) : Int) = (a0 : Nat)) := ⟨by rw [hr0]⟩
    have S1 := Bx.mk hs1'
    have S0 := Bx.mk hs0'
    have U1 := Bx.mk hs1
    have U0 := Bx.mk hs0
    have HL : Bx (((l.map not).length : Int) = n) := ⟨by rw [List.length_map, hl]⟩
    have hIn : i < 0 ∨ (n : Int) ≤ i ∨ (0 ≤ i ∧ i < n ∧ bitAt (l.map not) i = !bitAt l i) := by
      by_cases h1 : i < 0
      · exact .inl h1
      · by_cases h2 : (n : Int) ≤ i
        · exact .inr (.inl h2)
        · refine .inr (.inr ⟨by omega, by omega, ?_⟩)
          obtain ⟨j, rfl⟩ : ∃ j : Nat, i = j := ⟨i.toNat, by omega⟩
          exact bitAt_flip (by omega)
    clear ht hs hl hr1 hr0 hs1 hs0 ha1 ha0 hs1' hs0' hcnt hn hq1e hq2e
    go_enter Tryd.func9, Tryd.ntmps9
    go_wp2_with fail
    refine (of_any l _ n c _ F HS.out (by omega) hc hcmm).mono ?_
    rintro e w1 ⟨bv, rfl, hv, hC⟩
    have HV := Bx.mk hv
    have HC := Bx.mk hC
    clear hv hC
    go_wp2_with fail
    refine (flip_any bv l _ _ HV.out).mono ?_
    rintro e w2 ⟨bw, rfl, hv2, hC2⟩
    have HW2 := Bx.mk hv2
    have HV2 := Bx.mk (HV.out.keep hC2)
    have HC2 := Bx.mk (HC.out.trans hC2 (fun _ _ h => h))
    clear hv2 hC2
    go_wp2_with fail
    refine (len_val bw (l.map not) n _ HW2.out HL.out).mono ?_
    rintro e w' ⟨rfl, rfl⟩
    go_wp2_with fail
    refine (ones_val bv l q1 _ HV2.out C1.out).mono ?_
    rintro e w' ⟨rfl, rfl⟩
    go_wp2_with fail
    refine (ones_val bw (l.map not) q2 _ HW2.out C2.out).mono ?_
    rintro e w' ⟨rfl, rfl⟩
    go_wp2_with fail
    refine (rank_val bv l true i a1 _ HV2.out R1.out).mono ?_
    rintro e w' ⟨rfl, rfl⟩
    go_wp2_with fail
    refine (rank_val bw (l.map not) false i a1 _ HW2.out Q1.out).mono ?_
    rintro e w' ⟨rfl, rfl⟩
    go_wp2_with fail
    refine (rank_val bv l false i a0 _ HV2.out R0.out).mono ?_
    rintro e w' ⟨rfl, rfl⟩
    go_wp2_with fail
    refine (rank_val bw (l.map not) true i a0 _ HW2.out Q0.out).mono ?_
    rintro e w' ⟨rfl, rfl⟩
    go_wp2_with fail
    refine (select_val bv l true i s1 _ HV2.out (HT.out.keep HC2.out) S1.out).mono ?_
    rintro e w3 ⟨rfl, hC3⟩
    have HV3 := Bx.mk (HV2.out.keep hC3)
    have HW3 := Bx.mk (HW2.out.keep hC3)
    have HC3 := Bx.mk (HC2.out.trans hC3 (fun _ _ h => h))
    clear hC3
    go_wp2_with fail
    refine (select_val bw (l.map not) false i s1 _ HW3.out (HT.out.keep HC3.out) U1.out).mono ?_
    rintro e w4 ⟨rfl, hC4⟩
    have HV4 := Bx.mk (HV3.out.keep hC4)
    have HW4 := Bx.mk (HW3.out.keep hC4)
    have HC4 := Bx.mk (HC3.out.trans hC4 (fun _ _ h => h))
    clear hC4
    go_wp2_with fail
    refine (select_val bv l false i s0 _ HV4.out (HT.out.keep HC4.out) S0.out).mono ?_
    rintro e w5 ⟨rfl, hC5⟩
    have HV5 := Bx.mk (HV4.out.keep hC5)
    have HW5 := Bx.mk (HW4.out.keep hC5)
    have HC5 := Bx.mk (HC4.out.trans hC5 (fun _ _ h => h))
    clear hC5
    go_wp2_with fail
    refine (select_val bw (l.map not) true i s0 _ HW5.out (HT.out.keep HC5.out) U0.out).mono ?_
    rintro e w6 ⟨rfl, hC6⟩
    have HV6 := Bx.mk (HV5.out.keep hC6)
    have HW6 := Bx.mk (HW5.out.keep hC6)
    have HC6 := Bx.mk (HC5.out.trans hC6 (fun _ _ h => h))
    clear hC6
    rcases hIn with h | h | ⟨h1, h2, h3⟩
    · go_wp2_with fail
      refine (known_any _ (HT.out.keep HC6.out)).mono ?_
      rintro e w7 ⟨rfl, hC7⟩
      go_wp2
      go_ret
      exact ⟨rfl, HC6.out.trans hC7 (fun _ _ h => h)⟩
    · have h0 : 0 ≤ i := by omega
      go_wp2_with fail
      refine (known_any _ (HT.out.keep HC6.out)).mono ?_
      rintro e w7 ⟨rfl, hC7⟩
      go_wp2
      go_ret
      exact ⟨rfl, HC6.out.trans hC7 (fun _ _ h => h)⟩
    · cases hy : bitAt l i
      all_goals
        rw [hy] at h3
        have HY := Bx.mk hy
        have HZ := Bx.mk h3
        clear hy h3
        go_wp2_with fail
        refine (get_val bv l i _ _ HV6.out HY.out).mono ?_
        rintro e w' ⟨rfl, rfl⟩
        go_wp2_with fail
        refine (get_val bw (l.map not) i _ _ HW6.out HZ.out).mono ?_
        rintro e w' ⟨rfl, rfl⟩
        go_wp2_with fail
        refine (known_any _ (HT.out.keep HC6.out)).mono ?_
        rintro e w7 ⟨rfl, hC7⟩
        go_wp2
        go_ret
        exact ⟨rfl, HC6.out.trans hC7 (fun _ _ h => h)⟩
end Go.Proofs.YtaglgmgpifmkdaaDoor
