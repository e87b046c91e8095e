/-
  The contract of haystacklaw2.alike: a Vector that is a row, and that row: true.
-/
import Derived.Test.YtaglgmgpifmkdaaDoorBiRefs
import Derived.Test.YtaglgmgpifmkdaaDoorBiFlips
namespace Go.Proofs.YtaglgmgpifmkdaaDoor
open Go.RowKit Go.Oct Go.Bi

theorem refrank_val {F : Nat → Prop} (l : List Bool) (A : Option Addr) (n c : Nat) (o : Bool) (i r : Int) (w : World) (hs : Sb w F A n l) (hn : n ≤ 9223372036854775807) (hr : ((rk l o i : Nat) : Int) = r) :
    Calls Tryd.prog 24 #[.slice A n c, .bool o, .int .i64 i] w fun e w' => e = .returned (.int .i64 r) ∧ w = w' := by
  subst hr
  exact ref_rank l A n c o i w F hs hn
theorem refselect_val {F : Nat → Prop} (l : List Bool) (A : Option Addr) (n c : Nat) (o : Bool) (k r : Int) (w : World) (hs : Sb w F A n l) (hn : n ≤ 1048576) (hk1 : -9223372036854775808 ≤ k) (hk2 : k ≤ 9223372036854775807) (hr : sel l o k = r) :
    Calls Tryd.prog 25 #[.slice A n c, .bool o, .int .i64 k] w fun e w' => e = .returned (.int .i64 r) ∧ w = w' := by
  subst hr
  exact ref_select l A n c o k w F hs hn hk1 hk2

/-- Numbers of a word. -/
def Wfs (xs : List Int) : Prop := ∀ x ∈ xs, -9223372036854775808 ≤ x ∧ x ≤ 9223372036854775807
theorem Wfs.at_ {xs : List Int} (h : Wfs xs) {k : Nat} {x : Int} (hx : xs[k]? = some x) : -9223372036854775808 ≤ x ∧ x ≤ 9223372036854775807 := h x (List.mem_of_getElem? hx)

set_option maxHeartbeats 4000000 in
theorem alike_any (b : Nat) (l : List Bool) (xs : List Int) (A A' : Option Addr) (n c m c' : Nat) (w : World) (F G H : Nat → Prop) (hv : Vec w F b l) (ht : Tab w) (hs : Sb w G A n l) (hn : n ≤ 1048576) (hx : Sl w H .i64 A' m xs) (hm : m ≤ 9223372036854775807) (hwf : Wfs xs) :
    Calls Tryd.prog 11 #[.pointer (some ⟨b, 0, none⟩), .slice A n c, .slice A' m c'] w fun e w' => e = .returned (.bool true) ∧ Ch (fun _ => False) w w' := by
  have hl := Sb.len hs
  have HV := Bx.mk hv
  have HT := Bx.mk ht
  have HS := Bx.mk hs
  have HX := Bx.mk hx
  have HW := Bx.mk hwf
  have LN : Bx ((l.length : Int) = n) := ⟨by rw [hl]⟩
  obtain ⟨q, hq⟩ : ∃ q, l.count true = q := ⟨_, rfl⟩
  have CN : Bx (((l.count true : Nat) : Int) = q) := ⟨by rw [hq]⟩
  have RN : Bx (((rk l true (n : Nat) : Nat) : Int) = q) := ⟨by rw [rk_all (by omega), hq]⟩
  have LL := Bx.mk hl
  have hq0 : ((q : Int) != (q : Int)) = false := by simp
  clear hv ht hs hx hwf hl hq
  go_enter Tryd.func11, Tryd.ntmps11
  go_wp2_with fail
  refine (len_val b l n _ HV.out LN.out).mono ?_
  rintro e w' ⟨rfl, rfl⟩
  go_wp2_with fail
  refine (ones_val b l q _ HV.out CN.out).mono ?_
  rintro e w' ⟨rfl, rfl⟩
  go_wp2_with fail
  refine (refrank_val l A n c true n q _ HS.out (by omega) RN.out).mono ?_
  rintro e w' ⟨rfl, rfl⟩
  go_wp2_with fail
  go_loopw [7, 8] (fun i _ wr => ∃ j : Nat, j ≤ m ∧ i = .int .i64 j ∧ Ch (fun _ => False) w wr) (fun i _ _ => m - (intOf i).toNat)
  case atStart => exact ⟨0, Nat.zero_le _, rfl, Ch.refl _ _⟩
  case round =>
    obtain ⟨j, hj, rfl, hC⟩ := hrel
    by_cases hlt : j < m
    · obtain ⟨wo, rfl⟩ : ∃ wo : World, wo = wr := ⟨_, rfl⟩
      obtain ⟨b', off', k, rfl, _, ex, hck⟩ := (Sl.ch HX.out hC (fun _ _ _ h => h)).at_ hlt
      obtain ⟨hk1, hk2⟩ := HW.out.at_ ex.out
      obtain ⟨r1, hr1⟩ : ∃ r, rk l true k = r := ⟨_, rfl⟩
      obtain ⟨r0, hr0⟩ : ∃ r, rk l false k = r := ⟨_, rfl⟩
      obtain ⟨s1, hs1⟩ : ∃ r, sel l true k = r := ⟨_, rfl⟩
      obtain ⟨s0, hs0⟩ : ∃ r, sel l false k = r := ⟨_, rfl⟩
      have R1 : Bx (((rk l true k : Nat) : Int) = r1) := ⟨by rw [hr1]⟩
      have R0 : Bx (((rk l false k : Nat) : Int) = r0) := ⟨by rw [hr0]⟩
      have S1 := Bx.mk hs1
      have S0 := Bx.mk hs0
      have hb1 : ((r1 : Int) != (r1 : Int)) = false := by simp
      have hb0 : ((r0 : Int) != (r0 : Int)) = false := by simp
      have hd1 : (s1 != s1) = false := by simp
      have hd0 : (s0 != s0) = false := by simp
      have HC := Bx.mk hC
      have HVo := Bx.mk (HV.out.keep hC)
      have HSo : Bx (Sb wo G A n l) := ⟨Vs.ch HS.out hC (fun _ _ _ h => h)⟩
      have HTo := Bx.mk (HT.out.keep hC)
      have hcase : (k < 0 ∧ bitAt l k = false) ∨ (0 ≤ k ∧ (n : Int) ≤ k ∧ bitAt l k = false) ∨ (0 ≤ k ∧ k < n ∧ ∃ (bb oo i : Nat) (y : Bool), k = i ∧ A = some ⟨bb, oo, none⟩ ∧ wo.cell? ⟨bb, oo + i, none⟩ = some (.bool y) ∧ bitAt l k = y) := by
        by_cases h1 : k < 0
        · exact .inl ⟨h1, bitAt_out (.inl h1)⟩
        · by_cases h2 : (n : Int) ≤ k
          · exact .inr (.inl ⟨by omega, h2, bitAt_out (.inr (by rw [LL.out]; exact h2))⟩)
          · obtain ⟨i, rfl⟩ : ∃ i : Nat, k = i := ⟨k.toNat, by omega⟩
            obtain ⟨bb, oo, hA, _, hc⟩ := HSo.out.at_ (show i < n by omega)
            exact .inr (.inr ⟨by omega, by omega, bb, oo, i, _, rfl, hA, hc, bitAt_in (getD_some (by rw [LL.out]; omega))⟩)
      clear hr1 hr0 hs1 hs0 hC
      rcases hcase with ⟨g1, g2⟩ | ⟨g1, g2, g3⟩ | ⟨g1, g2, bb, oo, i, y, rfl, rfl, g3, g4⟩
      · have GB := Bx.mk g2
        clear g2
        go_wp2_with fail
        refine (get_val b l k false _ HVo.out GB.out).mono ?_
        rintro e w' ⟨rfl, rfl⟩
        go_wp2_with fail
        refine (rank_val b l true k r1 _ HVo.out R1.out).mono ?_
        rintro e w' ⟨rfl, rfl⟩
        go_wp2_with fail
        refine (refrank_val l _ n c true k r1 _ HSo.out (by omega) R1.out).mono ?_
        rintro e w' ⟨rfl, rfl⟩
        go_wp2_with fail
        refine (rank_val b l false k r0 _ HVo.out R0.out).mono ?_
        rintro e w' ⟨rfl, rfl⟩
        go_wp2_with fail
        refine (refrank_val l _ n c false k r0 _ HSo.out (by omega) R0.out).mono ?_
        rintro e w' ⟨rfl, rfl⟩
        go_wp2_with fail
        refine (select_val b l true k s1 _ HVo.out HTo.out S1.out).mono ?_
        rintro e w1 ⟨rfl, hC1⟩
        have HV1 := Bx.mk (HVo.out.keep hC1)
        have HS1 : Bx (Sb w1 G _ n l) := ⟨Vs.ch HSo.out hC1 (fun _ _ _ h => h)⟩
        have HT1 := Bx.mk (HTo.out.keep hC1)
        have HC1 := Bx.mk (HC.out.trans hC1 (fun _ _ h => h))
        clear hC1
        go_wp2_with fail
        refine (refselect_val l _ n c true k s1 _ HS1.out hn hk1 hk2 S1.out).mono ?_
        rintro e w' ⟨rfl, rfl⟩
        go_wp2_with fail
        refine (select_val b l false k s0 _ HV1.out HT1.out S0.out).mono ?_
        rintro e w2 ⟨rfl, hC2⟩
        have HV2 := Bx.mk (HV1.out.keep hC2)
        have HS2 : Bx (Sb w2 G _ n l) := ⟨Vs.ch HS1.out hC2 (fun _ _ _ h => h)⟩
        have HT2 := Bx.mk (HT1.out.keep hC2)
        have HC2 := Bx.mk (HC1.out.trans hC2 (fun _ _ h => h))
        clear hC2
        go_wp2_with fail
        refine (refselect_val l _ n c false k s0 _ HS2.out hn hk1 hk2 S0.out).mono ?_
        rintro e w' ⟨rfl, rfl⟩
        go_wp2
        go_roundw
        case rel => exact ⟨j + 1, by omega, by go_num, HC2.out⟩
        case measure => simp [intOf]; omega
      · have GB := Bx.mk g3
        clear g3
        go_wp2_with fail
        refine (get_val b l k false _ HVo.out GB.out).mono ?_
        rintro e w' ⟨rfl, rfl⟩
        go_wp2_with fail
        refine (rank_val b l true k r1 _ HVo.out R1.out).mono ?_
        rintro e w' ⟨rfl, rfl⟩
        go_wp2_with fail
        refine (refrank_val l _ n c true k r1 _ HSo.out (by omega) R1.out).mono ?_
        rintro e w' ⟨rfl, rfl⟩
        go_wp2_with fail
        refine (rank_val b l false k r0 _ HVo.out R0.out).mono ?_
        rintro e w' ⟨rfl, rfl⟩
        go_wp2_with fail
        refine (refrank_val l _ n c false k r0 _ HSo.out (by omega) R0.out).mono ?_
        rintro e w' ⟨rfl, rfl⟩
        go_wp2_with fail
        refine (select_val b l true k s1 _ HVo.out HTo.out S1.out).mono ?_
        rintro e w1 ⟨rfl, hC1⟩
        have HV1 := Bx.mk (HVo.out.keep hC1)
        have HS1 : Bx (Sb w1 G _ n l) := ⟨Vs.ch HSo.out hC1 (fun _ _ _ h => h)⟩
        have HT1 := Bx.mk (HTo.out.keep hC1)
        have HC1 := Bx.mk (HC.out.trans hC1 (fun _ _ h => h))
        clear hC1
        go_wp2_with fail
        refine (refselect_val l _ n c true k s1 _ HS1.out hn hk1 hk2 S1.out).mono ?_
        rintro e w' ⟨rfl, rfl⟩
        go_wp2_with fail
        refine (select_val b l false k s0 _ HV1.out HT1.out S0.out).mono ?_
        rintro e w2 ⟨rfl, hC2⟩
        have HV2 := Bx.mk (HV1.out.keep hC2)
        have HS2 : Bx (Sb w2 G _ n l) := ⟨Vs.ch HS1.out hC2 (fun _ _ _ h => h)⟩
        have HT2 := Bx.mk (HT1.out.keep hC2)
        have HC2 := Bx.mk (HC1.out.trans hC2 (fun _ _ h => h))
        clear hC2
        go_wp2_with fail
        refine (refselect_val l _ n c false k s0 _ HS2.out hn hk1 hk2 S0.out).mono ?_
        rintro e w' ⟨rfl, rfl⟩
        go_wp2
        go_roundw
        case rel => exact ⟨j + 1, by omega, by go_num, HC2.out⟩
        case measure => simp [intOf]; omega
      · have GB := Bx.mk g4
        have hyy : (y != y) = false := by simp
        clear g4
        go_wp2_with fail
        refine (get_val b l i y _ HVo.out GB.out).mono ?_
        rintro e w' ⟨rfl, rfl⟩
        go_wp2_with fail
        refine (rank_val b l true i r1 _ HVo.out R1.out).mono ?_
        rintro e w' ⟨rfl, rfl⟩
        go_wp2_with fail
        refine (refrank_val l _ n c true i r1 _ HSo.out (by omega) R1.out).mono ?_
        rintro e w' ⟨rfl, rfl⟩
        go_wp2_with fail
        refine (rank_val b l false i r0 _ HVo.out R0.out).mono ?_
        rintro e w' ⟨rfl, rfl⟩
        go_wp2_with fail
        refine (refrank_val l _ n c false i r0 _ HSo.out (by omega) R0.out).mono ?_
        rintro e w' ⟨rfl, rfl⟩
        go_wp2_with fail
        refine (select_val b l true i s1 _ HVo.out HTo.out S1.out).mono ?_
        rintro e w1 ⟨rfl, hC1⟩
        have HV1 := Bx.mk (HVo.out.keep hC1)
        have HS1 : Bx (Sb w1 G _ n l) := ⟨Vs.ch HSo.out hC1 (fun _ _ _ h => h)⟩
        have HT1 := Bx.mk (HTo.out.keep hC1)
        have HC1 := Bx.mk (HC.out.trans hC1 (fun _ _ h => h))
        clear hC1
        go_wp2_with fail
        refine (refselect_val l _ n c true i s1 _ HS1.out hn hk1 hk2 S1.out).mono ?_
        rintro e w' ⟨rfl, rfl⟩
        go_wp2_with fail
        refine (select_val b l false i s0 _ HV1.out HT1.out S0.out).mono ?_
        rintro e w2 ⟨rfl, hC2⟩
        have HV2 := Bx.mk (HV1.out.keep hC2)
        have HS2 : Bx (Sb w2 G _ n l) := ⟨Vs.ch HS1.out hC2 (fun _ _ _ h => h)⟩
        have HT2 := Bx.mk (HT1.out.keep hC2)
        have HC2 := Bx.mk (HC1.out.trans hC2 (fun _ _ h => h))
        clear hC2
        go_wp2_with fail
        refine (refselect_val l _ n c false i s0 _ HS2.out hn hk1 hk2 S0.out).mono ?_
        rintro e w' ⟨rfl, rfl⟩
        go_wp2
        go_roundw
        case rel => exact ⟨j + 1, by omega, by go_num, HC2.out⟩
        case measure => simp [intOf]; omega
    · go_wp2
      go_ret
      exact ⟨rfl, hC⟩
end Go.Proofs.YtaglgmgpifmkdaaDoor
