/-
  The walk of haystacklaw2.BitsSums: true, whatever the row and the place. Condition: the library's table stands as start-up lays it.
-/
import Derived.Test.YtaglgmgpifmkdaaDoorBiKnown
import Derived.Deep.RegionHeld3
namespace Go.Proofs.YtaglgmgpifmkdaaDoor
open Go.RowKit Go.Oct Go.Bi

theorem rank_val {F : Nat → Prop} (b : Nat) (l : List Bool) (o : Bool) (i : Int) (r : Int) (w : World) (h : Vec w F b l) (hr : ((rk l o i : Nat) : Int) = r) :
    Calls Tryd.prog 18 #[.pointer (some ⟨b, 0, none⟩), .bool o, .int .i64 i] w fun e w' => e = .returned (.int .i64 r) ∧ w = w' := by
  subst hr
  exact rank_any b l o i w h
theorem ones_val {F : Nat → Prop} (b : Nat) (l : List Bool) (r : Int) (w : World) (h : Vec w F b l) (hr : ((l.count true : Nat) : Int) = r) :
    Calls Tryd.prog 20 #[.pointer (some ⟨b, 0, none⟩)] w fun e w' => e = .returned (.int .i64 r) ∧ w = w' := by
  subst hr
  exact ones_any b l w h
theorem get_val {F : Nat → Prop} (b : Nat) (l : List Bool) (i : Int) (c : Bool) (w : World) (h : Vec w F b l) (hc : bitAt l i = c) :
    Calls Tryd.prog 17 #[.pointer (some ⟨b, 0, none⟩), .int .i64 i] w fun e w' => e = .returned (.bool c) ∧ w = w' := by
  subst hc
  exact get_any b l i w h
theorem select_val {F : Nat → Prop} (b : Nat) (l : List Bool) (o : Bool) (k r : Int) (w : World) (h : Vec w F b l) (hT : Tab w) (hr : sel l o k = r) :
    Calls Tryd.prog 16 #[.pointer (some ⟨b, 0, none⟩), .bool o, .int .i64 k] w fun e w' => e = .returned (.int .i64 r) ∧ Ch (fun _ => False) w w' := by
  subst hr
  exact select_any b l o k w h hT

theorem rk_both (l : List Bool) (i : Nat) (hi : i ≤ l.length) : rk l true i + rk l false i = i := by
  have := count_both (l.take i)
  rw [List.length_take, Nat.min_eq_left hi] at this
  exact this
theorem rk_succ {l : List Bool} {i : Nat} {c : Bool} (h : l[i]? = some c) (o : Bool) : rk l o ((i : Int) + 1) = rk l o i + if c = o then 1 else 0 := by
  rw [show (i : Int) + 1 = ((i + 1 : Nat) : Int) by omega, rk_nat, rk_nat, take_next h, List.count_append]
  cases c <;> cases o <;> simp

set_option maxHeartbeats 400000 in
theorem sums_out (A : Option Addr) (n c : Nat) (i : Int) (w : World) (hn : n ≤ 9223372036854775807) (hi : 3000 < n ∨ i < 0 ∨ (n : Int) ≤ i) :
    Calls Tryd.prog 7 #[.slice A n c, .int .i64 i] w fun e w' => e = .returned (.bool true) ∧ Ch (fun _ => False) w w' := by
  by_cases h1 : 3000 < n
  · go_enter Tryd.func7, Tryd.ntmps7
    go_wp2
    go_ret
    exact ⟨rfl, Ch.refl _ _⟩
  · by_cases h2 : i < 0
    · go_enter Tryd.func7, Tryd.ntmps7
      go_wp2
      go_ret
      exact ⟨rfl, Ch.refl _ _⟩
    · have h3 : (n : Int) ≤ i := by omega
      have h4 : 0 ≤ i := by omega
      go_enter Tryd.func7, Tryd.ntmps7
      go_wp2
      go_ret
      exact ⟨rfl, Ch.refl _ _⟩

/-- The four counts at a place and behind it. -/
theorem four {l : List Bool} {i : Nat} {y : Bool} (hi : i < l.length) (h : l[i]? = some y) : ∃ (r1 r0 : Nat) (s1 s0 : Int), ((rk l true i : Nat) : Int) = r1 ∧ ((rk l false i : Nat) : Int) = r0 ∧ ((rk l true ((i : Int) + 1) : Nat) : Int) = s1 ∧ ((rk l false ((i : Int) + 1) : Nat) : Int) = s0 ∧
    r1 + r0 = i ∧ 0 ≤ s1 ∧ s1 ≤ i + 1 ∧ 0 ≤ s0 ∧ s0 ≤ i + 1 ∧ s1 - (r1 : Int) = (if y then 1 else 0) ∧ s0 - (r0 : Int) = (if y then 0 else 1) := by
  have hb := rk_both l i (by omega)
  have h1 := rk_succ h true
  have h0 := rk_succ h false
  refine ⟨_, _, _, _, rfl, rfl, rfl, rfl, hb, by omega, ?_, by omega, ?_, ?_, ?_⟩ <;> cases y <;> simp at h1 h0 ⊢ <;> omega

set_option maxHeartbeats 1000000 in
theorem sums_in (l : List Bool) (A : Option Addr) (n c i : Nat) (w : World) (F : Nat → Prop) (ht : Tab w) (hs : Sb w F A n l) (hc : n ≤ c) (hcm : c ≤ 9223372036854775807) (hn : n ≤ 3000) (hi : i < n) :
    Calls Tryd.prog 7 #[.slice A n c, .int .i64 i] w fun e w' => e = .returned (.bool true) ∧ Ch (fun _ => False) w w' := by
  have hl := Sb.len hs
  have hli : l[i]? = some (l.getD i false) := by
    rw [List.getD_eq_getElem?_getD, List.getElem?_eq_getElem (by omega)]
    rfl
  have hbit := bitAt_in hli
  have hal : ((rk l true n : Nat) : Int) = (l.count true : Nat) := by rw [rk_all (by omega)]
  obtain ⟨r1, r0, s1, s0, hr1, hr0, hs1, hs0, hb, hs1a, hs1b, hs0a, hs0b, ha, hb2⟩ := four (by omega) hli
  obtain ⟨bl, off, rfl, _, hcl⟩ := Sb.at_ hs hi
  generalize l.getD i false = y at *
  have HT := Bx.mk ht
  have HS := Bx.mk hs
  have HB := Bx.mk hbit
  have HAL := Bx.mk hal
  have hal0 : l.count true ≤ 3000 := by have := List.count_le_length (a := true) (l := l); omega
  have R1 := Bx.mk hr1
  have R0 := Bx.mk hr0
  have S1 := Bx.mk hs1
  have S0 := Bx.mk hs0
  have ht1 : ((r1 : Int) + (r0 : Int) != (i : Int)) = false := by rw [bne_eq_false_iff_eq]; omega
  have ht2 : (((l.count true : Nat) : Int) != ((l.count true : Nat) : Int)) = false := by simp
  have hr1b : r1 ≤ 3000 := by omega
  have hr0b : r0 ≤ 3000 := by omega
  have HA := Bx.mk ha
  have HA2 := Bx.mk hb2
  clear ht hs hbit hal hli hl hr1 hr0 hs1 hs0 hb ha hb2
  go_enter Tryd.func7, Tryd.ntmps7
  go_wp2_with fail
  refine (of_any l _ n c _ F HS.out (by omega) hc hcm).mono ?_
  rintro e w1 ⟨bv, rfl, hv, hC⟩
  have hcl1 := hC.cell (fun h => h) hcl
  have HV := Bx.mk hv
  have HC := Bx.mk hC
  clear hv hC hcl
  go_wp2_with fail
  refine (rank_val bv l true i r1 _ HV.out R1.out).mono ?_
  rintro e w' ⟨rfl, rfl⟩
  go_wp2_with fail
  refine (rank_val bv l false i r0 _ HV.out R0.out).mono ?_
  rintro e w' ⟨rfl, rfl⟩
  go_wp2_with fail
  refine (ones_val bv l (l.count true : Nat) _ HV.out rfl).mono ?_
  rintro e w' ⟨rfl, rfl⟩
  go_wp2_with fail
  refine (rank_val bv l true n (l.count true : Nat) _ HV.out HAL.out).mono ?_
  rintro e w' ⟨rfl, rfl⟩
  go_wp2_with fail
  refine (rank_val bv l true ((i : Int) + 1) s1 _ HV.out S1.out).mono ?_
  rintro e w' ⟨rfl, rfl⟩
  go_wp2_with fail
  refine (rank_val bv l true i r1 _ HV.out R1.out).mono ?_
  rintro e w' ⟨rfl, rfl⟩
  go_wp2_with fail
  refine (rank_val bv l false ((i : Int) + 1) s0 _ HV.out S0.out).mono ?_
  rintro e w' ⟨rfl, rfl⟩
  go_wp2_with fail
  refine (rank_val bv l false i r0 _ HV.out R0.out).mono ?_
  rintro e w' ⟨rfl, rfl⟩
  cases y
  · have ha := HA.out
    have hb2 := HA2.out
    simp only [if_false, Bool.false_eq_true] at ha hb2
    go_wp2_with fail
    clear ha hb2
    go_region_held3 (fun w' => w'.cell? ⟨bl, off + i, none⟩ = some (.bool false)) (first | go_keep | exact hk3 | exact hcl1) (first | (go_at_call 17; refine (get_val bv l i _ _ (by exact HV.out) HB.out).mono ?_; rintro e w' ⟨rfl, rfl⟩) | (go_at_call 13; refine (known_any _ ((HT.out.keep HC.out).keep ((Ch.refl (fun _ => False) _).drew))).mono ?_; rintro e w3 ⟨rfl, hC3⟩; have hk3 := hC3.cell (fun h => h) hcl1))
    go_wp2
    go_ret
    exact ⟨rfl, HC.out.drew.trans hC3 (fun _ _ h => h)⟩
  · have ha := HA.out
    have hb2 := HA2.out
    simp only [if_true] at ha hb2
    go_wp2_with fail
    clear ha hb2
    go_region_held3 (fun w' => w'.cell? ⟨bl, off + i, none⟩ = some (.bool true)) (first | go_keep | exact hk3 | exact hcl1) (first | (go_at_call 17; refine (get_val bv l i _ _ (by exact HV.out) HB.out).mono ?_; rintro e w' ⟨rfl, rfl⟩) | (go_at_call 13; refine (known_any _ ((HT.out.keep HC.out).keep ((Ch.refl (fun _ => False) _).drew))).mono ?_; rintro e w3 ⟨rfl, hC3⟩; have hk3 := hC3.cell (fun h => h) hcl1))
    go_wp2
    go_ret
    exact ⟨rfl, HC.out.drew.trans hC3 (fun _ _ h => h)⟩

theorem sums_law (l : List Bool) (A : Option Addr) (n c : Nat) (i : Int) (w : World) (F : Nat → Prop) (ht : Tab w) (hs : Sb w F A n l) (hc : n ≤ c) (hcm : c ≤ maxLen) :
    Calls Tryd.prog 7 #[.slice A n c, .int .i64 i] w fun e w' => e = .returned (.bool true) ∧ Ch (fun _ => False) w w' := by
  unfold maxLen at hcm
  by_cases h : 3000 < n ∨ i < 0 ∨ (n : Int) ≤ i
  · exact sums_out A n c i w (by omega) h
  · obtain ⟨k, rfl⟩ : ∃ k : Nat, i = k := ⟨i.toNat, by omega⟩
    exact sums_in l A n c k w F ht hs hc (by omega) (by omega) (by omega)
end Go.Proofs.YtaglgmgpifmkdaaDoor
