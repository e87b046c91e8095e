/-
  The walk of haystacklaw2.BitsBack: true, whatever the row and what is asked. Condition: the library's table stands as start-up lays it.
-/
import Derived.Test.YtaglgmgpifmkdaaDoorBiFlips
namespace Go.Proofs.YtaglgmgpifmkdaaDoor
open Go.RowKit Go.Oct Go.Bi

theorem back_out (A : Option Addr) (n c : Nat) (o : Bool) (k : Int) (w : World) (hn : n ≤ 9223372036854775807) (hi : 3000 < n ∨ k < 0 ∨ 3000 < k) :
    Calls Tryd.prog 5 #[.slice A n c, .bool o, .int .i64 k] w fun e w' => e = .returned (.bool true) ∧ Ch (fun _ => False) w w' := by
  by_cases h1 : 3000 < n
  · go_enter Tryd.func5, Tryd.ntmps5
    go_wp2
    go_ret
    exact ⟨rfl, Ch.refl _ _⟩
  · by_cases h2 : k < 0
    · go_enter Tryd.func5, Tryd.ntmps5
      go_wp2
      go_ret
      exact ⟨rfl, Ch.refl _ _⟩
    · have h3 : 3000 < k := by omega
      have h4 : 0 ≤ k := by omega
      go_enter Tryd.func5, Tryd.ntmps5
      go_wp2
      go_ret
      exact ⟨rfl, Ch.refl _ _⟩

/-- What Select of what Rank tells is. -/
theorem sel_rank {l : List Bool} {k : Nat} {y : Bool} (h : l[k]? = some y) : sel l y (rk l y k : Nat) = k := sel_eq (.inl ⟨k, rfl, h, rfl⟩)

set_option maxHeartbeats 2000000 in
theorem back_in (l : List Bool) (A : Option Addr) (n c : Nat) (o : Bool) (k : Nat) (w : World) (F : Nat → Prop) (ht : Tab w) (hs : Sb w F A n l) (hc : n ≤ c) (hcm : c ≤ 9223372036854775807) (hn : n ≤ 3000) (hk : k ≤ 3000) :
    Calls Tryd.prog 5 #[.slice A n c, .bool o, .int .i64 k] w fun e w' => e = .returned (.bool true) ∧ Ch (fun _ => False) w w' := by
  have hl := Sb.len hs
  have hsel := sel_is l o k
  obtain ⟨s, hse⟩ : ∃ s, sel l o k = s := ⟨_, rfl⟩
  rw [hse] at hsel
  obtain ⟨q, hq⟩ : ∃ q, l.count o = q := ⟨_, rfl⟩
  have hall : ((rk l o n : Nat) : Int) = q := by rw [rk_all (by omega), hq]
  have SE := Bx.mk hse
  have HA := Bx.mk hall
  have HT := Bx.mk ht
  have HS := Bx.mk hs
  have HL : Bx ((l.length : Int) = n) := ⟨by rw [hl]⟩
  have hsel2 : (∃ i : Nat, s = i ∧ (k : Int) < (q : Int) ∧ i < n ∧ bitAt l i = o ∧ ((rk l o i : Nat) : Int) = k) ∨ (s = -1 ∧ ¬ ((k : Int) < (q : Int))) := by
    rcases hsel with ⟨i, h, hi⟩ | ⟨h, hi⟩
    · have := hi.lt
      exact .inl ⟨i, h, by omega, by omega, bitAt_in hi.1, hi.2⟩
    · exact .inr ⟨h, by omega⟩
  have hK : (¬ (k < n) ∧ decide (k < n) = false) ∨ ((k : Int) < (n : Int) ∧ ∃ (b off : Nat) (y : Bool) (r : Nat), A = some ⟨b, off, none⟩ ∧ w.cell? ⟨b, off + k, none⟩ = some (.bool y) ∧ ((rk l y k : Nat) : Int) = r ∧ r ≤ 3000 ∧ sel l y r = k) := by
    by_cases h : (k : Int) < n
    · obtain ⟨b, off, rfl, _, hcl⟩ := Sb.at_ hs (show k < n by omega)
      have hli : l[k]? = some (l.getD k false) := by
        rw [List.getD_eq_getElem?_getD, List.getElem?_eq_getElem (by omega)]
        rfl
      exact .inr ⟨h, b, off, _, _, rfl, hcl, rfl, by have := rk_le l (l.getD k false) k; omega, sel_rank hli⟩
    · exact .inl ⟨by omega, by simp; omega⟩
  have HK := Bx.mk hK
  have HS2 := Bx.mk hsel2
  clear ht hs hl hsel hse hq hall hsel2 hK
  go_enter Tryd.func5, Tryd.ntmps5
  go_wp2_with fail
  refine (of_any l _ n c _ F HS.out (by omega) hc hcm).mono ?_
  rintro e w1 ⟨bv, rfl, hv, hC⟩
  have HV := Bx.mk hv
  have HC := Bx.mk hC
  clear hv hC
  go_wp2_with fail
  refine (select_val bv l o k s _ HV.out (HT.out.keep HC.out) SE.out).mono ?_
  rintro e w2 ⟨rfl, hC2⟩
  have HV2 := Bx.mk (HV.out.keep hC2)
  have HC2 := Bx.mk (HC.out.trans hC2 (fun _ _ h => h))
  clear hC2
  rcases HS2.out with ⟨i, rfl, h1, h2, h3, h4⟩ | ⟨rfl, h1⟩
  · have G3 := Bx.mk h3
    have G4 := Bx.mk h4
    clear h3 h4
    go_wp2_with fail
    refine (get_val bv l i _ _ HV2.out G3.out).mono ?_
    rintro e w' ⟨rfl, rfl⟩
    go_wp2_with fail
    refine (rank_val bv l o i k _ HV2.out G4.out).mono ?_
    rintro e w' ⟨rfl, rfl⟩
    go_wp2_with fail
    refine (len_val bv l n _ HV2.out HL.out).mono ?_
    rintro e w' ⟨rfl, rfl⟩
    go_wp2_with fail
    refine (rank_val bv l o n q _ HV2.out HA.out).mono ?_
    rintro e w' ⟨rfl, rfl⟩
    go_wp2_with fail
    rcases HK.out with ⟨k1, k2⟩ | ⟨k1, bl, off, y, r, rfl, hcl0, hr, hr3, hse⟩
    · go_quiet (fail)
      go_wp2_with fail
      refine (known_any _ ((HT.out.keep HC2.out).keep ((Ch.refl (fun _ => False) _).drewN _))).mono ?_
      rintro e w3 ⟨rfl, hC3⟩
      go_wp2
      go_ret
      exact ⟨rfl, (HC2.out.drewN _).trans hC3 (fun _ _ h => h)⟩
    · have hcl := HC2.out.cell (fun h => h) hcl0
      have HR := Bx.mk hr
      have HE := Bx.mk hse
      clear hcl0 hr hse
      go_region_held3 (fun w' => w'.cell? ⟨bl, off + k, none⟩ = some (.bool y)) (first | go_keep | exact hk3 | exact hcl) (first | (go_at_call 18; refine (rank_val bv l y k r _ (by exact HV2.out) HR.out).mono ?_; rintro e w' ⟨rfl, rfl⟩) | (go_at_call 16; refine (select_val bv l y r k _ (by exact HV2.out) ((HT.out.keep HC2.out).keep ((Ch.refl (fun _ => False) _).drew)) HE.out).mono ?_; rintro e w3 ⟨rfl, hC3⟩; have hk3 := hC3.cell (fun h => h) hcl))
      go_wp2_with fail
      refine (known_any _ ((HT.out.keep HC2.out.drew).keep hC3)).mono ?_
      rintro e w4 ⟨rfl, hC4⟩
      go_wp2
      go_ret
      exact ⟨rfl, (HC2.out.drew.trans hC3 (fun _ _ h => h)).trans hC4 (fun _ _ h => h)⟩
  · go_wp2_with fail
    refine (len_val bv l n _ HV2.out HL.out).mono ?_
    rintro e w' ⟨rfl, rfl⟩
    go_wp2_with fail
    refine (rank_val bv l o n q _ HV2.out HA.out).mono ?_
    rintro e w' ⟨rfl, rfl⟩
    have hd : decide ((k : Int) < (q : Int)) = false := by simpa using h1
    have hd2 : decide (k < q) = false := by simp; omega
    go_wp2_with fail
    rcases HK.out with ⟨k1, k2⟩ | ⟨k1, bl, off, y, r, rfl, hcl0, hr, hr3, hse⟩
    · go_quiet (fail)
      go_wp2_with fail
      refine (known_any _ ((HT.out.keep HC2.out).keep ((Ch.refl (fun _ => False) _).drewN _))).mono ?_
      rintro e w3 ⟨rfl, hC3⟩
      go_wp2
      go_ret
      exact ⟨rfl, (HC2.out.drewN _).trans hC3 (fun _ _ h => h)⟩
    · have hcl := HC2.out.cell (fun h => h) hcl0
      have HR := Bx.mk hr
      have HE := Bx.mk hse
      clear hcl0 hr hse
      go_region_held3 (fun w' => w'.cell? ⟨bl, off + k, none⟩ = some (.bool y)) (first | go_keep | exact hk3 | exact hcl) (first | (go_at_call 18; refine (rank_val bv l y k r _ (by exact HV2.out) HR.out).mono ?_; rintro e w' ⟨rfl, rfl⟩) | (go_at_call 16; refine (select_val bv l y r k _ (by exact HV2.out) ((HT.out.keep HC2.out).keep ((Ch.refl (fun _ => False) _).drew)) HE.out).mono ?_; rintro e w3 ⟨rfl, hC3⟩; have hk3 := hC3.cell (fun h => h) hcl))
      go_wp2_with fail
      refine (known_any _ ((HT.out.keep HC2.out.drew).keep hC3)).mono ?_
      rintro e w4 ⟨rfl, hC4⟩
      go_wp2
      go_ret
      exact ⟨rfl, (HC2.out.drew.trans hC3 (fun _ _ h => h)).trans hC4 (fun _ _ h => h)⟩

theorem back_law (l : List Bool) (A : Option Addr) (n c : Nat) (o : Bool) (k : Int) (w : World) (F : Nat → Prop) (ht : Tab w) (hs : Sb w F A n l) (hc : n ≤ c) (hcm : c ≤ maxLen) :
    Calls Tryd.prog 5 #[.slice A n c, .bool o, .int .i64 k] w fun e w' => e = .returned (.bool true) ∧ Ch (fun _ => False) w w' := by
  unfold maxLen at hcm
  by_cases h : 3000 < n ∨ k < 0 ∨ 3000 < k
  · exact back_out A n c o k w (by omega) h
  · obtain ⟨j, rfl⟩ : ∃ j : Nat, k = j := ⟨k.toNat, by omega⟩
    exact back_in l A n c o j w F ht hs hc (by omega) (by omega) (by omega)
end Go.Proofs.YtaglgmgpifmkdaaDoor
