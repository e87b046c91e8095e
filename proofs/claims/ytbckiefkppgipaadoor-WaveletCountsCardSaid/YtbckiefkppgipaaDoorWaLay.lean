/-
  The contracts of lay and check, and of the document's answer haystackref4.Build.
-/
import Derived.Test.YtbckiefkppgipaaDoorWaSplit
import Derived.Test.YtbckiefkppgipaaDoorWaBelow
namespace Go.Proofs.YtbckiefkppgipaaDoor
open Go.RowKit Go.Oct Go.Bi Go.Wa

theorem ones_is' {F : Nat → Prop} (b : Nat) (l : List Bool) (r : Int) (w : World) (h : Vec w F b l) (hr : ((l.count true : Nat) : Int) = r) :
    Calls Tryd.prog 35 #[.pointer (some ⟨b, 0, none⟩)] w fun e w' => e = .returned (.int .i64 r) ∧ w = w' := by
  subst hr
  exact ones_any b l w h
theorem len_is' {F : Nat → Prop} (b : Nat) (l : List Bool) (r : Int) (w : World) (h : Vec w F b l) (hr : (l.length : Int) = r) :
    Calls Tryd.prog 26 #[.pointer (some ⟨b, 0, none⟩)] w fun e w' => e = .returned (.int .i64 r) ∧ w = w' := by
  subst hr
  exact len_any b l w h

theorem frozen_new (w : World) (us : Array Value) (t : TypeId) (j : Nat) : (w.alloc (.cells us t)).frozen? ⟨w.heap.size, j, none⟩ = false := by
  have h : (w.alloc (.cells us t)).heap[w.heap.size]? = some (.cells us t) := heap_alloc_new w _
  unfold World.frozen?
  rw [h]
  simp
set_option maxHeartbeats 1000000 in
theorem lay_any (l : List Bool) (A : Option Addr) (n c z : Nat) (w : World) (F : Nat → Prop) (hs : Sb w F A n l) (hn : n ≤ 131072) (hc : n ≤ c) (hcm : c ≤ maxLen) (hz : l.count false = z) :
    Calls Tryd.prog 24 #[.slice A n c] w fun e w' => ∃ v : Nat, e = .returned (.agg #[.pointer (some ⟨v, 0, none⟩), .int .i64 z]) ∧ Vec w' (fun k => w.heap.size ≤ k) v l ∧ Ch (fun _ => False) w w' := by
  have hl : l.length = n := Sb.len hs
  have hct := count_both l
  obtain ⟨q, hq⟩ : ∃ q, l.count true = q := ⟨_, rfl⟩
  rw [hq, hz, hl] at hct
  have HN : Bx ((l.length : Int) = n) := ⟨by rw [hl]⟩
  have HQ : Bx (((l.count true : Nat) : Int) = q) := ⟨by rw [hq]⟩
  have hcm2 : c ≤ 9223372036854775807 := by unfold maxLen at hcm; omega
  obtain ⟨R, hR⟩ : ∃ R, w.heap.size = R := ⟨_, rfl⟩
  have hs1 : Sb (w.alloc (.cells #[.pointer none, .int .i64 0] 52)) F A n l := Vs.ch hs ((Ch.refl (fun _ => False) w).alloc _) (fun _ _ _ h => h)
  have HS1 := Bx.mk hs1
  clear hs hs1 hq hz hl hcm
  go_enter Tryd.func24, Tryd.ntmps24
  go_wp2_with fail
  obtain ⟨d0, d1⟩ := cells2 w (.pointer none) (.int .i64 0) 52
  have hC0 := (Ch.refl (fun _ => False) w).alloc (.cells #[.pointer none, .int .i64 0] 52)
  refine (of_any l A n c _ F HS1.out (by omega) hc hcm2).mono ?_
  rintro e w1 ⟨v, rfl, hv, hC⟩
  have hR1 : R < w1.heap.size := by
    have := hC.size
    rw [World.size_alloc] at this
    omega
  have d0' := hC.cell (p := ⟨w.heap.size, 0, none⟩) (fun h => h) d0
  have d1' := hC.cell (p := ⟨w.heap.size, 1, none⟩) (fun h => h) d1
  have hfz : ∀ j, w1.frozen? ⟨w.heap.size, j, none⟩ = false := fun j => by
    rw [hC.frozen (p := ⟨w.heap.size, j, none⟩) (fun h => h) (by rw [World.size_alloc]; exact Nat.lt_succ_self _)]
    exact frozen_new w _ _ j
  have hf0 := hfz 0
  have hf1 := hfz 1
  have HV := Bx.mk hv
  have HC := Bx.mk (hC0.trans hC (fun _ _ h => h))
  rw [hR] at d0' d1' hf0 hf1
  clear d0 d1 hC hC0 hv hfz
  go_wp2_with fail
  refine (len_is' v l n _ HV.out HN.out).mono ?_
  rintro e w' ⟨rfl, rfl⟩
  go_wp2_with fail
  refine (ones_is' v l q _ HV.out HQ.out).mono ?_
  rintro e w' ⟨rfl, rfl⟩
  have hnz : (n : Int) - (q : Int) = (z : Int) := by omega
  go_wp2
  generalize hw2 : (World.setCell (World.setCell w1 _ _) _ _) = w2
  have hC2 : Ch (fun k => k = R) w1 w2 := by rw [← hw2]; exact ((Ch.refl (fun k => k = R) w1).setCell (p := ⟨R, 0, none⟩) (.inl rfl) _).setCell (p := ⟨R, 1, none⟩) (.inl rfl) _
  have f0 : w2.cell? ⟨R, 0, none⟩ = some (.pointer (some ⟨v, 0, none⟩)) := by
    rw [← hw2, World.cell?_setCell_other _ _ _ _ (by intro h; simp only [Addr.mk.injEq] at h; omega), World.cell?_setCell_same _ _ _ d0']
  have f1 : w2.cell? ⟨R, 1, none⟩ = some (.int .i64 z) := by
    have d2 : (w1.setCell ⟨R, 0, none⟩ (.pointer (some ⟨v, 0, none⟩))).cell? ⟨R, 1, none⟩ = some (.int .i64 0) := by
      rw [World.cell?_setCell_other _ _ _ _ (by intro h; simp only [Addr.mk.injEq] at h; omega)]
      exact d1'
    rw [← hw2, World.cell?_setCell_same _ _ _ d2]
  clear hw2 d0' d1' hf0 hf1
  have hV2 : Vec w2 (fun k => w.heap.size ≤ k) v l := (HV.out.ch hC2 (fun k hk _ (e : k = R) => by rw [World.size_alloc] at hk; omega)).mono (fun k _ hk => by rw [World.size_alloc] at hk; omega)
  have HW := Bx.mk hV2
  have HC3 := Bx.mk (HC.out.trans hC2 (fun i hi (e : i = R) => by omega))
  clear hV2 hC2
  refine bodyPost_ret (v := .agg #[.pointer (some ⟨v, 0, none⟩), .int .i64 z]) (by simp [results, Tryd.results24, go_sem, f0, f1]; try rfl) rfl ?_
  exact ⟨v, rfl, HW.out, HC3.out⟩

/-- What Build answers. -/
def bErr (W : Int) (xs : List Int) : Int := if W < 1 ∨ 16 < W then 1 else if 131072 < xs.length then 5 else if xs.all (fitB W.toNat) = true then 0 else 1
section
variable {F : Nat → Prop}
theorem check_out (W : Int) (A : Option Addr) (n c : Nat) (r : Int) (w : World) (hn : n ≤ 9223372036854775807) (h : ((W < 1 ∨ 16 < W) ∧ r = 1) ∨ (1 ≤ W ∧ W ≤ 16 ∧ 131072 < n ∧ r = 5)) :
    Calls Tryd.prog 22 #[.int .i64 W, .slice A n c] w fun e w' => e = .returned (.int .i64 r) ∧ w = w' := by
  have h3 : (W < 1 ∧ r = 1) ∨ (1 ≤ W ∧ 16 < W ∧ r = 1) ∨ (1 ≤ W ∧ W ≤ 16 ∧ 131072 < n ∧ r = 5) := by omega
  clear h
  rcases h3 with ⟨h1, rfl⟩ | ⟨h1, h2, rfl⟩ | ⟨h1, h2, h3, rfl⟩
  all_goals
    go_enter Tryd.func22, Tryd.ntmps22
    go_wp2
    go_ret
    exact ⟨rfl, rfl⟩
theorem all_next {p : Int → Bool} {xs : List Int} {k : Nat} {x : Int} (h : xs[k]? = some x) (h1 : (xs.take k).all p = true) (h2 : p x = true) : (xs.take (k + 1)).all p = true := by
  rw [List.take_add_one, h, List.all_append, h1]
  simp [h2]
theorem all_not {p : Int → Bool} {xs : List Int} {k : Nat} {x : Int} (h : xs[k]? = some x) (h2 : p x = false) : xs.all p = false := by
  rw [List.all_eq_false]
  exact ⟨x, List.mem_of_getElem? h, by rw [h2]; decide⟩
set_option maxHeartbeats 400000 in
theorem check_in (W : Nat) (xs : List Int) (A : Option Addr) (n c : Nat) (r : Int) (w : World) (hs : Sl w F .i64 A n xs) (hW1 : 1 ≤ W) (hW2 : W ≤ 16) (hn : n ≤ 131072) (hr : (if xs.all (fitB W) = true then 0 else 1) = r) :
    Calls Tryd.prog 22 #[.int .i64 W, .slice A n c] w fun e w' => e = .returned (.int .i64 r) ∧ w = w' := by
  have hl := hs.len
  have HRR := Bx.mk hr
  have e1 : decide ((W : Int) < 1) = false := by simp; omega
  have e2 : decide (16 < (W : Int)) = false := by simp; omega
  have e3 : decide (131072 < (n : Int)) = false := by simp; omega
  clear hr
  have HS := Bx.mk hs
  have HL := Bx.mk hl
  clear hs hl
  go_enter Tryd.func22, Tryd.ntmps22
  go_wp2_with fail
  go_loop [6, 20] (fun _ i => ∃ k : Nat, k ≤ n ∧ i = .int .i64 k ∧ Bx ((xs.take k).all (fitB W) = true)) (fun _ i => n - (intOf i).toNat)
  case atStart => exact ⟨0, Nat.zero_le _, rfl, ⟨rfl⟩⟩
  case round =>
    obtain ⟨k, hk, rfl, hA⟩ := hrel
    by_cases hlt : k < n
    · obtain ⟨b, off, x, rfl, _, hx, hcx⟩ := HS.out.at_ hlt
      have HX := Bx.mk hx.out
      clear hx
      obtain ⟨r, hr⟩ : ∃ r, fitB W x = r := ⟨_, rfl⟩
      have HR := Bx.mk hr
      clear hr
      cases r
      · go_wp2_with fail
        refine (fits_any W x false _ hW2 HR.out).mono ?_
        rintro e w' ⟨rfl, rfl⟩
        go_wp2
        go_ret
        exact ⟨ret_int (by rw [← HRR.out, all_not HX.out HR.out]; rfl), rfl⟩
      · go_wp2_with fail
        refine (fits_any W x true _ hW2 HR.out).mono ?_
        rintro e w' ⟨rfl, rfl⟩
        go_wp2
        go_round
        case rel => exact ⟨k + 1, by omega, by go_num, ⟨all_next HX.out hA.out HR.out⟩⟩
        case measure => simp [intOf]; omega
    · obtain rfl : k = n := by omega
      have hA' := hA.out
      rw [List.take_of_length_le (by rw [HL.out]; omega)] at hA'
      have HA := Bx.mk hA'
      clear hA' hA
      go_wp2
      go_ret
      exact ⟨ret_int (by rw [← HRR.out, if_pos HA.out]), rfl⟩
/-- check. -/
theorem check_any (W : Int) (xs : List Int) (A : Option Addr) (n c : Nat) (r : Int) (w : World) (hs : Sl w F .i64 A n xs) (hn : n ≤ 9223372036854775807) (hr : bErr W xs = r) :
    Calls Tryd.prog 22 #[.int .i64 W, .slice A n c] w fun e w' => e = .returned (.int .i64 r) ∧ w = w' := by
  have hl := hs.len
  unfold bErr at hr
  rw [hl] at hr
  by_cases h1 : W < 1 ∨ 16 < W
  · rw [if_pos h1] at hr
    exact check_out W A n c r w hn (.inl ⟨h1, hr.symm⟩)
  · rw [if_neg h1] at hr
    by_cases h2 : 131072 < n
    · rw [if_pos h2] at hr
      exact check_out W A n c r w hn (.inr ⟨by omega, by omega, h2, hr.symm⟩)
    · rw [if_neg h2] at hr
      obtain ⟨m, rfl⟩ : ∃ m : Nat, W = m := ⟨W.toNat, by omega⟩
      rw [Int.toNat_natCast] at hr
      exact check_in m xs A n c r w hs (by omega) (by omega) (by omega) hr

theorem refbuild_out (W : Int) (A : Option Addr) (n c : Nat) (r : Int) (w : World) (hn : n ≤ 9223372036854775807) (h : ((W < 1 ∨ 16 < W) ∧ r = 1) ∨ (1 ≤ W ∧ W ≤ 16 ∧ 131072 < n ∧ r = 5)) :
    Calls Tryd.prog 9 #[.int .i64 W, .slice A n c] w fun e w' => e = .returned (.int .i64 r) ∧ w = w' := by
  have h3 : (W < 1 ∧ r = 1) ∨ (1 ≤ W ∧ 16 < W ∧ r = 1) ∨ (1 ≤ W ∧ W ≤ 16 ∧ 131072 < n ∧ r = 5) := by omega
  clear h
  rcases h3 with ⟨h1, rfl⟩ | ⟨h1, h2, rfl⟩ | ⟨h1, h2, h3, rfl⟩
  all_goals
    go_enter Tryd.func9, Tryd.ntmps9
    go_wp2
    go_ret
    exact ⟨rfl, rfl⟩
set_option maxHeartbeats 400000 in
theorem refbuild_in (W : Nat) (xs : List Int) (A : Option Addr) (n c : Nat) (r : Int) (w : World) (hs : Sl w F .i64 A n xs) (hW1 : 1 ≤ W) (hW2 : W ≤ 16) (hn : n ≤ 131072) (hr : (if xs.all (fitB W) = true then 0 else 1) = r) :
    Calls Tryd.prog 9 #[.int .i64 W, .slice A n c] w fun e w' => e = .returned (.int .i64 r) ∧ w = w' := by
  have hl := hs.len
  have HRR := Bx.mk hr
  have e1 : decide ((W : Int) < 1) = false := by simp; omega
  have e2 : decide (16 < (W : Int)) = false := by simp; omega
  have e3 : decide (131072 < (n : Int)) = false := by simp; omega
  clear hr
  have HS := Bx.mk hs
  have HL := Bx.mk hl
  have h16 := pow16 hW2
  have h0 : 0 < 2 ^ W := Nat.pow_pos (by decide)
  have hsw : IntKind.i64.wrap (2 ^ W) = ((2 ^ W : Nat) : Int) := by
    have e : (2 : Int) ^ W = ((2 ^ W : Nat) : Int) := by push_cast; rfl
    rw [e, IntWalk.i64_in _ (by omega)]
  have HF : Bx (∀ x, fitB W x = (decide (0 ≤ x) && decide (x < (2 ^ W : Nat)))) := ⟨fun x => by
    unfold fitB
    rw [decide_eq_true (show 0 < W by omega), Bool.true_and]⟩
  generalize hpw : 2 ^ W = pw at *
  clear hs hl hpw
  go_enter Tryd.func9, Tryd.ntmps9
  go_wp2_with fail
  go_loop [5] (fun i => ∃ k : Nat, k ≤ n ∧ i = .int .i64 k ∧ Bx ((xs.take k).all (fitB W) = true)) (fun i => n - (intOf i).toNat)
  case atStart => exact ⟨0, Nat.zero_le _, rfl, ⟨rfl⟩⟩
  case round =>
    obtain ⟨k, hk, rfl, hA⟩ := hrel
    by_cases hlt : k < n
    · obtain ⟨b, off, x, rfl, _, hx, hcx⟩ := HS.out.at_ hlt
      have HX := Bx.mk hx.out
      clear hx
      by_cases hx0 : x < 0
      · have HR : Bx (fitB W x = false) := ⟨by rw [HF.out, decide_eq_false (by omega)]; rfl⟩
        go_wp2
        go_ret
        exact ⟨ret_int (by rw [← HRR.out, all_not HX.out HR.out]; rfl), rfl⟩
      · have hx1 : 0 ≤ x := by omega
        clear hx0
        by_cases hxp : x < (pw : Int)
        · have HR : Bx (fitB W x = true) := ⟨by rw [HF.out, decide_eq_true hx1, decide_eq_true hxp]; rfl⟩
          go_wp2
          go_round
          case rel => exact ⟨k + 1, by omega, by go_num, ⟨all_next HX.out hA.out HR.out⟩⟩
          case measure => simp [intOf]; omega
        · have HR : Bx (fitB W x = false) := ⟨by rw [HF.out, decide_eq_false hxp, Bool.and_false]⟩
          go_wp2
          go_ret
          exact ⟨ret_int (by rw [← HRR.out, all_not HX.out HR.out]; rfl), rfl⟩
    · obtain rfl : k = n := by omega
      have hA' := hA.out
      rw [List.take_of_length_le (by rw [HL.out]; omega)] at hA'
      have HA := Bx.mk hA'
      clear hA' hA
      go_wp2
      go_ret
      exact ⟨ret_int (by rw [← HRR.out, if_pos HA.out]), rfl⟩
/-- .. of the document's answer. -/
theorem refbuild_any (W : Int) (xs : List Int) (A : Option Addr) (n c : Nat) (r : Int) (w : World) (hs : Sl w F .i64 A n xs) (hn : n ≤ 9223372036854775807) (hr : bErr W xs = r) :
    Calls Tryd.prog 9 #[.int .i64 W, .slice A n c] w fun e w' => e = .returned (.int .i64 r) ∧ w = w' := by
  have hl := hs.len
  unfold bErr at hr
  rw [hl] at hr
  by_cases h1 : W < 1 ∨ 16 < W
  · rw [if_pos h1] at hr
    exact refbuild_out W A n c r w hn (.inl ⟨h1, hr.symm⟩)
  · rw [if_neg h1] at hr
    by_cases h2 : 131072 < n
    · rw [if_pos h2] at hr
      exact refbuild_out W A n c r w hn (.inr ⟨by omega, by omega, h2, hr.symm⟩)
    · rw [if_neg h2] at hr
      obtain ⟨m, rfl⟩ : ∃ m : Nat, W = m := ⟨W.toNat, by omega⟩
      rw [Int.toNat_natCast] at hr
      exact refbuild_in m xs A n c r w hs (by omega) (by omega) (by omega) hr
end
end Go.Proofs.YtbckiefkppgipaaDoor
