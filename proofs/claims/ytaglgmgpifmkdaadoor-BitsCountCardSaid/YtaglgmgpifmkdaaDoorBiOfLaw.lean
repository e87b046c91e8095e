/-
  The walk of haystacklaw2.BitsOf: true, whatever the row and what is asked. Condition: the library's table stands as start-up lays it.
-/
import Derived.Test.YtaglgmgpifmkdaaDoorBiAlike
namespace Go.Proofs.YtaglgmgpifmkdaaDoor
open Go.RowKit Go.Oct Go.Bi

theorem bitsof_out (A A' : Option Addr) (n c m c' : Nat) (w : World) (hn : n ≤ 9223372036854775807) (hm : m ≤ 9223372036854775807) (h : 3000 < n ∨ 60 < m) :
    Calls Tryd.prog 4 #[.slice A n c, .slice A' m c'] w fun e w' => e = .returned (.bool true) ∧ Ch (fun _ => False) w w' := by
  by_cases h1 : 3000 < n
  · go_enter Tryd.func4, Tryd.ntmps4
    go_wp2
    go_ret
    exact ⟨rfl, Ch.refl _ _⟩
  · have h2 : 60 < m := by omega
    go_enter Tryd.func4, Tryd.ntmps4
    go_wp2
    go_ret
    exact ⟨rfl, Ch.refl _ _⟩

/-- The first k bits turned, and noughts. -/
def notUp (l : List Bool) (k : Nat) : List Bool := (List.range l.length).map fun i => if i < k then !l.getD i false else false
theorem notUp_zero (l : List Bool) : notUp l 0 = List.replicate l.length false := by
  apply List.ext_getElem
  · simp [notUp]
  · intro i h1 h2
    simp [notUp]
theorem notUp_all (l : List Bool) : notUp l l.length = l.map not := by
  apply List.ext_getElem
  · simp [notUp]
  · intro i h1 h2
    simp only [notUp, List.getElem_map, List.getElem_range]
    rw [List.length_map] at h2
    rw [if_pos h2, List.getD_eq_getElem?_getD, List.getElem?_eq_getElem h2]
    rfl
theorem notUp_len (l : List Bool) (k : Nat) : (notUp l k).length = l.length := by simp [notUp]
theorem notUp_next (l : List Bool) (k : Nat) : (notUp l k).set k (!l.getD k false) = notUp l (k + 1) := by
  apply List.ext_getElem
  · simp [notUp]
  · intro i h1 h2
    rw [List.getElem_set]
    simp only [notUp, List.getElem_map, List.getElem_range]
    by_cases e : k = i
    · subst e
      rw [if_pos rfl, if_pos (by omega)]
    · rw [if_neg e]
      by_cases e2 : i < k
      · rw [if_pos e2, if_pos (by omega)]
      · rw [if_neg e2, if_neg (by omega)]
theorem not_not (l : List Bool) : (l.map not).map not = l := by
  rw [List.map_map]
  have : (not ∘ not) = (id : Bool → Bool) := by funext b; cases b <;> rfl
  rw [this, List.map_id]

set_option maxHeartbeats 4000000 in
theorem bitsof_in (l : List Bool) (xs : List Int) (A A' : Option Addr) (n c m c' : Nat) (w : World) (F H : Nat → Prop) (ht : Tab w) (hs : Sb w F A n l) (hx : Sl w H .i64 A' m xs) (hwf : Wfs xs) (hc : n ≤ c) (hcm : c ≤ 9223372036854775807) (hn : n ≤ 3000) (hm : m ≤ 60) :
    Calls Tryd.prog 4 #[.slice A n c, .slice A' m c'] w fun e w' => e = .returned (.bool true) ∧ Ch (fun _ => False) w w' := by
  have HL := Bx.mk (Sb.len hs)
  have HT := Bx.mk ht
  have HS := Bx.mk hs
  have HX := Bx.mk hx
  have HW := Bx.mk hwf
  have hmk := run_mk2 elemO n (by omega) (by omega)
  clear ht hs hx hwf
  go_enter Tryd.func4, Tryd.ntmps4
  go_wp2_with fail
  refine (of_any l A n c _ F HS.out (by omega) hc hcm).mono ?_
  rintro e w1 ⟨bv, rfl, hv, hC⟩
  have HV := Bx.mk hv
  have HC := Bx.mk hC
  clear hv hC
  go_wp2_with fail
  clear hmk
  go_loopw [7] (fun i wr => ∃ k : Nat, k ≤ n ∧ i = .int .i64 k ∧ Own wr w1.heap.size (notUp l k) ∧ Ch (fun _ => False) w1 wr) (fun i _ => n - (intOf i).toNat)
  case atStart => exact ⟨0, Nat.zero_le _, rfl, by rw [notUp_zero, HL.out]; exact own_made w1 n (by omega), (Ch.refl _ _).alloc _⟩
  case round =>
    obtain ⟨k, hk, rfl, ho, hC⟩ := hrel
    have hul : (notUp l k).length = n := by rw [notUp_len, HL.out]
    by_cases hlt : k < n
    · obtain ⟨b, off, rfl, _, hcx⟩ := Sb.at_ (Vs.ch (Vs.ch HS.out HC.out (fun _ _ _ h => h)) hC (fun _ _ _ h => h)) hlt
      have hcc := ho.cellAt (j := k) (by omega)
      have hfz := ho.frozenAt k
      have hst := ho.stored k (!l.getD k false)
      rw [notUp_next] at hst
      have HST := Bx.mk hst
      have HCC := Bx.mk hC
      generalize (notUp l k).getD k false = y0 at *
      generalize l.getD k false = y at *
      clear hst ho hC hul
      go_wp2
      go_roundw
      case rel => exact ⟨k + 1, by omega, by go_num, HST.out.1, HCC.out.trans HST.out.2 (fun i hi (e : i = w1.heap.size) => absurd hi (by omega))⟩
      case measure => simp [intOf]; omega
    · obtain rfl : k = n := by omega
      have hlk := HL.out
      subst hlk
      rw [notUp_all] at ho
      have HO := Bx.mk ho
      have HC2 := Bx.mk (HC.out.trans hC (fun _ _ h => h))
      have HV2 := Bx.mk (HV.out.keep hC)
      have HB2 : Bx (Sb wr (fun b => b = w1.heap.size) (some ⟨w1.heap.size, 0, none⟩) l.length (l.map not)) := ⟨by have := ho.sb; rwa [List.length_map] at this⟩
      clear ho hC hul
      go_wp2_with fail
      refine (alike_any bv l xs A A' l.length c m c' _ _ F H HV2.out (HT.out.keep HC2.out) (Vs.ch HS.out HC2.out (fun _ _ _ h => h)) (by omega) (Sl.ch HX.out HC2.out (fun _ _ _ h => h)) (by omega) HW.out).mono ?_
      rintro e w3 ⟨rfl, hC3⟩
      have HC3 := Bx.mk (HC2.out.trans hC3 (fun _ _ h => h))
      have HV3 := Bx.mk (HV2.out.keep hC3)
      have HB3 : Bx (Sb w3 (fun b => b = w1.heap.size) (some ⟨w1.heap.size, 0, none⟩) l.length (l.map not)) := ⟨Vs.ch HB2.out hC3 (fun _ _ _ h => h)⟩
      clear hC3
      go_wp2_with fail
      refine (flip_any bv l _ _ HV3.out).mono ?_
      rintro e w4 ⟨bf, rfl, hf, hC4⟩
      have HC4 := Bx.mk (HC3.out.trans hC4 (fun _ _ h => h))
      have HV4 := Bx.mk (HV3.out.keep hC4)
      have HF4 := Bx.mk hf
      have HB4 : Bx (Sb w4 (fun b => b = w1.heap.size) (some ⟨w1.heap.size, 0, none⟩) l.length (l.map not)) := ⟨Vs.ch HB3.out hC4 (fun _ _ _ h => h)⟩
      clear hC4 hf
      go_wp2_with fail
      refine (alike_any bf (l.map not) xs _ A' l.length l.length m c' _ _ _ H HF4.out (HT.out.keep HC4.out) HB4.out (by omega) (Sl.ch HX.out HC4.out (fun _ _ _ h => h)) (by omega) HW.out).mono ?_
      rintro e w5 ⟨rfl, hC5⟩
      have HC5 := Bx.mk (HC4.out.trans hC5 (fun _ _ h => h))
      have HV5 := Bx.mk (HV4.out.keep hC5)
      clear hC5
      go_wp2_with fail
      refine (flip_any bv l _ _ HV5.out).mono ?_
      rintro e w6 ⟨bg, rfl, hg, hC6⟩
      have HC6 := Bx.mk (HC5.out.trans hC6 (fun _ _ h => h))
      have HG6 := Bx.mk hg
      clear hC6 hg
      go_wp2_with fail
      refine (flip_any bg (l.map not) _ _ HG6.out).mono ?_
      rintro e w7 ⟨bh, rfl, hh, hC7⟩
      rw [not_not] at hh
      have HC7 := Bx.mk (HC6.out.trans hC7 (fun _ _ h => h))
      have HH7 := Bx.mk hh
      clear hC7 hh
      go_wp2_with fail
      refine (alike_any bh l xs A A' l.length c m c' _ _ F H HH7.out (HT.out.keep HC7.out) (Vs.ch HS.out HC7.out (fun _ _ _ h => h)) (by omega) (Sl.ch HX.out HC7.out (fun _ _ _ h => h)) (by omega) HW.out).mono ?_
      rintro e w8 ⟨rfl, hC8⟩
      have HC8 := Bx.mk (HC7.out.trans hC8 (fun _ _ h => h))
      clear hC8
      go_wp2_with fail
      refine (known_any _ (HT.out.keep HC8.out)).mono ?_
      rintro e w9 ⟨rfl, hC9⟩
      go_wp2
      go_ret
      exact ⟨rfl, HC8.out.trans hC9 (fun _ _ h => h)⟩

theorem bitsof_law (l : List Bool) (xs : List Int) (A A' : Option Addr) (n c m c' : Nat) (w : World) (F H : Nat → Prop) (ht : Tab w) (hs : Sb w F A n l) (hc : n ≤ c) (hcm : c ≤ maxLen) (hx : Sl w H .i64 A' m xs) (hc' : m ≤ c') (hcm' : c' ≤ maxLen) (hwf : Wfs xs) :
    Calls Tryd.prog 4 #[.slice A n c, .slice A' m c'] w fun e w' => e = .returned (.bool true) ∧ Ch (fun _ => False) w w' := by
  unfold maxLen at hcm hcm'
  by_cases h : 3000 < n ∨ 60 < m
  · exact bitsof_out A A' n c m c' w (by omega) (by omega) h
  · exact bitsof_in l xs A A' n c m c' w F H ht hs hx hwf hc (by omega) (by omega) (by omega)
theorem wfs_of {xs : List Int} (h : ∀ x ∈ xs, (Lit.int .i64 x).wf = true) : Wfs xs := fun x hx => by
  have := h x hx
  simp [Lit.wf, IntKind.min, IntKind.max, IntKind.signed, IntKind.bits] at this
  omega
end Go.Proofs.YtaglgmgpifmkdaaDoor
