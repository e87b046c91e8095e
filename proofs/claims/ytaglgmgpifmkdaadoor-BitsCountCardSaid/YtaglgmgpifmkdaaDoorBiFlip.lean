/-
  The contract of (*bits.Vector).Flip.
-/
import Derived.Test.YtaglgmgpifmkdaaDoorBiOf
namespace Go.Proofs.YtaglgmgpifmkdaaDoor
open Go.RowKit Go.Oct Go.Bi

/-- The first k words turned, and noughts. -/
def flUp (ws : List Nat) (k : Nat) : List Nat := (List.range ws.length).map fun i => if i < k then flip64 (ws.getD i 0) else 0
theorem flUp_zero (ws : List Nat) : flUp ws 0 = List.replicate ws.length 0 := by
  apply List.ext_getElem
  · simp [flUp]
  · intro i h1 h2
    simp [flUp]
theorem flUp_all (ws : List Nat) : flUp ws ws.length = ws.map flip64 := by
  apply List.ext_getElem
  · simp [flUp]
  · intro i h1 h2
    simp only [flUp, List.getElem_map, List.getElem_range]
    rw [List.length_map] at h2
    rw [if_pos h2, List.getD_eq_getElem?_getD, List.getElem?_eq_getElem h2]
    rfl
theorem flUp_len (ws : List Nat) (k : Nat) : (flUp ws k).length = ws.length := by simp [flUp]
theorem flUp_next (ws : List Nat) (k : Nat) : (flUp ws k).set k (flip64 (ws.getD k 0)) = flUp ws (k + 1) := by
  apply List.ext_getElem
  · simp [flUp]
  · intro i h1 h2
    rw [List.getElem_set]
    simp only [flUp, List.getElem_map, List.getElem_range]
    by_cases e : k = i
    · subst e
      rw [if_pos rfl, if_pos (by omega)]
    · rw [if_neg e]
      by_cases e2 : i < k
      · rw [if_pos e2, if_pos (by omega)]
      · rw [if_neg e2, if_neg (by omega)]

set_option maxHeartbeats 1000000 in
theorem flip_nil (w : World) : Calls Tryd.prog 15 #[.pointer none] w (Made [] w) := by
  go_enter Tryd.func15, Tryd.ntmps15
  go_wp2_with (go_at_call 19; refine (len_nil _).mono ?_; rintro e w' ⟨rfl, rfl⟩)
  refine (blank_is 0 _ _ (by omega) (by omega)).mono ?_
  rintro e w1 ⟨rfl, hr, hC⟩
  obtain ⟨g0, g1, g2, g3⟩ := cells3 hr.blk
  have hl := hr.len
  have HR := Bx.mk hr
  have HC := Bx.mk hC
  simp at hl g1
  clear hr hC
  go_wp2
  go_loopw [4, 13] (fun _ i wr => i = .int .i64 0 ∧ Raw wr (w.heap.size + 1) w.heap.size 0 (.slice none 0 0) (List.replicate ((0 + 63) / 64) 0) ∧ Ch (fun _ => False) w wr) (fun _ _ _ => 0)
  case atStart => exact ⟨rfl, HR.out, HC.out⟩
  case round =>
    obtain ⟨rfl, hr, hC⟩ := hrel
    have HC2 := Bx.mk hC
    have HRR := Bx.mk hr
    have HW2 := Bx.mk (wd_blank 0)
    clear hC hr
    go_wp2_with fail
    refine (count_any _ _ _ _ _ _ HRR.out HW2.out.lt).mono ?_
    rintro e w2 ⟨rfl, hc2, hC2⟩
    have hsz := HC2.out.size
    have HC3 := Bx.mk (HC2.out.trans hC2 (fun i hi (e : i = w.heap.size + 1) => absurd hi (by omega)))
    have HV := Bx.mk (vec_of (F := fun k => w.heap.size ≤ k) (l := []) hc2 HW2.out (by simp) (by omega) (Nat.le_refl _) hsz)
    clear hc2 hC2
    go_wp2
    go_ret
    exact ⟨_, rfl, HV.out, HC3.out⟩
set_option maxHeartbeats 1000000 in
theorem flip_any (b : Nat) (l : List Bool) (w : World) (F : Nat → Prop) (h : Vec w F b l) :
    Calls Tryd.prog 15 #[.pointer (some ⟨b, 0, none⟩)] w (Made (l.map not) w) := by
  have H := Bx.mk h
  have hl := h.short
  obtain ⟨Aw, Aa, cw, ca, ws, us, hc0, hc1, hc2, hb, hw, ha, _, hW, hA⟩ := h
  have HW := Bx.mk hW
  have HWS := Bx.mk hw
  have hlw := hW.len
  have hb0 := lt_of_cell hc0
  have HC1 := Bx.mk hc1
  clear hW hw ha hA hc2 hc0 hc1
  go_enter Tryd.func15, Tryd.ntmps15
  go_wp2_with (go_at_call 19; refine (len_any b l _ H.out).mono ?_; rintro e w' ⟨rfl, rfl⟩)
  refine (blank_is l.length _ _ hl (by omega)).mono ?_
  rintro e w1 ⟨rfl, hr, hC⟩
  obtain ⟨g0, g1, g2, g3⟩ := cells3 hr.blk
  rw [List.length_replicate, ← hlw] at g1
  rw [← hlw] at hr
  have HR := Bx.mk hr
  have HC := Bx.mk hC
  have HLW := Bx.mk hlw
  have hwl : ws.length ≤ 1048576 := by omega
  clear hr hC hlw
  go_wp2
  go_loopw [4, 13] (fun _ i wr => ∃ k : Nat, k ≤ ws.length ∧ i = .int .i64 k ∧ Raw wr (w.heap.size + 1) w.heap.size l.length (.slice none 0 0) (flUp ws k) ∧ Ch (fun _ => False) w wr) (fun _ i _ => ws.length - (intOf i).toNat)
  case atStart => exact ⟨0, Nat.zero_le _, rfl, by rw [flUp_zero]; exact HR.out, HC.out⟩
  case round =>
    obtain ⟨k, hk, rfl, hr, hC⟩ := hrel
    by_cases hlt : k < ws.length
    · obtain ⟨wo, rfl⟩ : ∃ wo : World, wo = wr := ⟨_, rfl⟩
      obtain ⟨bw, ow, rfl, _, hcw0⟩ := HWS.out.at_ hlt
      have hcw := hC.cell (fun h => h) hcw0
      have hx := HW.out.lt k
      have hfn := flUp_next ws k
      obtain ⟨q0, q1, q2, q3⟩ := cells3 hr.blk
      rw [flUp_len] at q1
      have hst := hr.stored k (flip64 (ws.getD k 0))
      rw [hfn] at hst
      have hcc := hr.cellAt (j := k) (by rw [flUp_len]; exact hlt)
      have hfz := hr.frozenAt k
      have hv1 := hC.cell (fun h => h) HC1.out
      generalize (flUp ws k).getD k 0 = u0 at hcc
      generalize ws.getD k 0 = x at *
      have hxx := xor_all x hx
      generalize flip64 x = y at *
      have HS := Bx.mk hst
      have HCC := Bx.mk hC
      have hsg : (if IntKind.u64.signed = true then (-1 : Int) else IntKind.u64.max) = IntKind.u64.max := if_neg (by decide)
      have HSG := Bx.mk hsg
      have HXX := Bx.mk hxx
      clear hst hr hC hfn hsg hxx
      go_wp2
      go_region
      all_goals
        go_wp2
        go_roundw
        case rel =>
          refine ⟨k + 1, by omega, by go_num, ?_⟩
          rw [HSG.out, HXX.out]
          exact ⟨HS.out.1.ch ((Ch.refl (fun _ => False) _).drew) (fun h => h) (fun h => h), (HCC.out.trans HS.out.2 (fun i hi (e : i = w.heap.size) => absurd hi (by omega))).drew⟩
        case measure => simp [intOf]; omega
    · obtain rfl : k = ws.length := by omega
      rw [flUp_all] at hr
      have HW2 := Bx.mk (wd_flip HW.out)
      have HC2 := Bx.mk hC
      have HRR := Bx.mk hr
      clear hC hr
      go_wp2_with fail
      refine (count_any _ _ _ _ _ _ HRR.out HW2.out.lt).mono ?_
      rintro e w2 ⟨rfl, hc2, hC2⟩
      have hsz := HC2.out.size
      have HC3 := Bx.mk (HC2.out.trans hC2 (fun i hi (e : i = w.heap.size + 1) => absurd hi (by omega)))
      have HV := Bx.mk (vec_of (F := fun k => w.heap.size ≤ k) hc2 HW2.out (by simp) (by omega) (Nat.le_refl _) hsz)
      clear hc2 hC2
      go_wp2
      go_ret
      exact ⟨_, rfl, HV.out, HC3.out⟩
end Go.Proofs.YtaglgmgpifmkdaaDoor
