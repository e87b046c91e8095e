/-
  The contract of bits.Of.
-/
import Derived.Test.YtbckiefkppgipaaDoorBiPut
namespace Go.Proofs.YtbckiefkppgipaaDoor
open Go.RowKit Go.Oct Go.Bi

/-- A slice that reads as bits. -/
abbrev Sb (w : World) (F : Nat → Prop) (A : Option Addr) (n : Nat) (l : List Bool) : Prop := Vs w F A n (l.map Value.bool)
theorem Sb.len {w : World} {F : Nat → Prop} {A : Option Addr} {n : Nat} {l : List Bool} (h : Sb w F A n l) : l.length = n := by simpa using h.1
theorem Sb.at_ {w : World} {F : Nat → Prop} {A : Option Addr} {n : Nat} {l : List Bool} (h : Sb w F A n l) {k : Nat} (hk : k < n) : ∃ b off, A = some ⟨b, off, none⟩ ∧ F b ∧ w.cell? ⟨b, off + k, none⟩ = some (.bool (l.getD k false)) := by
  obtain ⟨b, off, u, e, hb, hu, hc⟩ := Vs.at_ h hk
  have hl := Sb.len h
  have := hu.out
  rw [List.getElem?_map, List.getElem?_eq_getElem (by omega)] at this
  refine ⟨b, off, e, hb, ?_⟩
  rw [hc, List.getD_eq_getElem?_getD, List.getElem?_eq_getElem (by omega)]
  simp at this
  simp [this]

/-- The first k bits, and noughts. -/
def ofUp (l : List Bool) (k : Nat) : List Bool := (List.range l.length).map fun i => if i < k then l.getD i false else false
theorem ofUp_zero (l : List Bool) : ofUp l 0 = List.replicate l.length false := by
  apply List.ext_getElem
  · simp [ofUp]
  · intro i h1 h2
    simp [ofUp]
theorem ofUp_all (l : List Bool) : ofUp l l.length = l := by
  apply List.ext_getElem
  · simp [ofUp]
  · intro i h1 h2
    simp only [ofUp, List.getElem_map, List.getElem_range]
    rw [if_pos h2, List.getD_eq_getElem?_getD, List.getElem?_eq_getElem h2]
    rfl
theorem ofUp_len (l : List Bool) (k : Nat) : (ofUp l k).length = l.length := by simp [ofUp]
theorem ofUp_no {l : List Bool} {k : Nat} (h : l.getD k false = false) : ofUp l k = ofUp l (k + 1) := by
  apply List.ext_getElem
  · simp [ofUp]
  · intro i h1 h2
    simp only [ofUp, List.getElem_map, List.getElem_range]
    by_cases e : i = k
    · subst e
      rw [if_neg (by omega), if_pos (by omega), h]
    · by_cases e2 : i < k
      · rw [if_pos e2, if_pos (by omega)]
      · rw [if_neg e2, if_neg (by omega)]
theorem ofUp_yes {l : List Bool} {k : Nat} (hk : k < l.length) (h : l.getD k false = true) : put1 (ofUp l k) k = ofUp l (k + 1) := by
  unfold put1
  rw [if_pos ⟨by omega, by rw [ofUp_len]; omega⟩]
  apply List.ext_getElem
  · simp [ofUp]
  · intro i h1 h2
    rw [List.getElem_set]
    simp only [ofUp, List.getElem_map, List.getElem_range, Int.toNat_natCast]
    by_cases e : k = i
    · subst e
      rw [if_pos rfl, if_pos (by omega), h]
    · rw [if_neg e]
      by_cases e2 : i < k
      · rw [if_pos e2, if_pos (by omega)]
      · rw [if_neg e2, if_neg (by omega)]

set_option maxHeartbeats 1000000 in
theorem of_any (l : List Bool) (A : Option Addr) (N c : Nat) (w : World) (F : Nat → Prop) (hs : Sb w F A N l) (hm : N ≤ 1048576) (hc : N ≤ c) (hcm : c ≤ 9223372036854775807) :
    Calls Tryd.prog 34 #[.slice A N c] w (Made l w) := by
  have hl := Sb.len hs
  have HL := Bx.mk hl
  have HS := Bx.mk hs
  clear hl hs
  go_enter Tryd.func34, Tryd.ntmps34
  go_wp2_with fail
  refine (blank_is N _ _ hm (by omega)).mono ?_
  rintro e w1 ⟨rfl, hr, hC⟩
  obtain ⟨g0, g1, g2, g3⟩ := cells3 hr.blk
  have HR := Bx.mk hr
  have HC := Bx.mk hC
  clear hr hC
  go_wp2
  go_loopw [4, 5, 17] (fun _ _ i wr => ∃ (k : Nat) (ws : List Nat), k ≤ N ∧ i = .int .i64 k ∧ Raw wr (w.heap.size + 1) w.heap.size N (.slice none 0 0) ws ∧ Wd ws (ofUp l k) ∧ Ch (fun _ => False) w wr) (fun _ _ i _ => N - (intOf i).toNat)
  case atStart => exact ⟨0, _, Nat.zero_le _, rfl, HR.out, by rw [ofUp_zero, HL.out]; exact wd_blank N, HC.out⟩
  case round =>
    obtain ⟨k, ws, hk, rfl, hr, hw, hC⟩ := hrel
    by_cases hlt : k < N
    · obtain ⟨b, off, rfl, _, hcx⟩ := Sb.at_ (Vs.ch HS.out hC (fun _ _ _ h => h)) hlt
      have HRR := Bx.mk hr
      have HCC := Bx.mk hC
      cases hb : l.getD k false
      · rw [hb] at hcx
        rw [ofUp_no hb] at hw
        have HW := Bx.mk hw
        clear hr hw hC hb
        go_wp2
        go_roundw
        case rel => exact ⟨k + 1, ws, by omega, by go_num, HRR.out, HW.out, HCC.out⟩
        case measure => simp [intOf]; omega
      · rw [hb] at hcx
        have HY := Bx.mk (ofUp_yes (l := l) (k := k) (by rw [HL.out]; exact hlt) hb)
        have HW := Bx.mk hw
        clear hr hw hC hb
        go_wp2_with fail
        refine (set_any _ _ N _ ws _ k _ HRR.out HW.out (by rw [ofUp_len]; exact HL.out)).mono ?_
        rintro e w2 ⟨rfl, ⟨ws2, hr2, hw2⟩, hC2⟩
        rw [HY.out] at hw2
        have HR2 := Bx.mk hr2
        have HW2 := Bx.mk hw2
        have HC2 := Bx.mk (HCC.out.trans hC2 (fun i hi (e : i = w.heap.size) => absurd hi (by omega)))
        clear hr2 hw2 hC2
        go_wp2
        go_roundw
        case rel => exact ⟨k + 1, ws2, by omega, by go_num, HR2.out, HW2.out, HC2.out⟩
        case measure => simp [intOf]; omega
    · obtain rfl : k = N := by omega
      have hlk := HL.out
      subst hlk
      rw [ofUp_all] at hw
      have HW := Bx.mk hw
      have HC1 := Bx.mk hC
      have HRR := Bx.mk hr
      clear hw hC hr
      go_wp2_with fail
      refine (count_any _ _ _ _ ws _ HRR.out HW.out.lt).mono ?_
      rintro e w2 ⟨rfl, hc2, hC2⟩
      have hsz := HC1.out.size
      have HC2 := Bx.mk (HC1.out.trans hC2 (fun i hi (e : i = w.heap.size + 1) => absurd hi (by omega)))
      have HV := Bx.mk (vec_of (F := fun k => w.heap.size ≤ k) hc2 HW.out rfl (by omega) (Nat.le_refl _) hsz)
      clear hc2 hC2
      go_wp2
      go_ret
      exact ⟨_, rfl, HV.out, HC2.out⟩
end Go.Proofs.YtbckiefkppgipaaDoor
