/-
  The contract of Below of a Tree.
-/
/-
  The contracts of lay and check, and of the document's answer haystackref4.Build.
-/
/-
  The contract of Build.
-/
/-
  Build of a row that may be; the contract of haystacklaw4.known: true; rows of low digits.
-/
import Derived.Test.YtckkjccjkdidjaaGreatDoorWaC
import Derived.Test.YtckkjccjkdidjaaGreatDoorWaD
import Derived.Deep.RegionHeld3
namespace Go.Proofs.YtckkjccjkdidjaaGreatDoor.W
open Go.RowKit Go.Oct Go.Bi Go.Wa

/-- How many between two places are less. -/
def bel (l : List Nat) (c f t : Int) : Nat := rk (low l c) true t - rk (low l c) true f
theorem rk_mono (b : List Bool) (o : Bool) {f t : Int} (h : f ≤ t) : rk b o f ≤ rk b o t := count_mono o b (by omega)
theorem bel_clip (l : List Nat) (c f t : Int) : bel l c f t = bel l c (clip l.length f : Nat) (clip l.length t : Nat) := by
  unfold bel clip
  rw [rk_clip (low l c) f, rk_clip (low l c) t, low_len]
theorem bel_zero {l : List Nat} {c f t : Int} (h : t ≤ f ∨ c ≤ 0) : bel l c f t = 0 := by
  unfold bel
  rcases h with h | h
  · have := rk_mono (low l c) true h
    omega
  · rw [low_none h, rk_repl, rk_repl]
    rfl
theorem bel_all {W : Nat} {l : List Nat} {c : Int} {f t : Nat} (hl : ∀ x ∈ l, x < 2 ^ W) (hc : ((2 ^ W : Nat) : Int) ≤ c) (hf : f ≤ l.length) (ht : t ≤ l.length) : bel l c f t = t - f := by
  unfold bel
  rw [low_all hl hc, rk_repl, rk_repl, if_pos rfl, if_pos rfl]
  omega

section
variable {F : Nat → Prop}
theorem within_nil (i : Int) (w : World) :
    Calls Tryz.prog 128 #[.pointer none, .int .i64 i] w fun e w' => e = .returned (.int .i64 0) ∧ w = w' := by
  by_cases h1 : i ≤ 0
  · have hm : max i 0 = 0 := by omega
    go_enter Tryz.func128, Tryz.ntmps128
    go_wp2_with (go_at_call 61; refine (tlen_nil _).mono ?_; rintro e w' ⟨rfl, rfl⟩)
    all_goals
      go_ret
      exact ⟨ret_int (by omega), rfl⟩
  · go_enter Tryz.func128, Tryz.ntmps128
    go_wp2_with (go_at_call 61; refine (tlen_nil _).mono ?_; rintro e w' ⟨rfl, rfl⟩)
    all_goals
      go_ret
      exact ⟨ret_int (by omega), rfl⟩
theorem within_is (b W n k : Nat) (l : List Nat) (i : Int) (w : World) (h : Tr w F b W l) (hn : l.length = n) (hk : clip n i = k) :
    Calls Tryz.prog 128 #[.pointer (some ⟨b, 0, none⟩), .int .i64 i] w fun e w' => e = .returned (.int .i64 k) ∧ w = w' := by
  subst hk
  exact within_any b W n l i w h hn
end
end Go.Proofs.YtckkjccjkdidjaaGreatDoor.W

namespace Go.Proofs.YtckkjccjkdidjaaGreatDoor.W
open Go.RowKit Go.Oct Go.Bi Go.Wa

theorem ones_is' {F : Nat → Prop} (b : Nat) (l : List Bool) (r : Int) (w : World) (h : Vec w F b l) (hr : ((l.count true : Nat) : Int) = r) :
    Calls Tryz.prog 48 #[.pointer (some ⟨b, 0, none⟩)] w fun e w' => e = .returned (.int .i64 r) ∧ w = w' := by
  subst hr
  exact ones_any b l w h
theorem len_is' {F : Nat → Prop} (b : Nat) (l : List Bool) (r : Int) (w : World) (h : Vec w F b l) (hr : (l.length : Int) = r) :
    Calls Tryz.prog 67 #[.pointer (some ⟨b, 0, none⟩)] w fun e w' => e = .returned (.int .i64 r) ∧ w = w' := by
  subst hr
  exact len_any b l w h

theorem frozen_new (w : World) (us : Array Value) (t : TypeId) (j : Nat) : (w.alloc (.cells us t)).frozen? ⟨w.heap.size, j, none⟩ = false := by
  have h : (w.alloc (.cells us t)).heap[w.heap.size]? = some (.cells us t) := heap_alloc_new w _
  unfold World.frozen?
  rw [h]
  simp
set_option maxHeartbeats 1000000 in
theorem lay_any (l : List Bool) (A : Option Addr) (n c z : Nat) (w : World) (F : Nat → Prop) (hs : Sb w F A n l) (hn : n ≤ 131072) (hc : n ≤ c) (hcm : c ≤ maxLen) (hz : l.count false = z) :
    Calls Tryz.prog 84 #[.slice A n c] w fun e w' => ∃ v : Nat, e = .returned (.agg #[.pointer (some ⟨v, 0, none⟩), .int .i64 z]) ∧ Vec w' (fun k => w.heap.size ≤ k) v l ∧ Ch (fun _ => False) w w' := by
  have hl : l.length = n := Sb.len hs
  have hct := count_both l
  obtain ⟨q, hq⟩ : ∃ q, l.count true = q := ⟨_, rfl⟩
  rw [hq, hz, hl] at hct
  have HN : Bx ((l.length : Int) = n) := ⟨by rw [hl]⟩
  have HQ : Bx (((l.count true : Nat) : Int) = q) := ⟨by rw [hq]⟩
  have hcm2 : c ≤ 9223372036854775807 := by unfold maxLen at hcm; omega
  obtain ⟨R, hR⟩ : ∃ R, w.heap.size = R := ⟨_, rfl⟩
  have hs1 : Sb (w.alloc (.cells #[.pointer none, .int .i64 0] 108)) F A n l := Vs.ch hs ((Ch.refl (fun _ => False) w).alloc _) (fun _ _ _ h => h)
  have HS1 := Bx.mk hs1
  clear hs hs1 hq hz hl hcm
  go_enter Tryz.func84, Tryz.ntmps84
  go_wp2_with fail
  obtain ⟨d0, d1⟩ := cells2 w (.pointer none) (.int .i64 0) 108
  have hC0 := (Ch.refl (fun _ => False) w).alloc (.cells #[.pointer none, .int .i64 0] 108)
  refine (of_any l A n c _ F HS1.out (by omega) hc hcm2).mono ?_
  rintro e w1 ⟨v, rfl, hv, hC⟩
  have hR1 : R < w1.heap.size := by
    have := hC.size
    rw [World.size_alloc] at this
    omega
  have d0' := hC.cell (p := ⟨w.heap.size, 0, none⟩) (fun h => h) d0
  have d1' := hC.cell (p := ⟨w.heap.size, 1, none⟩) (fun h => h) d1
  have hfz : ∀ j, w1.frozen? ⟨w.heap.size, j, none⟩ = false := fun j => by
    rw [hC.frozen (p := ⟨w.heap.size, j, none⟩) (fun h => h) (by rw [World.size_alloc]; exact Nat.lt_succ_self _)]
    exact frozen_new w _ _ j
  have hf0 := hfz 0
  have hf1 := hfz 1
  have HV := Bx.mk hv
  have HC := Bx.mk (hC0.trans hC (fun _ _ h => h))
  rw [hR] at d0' d1' hf0 hf1
  clear d0 d1 hC hC0 hv hfz
  go_wp2_with fail
  refine (len_is' v l n _ HV.out HN.out).mono ?_
  rintro e w' ⟨rfl, rfl⟩
  go_wp2_with fail
  refine (ones_is' v l q _ HV.out HQ.out).mono ?_
  rintro e w' ⟨rfl, rfl⟩
  have hnz : (n : Int) - (q : Int) = (z : Int) := by omega
  go_wp2
  generalize hw2 : (World.setCell (World.setCell w1 _ _) _ _) = w2
  have hC2 : Ch (fun k => k = R) w1 w2 := by rw [← hw2]; exact ((Ch.refl (fun k => k = R) w1).setCell (p := ⟨R, 0, none⟩) (.inl rfl) _).setCell (p := ⟨R, 1, none⟩) (.inl rfl) _
  have f0 : w2.cell? ⟨R, 0, none⟩ = some (.pointer (some ⟨v, 0, none⟩)) := by
    rw [← hw2, World.cell?_setCell_other _ _ _ _ (by intro h; simp only [Addr.mk.injEq] at h; omega), World.cell?_setCell_same _ _ _ d0']
  have f1 : w2.cell? ⟨R, 1, none⟩ = some (.int .i64 z) := by
    have d2 : (w1.setCell ⟨R, 0, none⟩ (.pointer (some ⟨v, 0, none⟩))).cell? ⟨R, 1, none⟩ = some (.int .i64 0) := by
      rw [World.cell?_setCell_other _ _ _ _ (by intro h; simp only [Addr.mk.injEq] at h; omega)]
      exact d1'
    rw [← hw2, World.cell?_setCell_same _ _ _ d2]
  clear hw2 d0' d1' hf0 hf1
  have hV2 : Vec w2 (fun k => w.heap.size ≤ k) v l := (HV.out.ch hC2 (fun k hk _ (e : k = R) => by rw [World.size_alloc] at hk; omega)).mono (fun k _ hk => by rw [World.size_alloc] at hk; omega)
  have HW := Bx.mk hV2
  have HC3 := Bx.mk (HC.out.trans hC2 (fun i hi (e : i = R) => by omega))
  clear hV2 hC2
  refine bodyPost_ret (v := .agg #[.pointer (some ⟨v, 0, none⟩), .int .i64 z]) (by simp [results, Tryz.results84, go_sem, f0, f1]; try rfl) rfl ?_
  exact ⟨v, rfl, HW.out, HC3.out⟩

/-- What Build answers. -/
def bErr (W : Int) (xs : List Int) : Int := if W < 1 ∨ 16 < W then 1 else if 131072 < xs.length then 5 else if xs.all (fitB W.toNat) = true then 0 else 1
section
variable {F : Nat → Prop}
theorem check_out (W : Int) (A : Option Addr) (n c : Nat) (r : Int) (w : World) (hn : n ≤ 9223372036854775807) (h : ((W < 1 ∨ 16 < W) ∧ r = 1) ∨ (1 ≤ W ∧ W ≤ 16 ∧ 131072 < n ∧ r = 5)) :
    Calls Tryz.prog 82 #[.int .i64 W, .slice A n c] w fun e w' => e = .returned (.int .i64 r) ∧ w = w' := by
  have h3 : (W < 1 ∧ r = 1) ∨ (1 ≤ W ∧ 16 < W ∧ r = 1) ∨ (1 ≤ W ∧ W ≤ 16 ∧ 131072 < n ∧ r = 5) := by omega
  clear h
  rcases h3 with ⟨h1, rfl⟩ | ⟨h1, h2, rfl⟩ | ⟨h1, h2, h3, rfl⟩
  all_goals
    go_enter Tryz.func82, Tryz.ntmps82
    go_wp2
    go_ret
    exact ⟨rfl, rfl⟩
theorem all_next {p : Int → Bool} {xs : List Int} {k : Nat} {x : Int} (h : xs[k]? = some x) (h1 : (xs.take k).all p = true) (h2 : p x = true) : (xs.take (k + 1)).all p = true := by
  rw [List.take_add_one, h, List.all_append, h1]
  simp [h2]
theorem all_not {p : Int → Bool} {xs : List Int} {k : Nat} {x : Int} (h : xs[k]? = some x) (h2 : p x = false) : xs.all p = false := by
  rw [List.all_eq_false]
  exact ⟨x, List.mem_of_getElem? h, by rw [h2]; decide⟩
set_option maxHeartbeats 400000 in
theorem check_in (W : Nat) (xs : List Int) (A : Option Addr) (n c : Nat) (r : Int) (w : World) (hs : Sl w F .i64 A n xs) (hW1 : 1 ≤ W) (hW2 : W ≤ 16) (hn : n ≤ 131072) (hr : (if xs.all (fitB W) = true then 0 else 1) = r) :
    Calls Tryz.prog 82 #[.int .i64 W, .slice A n c] w fun e w' => e = .returned (.int .i64 r) ∧ w = w' := by
  have hl := hs.len
  have HRR := Bx.mk hr
  have e1 : decide ((W : Int) < 1) = false := by simp; omega
  have e2 : decide (16 < (W : Int)) = false := by simp; omega
  have e3 : decide (131072 < (n : Int)) = false := by simp; omega
  clear hr
  have HS := Bx.mk hs
  have HL := Bx.mk hl
  clear hs hl
  go_enter Tryz.func82, Tryz.ntmps82
  go_wp2_with fail
  go_loop [6, 20] (fun _ i => ∃ k : Nat, k ≤ n ∧ i = .int .i64 k ∧ Bx ((xs.take k).all (fitB W) = true)) (fun _ i => n - (intOf i).toNat)
  case atStart => exact ⟨0, Nat.zero_le _, rfl, ⟨rfl⟩⟩
  case round =>
    obtain ⟨k, hk, rfl, hA⟩ := hrel
    by_cases hlt : k < n
    · obtain ⟨b, off, x, rfl, _, hx, hcx⟩ := HS.out.at_ hlt
      have HX := Bx.mk hx.out
      clear hx
      obtain ⟨r, hr⟩ : ∃ r, fitB W x = r := ⟨_, rfl⟩
      have HR := Bx.mk hr
      clear hr
      cases r
      · go_wp2_with fail
        refine (fits_any W x false _ hW2 HR.out).mono ?_
        rintro e w' ⟨rfl, rfl⟩
        go_wp2
        go_ret
        exact ⟨ret_int (by rw [← HRR.out, all_not HX.out HR.out]; rfl), rfl⟩
      · go_wp2_with fail
        refine (fits_any W x true _ hW2 HR.out).mono ?_
        rintro e w' ⟨rfl, rfl⟩
        go_wp2
        go_round
        case rel => exact ⟨k + 1, by omega, by go_num, ⟨all_next HX.out hA.out HR.out⟩⟩
        case measure => simp [intOf]; omega
    · obtain rfl : k = n := by omega
      have hA' := hA.out
      rw [List.take_of_length_le (by rw [HL.out]; omega)] at hA'
      have HA := Bx.mk hA'
      clear hA' hA
      go_wp2
      go_ret
      exact ⟨ret_int (by rw [← HRR.out, if_pos HA.out]), rfl⟩
/-- check. -/
theorem check_any (W : Int) (xs : List Int) (A : Option Addr) (n c : Nat) (r : Int) (w : World) (hs : Sl w F .i64 A n xs) (hn : n ≤ 9223372036854775807) (hr : bErr W xs = r) :
    Calls Tryz.prog 82 #[.int .i64 W, .slice A n c] w fun e w' => e = .returned (.int .i64 r) ∧ w = w' := by
  have hl := hs.len
  unfold bErr at hr
  rw [hl] at hr
  by_cases h1 : W < 1 ∨ 16 < W
  · rw [if_pos h1] at hr
    exact check_out W A n c r w hn (.inl ⟨h1, hr.symm⟩)
  · rw [if_neg h1] at hr
    by_cases h2 : 131072 < n
    · rw [if_pos h2] at hr
      exact check_out W A n c r w hn (.inr ⟨by omega, by omega, h2, hr.symm⟩)
    · rw [if_neg h2] at hr
      obtain ⟨m, rfl⟩ : ∃ m : Nat, W = m := ⟨W.toNat, by omega⟩
      rw [Int.toNat_natCast] at hr
      exact check_in m xs A n c r w hs (by omega) (by omega) (by omega) hr

end
end Go.Proofs.YtckkjccjkdidjaaGreatDoor.W

namespace Go.Proofs.YtckkjccjkdidjaaGreatDoor.W
open Go.RowKit Go.Oct Go.Bi Go.Wa

theorem elemB : Elem Tryz.prog 83 4 (.bool false) 1 := ⟨Tryz.underlying83, by kernel_rfl, rfl⟩
theorem mkB (w : World) (n : Nat) (hn : n ≤ 1048576) : (Instr.makeSlice 83 (.int .i64 (n : Int)) (.int .i64 (n : Int))).run Tryz.prog w = .ok (.slice (some ⟨w.heap.size, 0, none⟩) n n) (w.alloc (.cells (madeCells #[.bool false] n) 4)) := run_mk2 elemB n (by omega) (by omega) w
def lvlZ : Value := .agg #[.pointer none, .int .i64 0]
theorem infoL : (Tryz.prog.info? 108).map (fun i => (i.zero, i.size, i.bytes)) = some (some lvlZ, 2, 16) := by kernel_rfl
theorem mkL (w : World) (n : Nat) (hn : n ≤ 1048576) : (Instr.makeSlice 104 (.int .i64 (n : Int)) (.int .i64 (n : Int))).run Tryz.prog w = .ok (.slice (some ⟨w.heap.size, 0, none⟩) n n) (w.alloc (.cells (madeCells lvlZ.cells (n * 2)) 108)) := by
  obtain ⟨i, hi, hz, hs, hby⟩ := info_parts infoL
  have hb' : (i.bytes : Int) * (n : Int) ≤ 281474976710656 := by
    rw [hby]
    have h : ((16 * n : Nat) : Int) ≤ 281474976710656 := by omega
    rwa [Int.natCast_mul] at h
  have hr := run_make (P := Tryz.prog) w 104 108 i lvlZ Tryz.underlying104 hi hz .i64 .i64 n n (by omega) (by omega) hb' (by omega)
  simp only [Int.toNat_natCast, hs] at hr
  exact hr
theorem ownL (w : World) (n : Nat) (hn : n ≤ 1048576) : Own (w.alloc (.cells (madeCells lvlZ.cells (n * 2)) 108)) 108 2 w.heap.size n n (madeCells lvlZ.cells (n * 2)).toList :=
  ⟨World.ownsRow_lit (base := 0) (e := 108) (size := 2) w (madeCells lvlZ.cells (n * 2)) n (Nat.zero_le _) (by unfold maxLen; omega) (by simp [madeCells])⟩

theorem ofUp_set {l : List Bool} {k : Nat} {b : Bool} (h : l[k]? = some b) : ((ofUp l k).map Value.bool).set k (.bool b) = (ofUp l (k + 1)).map Value.bool := by
  obtain ⟨h1, h2⟩ := List.getElem?_eq_some_iff.1 h
  rw [← List.map_set]
  refine congrArg (List.map Value.bool) ?_
  apply List.ext_getElem
  · simp [ofUp]
  · intro i g1 g2
    rw [List.getElem_set]
    simp only [ofUp, List.getElem_map, List.getElem_range]
    by_cases e : k = i
    · subst e
      rw [if_pos rfl, if_pos (by omega), List.getD_eq_getElem?_getD, h]
      rfl
    · rw [if_neg e]
      by_cases e2 : i < k
      · rw [if_pos e2, if_pos (by omega)]
      · rw [if_neg e2, if_neg (by omega)]

/-- A Tree under way: d levels are laid. -/
structure Way (w0 w : World) (G T W d n : Nat) (l : List Nat) (A : Option Addr) : Prop where
  ch : Ch (fun k => k = G) w0 w
  row : ∃ us : List Value, Own w 108 2 G W W us ∧ ∀ d', d' < d → ∃ v : Nat, us[d' * 2]? = some (.pointer (some ⟨v, 0, none⟩)) ∧ us[d' * 2 + 1]? = some (.int .i64 ((bt W l d').count false : Nat)) ∧ Vec w (fun k => T < k) v (bt W l d')
  syms : Sl w (fun k => k ≠ G) .i64 A n (asI (lv W l d))

theorem build_bad (W : Int) (xs : List Int) (A : Option Addr) (n c : Nat) (r : Int) (w : World) (F : Nat → Prop) (hs : Sl w F .i64 A n xs) (hn : n ≤ 9223372036854775807) (hr : bErr W xs = r) (h0 : r ≠ 0) :
    Calls Tryz.prog 54 #[.int .i64 W, .slice A n c] w fun e w' => e = .returned (.tuple #[.pointer none, .int .i64 r]) ∧ w = w' := by
  have HS := Bx.mk hs
  have HR := Bx.mk hr
  have e1 : (r != 0) = true := by simpa using h0
  clear hs hr
  go_enter Tryz.func54, Tryz.ntmps54
  go_wp2_with fail
  refine (check_any W xs A n c r _ HS.out hn HR.out).mono ?_
  rintro e w' ⟨rfl, rfl⟩
  go_wp2
  go_returns
  exact ⟨rfl, rfl⟩

set_option maxHeartbeats 4000000 in
theorem build_ok (W : Nat) (l : List Nat) (A : Option Addr) (n c : Nat) (w : World) (F : Nat → Prop) (hs : Sl w F .i64 A n (asI l)) (hW1 : 1 ≤ W) (hW2 : W ≤ 16) (hn : n ≤ 131072) (hlt : ∀ x ∈ l, x < 2 ^ W) (hc : n ≤ c) (hcm : c ≤ maxLen) (hr : bErr W (asI l) = 0) :
    Calls Tryz.prog 54 #[.int .i64 W, .slice A n c] w fun e w' => ∃ T : Nat, e = .returned (.tuple #[.pointer (some ⟨T, 0, none⟩), .int .i64 0]) ∧ Tr w' (fun k => w.heap.size ≤ k) T W l ∧ Ch (fun _ => False) w w' := by
  have hl : l.length = n := by rw [← asI_len]; exact hs.len
  have HS := Bx.mk hs
  have HR := Bx.mk hr
  have HL := Bx.mk hl
  have HLT := Bx.mk hlt
  have HCM := Bx.mk hcm
  have hmk := mkL w W (by omega)
  have ho := ownL w W (by omega)
  generalize madeCells lvlZ.cells (W * 2) = arr at *
  generalize hus : arr.toList = us0 at *
  have HO := Bx.mk ho
  clear hs hr hl hlt ho hcm
  go_enter Tryz.func54, Tryz.ntmps54
  go_wp2_with fail
  refine (check_any W (asI l) A n c 0 _ HS.out (by omega) HR.out).mono ?_
  rintro e w' ⟨rfl, rfl⟩
  go_wp2_with fail
  obtain ⟨G, hG⟩ : ∃ G, w.heap.size = G := ⟨_, rfl⟩
  obtain ⟨w0, hw0⟩ : ∃ w0, ((w.alloc (.cells arr 108)).alloc (.cells #[.slice (some ⟨w.heap.size, 0, none⟩) W W] 106)) = w0 := ⟨_, rfl⟩
  have hC0 : Ch (fun _ => False) w w0 := by rw [← hw0]; exact (((Ch.refl (fun _ => False) w).alloc _).alloc _)
  have hT0 : w0.cell? ⟨G + 1, 0, none⟩ = some (.slice (some ⟨G, 0, none⟩) W W) := by
    rw [← hw0, ← hG]
    exact cell_new_at (by rw [World.size_alloc])
  have hsz : w0.heap.size = G + 2 := by rw [← hw0, World.size_alloc, World.size_alloc, hG]
  have hO0 : Own w0 108 2 G W W us0 := by
    rw [← hw0, ← hG]
    exact HO.out.keep ((Ch.refl (fun _ => False) _).alloc _)
  have hS0 : Sl w0 (fun k => k ≠ G) .i64 A n (asI l) := (HS.out.mono (G := fun k => k ≠ G) (fun b hb _ => by omega)).ch hC0 (fun _ _ _ h => h)
  rw [hw0, hG]
  have HC0 := Bx.mk hC0
  have HT0 := Bx.mk hT0
  have HW0 : Bx (Way w0 w0 G (G + 1) W 0 n l A) := ⟨⟨Ch.refl _ _, ⟨us0, hO0, fun d' hd' => absurd hd' (by omega)⟩, hS0⟩⟩
  have HGB := Bx.mk hG
  clear hC0 hT0 hO0 hS0 hw0 hG HO HS hmk
  go_loopw [1, 8, 9, 10, 11, 27] (fun s _ _ _ _ i wr => ∃ (d : Nat) (A' : Option Addr) (c' : Nat), d ≤ W ∧ i = .int .i64 d ∧ s = .slice A' n c' ∧ n ≤ c' ∧ c' ≤ maxLen ∧ Way w0 wr G (G + 1) W d n l A') (fun _ _ _ _ _ i _ => W - (intOf i).toNat)
  case atStart => exact ⟨0, A, c, Nat.zero_le _, rfl, rfl, hc, HCM.out, HW0.out⟩
  case round =>
    obtain ⟨d, A', c', hd, rfl, rfl, hc1, hc2, hWay⟩ := hrel
    by_cases hdW : d < W
    · obtain ⟨wo, rfl⟩ : ∃ wo : World, wo = wr := ⟨_, rfl⟩
      have ek : decide ((d : Int) < (W : Int)) = true := by simp; omega
      have hmk := mkB wo n (by omega)
      have hcT := hWay.ch.cell (p := ⟨G + 1, 0, none⟩) (fun h => by have h' : G + 1 = G := h; omega) HT0.out
      have HWay := Bx.mk hWay
      have HLV : Bx (∀ x ∈ lv W l d, x < 2 ^ W) := ⟨fun x hx => HLT.out x (lv_mem hx)⟩
      have HLL : Bx ((lv W l d).length = n) := ⟨by rw [lv_len]; exact HL.out⟩
      have HBL : Bx ((bt W l d).length = n) := ⟨by rw [bt_len]; exact HL.out⟩
      have HC2 := Bx.mk hc2
      have hwsz : G + 2 ≤ wo.heap.size := by have := hWay.ch.size; omega
      obtain ⟨Dg, hDg⟩ : ∃ Dg, wo.heap.size = Dg := ⟨_, rfl⟩
      have hGD : G + 2 ≤ Dg := by omega
      obtain ⟨w1, hw1⟩ : ∃ w1, wo.alloc (.cells (madeCells #[.bool false] n) 4) = w1 := ⟨_, rfl⟩
      have hC1 : Ch (fun _ => False) wo w1 := by rw [← hw1]; exact (Ch.refl (fun _ => False) wo).alloc _
      have hO1 : Own w1 4 1 Dg n n ((ofUp (bt W l d) 0).map Value.bool) := by
        rw [ofUp_zero, HBL.out, List.map_replicate, ← hw1, ← hDg]
        exact own_made1 wo 4 (.bool false) n (by omega)
      have hS1 : Sl w1 (fun k => k ≠ Dg) .i64 A' n (asI (lv W l d)) := (hWay.syms.mono (G := fun k => k ≠ Dg) (fun b hb _ => by omega)).ch hC1 (fun _ _ _ h => h)
      have hcT1 := hC1.cell (fun h => h) hcT
      have hsz1 : w1.heap.size = Dg + 1 := by rw [← hw1, World.size_alloc, hDg]
      have HO1 := Bx.mk hO1
      have HS1 := Bx.mk hS1
      have HC1 := Bx.mk hC1
      have HDg := Bx.mk hDg
      clear hWay hc2 hO1 hS1 hC1
      go_wp2_with fail
      clear hw1 hDg hmk hcT
      go_loopw [10, 11, 35] (fun _ _ i wr => ∃ j : Nat, j ≤ n ∧ i = .int .i64 j ∧ Own wr 4 1 Dg n n ((ofUp (bt W l d) j).map Value.bool) ∧ Ch (fun k => k = Dg) w1 wr) (fun _ _ i _ => n - (intOf i).toNat)
      case atStart => exact ⟨0, Nat.zero_le _, rfl, HO1.out, Ch.refl _ _⟩
      case round =>
        obtain ⟨j, hj, rfl, hO, hC⟩ := hrel
        by_cases hjn : j < n
        · obtain ⟨b1, o1, x0, rfl, _, hx0, hcx⟩ := (HS1.out.ch hC (fun b hb _ (h : b = Dg) => hb h)).at_ hjn
          have hx : (lv W l d)[j]? = some ((lv W l d).getD j 0) := by rw [List.getD_eq_getElem?_getD, List.getElem?_eq_getElem (by rw [HLL.out]; exact hjn)]; rfl
          have hx0' := hx0.out
          unfold asI at hx0'
          rw [List.getElem?_map, hx] at hx0'
          simp only [Option.map_some, Option.some.injEq] at hx0'
          rw [← hx0'] at hcx
          have hxm := HLV.out _ (List.mem_of_getElem? hx)
          generalize (lv W l d).getD j 0 = x at *
          have hbx : (bt W l d)[j]? = some (dgt W d x) := by unfold bt; rw [List.getElem?_map, hx]; rfl
          have hst := hO.stored j (.bool (dgt W d x))
          rw [ofUp_set hbx] at hst
          obtain ⟨r, hr⟩ : ∃ r, dgt W d x = r := ⟨_, rfl⟩
          rw [hr] at hst
          have hcd := hO.cellAt (j := j) (u := .bool ((ofUp (bt W l d) j).getD j false)) (by
            rw [List.getElem?_map, List.getD_eq_getElem?_getD, List.getElem?_eq_getElem (by rw [ofUp_len, HBL.out]; exact hjn)]
            rfl)
          have hfz := hO.frozenAt j
          have hct := hC.cell (p := ⟨G + 1, 0, none⟩) (fun h => by have h' : G + 1 = Dg := h; omega) hcT1
          generalize (ofUp (bt W l d) j).getD j false = old at *
          have HST := Bx.mk hst
          have HR2 := Bx.mk hr
          have HXM := Bx.mk hxm
          have HCQ := Bx.mk hC
          clear hst hr hx hx0 hx0' hbx hO hC hxm
          go_wp2_with fail
          refine (digit_any (G + 1) W W x d _ r _ hct hW2 hdW HXM.out HR2.out).mono ?_
          rintro e w' ⟨rfl, rfl⟩
          go_wp2
          go_roundw
          case rel => exact ⟨j + 1, by omega, by go_num, HST.out.1, HCQ.out.trans HST.out.2 (fun i hi (h : i = Dg) => h)⟩
          case measure => simp [intOf]; omega
        · have hjn' : j = n := by omega
          have eAll : ofUp (bt W l d) n = bt W l d := by
            rw [← HBL.out]
            exact ofUp_all _
          rw [hjn', eAll] at hO
          have hCq : Ch (fun _ => False) wo wr := HC1.out.trans hC (fun i hi (h : i = Dg) => by have := HDg.out; omega)
          obtain ⟨us, hus, hlv⟩ := HWay.out.row
          have husq := hus.keep hCq
          have hul := hus.len
          have hg0 : us[d * 2]? = some us[d * 2] := List.getElem?_eq_getElem (by omega)
          have hg1 : us[d * 2 + 1]? = some us[d * 2 + 1] := List.getElem?_eq_getElem (by omega)
          have hc0 := husq.cellAt hg0
          have hc1' := husq.cellAt hg1
          have hf0 := husq.frozenAt (d * 2)
          have hf1 := husq.frozenAt (d * 2 + 1)
          have hcTq := hCq.cell (p := ⟨G + 1, 0, none⟩) (fun h => h) (HWay.out.ch.cell (p := ⟨G + 1, 0, none⟩) (fun h => by have h' : G + 1 = G := h; omega) HT0.out)
          have HSB : Bx (Sb wr (fun b => b = Dg) (some ⟨Dg, 0, none⟩) n (bt W l d)) := ⟨hO.vs⟩
          generalize hu0 : us[d * 2] = u0 at *
          generalize hu1 : us[d * 2 + 1] = u1 at *
          obtain ⟨z, hz⟩ : ∃ z, (bt W l d).count false = z := ⟨_, rfl⟩
          have HZ := Bx.mk hz
          have HUS := Bx.mk husq
          have HLVS := Bx.mk hlv
          have HCQ := Bx.mk hCq
          have HUL := Bx.mk hul
          have hqs := hCq.size
          have g0 : (0 : Int) ≤ (d : Int) := by omega
          have g1 : (d : Int) < (W : Int) := by omega
          have HSY : Bx (Sl wr (fun k => k ≠ G) .i64 A' n (asI (lv W l d))) := ⟨HWay.out.syms.ch hCq (fun _ _ _ h => h)⟩
          have hnm : n ≤ maxLen := by unfold maxLen; omega
          have ej : decide ((j : Int) < (n : Int)) = false := by simp; omega
          clear hO hC hCq hus husq hlv hul hg0 hg1 hu0 hu1 hz hjn' hj
          go_wp2_with fail
          go_region_held3 (fun w' => w'.cell? ⟨G + 1, 0, none⟩ = some (.slice (some ⟨G, 0, none⟩) W W)) (first | go_keep | exact s2 | exact hcTq) ((go_at_call 84; refine (lay_any (bt W l d) _ n n z _ (fun b => b = Dg) (by exact HSB.out) hn (Nat.le_refl _) hnm HZ.out).mono ?_; rintro e w2 ⟨v, rfl, hv2, hc2⟩; have s2 := hc2.cell (p := ⟨G + 1, 0, none⟩) (fun h => h) hcTq; have s3 := hc2.cell (p := ⟨G, d * 2, none⟩) (fun h => h) hc0; have s4 := hc2.cell (p := ⟨G, d * 2 + 1, none⟩) (fun h => h) hc1'; have s5 := (hc2.frozen (p := ⟨G, d * 2, none⟩) (fun h => h) (lt_of_cell hc0)).trans hf0; have s6 := (hc2.frozen (p := ⟨G, d * 2 + 1, none⟩) (fun h => h) (lt_of_cell hc1')).trans hf1))
          all_goals
            generalize hws : World.setCell (World.setCell w2 _ _) _ _ = ws at *
            have hCs : Ch (fun k => k = G) w2 ws := by rw [← hws]; exact ((Ch.refl (fun k => k = G) w2).setCell (p := ⟨G, d * 2, none⟩) (.inl rfl) _).setCell (p := ⟨G, d * 2 + 1, none⟩) (.inl rfl) _
            have hd2 : Ch (fun _ => False) wr w2 := ((Ch.refl (fun _ => False) wr).drew).trans hc2 (fun _ _ h => h)
            have hOs : Own ws 108 2 G W W ((us.set (d * 2) (.pointer (some ⟨v, 0, none⟩))).set (d * 2 + 1) (.int .i64 z)) := by
              rw [← hws]
              exact (((HUS.out.keep hd2).stored (d * 2) _).1.stored (d * 2 + 1) _).1
            have hrs : wr.heap.size ≤ w2.heap.size := hd2.size
            have hCrs : Ch (fun k => k = G) wr ws := (hd2.mono (fun _ _ h => h.elim)).trans hCs (fun _ _ h => h)
            have hVs : Vec ws (fun k => wr.heap.size ≤ k) v (bt W l d) := hv2.ch hCs (fun k hk _ (e : k = G) => by have hk' : wr.heap.size ≤ k := hk; omega)
            have hSs : Sl ws (fun k => k ≠ G) .i64 A' n (asI (lv W l d)) := HSY.out.ch hCrs (fun k hk _ e => hk e)
            have hBs : Sb ws (fun b => b = Dg) (some ⟨Dg, 0, none⟩) n ((lv W l d).map (dgt W d)) := Vs.ch HSB.out hCrs (fun k (hk : k = Dg) _ (e : k = G) => by omega)
            have HSs := Bx.mk hSs
            have HBs := Bx.mk hBs
            have HVs := Bx.mk hVs
            have HOs := Bx.mk hOs
            have HCrs := Bx.mk hCrs
            have hss : wr.heap.size ≤ ws.heap.size := hCrs.size
            clear hws hCs hd2 hOs hCrs hVs hSs hBs hc2 hv2 s2 s3 s4 s5 s6 hc0 hc1' hf0 hf1
            go_wp2_with fail
            refine (split_any (lv W l d) (dgt W d) n c' n A' _ _ HSs.out HBs.out hn).mono ?_
            rintro e w3 ⟨g, cc, rfl, hs3, hg3, hcc1, hcc2, hc3⟩
            have hWay : Way w0 w3 G (G + 1) W (d + 1) n l (some ⟨g, 0, none⟩) := by
              refine ⟨((HWay.out.ch.trans HCQ.out (fun _ _ h => h.elim)).trans HCrs.out (fun _ _ h => h)).trans hc3 (fun _ _ h => h.elim), ⟨_, HOs.out.keep hc3, fun d' hd' => ?_⟩, hs3.mono (fun b _ (hb : b = g) => by omega)⟩
              by_cases e : d' = d
              · subst e
                refine ⟨v, ?_, ?_, ?_⟩
                · rw [List.getElem?_set_ne (by omega), List.getElem?_set_self (by have := HUL.out; omega)]
                · rw [List.getElem?_set_self (by rw [List.length_set]; have := HUL.out; omega), HZ.out]
                · exact (HVs.out.keep hc3).mono (fun k _ hk => by omega)
              · obtain ⟨v', k1, k2, k3⟩ := HLVS.out d' (by omega)
                refine ⟨v', ?_, ?_, ?_⟩
                · rw [List.getElem?_set_ne (by omega), List.getElem?_set_ne (by omega)]
                  exact k1
                · rw [List.getElem?_set_ne (by omega), List.getElem?_set_ne (by omega)]
                  exact k2
                · exact ((k3.keep HCQ.out).ch HCrs.out (fun k hk _ (e : k = G) => by omega)).keep hc3
            have HWay2 := Bx.mk hWay
            have HCC := Bx.mk hcc2
            clear hWay hs3 hg3 hcc2 hc3
            go_wp2
            go_roundw
            case rel => exact ⟨d + 1, some ⟨g, 0, none⟩, cc, by omega, by go_num, rfl, hcc1, HCC.out, HWay2.out⟩
            case measure => simp [intOf]; omega
    · obtain rfl : d = W := by omega
      obtain ⟨us, hus, hlv⟩ := hWay.row
      have hT : Tr wr (fun k => w.heap.size ≤ k) (G + 1) d l := by
        refine ⟨hW1, hW2, by rw [HL.out]; exact hn, HLT.out, G, ?_, by have := HGB.out; omega, by have := HGB.out; omega, fun d' hd' => ?_⟩
        · exact hWay.ch.cell (p := ⟨G + 1, 0, none⟩) (fun h => by have h' : G + 1 = G := h; omega) HT0.out
        · obtain ⟨v, k1, k2, k3⟩ := hlv d' hd'
          exact ⟨v, hus.cellAt k1, hus.cellAt k2, k3.mono (fun k _ hk => by have := HGB.out; omega)⟩
      have hC : Ch (fun _ => False) w wr := HC0.out.trans hWay.ch (fun i hi (e : i = G) => by have := HGB.out; omega)
      have HT := Bx.mk hT
      have HC := Bx.mk hC
      clear hus hlv hT hC hWay
      go_wp2
      go_returns
      exact ⟨_, rfl, HT.out, HC.out⟩
end Go.Proofs.YtckkjccjkdidjaaGreatDoor.W

namespace Go.Proofs.YtckkjccjkdidjaaGreatDoor.W
open Go.RowKit Go.Oct Go.Bi Go.Wa

theorem fit_nat {W x : Nat} (hW : 1 ≤ W) : fitB W (x : Int) = decide (x < 2 ^ W) := by
  unfold fitB
  generalize 2 ^ W = p
  rw [Bool.eq_iff_iff]
  simp only [Bool.and_eq_true, decide_eq_true_eq]
  omega
theorem bErr_ok {W : Nat} {l : List Nat} (h1 : 1 ≤ W) (h2 : W ≤ 16) (hl : l.length ≤ 131072) (h : ∀ x ∈ l, x < 2 ^ W) : bErr W (asI l) = 0 := by
  unfold bErr
  rw [if_neg (by omega), if_neg (by rw [asI_len]; omega), Int.toNat_natCast, if_pos]
  rw [List.all_eq_true]
  intro x hx
  obtain ⟨y, hy, rfl⟩ := List.mem_map.1 hx
  rw [fit_nat h1]
  exact decide_eq_true (h y hy)
theorem bErr_is {W : Int} {xs : List Int} (h : bErr W xs = 0) : ∃ (w : Nat) (l : List Nat), W = w ∧ 1 ≤ w ∧ w ≤ 16 ∧ xs = asI l ∧ xs.length ≤ 131072 ∧ ∀ x ∈ l, x < 2 ^ w := by
  unfold bErr at h
  by_cases h1 : W < 1 ∨ 16 < W
  · rw [if_pos h1] at h
    cases h
  · rw [if_neg h1] at h
    by_cases h2 : 131072 < xs.length
    · rw [if_pos h2] at h
      cases h
    · rw [if_neg h2] at h
      by_cases h3 : xs.all (fitB W.toNat) = true
      · rw [List.all_eq_true] at h3
        refine ⟨W.toNat, xs.map Int.toNat, by omega, by omega, by omega, ?_, by omega, fun x hx => ?_⟩
        · unfold asI
          rw [List.map_map]
          refine ((List.map_congr_left (g := id) (fun x hx => ?_)).trans (List.map_id xs)).symm
          obtain ⟨n, rfl, _⟩ := fit_in (h3 x hx)
          rfl
        · obtain ⟨y, hy, rfl⟩ := List.mem_map.1 hx
          obtain ⟨n, rfl, hn⟩ := fit_in (h3 y hy)
          exact hn
      · rw [if_neg h3] at h
        cases h

theorem build_val (Wi : Int) (W : Nat) (l : List Nat) (A : Option Addr) (n c : Nat) (w : World) (F : Nat → Prop) (hWi : Wi = W) (hs : Sl w F .i64 A n (asI l)) (hW1 : 1 ≤ W) (hW2 : W ≤ 16) (hn : n ≤ 131072) (hlt : ∀ x ∈ l, x < 2 ^ W) (hc : n ≤ c) (hcm : c ≤ maxLen) :
    Calls Tryz.prog 54 #[.int .i64 Wi, .slice A n c] w fun e w' => ∃ T : Nat, e = .returned (.tuple #[.pointer (some ⟨T, 0, none⟩), .int .i64 0]) ∧ Tr w' (fun k => w.heap.size ≤ k) T W l ∧ Ch (fun _ => False) w w' := by
  subst hWi
  have hl : l.length = n := by rw [← asI_len]; exact hs.len
  exact build_ok W l A n c w F hs hW1 hW2 hn hlt hc hcm (bErr_ok hW1 hW2 (by omega) hlt)

/-- The document's example. -/
theorem four_ex : ∃ l : List Nat, asI l = [2, 5, 2, 7] ∧ (∀ x ∈ l, x < 2 ^ 3) ∧ ((rk (hit l 2) true 3 : Nat) : Int) = 2 ∧ sel (hit l 2) true 1 = 2 ∧ ((bel l 5 0 4 : Nat) : Int) = 2 :=
  ⟨[2, 5, 2, 7], rfl, by decide, by decide, sel_eq (.inl ⟨2, rfl, by decide, by decide⟩), by decide⟩

theorem and_low (x : Int) (k : Nat) (hk : k < 63) : bits .and .i64 x ((2 ^ k - 1 : Nat) : Int) = (((x % ((2 ^ k : Nat) : Int)).toNat : Nat) : Int) := by
  have hp : (2 : Nat) ^ k < 2 ^ 63 := Nat.pow_lt_pow_right (by decide) hk
  have hp0 : 0 < 2 ^ k := Nat.pow_pos (by decide)
  have hd : (2 : Nat) ^ k ∣ 18446744073709551616 := ⟨2 ^ (64 - k), by rw [← Nat.pow_add, show k + (64 - k) = 64 by omega]⟩
  have h2 : (BitVec.ofInt 64 (((2 ^ k - 1 : Nat)) : Int)).toNat = 2 ^ k - 1 := by
    rw [BitVec.ofInt_natCast, BitVec.toNat_ofNat]; exact Nat.mod_eq_of_lt (by omega)
  have h1 : (BitVec.ofInt 64 x).toNat = (x % (18446744073709551616 : Nat)).toNat := by
    rw [BitVec.toNat_ofInt]
  have h3 : (x % (18446744073709551616 : Nat)).toNat % 2 ^ k = (x % ((2 ^ k : Nat) : Int)).toNat := by
    have e1 : ((x % ((18446744073709551616 : Nat) : Int)).toNat : Int) = x % ((18446744073709551616 : Nat) : Int) := by omega
    have e2 : (((x % ((18446744073709551616 : Nat) : Int)).toNat % 2 ^ k : Nat) : Int) = x % ((2 ^ k : Nat) : Int) := by
      rw [Int.natCast_emod, e1]
      exact Int.emod_emod_of_dvd x (Int.natCast_dvd_natCast.2 hd)
    omega
  show IntKind.i64.wrap ((BitVec.ofInt 64 x &&& BitVec.ofInt 64 (((2 ^ k - 1 : Nat)) : Int)).toNat : Int) = _
  rw [BitVec.toNat_and, h1, h2, Nat.and_two_pow_sub_one_eq_mod, h3]
  have h4 : (x % ((2 ^ k : Nat) : Int)).toNat < 2 ^ k := by
    have := Int.emod_lt_of_pos x (show (0 : Int) < ((2 ^ k : Nat) : Int) by omega)
    have := Int.emod_nonneg x (show ((2 ^ k : Nat) : Int) ≠ 0 by omega)
    omega
  exact IntWalk.i64_in _ (by omega)
/-- The low digits of each. -/
def cut (p : Nat) (xs : List Int) : List Nat := xs.map fun x => (x % (p : Int)).toNat
theorem cut_len (p : Nat) (xs : List Int) : (cut p xs).length = xs.length := List.length_map ..
theorem cut_lt {p : Nat} (hp : 0 < p) {xs : List Int} : ∀ x ∈ cut p xs, x < p := fun x hx => by
  obtain ⟨y, _, rfl⟩ := List.mem_map.1 hx
  have := Int.emod_lt_of_pos y (show (0 : Int) < (p : Int) by omega)
  have := Int.emod_nonneg y (show (p : Int) ≠ 0 by omega)
  omega
theorem cut_at {p : Nat} {xs : List Int} {k : Nat} {x : Int} (h : xs[k]? = some x) : (cut p xs)[k]? = some (x % (p : Int)).toNat := by
  unfold cut
  rw [List.getElem?_map, h]
  rfl
theorem cut_app (p : Nat) (xs ys : List Int) : cut p (xs ++ ys) = cut p xs ++ cut p ys := List.map_append
end Go.Proofs.YtckkjccjkdidjaaGreatDoor.W
