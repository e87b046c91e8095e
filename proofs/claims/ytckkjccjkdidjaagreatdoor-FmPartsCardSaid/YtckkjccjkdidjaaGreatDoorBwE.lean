/-
  The contract of the document's answer haystackref6.Counts.
-/
/-
  The contract of bwt.Counts: how many symbols are less than each one.
  Conditions: the row reads as it says.
-/
import Derived.Test.YtckkjccjkdidjaaGreatDoorBwD
import Derived.Test.YtckkjccjkdidjaaGreatDoorSuA
import Derived.Deep.DeepCutAuto
namespace Go.Proofs.YtckkjccjkdidjaaGreatDoor
open Go.RowKit Go.Oct Go.Su

/-- How many are less. -/
def less (l : List Int) (c : Nat) : Nat := l.countP fun x => decide (x < (c : Int))
def cnts (l : List Int) (W : Nat) : List Nat := (List.range (2 ^ W + 1)).map (less l)
/-- The width that counts. -/
def clampW (z : Int) : Nat := if z < 0 then 0 else if 16 < z then 16 else z.toNat
/-- Each symbol's own count, under way: those below 0 first. -/
def one (l : List Int) (k c : Nat) : Nat := if c = 0 then (l.take k).countP (fun x => decide (x < 0)) else (l.take k).countP fun x => decide (x = (c : Int) - 1)
def cup (l : List Int) (N k : Nat) : List Nat := (List.range N).map (one l k)
theorem row_ext {N : Nat} {f : Nat → Nat} {a : List Nat} (hl : a.length = N) (h : ∀ p, p < N → a[p]? = some (f p)) : a = (List.range N).map f := by
  apply List.ext_getElem?
  intro p
  rcases Nat.lt_or_ge p N with h1 | h1
  · rw [h p h1, List.getElem?_map, List.getElem?_range h1]
    rfl
  · rw [List.getElem?_eq_none (by omega), List.getElem?_eq_none (by simpa using h1)]
theorem row_at {N p : Nat} {f : Nat → Nat} (h : p < N) : ((List.range N).map f)[p]? = some (f p) := by
  rw [List.getElem?_map, List.getElem?_range h]
  rfl
theorem row_set {N p v : Nat} {f g : Nat → Nat} (hp : p < N) (h1 : g p = v) (h2 : ∀ q, q ≠ p → g q = f q) : ((List.range N).map f).set p v = (List.range N).map g := by
  refine row_ext (by simp) fun q hq => ?_
  by_cases e : p = q
  · subst e
    rw [List.getElem?_set_self (by simpa using hp), h1]
  · rw [List.getElem?_set_ne e, row_at hq, h2 q (fun e2 => e e2.symm)]
theorem one_next {l : List Int} {k : Nat} {x : Int} (h : l[k]? = some x) (c : Nat) : one l (k + 1) c = one l k c + (if (c = 0 ∧ x < 0) ∨ (c ≠ 0 ∧ x = (c : Int) - 1) then 1 else 0) := by
  unfold one
  rw [List.take_add_one, h, Option.toList_some, List.countP_append, List.countP_append]
  by_cases h0 : c = 0
  · rw [if_pos h0, if_pos h0]
    by_cases hx : x < 0 <;> simp [h0, hx]
  · rw [if_neg h0, if_neg h0]
    by_cases hx : x = (c : Int) - 1 <;> simp [h0, hx]
theorem cup_neg {l : List Int} {N k : Nat} {x : Int} (hN : 0 < N) (h : l[k]? = some x) (hx : x < 0) : (cup l N k).set 0 (one l k 0 + 1) = cup l N (k + 1) := by
  unfold cup
  refine row_set hN ?_ fun q hq => ?_
  · rw [one_next h, if_pos (.inl ⟨rfl, hx⟩)]
  · rw [one_next h, if_neg (by omega)]
    rfl
theorem cup_in {l : List Int} {N k y : Nat} (h : l[k]? = some (y : Int)) (hy : y + 1 < N) : (cup l N k).set (y + 1) (one l k (y + 1) + 1) = cup l N (k + 1) := by
  unfold cup
  refine row_set hy ?_ fun q hq => ?_
  · rw [one_next h, if_pos (.inr ⟨by omega, by omega⟩)]
  · rw [one_next h, if_neg (by omega)]
    rfl
theorem cup_out {l : List Int} {N k : Nat} {x : Int} (h : l[k]? = some x) (h0 : 0 ≤ x) (hx : (N : Int) - 1 ≤ x) : cup l N (k + 1) = cup l N k := by
  unfold cup
  refine List.map_congr_left fun c hc => ?_
  have := List.mem_range.1 hc
  rw [one_next h, if_neg (by omega)]
  rfl
theorem less_next (c : Nat) : ∀ l : List Int, less l (c + 1) = l.countP (fun x => decide (x = ((c + 1 : Nat) : Int) - 1)) + less l c
  | [] => rfl
  | a :: l => by
    have ih := less_next c l
    unfold less at *
    rw [List.countP_cons, List.countP_cons, List.countP_cons, ih]
    have e1 : (if decide (a < ((c + 1 : Nat) : Int)) = true then 1 else 0) = (if decide (a = ((c + 1 : Nat) : Int) - 1) = true then 1 else 0) + (if decide (a < (c : Int)) = true then 1 else 0) := by
      by_cases h1 : a < (c : Int)
      · rw [if_pos (decide_eq_true (show a < ((c + 1 : Nat) : Int) by omega)), if_neg (by rw [decide_eq_true_eq]; omega), if_pos (decide_eq_true h1)]
      · by_cases h3 : a = ((c + 1 : Nat) : Int) - 1
        · rw [if_pos (decide_eq_true (show a < ((c + 1 : Nat) : Int) by omega)), if_pos (decide_eq_true h3), if_neg (by rw [decide_eq_true_eq]; omega)]
        · rw [if_neg (by rw [decide_eq_true_eq]; omega), if_neg (by rw [decide_eq_true_eq]; exact h3), if_neg (by rw [decide_eq_true_eq]; exact h1)]
    rw [e1]
    omega
/-- .. summed up, under way. -/
def sup (l : List Int) (N c : Nat) : List Nat := (List.range N).map fun q => if q < c then less l q else one l l.length q
theorem one_all (l : List Int) (q : Nat) : one l l.length (q + 1) = l.countP (fun x => decide (x = ((q + 1 : Nat) : Int) - 1)) := by
  unfold one
  rw [if_neg (by omega), List.take_length]
theorem sup_start (l : List Int) (N : Nat) : sup l N 1 = cup l N l.length := by
  unfold sup cup
  refine List.map_congr_left fun c _ => ?_
  by_cases h : c = 0
  · subst h
    unfold one less
    rw [if_pos (by omega), if_pos rfl, List.take_length]
    rfl
  · rw [if_neg (by omega)]
theorem sup_next {l : List Int} {N c : Nat} (hc : c + 1 < N) : (sup l N (c + 1)).set (c + 1) (one l l.length (c + 1) + less l c) = sup l N (c + 2) := by
  unfold sup
  refine row_set hc ?_ fun q hq => ?_
  · rw [if_pos (by omega), less_next, one_all]
  · by_cases h : q < c + 1
    · rw [if_pos (by omega), if_pos h]
    · rw [if_neg (by omega), if_neg h]
theorem sup_all (l : List Int) (W : Nat) : sup l (2 ^ W + 1) (2 ^ W + 1) = cnts l W := by
  unfold sup cnts
  refine List.map_congr_left fun c hc => ?_
  rw [if_pos (List.mem_range.1 hc)]
section
variable {F : Nat → Prop}
end
end Go.Proofs.YtckkjccjkdidjaaGreatDoor

namespace Go.Proofs.YtckkjccjkdidjaaGreatDoor
open Go.RowKit Go.Oct Go.Su

section
variable {F : Nat → Prop}
set_option maxHeartbeats 1000000 in
theorem counts_own (l : List Int) (A : Option Addr) (n c W : Nat) (z : Int) (w : World) (hs : Sl w F .i64 A n l) (hn : n ≤ 65536) (hW : clampW z = W) :
    Calls Tryz.prog 55 #[.slice A n c, .int .i64 z] w fun e w' => ∃ g : Nat, e = .returned (.slice (some ⟨g, 0, none⟩) (2 ^ W + 1) (2 ^ W + 1)) ∧ Own w' 3 1 g (2 ^ W + 1) (2 ^ W + 1) (vals (cnts l W)) ∧ w.heap.size ≤ g ∧ Ch (fun _ => False) w w' := by
  have hcase : (z < 0 ∧ W = 0) ∨ (16 < z ∧ W = 16) ∨ (z = W ∧ W ≤ 16) := by
    rw [← hW]
    unfold clampW
    by_cases h1 : z < 0
    · rw [if_pos h1]
      exact .inl ⟨h1, rfl⟩
    · rw [if_neg h1]
      by_cases h2 : 16 < z
      · rw [if_pos h2]
        exact .inr (.inl ⟨h2, rfl⟩)
      · rw [if_neg h2]
        exact .inr (.inr ⟨by omega, by omega⟩)
  have hW16 : W ≤ 16 := by omega
  have HS := Bx.mk (hs.mono (G := fun b => b < w.heap.size) (fun b h _ => h))
  have HL := Bx.mk hs.len
  have HCN := Bx.mk (sup_all l W)
  obtain ⟨P, hP⟩ : ∃ P, 2 ^ W = P := ⟨_, rfl⟩
  have hP2 : P ≤ 65536 := by
    rw [← hP]
    exact Nat.pow_le_pow_right (n := 2) (by decide) hW16
  have hcase : (z < 0 ∧ W = 0 ∧ Bx (P = 1)) ∨ (16 < z ∧ W = 16 ∧ Bx (P = 65536)) ∨ (z = W ∧ W ≤ 16) := by
    rcases hcase with ⟨h1, h2⟩ | ⟨h1, h2⟩ | h
    · exact .inl ⟨h1, h2, ⟨by rw [← hP, h2]⟩⟩
    · exact .inr (.inl ⟨h1, h2, ⟨by rw [← hP, h2]⟩⟩)
    · exact .inr (.inr h)
  have hPW : (2 : Int) ^ W = (P : Int) := by
    rw [← hP, Int.natCast_pow]
    rfl
  have HPW : Bx (wrap64 ((2 : Int) ^ W) = (P : Int)) := ⟨by rw [hPW]; unfold wrap64; omega⟩
  rw [hP] at HCN ⊢
  obtain ⟨cn, hcn⟩ : ∃ cn, cnts l W = cn := ⟨_, rfl⟩
  rw [hcn] at HCN ⊢
  have hmk := mkI w (P + 1) (by omega)
  rw [show ((P + 1 : Nat) : Int) = (P : Int) + 1 by omega] at hmk
  clear hW hs hPW hP hcn
  go_enter Tryz.func55, Tryz.ntmps55
  go_upto_region 1 with fail
  go_cut [5] (fun s5 wx => s5 = .int .i64 (P : Int) ∧ wx = w)
  case first =>
    rcases hcase with ⟨h1, rfl, HP1⟩ | ⟨h1, rfl, HP1⟩ | ⟨rfl, h1⟩
    · have g1 : ¬ 16 < z := by omega
      clear HPW
      go_wp2_with fail
      all_goals
        go_meet
        exact ⟨by rw [HP1.out]; rfl, rfl⟩
    · clear HPW
      go_wp2_with fail
      all_goals
        go_meet
        exact ⟨by rw [HP1.out]; rfl, rfl⟩
    · have hwp := HPW.out
      go_wp2_with fail
      all_goals
        go_meet
        exact ⟨by first | rfl | (congr 1; done) | (congr 1; omega), rfl⟩
  case rest =>
    obtain ⟨rfl, rfl⟩ := hcut
    clear HPW
    go_wp2_with fail
    obtain ⟨H, hH⟩ : ∃ H, wc.heap.size = H := ⟨_, rfl⟩
    obtain ⟨w0, hw0⟩ : ∃ w0, wc.alloc (.cells (madeCells #[.int .i64 0] (P + 1)) 3) = w0 := ⟨_, rfl⟩
    have hC0 : Ch (fun _ => False) wc w0 := by rw [← hw0]; exact (Ch.refl (fun _ => False) wc).alloc _
    have hz0 : List.replicate (P + 1) 0 = cup l (P + 1) 0 := by
      refine row_ext (by simp) fun p hp => ?_
      rw [List.getElem?_replicate, if_pos hp]
      unfold one
      simp
    have hO0 : Own w0 3 1 H (P + 1) (P + 1) (vals (cup l (P + 1) 0)) := by
      rw [← hz0]
      unfold vals
      rw [List.map_replicate, ← hw0, ← hH]
      exact own_made1 wc 3 (.int .i64 0) (P + 1) (by omega)
    rw [hH] at HS
    have HS0 : Bx (Sl w0 (fun b => b < H) .i64 A n l) := ⟨HS.out.ch hC0 (fun _ _ _ h => h)⟩
    have HO0 := Bx.mk hO0
    have HC0 := Bx.mk hC0
    have HH := Bx.mk (Nat.le_of_eq hH)
    rw [hw0, hH]
    clear hw0 hH hC0 hO0 HS hmk hz0 hcase
    go_loopw [8, 19] (fun _ i wr => ∃ k : Nat, k ≤ n ∧ i = .int .i64 k ∧ Own wr 3 1 H (P + 1) (P + 1) (vals (cup l (P + 1) k)) ∧ Ch (fun b => b = H) w0 wr) (fun _ i _ => n - (intOf i).toNat)
    case atStart => exact ⟨0, Nat.zero_le _, rfl, HO0.out, Ch.refl _ _⟩
    case round =>
      obtain ⟨k, hk, rfl, hO, hC⟩ := hrel
      by_cases hlt : k < n
      · have dk : decide ((k : Int) < (n : Int)) = true := by simp; omega
        obtain ⟨b, off, x, rfl, _, hx, hcx⟩ := (HS0.out.ch hC (fun b hb _ (e : b = H) => by omega)).at_ hlt
        have i1 : (0 : Int) ≤ (k : Int) := by omega
        have i2 : (k : Int) < (n : Int) := by omega
        by_cases h0 : x < 0
        · have dx : decide (x < (P : Int)) = true := by simp; omega
          have hnx := cup_neg (N := P + 1) (by omega) hx.out h0
          have hcell := hO.cellN (j := 0) (by omega)
          have hg : gn (cup l (P + 1) k) 0 = one l k 0 := gn_at (row_at (by omega))
          have hle : one l k 0 ≤ 65536 := by
            unfold one
            rw [if_pos rfl]
            have h1 := List.countP_le_length (p := fun x : Int => decide (x < 0)) (l := l.take k)
            rw [List.length_take] at h1
            omega
          rw [hg] at hcell
          have hfz := hO.frozenAt 0
          have hst := hO.storedN 0 (one l k 0 + 1)
          rw [hnx] at hst
          generalize one l k 0 = y at *
          rw [show ((y + 1 : Nat) : Int) = (y : Int) + 1 by omega] at hst
          have HST := Bx.mk hst
          have HCC := Bx.mk (hC.trans hst.2 (fun _ _ h => h))
          have i3 : (0 : Int) < (P : Int) + 1 := by omega
          clear hO hC hx hnx hg hst
          by_cases hx1 : x = -1
          · subst hx1
            clear h0
            go_wp2
            go_roundw
            case rel => exact ⟨k + 1, by omega, by go_num, HST.out.1, HCC.out⟩
            case measure => simp [intOf]; omega
          · have hx2 : x < -1 := by omega
            clear h0 hx1
            go_wp2
            go_roundw
            case rel => exact ⟨k + 1, by omega, by go_num, HST.out.1, HCC.out⟩
            case measure => simp [intOf]; omega
        · obtain ⟨q, rfl⟩ : ∃ q : Nat, x = q := ⟨x.toNat, by omega⟩
          by_cases hq : q < P
          · have hnx := cup_in hx.out (show q + 1 < P + 1 by omega)
            have hcell := hO.cellN (j := q + 1) (by omega)
            have hg : gn (cup l (P + 1) k) (q + 1) = one l k (q + 1) := gn_at (row_at (by omega))
            have hle : one l k (q + 1) ≤ 65536 := by
              unfold one
              rw [if_neg (by omega)]
              have h1 := List.countP_le_length (p := fun x : Int => decide (x = ((q + 1 : Nat) : Int) - 1)) (l := l.take k)
              rw [List.length_take] at h1
              omega
            rw [hg] at hcell
            have hfz := hO.frozenAt (q + 1)
            have hst := hO.storedN (q + 1) (one l k (q + 1) + 1)
            rw [hnx] at hst
            generalize one l k (q + 1) = y at *
            rw [show ((y + 1 : Nat) : Int) = (y : Int) + 1 by omega] at hst
            have HST := Bx.mk hst
            have HCC := Bx.mk (hC.trans hst.2 (fun _ _ h => h))
            have i3 : (0 : Int) ≤ (q : Int) + 1 := by omega
            have i4 : (q : Int) + 1 < (P : Int) + 1 := by omega
            have i5 : (-1 : Int) < (q : Int) := by omega
            have dq : decide ((q : Int) < (P : Int)) = true := by simp; omega
            have dq2 : decide (q < P) = true := by simp; omega
            clear hO hC hx hnx hg hst h0
            go_wp2
            go_roundw
            case rel => exact ⟨k + 1, by omega, by go_num, HST.out.1, HCC.out⟩
            case measure => simp [intOf]; omega
          · have hnx := cup_out (N := P + 1) hx.out (by omega) (by omega)
            rw [← hnx] at hO
            have HO := Bx.mk hO
            have HCC := Bx.mk hC
            have dq : decide ((q : Int) < (P : Int)) = false := by simp; omega
            have dq2 : decide (q < P) = false := by simp; omega
            clear hO hC hx hnx h0
            go_wp2
            go_roundw
            case rel => exact ⟨k + 1, by omega, by go_num, HO.out, HCC.out⟩
            case measure => simp [intOf]; omega
      · have hkn : k = n := by omega
        have dk : decide ((k : Int) < (n : Int)) = false := by simp; omega
        have hO1 : Own wr 3 1 H (P + 1) (P + 1) (vals (sup l (P + 1) (0 + 1))) := by
          rw [sup_start, HL.out, ← hkn]
          exact hO
        have HO1 := Bx.mk hO1
        have HCr := Bx.mk (HC0.out.trans hC (S := fun _ => False) (fun i hi (e : i = H) => by have := HH.out; omega))
        obtain ⟨wo, rfl⟩ : ∃ wo : World, wo = wr := ⟨_, rfl⟩
        clear hO hC hkn hO1
        go_wp2_with fail
        go_loopw [9, 36] (fun _ i wr => ∃ r : Nat, r ≤ P ∧ i = .int .i64 r ∧ Own wr 3 1 H (P + 1) (P + 1) (vals (sup l (P + 1) (r + 1))) ∧ Ch (fun b => b = H) wo wr) (fun _ i _ => P - (intOf i).toNat)
        case atStart => exact ⟨0, Nat.zero_le _, rfl, HO1.out, Ch.refl _ _⟩
        case round =>
          obtain ⟨r, hq, rfl, hO, hC⟩ := hrel
          by_cases hqn : r < P
          · have hnx := sup_next (l := l) (show r + 1 < P + 1 by omega)
            have hc1 := hO.cellN (j := r + 1) (by omega)
            have hc2 := hO.cellN (j := r) (by omega)
            have g1 : gn (sup l (P + 1) (r + 1)) (r + 1) = one l l.length (r + 1) := gn_at (by unfold sup; rw [row_at (by omega), if_neg (by omega)])
            have g2 : gn (sup l (P + 1) (r + 1)) r = less l r := gn_at (by unfold sup; rw [row_at (by omega), if_pos (by omega)])
            have b1 : one l l.length (r + 1) ≤ 65536 := by
              unfold one
              rw [if_neg (by omega)]
              have h1 := List.countP_le_length (p := fun x : Int => decide (x = ((r + 1 : Nat) : Int) - 1)) (l := l.take l.length)
              rw [List.length_take, HL.out] at h1
              rw [HL.out]
              omega
            have b2 : less l r ≤ 65536 := by
              unfold less
              have h1 := List.countP_le_length (p := fun x : Int => decide (x < (r : Int))) (l := l)
              rw [HL.out] at h1
              omega
            rw [g1] at hc1
            rw [g2] at hc2
            have hfz := hO.frozenAt (r + 1)
            have hst := hO.storedN (r + 1) (one l l.length (r + 1) + less l r)
            rw [hnx] at hst
            generalize one l l.length (r + 1) = u at *
            generalize less l r = v at *
            rw [show ((u + v : Nat) : Int) = (u : Int) + (v : Int) by omega] at hst
            have HST := Bx.mk hst
            have HCC := Bx.mk (hC.trans hst.2 (fun _ _ h => h))
            have dq : decide ((r : Int) < (P : Int)) = true := by simp; omega
            have i3 : (0 : Int) ≤ (r : Int) + 1 := by omega
            have i4 : (r : Int) + 1 < (P : Int) + 1 := by omega
            have i5 : (0 : Int) ≤ (r : Int) := by omega
            have i6 : (r : Int) < (P : Int) + 1 := by omega
            clear hO hC hnx g1 g2 hst
            go_wp2_with fail
            go_region
            all_goals
              go_wp2
              go_roundw
              case rel => exact ⟨r + 1, by omega, by go_num, HST.out.1.keep ((Ch.refl (fun _ => False) _).drew), HCC.out.drew⟩
              case measure => simp [intOf]; omega
          · have hqP : r = P := by omega
            have HOF : Bx (Own wr 3 1 H (P + 1) (P + 1) (vals cn)) := ⟨by rw [hqP, HCN.out] at hO; exact hO⟩
            have HCF : Bx (Ch (fun _ => False) wc wr) := ⟨HCr.out.trans hC (fun i hi (e : i = H) => by have := HH.out; omega)⟩
            have dq : decide ((r : Int) < (P : Int)) = false := by simp; omega
            have dq2 : decide (r < P) = false := by simp; omega
            clear hO hC hqP
            go_wp2
            go_ret
            exact ⟨H, rfl, HOF.out, HH.out, HCF.out⟩
theorem counts_any (l : List Int) (A : Option Addr) (n c W : Nat) (z : Int) (w : World) (hs : Sl w F .i64 A n l) (hn : n ≤ 65536) (hW : clampW z = W) :
    Calls Tryz.prog 55 #[.slice A n c, .int .i64 z] w fun e w' => ∃ (A' : Option Addr) (c' : Nat), e = .returned (.slice A' (2 ^ W + 1) c') ∧ Sl w' (fun b => w.heap.size ≤ b) .i64 A' (2 ^ W + 1) (asI (cnts l W)) ∧ Ch (fun _ => False) w w' :=
  (counts_own l A n c W z w hs hn hW).mono fun e w' ⟨g, he, hO, hg, hC⟩ => ⟨some ⟨g, 0, none⟩, 2 ^ W + 1, he, by
    rw [← vals_asI] at hO
    exact hO.sl.mono (fun b _ hb => by omega), hC⟩
end
end Go.Proofs.YtckkjccjkdidjaaGreatDoor
