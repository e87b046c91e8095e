/-
  The walk of the law SuffixOrder: true for every input.
-/
import Derived.Test.YtmkhndajogcojaaSvKnown
import Derived.Test.YtmkhndajogcojaaSvDrawn
namespace Go.Proofs.Ytmkhndajogcojaa
open Go.RowKit Go.Oct Go.Su
theorem gs_drop (s : List Int) (k j : Nat) : gs (s.drop k) j = gs s (k + j) := by
  unfold gs
  rw [List.getD_eq_getElem?_getD, List.getD_eq_getElem?_getD, List.getElem?_drop]
theorem pos_drop {s : List Int} (h : Pos s) (k : Nat) : Pos (s.drop k) := fun x hx => h x (List.mem_of_mem_drop hx)
section
set_option maxHeartbeats 4000000 in
theorem orderlaw_any (s : List Int) (A : Option Addr) (n c : Nat) (w : World) (hs : Sl w (fun _ => True) .i64 A n s) (hc : n ≤ c) (hcm : c ≤ maxLen) :
    Calls Try.prog 4 #[.slice A n c] w fun e w' => e = .returned (.bool true) ∧ Ch (fun _ => False) w w' := by
  have hcm2 : c ≤ 9223372036854775807 := by unfold maxLen at hcm; omega
  clear hcm
  by_cases hlong : 200 < n
  · go_enter Try.func4, Try.ntmps4
    go_wp2
    go_ret
    exact ⟨rfl, Ch.refl _ _⟩
  · have hn : n ≤ 200 := by omega
    have d1 : decide (200 < (n : Int)) = false := by simp; omega
    have d2 : decide (200 < n) = false := by simp; omega
    have HS := Bx.mk hs
    have HL := Bx.mk hs.len
    clear hs hlong
    go_enter Try.func4, Try.ntmps4
    go_wp2_with fail
    go_loop [3] (fun i => ∃ k : Nat, k ≤ n ∧ i = .int .i64 k ∧ Bx ((s.take k).all (fun x => decide (0 ≤ x)) = true)) (fun i => n - (intOf i).toNat)
    case atStart => exact ⟨0, Nat.zero_le _, rfl, ⟨rfl⟩⟩
    case round =>
      obtain ⟨k, hk, rfl, hA⟩ := hrel
      by_cases hlt : k < n
      · obtain ⟨b, off, x, rfl, _, hx, hcx⟩ := HS.out.at_ hlt
        have dk : decide ((k : Int) < (n : Int)) = true := by simp; omega
        by_cases h0 : x < 0
        · have dx : decide (x < 0) = true := by simpa using h0
          clear hx
          go_wp2_with fail
          refine (known_any _).mono ?_
          rintro e w6 ⟨rfl, hC6⟩
          go_wp2
          go_ret
          exact ⟨rfl, hC6⟩
        · have h1 : 0 ≤ x := by omega
          have dx : decide (x < 0) = false := by simpa using h1
          have hall : (s.take (k + 1)).all (fun x => decide (0 ≤ x)) = true := by
            rw [List.take_add_one, hx.out, List.all_append, hA.out]
            simpa using h1
          have HAA := Bx.mk hall
          clear hx hall h0
          go_wp2
          go_round
          case rel => exact ⟨k + 1, by omega, by go_num, HAA⟩
          case measure => simp [intOf]; omega
      · have h2 := hA.out
        rw [List.take_of_length_le (by rw [HL.out]; omega)] at h2
        have HP := Bx.mk (pos_of_all h2)
        have dk : decide ((k : Int) < (n : Int)) = false := by simp; omega
        have har := array_ok s A n c w HS.out (by omega) HP.out
        clear h2 hA
        go_wp2_with fail
        refine har.mono ?_
        rintro e w1 ⟨A1, c1, L, rfl, hSA, hS1, _, _, hC1⟩
        have hnn : ((n : Int) != (n : Int)) = false := by simp
        have hmk := mkB w1 n (by omega)
        have HSA := Bx.mk hSA
        have HS1 : Bx (Sl w1 (fun b => b < w1.heap.size) .i64 A1 n (asI L)) := ⟨hS1.mono (fun b h _ => h)⟩
        have HA1 : Bx (Sl w1 (fun b => b < w1.heap.size) .i64 A n s) := ⟨(HS.out.ch hC1 (fun _ _ _ h => h)).mono (fun b h _ => h)⟩
        have HC1 := Bx.mk hC1
        have HLn : Bx (L.length = n) := ⟨by rw [hSA.len, HL.out]⟩
        clear hSA hS1 hC1 har
        go_wp2_with fail
        obtain ⟨H, hH⟩ : ∃ H, w1.heap.size = H := ⟨_, rfl⟩
        obtain ⟨w2, hw2⟩ : ∃ w2, w1.alloc (.cells (madeCells #[.bool false] n) 4) = w2 := ⟨_, rfl⟩
        have hC2 : Ch (fun _ => False) w1 w2 := by rw [← hw2]; exact (Ch.refl (fun _ => False) w1).alloc _
        have hO2 : Own w2 4 1 H n n ((met (asI L) 0).map Value.bool) := by
          rw [met_zero, asI_len, HLn.out, List.map_replicate, ← hw2, ← hH]
          exact own_made1 w1 4 (.bool false) n (by omega)
        rw [hH] at HS1 HA1
        have HS2 : Bx (Sl w2 (fun b => b < H) .i64 A1 n (asI L)) := ⟨HS1.out.ch hC2 (fun _ _ _ h => h)⟩
        have HA2 : Bx (Sl w2 (fun b => b < H) .i64 A n s) := ⟨HA1.out.ch hC2 (fun _ _ _ h => h)⟩
        have HO2 := Bx.mk hO2
        have HHW : Bx (w.heap.size ≤ H) := ⟨by rw [← hH]; exact HC1.out.size⟩
        have HC2 := Bx.mk (HC1.out.trans hC2 (fun _ _ h => h))
        rw [hw2, hH]
        clear hw2 hH hC2 hO2 HS1 HA1 HC1 hmk
        go_loopw [7] (fun i wr => ∃ j : Nat, j ≤ n ∧ i = .int .i64 j ∧ Own wr 4 1 H n n ((met (asI L) j).map Value.bool) ∧ Ch (fun b => b = H) w2 wr) (fun i _ => n - (intOf i).toNat)
        case atStart => exact ⟨0, Nat.zero_le _, rfl, HO2.out, Ch.refl _ _⟩
        case round =>
          obtain ⟨j, hj, rfl, hO, hC⟩ := hrel
          by_cases hjn : j < n
          · have dj : decide ((j : Int) < (n : Int)) = true := by simp; omega
            obtain ⟨b1, o1, x0, rfl, hb1, hx0, hcx⟩ := (HS2.out.ch hC (fun b hb _ (e : b = H) => by omega)).at_ hjn
            obtain ⟨x, rfl, hx⟩ := asI_at hx0.out
            have hxn : x < n := by rw [← HL.out]; exact (HSA.out.mem x).1 (List.mem_of_getElem? hx)
            have hnm : ¬ ((x : Int) ∈ (asI L).take j) := by
              intro hm
              obtain ⟨i, hi, e⟩ := List.getElem_of_mem hm
              rw [List.length_take] at hi
              rw [List.getElem_take] at e
              have h1 : (asI L)[i]? = some (x : Int) := by rw [List.getElem?_eq_getElem (by omega), e]
              obtain ⟨y, hy, hy2⟩ := asI_at h1
              have : y = x := by omega
              subst this
              have := at_one HSA.out.nodup hx hy2
              omega
            have hcs : wr.cell? ⟨H, x, none⟩ = some (.bool (decide ((x : Int) ∈ (asI L).take j))) := hO.cellAt (by rw [List.getElem?_map, met_at (by rw [asI_len, HLn.out]; exact hxn)]; rfl)
            rw [decide_eq_false hnm] at hcs
            have hfz := hO.frozenAt x
            have hst := hO.storedB x true
            rw [met_next hx0.out] at hst
            have i1 : (0 : Int) ≤ (j : Int) := by omega
            have i2 : (j : Int) < (n : Int) := by omega
            have i3 : (0 : Int) ≤ (x : Int) := by omega
            have i4 : (x : Int) < (n : Int) := by omega
            have e1 : decide ((x : Int) < 0) = false := by simp
            have e2 : decide ((n : Int) ≤ (x : Int)) = false := by simp; omega
            have hcx2 := hst.2.cell (p := ⟨b1, o1 + j, none⟩) (fun h => by have h' : b1 = H := h; omega) hcx
            have hCn := hC.trans hst.2 (fun _ _ h => h)
            have HST := Bx.mk hst
            have HCN := Bx.mk hCn
            have HX := Bx.mk hx
            cases j with
            | zero =>
              rw [Nat.add_zero] at hcx hcx2
              clear hO hC hx0 hx hnm hst hCn
              go_wp2_with fail
              go_quiet (fail)
              go_wp2
              go_roundw
              case rel => exact ⟨1, by omega, by go_num, HST.out.1.keep ((Ch.refl (fun _ => False) _).drewN _), HCN.out.drewN _⟩
              case measure => simp [intOf]; omega
            | succ j =>
              obtain ⟨b3, o3, y0, hA3, _, hy0, hcy⟩ := (HS2.out.ch hCn (fun b hb _ (e : b = H) => by omega)).at_ (k := j) (by omega)
              injection hA3 with hA3
              injection hA3 with f1 f2
              subst f1 f2
              obtain ⟨y, rfl, hy⟩ := asI_at hy0.out
              have hyn : y < n := by rw [← HL.out]; exact (HSA.out.mem y).1 (List.mem_of_getElem? hy)
              obtain ⟨q, hq1, hq2⟩ := HSA.out.lt (Nat.lt_succ_self j) hy hx
              have hAr := HA2.out.ch hCn (fun b hb _ (e : b = H) => by omega)
              obtain ⟨bs, os, _, rfl, _⟩ := hAr.at_ (k := 0) (by omega)
              have hXs := hAr.drop (k := x) (by omega)
              have hYs := hAr.drop (k := y) (by omega)
              have jc : ((j + 1 : Nat) : Int) = (j : Int) + 1 := by omega
              have d0 : decide ((0 : Int) < (j : Int) + 1) = true := by first | (simp; done) | (simp; omega)
              have j1 : (j : Int) + 1 - 1 = (j : Int) := by omega
              have k1 : (0 : Int) ≤ (y : Int) := by omega
              have k2 : (y : Int) < (n : Int) := by omega
              have k3 : (0 : Int) ≤ (j : Int) := by omega
              have k4 : (j : Int) < (n : Int) := by omega
              have cy : ¬ c = y := by omega
              have cx : ¬ c = x := by omega
              have hah := fun d => ahead_draw (s.drop y) (s.drop x) (some ⟨bs, os + y, none⟩) (some ⟨bs, os + x, none⟩) (n - y) (n - x) (c - y) (c - x) _ d hYs hXs (by omega) (pos_drop HP.out y) (pos_drop HP.out x) q (fun i hi => by rw [gs_drop, gs_drop]; exact hq1 i hi) (by rw [gs_drop, gs_drop]; exact hq2)
              have HAH := Bx.mk hah
              clear hO hC hx0 hx hnm hst hCn hy0 hy hq1 hq2 hAr hXs hYs hah
              go_wp2_with fail
              go_quiet ((go_at_call 14; exact HAH.out _))
              go_wp2
              go_roundw
              case rel => exact ⟨j + 1 + 1, by omega, by go_num, HST.out.1.keep ((Ch.refl (fun _ => False) _).drewN _), HCN.out.drewN _⟩
              case measure => simp [intOf]; omega
          · have dj : decide ((j : Int) < (n : Int)) = false := by simp; omega
            have HCF : Bx (Ch (fun _ => False) w wr) := ⟨HC2.out.trans hC (fun i hi (e : i = H) => by have := HHW.out; omega)⟩
            clear hO hC
            go_wp2_with fail
            refine (known_any _).mono ?_
            rintro e w6 ⟨rfl, hC6⟩
            have HC6 := Bx.mk (HCF.out.trans hC6 (fun _ _ h => h))
            clear hC6
            go_wp2
            go_ret
            exact ⟨rfl, HC6.out⟩
end
end Go.Proofs.Ytmkhndajogcojaa
