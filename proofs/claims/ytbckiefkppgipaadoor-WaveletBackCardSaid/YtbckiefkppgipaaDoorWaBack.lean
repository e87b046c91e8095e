/-
  The walk of haystacklaw4.WaveletBack: true, whatever the row and what is asked. Condition: the library's table stands as start-up lays it.
-/
import Derived.Test.YtbckiefkppgipaaDoorWaVals
namespace Go.Proofs.YtbckiefkppgipaaDoor
open Go.RowKit Go.Oct Go.Bi Go.Wa

theorem back_out (A : Option Addr) (n c : Nat) (q k : Int) (w : World) (hn : n ≤ 9223372036854775807) (h : 1000 < n ∨ q < 0 ∨ 255 < q ∨ k < 0 ∨ 1000 < k) :
    Calls Tryd.prog 4 #[.slice A n c, .int .i64 q, .int .i64 k] w fun e w' => e = .returned (.bool true) ∧ Ch (fun _ => False) w w' := by
  have h5 : 1000 < n ∨ (n ≤ 1000 ∧ q < 0) ∨ (n ≤ 1000 ∧ 0 ≤ q ∧ 255 < q) ∨ (n ≤ 1000 ∧ 0 ≤ q ∧ q ≤ 255 ∧ k < 0) ∨ (n ≤ 1000 ∧ 0 ≤ q ∧ q ≤ 255 ∧ 0 ≤ k ∧ 1000 < k) := by omega
  clear h
  rcases h5 with h | ⟨h1, h2⟩ | ⟨h1, h2, h3⟩ | ⟨h1, h2, h3, h4⟩ | ⟨h1, h2, h3, h4, h5⟩
  all_goals
    go_enter Tryd.func4, Tryd.ntmps4
    go_wp2
    go_ret
    exact ⟨rfl, Ch.refl _ _⟩

set_option maxHeartbeats 4000000 in
theorem back_in (xs : List Int) (A : Option Addr) (n c q k : Nat) (w : World) (F : Nat → Prop) (ht : Tab w) (hs : Sl w F .i64 A n xs) (hn : n ≤ 1000) (hq : q ≤ 255) (hk : k ≤ 1000) :
    Calls Tryd.prog 4 #[.slice A n c, .int .i64 q, .int .i64 k] w fun e w' => e = .returned (.bool true) ∧ Ch (fun _ => False) w w' := by
  have hl := hs.len
  have HT := Bx.mk ht
  have HS := Bx.mk (hs.mono (G := fun b => b < w.heap.size) (fun b h _ => h))
  have HXL := Bx.mk hl
  obtain ⟨L, hL⟩ : ∃ L, cut 256 xs = L := ⟨_, rfl⟩
  have hLn : L.length = n := by rw [← hL, cut_len]; exact hl
  have HLN := Bx.mk hLn
  have HLL := Bx.mk hL
  have HLT : Bx (∀ x ∈ L, x < 2 ^ 8) := ⟨by rw [← hL]; exact cut_lt (by decide)⟩
  obtain ⟨m, hm⟩ : ∃ m, (hit L q).count true = m := ⟨_, rfl⟩
  obtain ⟨b0, hb0⟩ : ∃ b0, (low L q).count true = b0 := ⟨_, rfl⟩
  have hsel := sel_hit L q k
  rw [hm, hLn] at hsel
  obtain ⟨s, hse⟩ : ∃ s, sel (hit L q) true k = s := ⟨_, rfl⟩
  rw [hse] at hsel
  have SE := Bx.mk hse
  have HRM : Bx (((rk (hit L q) true (n : Nat) : Nat) : Int) = m) := ⟨by rw [rk_all (by rw [hit_len, hLn]; exact Int.le_refl _), hm]⟩
  have HB0 : Bx (((bel L q 0 (n : Nat) : Nat) : Int) = b0) := ⟨by rw [bel_full L q (by rw [hLn]; exact Int.le_refl _), hb0]⟩
  have HB1 : Bx (((bel L ((q : Int) + 1) 0 (n : Nat) : Nat) : Int) = (b0 + m : Nat)) := ⟨by rw [bel_full L _ (by rw [hLn]; exact Int.le_refl _), count_next, hb0, hm]⟩
  have hml : m ≤ 1000 := by rw [← hm]; have := List.count_le_length (a := true) (l := hit L q); rw [hit_len] at this; omega
  have hbl : b0 ≤ 1000 := by rw [← hb0]; have := List.count_le_length (a := true) (l := low L q); rw [low_len] at this; omega
  have hmk := mkI w n (by omega)
  have HO0 : Bx (Own (w.alloc (.cells (madeCells #[.int .i64 0] n) 3)) 3 1 w.heap.size n n ((upI L 0).map (Value.int .i64))) := ⟨by
    rw [upI_zero, hLn, List.map_replicate]
    exact own_made1 w 3 (.int .i64 0) n (by omega)⟩
  have HSEL := Bx.mk hsel
  obtain ⟨W, hW⟩ : ∃ W : Nat, W = 8 := ⟨_, rfl⟩
  have hW8 : (8 : Int) = (W : Int) := by omega
  rw [← hW] at HLT
  have HW8 := Bx.mk hW8
  have hWl : 1 ≤ W ∧ W ≤ 16 := by omega
  have hnm : n ≤ maxLen := by unfold maxLen; omega
  clear ht hs hl hL hLn hm hb0 hsel hse hW hW8
  go_enter Tryd.func4, Tryd.ntmps4
  go_wp2_with fail
  go_loopw [8] (fun i wr => ∃ j : Nat, j ≤ n ∧ i = .int .i64 j ∧ Own wr 3 1 w.heap.size n n ((upI L j).map (Value.int .i64)) ∧ Ch (fun _ => False) w wr) (fun i _ => n - (intOf i).toNat)
  case atStart => exact ⟨0, Nat.zero_le _, rfl, HO0.out, (Ch.refl _ _).alloc _⟩
  case round =>
    obtain ⟨j, hj, rfl, hO, hC⟩ := hrel
    by_cases hlt : j < n
    · obtain ⟨b1, o1, x, rfl, _, hx0, hcx⟩ := (HS.out.ch hC (fun _ _ _ h => h)).at_ hlt
      have hx := cut_at (p := 256) hx0.out
      rw [HLL.out] at hx
      have ha := and255 x
      generalize (x % ((256 : Nat) : Int)).toNat = y at *
      have hcell := hO.cellI hlt
      have hfz := hO.frozenAt j
      have hst := hO.storedI j (y : Int)
      rw [upI_next hx] at hst
      have HST := Bx.mk hst
      have HC := Bx.mk hC
      generalize (upI L j).getD j 0 = old at *
      clear hst hO hC hx hx0
      go_wp2
      go_roundw
      case rel => exact ⟨j + 1, by omega, by go_num, HST.out.1, HC.out.trans HST.out.2 (fun i hi (e : i = w.heap.size) => by omega)⟩
      case measure => simp [intOf]; omega
    · have hjn : j = n := by omega
      have e0 : upI L n = asI L := by
        have := upI_all L
        rwa [HLN.out] at this
      rw [hjn, e0] at hO
      have HO := Bx.mk hO.sl
      have HC := Bx.mk hC
      have ej : decide ((j : Int) < (n : Int)) = false := by simp; omega
      clear hO hC e0 hjn
      go_wp2_with fail
      refine (build_val 8 W L _ n n _ _ HW8.out HO.out hWl.1 hWl.2 (by omega) HLT.out (Nat.le_refl _) hnm).mono ?_
      rintro e w1 ⟨T, rfl, hT, hC1⟩
      have HTr := Bx.mk hT
      have HC1 := Bx.mk (HC.out.trans hC1 (fun _ _ h => h))
      clear hT hC1
      go_wp2_with fail
      refine (tselect_any T W L q k s _ HTr.out (HT.out.keep HC1.out) SE.out).mono ?_
      rintro e w2 ⟨rfl, hC2⟩
      have HTr2 := Bx.mk (HTr.out.keep hC2)
      have HC2 := Bx.mk (HC1.out.trans hC2 (fun _ _ h => h))
      clear hC2
      rcases HSEL.out with ⟨p, rfl, hp1, hp2, hp3, hp4⟩ | ⟨rfl, hp4⟩
      · have HP2 := Bx.mk hp2
        have HP3 : Bx (((rk (hit L q) true (p : Nat) : Nat) : Int) = k) := ⟨by rw [hp3]⟩
        have d1 : decide ((0 : Int) ≤ (p : Int)) = true := by simp
        have d2 : decide ((k : Int) < (m : Int)) = true := by simp; omega
        clear hp2 hp3
        go_wp2_with fail
        refine (tget_any T W L p q _ HTr2.out HP2.out).mono ?_
        rintro e w3 ⟨rfl, hC3⟩
        have HTr3 := Bx.mk (HTr2.out.keep hC3)
        have HC3 := Bx.mk (HC2.out.trans hC3 (fun _ _ h => h))
        clear hC3
        go_wp2_with fail
        refine (trank_any T W L q p k _ HTr3.out HP3.out).mono ?_
        rintro e w4 ⟨rfl, hC4⟩
        have HTr4 := Bx.mk (HTr3.out.keep hC4)
        have HC4 := Bx.mk (HC3.out.trans hC4 (fun _ _ h => h))
        clear hC4
        go_wp2_with fail
        refine (tlen_any T W n L _ HTr4.out HLN.out).mono ?_
        rintro e w' ⟨rfl, rfl⟩
        go_wp2_with fail
        refine (trank_any T W L q n m _ HTr4.out HRM.out).mono ?_
        rintro e w5 ⟨rfl, hC5⟩
        have HTr5 := Bx.mk (HTr4.out.keep hC5)
        have HC5 := Bx.mk (HC4.out.trans hC5 (fun _ _ h => h))
        clear hC5
        go_wp2_with fail
        refine (tbelow_any T W L ((q : Int) + 1) 0 n ((b0 + m : Nat) : Int) _ HTr5.out HB1.out).mono ?_
        rintro e w6 ⟨rfl, hC6⟩
        have HTr6 := Bx.mk (HTr5.out.keep hC6)
        have HC6 := Bx.mk (HC5.out.trans hC6 (fun _ _ h => h))
        clear hC6
        go_wp2_with fail
        refine (tbelow_any T W L q 0 n b0 _ HTr6.out HB0.out).mono ?_
        rintro e w7 ⟨rfl, hC7⟩
        have HTr7 := Bx.mk (HTr6.out.keep hC7)
        have HC7 := Bx.mk (HC6.out.trans hC7 (fun _ _ h => h))
        clear hC7
        go_wp2_with fail
        refine (known_any _ (HT.out.keep HC7.out)).mono ?_
        rintro e w8 ⟨rfl, hC8⟩
        have HC8 := Bx.mk (HC7.out.trans hC8 (fun _ _ h => h))
        clear hC8
        go_wp2
        go_ret
        exact ⟨rfl, HC8.out⟩
      · have d2 : decide ((k : Int) < (m : Int)) = false := by simp; omega
        go_wp2_with fail
        refine (tlen_any T W n L _ HTr2.out HLN.out).mono ?_
        rintro e w' ⟨rfl, rfl⟩
        go_wp2_with fail
        refine (trank_any T W L q n m _ HTr2.out HRM.out).mono ?_
        rintro e w5 ⟨rfl, hC5⟩
        have HTr5 := Bx.mk (HTr2.out.keep hC5)
        have HC5 := Bx.mk (HC2.out.trans hC5 (fun _ _ h => h))
        clear hC5
        go_wp2_with fail
        refine (tbelow_any T W L ((q : Int) + 1) 0 n ((b0 + m : Nat) : Int) _ HTr5.out HB1.out).mono ?_
        rintro e w6 ⟨rfl, hC6⟩
        have HTr6 := Bx.mk (HTr5.out.keep hC6)
        have HC6 := Bx.mk (HC5.out.trans hC6 (fun _ _ h => h))
        clear hC6
        go_wp2_with fail
        refine (tbelow_any T W L q 0 n b0 _ HTr6.out HB0.out).mono ?_
        rintro e w7 ⟨rfl, hC7⟩
        have HTr7 := Bx.mk (HTr6.out.keep hC7)
        have HC7 := Bx.mk (HC6.out.trans hC7 (fun _ _ h => h))
        clear hC7
        go_wp2_with fail
        refine (known_any _ (HT.out.keep HC7.out)).mono ?_
        rintro e w8 ⟨rfl, hC8⟩
        have HC8 := Bx.mk (HC7.out.trans hC8 (fun _ _ h => h))
        clear hC8
        go_wp2
        go_ret
        exact ⟨rfl, HC8.out⟩
theorem back_law (xs : List Int) (A : Option Addr) (n c : Nat) (q k : Int) (w : World) (F : Nat → Prop) (ht : Tab w) (hs : Sl w F .i64 A n xs) (hc : n ≤ c) (hcm : c ≤ maxLen) :
    Calls Tryd.prog 4 #[.slice A n c, .int .i64 q, .int .i64 k] w fun e w' => e = .returned (.bool true) ∧ Ch (fun _ => False) w w' := by
  have hcm2 : c ≤ 9223372036854775807 := by unfold maxLen at hcm; omega
  by_cases h : 1000 < n ∨ q < 0 ∨ 255 < q ∨ k < 0 ∨ 1000 < k
  · exact back_out A n c q k w (by omega) h
  · obtain ⟨q', rfl⟩ : ∃ q' : Nat, q = q' := ⟨q.toNat, by omega⟩
    obtain ⟨k', rfl⟩ : ∃ k' : Nat, k = k' := ⟨k.toNat, by omega⟩
    exact back_in xs A n c q' k' w F ht hs (by omega) (by omega) (by omega)
end Go.Proofs.YtbckiefkppgipaaDoor
