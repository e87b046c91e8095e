/-
  The walk of haystacklaw4.WaveletJoins: true, whatever the rows and the symbol. Condition: the library's table stands as start-up lays it.
-/
import Derived.Test.YtbckiefkppgipaaDoorWaGrow
namespace Go.Proofs.YtbckiefkppgipaaDoor
open Go.RowKit Go.Oct Go.Bi Go.Wa

set_option maxRecDepth 100000 in
theorem joins_out (A B : Option Addr) (n c m c' : Nat) (q : Int) (w : World) (hn : n ≤ 281474976710656) (hm : m ≤ 281474976710656) (h : 600 < n + m ∨ q < 0 ∨ 7 < q) :
    Calls Tryd.prog 6 #[.slice A n c, .slice B m c', .int .i64 q] w fun e w' => e = .returned (.bool true) ∧ Ch (fun _ => False) w w' := by
  have h5 : 600 < n + m ∨ (n + m ≤ 600 ∧ q < 0) ∨ (n + m ≤ 600 ∧ 0 ≤ q ∧ 7 < q) := by omega
  clear h
  rcases h5 with h | ⟨h1, h2⟩ | ⟨h1, h2, h3⟩
  all_goals
    go_enter Tryd.func6, Tryd.ntmps6
    go_wp2
    go_ret
    exact ⟨rfl, Ch.refl _ _⟩

/-- What the two rows and both in one tell. -/
structure Tells (X Y : List Nat) (n m q : Nat) (r1 r2 b1 b2 : Nat) (s z : Int) : Prop where
  rx : ((rk (hit X q) true ((n : Int) + (m : Int)) : Nat) : Int) = r1
  ry : ((rk (hit Y q) true ((n : Int) + (m : Int)) : Nat) : Int) = r2
  rz : ((rk (hit (X ++ Y) q) true ((n : Int) + (m : Int)) : Nat) : Int) = (r1 : Int) + (r2 : Int)
  bx : ((bel X q 0 ((n : Int) + (m : Int)) : Nat) : Int) = b1
  by_ : ((bel Y q 0 ((n : Int) + (m : Int)) : Nat) : Int) = b2
  bz : ((bel (X ++ Y) q 0 ((n : Int) + (m : Int)) : Nat) : Int) = (b1 : Int) + (b2 : Int)
  bl : ((bel (X ++ Y) q 0 (n : Nat) : Nat) : Int) = b1
  se : sel (hit Y q) true 0 = s
  ze : sel (hit (X ++ Y) q) true r1 = z
  sz : (s < 0) ∨ (0 ≤ s ∧ s ≤ m ∧ z = s + n)
  le : r1 ≤ n ∧ r2 ≤ m ∧ b1 ≤ n ∧ b2 ≤ m
theorem tells_ex (X Y : List Nat) (n m q : Nat) (hXn : X.length = n) (hYn : Y.length = m) : ∃ r1 r2 b1 b2 s z, Tells X Y n m q r1 r2 b1 b2 s z := by
  subst hXn hYn
  have hx : (hit X q).length = X.length := hit_len X q
  have hlx : (low X q).length = X.length := low_len X q
  have hz : (hit (X ++ Y) q).length = X.length + Y.length := by rw [hit_len, List.length_append]
  refine ⟨(hit X q).count true, (hit Y q).count true, (low X q).count true, (low Y q).count true, _, _, ⟨?_, ?_, ?_, ?_, ?_, ?_, ?_, rfl, rfl, ?_, ?_⟩⟩
  · rw [rk_all (by rw [hit_len]; omega)]
  · rw [rk_all (by rw [hit_len]; omega)]
  · rw [rk_all (by rw [hz]; omega), hit_app, List.count_append]
    omega
  · rw [bel_full X q (by omega)]
  · rw [bel_full Y q (by omega)]
  · rw [bel_full (X ++ Y) q (by rw [List.length_append]; omega), low_app, List.count_append]
    omega
  · unfold bel
    rw [rk_zero, rk_nat, low_app, ← hlx, List.take_left]
    rfl
  · have h0 := sel_hit Y q 0
    rw [show (((0 : Nat) : Int)) = 0 from rfl] at h0
    rcases h0 with ⟨p, h1, h2, h3, h4, h5⟩ | ⟨h1, _⟩
    · refine .inr ⟨by omega, by omega, ?_⟩
      rw [h1]
      refine sel_eq (.inl ⟨p + X.length, rfl, ?_, ?_⟩)
      · rcases sel_is (hit Y q) true 0 with ⟨i, g1, g2⟩ | ⟨g1, _⟩
        · have : i = p := by omega
          subst this
          rw [hit_app, List.getElem?_append_right (by omega), hx, Nat.add_sub_cancel]
          exact g2.1
        · omega
      · have h6 : ((hit Y q).take p).count true = 0 := by
          rw [rk_nat] at h4
          exact h4
        rw [hit_app, List.take_append, hx, Nat.add_sub_cancel, List.take_of_length_le (by omega), List.count_append, h6, Nat.add_zero]
    · exact .inl (by omega)
  · have h1 := List.count_le_length (a := true) (l := hit X q)
    have h2 := List.count_le_length (a := true) (l := hit Y q)
    have h3 := List.count_le_length (a := true) (l := low X q)
    have h4 := List.count_le_length (a := true) (l := low Y q)
    rw [hit_len] at h1 h2
    rw [low_len] at h3 h4
    exact ⟨h1, h2, h3, h4⟩

set_option maxRecDepth 100000 in
set_option maxHeartbeats 8000000 in
theorem joins_in (xs ys : List Int) (A B : Option Addr) (n c m c' q : Nat) (w : World) (F G : Nat → Prop) (ht : Tab w) (hs : Sl w F .i64 A n xs) (hs' : Sl w G .i64 B m ys) (hnm : n + m ≤ 600) (hq : q ≤ 7) :
    Calls Tryd.prog 6 #[.slice A n c, .slice B m c', .int .i64 q] w fun e w' => e = .returned (.bool true) ∧ Ch (fun _ => False) w w' := by
  have hl := hs.len
  have hl' := hs'.len
  have HT := Bx.mk ht
  have HS := Bx.mk hs
  have HS' := Bx.mk hs'
  obtain ⟨X, hX⟩ : ∃ X, cut 8 xs = X := ⟨_, rfl⟩
  obtain ⟨Y, hY⟩ : ∃ Y, cut 8 ys = Y := ⟨_, rfl⟩
  have hXn : X.length = n := by rw [← hX, cut_len]; exact hl
  have hYn : Y.length = m := by rw [← hY, cut_len]; exact hl'
  have HXN := Bx.mk hXn
  have HYN := Bx.mk hYn
  have HXX := Bx.mk hX
  have HYY := Bx.mk hY
  have hlx : ∀ x ∈ X, x < 2 ^ 3 := by rw [← hX]; exact cut_lt (by decide)
  have hly : ∀ x ∈ Y, x < 2 ^ 3 := by rw [← hY]; exact cut_lt (by decide)
  have HLX := Bx.mk hlx
  have HLY := Bx.mk hly
  have HLZ : Bx (∀ x ∈ X ++ Y, x < 2 ^ 3) := ⟨fun x hx => by
    rcases List.mem_append.1 hx with h | h
    · exact hlx x h
    · exact hly x h⟩
  have HZN : Bx ((X ++ Y).length = n + m) := ⟨by rw [List.length_append, hXn, hYn]⟩
  obtain ⟨r1, r2, b1, b2, s, z, hTells⟩ := tells_ex X Y n m q hXn hYn
  obtain ⟨hle1, hle2, hle3, hle4⟩ := hTells.le
  have hsz := hTells.sz
  have HTL := Bx.mk hTells
  obtain ⟨W, hW⟩ : ∃ W : Nat, W = 3 := ⟨_, rfl⟩
  have hW8 : (3 : Int) = (W : Int) := by omega
  rw [← hW] at HLX HLY HLZ
  have HW8 := Bx.mk hW8
  have hWl : 1 ≤ W ∧ W ≤ 16 := by omega
  have d1 : decide (600 < ((n + m : Nat) : Int)) = false := by simp; omega
  have d2 : decide (600 < (n : Int) + (m : Int)) = false := by simp; omega
  have d3 : decide ((q : Int) < 0) = false := by simp
  have d4 : decide (7 < (q : Int)) = false := by simp; omega
  have d5 : decide (600 < n + m) = false := by simp; omega
  have HSZ := Bx.mk hsz
  clear ht hs hs' hl hl' hX hY hXn hYn hlx hly hW hW8 hTells hsz
  go_enter Tryd.func6, Tryd.ntmps6
  go_wp2_with fail
  go_loopw [7, 10] (fun v i wr => ∃ j : Nat, j ≤ n ∧ i = .int .i64 j ∧ Gr w wr v (X.take j)) (fun _ i _ => n - (intOf i).toNat)
  case atStart => exact ⟨0, Nat.zero_le _, rfl, by rw [List.take_zero]; exact Gr.nil w⟩
  case round =>
    obtain ⟨j, hj, rfl, hG⟩ := hrel
    by_cases hlt : j < n
    · obtain ⟨e1, o1, x, rfl, _, hx0, hcx⟩ := (HS.out.ch hG.ch (fun _ _ _ h => h)).at_ hlt
      have hx := cut_at (p := 8) hx0.out
      rw [HXX.out] at hx
      have ha := and7 x
      generalize (x % ((8 : Nat) : Int)).toNat = y at *
      have htk := take_more hx
      have htl : (X.take j).length = j := by rw [List.length_take, HXN.out]; omega
      generalize X.take j = P at *
      have HG := Bx.mk hG
      have HTK := Bx.mk htk
      obtain ⟨A2, c2, rfl, _, _⟩ := own_shape hG.own
      have hPl : P.length ≤ 600 := by omega
      clear hG htk hx hx0 htl
      go_wp2_with (at_builtin; refine wp_app rfl (.tmp 40) (.tmp 46) elemI rfl rfl (HG.out.own.alloc _) rfl (Vs.one _ _ _) ?c1 ?c2 ?c3 ?_)
      case c1 => intro u hu; simp at hu; subst hu; rfl
      case c2 => omega
      case c3 => omega
      intro v' w2 ho1 hg1 hb1
      have HG2 : Bx (Gr w w2 v' (X.take (j + 1))) := ⟨by rw [HTK.out]; exact HG.out.one ho1 hg1 hb1⟩
      clear ho1 hg1 hb1
      go_wp2
      go_roundw
      case rel => exact ⟨j + 1, by omega, by go_num, HG2.out⟩
      case measure => simp [intOf]; omega
    · have hjn : j = n := by omega
      rw [hjn, List.take_of_length_le (by rw [HXN.out]; omega)] at hG
      obtain ⟨A2, c2, rfl, hSl, hc1, hc2⟩ := hG.shape
      rw [HXN.out] at hSl hc1
      have hXn2 := HXN.out
      rw [hXn2] at hG ⊢
      have hV1 := hG.vs hXn2
      have HV1 := Bx.mk hV1
      have HS1 := Bx.mk hSl
      have HC1 := Bx.mk hG.ch
      have HCC1 := Bx.mk hc2
      have HS1' : Bx (Sl wr G .i64 B m ys) := ⟨HS'.out.ch hG.ch (fun _ _ _ h => h)⟩
      have ej : decide ((j : Int) < (n : Int)) = false := by simp; omega
      obtain ⟨wo, rfl⟩ : ∃ wo : World, wo = wr := ⟨_, rfl⟩
      clear hG hSl hjn hXn2 hc2 hV1
      go_wp2_with fail
      go_loopw [8, 11] (fun v i wr => ∃ j : Nat, j ≤ m ∧ i = .int .i64 j ∧ Gr wo wr v (Y.take j)) (fun _ i _ => m - (intOf i).toNat)
      case atStart => exact ⟨0, Nat.zero_le _, rfl, by rw [List.take_zero]; exact Gr.nil wo⟩
      case round =>
        obtain ⟨k, hk, rfl, hG⟩ := hrel
        by_cases hlt2 : k < m
        · obtain ⟨e2, o2, x, rfl, _, hx0, hcx⟩ := (HS1'.out.ch hG.ch (fun _ _ _ h => h)).at_ hlt2
          have hx := cut_at (p := 8) hx0.out
          rw [HYY.out] at hx
          have ha := and7 x
          generalize (x % ((8 : Nat) : Int)).toNat = y at *
          have htk := take_more hx
          have htl : (Y.take k).length = k := by rw [List.length_take, HYN.out]; omega
          generalize Y.take k = P at *
          have HG := Bx.mk hG
          have HTK := Bx.mk htk
          obtain ⟨A3, c3, rfl, _, _⟩ := own_shape hG.own
          have hPl : P.length ≤ 600 := by omega
          clear hG htk hx hx0 htl
          go_wp2_with (at_builtin; refine wp_app rfl (.tmp 54) (.tmp 60) elemI rfl rfl (HG.out.own.alloc _) rfl (Vs.one _ _ _) ?c1 ?c2 ?c3 ?_)
          case c1 => intro u hu; simp at hu; subst hu; rfl
          case c2 => omega
          case c3 => omega
          intro v' w2 ho1 hg1 hb1
          have HG2 : Bx (Gr wo w2 v' (Y.take (k + 1))) := ⟨by rw [HTK.out]; exact HG.out.one ho1 hg1 hb1⟩
          clear ho1 hg1 hb1
          go_wp2
          go_roundw
          case rel => exact ⟨k + 1, by omega, by go_num, HG2.out⟩
          case measure => simp [intOf]; omega
        · have hkm : k = m := by omega
          rw [hkm, List.take_of_length_le (by rw [HYN.out]; omega)] at hG
          obtain ⟨A3, c3, rfl, hSl, hc3, hc4⟩ := hG.shape
          rw [HYN.out] at hSl hc3
          have hYn2 := HYN.out
          rw [hYn2] at hG ⊢
          have HV2 := Bx.mk (hG.vs hYn2)
          have HS2 := Bx.mk hSl
          have HV1b : Bx (Vs wr (fun b => w.heap.size ≤ b) A2 n (vals X)) := ⟨HV1.out.ch hG.ch (fun _ _ _ h => h)⟩
          have HS1b : Bx (Sl wr (fun b => w.heap.size ≤ b) .i64 A2 n (asI X)) := ⟨HS1.out.ch hG.ch (fun _ _ _ h => h)⟩
          have HC2 := Bx.mk (HC1.out.trans hG.ch (fun _ _ h => h))
          have HCC2 := Bx.mk hc4
          have ek : decide ((k : Int) < (m : Int)) = false := by simp; omega
          have hon := World.ownsRow_nil wr 0 3 1
          have HON := Bx.mk hon
          clear hG hSl hkm hYn2 hc4 hon
          go_wp2_with (at_builtin; refine wp_app rfl (.tmp 62) (.tmp 63) elemI rfl rfl HON.out rfl HV1b.out ?c1 ?c2 ?c3 ?_)
          case c1 => exact vals_cells X
          case c2 => omega
          case c3 => omega
          intro v' w2 ho1 hg1 hb1
          have hG3 := Gr.first HXN.out ho1 hg1 hb1
          have HV2b : Bx (Vs w2 (fun b => wo.heap.size ≤ b) A3 m (vals Y)) := ⟨HV2.out.ch hG3.ch (fun _ _ _ h => h)⟩
          have HG3 := Bx.mk hG3
          obtain ⟨A4, c4, rfl, _, _⟩ := own_shape ho1
          have HO1 := Bx.mk ho1
          clear hG3 ho1 hg1 hb1
          go_wp2_with (at_builtin; refine wp_app rfl (.tmp 64) (.tmp 65) elemI rfl rfl HO1.out rfl HV2b.out ?c1 ?c2 ?c3 ?_)
          case c1 => exact vals_cells Y
          case c2 => omega
          case c3 => omega
          intro v5 w3 ho2 hg2 hb2
          have hG4 := HG3.out.moreN HXN.out HYN.out (Ch.refl (fun _ => False) w2) ho2 hg2 hb2
          obtain ⟨A5, c5, rfl, hS5, hc5, hc6⟩ := hG4.shape
          rw [HZN.out] at hS5 hc5
          have hZ2 := HZN.out
          rw [hZ2]
          have HS5 := Bx.mk hS5
          have HC5 := Bx.mk hG4.ch
          have HCC5 := Bx.mk hc6
          have HS1c : Bx (Sl w3 (fun b => w.heap.size ≤ b) .i64 A2 n (asI X)) := ⟨HS1b.out.ch hG4.ch (fun _ _ _ h => h)⟩
          have HS2c : Bx (Sl w3 (fun b => wo.heap.size ≤ b) .i64 A3 m (asI Y)) := ⟨HS2.out.ch hG4.ch (fun _ _ _ h => h)⟩
          have HC6 := Bx.mk (HC2.out.trans hG4.ch (fun _ _ h => h))
          clear ho2 hg2 hb2 hG4 hS5 hZ2 hc6
          go_wp2_with fail
          refine (build_val 3 W X _ n c2 _ _ HW8.out HS1c.out hWl.1 hWl.2 (by omega) HLX.out hc1 HCC1.out).mono ?_
          rintro e w4 ⟨T1, rfl, hT, hC⟩
          have HT1 := Bx.mk hT
          have HC7 := Bx.mk (HC6.out.trans hC (fun _ _ h => h))
          have HS2d : Bx (Sl w4 (fun b => wo.heap.size ≤ b) .i64 A3 m (asI Y)) := ⟨HS2c.out.ch hC (fun _ _ _ h => h)⟩
          have HS5b := Bx.mk (HS5.out.ch hC (fun _ _ _ h => h))
          clear hT hC
          go_wp2_with fail
          refine (build_val 3 W Y _ m c3 _ _ HW8.out HS2d.out hWl.1 hWl.2 (by omega) HLY.out hc3 HCC2.out).mono ?_
          rintro e w5 ⟨T2, rfl, hT, hC⟩
          have HT2 := Bx.mk hT
          have HT1b := Bx.mk (HT1.out.keep hC)
          have HC8 := Bx.mk (HC7.out.trans hC (fun _ _ h => h))
          have HS5c := Bx.mk (HS5b.out.ch hC (fun _ _ _ h => h))
          clear hT hC
          go_wp2_with fail
          refine (build_val 3 W (X ++ Y) _ (n + m) c5 _ _ HW8.out HS5c.out hWl.1 hWl.2 (by omega) HLZ.out hc5 HCC5.out).mono ?_
          rintro e w6 ⟨T3, rfl, hT, hC⟩
          have U0 := Bx.mk hT
          have V0 := Bx.mk (HT2.out.keep hC)
          have S0 := Bx.mk (HT1b.out.keep hC)
          have K0 := Bx.mk (HC8.out.trans hC (fun _ _ h => h))
          clear hT hC
          go_wp2_with fail
          refine (trank_any T3 W (X ++ Y) q ((n : Int) + (m : Int)) ((r1 : Int) + (r2 : Int)) _ U0.out HTL.out.rz).mono ?_
          rintro e w7 ⟨rfl, hC⟩
          have U1 := Bx.mk (U0.out.keep hC)
          have V1 := Bx.mk (V0.out.keep hC)
          have S1 := Bx.mk (S0.out.keep hC)
          have K1 := Bx.mk (K0.out.trans hC (fun _ _ h => h))
          clear hC
          go_wp2_with fail
          refine (trank_any T1 W X q ((n : Int) + (m : Int)) r1 _ S1.out HTL.out.rx).mono ?_
          rintro e w8 ⟨rfl, hC⟩
          have U2 := Bx.mk (U1.out.keep hC)
          have V2 := Bx.mk (V1.out.keep hC)
          have S2 := Bx.mk (S1.out.keep hC)
          have K2 := Bx.mk (K1.out.trans hC (fun _ _ h => h))
          clear hC
          go_wp2_with fail
          refine (trank_any T2 W Y q ((n : Int) + (m : Int)) r2 _ V2.out HTL.out.ry).mono ?_
          rintro e w9 ⟨rfl, hC⟩
          have U3 := Bx.mk (U2.out.keep hC)
          have V3 := Bx.mk (V2.out.keep hC)
          have S3 := Bx.mk (S2.out.keep hC)
          have K3 := Bx.mk (K2.out.trans hC (fun _ _ h => h))
          clear hC
          go_wp2_with fail
          refine (tbelow_any T3 W (X ++ Y) q 0 ((n : Int) + (m : Int)) ((b1 : Int) + (b2 : Int)) _ U3.out HTL.out.bz).mono ?_
          rintro e w10 ⟨rfl, hC⟩
          have U4 := Bx.mk (U3.out.keep hC)
          have V4 := Bx.mk (V3.out.keep hC)
          have S4 := Bx.mk (S3.out.keep hC)
          have K4 := Bx.mk (K3.out.trans hC (fun _ _ h => h))
          clear hC
          go_wp2_with fail
          refine (tbelow_any T1 W X q 0 ((n : Int) + (m : Int)) b1 _ S4.out HTL.out.bx).mono ?_
          rintro e w11 ⟨rfl, hC⟩
          have U5 := Bx.mk (U4.out.keep hC)
          have V5 := Bx.mk (V4.out.keep hC)
          have S5 := Bx.mk (S4.out.keep hC)
          have K5 := Bx.mk (K4.out.trans hC (fun _ _ h => h))
          clear hC
          go_wp2_with fail
          refine (tbelow_any T2 W Y q 0 ((n : Int) + (m : Int)) b2 _ V5.out HTL.out.by_).mono ?_
          rintro e w12 ⟨rfl, hC⟩
          have U6 := Bx.mk (U5.out.keep hC)
          have V6 := Bx.mk (V5.out.keep hC)
          have S6 := Bx.mk (S5.out.keep hC)
          have K6 := Bx.mk (K5.out.trans hC (fun _ _ h => h))
          clear hC
          go_wp2_with fail
          refine (tbelow_any T3 W (X ++ Y) q 0 n b1 _ U6.out HTL.out.bl).mono ?_
          rintro e w13 ⟨rfl, hC⟩
          have U7 := Bx.mk (U6.out.keep hC)
          have V7 := Bx.mk (V6.out.keep hC)
          have S7 := Bx.mk (S6.out.keep hC)
          have K7 := Bx.mk (K6.out.trans hC (fun _ _ h => h))
          clear hC
          go_wp2_with fail
          refine (tbelow_any T1 W X q 0 ((n : Int) + (m : Int)) b1 _ S7.out HTL.out.bx).mono ?_
          rintro e w14 ⟨rfl, hC⟩
          have U8 := Bx.mk (U7.out.keep hC)
          have V8 := Bx.mk (V7.out.keep hC)
          have S8 := Bx.mk (S7.out.keep hC)
          have K8 := Bx.mk (K7.out.trans hC (fun _ _ h => h))
          clear hC
          go_wp2_with fail
          refine (tselect_any T2 W Y q 0 s _ V8.out (HT.out.keep K8.out) HTL.out.se).mono ?_
          rintro e w15 ⟨rfl, hC⟩
          have U9 := Bx.mk (U8.out.keep hC)
          have V9 := Bx.mk (V8.out.keep hC)
          have S9 := Bx.mk (S8.out.keep hC)
          have K9 := Bx.mk (K8.out.trans hC (fun _ _ h => h))
          clear hC
          rcases HSZ.out with hs0 | ⟨hs0, hs1, hs2⟩
          · have ds : decide (s < 0) = true := decide_eq_true hs0
            go_wp2_with fail
            refine (known_any _ (HT.out.keep K9.out)).mono ?_
            rintro e w16 ⟨rfl, hC⟩
            have K10 := Bx.mk (K9.out.trans hC (fun _ _ h => h))
            clear hC
            go_wp2
            go_ret
            exact ⟨rfl, K10.out⟩
          · have ds : decide (s < 0) = false := decide_eq_false (by omega)
            have HZE : Bx (sel (hit (X ++ Y) q) true r1 = s + (n : Int)) := ⟨by rw [← hs2]; exact HTL.out.ze⟩
            clear hs2
            go_wp2_with fail
            refine (trank_any T1 W X q ((n : Int) + (m : Int)) r1 _ S9.out HTL.out.rx).mono ?_
            rintro e w16 ⟨rfl, hC⟩
            have U10 := Bx.mk (U9.out.keep hC)
            have K10 := Bx.mk (K9.out.trans hC (fun _ _ h => h))
            clear hC
            go_wp2_with fail
            refine (tselect_any T3 W (X ++ Y) q r1 (s + (n : Int)) _ U10.out (HT.out.keep K10.out) HZE.out).mono ?_
            rintro e w17 ⟨rfl, hC⟩
            have K11 := Bx.mk (K10.out.trans hC (fun _ _ h => h))
            clear hC
            go_wp2_with fail
            refine (known_any _ (HT.out.keep K11.out)).mono ?_
            rintro e w18 ⟨rfl, hC⟩
            have K12 := Bx.mk (K11.out.trans hC (fun _ _ h => h))
            clear hC
            go_wp2
            go_ret
            exact ⟨rfl, K12.out⟩
theorem joins_law (xs ys : List Int) (A B : Option Addr) (n c m c' : Nat) (q : Int) (w : World) (F G : Nat → Prop) (ht : Tab w) (hs : Sl w F .i64 A n xs) (hs' : Sl w G .i64 B m ys) (hn8 : n * 8 ≤ 140737488351232) (hm8 : m * 8 ≤ 140737488351232) :
    Calls Tryd.prog 6 #[.slice A n c, .slice B m c', .int .i64 q] w fun e w' => e = .returned (.bool true) ∧ Ch (fun _ => False) w w' := by
  by_cases h : 600 < n + m ∨ q < 0 ∨ 7 < q
  · exact joins_out A B n c m c' q w (by omega) (by omega) h
  · obtain ⟨q', rfl⟩ : ∃ q' : Nat, q = q' := ⟨q.toNat, by omega⟩
    exact joins_in xs ys A B n c m c' q' w F G ht hs hs' (by omega) (by omega)
end Go.Proofs.YtbckiefkppgipaaDoor
