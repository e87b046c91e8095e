/-
  The walk of haystacklaw4.WaveletAll: true, whatever the row and the places. Condition: the library's table stands as start-up lays it.
-/
import Derived.Test.YtbckiefkppgipaaDoorWaGrow
namespace Go.Proofs.YtbckiefkppgipaaDoor
open Go.RowKit Go.Oct Go.Bi Go.Wa

theorem all_out (A : Option Addr) (n c : Nat) (f t : Int) (w : World) (hn : n ≤ 9223372036854775807) (h : 400 < n ∨ f < 0 ∨ t < f ∨ (n : Int) < t) :
    Calls Tryd.prog 7 #[.slice A n c, .int .i64 f, .int .i64 t] w fun e w' => e = .returned (.bool true) ∧ Ch (fun _ => False) w w' := by
  have h5 : 400 < n ∨ (n ≤ 400 ∧ f < 0) ∨ (n ≤ 400 ∧ 0 ≤ f ∧ t < f) ∨ (n ≤ 400 ∧ 0 ≤ f ∧ f ≤ t ∧ (n : Int) < t) := by omega
  clear h
  rcases h5 with h | ⟨h1, h2⟩ | ⟨h1, h2, h3⟩ | ⟨h1, h2, h3, h4⟩
  all_goals
    go_enter Tryd.func7, Tryd.ntmps7
    go_wp2
    go_ret
    exact ⟨rfl, Ch.refl _ _⟩

set_option maxHeartbeats 4000000 in
theorem all_in (xs : List Int) (A : Option Addr) (n c f t : Nat) (w : World) (F : Nat → Prop) (ht : Tab w) (hs : Sl w F .i64 A n xs) (hn : n ≤ 400) (hft : f ≤ t) (htn : t ≤ n) :
    Calls Tryd.prog 7 #[.slice A n c, .int .i64 f, .int .i64 t] w fun e w' => e = .returned (.bool true) ∧ Ch (fun _ => False) w w' := by
  have hl := hs.len
  have HT := Bx.mk ht
  have HS := Bx.mk hs
  obtain ⟨L, hL⟩ : ∃ L, cut 16 xs = L := ⟨_, rfl⟩
  have hLn : L.length = n := by rw [← hL, cut_len]; exact hl
  have HLN := Bx.mk hLn
  have HLL := Bx.mk hL
  have hlt16 : ∀ x ∈ L, x < 2 ^ 4 := by rw [← hL]; exact cut_lt (by decide)
  have HLT := Bx.mk hlt16
  have HB0 : Bx (((bel L 0 f t : Nat) : Int) = 0) := ⟨by rw [bel_zero (.inr (Int.le_refl _))]; rfl⟩
  have HB16 : Bx (((bel L 16 f t : Nat) : Int) = (t - f : Nat)) := ⟨by rw [bel_all (W := 4) hlt16 (by decide) (by omega) (by omega)]⟩
  have hh := hit_out (c := 16) hlt16 (.inr (by decide))
  have HR16 : Bx (((rk (hit L 16) true t : Nat) : Int) = 0) := ⟨by rw [hh, rk_repl]; rfl⟩
  have HS16 : Bx (sel (hit L 16) true 0 = -1) := ⟨by rw [hh, sel_repl]⟩
  have HBD : Bx (∀ q : Int, bel L q f t ≤ 400 ∧ rk (hit L q) true f ≤ rk (hit L q) true t ∧ rk (hit L q) true t ≤ 400 ∧ bel L (q + 1) f t + rk (hit L q) true f = bel L q f t + rk (hit L q) true t) := ⟨fun q => by
    have h1 := rk_le (low L q) true t
    have h2 := rk_le (hit L q) true t
    rw [low_len] at h1
    rw [hit_len] at h2
    have h3 : bel L q f t ≤ rk (low L q) true t := Nat.sub_le _ _
    exact ⟨by omega, rk_mono _ _ (by omega), by omega, bel_next L q (by omega)⟩⟩
  obtain ⟨W, hW⟩ : ∃ W : Nat, W = 4 := ⟨_, rfl⟩
  have hW8 : (4 : Int) = (W : Int) := by omega
  rw [← hW] at HLT
  have HW8 := Bx.mk hW8
  have hWl : 1 ≤ W ∧ W ≤ 16 := by omega
  have d1 : decide (400 < (n : Int)) = false := by simp; omega
  have d2 : decide ((f : Int) < 0) = false := by simp
  have d3 : decide ((t : Int) < (f : Int)) = false := by simp; omega
  have d4 : decide ((n : Int) < (t : Int)) = false := by simp; omega
  have d5 : decide (t < f) = false := by simp; omega
  have d6 : decide (n < t) = false := by simp; omega
  clear ht hs hl hL hLn hW hW8 hlt16 hh
  go_enter Tryd.func7, Tryd.ntmps7
  go_wp2_with fail
  go_loopw [7, 8] (fun v i wr => ∃ j : Nat, j ≤ n ∧ i = .int .i64 j ∧ Gr w wr v (L.take j)) (fun _ i _ => n - (intOf i).toNat)
  case atStart => exact ⟨0, Nat.zero_le _, rfl, by rw [List.take_zero]; exact Gr.nil w⟩
  case round =>
    obtain ⟨j, hj, rfl, hG⟩ := hrel
    by_cases hlt : j < n
    · obtain ⟨b1, o1, x, rfl, _, hx0, hcx⟩ := (HS.out.ch hG.ch (fun _ _ _ h => h)).at_ hlt
      have hx := cut_at (p := 16) hx0.out
      rw [HLL.out] at hx
      have ha := and15 x
      generalize (x % ((16 : Nat) : Int)).toNat = y at *
      have htk := take_more hx
      have htl : (L.take j).length = j := by rw [List.length_take, HLN.out]; omega
      generalize L.take j = P at *
      have HG := Bx.mk hG
      have HTK := Bx.mk htk
      obtain ⟨A2, c2, rfl, _, _⟩ := own_shape hG.own
      have HPL := Bx.mk htl
      have hPl : P.length ≤ 400 := by omega
      clear hG htk hx hx0 htl
      go_wp2_with (at_builtin; refine wp_app rfl (.tmp 38) (.tmp 44) elemI rfl rfl (HG.out.own.alloc _) rfl (Vs.one _ _ _) ?c1 ?c2 ?c3 ?_)
      case c1 => intro u hu; simp at hu; subst hu; rfl
      case c2 => omega
      case c3 => omega
      intro v' w2 ho1 hg1 hb1
      have HG2 : Bx (Gr w w2 v' (L.take (j + 1))) := ⟨by rw [HTK.out]; exact HG.out.one ho1 hg1 hb1⟩
      clear ho1 hg1 hb1
      go_wp2
      go_roundw
      case rel => exact ⟨j + 1, by omega, by go_num, HG2.out⟩
      case measure => simp [intOf]; omega
    · have hjn : j = n := by omega
      rw [hjn, List.take_of_length_le (by rw [HLN.out]; omega)] at hG
      obtain ⟨A2, c2, rfl, hSl, hc1, hc2⟩ := hG.shape
      rw [HLN.out] at hSl hc1
      have hLn2 := HLN.out
      rw [hLn2]
      have HSl := Bx.mk hSl
      have HC := Bx.mk hG.ch
      have HC2 := Bx.mk hc2
      have ej : decide ((j : Int) < (n : Int)) = false := by simp; omega
      clear hG hSl hjn hLn2 hc2
      go_wp2_with fail
      refine (build_val 4 W L _ n c2 _ _ HW8.out HSl.out hWl.1 hWl.2 (by omega) HLT.out hc1 HC2.out).mono ?_
      rintro e w1 ⟨T, rfl, hT, hC1⟩
      have HTr := Bx.mk hT
      have HC1 := Bx.mk (HC.out.trans hC1 (fun _ _ h => h))
      clear hT hC1
      go_wp2_with fail
      go_loopw [11, 12, 13] (fun s i _ wr => ∃ q : Nat, q ≤ 16 ∧ i = .int .i64 q ∧ s = .int .i64 (bel L q f t : Nat) ∧ Ch (fun _ => False) w1 wr) (fun _ i _ _ => 16 - (intOf i).toNat)
      case atStart => exact ⟨0, by omega, rfl, by rw [show (((0 : Nat) : Int)) = 0 from rfl, HB0.out], Ch.refl _ _⟩
      case round =>
        obtain ⟨q, hq, rfl, rfl, hC⟩ := hrel
        have HCq := Bx.mk hC
        have HTq := Bx.mk (HTr.out.keep hC)
        clear hC
        by_cases hq16 : q < 16
        · obtain ⟨g1, g2, g3, g4⟩ := HBD.out q
          have g5 := (HBD.out ((q : Int) + 1)).1
          have hbe : ((bel L q f t : Nat) : Int) = (bel L q f t : Nat) := rfl
          generalize hr1 : rk (hit L q) true t = r1 at *
          generalize hr2 : rk (hit L q) true f = r2 at *
          generalize hb1 : bel L q f t = be at *
          generalize hb2 : bel L ((q : Int) + 1) f t = be2 at *
          have HR1 : Bx (((rk (hit L q) true t : Nat) : Int) = r1) := ⟨by rw [hr1]⟩
          have HR2 : Bx (((rk (hit L q) true f : Nat) : Int) = r2) := ⟨by rw [hr2]⟩
          have HBE : Bx (((bel L q f t : Nat) : Int) = be) := ⟨by rw [hb1]⟩
          have HB2 := Bx.mk hb2
          have hbb : ((be : Int) != (be : Int)) = false := by simp
          clear hr1 hr2 hb1 hb2 hbe
          go_wp2_with fail
          refine (trank_any T W L q t r1 _ HTq.out HR1.out).mono ?_
          rintro e w2 ⟨rfl, hC2⟩
          have HT2 := Bx.mk (HTq.out.keep hC2)
          have HC2 := Bx.mk (HCq.out.trans hC2 (fun _ _ h => h))
          clear hC2
          go_wp2_with fail
          refine (trank_any T W L q f r2 _ HT2.out HR2.out).mono ?_
          rintro e w3 ⟨rfl, hC3⟩
          have HT3 := Bx.mk (HT2.out.keep hC3)
          have HC3 := Bx.mk (HC2.out.trans hC3 (fun _ _ h => h))
          clear hC3
          go_wp2_with fail
          refine (tbelow_any T W L q f t be _ HT3.out HBE.out).mono ?_
          rintro e w4 ⟨rfl, hC4⟩
          have HC4 := Bx.mk (HC3.out.trans hC4 (fun _ _ h => h))
          clear hC4
          go_wp2
          go_roundw
          case rel => exact ⟨q + 1, by omega, by go_num, by rw [Int.natCast_add, show ((1 : Nat) : Int) = 1 from rfl, HB2.out]; go_num, HC4.out⟩
          case measure => simp [intOf]; omega
        · have hq' : q = 16 := by omega
          have hb : ((bel L q f t : Nat) : Int) = (t - f : Nat) := by rw [hq']; exact HB16.out
          rw [hb]
          obtain ⟨z, hz⟩ : ∃ z, t - f = z := ⟨_, rfl⟩
          have HZ := Bx.mk hz
          have HBz : Bx (((bel L 16 f t : Nat) : Int) = (z : Nat)) := ⟨by rw [HB16.out, hz]⟩
          have hzz : (t : Int) - (f : Int) = (z : Int) := by omega
          rw [hz]
          have eq16 : decide ((q : Int) < 16) = false := by simp; omega
          clear hb hz
          go_wp2_with fail
          refine (tbelow_any T W L 16 f t z _ HTq.out HBz.out).mono ?_
          rintro e w2 ⟨rfl, hC2⟩
          have HT2 := Bx.mk (HTq.out.keep hC2)
          have HC2 := Bx.mk (HCq.out.trans hC2 (fun _ _ h => h))
          clear hC2
          go_wp2_with fail
          refine (trank_any T W L 16 t 0 _ HT2.out HR16.out).mono ?_
          rintro e w3 ⟨rfl, hC3⟩
          have HT3 := Bx.mk (HT2.out.keep hC3)
          have HC3 := Bx.mk (HC2.out.trans hC3 (fun _ _ h => h))
          clear hC3
          go_wp2_with fail
          refine (tselect_any T W L 16 0 (-1) _ HT3.out ((HT.out.keep HC1.out).keep HC3.out) HS16.out).mono ?_
          rintro e w4 ⟨rfl, hC4⟩
          have HC4 := Bx.mk (HC3.out.trans hC4 (fun _ _ h => h))
          clear hC4
          go_wp2_with fail
          refine (known_any _ ((HT.out.keep HC1.out).keep HC4.out)).mono ?_
          rintro e w5 ⟨rfl, hC5⟩
          have HC5 := Bx.mk (HC1.out.trans (HC4.out.trans hC5 (fun _ _ h => h)) (fun _ _ h => h))
          clear hC5
          go_wp2
          go_ret
          exact ⟨rfl, HC5.out⟩
theorem all_law (xs : List Int) (A : Option Addr) (n c : Nat) (f t : Int) (w : World) (F : Nat → Prop) (ht : Tab w) (hs : Sl w F .i64 A n xs) (hc : n ≤ c) (hcm : c ≤ maxLen) :
    Calls Tryd.prog 7 #[.slice A n c, .int .i64 f, .int .i64 t] w fun e w' => e = .returned (.bool true) ∧ Ch (fun _ => False) w w' := by
  have hcm2 : c ≤ 9223372036854775807 := by unfold maxLen at hcm; omega
  by_cases h : 400 < n ∨ f < 0 ∨ t < f ∨ (n : Int) < t
  · exact all_out A n c f t w (by omega) h
  · obtain ⟨f', rfl⟩ : ∃ f' : Nat, f = f' := ⟨f.toNat, by omega⟩
    obtain ⟨t', rfl⟩ : ∃ t' : Nat, t = t' := ⟨t.toNat, by omega⟩
    exact all_in xs A n c f' t' w F ht hs (by omega) (by omega) (by omega)
end Go.Proofs.YtbckiefkppgipaaDoor
