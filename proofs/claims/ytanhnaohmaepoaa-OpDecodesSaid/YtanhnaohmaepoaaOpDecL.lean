/-
  The law OpDecodes: any bytes as an op, as a reply, as places, or refused; what is read is written so.
  Conditions: the bytes read as they say.
-/
import Derived.Test.YtanhnaohmaepoaaOpDecW
import Derived.Test.YtanhnaohmaepoaaOpKnown
import Derived.Test.YtanhnaohmaepoaaOpRep
import Derived.Test.YtanhnaohmaepoaaOpMat
import Derived.Test.YtanhnaohmaepoaaOpOps
import Derived.Test.YtanhnaohmaepoaaOpMats
namespace Go.Proofs.Ytanhnaohmaepoaa
open Go.RowKit Go.Oct Go.Su Go.Sg Go.Om

section
variable {F : Nat → Prop}
set_option maxHeartbeats 8000000 in
set_option maxRecDepth 100000 in
theorem opdecodes_any (xs : List Int) (A : Option Addr) (n c : Nat) (w : World) (hx : Sl w F .u8 A n xs) (hby : Byt xs) (hnc : n ≤ c) (hc : c ≤ maxLen) :
    Calls Try.prog 4 #[.slice A n c] w fun e w' => e = .returned (.bool true) ∧ Ch (fun _ => False) w w' := by
  have HX := Bx.mk (Kp.sl hx)
  have HXL := Bx.mk hx.len
  have HBY := Bx.mk hby
  have HCC := Bx.mk (And.intro hnc hc)
  clear hx hby
  by_cases hbig : 6000 < n
  · have dt : decide ((6000 : Int) < (n : Int)) = true := decide_eq_true (by omega)
    go_enter Try.func4, Try.ntmps4
    go_wp2_with fail
    go_ret
    exact ⟨rfl, Ch.refl _ _⟩
  · have dt : decide ((6000 : Int) < (n : Int)) = false := decide_eq_false (by omega)
    have dt2 : decide (6000 < n) = false := decide_eq_false (by omega)
    have hn6 : n ≤ 6000 := by omega
    have HRM := Bx.mk (roomy_any xs A n c w _ (by omega) HX.out.now)
    clear hbig hnc hc
    go_enter Try.func4, Try.ntmps4
    go_wp2_with fail
    refine HRM.out.mono ?_
    rintro e w1 ⟨g, q, rfl, _, hnq, hq, ho, hC1⟩
    have hq63 : q ≤ 9223372036854775807 := by unfold maxLen at hq; omega
    have hnq2 : n ≤ q := by omega
    have HC1 := Bx.mk hC1
    have HQ := Bx.mk hq
    have HRO := Bx.mk (Kp.own ho)
    have HS1 : Bx (Kp (fun w => Sl w (fun b => b = g) .u8 (some ⟨g, 0, none⟩) n xs) w1) := ⟨by
      have h := own_takeB ho (k := n) (by omega)
      rw [List.take_append_of_le_length (by rw [List.length_map, HXL.out]; omega), List.take_of_length_le (by rw [List.length_map, HXL.out]; omega)] at h
      exact Kp.sl ((Sl.of_own h).mono fun b _ hb => by simp [Value.ownBlock] at hb; omega)⟩
    have HD := Bx.mk (decode_any xs (some ⟨g, 0, none⟩) n q w1 HS1.out.now HBY.out (by omega) hnq2 HQ.out)
    obtain ⟨kd, cl, sq, kk, txt, hdo⟩ : ∃ kd cl sq kk txt, decO xs = ⟨kd, cl, sq, kk, txt⟩ := ⟨_, _, _, _, _, rfl⟩
    obtain ⟨er, her⟩ : ∃ e, decE xs = e := ⟨_, rfl⟩
    obtain ⟨S, hS⟩ : ∃ S : ByteArray, kv kk = .string S := ⟨_, rfl⟩
    obtain ⟨t, ht⟩ : ∃ t, txt.length = t := ⟨_, rfl⟩
    have HDO := Bx.mk hdo
    have HER := Bx.mk her
    have HS := Bx.mk hS
    have HTL := Bx.mk ht
    clear ho hC1 hq HRM dt dt2 hdo her hS ht
    go_wp2_with fail
    refine HD.out.mono ?_
    rintro e w2 ⟨A2, c2, rfl, hf2⟩
    rw [HDO.out] at hf2 ⊢
    rw [HER.out]
    dsimp only at hf2 ⊢
    rw [HTL.out] at hf2 ⊢
    rw [HS.out]
    have hS2 := Kp.sl (Fresh.sl hf2 HTL.out.symm)
    have HC2 := Bx.mk (HC1.out.trans hf2.2.2 (fun _ _ h => h))
    have hRO2 := HRO.out.next hf2.2.2
    have hS12 := HS1.out.next hf2.2.2
    have HB2 : Bx ((t ≤ c2 ∧ c2 ≤ maxLen)) := ⟨by
      obtain ⟨A', c', ee, h1, h2⟩ := own_shape hf2.1
      injection ee with _ _ ee
      subst ee
      rw [HTL.out] at h1
      exact ⟨h1, h2⟩⟩
    clear HD HC1 HRO HS1 hf2
    go_upto_region 5 with fail
    obtain ⟨w3, hw3⟩ : ∃ w3, w2.alloc (.cells #[.int .i64 kd, .int .i64 cl, .int .i64 sq, .string S, .slice A2 t c2] 24) = w3 := ⟨_, rfl⟩
    obtain ⟨b4, hb4⟩ : ∃ b, w2.heap.size = b := ⟨_, rfl⟩
    rw [hw3, hb4]
    have hC23 : Ch (fun _ => False) w2 w3 := by rw [← hw3]; exact (Ch.refl _ _).alloc _
    have hB4 : OpB w3 b4 kd cl sq (.string S) (.slice A2 t c2) := by rw [← hw3, ← hb4]; exact heap_alloc_new w2 _
    have HC3 := Bx.mk (HC2.out.trans hC23 (fun _ _ h => h))
    have HK := Bx.mk ((((hRO2.next hC23).and (hS12.next hC23)).and (hS2.next hC23)).and (Kp.opb hB4))
    have HD := Bx.mk (refdec_any xs A n c w3 (HX.out _ HC3.out) HBY.out hn6 HCC.out.1 HCC.out.2)
    clear hS2 hRO2 hS12 hB4 hw3 hb4 hC23 HC2
    go_wp2_with fail
    refine HD.out.mono ?_
    rintro e w4 ⟨A4, c4, rfl, hf4⟩
    rw [HDO.out] at hf4 ⊢
    rw [HER.out]
    dsimp only at hf4 ⊢
    rw [HTL.out] at hf4 ⊢
    rw [HS.out]
    have hS4 := Kp.sl (Fresh.sl hf4 HTL.out.symm)
    have HC4 := Bx.mk (HC3.out.trans hf4.2.2 (fun _ _ h => h))
    have hK4 := HK.out.next hf4.2.2
    clear HD HC3 HK hf4
    go_upto_region 6 with fail
    obtain ⟨w5, hw5⟩ : ∃ w5, w4.alloc (.cells #[.int .i64 kd, .int .i64 cl, .int .i64 sq, .string S, .slice A4 t c4] 24) = w5 := ⟨_, rfl⟩
    obtain ⟨b6, hb6⟩ : ∃ b, w4.heap.size = b := ⟨_, rfl⟩
    rw [hw5, hb6]
    have hC45 : Ch (fun _ => False) w4 w5 := by rw [← hw5]; exact (Ch.refl _ _).alloc _
    have hB6 : OpB w5 b6 kd cl sq (.string S) (.slice A4 t c4) := by rw [← hw5, ← hb6]; exact heap_alloc_new w4 _
    have HC5 := Bx.mk (HC4.out.trans hC45 (fun _ _ h => h))
    have HK := Bx.mk (((hK4.next hC45).and (hS4.next hC45)).and (Kp.opb hB6))
    have HD := Bx.mk (decrep_any xs (some ⟨g, 0, none⟩) n q w5 HK.out.now.1.1.1.1.2 HBY.out (by omega) hnq2 HQ.out)
    clear hS4 hK4 hB6 hw5 hb6 hC45 HC4
    go_wp2_with fail
    refine HD.out.mono ?_
    rintro e w6 h6
    obtain ⟨re, rl, A6, k6, c6, rc, rfl, hV6⟩ := h6.view
    have HV6 := Bx.mk hV6
    have HC6 := Bx.mk (HC5.out.trans hV6.ch (fun _ _ h => h))
    have hK6 := (HK.out.next hV6.ch).and (Kp.sl hV6.row)
    clear HD HC5 HK h6 hV6
    go_upto_region 7 with fail
    obtain ⟨w7, hw7⟩ : ∃ w7, w6.alloc (.cells #[.int .i64 re, .slice A6 k6 c6] 41) = w7 := ⟨_, rfl⟩
    obtain ⟨b8, hb8⟩ : ∃ b, w6.heap.size = b := ⟨_, rfl⟩
    rw [hw7, hb8]
    have hC67 : Ch (fun _ => False) w6 w7 := by rw [← hw7]; exact (Ch.refl _ _).alloc _
    have hB8 : RpB w7 b8 re (.slice A6 k6 c6) := by rw [← hw7, ← hb8]; exact heap_alloc_new w6 _
    have HC7 := Bx.mk (HC6.out.trans hC67 (fun _ _ h => h))
    have HK := Bx.mk ((hK6.next hC67).and (Kp.rpb hB8))
    have HD := Bx.mk (refdrep_any xs A n c w7 (HX.out _ HC7.out) HBY.out hn6 HCC.out.1 HCC.out.2)
    clear hK6 hB8 hw7 hb8 hC67 HC6
    go_wp2_with fail
    refine HD.out.mono ?_
    rintro e w8 h8
    obtain ⟨re', rl', A8, k8, c8, rc', rfl, hV8⟩ := h8.view
    obtain ⟨rfl, rfl, rfl⟩ := HV6.out.tell.same hV8.tell
    obtain rfl : k6 = k8 := by rw [← HV6.out.len, ← hV8.len]
    have HC8 := Bx.mk (HC7.out.trans hV8.ch (fun _ _ h => h))
    have HK8 := Bx.mk ((HK.out.next hV8.ch).and (Kp.sl hV8.row))
    clear HD HC7 HK h8 hV8
    have HD := Bx.mk (decmat_any xs (some ⟨g, 0, none⟩) n q w8 HK8.out.now.1.1.1.1.1.1.1.2 HBY.out (by omega) hnq2 HQ.out)
    go_wp2_with fail
    refine HD.out.mono ?_
    rintro e w9 h9
    obtain ⟨ml, A9, k9, c9, mc, rfl, hV9⟩ := h9.tells
    have HV9 := Bx.mk hV9
    have HC9 := Bx.mk (HC8.out.trans hV9.ch (fun _ _ h => h))
    have HK9 := Bx.mk ((HK8.out.next hV9.ch).and (Kp.mts hV9.row))
    clear HD HC8 HK8 h9 hV9
    have HD := Bx.mk (refdmat_any xs A n c w9 (HX.out _ HC9.out) HBY.out (by omega) HCC.out.1 HCC.out.2)
    go_wp2_with fail
    refine HD.out.mono ?_
    rintro e w10 h10
    obtain ⟨ml', A10, k10, c10, mc', rfl, hV10⟩ := h10.tells
    obtain ⟨rfl, rfl⟩ := HV9.out.tell.same hV10.tell
    obtain rfl : k9 = k10 := by rw [← HV9.out.len, ← hV10.len]
    have HC10 := Bx.mk (HC9.out.trans hV10.ch (fun _ _ h => h))
    have HK10 := Bx.mk ((HK9.out.next hV10.ch).and (Kp.mts hV10.row))
    clear HD HC9 HK9 h10 hV10
    go_upto_region 10 with fail
    have hlen := decO_len xs
    rw [HDO.out, HXL.out] at hlen
    have hkl : kk.length ≤ 6000 := Nat.le_trans hlen.1 hn6
    have htl : t ≤ 6000 := by rw [← HTL.out]; exact Nat.le_trans hlen.2 hn6
    have hml := HV9.out.tell.small
    rw [HXL.out, HV9.out.len] at hml
    have hk9 : k9 ≤ 6000 := by omega
    have hrl := HV6.out.tell.small
    rw [HV6.out.len] at hrl
    have HFL : Bx ((ml.flatMap mB).length ≤ 1000000) := ⟨by omega⟩
    have HKL := Bx.mk hkl
    obtain ⟨⟨⟨⟨⟨⟨⟨⟨⟨⟨_, _⟩, hS2⟩, hB4⟩, hS4⟩, hB6⟩, _⟩, _⟩, _⟩, _⟩, _⟩ := HK10.out.now
    obtain ⟨y0, y1, y2, y3, y4, _, _, _, _, _⟩ := hB4.facts
    obtain ⟨z0, z1, z2, z3, z4, _, _, _, _, _⟩ := hB6.facts
    have HOP := Bx.mk (ops_any kd cl sq kk txt A2 t c2 kd cl sq kk txt A4 t c4 w10 hS2 hS4 (by omega) (by omega) true (by simp))
    rw [HS.out] at HOP
    have he1 : (er != er) = false := by simp
    have he2 : (re != re) = false := by simp
    have he3 : (rc != rc) = false := by simp
    have he4 : (mc != mc) = false := by simp
    clear hlen hkl hml hS2 hB4 hS4 hB6
    go_wp2_with fail
    refine HOP.out.mono ?_
    rintro e w11 ⟨rfl, hC11⟩
    have HC11 := Bx.mk (HC10.out.trans hC11 (fun _ _ h => h))
    have HK11 := Bx.mk (HK10.out.next hC11)
    clear hC11 HOP HC10 HK10 y0 y1 y2 y3 y4 z0 z1 z2 z3 z4
    obtain ⟨⟨⟨⟨⟨⟨⟨⟨⟨⟨_, _⟩, _⟩, _⟩, _⟩, _⟩, hS6⟩, hB8⟩, hS8⟩, _⟩, _⟩ := HK11.out.now
    obtain ⟨y0, y1, _, _⟩ := hB8.facts
    have HIN := Bx.mk (ints_o A6 A8 k6 k6 c6 c8 rl rl _ _ w11 (by omega) (by omega) hS6 hS8 true (by simp))
    clear hS6 hB8 hS8
    go_wp2_with fail
    refine HIN.out.mono ?_
    rintro e w12 ⟨rfl, hC12⟩
    have HC12 := Bx.mk (HC11.out.trans hC12 (fun _ _ h => h))
    have HK12 := Bx.mk (HK11.out.next hC12)
    clear hC12 HIN HC11 HK11 y0 y1
    obtain ⟨⟨_, hM9⟩, hM10⟩ := HK12.out.now
    have HMT := Bx.mk (lawmatches_any ml ml A9 A10 k9 k9 c9 c10 w12 hM9 hM10 (by omega) true (by simp))
    clear hM9 hM10
    go_wp2_with fail
    refine HMT.out.mono ?_
    rintro e w13 ⟨rfl, q13, hq13⟩
    have hC13 : Ch (fun _ => False) w12 w13 := by rw [hq13]; exact (Ch.refl _ _).drewN q13
    have HC13 := Bx.mk (HC12.out.trans hC13 (fun _ _ h => h))
    have HK13 := Bx.mk (HK12.out.next hC13)
    clear hC13 hq13 HMT HC12 HK12
    obtain ⟨⟨⟨⟨⟨⟨⟨⟨⟨⟨hRO, _⟩, _⟩, _⟩, _⟩, _⟩, _⟩, _⟩, _⟩, _⟩, _⟩ := HK13.out.now
    have HST := Bx.mk (stands_any xs A n c g q w13 _ (by omega) hnq HQ.out (HX.out _ HC13.out) hRO)
    clear hRO
    go_wp2_with fail
    refine HST.out.mono ?_
    rintro e w14 ⟨rfl, q14, hq14⟩
    have hC14 : Ch (fun _ => False) w13 w14 := by rw [hq14]; exact (Ch.refl _ _).drewN q14
    have HC14 := Bx.mk (HC13.out.trans hC14 (fun _ _ h => h))
    have HK14 := Bx.mk (HK13.out.next hC14)
    clear hC14 hq14 HST HC13 HK13 he1 he2 he3 he4
    go_upto_region 12 with fail
    obtain ⟨FF, hFF⟩ : ∃ FF : Nat → Prop, FF = fun b => w5.heap.size ≤ b := ⟨_, rfl⟩
    obtain ⟨GG, hGG⟩ : ∃ GG : Nat → Prop, GG = fun b => w8.heap.size ≤ b := ⟨_, rfl⟩
    have HKK : Bx (∀ wx, Ch (fun _ => False) w14 wx → RpB wx b8 re (.slice A6 k6 c6) ∧ Sl wx FF .i64 A6 k6 rl ∧ Mts wx GG A9 k9 ml) := ⟨fun wx hx => by
      obtain ⟨⟨⟨⟨⟨⟨⟨⟨⟨⟨_, _⟩, _⟩, _⟩, _⟩, _⟩, hS6⟩, hB8⟩, _⟩, hM9⟩, _⟩ := HK14.out wx hx
      rw [hFF, hGG]
      exact ⟨hB8, hS6, hM9⟩⟩
    clear hFF hGG
    go_upto_if 109 with fail
    go_cut [17, 18] (fun _ _ wx => Bx (Ch (fun _ => False) w14 wx))
    case first =>
      rcases decE_two xs with h3 | h3
      · rw [HER.out] at h3
        subst h3
        have hbk := dec_back HBY.out HER.out
        rw [HDO.out] at hbk
        have HBK := Bx.mk hbk
        obtain ⟨⟨⟨⟨⟨⟨⟨⟨⟨⟨_, _⟩, hS2⟩, hB4⟩, _⟩, _⟩, _⟩, _⟩, _⟩, _⟩, _⟩ := HK14.out.now
        obtain ⟨y0, y1, y2, y3, y4, _, _, _, _, _⟩ := hB4.facts
        have HEN := Bx.mk (encode_any kd cl sq kk txt A2 t c2 w14 hS2 (by omega) HB2.out.1 HB2.out.2 (by have := HKL.out; omega))
        rw [HS.out] at HEN
        clear hS2 hB4 hbk
        go_wp2_with fail
        refine HEN.out.mono ?_
        rintro e w15 ⟨v15, rfl, hf15⟩
        rw [HBK.out.1]
        rw [HBK.out.2] at hf15
        obtain ⟨A15, c15, rfl, _, _⟩ := own_shape hf15.1
        have hS15 := Fresh.sl hf15 rfl
        rw [HXL.out] at hS15 ⊢
        have HC15 := Bx.mk hf15.2.2
        have HSM := Bx.mk (same_o A15 A n n c15 c xs xs _ _ w15 (by omega) (by omega) hS15 (HX.out _ (HC14.out.trans hf15.2.2 (fun _ _ h => h))) true (by simp))
        clear hf15 hS15 HEN y0 y1 y2 y3 y4
        go_wp2_with fail
        refine HSM.out.mono ?_
        rintro e w16 ⟨rfl, hC16⟩
        have HC16 := Bx.mk (HC15.out.trans hC16 (fun _ _ h => h))
        clear hC16 HSM
        go_wp2_with fail
        go_meet
        exact HC16
      · rw [HER.out] at h3
        subst h3
        go_wp2_with fail
        go_meet
        exact ⟨Ch.refl _ _⟩
    case rest =>
    have hC17 := hcut.out
    have HC17 := Bx.mk (HC14.out.trans hC17 (fun _ _ h => h))
    obtain ⟨hB8, hS6, hM9⟩ := HKK.out _ hC17
    have HM9 := Bx.mk (Kp.mts hM9)
    obtain ⟨y0, y1, _, _⟩ := hB8.facts
    have HV := Bx.mk (And.intro HV6.out.tell.code HV9.out.tell.code)
    have HE6 := Bx.mk (erep_any re rl A6 k6 c6 wc hS6 (by omega) HV6.out.le HV6.out.cap)
    clear hcut hC17 hB8 hS6 hM9
    go_upto_region 16 with fail
    go_cut [131] (fun s wx => s = .bool false ∧ Bx (Ch (fun _ => False) wc wx))
    case first =>
      rcases HV.out.1 with h3 | h3
      · subst h3
        have hbk := HV6.out.tell.back.1
        rw [hbk] at HE6
        clear hbk
        go_wp2_with fail
        refine HE6.out.mono ?_
        rintro e w15 ⟨v15, rfl, hf15⟩
        obtain ⟨A15, c15, rfl, _, _⟩ := own_shape hf15.1
        have hS15 := Fresh.sl hf15 rfl
        rw [HXL.out] at hS15 ⊢
        have HC15 := Bx.mk hf15.2.2
        have HSM := Bx.mk (same_o A15 A n n c15 c xs xs _ _ w15 (by omega) (by omega) hS15 (HX.out _ (HC17.out.trans hf15.2.2 (fun _ _ h => h))) true (by simp))
        clear hf15 hS15
        go_wp2_with fail
        refine HSM.out.mono ?_
        rintro e w16 ⟨rfl, hC16⟩
        have HC16 := Bx.mk (HC15.out.trans hC16 (fun _ _ h => h))
        clear hC16 HSM
        go_wp2_with fail
        go_meet
        exact ⟨rfl, HC16⟩
      · subst h3
        go_wp2_with fail
        go_meet
        exact ⟨rfl, ⟨Ch.refl _ _⟩⟩
    case rest =>
    obtain ⟨rfl, hC18⟩ := hcut
    have HC18 := Bx.mk (HC17.out.trans hC18.out (fun _ _ h => h))
    have HM18 := Bx.mk (HM9.out.next hC18.out)
    clear hC18 HE6 HM9 HC17 HKK HK14 HC14
    rcases HV.out.2 with h3 | h3
    · subst h3
      have hbk := HV9.out.tell.back.1
      have HE9 := Bx.mk (mats_any ml A9 k9 c9 _ HM18.out.now (by omega) HFL.out)
      rw [hbk] at HE9
      clear hbk
      go_wp2_with fail
      refine HE9.out.mono ?_
      rintro e w15 ⟨v15, rfl, hf15⟩
      obtain ⟨A15, c15, rfl, _, _⟩ := own_shape hf15.1
      have hS15 := Fresh.sl hf15 rfl
      rw [HXL.out] at hS15 ⊢
      have HC15 := Bx.mk (HC18.out.trans hf15.2.2 (fun _ _ h => h))
      have HSM := Bx.mk (same_o A15 A n n c15 c xs xs _ _ w15 (by omega) (by omega) hS15 (HX.out _ HC15.out) true (by simp))
      clear hf15 hS15 HE9
      go_wp2_with fail
      refine HSM.out.mono ?_
      rintro e w16 ⟨rfl, hC16⟩
      have HC16 := Bx.mk (HC15.out.trans hC16 (fun _ _ h => h))
      clear hC16 HSM
      go_wp2_with fail
      refine (known_any _).mono ?_
      rintro e w17 ⟨rfl, hC17⟩
      have HC17 := Bx.mk (HC16.out.trans hC17 (fun _ _ h => h))
      clear hC17
      go_wp2
      go_ret
      exact ⟨rfl, HC17.out⟩
    · subst h3
      go_wp2_with fail
      refine (known_any _).mono ?_
      rintro e w17 ⟨rfl, hC17⟩
      have HC17 := Bx.mk (HC18.out.trans hC17 (fun _ _ h => h))
      clear hC17
      go_wp2
      go_ret
      exact ⟨rfl, HC17.out⟩
end
end Go.Proofs.Ytanhnaohmaepoaa
