/-
  The contract of haystacklaw7.alike: true of an Index that is the texts.
  Conditions: texts, patterns and what is asked read as they say; not too many of them.
-/
import Derived.Test.YtckkjccjkdidjaaGreatDoorFxF
import Derived.Test.YtckkjccjkdidjaaGreatDoorFmB
import Derived.Test.YtckkjccjkdidjaaGreatDoorFmA
import Derived.Test.YtckkjccjkdidjaaGreatDoorFmInts
import Derived.Deep.DeepCutAuto
namespace Go.Proofs.YtckkjccjkdidjaaGreatDoor
open Go.RowKit Go.Oct Go.Su X

theorem lenOf_neg (xss : List (List Int)) : lenOf xss (-1) = 0 := by unfold lenOf; rw [if_neg (by omega)]
theorem lenOf_end (xss : List (List Int)) : lenOf xss (xss.length : Nat) = 0 := by unfold lenOf; rw [if_neg (by omega)]
theorem lenOf_at {xss : List (List Int)} {d : Nat} {t : List Int} (h : xss[d]? = some t) : lenOf xss (d : Nat) = t.length := by
  obtain ⟨h1, _⟩ := List.getElem?_eq_some_iff.1 h
  unfold lenOf
  rw [if_pos (by omega), Int.toNat_natCast, List.getD_eq_getElem?_getD, h]
  rfl
theorem ext_len {xss : List (List Int)} (h : ∀ t ∈ xss, t.length ≤ 1048576) (d f k : Int) : (ext xss d f k).length ≤ 1048576 := by
  unfold ext
  split
  · simp
  · rename_i hh
    have h1 : d.toNat < xss.length := by omega
    have h2 := h _ (List.getElem_mem h1)
    rw [List.length_take, List.length_drop, List.getD_eq_getElem?_getD, List.getElem?_eq_getElem h1]
    simp only [Option.getD_some]
    omega
theorem wrap64_of {x y : Int} (h : IntKind.i64.wrap x = y) : wrap64 x = y := by
  rw [← h, IntKind.wrap_i64]
  unfold wrap64
  rfl
theorem ch_cells3 {w w' : World} {b i j k : Nat} {x y z : Value} (hc : Ch (fun _ => False) w w') (h : w.cell? ⟨b, i, none⟩ = some x ∧ w.cell? ⟨b, j, none⟩ = some y ∧ w.cell? ⟨b, k, none⟩ = some z) : w'.cell? ⟨b, i, none⟩ = some x ∧ w'.cell? ⟨b, j, none⟩ = some y ∧ w'.cell? ⟨b, k, none⟩ = some z :=
  ⟨hc.cell (p := ⟨b, i, none⟩) (fun h => h) h.1, hc.cell (p := ⟨b, j, none⟩) (fun h => h) h.2.1, hc.cell (p := ⟨b, k, none⟩) (fun h => h) h.2.2⟩
section
variable {F G H : Nat → Prop}
set_option maxRecDepth 100000 in
set_option maxHeartbeats 8000000 in
theorem alike_any (xss pss : List (List Int)) (qs : List Int) (A B C : Option Addr) (n c m d k e : Nat) (b : Nat) (w : World) (hI : Ix w F b xss) (hz : Sls w G A n xss) (hp : Sls w H B m pss) (ha : Sl w (fun _ => True) .i64 C k qs) (hbp : Byts pss) (hn : n ≤ 1048576) (hm : m ≤ 1048576) (hk : k ≤ 1048576) (hpl : ∀ p ∈ pss, p.length ≤ 1048576) (htl : ∀ t ∈ xss, t.length ≤ 1048576) :
    Calls Tryz.prog 16 #[.pointer (some ⟨b, 0, none⟩), .slice A n c, .slice B m d, .slice C k e] w fun e w' => e = .returned (.bool true) ∧ Ch (fun _ => False) w w' := by
  have HL := Bx.mk hz.len
  have HI := Bx.mk hI
  have HZ := Bx.mk hz
  have HP := Bx.mk hp
  have HA := Bx.mk ha
  have HBP := Bx.mk hbp
  have HPL := Bx.mk hpl
  have HTL := Bx.mk htl
  have hdocs := docs_any hI
  rw [hz.len] at hdocs
  clear hI hz hp ha hbp hpl htl
  go_enter Tryz.func16, Tryz.ntmps16
  go_wp2_with fail
  refine hdocs.mono ?_
  rintro e0 w1 ⟨rfl, q1, rfl⟩
  have hC1 : Ch (fun _ => False) w (w.drewN q1) := (Ch.refl _ w).drewN q1
  have ht := turnedx_any (HI.out.ch hC1 (fun _ _ _ h => h))
  have hnn : ((n : Int) != (n : Int)) = false := by simp
  have HC1 := Bx.mk hC1
  clear hC1 hdocs
  generalize w.drewN q1 = w1 at *
  go_wp2_with fail
  refine ht.mono ?_
  rintro e0 w2 ⟨A2, c2, l2, rfl, hS2, hT2, hC2⟩
  have HC2 := Bx.mk (HC1.out.trans hC2 (fun _ _ h => h))
  have hrt := refturned_any xss A n c w2 (HZ.out.ch HC2.out (fun _ _ _ h => h)) HI.out.byts HI.out.small
  obtain ⟨N, hN⟩ : ∃ N, (txt xss).length = N := ⟨_, rfl⟩
  have hN6 : N ≤ 65536 := by rw [← hN]; exact HI.out.small
  have HN := Bx.mk hN
  rw [hN] at hS2 ⊢
  have HS2 := Bx.mk hS2
  have HT2 := Bx.mk hT2
  clear ht hS2 hT2 hC2 HC1 hN
  go_wp2_with fail
  refine hrt.mono ?_
  rintro e0 w3 ⟨A3, c3, l3, rfl, hS3, hT3, hC3⟩
  obtain rfl := hT3.det HT2.out
  rw [HN.out] at hS3 ⊢
  have hi := ints7_yes l3 A2 A3 N c2 c3 w3 (HS2.out.ch hC3 (fun _ _ _ h => h)) hS3 (by omega)
  have HC3 := Bx.mk (HC2.out.trans hC3 (fun _ _ h => h))
  clear hS3 hT3 hC3 HC2 hrt HS2
  go_wp2_with fail
  refine hi.mono ?_
  rintro e0 w4 ⟨rfl, hC4⟩
  have HC4 := Bx.mk (HC3.out.trans hC4 (fun _ _ h => h))
  have hl1 := len_any (HI.out.ch HC4.out (fun _ _ _ h => h)) (-1)
  rw [lenOf_neg] at hl1
  clear hi hC4 HC3
  go_wp2_with fail
  refine hl1.mono ?_
  rintro e0 w5 ⟨rfl, hq5⟩
  have hC5 : Ch (fun _ => False) w w5 := HC4.out.trans hq5 (fun _ _ h => h)
  have hl2 := len_any (HI.out.ch hC5 (fun _ _ _ h => h)) (n : Nat)
  rw [← HL.out, lenOf_end, HL.out] at hl2
  have HC5 := Bx.mk hC5
  clear hl1 hC5 HC4 hq5
  go_wp2_with fail
  refine hl2.mono ?_
  rintro e0 w6 ⟨rfl, hq6⟩
  have HC6 := Bx.mk (HC5.out.trans hq6 (fun _ _ h => h))
  clear hl2 HC5 hq6
  go_wp2_with fail
  go_loopw [9, 10, 11] (fun i _ _ wr => ∃ j : Nat, j ≤ m ∧ i = .int .i64 j ∧ Ch (fun _ => False) w wr) (fun i _ _ _ => m - (intOf i).toNat)
  case atStart => exact ⟨0, Nat.zero_le _, rfl, HC6.out⟩
  case round =>
    obtain ⟨j, hj, rfl, hC⟩ := hrel
    by_cases hlt : j < m
    · have dj : decide ((j : Int) < (m : Int)) = true := by simp; omega
      obtain ⟨b1, o1, A', c', p, rfl, _, ex, hc, hsl, hlc, hcm⟩ := (HP.out.ch hC (fun _ _ _ h => h)).at_ hlt
      have hbp := HBP.out p (List.mem_of_getElem? ex.out)
      have hpl := HPL.out p (List.mem_of_getElem? ex.out)
      have hro := roomy_any p A' p.length c' wr _ (by omega) hsl
      obtain ⟨pl, hple⟩ : ∃ pl, p.length = pl := ⟨_, rfl⟩
      rw [hple] at hro hc hsl hpl hlc
      have HSL := Bx.mk hsl
      have HCC := Bx.mk hc
      have HBPP := Bx.mk hbp
      have HCR := Bx.mk hC
      have i1 : (j : Int) < (m : Int) := by omega
      have hcb : c' ≤ 9223372036854775807 := by unfold maxLen at hcm; omega
      clear hsl hbp ex hC HC6 hple
      go_wp2_with fail
      refine hro.mono ?_
      rintro e0 w7 ⟨g, kk, rfl, hg, hk1, hk2, ho7, hC7⟩
      have hc7 := hC7.cell (p := ⟨b1, o1 + j, none⟩) (fun h => h) HCC.out
      have hloc := refloc_any xss p A A' n c pl c' w7 (HZ.out.ch (HCR.out.trans hC7 (fun _ _ h => h)) (fun _ _ _ h => h)) (HSL.out.ch hC7 (fun _ _ _ h => h)) HI.out.byts HBPP.out (by have h1 := HI.out.small; rw [txt_len, HL.out] at h1; omega) hn hpl
      have HO7 := Bx.mk ho7
      have HC7 := Bx.mk hC7
      have HCR7 := Bx.mk (HCR.out.trans hC7 (fun _ _ h => h))
      have hkk : kk ≤ 9223372036854775807 := by unfold maxLen at hk2; omega
      clear hro ho7 hC7 hc
      go_wp2_with fail
      refine hloc.mono ?_
      rintro e0 w8 ⟨v8, rfl, hG8⟩
      obtain ⟨A8, c8, rfl, _, hc8⟩ := hG8.shape
      obtain ⟨hn8, hhn⟩ : ∃ q, (locs xss p 0).length = q := ⟨_, rfl⟩
      have hnb : hn8 ≤ 1048576 := by
        have h1 := locs_len (p := p) (xss := xss) n (by rw [HL.out]; exact Nat.le_refl _)
        have h2 := HI.out.small
        rw [txt_len, HL.out] at h2
        rw [take_locs p HL.out] at h1
        omega
      rw [hhn] at hG8 ⊢
      have hH8 := hG8.hits hhn
      have hc8' := hG8.ch.cell (p := ⟨b1, o1 + j, none⟩) (fun h => h) hc7
      have HC8 := Bx.mk (HCR7.out.trans hG8.ch (fun _ _ h => h))
      have ho8 := hG8.ch.own HO7.out (fun _ _ h => h)
      have hw := own_takeB (k := pl) ho8 (by omega)
      have hpr : (p.map (Value.int .u8) ++ [Value.int .u8 171]).take pl = p.map (Value.int .u8) := by
        rw [List.take_append_of_le_length (by rw [List.length_map, HSL.out.len]; exact Nat.le_refl _), List.take_of_length_le (by rw [List.length_map, HSL.out.len]; exact Nat.le_refl _)]
      rw [hpr] at hw
      have hsw : Sl w8 (fun b => (Value.slice (some ⟨g, 0, none⟩) pl kk).ownBlock = some b) .u8 (some ⟨g, 0, none⟩) pl p := Sl.of_own hw
      have hx := locate_any (HI.out.ch HC8.out (fun _ _ _ h => h)) p (some ⟨g, 0, none⟩) pl kk hsw HBPP.out hpl
      have HH8 := Bx.mk hH8
      have HSW := Bx.mk hsw
      have HO8 := Bx.mk ho8
      have HHN := Bx.mk hhn
      have HP8 := Bx.mk (HSL.out.ch (HC7.out.trans hG8.ch (fun _ _ h => h)) (fun _ _ _ h => h))
      have HX := Bx.mk hx
      clear hloc hG8 hH8 ho8 hw hpr hsw hc7 HO7 hx hhn
      go_wp2_with fail
      refine HX.out.mono ?_
      rintro e0 w9 ⟨A9, c9, n9, rfl, hH9, hC9⟩
      obtain rfl : hn8 = n9 := by rw [← HHN.out]; exact hH9.len
      have hy := hits_yes (locs xss p 0) A9 A8 hn8 c9 c8 w9 hH9 (HH8.out.ch hC9 (fun _ _ _ h => h)) hnb
      have HC9 := Bx.mk hC9
      have hc9' := hC9.cell (p := ⟨b1, o1 + j, none⟩) (fun h => h) hc8'
      have HY := Bx.mk hy
      clear hH9 hC9 hy hc8' HX
      go_wp2_with fail
      refine HY.out.mono ?_
      rintro e0 w10 ⟨rfl, hC10⟩
      have HC10 := Bx.mk (HC9.out.trans hC10 (fun _ _ h => h))
      have hc10' := hC10.cell (p := ⟨b1, o1 + j, none⟩) (fun h => h) hc9'
      have hco := count_any ((HI.out.ch HC8.out (fun _ _ _ h => h)).ch HC10.out (fun _ _ _ h => h)) p (some ⟨g, 0, none⟩) pl kk (HSW.out.ch HC10.out (fun _ _ _ h => h)) HBPP.out hpl
      rw [HHN.out] at hco
      have HCO := Bx.mk hco
      have hnq : ((hn8 : Int) != (hn8 : Int)) = false := by simp
      clear hC10 hc9' HY hco HC9
      go_wp2_with fail
      refine HCO.out.mono ?_
      rintro e0 w11 ⟨rfl, hC11⟩
      have HC11 := Bx.mk (HC10.out.trans hC11 (fun _ _ h => h))
      have hc11' := hC11.cell (p := ⟨b1, o1 + j, none⟩) (fun h => h) hc10'
      have hst := stands_any p A' pl c' g kk w11 _ (by omega) hk1 hk2 (HP8.out.ch HC11.out (fun _ _ _ h => h)) (HC11.out.own HO8.out (fun _ _ h => h))
      have HST := Bx.mk hst
      clear hC11 hc10' hst HCO HC10
      go_wp2_with fail
      refine HST.out.mono ?_
      rintro e0 w12 ⟨rfl, q12, rfl⟩
      have HC12 := Bx.mk ((HC8.out.trans HC11.out (fun _ _ h => h)).drewN q12)
      clear HST
      generalize w11.drewN q12 = w12 at *
      go_wp2
      go_roundw
      case rel => exact ⟨j + 1, by omega, by go_num, HC12.out⟩
      case measure => simp [intOf]; omega
    · have dj : decide ((j : Int) < (m : Int)) = false := by simp; omega
      have HC7 := Bx.mk hC
      obtain ⟨w7, rfl⟩ : ∃ w7 : World, w7 = wr := ⟨_, rfl⟩
      clear hC HC6
      go_wp2_with fail
      go_loopw [12] (fun i wr => ∃ j : Nat, j ≤ n ∧ i = .int .i64 j ∧ Ch (fun _ => False) w wr) (fun i _ => n - (intOf i).toNat)
      case atStart => exact ⟨0, Nat.zero_le _, rfl, HC7.out⟩
      case round =>
        obtain ⟨q, hq, rfl, hC⟩ := hrel
        by_cases hlt2 : q < n
        · have dq : decide ((q : Int) < (n : Int)) = true := by simp; omega
          obtain ⟨b1, o1, A', c', t, rfl, _, ex, hc, hsl, hlc, hcm⟩ := (HZ.out.ch hC (fun _ _ _ h => h)).at_ hlt2
          have hle := lenOf_at ex.out
          obtain ⟨tl, htle⟩ : ∃ tl, t.length = tl := ⟨_, rfl⟩
          have htl1 : tl ≤ 1048576 := by rw [← htle]; exact HTL.out t (List.mem_of_getElem? ex.out)
          rw [htle] at hle hc
          have HLE := Bx.mk hle
          have hnn2 : ((tl : Int) != (tl : Int)) = false := by simp
          have i1 : (q : Int) < (n : Int) := by omega
          have HCR := Bx.mk hC
          have HIR := Bx.mk (HI.out.ch hC (fun _ _ _ h => h))
          obtain ⟨wo, rfl⟩ : ∃ wo : World, wo = wr := ⟨_, rfl⟩
          clear hle hsl ex hC htle
          go_wp2_with fail
          go_region_held3 (fun w' => w'.cell? ⟨b1, o1 + q, none⟩ = some (.slice A' tl c')) (first | go_keep | exact s1 | exact hc) ((go_at_call 26; refine (len_val (HIR.out.ch ((Ch.refl (fun _ => False) wo).drewN 1) (fun _ _ _ h => h)) (q : Nat) tl HLE.out).mono ?_; rintro e w1 ⟨rfl, hq1⟩; have hc1 : Ch (fun _ => False) wo w1 := ((Ch.refl (fun _ => False) wo).drewN 1).trans hq1 (fun _ _ h => h); have s1 : w1.cell? ⟨b1, o1 + q, none⟩ = some (.slice A' tl c') := Ch.cell (p := ⟨b1, o1 + q, none⟩) hc1 (fun h => h) hc))
          all_goals
            have HC9 := Bx.mk (HCR.out.trans hc1 (fun _ _ h => h))
            clear hc1 hq1 s1 hc
            go_wp2
            go_roundw
            case rel => exact ⟨q + 1, by omega, by go_num, HC9.out⟩
            case measure => simp [intOf]; omega
        · have dq : decide ((q : Int) < (n : Int)) = false := by simp; omega
          have HC8 := Bx.mk hC
          obtain ⟨w8, rfl⟩ : ∃ w8 : World, w8 = wr := ⟨_, rfl⟩
          clear hC HC7
          go_wp2_with fail
          go_loopw [13] (fun i wr => ∃ j : Nat, j ≤ k + 2 ∧ i = .int .i64 j ∧ Ch (fun _ => False) w wr) (fun i _ => k + 2 - (intOf i).toNat)
          case atStart => exact ⟨0, Nat.zero_le _, rfl, HC8.out⟩
          case round =>
            obtain ⟨r, hr, rfl, hC⟩ := hrel
            by_cases hlt3 : r + 2 < k
            · have dr : decide ((r : Int) + 2 < (k : Int)) = true := by simp; omega
              obtain ⟨b1, o1, x, rfl, _, _, hcx⟩ := (HA.out.ch hC (fun _ _ _ h => h)).at_ (k := r) (by omega)
              obtain ⟨b2, o2, y, hA, _, _, hcy⟩ := (HA.out.ch hC (fun _ _ _ h => h)).at_ (k := r + 1) (by omega)
              injection hA with hA
              injection hA with e1 e2
              subst e1 e2
              obtain ⟨b2, o2, z, hA, _, _, hcz⟩ := (HA.out.ch hC (fun _ _ _ h => h)).at_ (k := r + 2) (by omega)
              injection hA with hA
              injection hA with e1 e2
              subst e1 e2
              have HCR := Bx.mk hC
              obtain ⟨wo, rfl⟩ : ∃ wo : World, wo = wr := ⟨_, rfl⟩
              have HIo := Bx.mk (HI.out.ch hC (fun _ _ _ h => h))
              have HZo := Bx.mk (HZ.out.ch hC (fun _ _ _ h => h))
              obtain ⟨ys, hys⟩ : ∃ ys, ext xss x y z = ys := ⟨_, rfl⟩
              have hyl : ys.length ≤ 1048576 := by
                rw [← hys]
                exact ext_len HTL.out x y z
              have HYS := Bx.mk hys
              have i1 : (r : Int) < (k : Int) := by omega
              have i2 : (r : Int) + 1 < (k : Int) := by omega
              have i3 : (r : Int) + 2 < (k : Int) := by omega
              obtain ⟨r1, hr1⟩ : ∃ r1, r + 1 = r1 := ⟨_, rfl⟩
              obtain ⟨r2, hr2⟩ : ∃ r2, r + 2 = r2 := ⟨_, rfl⟩
              rw [hr1] at hcy
              rw [hr2] at hcz
              have j5 : (0 : Int) ≤ (r1 : Int) := by omega
              have j6 : (0 : Int) ≤ (r2 : Int) := by omega
              have j9 : (0 : Int) ≤ (r : Int) := by omega
              have i4 : (r1 : Int) < (k : Int) := by omega
              have i5 : (r2 : Int) < (k : Int) := by omega
              have HR := Bx.mk (And.intro hr1 hr2)
              clear i2 i3
              have hcc : wo.cell? ⟨b1, o1 + r, none⟩ = some (.int .i64 x) ∧ wo.cell? ⟨b1, o1 + r1, none⟩ = some (.int .i64 y) ∧ wo.cell? ⟨b1, o1 + r2, none⟩ = some (.int .i64 z) := ⟨hcx, hcy, hcz⟩
              clear hC hcx hcy hcz hys hr1 hr2
              go_wp2_with fail
              have hr1 := HR.out.1
              have hr2 := HR.out.2
              have j1 : IntKind.i64.wrap ((r : Int) + 1) = (r1 : Int) := by rw [IntKind.wrap_i64]; omega
              have j2 : IntKind.i64.wrap ((r : Int) + 2) = (r2 : Int) := by rw [IntKind.wrap_i64]; omega
              have j3' : wrap64 ((r : Int) + 1) = (r1 : Int) := wrap64_of j1
              have j4 : wrap64 ((r : Int) + 2) = (r2 : Int) := wrap64_of j2
              clear hr1 hr2
              go_region_held3 (fun w' => w'.cell? ⟨b1, o1 + r, none⟩ = some (.int .i64 x) ∧ w'.cell? ⟨b1, o1 + r1, none⟩ = some (.int .i64 y) ∧ w'.cell? ⟨b1, o1 + r2, none⟩ = some (.int .i64 z)) (first | go_keep | exact s3 | exact s2 | exact s1 | exact hcc) (first | (go_at_call 19; refine (extract_any (HIo.out.ch ((Ch.refl (fun _ => False) wo).drewN 1) (fun _ _ _ h => h)) x y z).mono ?_; rw [HYS.out]; rintro e w1 ⟨A1, d1, rfl, hv1, hl1, hm1, hc1⟩; have s1 := ch_cells3 hc1 hcc) | (go_at_call 36; refine (refext_any xss A n c x y z _ ((HZo.out.ch ((Ch.refl (fun _ => False) wo).drewN 1) (fun _ _ _ h => h)).ch hc1 (fun _ _ _ h => h)) HTL.out).mono ?_; rw [HYS.out]; rintro e w2 ⟨v2, rfl, hf2⟩; obtain ⟨A2, d2, rfl, _, hd2⟩ := own_shape hf2.1; have s2 := ch_cells3 hf2.2.2 s1) | (go_at_call 14; refine (same_any A1 A2 ys.length ys.length d1 d2 ys ys _ _ _ (by omega) (by omega) (hv1.ch hf2.2.2 (fun _ _ _ h => h)) (Sl.of_own hf2.1)).mono ?_; rintro e w3 ⟨rfl, j3, ew3⟩; have s3 : w3.cell? ⟨b1, o1 + r, none⟩ = some (.int .i64 x) ∧ w3.cell? ⟨b1, o1 + r1, none⟩ = some (.int .i64 y) ∧ w3.cell? ⟨b1, o1 + r2, none⟩ = some (.int .i64 z) := (by rw [ew3]; exact s2)))
              all_goals
                have HC9 : Bx (Ch (fun _ => False) w (w2.drewN j3)) := ⟨((HCR.out.drew.trans hc1 fun _ _ h => h).trans hf2.2.2 fun _ _ h => h).drewN _⟩
                clear hv1 hl1 hm1 hc1 s1 hf2 s2 s3
                generalize w2.drewN j3 = w9 at *
                go_wp2
                go_roundw
                case rel => exact ⟨r + 3, by omega, by go_num, HC9.out⟩
                case measure => simp [intOf]; omega
            · have dr : decide ((r : Int) + 2 < (k : Int)) = false := by simp; omega
              have HC9 := Bx.mk hC
              clear hC
              go_wp2
              go_ret
              exact ⟨rfl, HC9.out⟩
end
end Go.Proofs.YtckkjccjkdidjaaGreatDoor
