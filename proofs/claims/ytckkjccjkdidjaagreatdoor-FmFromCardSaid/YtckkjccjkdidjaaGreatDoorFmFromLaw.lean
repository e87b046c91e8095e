/-
  The law FmFrom: any row is the turned row of some texts, whose index is as it was, or refused. Over the contracts of the Index.
-/
import Derived.Test.YtckkjccjkdidjaaGreatDoorFmRound
import Derived.Test.YtckkjccjkdidjaaGreatDoorFmInts
import Derived.Test.YtckkjccjkdidjaaGreatDoorFmA
import Derived.Test.YtckkjccjkdidjaaGreatDoorFmC
namespace Go.Proofs.YtckkjccjkdidjaaGreatDoor
open Go.RowKit Go.Oct Go.Su X

/-- From and the document's From tell the same. -/
theorem from_both {l : List Int} {n m : Nat} {ec : Int} {xss : List (List Int)} (hn : n ≤ 65536) (hr : FRes l n ec m xss) : (NoTxt l ∧ ec = 3 ∧ m = 0 ∧ xss = []) ∨ (ec = 0 ∧ Byts xss ∧ Turned (txt xss) l ∧ m = xss.length) := by
  rcases hr with ⟨h, _⟩ | ⟨_, h1, h2, h3, h4⟩ | ⟨_, h1, h2, h3, h4⟩
  · omega
  · exact .inl ⟨h1, h2, h3, h4⟩
  · exact .inr ⟨h1, h2, h3, h4⟩
theorem turned_len {xss : List (List Int)} {l : List Int} (h : Turned (txt xss) l) : (∀ t ∈ xss, t.length ≤ l.length) ∧ xss.length ≤ l.length := by
  have h1 := h.len
  refine ⟨fun t ht => by have := txt_each t ht; omega, ?_⟩
  have h2 := le_beg (xss := xss) (n := xss.length) (Nat.le_refl _)
  rw [txt_len] at h1
  omega
section
variable {F G : Nat → Prop}
set_option maxRecDepth 100000 in
set_option maxHeartbeats 4000000 in
theorem from_law (l : List Int) (pss : List (List Int)) (A B : Option Addr) (n c m d : Nat) (w : World) (hl : Sl w F .i64 A n l) (hp : Sls w G B m pss) (hbp : Byts pss) (hn : n ≤ 9223372036854775807) (hm : m ≤ 9223372036854775807) (ht : W.Tab w) :
    Calls Tryz.prog 5 #[.slice A n c, .slice B m d] w fun e w' => e = .returned (.bool true) ∧ Ch (fun _ => False) w w' := by
  have HL := Bx.mk hl
  have HP := Bx.mk hp
  have HBP := Bx.mk hbp
  have HLP := Bx.mk hp.len
  have HT := Bx.mk ht
  have hh2 := heavy_any pss B m d w G hm hp
  clear hl hp hbp ht
  by_cases h800 : 800 < n
  · have d1 : decide (800 < (n : Int)) = true := by simp; omega
    have d2 : decide (800 < n) = true := by simp; omega
    go_enter Tryz.func5, Tryz.ntmps5
    go_wp2
    go_ret
    exact ⟨rfl, Ch.refl _ _⟩
  · have d1 : decide (800 < (n : Int)) = false := by simp; omega
    have d2 : decide (800 < n) = false := by simp; omega
    go_enter Tryz.func5, Tryz.ntmps5
    go_wp2_with fail
    refine hh2.mono ?_
    rintro e0 w1 ⟨hv, rfl, rfl, hs⟩
    clear hh2
    cases hv with
    | true =>
      go_wp2
      go_ret
      exact ⟨rfl, Ch.refl _ _⟩
    | false =>
      have HPE := Bx.mk (slim_each (hs rfl))
      have hmb : m ≤ 266 := by have := (slim_txt (hs rfl)).2; rw [HLP.out] at this; exact this
      clear hs
      by_cases h10 : 10 < m
      · have d3 : decide (10 < (m : Int)) = true := by simp; omega
        have d4 : decide (10 < m) = true := by simp; omega
        go_wp2
        go_ret
        exact ⟨rfl, Ch.refl _ _⟩
      · have d3 : decide (10 < (m : Int)) = false := by simp; omega
        have d4 : decide (10 < m) = false := by simp; omega
        have hC0 : Ch (fun _ => False) w (w.alloc (.cells #[] 3)) := (Ch.refl _ w).alloc _
        go_wp2_with (at_builtin; refine wp_app rfl (.tmp 23) (.tmp 24) elemI rfl rfl (own_emptyB w 3) rfl (HL.out.ch hC0 (fun _ _ _ h => h)) ?c1 ?c2 ?c3 ?_)
        case c1 => intro u hu; obtain ⟨x, _, rfl⟩ := List.mem_map.1 hu; rfl
        case c2 => omega
        case c3 => omega
        intro v2 w2 ho2 hg2 hb2
        have hC2 : Ch (fun _ => False) w w2 := (hC0.grown hg2 (fun k hk => by
          right
          have : w.heap.size = k := by simpa [Value.ownBlock] using hk
          omega))
        have hv2 : ∀ g, v2.ownBlock = some g → w.heap.size ≤ g := fun g hg => by
          rcases hb2 with hb | hb
          · rw [hb] at hg
            have : w.heap.size = g := by simpa [Value.ownBlock] using hg
            omega
          · rw [hb] at hg
            injection hg with hg
            omega
        obtain ⟨A2, c2, rfl, hnc, hcm⟩ := own_shape ho2
        have hs2 : Sl w2 (fun b => (Value.slice A2 n c2).ownBlock = some b) .i64 A2 n l := Sl.of_own ho2
        have hfr := from_any l A2 n c2 w2 hs2 (by omega) hnc hcm (HT.out.keep hC2)
        have HO2 := Bx.mk ho2
        have HC2 := Bx.mk hC2
        have HV2 := Bx.mk hv2
        have HS2 := Bx.mk hs2
        have HOL := Bx.mk (own_lt ho2)
        clear ho2 hg2 hb2 hC2 hv2 hs2 hC0
        go_wp2_with fail
        refine hfr.mono ?_
        rintro e0 w3 (⟨b, yss, rfl, _, hT3, hI3, hC3⟩ | ⟨ec3, rfl, hbad, hC3⟩)
        · have HT3 := Bx.mk hT3
          have HI3 := Bx.mk hI3
          have HC23 := Bx.mk hC3
          have HC3 := Bx.mk (HC2.out.trans hC3 (fun _ _ h => h))
          have hrf := reffrom_any l A n c w3 (HL.out.ch HC3.out (fun _ _ _ h => h)) (by omega)
          clear hT3 hI3 hC3 hfr
          go_wp2_with fail
          refine hrf.mono ?_
          rintro e0 w4 ⟨A4, c4, m4, ec, xss, rfl, hz4, hres, hC4⟩
          rcases from_both (by omega) hres with ⟨h1, _⟩ | ⟨rfl, hb4, hT4, hm4⟩
          · exact absurd HT3.out (h1 yss HI3.out.byts)
          · have hxy : xss = yss := txt_inj hb4.pos HI3.out.byts.pos (hT4.uniq HT3.out)
            subst hxy
            have hC24 := HC23.out.trans hC4 (fun _ _ h => h)
            have HC4 := Bx.mk (HC3.out.trans hC4 (fun _ _ h => h))
            have hin := ints7_yes l A2 A n c2 c w4 (HS2.out.ch hC24 (fun _ _ _ h => h)) (HL.out.ch HC4.out (fun _ _ _ h => h)) (by omega)
            have HO4 := Bx.mk (hC24.own HO2.out (fun _ _ h => h))
            have HI4 := Bx.mk (HI3.out.keep hC4)
            have HZ4 := Bx.mk hz4
            have HLEN := Bx.mk (turned_len HT3.out)
            have hm4b : m4 ≤ 800 := by
              have h1 := HLEN.out.2
              rw [HL.out.len] at h1
              omega
            have hs23 := HC23.out.size
            have hs24 := hC24.size
            clear hz4 hres hC4 hT4 hC24 hrf hm4 hb4
            go_wp2_with fail
            refine hin.mono ?_
            rintro e0 w5 ⟨rfl, hC5⟩
            have HC5 := Bx.mk (HC4.out.trans hC5 (fun _ _ h => h))
            have HO5 := Bx.mk (hC5.own HO4.out (fun _ _ h => h))
            have HI5 := Bx.mk (HI4.out.keep hC5)
            have HZ5 := Bx.mk (HZ4.out.ch hC5 (fun _ _ _ h => h))
            have hs45 := hC5.size
            clear hC5 hin HO4 HI4 HZ4
            go_wp2_with fail
            go_loopw [10] (fun i wr => ∃ (k : Nat) (us : List Value), k ≤ n ∧ i = .int .i64 k ∧ wr.ownsRow 0 3 1 (.slice A2 n c2) n us ∧ Ch (fun b => (Value.slice A2 n c2).ownBlock = some b) w5 wr) (fun i _ => n - (intOf i).toNat)
            case atStart => exact ⟨0, _, Nat.zero_le _, rfl, HO5.out, Ch.refl _ _⟩
            case round =>
              obtain ⟨k, us, hk, rfl, ho, hC⟩ := hrel
              by_cases hlt : k < n
              · obtain ⟨g, cc, hv, _, _⟩ := ho.form (by omega)
                injection hv with hv1 _ _
                subst hv1
                have hlen : us.length = n := by simpa using ho.1
                have hcell := ho.cellAt k (by omega)
                rw [List.getElem?_eq_getElem (by omega)] at hcell
                have hfz := ho.frozenAt k
                obtain ⟨ho4, _⟩ := ho.stored k (.int .i64 (-1))
                have hC4 := hC.setCell (p := ⟨g, k, none⟩) (.inl rfl) (.int .i64 (-1))
                have HO := Bx.mk ho4
                have HCC := Bx.mk hC4
                generalize us[k] = uk at hcell
                have i1 : (k : Int) < (n : Int) := by omega
                have i0 : (0 : Int) ≤ (k : Int) := by omega
                clear ho hC ho4 hC4
                go_wp2
                go_roundw
                case rel => exact ⟨k + 1, _, by omega, by go_num, HO.out, HCC.out⟩
                case measure => simp [intOf]; omega
              · have dk : decide ((k : Int) < (n : Int)) = false := by simp; omega
                have hCw : Ch (fun _ => False) w wr := HC5.out.trans hC (fun i hi e => by have := HV2.out i e; omega)
                have hIr := HI5.out.chS hC (fun x (hx : w2.heap.size ≤ x) hx2 e => by have := HOL.out x e; omega) (fun e => by have h1 := HV2.out _ e; have h2 := tab_lt HT.out; omega)
                have hZr := HZ5.out.ch hC (fun x (hx : w3.heap.size ≤ x) hx2 e => by have := HOL.out x e; omega)
                have hal := alike_any xss pss [] A4 B none m4 c4 m d 0 0 b wr hIr hZr (HP.out.ch hCw (fun _ _ _ h => h)) (Sl.nil _ _ _ _) HBP.out (by omega) (by omega) (by omega) HPE.out (fun t ht => by have h1 := HLEN.out.1 t ht; rw [HL.out.len] at h1; omega)
                have HCW := Bx.mk hCw
                clear ho hC hCw hIr hZr
                go_wp2_with fail
                refine hal.mono ?_
                rintro e0 w6 ⟨rfl, hC6⟩
                have HC6 := Bx.mk (HCW.out.trans hC6 (fun _ _ h => h))
                have hkn := known_any w6 (HT.out.keep HC6.out)
                clear hC6 hal
                go_wp2_with fail
                refine hkn.mono ?_
                rintro e0 w7 ⟨rfl, hC7⟩
                have HC7 := Bx.mk (HC6.out.trans hC7 (fun _ _ h => h))
                clear hC7 hkn
                go_wp2
                go_ret
                exact ⟨rfl, HC7.out⟩
        · have hno : NoTxt l ∧ ec3 = 3 := by
            rcases hbad with ⟨h1, _⟩ | ⟨_, h1, h2⟩
            · omega
            · exact ⟨h1, h2⟩
          obtain ⟨hno, rfl⟩ := hno
          have HNO := Bx.mk hno
          have HC23 := Bx.mk hC3
          have HC3 := Bx.mk (HC2.out.trans hC3 (fun _ _ h => h))
          have hrf := reffrom_any l A n c w3 (HL.out.ch HC3.out (fun _ _ _ h => h)) (by omega)
          clear hC3 hfr hbad hno
          go_wp2_with fail
          refine hrf.mono ?_
          rintro e0 w4 ⟨A4, c4, m4, ec, xss, rfl, hz4, hres, hC4⟩
          rcases from_both (by omega) hres with ⟨_, rfl, rfl, rfl⟩ | ⟨_, hb4, hT4, _⟩
          · have hC24 := HC23.out.trans hC4 (fun _ _ h => h)
            have HC4 := Bx.mk (HC3.out.trans hC4 (fun _ _ h => h))
            have hin := ints7_yes l A2 A n c2 c w4 (HS2.out.ch hC24 (fun _ _ _ h => h)) (HL.out.ch HC4.out (fun _ _ _ h => h)) (by omega)
            have HO4 := Bx.mk (hC24.own HO2.out (fun _ _ h => h))
            clear hz4 hres hC4 hC24 hrf
            go_wp2_with fail
            refine hin.mono ?_
            rintro e0 w5 ⟨rfl, hC5⟩
            have HC5 := Bx.mk (HC4.out.trans hC5 (fun _ _ h => h))
            have HO5 := Bx.mk (hC5.own HO4.out (fun _ _ h => h))
            clear hC5 hin HO4
            go_wp2_with fail
            go_loopw [10] (fun i wr => ∃ (k : Nat) (us : List Value), k ≤ n ∧ i = .int .i64 k ∧ wr.ownsRow 0 3 1 (.slice A2 n c2) n us ∧ Ch (fun b => (Value.slice A2 n c2).ownBlock = some b) w5 wr) (fun i _ => n - (intOf i).toNat)
            case atStart => exact ⟨0, _, Nat.zero_le _, rfl, HO5.out, Ch.refl _ _⟩
            case round =>
              obtain ⟨k, us, hk, rfl, ho, hC⟩ := hrel
              by_cases hlt : k < n
              · obtain ⟨g, cc, hv, _, _⟩ := ho.form (by omega)
                injection hv with hv1 _ _
                subst hv1
                have hlen : us.length = n := by simpa using ho.1
                have hcell := ho.cellAt k (by omega)
                rw [List.getElem?_eq_getElem (by omega)] at hcell
                have hfz := ho.frozenAt k
                obtain ⟨ho4, _⟩ := ho.stored k (.int .i64 (-1))
                have hC4 := hC.setCell (p := ⟨g, k, none⟩) (.inl rfl) (.int .i64 (-1))
                have HO := Bx.mk ho4
                have HCC := Bx.mk hC4
                generalize us[k] = uk at hcell
                have i1 : (k : Int) < (n : Int) := by omega
                have i0 : (0 : Int) ≤ (k : Int) := by omega
                clear ho hC ho4 hC4
                go_wp2
                go_roundw
                case rel => exact ⟨k + 1, _, by omega, by go_num, HO.out, HCC.out⟩
                case measure => simp [intOf]; omega
              · have dk : decide ((k : Int) < (n : Int)) = false := by simp; omega
                have hCw : Ch (fun _ => False) w wr := HC5.out.trans hC (fun i hi e => by have := HV2.out i e; omega)
                have HCW := Bx.mk hCw
                have hkn := known_any wr (HT.out.keep hCw)
                clear ho hC hCw
                go_wp2_with fail
                refine hkn.mono ?_
                rintro e0 w7 ⟨rfl, hC7⟩
                have HC7 := Bx.mk (HCW.out.trans hC7 (fun _ _ h => h))
                clear hC7 hkn
                go_wp2
                go_ret
                exact ⟨rfl, HC7.out⟩
          · exact absurd hT4 (HNO.out xss hb4)
end
end Go.Proofs.YtckkjccjkdidjaaGreatDoor
