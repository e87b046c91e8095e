/-
  The law FmLonger: a longer pattern stands nowhere where its beginning does not; nothing is found across two texts. Over the contracts of the Index.
-/
import Derived.Test.YtckkjccjkdidjaaGreatDoorFmTexts
import Derived.Test.YtckkjccjkdidjaaGreatDoorFmB
import Derived.Test.YtckkjccjkdidjaaGreatDoorFmAlike
namespace Go.Su
section
variable {xss : List (List Int)} {p q : List Int}
theorem occ_front {d a : Nat} (h : Occ xss (p ++ q) d a) (h0 : p ≠ []) : Occ xss p d a := by
  refine ⟨h0, h.doc, ?_, fun j hj => ?_⟩
  · have := h.fits
    rw [List.length_append] at this
    omega
  · rw [h.same j (by rw [List.length_append]; omega), gs_app_left hj]
/-- Where each place of the longer pattern stands among those of the shorter one. -/
theorem stands_among (xss : List (List Int)) (p q : List Int) (h0 : p ≠ []) : ∃ f : Nat → Nat, (∀ i h, (locs xss (p ++ q) 0)[i]? = some h → (locs xss p 0)[f i]? = some h) ∧ ∀ i j, i ≤ j → j < (locs xss (p ++ q) 0).length → f i ≤ f j := by
  have hex : ∀ i : Nat, ∃ j : Nat, ∀ h : Nat × Nat, (locs xss (p ++ q) 0)[i]? = some h → (locs xss p 0)[j]? = some h := fun i => by
    cases hi : (locs xss (p ++ q) 0)[i]? with
    | none => exact ⟨0, fun h e => by cases e⟩
    | some h =>
      obtain ⟨d, a⟩ := h
      have h1 := (mem_locs xss 0 d a).1 (List.mem_of_getElem? hi)
      rw [Nat.sub_zero] at h1
      have h2 : (d, a) ∈ locs xss p 0 := (mem_locs xss 0 d a).2 ⟨Nat.zero_le _, by rw [Nat.sub_zero]; exact occ_front h1.2 h0⟩
      obtain ⟨j, hj⟩ := List.getElem?_of_mem h2
      exact ⟨j, fun h e => by rw [← Option.some.inj e]; exact hj⟩
  refine ⟨fun i => Classical.choose (hex i), fun i h hi => Classical.choose_spec (hex i) h hi, fun i j hij hj => ?_⟩
  have hsi := Classical.choose_spec (hex i)
  have hsj := Classical.choose_spec (hex j)
  show Classical.choose (hex i) ≤ Classical.choose (hex j)
  generalize Classical.choose (hex i) = a at *
  generalize Classical.choose (hex j) = b at *
  rcases Nat.lt_or_ge b a with g | g
  · exfalso
    have e1 : (locs xss (p ++ q) 0)[i]? = some (locs xss (p ++ q) 0)[i] := List.getElem?_eq_getElem (by omega)
    have e2 : (locs xss (p ++ q) 0)[j]? = some (locs xss (p ++ q) 0)[j] := List.getElem?_eq_getElem hj
    have k1 := hsi _ e1
    have k2 := hsj _ e2
    obtain ⟨l1, m1⟩ := List.getElem?_eq_some_iff.1 k1
    obtain ⟨l2, m2⟩ := List.getElem?_eq_some_iff.1 k2
    have s1 := List.pairwise_iff_getElem.1 (locs_sorted xss (p := p) 0) b a l2 l1 g
    rw [m1, m2] at s1
    rcases Nat.lt_or_ge i j with h | h
    · have s2 := List.pairwise_iff_getElem.1 (locs_sorted xss (p := p ++ q) 0) i j (by omega) hj h
      omega
    · obtain rfl : i = j := by omega
      omega
  · exact g
theorem apart_among {k r : Nat} {u v : Nat × Nat} (hk : (locs xss p 0)[k]? = some u) (hr : (locs xss p 0)[r]? = some v) (h : k < r) : u.1 ≠ v.1 ∨ u.2 ≠ v.2 := by
  obtain ⟨l1, m1⟩ := List.getElem?_eq_some_iff.1 hk
  obtain ⟨l2, m2⟩ := List.getElem?_eq_some_iff.1 hr
  have s1 := List.pairwise_iff_getElem.1 (locs_sorted xss (p := p) 0) k r l1 l2 h
  rw [m1, m2] at s1
  omega
end
end Go.Su
namespace Go.Proofs.YtckkjccjkdidjaaGreatDoor
open Go.RowKit Go.Oct Go.Su X

section
variable {F G H : Nat → Prop}
set_option maxRecDepth 100000 in
set_option maxHeartbeats 8000000 in
theorem longer_law (xss : List (List Int)) (p q : List Int) (A B C : Option Addr) (n c m d k e : Nat) (w : World) (hz : Sls w F A n xss) (hp : Sl w G .u8 B m p) (hq : Sl w H .u8 C k q) (hb : Byts xss) (hbp : ∀ x ∈ p, 0 ≤ x ∧ x < 256) (hbq : ∀ x ∈ q, 0 ≤ x ∧ x < 256) (hn : n ≤ 9223372036854775807) (hm : m ≤ 140737488355328) (hk : k ≤ 140737488355328) (ht : W.Tab w) :
    Calls Tryz.prog 9 #[.slice A n c, .slice B m d, .slice C k e] w fun e w' => e = .returned (.bool true) ∧ Ch (fun _ => False) w w' := by
  have HZ := Bx.mk hz
  have HP := Bx.mk hp
  have HQ := Bx.mk hq
  have HB := Bx.mk hb
  have HBP := Bx.mk hbp
  have HBQ := Bx.mk hbq
  have HL := Bx.mk hz.len
  have HLP := Bx.mk hp.len
  have HLQ := Bx.mk hq.len
  have HT := Bx.mk ht
  have hh := heavy_any xss A n c w F hn hz
  clear hz hp hq hb hbp hbq ht
  go_enter Tryz.func9, Tryz.ntmps9
  go_wp2_with fail
  refine hh.mono ?_
  rintro e0 w1 ⟨hv, rfl, rfl, hs⟩
  clear hh
  cases hv with
  | true =>
    go_wp2
    go_ret
    exact ⟨rfl, Ch.refl _ _⟩
  | false =>
    have HSL := Bx.mk (slim_txt (hs rfl))
    have hnb : n ≤ 266 := by have := HSL.out.2; rw [HL.out] at this; exact this
    clear hs
    by_cases h40 : 40 < n
    · have d1 : decide (40 < (n : Int)) = true := by simp; omega
      have d2 : decide (40 < n) = true := by simp; omega
      go_wp2
      go_ret
      exact ⟨rfl, Ch.refl _ _⟩
    · have d1 : decide (40 < (n : Int)) = false := by simp; omega
      have d2 : decide (40 < n) = false := by simp; omega
      by_cases h50 : 50 < m + k
      · have d3 : decide (50 < (m : Int) + (k : Int)) = true := by simp; omega
        have d4 : decide (50 < m + k) = true := by simp; omega
        go_wp2
        go_ret
        exact ⟨rfl, Ch.refl _ _⟩
      · have d3 : decide (50 < (m : Int) + (k : Int)) = false := by simp; omega
        have d4 : decide (50 < m + k) = false := by simp; omega
        by_cases h0 : m = 0
        · subst h0
          go_wp2
          go_ret
          exact ⟨rfl, Ch.refl _ _⟩
        · have d5 : ((m : Int) == 0) = false := by simp; omega
          have d6 : decide ((m : Int) = 0) = false := by simp; omega
          have hne : p ≠ [] := fun e => by
            have := HLP.out
            rw [e] at this
            simp at this
            omega
          have HSA := Bx.mk (stands_among xss p q hne)
          have hbu := build_any xss A n c w HZ.out HB.out (by have := HSL.out.1; omega) HT.out
          go_wp2_with fail
          refine hbu.mono ?_
          rintro e0 w2 (⟨_, b, rfl, hI, hC2⟩ | ⟨h, _⟩)
          · have hlo := locate_any hI p B m d (HP.out.ch hC2 (fun _ _ _ h => h)) HBP.out (by omega)
            have HI2 := Bx.mk hI
            have HC2 := Bx.mk hC2
            clear hI hC2 hbu
            go_wp2_with fail
            refine hlo.mono ?_
            rintro e0 w3 ⟨A3, c3, n3, rfl, hH3, hC3⟩
            have HH3 := Bx.mk hH3
            have HC3 := Bx.mk (HC2.out.trans hC3 (fun _ _ h => h))
            have HI3 := Bx.mk (HI2.out.keep hC3)
            have hC4 : Ch (fun _ => False) w3 (w3.alloc (.cells #[] 5)) := (Ch.refl _ _).alloc _
            clear hH3 hC3 hlo HC2 HI2
            go_wp2_with (at_builtin; refine wp_app rfl (.tmp 48) (.tmp 49) Tb rfl rfl (own_emptyB w3 5) rfl (HP.out.ch (HC3.out.trans hC4 (fun _ _ h => h)) (fun _ _ _ h => h)) ?c1 ?c2 ?c3 ?_)
            case c1 => exact ints_cells _ _
            case c2 => omega
            case c3 => omega
            intro v5 w5 ho5 hg5 hb5
            have hC5 : Ch (fun _ => False) w3 w5 := hC4.grown hg5 (fun j hj => by
              right
              have : w3.heap.size = j := by simpa [Value.ownBlock] using hj
              omega)
            have hv5 : ∀ g, v5.ownBlock = some g → w3.heap.size ≤ g := fun g hg => by
              rcases hb5 with hb | hb
              · rw [hb] at hg
                have : w3.heap.size = g := by simpa [Value.ownBlock] using hg
                omega
              · rw [hb] at hg
                injection hg with hg
                omega
            obtain ⟨A5, c5, rfl, _, _⟩ := own_shape ho5
            have HC5 := Bx.mk hC5
            clear hC4 hg5 hb5
            go_wp2_with (at_builtin; refine wp_app rfl (.tmp 50) (.tmp 51) Tb rfl rfl ho5 rfl (HQ.out.ch (HC3.out.trans hC5 (fun _ _ h => h)) (fun _ _ _ h => h)) ?c1 ?c2 ?c3 ?_)
            case c1 => exact ints_cells _ _
            case c2 => omega
            case c3 => omega
            intro v6 w6 ho6 hg6 hb6
            have hC6 : Ch (fun _ => False) w3 w6 := hC5.grown hg6 (fun j hj => .inr (hv5 j hj))
            have hs6 : v6.ownBlock = v6.ownBlock := rfl
            obtain ⟨A6, c6, rfl, _, _⟩ := own_shape ho6
            have hsl : Sl w6 (fun j => (Value.slice A6 (m + k) c6).ownBlock = some j) .u8 A6 (m + k) (p ++ q) := by
              refine Sl.of_own (base := 0) (e := 5) ?_
              rw [List.map_append]
              simpa using ho6
            have hlo := locate_any (HI3.out.keep hC6) (p ++ q) A6 (m + k) c6 hsl (fun x hx => by
              rcases List.mem_append.1 hx with h | h
              · exact HBP.out x h
              · exact HBQ.out x h) (by omega)
            have HI6 := Bx.mk (HI3.out.keep hC6)
            have HC36 := Bx.mk hC6
            have HC6 := Bx.mk (HC3.out.trans hC6 (fun _ _ h => h))
            clear ho5 ho6 hg6 hb6 hC5 hC6 hv5 hsl hs6 HC5 HI3
            go_wp2_with fail
            refine hlo.mono ?_
            rintro e0 w7 ⟨A7, c7, n7, rfl, hH7, hC7⟩
            have HH7 := Bx.mk hH7
            have HH3' := Bx.mk (HH3.out.ch (HC36.out.trans hC7 (fun _ _ h => h)) (fun _ _ _ h => h))
            have HI7 := Bx.mk (HI6.out.keep hC7)
            have HC7 := Bx.mk (HC6.out.trans hC7 (fun _ _ h => h))
            obtain ⟨f, hf1, hf2⟩ := HSA.out
            have HF1 := Bx.mk hf1
            have HF2 : Bx (∀ i j, i ≤ j → j < n7 → f i ≤ f j) := ⟨fun i j h1 h2 => hf2 i j h1 (by rw [hH7.len]; exact h2)⟩
            have HN3 := Bx.mk HH3.out.len
            have HN7 := Bx.mk hH7.len
            have hbnd : ∀ z : List Int, (locs xss z 0).length ≤ 801 := fun z => by
              have h1 := locs_len (p := z) (xss := xss) n (by rw [HL.out]; exact Nat.le_refl _)
              have h2 := HSL.out.1
              rw [txt_len, HL.out] at h2
              rw [take_locs z HL.out] at h1
              omega
            have hn3 : n3 ≤ 801 := by rw [← HN3.out]; exact hbnd p
            have hn7 : n7 ≤ 801 := by rw [← HN7.out]; exact hbnd (p ++ q)
            clear hbnd
            clear hH7 hC7 hlo hf1 hf2 HC6 HI6 HH3 HC36 HSA
            go_wp2_with fail
            go_loopw [11, 12] (fun kv iv wr => ∃ i r : Nat, i ≤ n7 ∧ r ≤ n3 ∧ iv = .int .i64 i ∧ kv = .int .i64 r ∧ (i < n7 → r ≤ f i) ∧ Ch (fun _ => False) w7 wr) (fun _ iv _ => n7 - (intOf iv).toNat)
            case atStart => exact ⟨0, 0, Nat.zero_le _, Nat.zero_le _, rfl, rfl, fun _ => Nat.zero_le _, Ch.refl _ _⟩
            case round =>
              obtain ⟨i, r, hi, hr, rfl, rfl, hrf, hC⟩ := hrel
              by_cases hlt : i < n7
              · have di : decide ((i : Int) < (n7 : Int)) = true := by simp; omega
                have hrfi := hrf hlt
                obtain ⟨b7, o7, rfl, _, hc7⟩ := (HH7.out.ch hC (fun _ _ _ h => h)).at_ (by omega)
                obtain ⟨h, hh⟩ : ∃ h, (locs xss (p ++ q) 0)[i]? = some h := ⟨_, List.getElem?_eq_getElem (by rw [HN7.out]; exact hlt)⟩
                obtain ⟨d7, a7⟩ := h
                obtain ⟨k1, k2⟩ := hc7 i _ hh
                have hfa := HF1.out i _ hh
                obtain ⟨hfl, _⟩ := List.getElem?_eq_some_iff.1 hfa
                rw [HN3.out] at hfl
                have HFA := Bx.mk hfa
                have hocc := ((mem_locs xss 0 d7 a7).1 (List.mem_of_getElem? hh)).2
                rw [Nat.sub_zero] at hocc
                have HDL : Bx (lenOf xss (d7 : Nat) = (xss.getD d7 []).length) := ⟨by unfold lenOf; rw [if_pos (by have := hocc.doc; omega), Int.toNat_natCast]⟩
                have hfit := hocc.fits
                rw [List.length_append, HLP.out, HLQ.out] at hfit
                have hdl := (beg_small xss hocc.doc).1
                have hsm := HSL.out.1
                obtain ⟨dl, hdle⟩ : ∃ dl, (xss.getD d7 []).length = dl := ⟨_, rfl⟩
                rw [hdle] at HDL hfit hdl
                have hdl8 : dl ≤ 801 := by omega
                have HCR := Bx.mk hC
                have HFM : Bx (i + 1 < n7 → f i ≤ f (i + 1)) := ⟨fun h => HF2.out i (i + 1) (by omega) h⟩
                have HIR := Bx.mk (HI7.out.keep hC)
                have HHR := Bx.mk (HH3'.out.ch hC (fun _ _ _ h => h))
                obtain ⟨wo, rfl⟩ : ∃ wo : World, wo = wr := ⟨_, rfl⟩
                obtain ⟨t, ht⟩ : ∃ t, f i = t := ⟨_, rfl⟩
                rw [ht] at hrfi HFA hfl HFM
                clear hrf hC hc7 hh hfa hocc hdle hdl hsm ht
                go_wp2_with fail
                go_loopw [11] (fun kv wr => ∃ (r m : Nat), r ≤ t ∧ kv = .int .i64 r ∧ wr = wo.drewN m) (fun kv _ => t - (intOf kv).toNat)
                case atStart => exact ⟨r, 0, hrfi, rfl, rfl⟩
                case round =>
                  obtain ⟨r, m2, hrt, rfl, rfl⟩ := hrel
                  obtain ⟨b3, o3, rfl, _, hc3⟩ := HHR.out.at_ (by omega)
                  obtain ⟨u, hu⟩ : ∃ u, (locs xss p 0)[r]? = some u := ⟨_, List.getElem?_eq_getElem (by rw [HN3.out]; omega)⟩
                  obtain ⟨d3, a3⟩ := u
                  obtain ⟨j1, j2⟩ := hc3 r _ hu
                  have dr : decide ((r : Int) < (n3 : Int)) = true := by simp; omega
                  have i1 : (r : Int) < (n3 : Int) := by omega
                  have i2 : (i : Int) < (n7 : Int) := by omega
                  have ap := fun h => apart_among hu HFA.out h
                  have HU := Bx.mk hu
                  clear hc3 hu
                  by_cases hrt2 : r < t
                  · have hap := ap hrt2
                    clear ap
                    have HC9 : Bx (Ch (fun _ => False) w7 (wo.drewN m2)) := ⟨HCR.out.drewN m2⟩
                    by_cases hd : d3 = d7
                    · subst hd
                      have ha : a3 ≠ a7 := by
                        rcases hap with h | h
                        · exact absurd rfl h
                        · exact h
                      have e1 : ((a3 : Int) == (a7 : Int)) = false := beq_eq_false_iff_ne.2 (by omega)
                      have e2 : (a3 == a7) = false := by simpa using ha
                      have e3 : ¬ (a3 : Int) = (a7 : Int) := by omega
                      clear hap
                      go_wp2_with fail
                      go_quiet (fail)
                      go_wp2
                      go_roundw
                      case rel => exact ⟨r + 1, _, by omega, by go_num, rfl⟩
                      case measure => simp [intOf]; omega
                    · have e1 : ((d3 : Int) == (d7 : Int)) = false := beq_eq_false_iff_ne.2 (by omega)
                      have e2 : (d3 == d7) = false := by simpa using hd
                      have e3 : ¬ (d3 : Int) = (d7 : Int) := by omega
                      clear hap
                      go_wp2_with fail
                      go_quiet (fail)
                      go_wp2
                      go_roundw
                      case rel => exact ⟨r + 1, _, by omega, by go_num, rfl⟩
                      case measure => simp [intOf]; omega
                  · obtain rfl : r = t := by omega
                    have huv : (d3, a3) = (d7, a7) := Option.some.inj (HU.out.symm.trans HFA.out)
                    injection huv with h1 h2
                    subst h1 h2
                    clear ap
                    have eqt : ((r : Int) == (n3 : Int)) = false := by simp; omega
                    have eqt2 : ¬ (r : Int) = (n3 : Int) := by omega
                    go_wp2_with fail
                    go_quiet (fail)
                    go_wp2_with fail
                    rw [World.drewN_drewN]
                    have hCp : Ch (fun _ => False) wo (wo.drewN (m2 + nq)) := (Ch.refl _ wo).drewN _
                    have k1' := hCp.cell (p := ⟨b7, o7 + i * 2, none⟩) (fun h => h) k1
                    have k2' := hCp.cell (p := ⟨b7, o7 + i * 2 + 1, none⟩) (fun h => h) k2
                    have HIP := Bx.mk (HIR.out.keep hCp)
                    have HCP := Bx.mk (HCR.out.trans hCp (fun _ _ h => h))
                    obtain ⟨wp, hwp⟩ : ∃ wp, wo.drewN (m2 + nq) = wp := ⟨_, rfl⟩
                    rw [hwp] at hCp k1' k2' HIP HCP ⊢
                    obtain ⟨x1, hx1⟩ : ∃ x1 : Nat, a3 + m = x1 := ⟨_, rfl⟩
                    obtain ⟨x2, hx2⟩ : ∃ x2 : Nat, x1 + k = x2 := ⟨_, rfl⟩
                    have hx3 : x2 ≤ dl := by omega
                    have w1 : IntKind.i64.wrap ((a3 : Int) + (m : Int)) = (x1 : Int) := by rw [IntKind.wrap_i64]; omega
                    have w2' : IntKind.i64.wrap ((x1 : Int) + (k : Int)) = (x2 : Int) := by rw [IntKind.wrap_i64]; omega
                    have w3' := wrap64_of w1
                    have w4 := wrap64_of w2'
                    have g1 : decide ((dl : Int) < (x2 : Int)) = false := by simp; omega
                    have g2 : decide (dl < x2) = false := by simp; omega
                    have HK := Bx.mk (And.intro k1' k2')
                    have hkk := HK.out
                    clear hwp hCp hx1 hx2 j1 j2 k1 k2 k1' k2'
                    go_region_held3 (fun w' => w'.cell? ⟨b7, o7 + i * 2, none⟩ = some (.int .i64 (d3 : Nat)) ∧ w'.cell? ⟨b7, o7 + i * 2 + 1, none⟩ = some (.int .i64 (a3 : Nat))) (first | go_keep | exact s1 | exact hkk) ((go_at_call 26; refine (len_val (HIP.out.ch ((Ch.refl (fun _ => False) wp).drewN 1) (fun _ _ _ h => h)) (d3 : Nat) dl HDL.out).mono ?_; rintro e9 w8 ⟨rfl, hq1⟩; have hc1 : Ch (fun _ => False) wp w8 := ((Ch.refl (fun _ => False) wp).drewN 1).trans hq1 (fun _ _ h => h); have s1 : w8.cell? ⟨b7, o7 + i * 2, none⟩ = some (.int .i64 (d3 : Nat)) ∧ w8.cell? ⟨b7, o7 + i * 2 + 1, none⟩ = some (.int .i64 (a3 : Nat)) := ⟨Ch.cell (p := ⟨b7, o7 + i * 2, none⟩) hc1 (fun h => h) HK.out.1, Ch.cell (p := ⟨b7, o7 + i * 2 + 1, none⟩) hc1 (fun h => h) HK.out.2⟩))
                    all_goals
                      have HC9 := Bx.mk (HCP.out.trans hc1 (fun _ _ h => h))
                      clear hc1 hq1 s1 w1 w2' w3' w4 hkk
                      go_wp2
                      go_roundw
                      case rel => exact ⟨i + 1, r, by omega, by omega, by go_num, rfl, HFM.out, HC9.out⟩
                      case measure => simp [intOf]; omega
              · have di : decide ((i : Int) < (n7 : Int)) = false := by simp; omega
                have HCR := Bx.mk (HC7.out.trans hC (fun _ _ h => h))
                have hkn := known_any wr (HT.out.keep HCR.out)
                clear hC hrf
                go_wp2_with fail
                refine hkn.mono ?_
                rintro e0 w8 ⟨rfl, hC8⟩
                have HC8 := Bx.mk (HCR.out.trans hC8 (fun _ _ h => h))
                clear hC8 hkn
                go_wp2
                go_ret
                exact ⟨rfl, HC8.out⟩
          · have := HSL.out.1
            omega
end
end Go.Proofs.YtckkjccjkdidjaaGreatDoor
