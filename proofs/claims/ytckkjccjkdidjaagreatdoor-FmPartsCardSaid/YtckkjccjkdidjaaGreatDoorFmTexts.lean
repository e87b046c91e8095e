/-
  The law FmTexts: each text comes back whole. Over the contracts of the Index.
-/
import Derived.Test.YtckkjccjkdidjaaGreatDoorFmKnown
import Derived.Test.YtckkjccjkdidjaaGreatDoorFmA
namespace Go.Proofs.YtckkjccjkdidjaaGreatDoor
open Go.RowKit Go.Oct Go.Su X

theorem beg_cat : ∀ xss : List (List Int), beg xss xss.length = (cat xss).length + xss.length
  | [] => rfl
  | t :: xss => by
    have ih := beg_cat xss
    rw [List.length_cons, beg_cons, ih]
    unfold cat
    rw [List.flatten_cons, List.length_append]
    omega
theorem slim_txt {xss : List (List Int)} (h : Slim xss) : (txt xss).length ≤ 801 ∧ xss.length ≤ 266 := by
  unfold Slim at h
  rw [txt_len, beg_cat]
  omega
theorem txt_each {xss : List (List Int)} : ∀ t ∈ xss, t.length ≤ (txt xss).length := fun t ht => by
  obtain ⟨d, hd, e⟩ := List.getElem_of_mem ht
  have h1 := beg_next xss d hd
  have h2 := beg_mono xss (show d + 1 ≤ xss.length by omega) (Nat.le_refl _)
  have e2 : xss.getD d [] = t := by rw [List.getD_eq_getElem?_getD, List.getElem?_eq_getElem hd, e]; rfl
  rw [e2] at h1
  rw [txt_len]
  omega
theorem lenOf_is {xss : List (List Int)} {d : Nat} {t : List Int} (h : xss[d]? = some t) : lenOf xss (d : Nat) = t.length := by
  obtain ⟨h1, _⟩ := List.getElem?_eq_some_iff.1 h
  unfold lenOf
  rw [if_pos (by omega), Int.toNat_natCast, List.getD_eq_getElem?_getD, h]
  rfl
theorem ext_whole {xss : List (List Int)} {d : Nat} {t : List Int} (h : xss[d]? = some t) : ext xss (d : Nat) 0 ((t.length : Int) + 5) = t := by
  obtain ⟨h1, _⟩ := List.getElem?_eq_some_iff.1 h
  unfold ext
  rw [Int.toNat_natCast, List.getD_eq_getElem?_getD, h]
  simp only [Option.getD_some]
  rw [if_neg (by rintro (g | g | g | g | g) <;> omega), Int.toNat_zero, List.drop_zero, List.take_of_length_le (by omega)]
section
variable {F : Nat → Prop}
set_option maxHeartbeats 4000000 in
theorem texts_law (xss : List (List Int)) (A : Option Addr) (n c : Nat) (w : World) (hz : Sls w F A n xss) (hb : Byts xss) (hn : n ≤ 9223372036854775807) (ht : W.Tab w) :
    Calls Tryz.prog 10 #[.slice A n c] w fun e w' => e = .returned (.bool true) ∧ Ch (fun _ => False) w w' := by
  have HZ := Bx.mk hz
  have HB := Bx.mk hb
  have HL := Bx.mk hz.len
  have HT := Bx.mk ht
  have hh := heavy_any xss A n c w F hn hz
  clear hz hb ht
  go_enter Tryz.func10, Tryz.ntmps10
  go_wp2_with fail
  refine hh.mono ?_
  rintro e0 w1 ⟨hv, rfl, rfl, hs⟩
  clear hh
  cases hv with
  | true =>
    go_wp2
    go_ret
    exact ⟨rfl, Ch.refl _ _⟩
  | false =>
    have HSL := Bx.mk (slim_txt (hs rfl))
    have hnb : n ≤ 266 := by have := HSL.out.2; rw [HL.out] at this; exact this
    clear hs
    by_cases h60 : 60 < n
    · have d1 : decide (60 < (n : Int)) = true := by simp; omega
      have d2 : decide (60 < n) = true := by simp; omega
      go_wp2
      go_ret
      exact ⟨rfl, Ch.refl _ _⟩
    · have d1 : decide (60 < (n : Int)) = false := by simp; omega
      have d2 : decide (60 < n) = false := by simp; omega
      have hbu := build_any xss A n c w HZ.out HB.out (by have := HSL.out.1; omega) HT.out
      go_wp2_with fail
      refine hbu.mono ?_
      rintro e0 w2 (⟨_, b, rfl, hI, hC2⟩ | ⟨h, _⟩)
      · have hd := docs_any hI
        rw [HL.out] at hd
        have HI := Bx.mk (hI.mono (G := fun k => w.heap.size ≤ k) (fun k _ h => h))
        have HC2 := Bx.mk hC2
        have hnn : ((n : Int) != (n : Int)) = false := by simp
        clear hI hC2 hbu
        go_wp2_with fail
        refine hd.mono ?_
        rintro e0 w3 ⟨rfl, q3, rfl⟩
        have HI3 := Bx.mk (HI.out.ch ((Ch.refl (fun _ => False) w2).drewN q3) (fun _ _ _ h => h))
        have HC3 := Bx.mk (HC2.out.drewN q3)
        clear hd HI HC2
        generalize w2.drewN q3 = w3 at *
        go_wp2_with fail
        go_loopw [5] (fun i wr => ∃ j : Nat, j ≤ n ∧ i = .int .i64 j ∧ Ch (fun _ => False) w3 wr) (fun i _ => n - (intOf i).toNat)
        case atStart => exact ⟨0, Nat.zero_le _, rfl, Ch.refl _ _⟩
        case round =>
          obtain ⟨q, hq, rfl, hC⟩ := hrel
          by_cases hlt : q < n
          · have dq : decide ((q : Int) < (n : Int)) = true := by simp; omega
            obtain ⟨b1, o1, A', c', t, rfl, _, ex, hc, hsl, hlc, hcm⟩ := (HZ.out.ch (HC3.out.trans hC (fun _ _ h => h)) (fun _ _ _ h => h)).at_ hlt
            have HLE := Bx.mk (lenOf_is ex.out)
            have HEX := Bx.mk (ext_whole ex.out)
            have htb : t.length ≤ 801 := by
              have h1 := txt_each t (List.mem_of_getElem? ex.out)
              have h2 := HSL.out.1
              omega
            obtain ⟨tl, htl⟩ : ∃ tl, t.length = tl := ⟨_, rfl⟩
            have HTL := Bx.mk htl
            rw [htl] at HLE HEX hc hsl htb
            have HSLT := Bx.mk hsl
            have HCR := Bx.mk hC
            have HIR := Bx.mk (HI3.out.ch hC (fun _ _ _ h => h))
            have i1 : (q : Int) < (n : Int) := by omega
            have hnn2 : ((tl : Int) != (tl : Int)) = false := by simp
            obtain ⟨wo, rfl⟩ : ∃ wo : World, wo = wr := ⟨_, rfl⟩
            clear hsl ex hC htl
            go_wp2_with fail
            have w5 : IntKind.i64.wrap ((tl : Int) + 5) = (tl : Int) + 5 := by rw [IntKind.wrap_i64]; omega
            have w6 : wrap64 ((tl : Int) + 5) = (tl : Int) + 5 := by unfold wrap64; omega
            go_region_held3 (fun w' => w'.cell? ⟨b1, o1 + q, none⟩ = some (.slice A' tl c')) (first | go_keep | exact s3 | exact s2 | exact s1 | exact hc) (first | (go_at_call 26; refine (len_any (HIR.out.ch ((Ch.refl (fun _ => False) wo).drewN 1) (fun _ _ _ h => h)) (q : Nat)).mono ?_; rw [HLE.out]; rintro e w1 ⟨rfl, hq1⟩; have hc1 : Ch (fun _ => False) wo w1 := ((Ch.refl (fun _ => False) wo).drewN 1).trans hq1 (fun _ _ h => h); have s1 : w1.cell? ⟨b1, o1 + q, none⟩ = some (.slice A' tl c') := Ch.cell (p := ⟨b1, o1 + q, none⟩) hc1 (fun h => h) hc; clear hq1) | (go_at_call 19; refine (extract_any (HIR.out.ch hc1 (fun _ _ _ h => h)) (q : Nat) 0 ((tl : Int) + 5)).mono ?_; rw [HEX.out]; rintro e w2 ⟨A2, d2, rfl, hv2, hl2, hm2, hc2⟩; have s2 : w2.cell? ⟨b1, o1 + q, none⟩ = some (.slice A' tl c') := Ch.cell (p := ⟨b1, o1 + q, none⟩) hc2 (fun h => h) s1) | (go_at_call 14; refine (same_any A2 A' t.length tl d2 c' t t _ _ _ (by have := HTL.out; omega) (by omega) hv2 (HSLT.out.ch (hc1.trans hc2 (fun _ _ h => h)) (fun _ _ _ h => h))).mono ?_; rintro e wz ⟨rfl, j3, ew3⟩; have s3 : wz.cell? ⟨b1, o1 + q, none⟩ = some (.slice A' tl c') := (by rw [ew3]; exact s2)))
            all_goals
              have HC9 : Bx (Ch (fun _ => False) w3 (w2.drewN j3)) := ⟨((HCR.out.trans hc1 fun _ _ h => h).trans hc2 fun _ _ h => h).drewN _⟩
              clear hv2 hl2 hm2 hc1 hc2 s1 s2 s3 w5 w6
              generalize w2.drewN j3 = w9 at *
              go_wp2
              go_roundw
              case rel => exact ⟨q + 1, by omega, by go_num, HC9.out⟩
              case measure => simp [intOf]; omega
          · have dq : decide ((q : Int) < (n : Int)) = false := by simp; omega
            have HC4 := Bx.mk (HC3.out.trans hC (fun _ _ h => h))
            have hk := known_any wr (HT.out.keep HC4.out)
            clear hC
            go_wp2_with fail
            refine hk.mono ?_
            rintro e0 w5 ⟨rfl, hC5⟩
            have HC5 := Bx.mk (HC4.out.trans hC5 (fun _ _ h => h))
            clear hC5 hk
            go_wp2
            go_ret
            exact ⟨rfl, HC5.out⟩
      · have := HSL.out.1
        omega
end
end Go.Proofs.YtckkjccjkdidjaaGreatDoor
