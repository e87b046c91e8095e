/-
  The law FmBytes: each byte is found as often as it stands in the texts. Over the contracts of the Index.
-/
import Derived.Test.YtckkjccjkdidjaaGreatDoorFmTexts
namespace Go.Proofs.YtckkjccjkdidjaaGreatDoor
open Go.RowKit Go.Oct Go.Su X

/-- How often a byte stands in a row. -/
def cb (z : Int) (l : List Int) : Nat := l.countP fun x => decide (x = z)
theorem cb_app (z : Int) (a b : List Int) : cb z (a ++ b) = cb z a + cb z b := by unfold cb; rw [List.countP_append]
theorem cb_next {z x : Int} {l : List Int} {j : Nat} (h : l[j]? = some x) : cb z (l.take (j + 1)) = cb z (l.take j) + (if x = z then 1 else 0) := by
  rw [List.take_add_one, h, Option.toList_some, cb_app]
  unfold cb
  by_cases e : x = z <;> simp [e]
theorem cb_le (z : Int) (l : List Int) : cb z l ≤ l.length := List.countP_le_length ..
theorem ats_cb (t : List Int) (z : Int) : (ats t [z]).length = cb z t := by
  unfold ats cb
  rw [if_neg (by simp), List.length_singleton, Nat.add_sub_cancel, ← List.countP_eq_length_filter]
  conv => rhs; rw [← row_range t]
  rw [List.countP_map]
  refine List.countP_congr fun a ha => ?_
  have h1 := List.mem_range.1 ha
  have e : (t.drop a).take 1 = [gs t a] := by
    rw [List.drop_eq_getElem_cons h1, List.take_succ_cons, List.take_zero, ← gs_at (List.getElem?_eq_getElem h1)]
  rw [e]
  simp
theorem locs_cb (z : Int) : ∀ (xss : List (List Int)) (k : Nat), (locs xss [z] k).length = cb z (cat xss)
  | [], _ => rfl
  | t :: xss, k => by
    have ih := locs_cb z xss (k + 1)
    simp only [locs, List.length_append, List.length_map, ih, ats_cb]
    unfold cat
    rw [List.flatten_cons, cb_app]
section
variable {F : Nat → Prop}
set_option maxHeartbeats 4000000 in
theorem bytes_law (xss : List (List Int)) (z : Int) (A : Option Addr) (n c : Nat) (w : World) (hz : Sls w F A n xss) (hb : Byts xss) (hzb : 0 ≤ z ∧ z < 256) (hn : n ≤ 9223372036854775807) (ht : W.Tab w) :
    Calls Tryz.prog 11 #[.slice A n c, .int .u8 z] w fun e w' => e = .returned (.bool true) ∧ Ch (fun _ => False) w w' := by
  have HZ := Bx.mk hz
  have HB := Bx.mk hb
  have HL := Bx.mk hz.len
  have HT := Bx.mk ht
  have hh := heavy_any xss A n c w F hn hz
  clear hz hb ht
  go_enter Tryz.func11, Tryz.ntmps11
  go_wp2_with fail
  refine hh.mono ?_
  rintro e0 w1 ⟨hv, rfl, rfl, hs⟩
  clear hh
  cases hv with
  | true =>
    go_wp2
    go_ret
    exact ⟨rfl, Ch.refl _ _⟩
  | false =>
    have hslim := hs rfl
    have HSL := Bx.mk (slim_txt hslim)
    have HCAT : Bx ((cat xss).length ≤ 800) := ⟨by unfold Slim at hslim; omega⟩
    have hnb : n ≤ 266 := by have := HSL.out.2; rw [HL.out] at this; exact this
    clear hs hslim
    by_cases h60 : 60 < n
    · have d1 : decide (60 < (n : Int)) = true := by simp; omega
      have d2 : decide (60 < n) = true := by simp; omega
      go_wp2
      go_ret
      exact ⟨rfl, Ch.refl _ _⟩
    · have d1 : decide (60 < (n : Int)) = false := by simp; omega
      have d2 : decide (60 < n) = false := by simp; omega
      go_wp2_with fail
      go_loop [5, 6, 7] (fun s i _ => ∃ k q : Nat, k ≤ n ∧ i = .int .i64 k ∧ s = .int .i64 q ∧ Bx (q = cb z (cat (xss.take k))) ∧ q ≤ 800) (fun _ i _ => n - (intOf i).toNat)
      case atStart => exact ⟨0, 0, Nat.zero_le _, rfl, rfl, ⟨rfl⟩, by omega⟩
      case round =>
        obtain ⟨k, q, hk, rfl, rfl, hq, hq8⟩ := hrel
        by_cases hlt : k < n
        · have dk : decide ((k : Int) < (n : Int)) = true := by simp; omega
          obtain ⟨b1, o1, A', c', t, rfl, _, ex, hc, hsl, hlc, hcm⟩ := HZ.out.at_ hlt
          have HEX := Bx.mk ex.out
          have hmore := cat_more ex.out
          have HMO := Bx.mk hmore
          have HQB : Bx (cb z (cat (xss.take (k + 1))) ≤ 800) := ⟨by
            have h1 := cb_le z (cat (xss.take (k + 1)))
            have h2 : (cat (xss.take (k + 1))).length ≤ (cat xss).length := cat_take xss (k + 1)
            have := HCAT.out
            omega⟩
          have htb : t.length ≤ 801 := by
            have h1 := txt_each t (List.mem_of_getElem? ex.out)
            have h2 := HSL.out.1
            omega
          obtain ⟨tl, htl⟩ : ∃ tl, t.length = tl := ⟨_, rfl⟩
          have HTL := Bx.mk htl
          rw [htl] at hc hsl htb
          have HSLT := Bx.mk hsl
          have i1 : (k : Int) < (n : Int) := by omega
          clear hsl ex hmore htl
          go_wp2_with fail
          go_loop [5, 7] (fun s i => ∃ j m : Nat, j ≤ tl ∧ i = .int .i64 j ∧ s = .int .i64 m ∧ Bx (m = q + cb z (t.take j)) ∧ m ≤ 1700) (fun _ i => tl - (intOf i).toNat)
          case atStart => exact ⟨0, q, Nat.zero_le _, rfl, rfl, ⟨rfl⟩, by omega⟩
          case round =>
            obtain ⟨j, m, hj, rfl, rfl, hm, hm8⟩ := hrel
            by_cases hjt : j < tl
            · have dj : decide ((j : Int) < (tl : Int)) = true := by simp; omega
              obtain ⟨b2, o2, x, rfl, _, hx, hcx⟩ := HSLT.out.at_ hjt
              have HNX := Bx.mk (cb_next (z := z) hx.out)
              have i2 : (j : Int) < (tl : Int) := by omega
              have hcb : cb z (t.take (j + 1)) ≤ 801 := by
                have h1 := cb_le z (t.take (j + 1))
                rw [List.length_take] at h1
                omega
              have HCB := Bx.mk hcb
              clear hx hcb
              by_cases he : x = z
              · have hbq : (x == z) = true := by simpa using he
                have HM : Bx (m + 1 = q + cb z (t.take (j + 1))) := ⟨by rw [HNX.out, if_pos he, hm.out]; omega⟩
                have hm9 : m + 1 ≤ 1700 := by have := HM.out; have := HCB.out; omega
                clear he hm
                go_wp2
                go_round
                case rel => exact ⟨j + 1, m + 1, by omega, by go_num, by go_num, HM, hm9⟩
                case measure => simp [intOf]; omega
              · have hbq : (x == z) = false := by simpa using he
                have HM : Bx (m = q + cb z (t.take (j + 1))) := ⟨by rw [HNX.out, if_neg he, hm.out]; omega⟩
                clear he hm
                go_wp2
                go_round
                case rel => exact ⟨j + 1, m, by omega, by go_num, rfl, HM, hm8⟩
                case measure => simp [intOf]; omega
            · have dj : decide ((j : Int) < (tl : Int)) = false := by simp; omega
              have HM : Bx (m = cb z (cat (xss.take (k + 1)))) := ⟨by
                rw [HMO.out, cb_app, hm.out, hq.out, show j = tl by omega, ← HTL.out, List.take_length]⟩
              have hm9 : m ≤ 800 := by rw [HM.out]; exact HQB.out
              clear hm hq
              go_wp2
              go_round
              case rel => exact ⟨k + 1, m, by omega, by go_num, rfl, HM, hm9⟩
              case measure => simp [intOf]; omega
        · have dk : decide ((k : Int) < (n : Int)) = false := by simp; omega
          have HQ : Bx ((locs xss [z] 0).length = q) := ⟨by
            rw [locs_cb, hq.out, List.take_of_length_le (by rw [HL.out]; omega)]⟩
          have hbu := build_any xss A n c w HZ.out HB.out (by have := HSL.out.1; omega) HT.out
          clear hq
          go_wp2_with fail
          refine hbu.mono ?_
          rintro e0 w2 (⟨_, b, rfl, hI, hC2⟩ | ⟨h, _⟩)
          · have HI := Bx.mk hI
            have HC2 := Bx.mk hC2
            have hr3 : Sl (w2.alloc (.cells #[.int .u8 z] 5)) (fun _ => True) .u8 (some ⟨w2.heap.size, 0, none⟩) 1 [z] := (Vs.one w2 5 (.int .u8 z)).mono fun _ _ _ => trivial
            have hC3 : Ch (fun _ => False) w2 (w2.alloc (.cells #[.int .u8 z] 5)) := (Ch.refl (fun _ => False) w2).alloc _
            have hco := count_any (hI.ch hC3 (fun _ _ _ h => h)) [z] _ 1 1 hr3 (by intro x hx; simp at hx; subst hx; exact hzb) (by omega)
            rw [HQ.out] at hco
            have HI3 := Bx.mk (hI.ch hC3 (fun _ _ _ h => h))
            have HC3 := Bx.mk (hC2.trans hC3 (fun _ _ h => h))
            clear hI hC2 hbu hr3 hC3 HI HC2
            go_wp2_with fail
            generalize w2.alloc (.cells #[.int .u8 z] 5) = w3 at *
            refine hco.mono ?_
            rintro e0 w4 ⟨rfl, hC4⟩
            have hr5 : Sl (w4.alloc (.cells #[.int .u8 z] 5)) (fun _ => True) .u8 (some ⟨w4.heap.size, 0, none⟩) 1 [z] := (Vs.one w4 5 (.int .u8 z)).mono fun _ _ _ => trivial
            have hC5 : Ch (fun _ => False) w4 (w4.alloc (.cells #[.int .u8 z] 5)) := (Ch.refl (fun _ => False) w4).alloc _
            have hlo := locate_any ((HI3.out.ch hC4 (fun _ _ _ h => h)).ch hC5 (fun _ _ _ h => h)) [z] _ 1 1 hr5 (by intro x hx; simp at hx; subst hx; exact hzb) (by omega)
            have HC5 := Bx.mk ((HC3.out.trans hC4 (fun _ _ h => h)).trans hC5 (fun _ _ h => h))
            have hqq : ((q : Int) == (q : Int)) = true := by simp
            clear hC4 hco hr5 hC5 HI3 HC3
            go_wp2_with fail
            generalize w4.alloc (.cells #[.int .u8 z] 5) = w5 at *
            refine hlo.mono ?_
            rintro e0 w6 ⟨A6, c6, n6, rfl, hH, hC6⟩
            obtain rfl : q = n6 := by rw [← HQ.out]; exact hH.len
            have HC6 := Bx.mk (HC5.out.trans hC6 (fun _ _ h => h))
            have hk := known_any w6 (HT.out.keep HC6.out)
            clear hH hC6 hlo HC5
            go_wp2_with fail
            refine hk.mono ?_
            rintro e0 w7 ⟨rfl, hC7⟩
            have HC7 := Bx.mk (HC6.out.trans hC7 (fun _ _ h => h))
            clear hC7 hk
            go_wp2
            go_ret
            exact ⟨rfl, HC7.out⟩
          · have := HSL.out.1
            omega
end
end Go.Proofs.YtckkjccjkdidjaaGreatDoor
