/-
  The law FmRound: an index by its own turned row is the same. Over the contracts of the Index.
-/
import Derived.Test.YtckkjccjkdidjaaGreatDoorFmAlike
import Derived.Test.YtckkjccjkdidjaaGreatDoorFmTexts
namespace Go.Su
theorem cut_one : ∀ {a b r s : List Int}, (∀ x ∈ a, x ≠ 1) → (∀ x ∈ b, x ≠ 1) → a ++ 1 :: r = b ++ 1 :: s → a = b ∧ r = s
  | [], [], _, _, _, _, h => by
    simp at h
    exact ⟨rfl, h⟩
  | [], y :: b, _, _, _, hb, h => by
    simp at h
    exact absurd h.1.symm (hb y (List.mem_cons_self ..))
  | x :: a, [], _, _, ha, _, h => by
    simp at h
    exact absurd h.1 (ha x (List.mem_cons_self ..))
  | x :: a, y :: b, _, _, ha, hb, h => by
    simp at h
    obtain ⟨rfl, h⟩ := h
    obtain ⟨rfl, h2⟩ := cut_one (fun z hz => ha z (List.mem_cons_of_mem _ hz)) (fun z hz => hb z (List.mem_cons_of_mem _ hz)) h
    exact ⟨rfl, h2⟩
theorem map2_inj {a b : List Int} (h : a.map (fun b => b + 2) = b.map (fun b => b + 2)) : a = b := by
  refine List.map_inj_right (f := fun b : Int => b + 2) (fun x y e => ?_) |>.1 h
  have e' : x + 2 = y + 2 := e
  omega
theorem not_one {t : List Int} (h : ∀ x ∈ t, 0 ≤ x) : ∀ x ∈ t.map (fun b => b + 2), x ≠ 1 := fun x hx => by
  obtain ⟨y, hy, rfl⟩ := List.mem_map.1 hx
  have := h y hy
  omega
theorem body_inj : ∀ {xss yss : List (List Int)}, PosB xss → PosB yss → body xss = body yss → xss = yss
  | [], [], _, _, _ => rfl
  | [], u :: yss, _, _, h => by simp [body] at h
  | t :: xss, [], _, _, h => by simp [body] at h
  | t :: xss, u :: yss, hx, hy, h => by
    obtain ⟨h1, h2⟩ := cut_one (not_one (hx t (List.mem_cons_self ..))) (not_one (hy u (List.mem_cons_self ..))) h
    rw [map2_inj h1, body_inj (fun v hv => hx v (List.mem_cons_of_mem _ hv)) (fun v hv => hy v (List.mem_cons_of_mem _ hv)) h2]
/-- A row is that of one list of texts alone. -/
theorem txt_inj {xss yss : List (List Int)} (hx : PosB xss) (hy : PosB yss) (h : txt xss = txt yss) : xss = yss := by
  unfold txt at h
  exact body_inj hx hy (List.append_cancel_right h)
end Go.Su
namespace Go.Proofs.YtckkjccjkdidjaaGreatDoor
open Go.RowKit Go.Oct Go.Su X

theorem slim_each {xss : List (List Int)} (h : Slim xss) : ∀ t ∈ xss, t.length ≤ 1048576 := fun t ht => by
  have h1 := txt_each t ht
  have h2 := (slim_txt h).1
  omega
section
variable {F G : Nat → Prop}
set_option maxRecDepth 100000 in
set_option maxHeartbeats 4000000 in
theorem round_law (xss pss : List (List Int)) (A B : Option Addr) (n c m d : Nat) (w : World) (hz : Sls w F A n xss) (hp : Sls w G B m pss) (hb : Byts xss) (hbp : Byts pss) (hn : n ≤ 9223372036854775807) (hm : m ≤ 9223372036854775807) (ht : W.Tab w) :
    Calls Tryz.prog 6 #[.slice A n c, .slice B m d] w fun e w' => e = .returned (.bool true) ∧ Ch (fun _ => False) w w' := by
  have HZ := Bx.mk hz
  have HP := Bx.mk hp
  have HB := Bx.mk hb
  have HBP := Bx.mk hbp
  have HL := Bx.mk hz.len
  have HLP := Bx.mk hp.len
  have HT := Bx.mk ht
  have hh := heavy_any xss A n c w F hn hz
  have hh2 := heavy_any pss B m d w G hm hp
  clear hz hb hp hbp ht
  go_enter Tryz.func6, Tryz.ntmps6
  go_wp2_with fail
  refine hh.mono ?_
  rintro e0 w1 ⟨hv, rfl, rfl, hs⟩
  clear hh
  cases hv with
  | true =>
    go_wp2
    go_ret
    exact ⟨rfl, Ch.refl _ _⟩
  | false =>
    have HSL := Bx.mk (slim_txt (hs rfl))
    have HSE := Bx.mk (slim_each (hs rfl))
    have hnb : n ≤ 266 := by have := HSL.out.2; rw [HL.out] at this; exact this
    clear hs
    by_cases h60 : 60 < n
    · have d1 : decide (60 < (n : Int)) = true := by simp; omega
      have d2 : decide (60 < n) = true := by simp; omega
      go_wp2
      go_ret
      exact ⟨rfl, Ch.refl _ _⟩
    · have d1 : decide (60 < (n : Int)) = false := by simp; omega
      have d2 : decide (60 < n) = false := by simp; omega
      go_wp2_with fail
      refine hh2.mono ?_
      rintro e0 w1 ⟨hv, rfl, rfl, hs⟩
      clear hh2
      cases hv with
      | true =>
        go_wp2
        go_ret
        exact ⟨rfl, Ch.refl _ _⟩
      | false =>
        have HPE := Bx.mk (slim_each (hs rfl))
        have hmb : m ≤ 266 := by have := (slim_txt (hs rfl)).2; rw [HLP.out] at this; exact this
        clear hs
        by_cases h10 : 10 < m
        · have d3 : decide (10 < (m : Int)) = true := by simp; omega
          have d4 : decide (10 < m) = true := by simp; omega
          go_wp2
          go_ret
          exact ⟨rfl, Ch.refl _ _⟩
        · have d3 : decide (10 < (m : Int)) = false := by simp; omega
          have d4 : decide (10 < m) = false := by simp; omega
          have hbu := build_any xss A n c w HZ.out HB.out (by have := HSL.out.1; omega) HT.out
          go_wp2_with fail
          refine hbu.mono ?_
          rintro e0 w2 (⟨_, b, rfl, hI, hC2⟩ | ⟨h, _⟩)
          · have htu := turnedx_cap hI
            have HC2 := Bx.mk hC2
            clear hI hC2 hbu
            go_wp2_with fail
            refine htu.mono ?_
            rintro e0 w3 ⟨A3, c3, n3, l3, rfl, hn3, hS3, hT3, hcap, hmax, hC3⟩
            have HC3 := Bx.mk (HC2.out.trans hC3 (fun _ _ h => h))
            have hn36 : n3 ≤ 65536 := by rw [hn3]; have := HSL.out.1; omega
            have hfr := from_any l3 A3 n3 c3 w3 hS3 hn36 hcap hmax (HT.out.keep HC3.out)
            have HT3 := Bx.mk hT3
            clear hS3 hC3 htu HC2 hn3 hT3 hcap hmax
            go_wp2_with fail
            refine hfr.mono ?_
            rintro e0 w4 (⟨b4, yss, rfl, _, hT4, hI4, hC4⟩ | ⟨ec, rfl, hbad, hC4⟩)
            · have hxy : xss = yss := txt_inj HB.out.pos hI4.byts.pos (HT3.out.uniq hT4)
              subst hxy
              have HC4 := Bx.mk (HC3.out.trans hC4 (fun _ _ h => h))
              have hal := alike_any xss pss [] A B none n c m d 0 0 b4 w4 hI4 (HZ.out.ch HC4.out (fun _ _ _ h => h)) (HP.out.ch HC4.out (fun _ _ _ h => h)) (Sl.nil _ _ _ _) HBP.out (by omega) (by omega) (by omega) HPE.out HSE.out
              clear hT4 hI4 hC4 hfr HC3
              go_wp2_with fail
              refine hal.mono ?_
              rintro e0 w5 ⟨rfl, hC5⟩
              have HC5 := Bx.mk (HC4.out.trans hC5 (fun _ _ h => h))
              have hk := known_any w5 (HT.out.keep HC5.out)
              clear hC5 hal HC4
              go_wp2_with fail
              refine hk.mono ?_
              rintro e0 w6 ⟨rfl, hC6⟩
              have HC6 := Bx.mk (HC5.out.trans hC6 (fun _ _ h => h))
              clear hC6 hk
              go_wp2
              go_ret
              exact ⟨rfl, HC6.out⟩
            · exfalso
              rcases hbad with ⟨h1, _⟩ | ⟨_, h1, _⟩
              · omega
              · exact h1 xss HB.out HT3.out
          · have := HSL.out.1
            omega
end
end Go.Proofs.YtckkjccjkdidjaaGreatDoor
