/-
  The contracts of a Reader's methods.
-/
import Derived.Test.YtanhnaohmaepoaaOcJoin
namespace Go.Proofs.Ytanhnaohmaepoaa.O
open Go.RowKit Go.Oct

/-- A Reader at block br that has xs left. -/
def RdQ (Q : Nat → Prop) (w : World) (br : Nat) (bad : Bool) (xs : List Int) : Prop :=
  ∃ A n c, w.heap[br]? = some (.cells #[.slice A n c, .bool bad] 86 (0, 0)) ∧ Sl w (fun b => b ≠ br ∧ Q b) .u8 A n xs ∧ n ≤ c ∧ c ≤ 9223372036854775807 ∧ Byt xs ∧ (bad = true → xs = [])
def RS (br k : Nat) : Prop := k = br

section
variable {Q : Nat → Prop}
theorem rd_cells {w : World} {br : Nat} {u v : Value} {t : TypeId} (h : w.heap[br]? = some (.cells #[u, v] t (0, 0))) :
    w.cell? ⟨br, 0, none⟩ = some u ∧ w.cell? ⟨br, 1, none⟩ = some v ∧ w.frozen? ⟨br, 0, none⟩ = false ∧ w.frozen? ⟨br, 1, none⟩ = false := by
  simp [World.cell?, World.frozen?, h]

theorem RdQ.bad_ {w : World} {br : Nat} {bad : Bool} {xs : List Int} (h : RdQ Q w br bad xs) :
    RdQ Q ((w.setCell ⟨br, 0, none⟩ (.slice none 0 0)).setCell ⟨br, 1, none⟩ (.bool true)) br true [] ∧ Ch (RS br) w ((w.setCell ⟨br, 0, none⟩ (.slice none 0 0)).setCell ⟨br, 1, none⟩ (.bool true)) := by
  obtain ⟨A, n, c, hblk, _⟩ := h
  refine ⟨⟨none, 0, 0, ?_, Sl.nil _ _ _ _, Nat.le_refl _, by omega, fun x hx => by simp at hx, fun _ => rfl⟩, ((Ch.refl (RS br) w).setCell (p := ⟨br, 0, none⟩) (.inl rfl) _).setCell (p := ⟨br, 1, none⟩) (.inl rfl) _⟩
  simp [World.setCell, Array.getElem?_modify, hblk]

/-- What a Reader is behind a store of what is left. -/
theorem rd_cut {w : World} {br k b off n c : Nat} {xs : List Int} (hblk : w.heap[br]? = some (.cells #[.slice (some ⟨b, off, none⟩) n c, .bool false] 86 (0, 0))) (hsl : Sl w (fun b => b ≠ br ∧ Q b) .u8 (some ⟨b, off, none⟩) n xs)
    (hby : Byt xs) (hk : k ≤ n) (hnc : n ≤ c) (hcm : c ≤ 9223372036854775807) {A' : Option Addr} {c' : Nat} (hA : (c = k ∧ c' = 0) ∨ (A' = some ⟨b, off + k, none⟩ ∧ c' = c - k)) :
    RdQ Q (w.setCell ⟨br, 0, none⟩ (.slice A' (n - k) c')) br false (xs.drop k) ∧ Ch (RS br) w (w.setCell ⟨br, 0, none⟩ (.slice A' (n - k) c')) := by
  have hC : Ch (RS br) w (w.setCell ⟨br, 0, none⟩ (.slice A' (n - k) c')) := (Ch.refl (RS br) w).setCell (p := ⟨br, 0, none⟩) (.inl rfl) _
  refine ⟨⟨A', n - k, c', by simp [World.setCell, Array.getElem?_modify, hblk], ?_, ?_, ?_, fun x hx => hby x (List.mem_of_mem_drop hx), fun h => by cases h⟩, hC⟩
  · refine Sl.ch ?_ hC (fun b hb _ h => hb.1 h)
    rcases hA with ⟨h1, _⟩ | ⟨rfl, _⟩
    · have h0 : n - k = 0 := by omega
      have hl := hsl.len
      rw [h0, List.drop_of_length_le (by omega)]
      exact Sl.nil _ _ _ _
    · exact hsl.drop hk
  · rcases hA with ⟨h1, rfl⟩ | ⟨_, rfl⟩ <;> omega
  · rcases hA with ⟨h1, rfl⟩ | ⟨_, rfl⟩ <;> omega

theorem bad_any (br : Nat) (bad : Bool) (xs : List Int) (w : World) (hr : RdQ Q w br bad xs) :
    Calls Try.prog 52 #[.pointer (some ⟨br, 0, none⟩)] w fun e w' => e = .returned (.tuple #[]) ∧ RdQ Q w' br true [] ∧ Ch (RS br) w w' := by
  have HR := Lib.hid hr
  obtain ⟨A, n, c, hblk, _⟩ := hr
  obtain ⟨hc0, hc1, hf0, hf1⟩ := rd_cells hblk
  clear hblk
  go_enter Try.func52, Try.ntmps52
  go_wp2
  go_returns
  exact ⟨rfl, HR.out.bad_⟩
theorem left_any (br : Nat) (bad : Bool) (xs : List Int) (w : World) (hr : RdQ Q w br bad xs) :
    Calls Try.prog 42 #[.pointer (some ⟨br, 0, none⟩)] w fun e w' => e = .returned (.int .i64 xs.length) ∧ w = w' := by
  obtain ⟨A, n, c, hblk, hsl, _⟩ := hr
  obtain ⟨hc0, hc1, hf0, hf1⟩ := rd_cells hblk
  obtain rfl := hsl.len
  clear hblk
  go_enter Try.func42, Try.ntmps42
  go_wp2
  go_ret
  exact ⟨rfl, rfl⟩
theorem good_any (br : Nat) (bad : Bool) (xs : List Int) (w : World) (hr : RdQ Q w br bad xs) :
    Calls Try.prog 50 #[.pointer (some ⟨br, 0, none⟩)] w fun e w' => e = .returned (.bool (!bad)) ∧ w = w' := by
  obtain ⟨A, n, c, hblk, _⟩ := hr
  obtain ⟨hc0, hc1, hf0, hf1⟩ := rd_cells hblk
  clear hblk
  go_enter Try.func50, Try.ntmps50
  go_wp2
  go_ret
  exact ⟨rfl, rfl⟩
theorem whole_any (br : Nat) (bad : Bool) (xs : List Int) (w : World) (hr : RdQ Q w br bad xs) :
    Calls Try.prog 37 #[.pointer (some ⟨br, 0, none⟩)] w fun e w' => e = .returned (.bool (!bad && xs.isEmpty)) ∧ w = w' := by
  have HR := Lib.hid hr
  have hl : xs.isEmpty = ((xs.length : Int) == 0) := by cases xs <;> simp <;> omega
  rw [hl]
  clear hl hr
  cases bad
  · go_enter Try.func37, Try.ntmps37
    go_wp2_with (first | (go_at_call 50; refine (good_any br false xs _ HR.out).mono ?_; rintro e w' ⟨rfl, rfl⟩) | (go_at_call 42; refine (left_any br false xs _ HR.out).mono ?_; rintro e w' ⟨rfl, rfl⟩))
    go_ret
    exact ⟨rfl, rfl⟩
  · go_enter Try.func37, Try.ntmps37
    go_wp2_with (first | (go_at_call 50; refine (good_any br true xs _ HR.out).mono ?_; rintro e w' ⟨rfl, rfl⟩) | (go_at_call 42; refine (left_any br true xs _ HR.out).mono ?_; rintro e w' ⟨rfl, rfl⟩))
    go_ret
    exact ⟨rfl, rfl⟩

/-- What Num leaves. -/
def NumPost (Q : Nat → Prop) (w : World) (br : Nat) (xs : List Int) (e : Ending) (w' : World) : Prop :=
  match takeN 0 0 xs with
  | none => e = .returned (.int .i64 0) ∧ RdQ Q w' br true [] ∧ Ch (RS br) w w'
  | some (m, r) => e = .returned (.int .i64 m) ∧ RdQ Q w' br false r ∧ Ch (RS br) w w'
theorem NumPost.none_ {w w' : World} {br : Nat} {xs : List Int} (h : takeN 0 0 xs = none) (h1 : RdQ Q w' br true []) (h2 : Ch (RS br) w w') : NumPost Q w br xs (.returned (.int .i64 0)) w' := by
  unfold NumPost
  rw [h]
  exact ⟨rfl, h1, h2⟩
theorem NumPost.some_ {w w' : World} {br m : Nat} {xs r : List Int} (h : takeN 0 0 xs = some (m, r)) (h1 : RdQ Q w' br false r) (h2 : Ch (RS br) w w') : NumPost Q w br xs (.returned (.int .i64 m)) w' := by
  unfold NumPost
  rw [h]
  exact ⟨rfl, h1, h2⟩

set_option maxHeartbeats 1000000 in
set_option maxRecDepth 100000 in
theorem num_good (br : Nat) (xs : List Int) (w : World) (hr : RdQ Q w br false xs) :
    Calls Try.prog 41 #[.pointer (some ⟨br, 0, none⟩)] w (NumPost Q w br xs) := by
  have HR := Lib.hid hr
  obtain ⟨A, n, c, hblk, hsl, hnc, hcm, hby, _⟩ := hr
  obtain ⟨hc0, hc1, hf0, hf1⟩ := rd_cells hblk
  have HB := Lib.hid hby
  have HK := Lib.hid hblk
  clear hby hblk hc1
  go_enter Try.func41, Try.ntmps41
  go_wp2_with (go_at_call 50; refine (good_any br false xs _ HR.out).mono ?_; rintro e w' ⟨rfl, rfl⟩)
  go_loop [3, 14] (fun t i => ∃ k m : Nat, k ≤ 9 ∧ k ≤ n ∧ i = .int .i64 k ∧ t = .int .i64 m ∧ m < 128 ^ k ∧ takeN 0 0 xs = takeN k m (xs.drop k)) (fun _ i => 10 - (intOf i).toNat)
  case atStart => exact ⟨0, 0, by omega, by omega, rfl, rfl, by omega, by simp⟩
  case round =>
    obtain ⟨k, m, hk, hkn, rfl, rfl, hm, htk⟩ := hrel
    have HM := Lib.hid hm
    have HT := Lib.hid htk
    clear hm htk
    by_cases hlt : k < n
    · obtain ⟨b, off, x, rfl, hbr, ex, hc⟩ := hsl.at_ hlt
      by_cases h9 : k = 9
      · subst h9
        have hN : takeN 0 0 xs = none := by rw [HT.out, takeN_nine]
        have HN := Lib.hid hN
        clear hN
        go_wp2_with (go_at_call 52; refine (bad_any br false xs _ HR.out).mono ?_; rintro e w' ⟨rfl, h1, h2⟩)
        go_ret
        exact NumPost.none_ HN.out h1 h2
      · have hb9 : ((k : Int) == 9) = false := by rw [beq_eq_false_iff_ne]; omega
        have hx := HB.out.at_ ex.out
        obtain ⟨x, rfl⟩ : ∃ y : Nat, x = (y : Int) := ⟨x.toNat, by omega⟩
        obtain ⟨s, es⟩ : ∃ s, s = m + x % 128 * 128 ^ k := ⟨_, rfl⟩
        have hwr : wrap64 ((m : Int) + wrap64 ((x : Int) % 128 * 2 ^ (7 * k))) = (s : Int) := by rw [es]; exact wrap_digit HM.out (by omega)
        have hs1 : s < 128 ^ (k + 1) := by rw [es]; exact digit_lt HM.out
        have HS1 := Lib.hid hs1
        have ES := Lib.hid es
        clear hs1 es
        by_cases hbig : 128 ≤ x
        · have hT : takeN 0 0 xs = takeN (k + 1) s (xs.drop (k + 1)) := by rw [HT.out, takeN_more ex.out h9 hbig, ES.out]
          have HT2 := Lib.hid hT
          clear hT
          go_wp2
          exact ⟨⟨k + 1, s, by omega, by omega, rfl, congrArg (Value.int .i64) hwr, HS1.out, HT2.out⟩, by simp [intOf]; omega⟩
        · have hbig' : x < 128 := by omega
          clear hbig
          by_cases htop : 4611686018427387904 < s
          · have hN : takeN 0 0 xs = none := by
              rw [HT.out]
              exact takeN_bad ex.out hbig' (.inl (by rw [← ES.out, top62_eq]; exact htop))
            have HN := Lib.hid hN
            clear hN
            go_wp2_with (go_at_call 52; refine (bad_any br false xs _ HR.out).mono ?_; rintro e w' ⟨rfl, h1, h2⟩)
            go_ret
            exact NumPost.none_ HN.out h1 h2
          · by_cases hz : x = 0 ∧ 0 < k
            · obtain ⟨hx0, hk0⟩ := hz
              have hN : takeN 0 0 xs = none := by
                rw [HT.out]
                exact takeN_bad ex.out hbig' (.inr ⟨hx0, hk0⟩)
              have hxb : ((x : Int) == 0) = true := by rw [beq_iff_eq]; omega
              have HN := Lib.hid hN
              clear hN hx0
              go_wp2_with (go_at_call 52; refine (bad_any br false xs _ HR.out).mono ?_; rintro e w' ⟨rfl, h1, h2⟩)
              go_ret
              exact NumPost.none_ HN.out h1 h2
            · have hS : takeN 0 0 xs = some (s, xs.drop (k + 1)) := by
                rw [HT.out, takeN_done ex.out h9 hbig' (by rw [← ES.out, top62_eq]; omega) (fun h => by omega), ← ES.out]
              have HS := Lib.hid hS
              clear hS
              by_cases hx0 : x = 0
              · have hk0 : ¬ 0 < k := fun h => hz ⟨hx0, h⟩
                have hxb : ((x : Int) == 0) = true := by rw [beq_iff_eq]; omega
                clear hx0 hz
                by_cases hcap : c = k + 1
                · have hR := rd_cut HK.out hsl HB.out (k := k + 1) (by omega) hnc hcm (A' := some ⟨b, off, none⟩) (c' := 0) (.inl ⟨hcap, rfl⟩)
                  have HRR := Lib.hid hR
                  clear hR
                  go_wp2_with fail
                  go_ret
                  exact NumPost.some_ HS.out HRR.out.1 HRR.out.2
                · have hR := rd_cut HK.out hsl HB.out (k := k + 1) (by omega) hnc hcm (A' := some ⟨b, off + (k + 1), none⟩) (c' := c - (k + 1)) (.inr ⟨rfl, rfl⟩)
                  have HRR := Lib.hid hR
                  clear hR
                  go_wp2_with fail
                  go_ret
                  exact NumPost.some_ HS.out HRR.out.1 HRR.out.2
              · have hxb : ((x : Int) == 0) = false := by rw [beq_eq_false_iff_ne]; omega
                clear hx0 hz
                by_cases hcap : c = k + 1
                · have hR := rd_cut HK.out hsl HB.out (k := k + 1) (by omega) hnc hcm (A' := some ⟨b, off, none⟩) (c' := 0) (.inl ⟨hcap, rfl⟩)
                  have HRR := Lib.hid hR
                  clear hR
                  go_wp2_with fail
                  go_ret
                  exact NumPost.some_ HS.out HRR.out.1 HRR.out.2
                · have hR := rd_cut HK.out hsl HB.out (k := k + 1) (by omega) hnc hcm (A' := some ⟨b, off + (k + 1), none⟩) (c' := c - (k + 1)) (.inr ⟨rfl, rfl⟩)
                  have HRR := Lib.hid hR
                  clear hR
                  go_wp2_with fail
                  go_ret
                  exact NumPost.some_ HS.out HRR.out.1 HRR.out.2
    · obtain rfl : k = n := by omega
      have hN : takeN 0 0 xs = none := by
        rw [HT.out, List.drop_of_length_le (by rw [hsl.len]; omega)]
        rfl
      have HN := Lib.hid hN
      clear hN
      go_wp2_with (go_at_call 52; refine (bad_any br false xs _ HR.out).mono ?_; rintro e w' ⟨rfl, h1, h2⟩)
      go_ret
      exact NumPost.none_ HN.out h1 h2
end
/-- .. wherever what is left lies. -/
abbrev Rd (w : World) (br : Nat) (bad : Bool) (xs : List Int) : Prop := RdQ (fun _ => True) w br bad xs
end Go.Proofs.Ytanhnaohmaepoaa.O
