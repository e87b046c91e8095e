/-
  The walk of haystacklaw1.OctetSmall: true, whatever the number. Condition: the table of check sums stands as start-up lays it.
-/
import Derived.Test.YtppplchllnalpaaDoorOcKnown
namespace Go.Proofs.YtppplchllnalpaaDoor
open Go.RowKit Go.Oct

set_option maxHeartbeats 1000000 in
set_option maxRecDepth 100000 in
theorem small_out (v : Int) (w : World) (ht : Tab w) (hv : v < 0 ∨ 4611686018427387904 < v) :
    Calls Tryd.prog 9 #[.int .i64 v] w fun e w' => e = .returned (.bool true) ∧ Ch (fun _ => False) w w' := by
  have HT := Lib.hid ht
  clear ht
  rcases hv with hv | hv
  · go_enter Tryd.func9, Tryd.ntmps9
    go_wp2_with fail
    refine (known_any _ HT.out).mono ?_
    rintro e w1 ⟨rfl, hc⟩
    go_wp2
    go_ret
    exact ⟨rfl, hc⟩
  · go_enter Tryd.func9, Tryd.ntmps9
    go_wp2_with fail
    refine (known_any _ HT.out).mono ?_
    rintro e w1 ⟨rfl, hc⟩
    go_wp2
    go_ret
    exact ⟨rfl, hc⟩

set_option maxHeartbeats 1000000 in
set_option maxRecDepth 100000 in
theorem small_in (y : Nat) (w : World) (ht : Tab w) (hv : (y : Int) ≤ 4611686018427387904) :
    Calls Tryd.prog 9 #[.int .i64 y] w fun e w' => e = .returned (.bool true) ∧ Ch (fun _ => False) w w' := by
  have HT := Lib.hid ht
  have hE : encI (y : Int) = encN y := by unfold encI; rw [clampI_nat hv]
  have hE9 : (encN y).length ≤ 9 := by rw [← hE]; exact encI_len _
  have HE := Lib.hid hE
  clear ht hE
  go_enter Tryd.func9, Tryd.ntmps9
  go_wp2_with fail
  have hw0 := (wr_new w).ch ((Ch.refl (fun _ => False) _).alloc (.cells #[.int .i64 y] 3)) (fun _ _ h => h)
  refine (nums_any w.heap.size (.slice none 0 0) [] [(y : Int)] _ 1 1 _ (fun b => b = w.heap.size + 1) (by omega) hw0 (by unfold Sl; simpa using Vs.built (w.alloc (.cells #[.slice none 0 0] 25)) 3 [.int .i64 y]) ?f (by simp)).mono ?_
  case f =>
    rintro _ rfl h
    rcases h with h | h
    · omega
    · simp [Value.ownBlock] at h
  rintro e w1 ⟨rfl, v1, hw1, hc1, hn1⟩
  simp only [List.take_succ_cons, List.take_zero, List.flatMap_cons, List.flatMap_nil, List.append_nil, List.nil_append, HE.out] at hw1
  have hC1 : Ch (fun _ => False) w w1 := chWr (((Ch.refl _ w).alloc _).alloc _) hc1 (Nat.le_refl _) (fun g hg => by simp [Value.ownBlock] at hg)
  have HC1 := Lib.hid hC1
  clear hc1 hn1 hw0 hC1
  go_wp2_with fail
  refine (out_any w.heap.size v1 (encN y) _ hw1 (by omega)).mono ?_
  rintro e w2 ⟨v2, rfl, hf2⟩
  obtain ⟨A2, c2, rfl, _, _⟩ := own_shape hf2.1
  have hC2 : Ch (fun _ => False) w w2 := HC1.out.trans hf2.2.2 (fun _ _ h => h)
  have HC2 := Lib.hid hC2
  clear hC2
  go_wp2_with fail
  have hst := encN_rest y
  have HST := Lib.hid hst
  clear hst
  go_loop [5, 6] (fun n x => ∃ m q : Nat, m ≤ top62 ∧ q ≤ 9 ∧ x = .int .i64 m ∧ n = .int .i64 q ∧ q + restLen m = (encN y).length) (fun _ x => (intOf x).toNat)
  case atStart => exact ⟨y / 128, 1, by rw [top62_eq]; omega, by omega, rfl, rfl, HST.out.symm⟩
  case round =>
    obtain ⟨m, q, hm, hq, rfl, rfl, hs⟩ := hrel
    have HS := Lib.hid hs
    clear hs
    by_cases h0 : 0 < m
    · have hs2 : q + 1 + restLen (m / 128) = (encN y).length := by rw [← HS.out, restLen_step h0]; omega
      have hs3 : q + 1 ≤ 9 := by omega
      have HS2 := Lib.hid hs2
      clear hs2
      go_wp2
      exact ⟨⟨m / 128, q + 1, by omega, by omega, rfl, by go_num, HS2.out⟩, by simp [intOf]; omega⟩
    · obtain rfl : m = 0 := by omega
      obtain rfl : q = (encN y).length := by have := HS.out; rw [restLen_zero] at this; omega
      clear HS
      have hsl := (Sl.of_own hf2.1)
      obtain ⟨x0, ex0, hx0⟩ := enc_first y
      obtain ⟨b, off, x, rfl, _, ex, hc0⟩ := hsl.at_ (encN_pos y)
      obtain rfl : x = (x0 : Int) := by have := ex.out; rw [ex0] at this; exact (Option.some.inj this).symm
      rw [Nat.add_zero] at hc0
      have hpos := encN_pos y
      by_cases hy : y < 128
      · have hx1 := hx0.2 hy
        have hl : (((encN y).length : Int) == 1) = true := by rw [encN_small hy]; rfl
        clear hx0 ex0
        go_wp2_with fail
        refine (known_any _ (HT.out.ch HC2.out fun h => h)).mono ?_
        rintro e w3 ⟨rfl, hc3⟩
        go_wp2
        go_ret
        exact ⟨rfl, HC2.out.trans hc3 fun _ _ h => h⟩
      · have hx1 : ¬ x0 < 128 := fun h => hy (hx0.1 h)
        have hl2 : 2 ≤ (encN y).length := enc_two (by omega)
        have hl : (((encN y).length : Int) == 1) = false := by rw [beq_eq_false_iff_ne]; omega
        obtain ⟨xl, exl, hxl⟩ := enc_last_pos y (by omega)
        obtain ⟨b', off', x', e', _, ex', hcl⟩ := hsl.at_ (k := (encN y).length - 1) (by omega)
        injection e' with e'
        injection e' with e1 e2 _
        subst e1 e2
        obtain rfl : x' = xl := by have := ex'.out; rw [exl] at this; exact (Option.some.inj this).symm
        have hxb : (x' != 0) = true := by rw [bne_iff_ne]; exact hxl
        clear hx0 ex0 exl hxl
        go_wp2_with fail
        refine (known_any _ (HT.out.ch HC2.out fun h => h)).mono ?_
        rintro e w3 ⟨rfl, hc3⟩
        go_wp2
        go_ret
        exact ⟨rfl, HC2.out.trans hc3 fun _ _ h => h⟩
end Go.Proofs.YtppplchllnalpaaDoor
