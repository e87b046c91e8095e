/-
  The walk of haystacklaw1.OctetNums.
-/
import Derived.Test.YtppplchllnalpaaDoorOcRef
import Derived.Test.YtppplchllnalpaaDoorOcReader2
import Derived.Test.YtppplchllnalpaaDoorOcHeavy
import Derived.Test.YtppplchllnalpaaDoorOcKnown
import Derived.Deep.RegionHeld3
namespace Go.Proofs.YtppplchllnalpaaDoor
open Go.RowKit Go.Oct

theorem Sl.lt_ {w : World} {F : Nat → Prop} {K : IntKind} {A : Option Addr} {n : Nat} {xs : List Int} (h : Sl w F K A n xs) : Sl w (fun b => b < w.heap.size) K A n xs := Sl.mono h fun _ h _ => h
theorem num_enc (br m : Nat) (v : Int) (r : List Int) (w : World) (hm : m ≤ top62) (hv : (m : Int) = v) (hr : Rd w br false (encN m ++ r)) :
    Calls Tryd.prog 17 #[.pointer (some ⟨br, 0, none⟩)] w fun e w' => e = .returned (.int .i64 v) ∧ Rd w' br false r ∧ Ch (RS br) w w' :=
  (num_any br false _ w hr).mono fun e w' h => by
    unfold NumPost at h
    rw [takeN_enc0 hm] at h
    rw [← hv]
    exact h
theorem flat_drop {zs : List Int} {k : Nat} {z : Int} (h : zs[k]? = some z) : (zs.drop k).flatMap encI = encN (clampI z) ++ (zs.drop (k + 1)).flatMap encI := by
  obtain ⟨h1, h2⟩ := List.getElem?_eq_some_iff.1 h
  rw [List.drop_eq_getElem_cons h1, h2, List.flatMap_cons]
  rfl
theorem flat_len_all (zs : List Int) : (zs.flatMap encI).length ≤ 9 * zs.length := by
  have := flat_len zs zs.length
  rwa [List.take_of_length_le (Nat.le_refl _)] at this

set_option maxHeartbeats 2000000 in
set_option maxRecDepth 100000 in
theorem numsLaw_any (zs : List Int) (A : Option Addr) (n c : Nat) (w : World) (ht : Tab w) (hn : n ≤ 9223372036854775807) (hz : Sl w (fun _ => True) .i64 A n zs) :
    Calls Tryd.prog 3 #[.slice A n c] w fun e w' => e = .returned (.bool true) ∧ Ch (fun _ => False) w w' := by
  have HT := Lib.hid ht
  clear ht
  by_cases hbig : 500 < n
  · go_enter Tryd.func3, Tryd.ntmps3
    go_wp2
    go_ret
    exact ⟨rfl, Ch.refl _ _⟩
  have hn5 : n ≤ 500 := by omega
  have hzl := Sl.lt_ hz
  have hlen := flat_len_all zs
  rw [hz.len] at hlen
  clear hz hn hbig
  obtain ⟨L, eL⟩ : ∃ L, L = zs.flatMap encI := ⟨_, rfl⟩
  rw [← eL] at hlen
  have EL := Lib.hid eL
  clear eL
  go_enter Tryd.func3, Tryd.ntmps3
  go_wp2_with fail
  have hC0 : Ch (fun _ => False) w (w.alloc (.cells #[.slice none 0 0] 25)) := (Ch.refl _ _).alloc _
  refine (nums_any w.heap.size (.slice none 0 0) [] zs A n c _ (fun b => b < w.heap.size) (by omega) (wr_new w) (hzl.ch hC0 (fun _ _ _ h => h)) ?f (by simp; omega)).mono ?_
  case f =>
    intro b hb h
    rcases h with h | h
    · omega
    · simp [Value.ownBlock] at h
  rintro e w1 ⟨rfl, v1, hw1, hc1, hn1⟩
  rw [List.nil_append, List.take_of_length_le (by rw [hzl.len]; omega), ← EL.out] at hw1
  have hC1 : Ch (fun b => w.heap.size ≤ b) w w1 := (hC0.mono (S := fun b => w.heap.size ≤ b) fun _ _ h => h.elim).trans hc1 fun i hi h => by
    rcases h with h | h
    · omega
    · simp [Value.ownBlock] at h
  have HC1 := Lib.hid hC1
  clear hC0 hc1 hn1 hC1
  go_wp2_with fail
  refine (out_any w.heap.size v1 L _ hw1 (by omega)).mono ?_
  rintro e w2 ⟨v2, rfl, hf2⟩
  obtain ⟨A2, c2, rfl, hl2, hm2⟩ := own_shape hf2.1
  have hC2 : Ch (fun b => w.heap.size ≤ b) w w2 := HC1.out.trans hf2.2.2 fun _ _ h => h.elim
  have hw2 := hw1.ch hf2.2.2 (fun _ _ h => h)
  have HC2 := Lib.hid hC2
  have hnb : ∀ b, b < w.heap.size → b < w.heap.size → ¬ w.heap.size ≤ b := fun b _ h => by omega
  clear hC2
  go_wp2_with fail
  refine (refnums_any zs A n c w2 _ (by omega) (hzl.ch HC2.out hnb)).mono ?_
  rintro e w3 ⟨v3, rfl, hf3⟩
  rw [← EL.out] at hf3
  obtain ⟨A3, c3, rfl, hl3, hm3⟩ := own_shape hf3.1
  go_wp2_with fail
  refine (same_any A2 A3 _ _ c2 c3 L L _ _ w3 (by omega) (by omega) ((Sl.of_own hf2.1).ch hf3.2.2 (fun _ _ _ h => h)) (Sl.of_own hf3.1)).mono ?_
  rintro e w4 ⟨rfl, k4, ew4⟩
  have hC24 : Ch (fun _ => False) w2 w4 := by
    rw [ew4]
    exact hf3.2.2.drewN _
  have hC4 : Ch (fun b => w.heap.size ≤ b) w w4 := HC2.out.trans hC24 fun _ _ h => h.elim
  have hw4 := hw2.ch hC24 (fun _ _ h => h)
  have ho4 := hC24.own hf2.1 (fun _ _ h => h)
  have hB2 := hf2.2.1
  have hw1s := HC1.out.size
  have HC4 := Lib.hid hC4
  have hV : ∀ b, WS w.heap.size v1 b → ¬ (Value.slice A2 L.length c2).ownBlock = some b := fun b hs hb => by
    have h1 := hB2 b hb
    rcases hs with h2 | h2
    · have := hw1.lt; omega
    · have := hw1.row_lt h2; omega
  have HV := Lib.hid hV
  have HB2 := Lib.hid hB2
  clear hC4 ew4 hf3 hw2 HC2 hV hC24 hB2
  have hbyL : Byt L := by
    rw [EL.out]
    intro x hx
    obtain ⟨z, _, h2⟩ := List.mem_flatMap.1 hx
    exact encN_byte _ x h2
  have HBY := Lib.hid hbyL
  clear hbyL
  go_wp2_with fail
  refine (new_any A2 L.length c2 L w4 _ (Sl.of_own ho4) (by omega) hl2 hm2 HBY.out).mono ?_
  rintro e w5 ⟨br5, rfl, hbr5, hR5, hc5⟩
  have ho5 := hc5.own ho4 (fun _ _ h => h)
  have hw5 := hw4.ch hc5 (fun _ _ h => h)
  have hC5 : Ch (fun b => w.heap.size ≤ b) w w5 := HC4.out.trans hc5 fun _ _ h => h.elim
  have HC5 := Lib.hid hC5
  clear hC5 hc5 hR5 ho4 hw4 hf2 hbr5
  go_wp2_with fail
  refine (spoil_any _ _ _ w5 (by omega) ho5).mono ?_
  rintro e w6 ⟨rfl, hc6⟩
  have hw6 := hw5.ch hc6 HV.out
  have hC6 : Ch (fun b => w.heap.size ≤ b) w w6 := HC5.out.trans hc6 fun i hi h => by have := HB2.out i h; omega
  have HC6 := Lib.hid hC6
  clear hC6 hc6 ho5 hw5 HC5 HV HB2
  go_wp2_with fail
  refine (out_any w.heap.size v1 L _ hw6 (by omega)).mono ?_
  rintro e w7 ⟨v7, rfl, hf7⟩
  obtain ⟨A7, c7, rfl, hl7, hm7⟩ := own_shape hf7.1
  go_wp2_with fail
  refine (new_any A7 L.length c7 L w7 _ (Sl.of_own hf7.1) (by omega) hl7 hm7 HBY.out).mono ?_
  rintro e w8 ⟨br, rfl, hbr, hR8, hc8⟩
  have hC8 : Ch (fun b => w.heap.size ≤ b) w w8 := (HC6.out.trans hf7.2.2 fun _ _ h => h.elim).trans hc8 fun _ _ h => h.elim
  have hbrw : w.heap.size ≤ br := by have := hf7.2.2.size; have := HC6.out.size; omega
  have HC8 := Lib.hid hC8
  have HR8 := Lib.hid hR8
  clear hC8 hR8 hc8 hf7 hw6 HC6 hbr
  go_wp2_with fail
  go_loopw [6] (fun i wr => ∃ k : Nat, k ≤ n ∧ i = .int .i64 k ∧ Rd wr br false ((zs.drop k).flatMap encI) ∧ Ch (fun b => w.heap.size ≤ b) w wr) (fun i _ => n - (intOf i).toNat)
  case atStart => exact ⟨0, Nat.zero_le _, rfl, by rw [List.drop_zero, ← EL.out]; exact HR8.out, HC8.out⟩
  case round =>
    obtain ⟨k, hk, rfl, hrd, hch⟩ := hrel
    by_cases hlt : k < n
    · obtain ⟨b, off, z, rfl, hbw, ez, hc⟩ := (hzl.ch hch hnb).at_ hlt
      rw [flat_drop ez.out] at hrd
      have HCH := Lib.hid hch
      clear hch
      have hm : z ≤ 0 ∨ 4611686018427387904 < z ∨ (0 < z ∧ z ≤ 4611686018427387904) := by omega
      rcases hm with hm | hm | ⟨hm, hm1⟩
      · have HRD : Hid (Rd wr br false (encN 0 ++ (zs.drop (k + 1)).flatMap encI)) := by
          rw [show 0 = clampI z from (clampI_zero hm).symm]
          exact hrd
        clear hrd
        have hi1 : ¬ 4611686018427387904 < z := by omega
        have hi2 : ¬ 0 < z := by omega
        go_wp2_with fail
        go_region_held3 (fun w' => w'.cell? ⟨b, off + k, none⟩ = some (.int .i64 z)) (first | go_keep | exact Ch.cell (p := ⟨b, off + k, none⟩) g2 (fun h => by have h' : b = br := h; omega) hc) (first | (go_at_call 17; refine (num_enc br 0 0 ((zs.drop (k + 1)).flatMap encI) _ (Nat.zero_le _) rfl (by exact HRD.out)).mono ?_; rintro e w' ⟨rfl, g1, g2⟩))
        all_goals
          have hrel : Ch (fun b => w.heap.size ≤ b) w w' := Ch.trans HCH.out.drew g2 fun i hi h => by have h' : i = br := h; omega
          go_wp2
          refine ⟨⟨k + 1, by omega, by go_num, g1, hrel⟩, ?_⟩
          simp [intOf]
          omega
      · have HRD : Hid (Rd wr br false (encN top62 ++ (zs.drop (k + 1)).flatMap encI)) := by
          rw [show top62 = clampI z from (clampI_top hm).symm]
          exact hrd
        clear hrd
        go_wp2_with fail
        go_region_held3 (fun w' => w'.cell? ⟨b, off + k, none⟩ = some (.int .i64 z)) (first | go_keep | exact Ch.cell (p := ⟨b, off + k, none⟩) g2 (fun h => by have h' : b = br := h; omega) hc) (first | (go_at_call 17; refine (num_enc br top62 4611686018427387904 ((zs.drop (k + 1)).flatMap encI) _ (Nat.le_refl _) rfl (by exact HRD.out)).mono ?_; rintro e w' ⟨rfl, g1, g2⟩))
        all_goals
          have hrel : Ch (fun b => w.heap.size ≤ b) w w' := Ch.trans HCH.out.drew g2 fun i hi h => by have h' : i = br := h; omega
          go_wp2
          refine ⟨⟨k + 1, by omega, by go_num, g1, hrel⟩, ?_⟩
          simp [intOf]
          omega
      · obtain ⟨y, rfl⟩ := Int.cast_of (show 0 ≤ z by omega)
        have HRD : Hid (Rd wr br false (encN y ++ (zs.drop (k + 1)).flatMap encI)) := by
          rw [show y = clampI (y : Int) from (clampI_nat hm1).symm]
          exact hrd
        clear hrd
        have hi1 : ¬ 4611686018427387904 < (y : Int) := by omega
        have hi2 : 0 < y := by omega
        go_wp2_with fail
        go_region_held3 (fun w' => w'.cell? ⟨b, off + k, none⟩ = some (.int .i64 (y : Int))) (first | go_keep | exact Ch.cell (p := ⟨b, off + k, none⟩) g2 (fun h => by have h' : b = br := h; omega) hc) (first | (go_at_call 17; refine (num_enc br y y ((zs.drop (k + 1)).flatMap encI) _ (by rw [top62_eq]; omega) rfl (by exact HRD.out)).mono ?_; rintro e w' ⟨rfl, g1, g2⟩))
        all_goals
          have hrel : Ch (fun b => w.heap.size ≤ b) w w' := Ch.trans HCH.out.drew g2 fun i hi h => by have h' : i = br := h; omega
          go_wp2
          refine ⟨⟨k + 1, by omega, by go_num, g1, hrel⟩, ?_⟩
          simp [intOf]
          omega
    · obtain rfl : k = n := by omega
      rw [List.drop_of_length_le (by rw [hzl.len]; omega), List.flatMap_nil] at hrd
      have HRD := Lib.hid hrd
      have HCH := Lib.hid hch
      clear hrd hch
      go_wp2_with (first | (go_at_call 18; refine (good_any br false [] _ HRD.out).mono ?_; rintro e w' ⟨rfl, rfl⟩) | (go_at_call 19; refine (whole_any br false [] _ HRD.out).mono ?_; rintro e w' ⟨rfl, rfl⟩))
      refine (known_any _ (HT.out.ch HCH.out (fun h => by have := lt_of_cell (HT.out 0 (by omega)); exact absurd h (by omega)))).mono ?_
      rintro e w9 ⟨rfl, hc9⟩
      have hF : Ch (fun _ => False) w w9 := (HCH.out.mono (S := fun _ => False) fun i hi h => by omega).trans hc9 (fun _ _ h => h)
      clear hc9
      go_wp2
      go_ret
      exact ⟨rfl, hF⟩
end Go.Proofs.YtppplchllnalpaaDoor
