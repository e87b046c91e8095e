/-
  The walk of haystacklaw1.OctetJoins.
-/
import Derived.Test.YtppplchllnalpaaDoorOcHeavy
import Derived.Test.YtppplchllnalpaaDoorOcKnown
namespace Go.Proofs.YtppplchllnalpaaDoor
open Go.RowKit Go.Oct

theorem Tr : Elem Tryd.prog 36 23 (.slice none 0 0) 24 := ⟨Tryd.underlying36, by kernel_rfl, rfl⟩
theorem rows_cells {w : World} {F : Nat → Prop} {us : List Value} {xss : List (List Int)} (h : Go.Oct.Rows w F us xss) : ∀ u ∈ us, u.oneCell' = true := by
  intro u hu
  obtain ⟨i, hi⟩ := List.getElem?_of_mem hu
  obtain ⟨hi1, _⟩ := List.getElem?_eq_some_iff.1 hi
  obtain ⟨A, c, rfl, _⟩ := h.2 i u _ hi (List.getElem?_eq_getElem (by rw [← h.1]; exact hi1))
  rfl
theorem own_empty (w : World) (e : TypeId) : (w.alloc (.cells #[] e)).ownsRow 0 e 1 (.slice (some ⟨w.heap.size, 0, none⟩) 0 0) 0 [] := World.ownsRow_made w #[] 0 (Nat.zero_le _) (by unfold maxLen; omega) rfl

set_option maxHeartbeats 2000000 in
theorem joins_any (a b : List (List Int)) (A B : Option Addr) (n c m d : Nat) (w : World) (ht : Tab w) (hn : n ≤ 9223372036854775807) (hm : m ≤ 9223372036854775807) (hta : ∀ xs ∈ a, Byt xs) (htb : ∀ xs ∈ b, Byt xs)
    (ha : Sls w (fun _ => True) A n a) (hb : Sls w (fun _ => True) B m b) :
    Calls Tryd.prog 10 #[.slice A n c, .slice B m d] w fun e w' => e = .returned (.bool true) ∧ Ch (fun _ => False) w w' := by
  have HT := Lib.hid ht
  have HA := Lib.hid hta
  have HB := Lib.hid htb
  clear ht hta htb
  go_enter Tryd.func10, Tryd.ntmps10
  go_wp2_with fail
  refine (heavy_any a A n c _ _ hn ha).mono ?_
  rintro e w' ⟨hva, rfl, rfl, hsa⟩
  cases hva
  case true =>
    clear hsa
    go_wp2
    go_ret
    exact ⟨rfl, Ch.refl _ _⟩
  have HSA := Lib.hid (hsa rfl)
  clear hsa
  go_wp2_with fail
  refine (heavy_any b B m d _ _ hm hb).mono ?_
  rintro e w' ⟨hvb, rfl, rfl, hsb⟩
  cases hvb
  case true =>
    clear hsb
    go_wp2
    go_ret
    exact ⟨rfl, Ch.refl _ _⟩
  have hsa := HSA.out
  have hsb := hsb rfl
  have hla := ha.len
  have hlb := hb.len
  unfold Slim at hsa hsb
  have hab : (cat (a ++ b)).length ≤ 8000 := by rw [cat_app, List.length_append]; omega
  have hn' : n ≤ 1333 := by omega
  have hm' : m ≤ 1333 := by omega
  have hca : (cat a).length ≤ 4000 := by omega
  have hcb : (cat b).length ≤ 4000 := by omega
  have HLA := Lib.hid hla
  have HLB := Lib.hid hlb
  clear hsa hsb hla hlb HSA hn hm
  obtain ⟨usA, hva, hra⟩ := ha
  obtain ⟨usB, hvb, hrb⟩ := hb
  have hC0 : Ch (fun _ => False) w (w.alloc (.cells #[] 23)) := (Ch.refl _ _).alloc _
  have hvb0 := hvb.ch hC0 (fun _ _ _ h => h)
  go_wp2_with (at_builtin; refine wp_app rfl (.tmp 15) (.tmp 16) Tr rfl rfl (own_empty _ _) rfl (hva.ch hC0 (fun _ _ _ h => h)) ?c1 ?c2 ?c3 ?_)
  case c1 => exact rows_cells hra
  case c2 => omega
  case c3 => omega
  intro v1 w1 ho1 hg1 hb1
  have hC1 : Ch (fun _ => False) w w1 := hC0.grown hg1 fun k hk => by
    right
    simp [Value.ownBlock] at hk
    omega
  have hvb1 := hvb.ch hC1 (fun _ _ _ h => h)
  obtain ⟨A1, c1, rfl, _, _⟩ := own_shape ho1
  go_wp2_with (at_builtin; refine wp_app rfl (.tmp 17) (.tmp 18) Tr rfl rfl ho1 rfl hvb1 ?c1 ?c2 ?c3 ?_)
  case c1 => exact rows_cells hrb
  case c2 => omega
  case c3 => omega
  intro v2 w2 ho2 hg2 hb2
  have hC2 : Ch (fun _ => False) w w2 := hC1.grown hg2 fun k hk => by
    right
    rcases hb1 with h1 | h1 <;> (rw [h1] at hk; simp [Value.ownBlock] at hk; omega)
  obtain ⟨A2, c2, rfl, _, _⟩ := own_shape ho2
  have hSA : Sls w2 (fun b => b < w2.heap.size) A n a := Sls.lt ⟨usA, hva.ch hC2 (fun _ _ _ h => h), hra.ch hC2 (fun _ _ _ h => h)⟩
  have hSB : Sls w2 (fun b => b < w2.heap.size) B m b := Sls.lt ⟨usB, hvb.ch hC2 (fun _ _ _ h => h), hrb.ch hC2 (fun _ _ _ h => h)⟩
  have hSL : Sls w2 (fun b => b < w2.heap.size) A2 (n + m) (a ++ b) :=
    ⟨usA ++ usB, Vs.mono (Vs.of_own ho2) (fun b h _ => h), Rows.app ((hra.ch hC2 (fun _ _ _ h => h)).mono fun b h _ => h) ((hrb.ch hC2 (fun _ _ _ h => h)).mono fun b h _ => h)⟩
  have HC2 := Lib.hid hC2
  have HSA := Lib.hid hSA
  have HSB := Lib.hid hSB
  have HSL := Lib.hid hSL
  clear hC0 hC1 hC2 hvb0 hvb1 hva hvb hra hrb ho1 ho2 hg1 hg2 hb1 hb2 hSA hSB hSL
  go_wp2_with fail
  refine (join_any a A n c w2 _ (by omega) HSA.out (by omega)).mono ?_
  rintro e w3 ⟨v3, rfl, hf3⟩
  obtain ⟨A3, c3, rfl, hl3, hm3⟩ := own_shape hf3.1
  go_wp2_with fail
  refine (join_any b B m d w3 _ (by omega) (HSB.out.ch hf3.2.2 (fun _ _ _ h => h)) (by omega)).mono ?_
  rintro e w4 ⟨v4, rfl, hf4⟩
  obtain ⟨A4, c4, rfl, hl4, hm4⟩ := own_shape hf4.1
  go_wp2_with fail
  have hj2 : Sls (w4.alloc (.cells #[.slice A3 (cat a).length c3, .slice A4 (cat b).length c4] 23)) (fun _ => True) (some ⟨w4.heap.size, 0, none⟩) 2 [cat a, cat b] :=
    Sls.two (F := fun _ => True) _ (Sl.ch ((Sl.of_own hf3.1).mono fun _ _ _ => trivial) hf4.2.2 (fun _ _ _ h => h)) hl3 hm3 ((Sl.of_own hf4.1).mono fun _ _ _ => trivial) hl4 hm4 (fun _ _ _ => trivial) trivial
  have ecat : cat [cat a, cat b] = cat (a ++ b) := by rw [cat_app]; simp [cat]
  refine (join_any [cat a, cat b] _ 2 2 _ _ (by omega) hj2 (by rw [ecat]; omega)).mono ?_
  rintro e w5 ⟨v5, rfl, hf5⟩
  rw [ecat] at hf5
  obtain ⟨A5, c5, rfl, hl5, hm5⟩ := own_shape hf5.1
  have hD5 : Ch (fun k => w2.heap.size ≤ k) w2 w5 := (((hf3.2.2.trans hf4.2.2 (fun _ _ h => h)).alloc _).trans hf5.2.2 (fun _ _ h => h)).mono (fun _ _ h => h.elim)
  have hB5 : ∀ g, (Value.slice A5 (cat (a ++ b)).length c5).ownBlock = some g → w2.heap.size ≤ g := fun g hg => by
    have h1 := hf5.2.1 g hg
    have h2 := (hf3.2.2.trans hf4.2.2 (fun _ _ h => h)).size
    simp at h1
    omega
  have hO5 := hf5.1
  have HD5 := Lib.hid hD5
  have HB5 := Lib.hid hB5
  clear hf3 hf4 hf5 hj2 hD5 hB5 hl3 hm3 hl4 hm4 ecat
  go_wp2_with fail
  have hnb : ∀ b, b < w2.heap.size → b < w2.heap.size → ¬ w2.heap.size ≤ b := fun b _ h => by omega
  refine (join_any (a ++ b) A2 (n + m) c2 w5 _ (by omega) (HSL.out.ch HD5.out hnb) (by omega)).mono ?_
  rintro e w6 ⟨v6, rfl, hf6⟩
  obtain ⟨A6, c6, rfl, hl6, hm6⟩ := own_shape hf6.1
  go_wp2_with fail
  refine (same_any A5 A6 _ _ c5 c6 (cat (a ++ b)) (cat (a ++ b)) _ _ w6 (by omega) (by omega) ((Sl.of_own hO5).ch hf6.2.2 (fun _ _ _ h => h)) (Sl.of_own hf6.1)).mono ?_
  rintro e w7 ⟨rfl, k7, ew7⟩
  have hC67 : Ch (fun _ => False) w5 w7 := by
    rw [ew7]
    exact hf6.2.2.drewN _
  have hO7 := hC67.own hO5 (fun _ _ h => h)
  have hD7 : Ch (fun k => w2.heap.size ≤ k) w2 w7 := HD5.out.trans hC67 (fun _ _ h => h.elim)
  have HD7 := Lib.hid hD7
  clear hf6 hO5 hC67 ew7 hD7 HD5
  go_wp2_with fail
  have hT2 : Tab w2 := HT.out.ch HC2.out (fun h => h)
  have hT7 : Tab w7 := hT2.ch HD7.out (fun h => by have := lt_of_cell (hT2 0 (by omega)); exact absurd h (by omega))
  have hBy : ∀ xs ∈ a ++ b, Byt xs := fun xs hx => by
    rcases List.mem_append.1 hx with h | h
    · exact HA.out xs h
    · exact HB.out xs h
  have HT7 := Lib.hid hT7
  have HBy := Lib.hid hBy
  clear hT2 hT7 hBy
  refine (sum_any (a ++ b) A2 (n + m) c2 w7 _ (by omega) HT7.out (HSL.out.ch HD7.out hnb) (by omega) HBy.out).mono ?_
  rintro e w' ⟨rfl, rfl⟩
  go_wp2_with fail
  have hj : Sls (w7.alloc (.cells #[.slice A5 (cat (a ++ b)).length c5] 23)) (fun _ => True) (some ⟨w7.heap.size, 0, none⟩) 1 [cat (a ++ b)] :=
    Sls.one _ (Sl.of_own hO7) hl5 hm5 (fun _ _ _ => trivial) trivial
  have ecat1 : cat [cat (a ++ b)] = cat (a ++ b) := by simp [cat]
  refine (sum_any [cat (a ++ b)] _ 1 1 _ _ (by omega) (HT7.out.ch ((Ch.refl (fun _ => False) _).alloc _) (fun h => h)) hj (by rw [ecat1]; omega) (by
    intro xs hx
    rw [List.mem_singleton] at hx
    subst hx
    exact Byt.cat_ HBy.out)).mono ?_
  rintro e w8 ⟨he, ew8⟩
  rw [ecat1] at he
  subst he
  have hC78 : Ch (fun _ => False) w7 w8 := by
    rw [← ew8]
    exact (Ch.refl _ _).alloc _
  have hO8 := hC78.own hO7 (fun _ _ h => h)
  have hD8 : Ch (fun k => w2.heap.size ≤ k) w2 w8 := HD7.out.trans hC78 (fun _ _ h => h.elim)
  have HD8 := Lib.hid hD8
  clear hj ecat1 ew8 hC78 hO7 HD7 hD8 HT7
  have hS8 := HSL.out.ch HD8.out hnb
  go_wp2
  go_loop [7, 8] (fun t i => ∃ k : Nat, k ≤ n + m ∧ i = .int .i64 k ∧ t = .int .i64 ((cat ((a ++ b).take k)).length : Nat)) (fun _ i => n + m - (intOf i).toNat)
  case atStart => exact ⟨0, Nat.zero_le _, rfl, rfl⟩
  case round =>
    obtain ⟨k, hk, rfl, rfl⟩ := hrel
    by_cases hlt : k < n + m
    · obtain ⟨b', off, A', c', row, rfl, hFb, ex, hc, hsl, _, hcm⟩ := hS8.at_ hlt
      have hroom := cat_room ex.out
      have hmore := cat_more ex.out
      have HM := Lib.hid hmore
      clear hmore
      go_wp2
      go_round
      case rel => exact ⟨k + 1, by omega, by go_num, by rw [HM.out, List.length_append]; go_num⟩
      case measure => simp [intOf]; omega
    · obtain rfl : k = n + m := by omega
      have hall : (a ++ b).take (n + m) = a ++ b := List.take_of_length_le (by rw [List.length_append, HLA.out, HLB.out]; omega)
      rw [hall]
      clear hall hlt hk
      go_wp2_with fail
      refine (spoil_any _ _ _ w8 (by omega) hO8).mono ?_
      rintro e w9 ⟨rfl, hc9⟩
      have hD9 : Ch (fun k => w2.heap.size ≤ k) w2 w9 := HD8.out.trans hc9 fun i _ h => HB5.out i h
      have HD9 := Lib.hid hD9
      clear hc9 hD9 hO8 HD8 HB5
      go_wp2_with fail
      refine (join_any (a ++ b) A2 (n + m) c2 w9 _ (by omega) (HSL.out.ch HD9.out hnb) (by omega)).mono ?_
      rintro e w10 ⟨v10, rfl, hf10⟩
      obtain ⟨A10, c10, rfl, hl10, hm10⟩ := own_shape hf10.1
      have hD10 : Ch (fun k => w2.heap.size ≤ k) w2 w10 := HD9.out.trans hf10.2.2 (fun _ _ h => h.elim)
      have HD10 := Lib.hid hD10
      clear hD10
      go_wp2_with fail
      refine (join_any a A n c w10 _ (by omega) (HSA.out.ch HD10.out hnb) (by omega)).mono ?_
      rintro e w11 ⟨v11, rfl, hf11⟩
      obtain ⟨A11, c11, rfl, hl11, hm11⟩ := own_shape hf11.1
      have hD11 : Ch (fun k => w2.heap.size ≤ k) w2 w11 := HD10.out.trans hf11.2.2 (fun _ _ h => h.elim)
      have HD11 := Lib.hid hD11
      clear hD11
      go_wp2_with fail
      refine (join_any b B m d w11 _ (by omega) (HSB.out.ch HD11.out hnb) (by omega)).mono ?_
      rintro e w12 ⟨v12, rfl, hf12⟩
      obtain ⟨A12, c12, rfl, hl12, hm12⟩ := own_shape hf12.1
      have hD12 : Ch (fun k => w2.heap.size ≤ k) w2 w12 := HD11.out.trans hf12.2.2 (fun _ _ h => h.elim)
      have HD12 := Lib.hid hD12
      clear hD12
      go_wp2_with fail
      have hj2 : Sls (w12.alloc (.cells #[.slice A11 (cat a).length c11, .slice A12 (cat b).length c12] 23)) (fun _ => True) (some ⟨w12.heap.size, 0, none⟩) 2 [cat a, cat b] :=
        Sls.two (F := fun _ => True) _ (Sl.ch ((Sl.of_own hf11.1).mono fun _ _ _ => trivial) hf12.2.2 (fun _ _ _ h => h)) hl11 hm11 ((Sl.of_own hf12.1).mono fun _ _ _ => trivial) hl12 hm12 (fun _ _ _ => trivial) trivial
      have ecat : cat [cat a, cat b] = cat (a ++ b) := by rw [cat_app]; simp [cat]
      refine (join_any [cat a, cat b] _ 2 2 _ _ (by omega) hj2 (by rw [ecat]; omega)).mono ?_
      rintro e w13 ⟨v13, rfl, hf13⟩
      rw [ecat] at hf13
      clear hj2 ecat
      obtain ⟨A13, c13, rfl, hl13, hm13⟩ := own_shape hf13.1
      have hC1013 : Ch (fun _ => False) w10 w13 := ((hf11.2.2.trans hf12.2.2 (fun _ _ h => h)).alloc _).trans hf13.2.2 (fun _ _ h => h)
      have hD13 : Ch (fun k => w2.heap.size ≤ k) w2 w13 := HD10.out.trans hC1013 (fun _ _ h => h.elim)
      have HD13 := Lib.hid hD13
      have hs10 := (Sl.of_own hf10.1).ch hC1013 (fun _ _ _ h => h)
      have hs13 := Sl.of_own hf13.1
      clear hD13 hC1013 hf10 hf11 hf12 hf13
      go_wp2_with fail
      refine (same_any A10 A13 _ _ c10 c13 (cat (a ++ b)) (cat (a ++ b)) _ _ w13 (by omega) (by omega) hs10 hs13).mono ?_
      rintro e w14 ⟨rfl, k14, ew14⟩
      have hD14 : Ch (fun k => w2.heap.size ≤ k) w2 w14 := by
        rw [ew14]
        exact HD13.out.drewN _
      have HD14 := Lib.hid hD14
      clear hD14 ew14
      go_wp2_with fail
      have hT2 : Tab w2 := HT.out.ch HC2.out (fun h => h)
      refine (known_any _ (hT2.ch HD14.out (fun h => by have := lt_of_cell (hT2 0 (by omega)); exact absurd h (by omega)))).mono ?_
      rintro e w15 ⟨rfl, hc15⟩
      have hF : Ch (fun _ => False) w w15 := (HC2.out.trans HD14.out (fun i hi h => by have := HC2.out.size; omega)).trans hc15 (fun _ _ h => h)
      clear hc15 hT2
      go_wp2
      go_ret
      exact ⟨rfl, hF⟩
end Go.Proofs.YtppplchllnalpaaDoor
