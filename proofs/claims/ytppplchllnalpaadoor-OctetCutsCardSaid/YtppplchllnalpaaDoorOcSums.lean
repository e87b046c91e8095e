/-
  The walk of haystacklaw1.OctetSums.
-/
import Derived.Test.YtppplchllnalpaaDoorOcRefSum
import Derived.Test.YtppplchllnalpaaDoorOcHeavy
import Derived.Test.YtppplchllnalpaaDoorOcKnown
namespace Go.Proofs.YtppplchllnalpaaDoor
open Go.RowKit Go.Oct

theorem i64_mask (z : Int) : ∃ q : Nat, bits .and .i64 z 1073741823 = (q : Int) ∧ q ≤ 1073741823 := by
  refine ⟨(BitVec.ofInt 64 z &&& BitVec.ofInt 64 1073741823).toNat, ?_, ?_⟩
  · have hle : (BitVec.ofInt 64 z &&& BitVec.ofInt 64 1073741823).toNat ≤ 1073741823 := by
      rw [BitVec.toNat_and]
      exact Nat.le_trans Nat.and_le_right (by decide)
    show IntKind.i64.wrap ((BitVec.ofInt 64 z &&& BitVec.ofInt 64 1073741823).toNat : Int) = _
    rw [IntKind.wrap_i64]
    omega
  · rw [BitVec.toNat_and]
    exact Nat.le_trans Nat.and_le_right (by decide)
theorem u8_xor (a b : Nat) (ha : a < 256) (hb : b < 256) : bits .xor .u8 (a : Int) (b : Int) = ((a ^^^ b : Nat) : Int) := by
  have hx : a ^^^ b < 256 := Nat.xor_lt_two_pow (n := 8) ha hb
  show IntKind.u8.wrap ((BitVec.ofInt 8 (a : Int) ^^^ BitVec.ofInt 8 (b : Int)).toNat : Int) = _
  rw [BitVec.toNat_xor, BitVec.ofInt_natCast, BitVec.ofInt_natCast, BitVec.toNat_ofNat, BitVec.toNat_ofNat, Nat.mod_eq_of_lt (by omega), Nat.mod_eq_of_lt (by omega), IntKind.wrap_u8]
  omega

set_option maxHeartbeats 2000000 in
set_option maxRecDepth 100000 in
theorem sums_any (l : List (List Int)) (A : Option Addr) (n c : Nat) (z by_ : Int) (w : World) (ht : Tab w) (hn : n ≤ 9223372036854775807) (htl : ∀ xs ∈ l, Byt xs) (hl : Sls w (fun _ => True) A n l) (hy0 : 0 ≤ by_ ∧ by_ < 256) :
    Calls Tryd.prog 6 #[.slice A n c, .int .i64 z, .int .u8 by_] w fun e w' => e = .returned (.bool true) ∧ Ch (fun _ => False) w w' := by
  have HT := Lib.hid ht
  have HA := Lib.hid htl
  clear ht htl
  go_enter Tryd.func6, Tryd.ntmps6
  go_wp2_with fail
  refine (heavy_any l A n c _ _ hn hl).mono ?_
  rintro e w' ⟨hv, rfl, rfl, hs⟩
  cases hv
  case true =>
    clear hs
    go_wp2
    go_ret
    exact ⟨rfl, Ch.refl _ _⟩
  have hs := hs rfl
  unfold Slim at hs
  rw [hl.len] at hs
  obtain ⟨L, eL⟩ : ∃ L, L = cat l := ⟨_, rfl⟩
  have hL4 : L.length ≤ 4000 := by rw [eL]; omega
  have hn1 : n ≤ 1333 := by omega
  have hbL : Byt L := by rw [eL]; exact Byt.cat_ HA.out
  have EL := Lib.hid eL
  have HBL := Lib.hid hbL
  clear hs eL hbL hn
  go_wp2_with fail
  refine (join_any l A n c w _ (by omega) hl (by rw [← EL.out]; omega)).mono ?_
  rintro e w1 ⟨v1, rfl, hf1⟩
  rw [← EL.out] at hf1
  obtain ⟨A1, c1, rfl, hl1, hm1⟩ := own_shape hf1.1
  have hz1 := hl.ch hf1.2.2 (fun _ _ _ h => h)
  go_wp2_with fail
  go_loopw [8, 9] (fun v i wr => ∃ k : Nat, k ≤ n ∧ i = .int .i64 k ∧ Fresh w1 v (cat (l.take k)) wr) (fun _ i _ => n - (intOf i).toNat)
  case atStart => exact ⟨0, Nat.zero_le _, rfl, World.ownsRow_nil _ _ _ _, fun g hg => by simp [Value.ownBlock] at hg, Ch.refl _ _⟩
  case round =>
    obtain ⟨k, hk, rfl, hfr⟩ := hrel
    by_cases hlt : k < n
    · obtain ⟨ys, eys⟩ : ∃ ys, ys = cat (l.take k) := ⟨_, rfl⟩
      rw [← eys] at hfr
      obtain ⟨A', c', rfl, _, _⟩ := own_shape hfr.1
      obtain ⟨b, off, A3, c3, row, rfl, hFb, ex, hcw, hsl, _, hcm⟩ := hz1.at_ hlt
      have hc := hfr.2.2.cell (fun h => h) hcw
      have hsl1 := hsl.ch hfr.2.2 (fun _ _ _ h => h)
      have hroom := cat_room ex.out
      rw [← eys, ← EL.out] at hroom
      have EY := Lib.hid eys
      clear hcw eys
      go_wp2_with (at_builtin; refine wp_app rfl (.tmp 21) (.tmp 25) Tb rfl rfl hfr.1 rfl hsl1 ?c1 ?c2 ?c3 ?_)
      case c1 => exact ints_cells _ _
      case c2 => omega
      case c3 => omega
      intro v'' w2 hown2 hg2 hb2
      have hfr2 := hfr.app hg2 hown2 hb2
      rw [EY.out, ← cat_more ex.out] at hfr2
      clear hown2 hg2 hb2
      go_wp2
      go_roundw
      case rel => exact ⟨k + 1, by omega, by go_num, hfr2⟩
      case measure => simp [intOf]; omega
    · obtain rfl : k = n := by omega
      rw [List.take_of_length_le (by rw [hl.len]; omega), ← EL.out] at hfr
      obtain ⟨A', c', rfl, hl', hm'⟩ := own_shape hfr.1
      have hC : Ch (fun _ => False) w wr := hf1.2.2.trans hfr.2.2 (fun _ _ h => h)
      have HC := Lib.hid hC
      clear hC
      go_wp2_with fail
      refine (sum_any l A k c wr _ (by omega) (HT.out.ch HC.out fun h => h) (hl.ch HC.out (fun _ _ _ h => h)) (by rw [← EL.out]; omega) HA.out).mono ?_
      rintro e w' ⟨rfl, rfl⟩
      rw [← EL.out]
      go_wp2_with fail
      refine (same_any A1 A' _ _ c1 c' L L _ _ wr (by omega) (by omega) ((Sl.of_own hf1.1).ch hfr.2.2 (fun _ _ _ h => h)) (Sl.of_own hfr.1)).mono ?_
      rintro e w3 ⟨rfl, k3, ew3⟩
      have hC3 : Ch (fun _ => False) wr w3 := by
        rw [ew3]
        exact (Ch.refl _ _).drewN _
      have ho3 := hC3.own hfr.1 (fun _ _ h => h)
      have hB3 := hfr.2.1
      have hs1 := hf1.2.2.size
      have hC4 : Ch (fun _ => False) w w3 := HC.out.trans hC3 (fun _ _ h => h)
      have HC4 := Lib.hid hC4
      have HB3 := Lib.hid hB3
      clear hC3 ew3 hC4 hB3 hf1 hfr HC
      go_wp2_with fail
      refine (refsum_any L A' _ c' w3 _ (by omega) (Sl.of_own ho3) HBL.out).mono ?_
      rintro e w' ⟨rfl, rfl⟩
      go_wp2_with fail
      have e1 : cat [L] = L := by simp [cat]
      refine (sum_any [L] _ 1 1 _ (fun _ => True) (by omega) ((HT.out.ch HC4.out fun h => h).ch ((Ch.refl (fun _ => False) _).alloc _) fun h => h) (Sls.one _ (Sl.of_own ho3) hl' hm' (fun _ _ _ => trivial) trivial) (by rw [e1]; omega) (by
        intro xs hx
        rw [List.mem_singleton] at hx
        subst hx
        exact HBL.out)).mono ?_
      rintro e w4 ⟨he, ew4⟩
      rw [e1] at he
      subst he
      have hC34 : Ch (fun _ => False) w3 w4 := by
        rw [← ew4]
        exact (Ch.refl _ _).alloc _
      have ho4 := hC34.own ho3 (fun _ _ h => h)
      have hC5 : Ch (fun _ => False) w w4 := HC4.out.trans hC34 (fun _ _ h => h)
      have HC5 := Lib.hid hC5
      clear hC34 ew4 ho3 hC5 HC4
      by_cases hpos : 0 < L.length
      · by_cases hby : by_ = 0
        · have hbb : (by_ != 0) = false := by rw [hby]; rfl
          clear hby
          go_wp2_with fail
          refine (known_any _ (HT.out.ch HC5.out fun h => h)).mono ?_
          rintro e w5 ⟨rfl, hc5⟩
          have hF := HC5.out.trans hc5 fun _ _ h => h
          clear hc5
          go_wp2
          go_ret
          exact ⟨rfl, hF⟩
        · have hbb : (by_ != 0) = true := by rw [bne_iff_ne]; exact hby
          obtain ⟨b, rfl⟩ := Int.cast_of hy0.1
          obtain ⟨q, hq1, hq2⟩ := i64_mask z
          obtain ⟨g, c5, e5, _, hg⟩ := ho4.form hpos
          injection e5 with e5 _ e6
          subst e5 e6
          have hidx : q % L.length < L.length := Nat.mod_lt _ hpos
          have hx := HBL.out.at_ (List.getElem?_eq_getElem hidx)
          obtain ⟨x, hxx⟩ := Int.cast_of hx.1
          have hcell := ho4.cellAt (q % L.length) (by omega)
          rw [List.getElem?_map, List.getElem?_eq_getElem hidx, hxx] at hcell
          simp only [Option.map_some] at hcell
          have hfz := ho4.frozenAt (q % L.length)
          obtain ⟨y, ey⟩ : ∃ y, y = x ^^^ b := ⟨_, rfl⟩
          have hxl : x < 256 := by omega
          have hbl : b < 256 := by omega
          have hxor : bits .xor .u8 (x : Int) (b : Int) = (y : Int) := by rw [ey]; exact u8_xor x b hxl hbl
          have hyl : y < 256 := by rw [ey]; exact Nat.xor_lt_two_pow (n := 8) hxl hbl
          have hne : x ≠ y := by
            intro h
            rw [ey] at h
            have h2 : x ^^^ 0 = x ^^^ b := by rw [Nat.xor_zero]; exact h
            have := xor_cancel_left h2
            omega
          obtain ⟨L', eL'⟩ : ∃ L', L' = L.set (q % L.length) (y : Int) := ⟨_, rfl⟩
          have hother : sumN L' ≠ sumN L := by
            rw [eL']
            exact sumN_other HBL.out (by rw [List.getElem?_eq_getElem hidx, hxx]) hyl hne
          have hby' : Byt L' := by
            rw [eL']
            intro t ht
            rcases List.mem_or_eq_of_mem_set ht with h3 | h3
            · exact HBL.out t h3
            · subst h3; omega
          have hlen' : L'.length = L.length := by rw [eL', List.length_set]
          have hst := (ho4.stored (q % L.length) (.int .u8 (y : Int))).1
          rw [show (L.map (Value.int .u8)).set (q % L.length) (.int .u8 (y : Int)) = L'.map (Value.int .u8) by rw [eL', List.map_set]] at hst
          have hg2 := HB3.out g (by rfl)
          have hC6 : Ch (fun _ => False) w (w4.setCell ⟨g, q % L.length, none⟩ (.int .u8 (y : Int))) := HC5.out.setCell (p := ⟨g, q % L.length, none⟩) (.inr (by show w.heap.size ≤ g; omega)) _
          have hsb : (((sumN L' : Nat) : Int) == ((sumN L : Nat) : Int)) = false := by rw [beq_eq_false_iff_ne]; omega
          have HST := Lib.hid hst
          have HC6 := Lib.hid hC6
          have HBY := Lib.hid hby'
          have HLEN := Lib.hid hlen'
          have HSB := Lib.hid hsb
          clear hby hst hC6 hby' hlen' ey eL' hother hne hxx hx hsb HC5 ho4
          go_wp2_with fail
          have e1 : cat [L'] = L' := by simp [cat]
          have hs1 : Sl (w4.setCell ⟨g, q % L.length, none⟩ (.int .u8 (y : Int))) (fun _ => True) .u8 (some ⟨g, 0, none⟩) L'.length L' := by
            rw [HLEN.out]
            exact Sl.mono (Sl.of_own HST.out) fun _ _ _ => trivial
          have hs2 := Sls.one (G := fun _ => True) 23 hs1 (c := c') (by rw [HLEN.out]; exact hl') hm' (fun _ _ _ => trivial) trivial
          rw [HLEN.out] at hs2
          simp only [World.size_setCell] at hs2
          refine (sum_any [L'] _ 1 1 _ (fun _ => True) (by omega) ((HT.out.ch HC6.out fun h => h).ch ((Ch.refl (fun _ => False) _).alloc _) fun h => h) hs2 (by rw [e1, HLEN.out]; omega) (by
            intro xs hx
            rw [List.mem_singleton] at hx
            subst hx
            exact HBY.out)).mono ?_
          rintro e w6 ⟨he, ew6⟩
          rw [e1] at he
          subst he
          have hC7 : Ch (fun _ => False) w w6 := by
            rw [← ew6]
            exact HC6.out.alloc _
          have HC5 := Lib.hid hC7
          have hsb := HSB.out
          clear hs1 hs2 ew6 hC7
          go_wp2_with fail
          refine (known_any _ (HT.out.ch HC5.out fun h => h)).mono ?_
          rintro e w7 ⟨rfl, hc7⟩
          have hF := HC5.out.trans hc7 fun _ _ h => h
          clear hc7
          go_wp2
          go_ret
          exact ⟨rfl, hF⟩
      · go_wp2_with fail
        refine (known_any _ (HT.out.ch HC5.out fun h => h)).mono ?_
        rintro e w5 ⟨rfl, hc5⟩
        have hF := HC5.out.trans hc5 fun _ _ h => h
        clear hc5
        go_wp2
        go_ret
        exact ⟨rfl, hF⟩
end Go.Proofs.YtppplchllnalpaaDoor
