/-
  The walk of haystacklaw1.OctetCuts.
-/
import Derived.Test.YtppplchllnalpaaDoorOcCutMath
import Derived.Test.YtppplchllnalpaaDoorOcRef
import Derived.Test.YtppplchllnalpaaDoorOcReader2
import Derived.Test.YtppplchllnalpaaDoorOcHeavy
import Derived.Test.YtppplchllnalpaaDoorOcKnown
import Derived.Test.YtppplchllnalpaaDoorOcSums
namespace Go.Proofs.YtppplchllnalpaaDoor
open Go.RowKit Go.Oct

theorem Ti : Elem Tryd.prog 22 3 (.int .i64 0) 8 := ⟨Tryd.underlying22, by kernel_rfl, rfl⟩
/-- Rows of different element types lie in different blocks. -/
theorem own_apart {w : World} {e f : TypeId} {n m : Nat} {v u : Value} {xs ys : List Value} (h : w.ownsRow 0 e 1 v n xs) (k : w.ownsRow 0 f 1 u m ys) (hne : e ≠ f) : ∀ g, v.ownBlock = some g → ¬ u.ownBlock = some g := by
  intro g hg hu
  rcases h.2 with ⟨rfl, _⟩ | ⟨g1, _, _, rfl, _, h1, _⟩
  · simp [Value.ownBlock] at hg
  · rcases k.2 with ⟨rfl, _⟩ | ⟨g2, _, _, rfl, _, h2, _⟩
    · simp [Value.ownBlock] at hu
    · simp only [Value.ownBlock, Option.some.injEq] at hg hu
      subst hg hu
      rw [h1] at h2
      injection h2 with h2
      injection h2 with _ h2
      exact hne h2
/-- A row of the call's own of any integers. -/
def FreshI (w : World) (v : Value) (xs : List Int) (w' : World) : Prop :=
  w'.ownsRow 0 3 1 v xs.length (xs.map (Value.int .i64)) ∧ ∀ g, v.ownBlock = some g → w.heap.size ≤ g
theorem own_kept {w w1 : World} {e f : TypeId} {n m : Nat} {v u : Value} {xs ys : List Value} (h : w.ownsRow 0 e 1 v n xs) (k : w.ownsRow 0 f 1 u m ys) (hne : e ≠ f) (hg : w.grownBy w1 u.ownBlock) : w1.ownsRow 0 e 1 v n xs :=
  Ch.own ((Ch.refl (fun b => u.ownBlock = some b) w).grown hg fun _ hb => .inl hb) h (own_apart h k hne)

def CutRel (l : List (List Int)) (n cut br k : Nat) (wr : World) : Prop :=
  ((pre l k).length ≤ cut ∧ Rd wr br false (rest l n cut k)) ∨ (cut < (pre l k).length ∧ Rd wr br true [])
theorem pre_mono {l : List (List Int)} {k : Nat} {x : List Int} (h : l[k]? = some x) : (pre l k).length < (pre l (k + 1)).length := by
  rw [pre_more h, List.length_append]
  have := rowB_pos x
  omega

theorem rest_len {l : List (List Int)} {n cut k : Nat} (h : (pre l n).length ≤ 20000) : (rest l n cut k).length ≤ 20000 := by
  unfold rest
  rw [List.length_drop, List.length_take]
  omega
theorem cut_yes {l : List (List Int)} {n cut br k : Nat} {x : List Int} {w : World} (hn : l.length = n) (ex : l[k]? = some x) (hx : x.length ≤ 4000) (hp : (pre l n).length ≤ 20000) (hc : (pre l (k + 1)).length ≤ cut) (h : CutRel l n cut br k w) :
    Calls Tryd.prog 27 #[.pointer (some ⟨br, 0, none⟩)] w fun e w' => ∃ v, e = .returned v ∧ Row w v x w' ∧ CutRel l n cut br (k + 1) w' ∧ Rd w' br false (rest l n cut (k + 1)) ∧ Ch (RS br) w w' := by
  have hm := pre_mono ex
  rcases h with ⟨h0, hr⟩ | ⟨h0, _⟩
  · refine (rbytes_any br false _ w hr (by have := rest_len (cut := cut) (k := k) hp; omega)).mono fun e w' h => ?_
    unfold RowPost at h
    rw [rest_whole hn ex hx hc] at h
    simp only [List.length_append, if_neg (show ¬ x.length + (rest l n cut (k + 1)).length < x.length by omega)] at h
    obtain ⟨v, he, h1, h2, h3⟩ := h
    rw [List.take_append_of_le_length (Nat.le_refl _), List.take_length] at h1
    rw [List.drop_append_of_le_length (Nat.le_refl _), List.drop_length, List.nil_append] at h2
    exact ⟨v, he, h1, .inl ⟨hc, h2⟩, h2, h3⟩
  · omega
theorem cut_no {l : List (List Int)} {n cut br k : Nat} {x : List Int} {w : World} (hn : l.length = n) (ex : l[k]? = some x) (hx : x.length ≤ 4000) (hp : (pre l n).length ≤ 20000) (hc : cut < (pre l (k + 1)).length) (h : CutRel l n cut br k w) :
    Calls Tryd.prog 27 #[.pointer (some ⟨br, 0, none⟩)] w fun e w' => e = .returned (.slice none 0 0) ∧ Rd w' br true [] ∧ Ch (RS br) w w' := by
  rcases h with ⟨h0, hr⟩ | ⟨h0, hr⟩
  · refine (rbytes_any br false _ w hr (by have := rest_len (cut := cut) (k := k) hp; omega)).mono fun e w' h => ?_
    unfold RowPost at h
    rcases rest_short hn ex hx h0 hc with h1 | ⟨r, h1, h2⟩
    · rw [h1] at h
      exact h
    · rw [h1] at h
      simp only [if_pos h2] at h
      exact h
  · exact (rbytes_any br true _ w hr (by simp)).mono fun e w' h => h

set_option maxHeartbeats 4000000 in
set_option maxRecDepth 100000 in
theorem cuts_any (l : List (List Int)) (A : Option Addr) (n c : Nat) (z : Int) (w : World) (ht : Tab w) (hn : n ≤ 9223372036854775807) (hl : Sls w (fun _ => True) A n l) (htl : ∀ xs ∈ l, Byt xs) :
    Calls Tryd.prog 8 #[.slice A n c, .int .i64 z] w fun e w' => e = .returned (.bool true) ∧ Ch (fun _ => False) w w' := by
  have HT := Lib.hid ht
  have HA := Lib.hid htl
  clear ht htl
  go_enter Tryd.func8, Tryd.ntmps8
  go_wp2_with fail
  refine (heavy_any l A n c _ _ hn hl).mono ?_
  rintro e w' ⟨hv, rfl, rfl, hs⟩
  cases hv
  case true =>
    clear hs
    go_wp2
    go_ret
    exact ⟨rfl, Ch.refl _ _⟩
  have hs := hs rfl
  by_cases hn0 : n = 0
  · have hb : ((n : Int) == 0) = true := by rw [hn0]; rfl
    clear hs hn0
    go_wp2
    go_ret
    exact ⟨rfl, Ch.refl _ _⟩
  have hb : ((n : Int) == 0) = false := by rw [beq_eq_false_iff_ne]; omega
  unfold Slim at hs
  rw [hl.len] at hs
  have hx4 : ∀ x ∈ l, x.length ≤ 4000 := by
    intro x hx
    obtain ⟨i, hi⟩ := List.getElem?_of_mem hx
    have := cat_room hi
    omega
  have hpre : ∀ k, k ≤ n → (pre l k).length ≤ 20000 := by
    intro k hk
    rcases pre_len (l := l) k with h | ⟨x, h1, h2⟩
    · have := cat_take l k
      omega
    · have := hx4 x h1
      omega
  have hn1 : n ≤ 1333 := by omega
  have HX := Lib.hid hx4
  have HP := Lib.hid hpre
  clear hs hn hx4 hpre
  go_wp2_with fail
  go_loopw [5, 6, 7] (fun v u i wr => ∃ k : Nat, k ≤ n ∧ i = .int .i64 k ∧ Fresh w v (pre l k) wr ∧ FreshI w u (ends l k) wr) (fun _ _ i _ => n - (intOf i).toNat)
  case atStart => exact ⟨0, Nat.zero_le _, rfl, fresh_nil w, World.ownsRow_nil _ _ _ _, fun g hg => by simp [Value.ownBlock] at hg⟩
  case round =>
    obtain ⟨k, hk, rfl, hfr, hfi⟩ := hrel
    by_cases hlt : k < n
    · obtain ⟨ys, eys⟩ : ∃ ys, ys = pre l k := ⟨_, rfl⟩
      obtain ⟨es, ees⟩ : ∃ es, es = ends l k := ⟨_, rfl⟩
      have hyl : ys.length ≤ 20000 := by rw [eys]; exact HP.out k hk
      have hel : es.length = k := by rw [ees, ends_len]
      rw [← eys] at hfr
      rw [← ees] at hfi
      obtain ⟨A', c', rfl, _, _⟩ := own_shape hfr.1
      obtain ⟨B', d', rfl, _, _⟩ := own_shape hfi.1
      obtain ⟨b, off, A3, c3, row, rfl, hFb, ex, hcw, hsl, _, hcm⟩ := hl.at_ hlt
      have hc := hfr.2.2.cell (fun h => h) hcw
      have hsl1 := hsl.ch hfr.2.2 (fun _ _ _ h => h)
      have hrl : row.length ≤ 4000 := HX.out row (List.mem_of_getElem? ex.out)
      have hp1 := HP.out (k + 1) (by omega)
      have hpm : pre l (k + 1) = ys ++ rowB row := by rw [eys]; exact pre_more ex.out
      have hem : ends l (k + 1) = es ++ [((ys ++ rowB row).length : Int)] := by rw [ees, ← hpm]; exact ends_more l k
      have hrb : (ys ++ rowB row).length ≤ 20000 := by rw [← hpm]; exact hp1
      have HPM := Lib.hid hpm
      have HEM := Lib.hid hem
      have HEL := Lib.hid hel
      clear hcw eys ees hpm hem hp1 hel
      obtain ⟨wo, rfl⟩ : ∃ wo : World, wo = wr := ⟨_, rfl⟩
      go_wp2_with fail
      refine (refbytes_any row A3 _ c3 _ _ (by omega) hsl1).mono ?_
      rintro e w1 ⟨v1, rfl, hf1⟩
      obtain ⟨A1, c1, rfl, _, _⟩ := own_shape hf1.1
      have ho := hf1.2.2.own hfr.1 (fun _ _ h => h)
      have hoi := hf1.2.2.own hfi.1 (fun _ _ h => h)
      have hC1 := hfr.2.2.trans hf1.2.2 (fun _ _ h => h)
      have hs1 := Sl.of_own hf1.1
      have hB := hfr.2.1
      have hBi := hfi.2
      have hc1 := hf1.2.2.cell (fun h => h) hc
      have hrbl : (rowB row).length ≤ 20000 := by rw [List.length_append] at hrb; omega
      clear hf1 hfr hfi hsl1 hc hsl
      go_wp2_with (at_builtin; refine wp_app rfl (.tmp 25) (.tmp 30) Tb rfl rfl ho rfl hs1 ?c1 ?c2 ?c3 ?_)
      case c1 => exact ints_cells _ _
      case c2 => omega
      case c3 => omega
      intro v2 w2 hown hg hb2
      have hsz1 := hC1.size
      have hf2 : Fresh w v2 (ys ++ rowB row) w2 := Fresh.app (zs := rowB row) ⟨ho, hB, hC1⟩ hg hown hb2
      have hoi2 := own_kept hoi ho (by decide) hg
      obtain ⟨A2, c2, rfl, _, _⟩ := own_shape hown
      clear hown hg hb2 ho hoi hC1 hs1 hB
      go_wp2_with (at_builtin; refine wp_app rfl (.tmp 32) (.tmp 35) Ti rfl rfl (hoi2.alloc _) rfl (Vs.one _ _ _) ?c1 ?c2 ?c3 ?_)
      case c1 => intro u hu; simp at hu; subst hu; rfl
      case c2 => have := HEL.out; omega
      case c3 => have := HEL.out; omega
      intro u2 w3 hown3 hg3 hb3
      have hfz : Fresh w (.slice A2 (ys.length + (rowB row).length) c2) (pre l (k + 1)) w3 := by
        rw [HPM.out]
        refine ⟨own_kept (hf2.1.alloc _) (hoi2.alloc _) (by decide) hg3, hf2.2.1, (hf2.2.2.alloc _).grown hg3 fun g hg => .inr (hBi g hg)⟩
      have hfi : FreshI w u2 (ends l (k + 1)) w3 := by
        have hsz := hf2.2.2.size
        refine ⟨?_, fun g hg => ?_⟩
        · rw [HEM.out, List.map_append, List.length_append]
          simpa using hown3
        · rcases hb3 with h | h
          · exact hBi g (by rw [← h]; exact hg)
          · rw [h] at hg
            injection hg with hg
            omega
      obtain ⟨B2, d2, rfl, _, _⟩ := own_shape hown3
      have HFZ := Lib.hid hfz
      have HFI := Lib.hid hfi
      clear hown3 hg3 hb3 hf2 hoi2 hfz hfi hBi
      go_wp2_with fail
      go_roundw
      case rel => exact ⟨k + 1, by omega, by go_num, HFZ.out, HFI.out⟩
      case measure => simp [intOf]; omega
    · obtain rfl : k = n := by omega
      have hln := hl.len
      obtain ⟨T, eT⟩ : ∃ T, T = pre l k := ⟨_, rfl⟩
      have hTl : T.length ≤ 20000 := by rw [eT]; exact HP.out k hk
      have hTp : 0 < T.length := by
        rw [eT]
        have h0 : l[0]? = some l[0] := List.getElem?_eq_getElem (by omega)
        have := pre_mono h0
        rcases Nat.lt_or_ge 0 (pre l k).length with h | h
        · exact h
        · obtain ⟨more, hm⟩ := pre_split hln h0
          rw [hm, List.length_append, List.length_append] at h
          have := rowB_pos l[0]
          omega
      rw [← eT] at hfr
      obtain ⟨A', c', rfl, hl', hm'⟩ := own_shape hfr.1
      obtain ⟨B', d', rfl, _, _⟩ := own_shape hfi.1
      obtain ⟨q, hq1, hq2⟩ := i64_mask z
      obtain ⟨cut, ecut⟩ : ∃ cut, cut = q % T.length := ⟨_, rfl⟩
      have hcut : cut < T.length := by rw [ecut]; exact Nat.mod_lt _ hTp
      have hq3 : (q : Int) % (T.length : Int) = (cut : Int) := by rw [ecut]; simp
      have hbT : Byt T := by
        rw [eT]
        intro x hx
        obtain ⟨row, h1, h2⟩ := List.mem_flatMap.1 hx
        rcases List.mem_append.1 h2 with h3 | h3
        · exact encN_byte _ x h3
        · exact HA.out row (List.mem_of_mem_take h1) x h3
      have HBT := Lib.hid hbT
      have ET := Lib.hid eT
      have HLN := Lib.hid hln
      clear ecut hbT eT hln hlt hk
      have hC : Ch (fun _ => False) w wr := hfr.2.2
      have hE : Sl wr (fun b => b < wr.heap.size) .i64 B' k (ends l k) := by
        have := Sl.of_own hfi.1
        rw [ends_len] at this
        exact Sl.mono this fun _ h _ => h
      have hR : Sls wr (fun b => b < wr.heap.size) A k l := Sls.lt (hl.ch hC (fun _ _ _ h => h))
      have hS : Sl wr (fun _ => True) .u8 A' cut (T.take cut) := (Sl.of_own hfr.1).take (by omega) |>.mono fun _ _ _ => trivial
      have HC := Lib.hid hC
      have eel := ends_len l k
      rw [eel]
      clear hC hfr hfi eel
      go_wp2_with fail
      refine (new_any A' cut c' (T.take cut) wr _ hS (by omega) (by omega) hm' (HBT.out.take cut)).mono ?_
      rintro e w1 ⟨br, rfl, hbr, hrd, hc1⟩
      rw [hq3]
      have hrel0 : CutRel l k cut br 0 w1 := .inl ⟨by simp [pre], by rw [rest_zero, ← ET.out]; exact hrd⟩
      have hD1 : Ch (fun b => wr.heap.size ≤ b) wr w1 := hc1.mono fun _ _ h => h.elim
      have HREL := Lib.hid hrel0
      have HD1 := Lib.hid hD1
      clear hrel0 hD1 hc1 hrd hS hq1 hq3 hq2
      go_wp2_with fail
      obtain ⟨w0, rfl⟩ : ∃ w0 : World, w0 = wr := ⟨_, rfl⟩
      go_loopw [10] (fun i wr => ∃ j : Nat, j ≤ k ∧ i = .int .i64 j ∧ CutRel l k cut br j wr ∧ Ch (fun b => w0.heap.size ≤ b) w0 wr) (fun i _ => k - (intOf i).toNat)
      case atStart => exact ⟨0, Nat.zero_le _, rfl, HREL.out, HD1.out⟩
      case round =>
        obtain ⟨j, hj, rfl, hrel, hch⟩ := hrel
        have hnb : ∀ b, b < w0.heap.size → b < w0.heap.size → ¬ w0.heap.size ≤ b := fun b _ h => by omega
        have hbrn : ∀ b, b < w0.heap.size → ¬ RS br b := fun b h hb => by have h' : b = br := hb; omega
        by_cases hlt : j < k
        · obtain ⟨b, off, A3, c3, row, rfl, hFb, ex, hcw, hsl, hrc, hcm⟩ := hR.at_ hlt
          obtain ⟨eb, eoff, ev, rfl, hFe, eex, hce⟩ := hE.at_ hlt
          have hev : ev = ((pre l (j + 1)).length : Int) := by
            have := eex.out
            rw [ends_at hlt] at this
            exact (Option.some.inj this).symm
          subst hev
          have hrl : row.length ≤ 4000 := HX.out row (List.mem_of_getElem? ex.out)
          by_cases hc : (pre l (j + 1)).length ≤ cut
          · go_wp2_with fail
            refine (cut_yes HLN.out ex.out hrl (by rw [← ET.out]; exact hTl) hc hrel).mono ?_
            rintro e w2 ⟨v2, rfl, hrow, hrel2, hrd2, hc2⟩
            obtain ⟨A4, c4, rfl, _, _⟩ := own_shape hrow.1
            have hch2 : Ch (fun b => w0.heap.size ≤ b) w0 w2 := hch.trans hc2 fun i hi h => absurd h (hbrn i hi)
            have hce2 := hch2.cell (hnb _ hFe hFe) hce
            have hcw2 := hch2.cell (hnb _ hFb hFb) hcw
            have hsl2 := hsl.ch hch2 hnb
            have hs2 := Sl.of_own hrow.1
            have hcI : ((pre l (j + 1)).length : Int) ≤ (cut : Int) := by omega
            generalize (pre l (j + 1)).length = ple at *
            clear hrow hch hrel
            go_wp2_with fail
            refine (same_any A4 A3 _ _ c4 c3 row row _ _ w2 (by omega) (by omega) hs2 hsl2).mono ?_
            rintro e w3 ⟨rfl, k3, ew3⟩
            have hrd3 : Rd w3 br false (rest l k cut (j + 1)) := by
              rw [ew3]
              exact hrd2
            have hrel3 : CutRel l k cut br (j + 1) w3 := by
              rw [ew3]
              exact hrel2
            have hch3 : Ch (fun b => w0.heap.size ≤ b) w0 w3 := by
              rw [ew3]
              exact hch2.drewN _
            have HREL3 := Lib.hid hrel3
            have HCH3 := Lib.hid hch3
            have HRD3 := Lib.hid hrd3
            clear hrd2 hrel2 hch2 hrel3 hch3 hrd3 ew3 hs2 hsl2 hce2 hcw2 hcw hce hsl
            go_wp2_with (first | (go_at_call 18; refine (good_any br false _ _ HRD3.out).mono ?_; rintro e w' ⟨rfl, rfl⟩))
            go_roundw
            case rel => exact ⟨j + 1, by omega, by go_num, HREL3.out, HCH3.out⟩
            case measure => simp [intOf]; omega
          · go_wp2_with fail
            refine (cut_no HLN.out ex.out hrl (by rw [← ET.out]; exact hTl) (by omega) hrel).mono ?_
            rintro e w2 ⟨rfl, hrd2, hc2⟩
            have hch2 : Ch (fun b => w0.heap.size ≤ b) w0 w2 := hch.trans hc2 fun i hi h => absurd h (hbrn i hi)
            have hce2 := hch2.cell (hnb _ hFe hFe) hce
            have hrel3 : CutRel l k cut br (j + 1) w2 := .inr ⟨by omega, hrd2⟩
            have hcI : ¬ ((pre l (j + 1)).length : Int) ≤ (cut : Int) := by omega
            have HREL3 := Lib.hid hrel3
            have HCH3 := Lib.hid hch2
            have HRD3 := Lib.hid hrd2
            have EEX := Lib.hid eex
            clear hrel3 hch2 hrd2 hch hrel hcw hce hsl hc2 eex
            generalize (pre l (j + 1)).length = ple at *
            go_wp2_with (first | (go_at_call 18; refine (good_any br true [] _ HRD3.out).mono ?_; rintro e w' ⟨rfl, rfl⟩) | (go_at_call 28; refine (left_any br true [] _ HRD3.out).mono ?_; rintro e w' ⟨rfl, rfl⟩))
            go_roundw
            case rel => exact ⟨j + 1, by omega, by go_num, HREL3.out, HCH3.out⟩
            case measure => simp [intOf]; omega
        · obtain rfl : j = k := by omega
          rcases hrel with ⟨h0, _⟩ | ⟨_, hrd⟩
          · rw [← ET.out] at h0
            omega
          have HRD3 := Lib.hid hrd
          have HCH3 := Lib.hid hch
          clear hrd hch
          go_wp2_with (first | (go_at_call 19; refine (whole_any br true [] _ HRD3.out).mono ?_; rintro e w' ⟨rfl, rfl⟩))
          refine (num_any br true [] _ HRD3.out).mono ?_
          intro e w2 hp
          unfold NumPost at hp
          obtain ⟨rfl, _, hc2⟩ := hp
          have hF : Ch (fun _ => False) w w2 := (HC.out.trans HCH3.out fun i hi h => by have := HC.out.size; omega).trans hc2 fun i hi h => by
            have h' : i = br := h
            have := HC.out.size
            omega
          have HF := Lib.hid hF
          clear hF hc2
          go_wp2_with fail
          refine (known_any _ (HT.out.ch HF.out fun h => h)).mono ?_
          rintro e w3 ⟨rfl, hc3⟩
          have hF := HF.out.trans hc3 fun _ _ h => h
          clear hc3
          go_wp2
          go_ret
          exact ⟨rfl, hF⟩
end Go.Proofs.YtppplchllnalpaaDoor
