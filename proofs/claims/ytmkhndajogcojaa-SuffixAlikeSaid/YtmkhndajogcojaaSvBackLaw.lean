/-
  The walk of the law SuffixBack: true for every input.
-/
import Derived.Test.YtmkhndajogcojaaSvPlacesLaw
namespace Go.Proofs.Ytmkhndajogcojaa
open Go.RowKit Go.Oct Go.Su
theorem and1023 (x : Int) : bits .and .i64 x 1023 = (((x % ((1024 : Nat) : Int)).toNat : Nat) : Int) := and_low x 10 (by decide)
theorem plc_len {xs : List Int} {n : Nat} (hn : xs.length = n) : (plc xs).length = n := by unfold plc; rw [plcUp_len, hn]
theorem plc_good {xs : List Int} {n : Nat} (hn : xs.length = n) (g : Good xs n) : Good (plc xs) n := by
  have hl := plc_len hn
  refine ⟨fun x hx => ?_, ?_⟩
  · obtain ⟨p, hp, e⟩ := List.getElem_of_mem hx
    obtain ⟨i, hi, _, h2⟩ := plc_back hn g (p := p) (by omega)
    rw [List.getElem?_eq_getElem hp, e] at h2
    have := Option.some.inj h2
    omega
  · rw [List.Nodup, List.pairwise_iff_getElem]
    intro p q hp hq hpq e
    obtain ⟨i, _, h1, h2⟩ := plc_back hn g (p := p) (by omega)
    obtain ⟨j, _, h3, h4⟩ := plc_back hn g (p := q) (by omega)
    rw [List.getElem?_eq_getElem hp] at h2
    rw [List.getElem?_eq_getElem hq] at h4
    have e1 := Option.some.inj h2
    have e2 := Option.some.inj h4
    have : i = j := by omega
    subst this
    have := Option.some.inj (h1.symm.trans h3)
    omega
theorem plc_plc {xs : List Int} {n : Nat} (hn : xs.length = n) (g : Good xs n) : plc (plc xs) = xs := by
  have hl := plc_len hn
  have g2 := plc_good hn g
  apply List.ext_getElem?
  intro i
  rcases Nat.lt_or_ge i n with hi | hi
  · obtain ⟨y, hy⟩ : ∃ y, xs[i]? = some y := ⟨xs[i]'(by omega), List.getElem?_eq_getElem _⟩
    have hyb := g.1 y (List.mem_of_getElem? hy)
    obtain ⟨p, rfl⟩ : ∃ p : Nat, y = p := ⟨y.toNat, by omega⟩
    obtain ⟨j, hj, h1, h2⟩ := plc_back hn g (p := p) (by omega)
    have hij : i = j := by
      obtain ⟨a1, a2⟩ := List.getElem?_eq_some_iff.1 hy
      obtain ⟨a3, a4⟩ := List.getElem?_eq_some_iff.1 h1
      have gn := g.2
      rw [List.Nodup, List.pairwise_iff_getElem] at gn
      rcases Nat.lt_trichotomy i j with h | h | h
      · exact absurd (a2.trans a4.symm) (gn i j a1 a3 h)
      · exact h
      · exact absurd (a4.trans a2.symm) (gn j i a3 a1 h)
    subst hij
    have h3 := plc_at hl g2 n p i (by omega) (Nat.le_refl _) h2
    rw [hy]
    have e : plc (plc xs) = plcUp (plc xs) n := by rw [plc, hl]
    rw [e, gs_some (by rw [plcUp_len, hl]; exact hi), h3]
  · rw [List.getElem?_eq_none (by rw [plc_len hl]; exact hi), List.getElem?_eq_none (by omega)]
theorem pos_asI (l : List Nat) : Pos (asI l) := fun x hx => by
  unfold asI at hx
  obtain ⟨y, _, rfl⟩ := List.mem_map.1 hx
  omega
section
set_option maxHeartbeats 2000000 in
theorem backlaw_any (xs : List Int) (A : Option Addr) (n c : Nat) (w : World) (hs : Sl w (fun _ => True) .i64 A n xs) :
    Calls Try.prog 8 #[.slice A n c] w fun e w' => e = .returned (.bool true) ∧ Ch (fun _ => False) w w' := by
  by_cases hlong : 600 < n
  · go_enter Try.func8, Try.ntmps8
    go_wp2
    go_ret
    exact ⟨rfl, Ch.refl _ _⟩
  · have hn : n ≤ 600 := by omega
    have d1 : decide (600 < (n : Int)) = false := by simp; omega
    have d2 : decide (600 < n) = false := by simp; omega
    have HS := Bx.mk hs
    obtain ⟨L, hL⟩ : ∃ L, cut 1024 xs = L := ⟨_, rfl⟩
    have HLL := Bx.mk hL
    have HLN : Bx (L.length = n) := ⟨by rw [← hL, cut_len]; exact hs.len⟩
    clear hs hlong hL
    go_enter Try.func8, Try.ntmps8
    go_wp2_with fail
    go_loopw [3, 4] (fun v i wr => ∃ j : Nat, j ≤ n ∧ i = .int .i64 j ∧ Gr w wr v (L.take j)) (fun _ i _ => n - (intOf i).toNat)
    case atStart => exact ⟨0, Nat.zero_le _, rfl, by rw [List.take_zero]; exact Gr.nil w⟩
    case round =>
      obtain ⟨j, hj, rfl, hG⟩ := hrel
      by_cases hlt : j < n
      · obtain ⟨b1, o1, x, rfl, _, hx0, hcx⟩ := (HS.out.ch hG.ch (fun _ _ _ h => h)).at_ hlt
        have hx := cut_at (p := 1024) hx0.out
        rw [HLL.out] at hx
        have ha := and1023 x
        generalize (x % ((1024 : Nat) : Int)).toNat = y at *
        have htk := take_more hx
        have htl : (L.take j).length = j := by rw [List.length_take, HLN.out]; omega
        generalize L.take j = P at *
        have HG := Bx.mk hG
        have HTK := Bx.mk htk
        obtain ⟨A2, c2, rfl, _, _⟩ := own_shape hG.own
        have HPL := Bx.mk htl
        have hPl : P.length ≤ 600 := by omega
        clear hG htk hx hx0 htl
        go_wp2_with (at_builtin; refine wp_app rfl (.tmp 20) (.tmp 26) elemI rfl rfl (HG.out.own.alloc _) rfl (Vs.one _ _ _) ?c1 ?c2 ?c3 ?_)
        case c1 => intro u hu; simp at hu; subst hu; rfl
        case c2 => omega
        case c3 => omega
        intro v' w2 ho1 hg1 hb1
        have HG2 : Bx (Gr w w2 v' (L.take (j + 1))) := ⟨by rw [HTK.out]; exact HG.out.one ho1 hg1 hb1⟩
        clear ho1 hg1 hb1
        go_wp2
        go_roundw
        case rel => exact ⟨j + 1, by omega, by go_num, HG2.out⟩
        case measure => simp [intOf]; omega
      · have hjn : j = n := by omega
        rw [hjn, List.take_of_length_le (by rw [HLN.out]; omega)] at hG
        obtain ⟨A2, c2, rfl, hSl, hc1, hc2⟩ := hG.shape
        rw [HLN.out] at hSl hc1
        have hLn2 := HLN.out
        rw [hLn2]
        have har := array_ok (asI L) A2 n c2 wr hSl (by omega) (pos_asI L)
        have HC := Bx.mk hG.ch
        have ej : decide ((j : Int) < (n : Int)) = false := by simp; omega
        clear hG hSl hjn hLn2 hc2
        go_wp2_with fail
        refine har.mono ?_
        rintro e w3 ⟨A3, c3, S, rfl, hSA, hS3, _, _, hC3⟩
        have hl : (asI L).length = n := by rw [asI_len, HLN.out]
        have hg3 := good_sa hSA
        rw [hl] at hg3
        have hpl := places_any (asI S) A3 n c3 w3 hS3 (by omega)
        have HS3 := Bx.mk hS3
        have HG3 := Bx.mk hg3
        have HSL : Bx ((asI S).length = n) := ⟨by rw [asI_len, hSA.len, hl]⟩
        have HC3 := Bx.mk (HC.out.trans hC3 (fun _ _ h => h))
        clear hSA hS3 hC3 hl hg3 har
        go_wp2_with fail
        refine hpl.mono ?_
        rintro e w4 ⟨h1, _, hC4⟩
        obtain ⟨g4, rfl, hO4, hb4⟩ := h1 HG3.out
        have hpl2 := places_any (plc (asI S)) (some ⟨g4, 0, none⟩) n n w4 hO4.sl (by omega)
        have HS4 := Bx.mk (HS3.out.ch hC4 (fun _ _ _ h => h))
        have HC4 := Bx.mk (HC3.out.trans hC4 (fun _ _ h => h))
        clear h1 hC4 hO4 hb4 hpl HS3
        go_wp2_with fail
        refine hpl2.mono ?_
        rintro e w5 ⟨h1, _, hC5⟩
        obtain ⟨g5, rfl, hO5, hb5⟩ := h1 (plc_good HSL.out HG3.out)
        rw [plc_plc HSL.out HG3.out] at hO5
        have hin := ints_any (asI S) (some ⟨g5, 0, none⟩) A3 n n c3 w5 hO5.sl (HS4.out.ch hC5 (fun _ _ _ h => h)) (by omega)
        have HC5 := Bx.mk (HC4.out.trans hC5 (fun _ _ h => h))
        clear h1 hC5 hO5 hb5 hpl2 HS4
        go_wp2_with fail
        refine hin.mono ?_
        rintro e w6 ⟨rfl, hC6⟩
        have HC6 := Bx.mk (HC5.out.trans hC6 (fun _ _ h => h))
        clear hC6 hin
        go_wp2_with fail
        refine (known_any w6).mono ?_
        rintro e w7 ⟨rfl, hC7⟩
        have HC7 := Bx.mk (HC6.out.trans hC7 (fun _ _ h => h))
        clear hC7
        go_wp2
        go_ret
        exact ⟨rfl, HC7.out⟩
end
end Go.Proofs.Ytmkhndajogcojaa
