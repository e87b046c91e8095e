/-
  The law FmFinds: an index of any texts finds, counts, tells parts of texts as plain texts do. Over the contracts of the Index.
-/
import Derived.Test.YtckkjccjkdidjaaGreatDoorFmRound
import Derived.Test.YtckkjccjkdidjaaGreatDoorFmLong
namespace Go.Proofs.YtckkjccjkdidjaaGreatDoor
open Go.RowKit Go.Oct Go.Su X

/-- Copies of texts that are gathered: each a row of its own. -/
structure Cp (w wr : World) (v : Value) (us : List Value) (xss : List (List Int)) : Prop where
  own : wr.ownsRow 0 25 1 v us.length us
  lies : ∀ g, v.ownBlock = some g → w.heap.size ≤ g
  len : us.length = xss.length
  rows : ∀ (i : Nat) (u : Value) (t : List Int), us[i]? = some u → xss[i]? = some t → wr.ownsRow 0 5 1 u t.length (t.map (Value.int .u8)) ∧ ∀ g, u.ownBlock = some g → w.heap.size ≤ g ∧ v.ownBlock ≠ some g
  apart : ∀ (i j : Nat) (x y : Value) (g : Nat), us[i]? = some x → us[j]? = some y → x.ownBlock = some g → y.ownBlock = some g → i = j
  ch : Ch (fun _ => False) w wr
theorem cp_start (w : World) : Cp w w (.slice none 0 0) [] [] := ⟨World.ownsRow_nil _ _ _ _, fun g hg => by simp [Value.ownBlock] at hg, rfl, fun i u t h => by simp at h, fun i j x y g h => by simp at h, Ch.refl _ _⟩
theorem Cp.sls {w wr : World} {v : Value} {us : List Value} {xss : List (List Int)} (h : Cp w wr v us xss) : ∃ A c, v = .slice A us.length c ∧ Sls wr (fun b => w.heap.size ≤ b) A us.length xss := by
  obtain ⟨A, c, rfl, _, _⟩ := own_shape h.own
  refine ⟨A, c, rfl, us, (Vs.of_own h.own).mono (fun b _ hb => h.lies b hb), h.len, fun i u t hu ht => ?_⟩
  obtain ⟨ho, hg⟩ := h.rows i u t hu ht
  obtain ⟨A', c', rfl, h1, h2⟩ := own_shape ho
  exact ⟨A', c', rfl, (Sl.of_own ho).mono (fun b _ hb => (hg b hb).1), h1, h2⟩
theorem Cp.add {w wt wr w2 : World} {v v' u : Value} {us : List Value} {xss : List (List Int)} {tb : List Int} (h : Cp w wt v us xss) (h5 : Gs 5 1 wt wr u tb.length (tb.map (Value.int .u8))) (ho : w2.ownsRow 0 25 1 v' (us.length + 1) (us ++ [u])) (hg : (wr.alloc (.cells #[u] 25)).grownBy w2 v.ownBlock) (hbv : v'.ownBlock = v.ownBlock ∨ v'.ownBlock = some (wr.heap.size + 1)) : Cp w w2 v' (us ++ [u]) (xss ++ [tb]) := by
  obtain ⟨h1, h2, h0, h3, h4, hch⟩ := h
  have hvl : ∀ g, v.ownBlock = some g → g < wt.heap.size := own_lt h1
  have hsz := h5.ch.size
  have hsz2 := hch.size
  have hC : Ch (fun b => v.ownBlock = some b) wr w2 := ((Ch.refl (fun b => v.ownBlock = some b) wr).alloc _).grown hg (fun j hj => .inl hj)
  have hCt : Ch (fun b => v.ownBlock = some b) wt w2 := (h5.ch.mono (fun _ _ h => h.elim)).trans hC (fun _ _ h => h)
  have hlu : ∀ g, u.ownBlock = some g → wt.heap.size ≤ g ∧ g < wr.heap.size := fun g hgu => ⟨h5.lies g hgu, own_lt h5.own g hgu⟩
  have hnew : ∀ g, g < wt.heap.size → v.ownBlock ≠ some g → v'.ownBlock ≠ some g := fun g hgl hgv e => by
    rcases hbv with hb | hb
    · exact hgv (hb ▸ e)
    · rw [hb] at e
      injection e with e
      omega
  refine ⟨by rw [List.length_append]; exact ho, fun g hgv => ?_, by rw [List.length_append, List.length_append, h0]; rfl, fun i x t hx ht => ?_, fun i j x y g hx hy gx gy => ?_, hch.trans hCt (fun i hi (e : v.ownBlock = some i) => by have := h2 i e; omega)⟩
  · rcases hbv with hb | hb
    · exact h2 g (hb ▸ hgv)
    · rw [hb] at hgv
      injection hgv with hgv
      omega
  · rcases Nat.lt_or_ge i us.length with hi | hi
    · rw [List.getElem?_append_left hi] at hx
      rw [List.getElem?_append_left (by omega)] at ht
      obtain ⟨k1, k2⟩ := h3 i x t hx ht
      exact ⟨hCt.own k1 (fun g hg2 e => (k2 g hg2).2 e), fun g hg2 => ⟨(k2 g hg2).1, hnew g (own_lt k1 g hg2) (k2 g hg2).2⟩⟩
    · rw [List.getElem?_append_right hi] at hx
      rw [List.getElem?_append_right (by omega)] at ht
      have e1 : i - us.length = 0 := by
        rcases Nat.eq_zero_or_pos (i - us.length) with e | e
        · exact e
        · rw [List.getElem?_eq_none (by simp; omega)] at hx
          cases hx
      rw [e1] at hx
      rw [show i - xss.length = 0 by omega] at ht
      obtain rfl : u = x := by simpa using hx
      obtain rfl : tb = t := by simpa using ht
      refine ⟨hC.own h5.own (fun g hg2 e => by have := hvl g e; have := (hlu g hg2).1; omega), fun g hg2 => ⟨by have := (hlu g hg2).1; omega, fun e => ?_⟩⟩
      rcases hbv with hb | hb
      · have := hvl g (hb ▸ e)
        have := (hlu g hg2).1
        omega
      · rw [hb] at e
        injection e with e
        have := (hlu g hg2).2
        omega
  · have hold : ∀ (i : Nat) (x : Value), us[i]? = some x → x.ownBlock = some g → g < wt.heap.size := fun i x hx gx => by
      obtain ⟨hil, _⟩ := List.getElem?_eq_some_iff.1 hx
      obtain ⟨k1, _⟩ := h3 i x _ hx (List.getElem?_eq_getElem (show i < xss.length by omega))
      exact own_lt k1 g gx
    have hlast : ∀ (i : Nat) (x : Value), us.length ≤ i → (us ++ [u])[i]? = some x → i = us.length ∧ x = u := fun i x hi hx => by
      rw [List.getElem?_append_right hi] at hx
      rcases Nat.eq_zero_or_pos (i - us.length) with e | e
      · rw [e] at hx
        exact ⟨by omega, by simpa using hx.symm⟩
      · rw [List.getElem?_eq_none (by simp; omega)] at hx
        cases hx
    rcases Nat.lt_or_ge i us.length with hi | hi
    · rw [List.getElem?_append_left hi] at hx
      rcases Nat.lt_or_ge j us.length with hj | hj
      · rw [List.getElem?_append_left hj] at hy
        exact h4 i j x y g hx hy gx gy
      · obtain ⟨_, rfl⟩ := hlast j y hj hy
        have h6 := hold i x hx gx
        have h7 := (hlu g gy).1
        omega
    · obtain ⟨e1, rfl⟩ := hlast i x hi hx
      rcases Nat.lt_or_ge j us.length with hj | hj
      · rw [List.getElem?_append_left hj] at hy
        have h6 := hold j y hy gy
        have h7 := (hlu g gx).1
        omega
      · obtain ⟨e2, _⟩ := hlast j y hj hy
        omega
/-- The copies from k on stand. -/
structure Left (wr : World) (v : Value) (us : List Value) (xss : List (List Int)) (k : Nat) : Prop where
  own : wr.ownsRow 0 25 1 v us.length us
  rows : ∀ (i : Nat) (u : Value) (t : List Int), k ≤ i → us[i]? = some u → xss[i]? = some t → wr.ownsRow 0 5 1 u t.length (t.map (Value.int .u8))
theorem Left.keep {wr w' : World} {v : Value} {us : List Value} {xss : List (List Int)} {k : Nat} (h : Left wr v us xss k) (hc : Ch (fun _ => False) wr w') : Left w' v us xss k :=
  ⟨hc.own h.own (fun _ _ h => h), fun i u t hk hu ht => hc.own (h.rows i u t hk hu ht) (fun _ _ h => h)⟩
section
variable {F G : Nat → Prop}
set_option maxRecDepth 100000 in
set_option maxHeartbeats 8000000 in
theorem finds_law (xss pss : List (List Int)) (qs : List Int) (A B C : Option Addr) (n c m d k e : Nat) (w : World) (hz : Sls w F A n xss) (hp : Sls w G B m pss) (ha : Sl w (fun _ => True) .i64 C k qs) (hb : Byts xss) (hbp : Byts pss) (hn : n ≤ 9223372036854775807) (hm : m ≤ 9223372036854775807) (ht : W.Tab w) :
    Calls Tryz.prog 3 #[.slice A n c, .slice B m d, .slice C k e] w fun e w' => e = .returned (.bool true) ∧ Ch (fun _ => False) w w' := by
  have HZ := Bx.mk hz
  have HP := Bx.mk hp
  have HA := Bx.mk ha
  have HB := Bx.mk hb
  have HBP := Bx.mk hbp
  have HL := Bx.mk hz.len
  have HLP := Bx.mk hp.len
  have HT := Bx.mk ht
  have hh := heavy_any xss A n c w F hn hz
  have hh2 := heavy_any pss B m d w G hm hp
  clear hz hb hp hbp ht ha
  go_enter Tryz.func3, Tryz.ntmps3
  go_wp2_with fail
  refine hh.mono ?_
  rintro e0 w1 ⟨hv, rfl, rfl, hs⟩
  clear hh
  cases hv with
  | true =>
    go_wp2
    go_ret
    exact ⟨rfl, Ch.refl _ _⟩
  | false =>
    have HSL := Bx.mk (slim_txt (hs rfl))
    have HSE := Bx.mk (slim_each (hs rfl))
    have hnb : n ≤ 266 := by have := HSL.out.2; rw [HL.out] at this; exact this
    clear hs
    by_cases h60 : 60 < n
    · have d1 : decide (60 < (n : Int)) = true := by simp; omega
      have d2 : decide (60 < n) = true := by simp; omega
      go_wp2
      go_ret
      exact ⟨rfl, Ch.refl _ _⟩
    · have d1 : decide (60 < (n : Int)) = false := by simp; omega
      have d2 : decide (60 < n) = false := by simp; omega
      go_wp2_with fail
      refine hh2.mono ?_
      rintro e0 w1 ⟨hv, rfl, rfl, hs⟩
      clear hh2
      cases hv with
      | true =>
        go_wp2
        go_ret
        exact ⟨rfl, Ch.refl _ _⟩
      | false =>
        have HPE := Bx.mk (slim_each (hs rfl))
        have hmb : m ≤ 266 := by have := (slim_txt (hs rfl)).2; rw [HLP.out] at this; exact this
        clear hs
        by_cases h20 : 20 < m
        · have d3 : decide (20 < (m : Int)) = true := by simp; omega
          have d4 : decide (20 < m) = true := by simp; omega
          go_wp2
          go_ret
          exact ⟨rfl, Ch.refl _ _⟩
        · have d3 : decide (20 < (m : Int)) = false := by simp; omega
          have d4 : decide (20 < m) = false := by simp; omega
          by_cases hk60 : 60 < k
          · have d5 : decide (60 < (k : Int)) = true := by simp; omega
            have d6 : decide (60 < k) = true := by simp; omega
            go_wp2
            go_ret
            exact ⟨rfl, Ch.refl _ _⟩
          · have d5 : decide (60 < (k : Int)) = false := by simp; omega
            have d6 : decide (60 < k) = false := by simp; omega
            go_wp2_with fail
            go_loopw [7, 8] (fun v i wr => ∃ (j : Nat) (us : List Value), j ≤ n ∧ i = .int .i64 j ∧ us.length = j ∧ Bx (Cp w wr v us (xss.take j))) (fun _ i _ => n - (intOf i).toNat)
            case atStart => exact ⟨0, [], Nat.zero_le _, rfl, rfl, ⟨cp_start w⟩⟩
            case round =>
              obtain ⟨j, us, hj, rfl, hul, hCp⟩ := hrel
              obtain ⟨Av, cv, rfl, hv1, hv2⟩ := own_shape hCp.out.own
              rw [hul] at hCp ⊢
              have HU := Bx.mk hul
              have HCP := Bx.mk hCp.out
              have HCW := Bx.mk hCp.out.ch
              clear hul hCp
              by_cases hlt : j < n
              · have dj : decide ((j : Int) < (n : Int)) = true := by simp; omega
                obtain ⟨b1, o1, A', c', t, rfl, _, ex, hc, hsl, hlc, hcm⟩ := (HZ.out.ch HCW.out (fun _ _ _ h => h)).at_ hlt
                have HEX := Bx.mk ex.out
                have htl := txt_each t (List.mem_of_getElem? ex.out)
                have hts := HSL.out.1
                obtain ⟨tl, htle⟩ : ∃ tl, t.length = tl := ⟨_, rfl⟩
                rw [htle] at hc hsl htl hlc
                have HTL := Bx.mk htle
                have hC0 : Ch (fun _ => False) wr (wr.alloc (.cells #[] 5)) := (Ch.refl _ wr).alloc _
                have hcc := hC0.cell (p := ⟨b1, o1 + j, none⟩) (fun h => h) hc
                have HSLT := Bx.mk (hsl.ch hC0 (fun _ _ _ h => h))
                have i1 : (j : Int) < (n : Int) := by omega
                clear ex hsl htle hc
                go_wp2_with (at_builtin; refine wp_app rfl (.tmp 40) (.tmp 44) Tb rfl rfl (own_emptyB wr 5) rfl HSLT.out ?c1 ?c2 ?c3 ?_)
                case c1 => exact ints_cells _ _
                case c2 => omega
                case c3 => omega
                intro v5 w5 ho5 hg5 hb5
                have hC5 : Ch (fun _ => False) wr w5 := hC0.grown hg5 (fun q hq => by
                  right
                  have : wr.heap.size = q := by simpa [Value.ownBlock] using hq
                  omega)
                have hv5 : ∀ g, v5.ownBlock = some g → wr.heap.size ≤ g := fun g hg => by
                  rcases hb5 with hb | hb
                  · rw [hb] at hg
                    have : wr.heap.size = g := by simpa [Value.ownBlock] using hg
                    omega
                  · rw [hb] at hg
                    injection hg with hg
                    omega
                have HG5 : Bx (Gs 5 1 wr w5 v5 t.length (t.map (Value.int .u8))) := ⟨⟨by rw [HTL.out]; exact ho5, hv5, hC5⟩⟩
                have HO5 := Bx.mk (hC5.own HCP.out.own (fun _ _ h => h))
                obtain ⟨A5, c5, rfl, hn5, hm5⟩ := own_shape ho5
                clear ho5 hg5 hb5 hC5 hv5 hC0 hcc
                have hown := HO5.out
                rw [HU.out] at hown
                go_wp2_with (at_builtin; refine wp_app rfl (.tmp 39) (.tmp 46) elemT rfl rfl (hown.alloc _) rfl (Vs.one _ _ _) ?c1 ?c2 ?c3 ?_)
                case c1 => intro u hu; simp at hu; subst hu; rfl
                case c2 => omega
                case c3 => omega
                intro v6 w6 ho6 hg6 hb6
                have HCP6 : Bx (Cp w w6 v6 (us ++ [.slice A5 tl c5]) (xss.take (j + 1))) := ⟨by
                  have h := HCP.out.add (tb := t) HG5.out (by rw [HU.out]; exact ho6) hg6 hb6
                  rwa [show xss.take j ++ [t] = xss.take (j + 1) by rw [List.take_add_one, HEX.out]; rfl] at h⟩
                clear ho6 hg6 hb6 hown
                go_wp2
                go_roundw
                case rel => exact ⟨j + 1, _, by omega, by go_num, by rw [List.length_append, HU.out]; rfl, HCP6⟩
                case measure => simp [intOf]; omega
              · have dj : decide ((j : Int) < (n : Int)) = false := by simp; omega
                have hjn : j = n := by omega
                subst hjn
                have etake : xss.take j = xss := List.take_of_length_le (by rw [HL.out]; exact Nat.le_refl _)
                rw [etake] at HCP
                obtain ⟨A9, c9, e9, hsls⟩ := HCP.out.sls
                rw [HU.out] at e9 hsls
                injection e9 with e91 _ e92
                subst e91 e92
                have hbu := build_any xss Av j cv wr hsls HB.out (by have := HSL.out.1; omega) (HT.out.keep HCW.out)
                obtain ⟨w2, rfl⟩ : ∃ w2 : World, w2 = wr := ⟨_, rfl⟩
                clear hsls etake
                go_wp2_with fail
                refine hbu.mono ?_
                rintro e0 w3 (⟨_, b, rfl, hI, hC3⟩ | ⟨h, _⟩)
                · have HI3 := Bx.mk hI
                  have HC23 := Bx.mk hC3
                  have HC3 := Bx.mk (HCW.out.trans hC3 (fun _ _ h => h))
                  have HLF : Bx (Left w3 (.slice Av j cv) us xss 0) := ⟨⟨hC3.own HCP.out.own (fun _ _ h => h), fun i u t _ hu ht => hC3.own (HCP.out.rows i u t hu ht).1 (fun _ _ h => h)⟩⟩
                  clear hI hC3 hbu
                  go_wp2_with fail
                  go_loopw [11] (fun i wr => ∃ q : Nat, q ≤ j ∧ i = .int .i64 q ∧ Bx (Left wr (.slice Av j cv) us xss q) ∧ Bx (Ix wr (fun g => w2.heap.size ≤ g) b xss) ∧ Bx (Ch (fun _ => False) w wr)) (fun i _ => j - (intOf i).toNat)
                  case atStart => exact ⟨0, Nat.zero_le _, rfl, HLF, HI3, HC3⟩
                  case round =>
                    obtain ⟨q, hq, rfl, hLF, hI, hC⟩ := hrel
                    by_cases hlt2 : q < j
                    · have dq : decide ((q : Int) < (j : Int)) = true := by simp; omega
                      have ho := hLF.out.own
                      rw [HU.out] at ho
                      obtain ⟨gv, cc, hv, _, _⟩ := ho.form (by omega)
                      injection hv with hva _ hvc
                      subst hva hvc
                      obtain ⟨b1, o1, A', c', t, rfl, _, ex, hc, hsl, hlc, hcm⟩ := (HZ.out.ch hC.out (fun _ _ _ h => h)).at_ hlt2
                      obtain ⟨u, hu⟩ : ∃ u, us[q]? = some u := ⟨_, List.getElem?_eq_getElem (by rw [HU.out]; exact hlt2)⟩
                      have hcu := ho.cellAt q (by omega)
                      rw [hu] at hcu
                      have hou := hLF.out.rows q u t (Nat.le_refl _) hu ex.out
                      have hgu := (HCP.out.rows q u t hu ex.out).2
                      have hou0 := (HCP.out.rows q u t hu ex.out).1
                      obtain ⟨Au, cu, rfl, hu1, hu2⟩ := own_shape hou
                      have hsu : Sl wr (fun b => (Value.slice Au t.length cu).ownBlock = some b) .u8 Au t.length t := Sl.of_own hou
                      have htl := txt_each t (List.mem_of_getElem? ex.out)
                      have hts := HSL.out.1
                      obtain ⟨tl, htle⟩ : ∃ tl, t.length = tl := ⟨_, rfl⟩
                      rw [htle] at hcu hou hgu hou0 hsu hc hsl htl hu1 hlc hu
                      have HTL := Bx.mk htle
                      have HSU := Bx.mk hsu
                      have HSLT := Bx.mk hsl
                      have HGU := Bx.mk hgu
                      have HOU0 := Bx.mk (own_lt hou0)
                      have HOU := Bx.mk hou
                      have HUQ := Bx.mk hu
                      have i1 : (q : Int) < (j : Int) := by omega
                      have i0 : (0 : Int) ≤ (q : Int) := by omega
                      have HCC := Bx.mk (And.intro hcu hc)
                      have hcc := HCC.out
                      obtain ⟨wo, rfl⟩ : ∃ wo : World, wo = wr := ⟨_, rfl⟩
                      clear ex hsl hsu hgu hou hou0 ho hu htle hcu hc
                      go_wp2_with fail
                      go_region_held3 (fun w' => w'.cell? ⟨gv, q, none⟩ = some (.slice Au tl cu) ∧ w'.cell? ⟨b1, o1 + q, none⟩ = some (.slice A' tl c')) (first | go_keep | exact s1 | exact hcc) ((go_at_call 14; refine (same_any Au A' tl tl cu c' t t _ _ _ (by omega) (by omega) (HSU.out.ch ((Ch.refl (fun _ => False) wo).drewN 1) (fun _ _ _ h => h)) (HSLT.out.ch ((Ch.refl (fun _ => False) wo).drewN 1) (fun _ _ _ h => h))).mono ?_; rintro e9 w8 ⟨rfl, j3, ew3⟩; have s1 : w8.cell? ⟨gv, q, none⟩ = some (.slice Au tl cu) ∧ w8.cell? ⟨b1, o1 + q, none⟩ = some (.slice A' tl c') := (by rw [ew3]; exact HCC.out)))
                      all_goals
                        have hCp : Ch (fun _ => False) wo (wo.drewN (1 + j3)) := (Ch.refl _ wo).drewN _
                        clear s1 ew3
                        obtain ⟨wp, hwp⟩ : ∃ wp, wo.drewN (1 + j3) = wp := ⟨_, rfl⟩
                        rw [hwp] at hCp ⊢
                        have hcv := hCp.cell (p := ⟨gv, q, none⟩) (fun h => h) HCC.out.1
                        have hsp := spoil_any (.slice Au tl cu) tl (t.map (Value.int .u8)) wp (by omega) (hCp.own HOU.out (fun _ _ h => h))
                        have HLFP := Bx.mk (hLF.out.keep hCp)
                        have HIP := Bx.mk (hI.out.keep hCp)
                        have HCWP := Bx.mk (hC.out.trans hCp (fun _ _ h => h))
                        clear hCp hwp hcc hLF hI hC
                        go_wp2_with fail
                        refine hsp.mono ?_
                        rintro e9 w9 ⟨rfl, hC9⟩
                        have HLF9 : Bx (Left w9 (.slice (some ⟨gv, 0, none⟩) j cv) us xss (q + 1)) := ⟨⟨hC9.own HLFP.out.own (fun g hg e => (HGU.out g e).2 hg), fun i x y hi hx hy => hC9.own (HLFP.out.rows i x y (by omega) hx hy) (fun g hg e => by
                          have := HCP.out.apart i q x _ g hx HUQ.out hg e
                          omega)⟩⟩
                        have HI9 : Bx (Ix w9 (fun g => w2.heap.size ≤ g) b xss) := ⟨HIP.out.chS hC9 (fun g (hg : w2.heap.size ≤ g) _ e => by have := HOU0.out g e; omega) (fun e => by have h1 := (HGU.out _ e).1; have h2 := tab_lt HT.out; omega)⟩
                        have HC9 : Bx (Ch (fun _ => False) w w9) := ⟨HCWP.out.trans hC9 (fun g hg e => by have := (HGU.out g e).1; omega)⟩
                        clear hC9 hsp hcv
                        go_wp2
                        go_roundw
                        case rel => exact ⟨q + 1, by omega, by go_num, HLF9, HI9, HC9⟩
                        case measure => simp [intOf]; omega
                    · have dq : decide ((q : Int) < (j : Int)) = false := by simp; omega
                      have hal := alike_any xss pss qs A B C j c m d k e b wr hI.out (HZ.out.ch hC.out (fun _ _ _ h => h)) (HP.out.ch hC.out (fun _ _ _ h => h)) (HA.out.ch hC.out (fun _ _ _ h => h)) HBP.out (by omega) (by omega) (by omega) HPE.out HSE.out
                      clear hLF hI
                      go_wp2_with fail
                      refine hal.mono ?_
                      rintro e0 w5 ⟨rfl, hC5⟩
                      have HC5 := Bx.mk (hC.out.trans hC5 (fun _ _ h => h))
                      have hkn := known_any w5 (HT.out.keep HC5.out)
                      clear hC5 hal hC
                      go_wp2_with fail
                      refine hkn.mono ?_
                      rintro e0 w6 ⟨rfl, hC6⟩
                      have HC6 := Bx.mk (HC5.out.trans hC6 (fun _ _ h => h))
                      clear hC6 hkn
                      go_wp2
                      go_ret
                      exact ⟨rfl, HC6.out⟩
                · have := HSL.out.1
                  omega
end
end Go.Proofs.YtckkjccjkdidjaaGreatDoor
