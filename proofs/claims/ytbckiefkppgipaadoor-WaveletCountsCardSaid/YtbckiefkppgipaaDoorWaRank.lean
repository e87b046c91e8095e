/-
  The contracts of Rank and Select of a Tree.
-/
import Derived.Test.YtbckiefkppgipaaDoorWaGather
namespace Go.Proofs.YtbckiefkppgipaaDoor
open Go.RowKit Go.Oct Go.Bi Go.Wa

theorem fit_out {W : Nat} {c : Int} (hW : 1 ≤ W) (h : fitB W c = false) : c < 0 ∨ ((2 ^ W : Nat) : Int) ≤ c := by
  unfold fitB at h
  have h1 : decide (0 < W) = true := decide_eq_true hW
  rw [h1, Bool.true_and, Bool.and_eq_false_iff, decide_eq_false_iff_not, decide_eq_false_iff_not] at h
  omega
theorem fit_in {W : Nat} {c : Int} (h : fitB W c = true) : ∃ n : Nat, c = n ∧ n < 2 ^ W := by
  unfold fitB at h
  rw [Bool.and_eq_true, Bool.and_eq_true, decide_eq_true_eq, decide_eq_true_eq, decide_eq_true_eq] at h
  exact ⟨c.toNat, by omega, by omega⟩
theorem fit_of {W m : Nat} (hW : 1 ≤ W) (hm : m < 2 ^ W) : fitB W m = true := by
  unfold fitB
  generalize 2 ^ W = p at *
  simp only [Bool.and_eq_true, decide_eq_true_eq]
  omega
theorem fit_nil (c : Int) : fitB 0 c = false := by simp [fitB]

section
variable {F : Nat → Prop}
theorem trank_nil (c i : Int) (w : World) : Calls Tryd.prog 16 #[.pointer none, .int .i64 c, .int .i64 i] w fun e w' => e = .returned (.int .i64 0) ∧ w = w' := by
  have hf := fit_nil c
  go_enter Tryd.func16, Tryd.ntmps16
  go_wp2_with fail
  refine (width_nil _).mono ?_
  rintro e w' ⟨rfl, rfl⟩
  go_wp2_with fail
  refine (fits_any 0 c false _ (by omega) hf).mono ?_
  rintro e w' ⟨rfl, rfl⟩
  go_wp2
  go_ret
  exact ⟨rfl, rfl⟩
theorem trank_any (b W : Nat) (l : List Nat) (c i r : Int) (w : World) (h : Tr w F b W l) (hr : ((rk (hit l c) true i : Nat) : Int) = r) :
    Calls Tryd.prog 16 #[.pointer (some ⟨b, 0, none⟩), .int .i64 c, .int .i64 i] w fun e w' => e = .returned (.int .i64 r) ∧ Ch (fun _ => False) w w' := by
  have hW := h.hi
  have hW1 := h.lo
  have hs := h.short
  obtain ⟨g, h5⟩ := h.row
  have H := Bx.mk h
  obtain ⟨n, hn⟩ : ∃ n, l.length = n := ⟨_, rfl⟩
  rw [hn] at hs
  cases hf : fitB W c
  · rw [hit_out h.lt (fit_out hW1 hf), rk_repl] at hr
    rw [if_neg (by decide)] at hr
    have hr0 : r = 0 := hr.symm
    subst hr0
    have HF := Bx.mk hf
    clear h hf hr
    go_enter Tryd.func16, Tryd.ntmps16
    go_wp2_with fail
    refine (width_cell b W W _ _ h5).mono ?_
    rintro e w' ⟨rfl, rfl⟩
    go_wp2_with fail
    refine (fits_any W c false _ hW HF.out).mono ?_
    rintro e w' ⟨rfl, rfl⟩
    go_wp2
    go_ret
    exact ⟨rfl, Ch.refl _ _⟩
  · have HF := Bx.mk hf
    obtain ⟨m, rfl, hm⟩ := fit_in hf
    have HM := Bx.mk hm
    obtain ⟨k, hk⟩ : ∃ k, clip n i = k := ⟨_, rfl⟩
    have hkn : k ≤ n := by rw [← hk]; unfold clip; omega
    have hkl : k ≤ l.length := by omega
    obtain ⟨d1, d2⟩ := D_rank h.lt hm hkl
    have d3 := D_le (W := W) (c := m) W hkl
    rw [rk_clip, hit_len, hn, show min i.toNat n = k from hk] at hr
    have HKL := Bx.mk hkl
    have HG : ∀ w', Tr w' F b W l → Calls Tryd.prog 30 #[.pointer (some ⟨b, 0, none⟩), .int .i64 m, .int .i64 k] w' _ := fun w' h' => gather_any b W m k l w' F h' hm hkl
    have HG := Bx.mk HG
    generalize D W l m W 0 = x at *
    generalize D W l m W k = y at *
    have hxy : (y : Int) - (x : Int) = r := by omega
    have d4 : y ≤ 131072 := by omega
    have HXY := Bx.mk hxy
    have HK : Bx (((clip n i : Nat) : Int) = k) := ⟨by rw [hk]⟩
    have HN := Bx.mk hn
    clear h hf hr d1 hm hkl hk hn hxy
    go_enter Tryd.func16, Tryd.ntmps16
    go_wp2_with fail
    refine (width_cell b W W _ _ h5).mono ?_
    rintro e w' ⟨rfl, rfl⟩
    go_wp2_with fail
    refine (fits_any W m true _ hW HF.out).mono ?_
    rintro e w' ⟨rfl, rfl⟩
    go_wp2_with fail
    refine (within_any b W n l i _ H.out HN.out).mono ?_
    rintro e w' ⟨he, rfl⟩
    rw [HK.out] at he
    subst he
    go_wp2_with fail
    refine (HG.out _ H.out).mono ?_
    rintro e w1 ⟨rfl, hC⟩
    have HC := Bx.mk hC
    clear hC
    go_wp2
    go_ret
    exact ⟨ret_int (by have := HXY.out; omega), HC.out⟩

theorem tselect_nil (c k : Int) (w : World) : Calls Tryd.prog 18 #[.pointer none, .int .i64 c, .int .i64 k] w fun e w' => e = .returned (.int .i64 (-1)) ∧ w = w' := by
  have hf := fit_nil c
  go_enter Tryd.func18, Tryd.ntmps18
  go_wp2_with fail
  refine (width_nil _).mono ?_
  rintro e w' ⟨rfl, rfl⟩
  go_wp2_with fail
  refine (fits_any 0 c false _ (by omega) hf).mono ?_
  rintro e w' ⟨rfl, rfl⟩
  go_wp2
  go_ret
  exact ⟨rfl, rfl⟩
theorem tselect_out (b W : Nat) (l : List Nat) (c k : Int) (w : World) (h : Tr w F b W l) (hf : fitB W c = false) :
    Calls Tryd.prog 18 #[.pointer (some ⟨b, 0, none⟩), .int .i64 c, .int .i64 k] w fun e w' => e = .returned (.int .i64 (-1)) ∧ Ch (fun _ => False) w w' := by
  have hW := h.hi
  obtain ⟨g, h5⟩ := h.row
  have HF := Bx.mk hf
  clear h hf
  go_enter Tryd.func18, Tryd.ntmps18
  go_wp2_with fail
  refine (width_cell b W W _ _ h5).mono ?_
  rintro e w' ⟨rfl, rfl⟩
  go_wp2_with fail
  refine (fits_any W c false _ hW HF.out).mono ?_
  rintro e w' ⟨rfl, rfl⟩
  go_wp2
  go_ret
  exact ⟨rfl, Ch.refl _ _⟩
theorem gather_is (b W c i x y : Nat) (l : List Nat) (w : World) (h : Tr w F b W l) (hc : c < 2 ^ W) (hi : i ≤ l.length) (hx : D W l c W 0 = x) (hy : D W l c W i = y) :
    Calls Tryd.prog 30 #[.pointer (some ⟨b, 0, none⟩), .int .i64 c, .int .i64 i] w fun e w' => e = .returned (.tuple #[.int .i64 x, .int .i64 y]) ∧ Ch (fun _ => False) w w' := by
  subst hx hy
  exact gather_any b W c i l w F h hc hi
theorem tselect_none (b W m : Nat) (l : List Nat) (k : Int) (w : World) (h : Tr w F b W l) (hm : m < 2 ^ W) (hk : k < 0 ∨ ((D W l m W l.length - D W l m W 0 : Nat) : Int) ≤ k) :
    Calls Tryd.prog 18 #[.pointer (some ⟨b, 0, none⟩), .int .i64 m, .int .i64 k] w fun e w' => e = .returned (.int .i64 (-1)) ∧ Ch (fun _ => False) w w' := by
  have hW := h.hi
  have hW1 := h.lo
  have hs := h.short
  obtain ⟨g, h5⟩ := h.row
  have H := Bx.mk h
  obtain ⟨n, hn⟩ : ∃ n, l.length = n := ⟨_, rfl⟩
  have hf : fitB W m = true := fit_of hW1 hm
  have HF := Bx.mk hf
  have HM := Bx.mk hm
  have d2 := D_mono (W := W) (l := l) (c := m) W (Nat.zero_le l.length)
  have d3 := D_le (W := W) (l := l) (c := m) W (Nat.le_refl _)
  rw [hn] at d2 d3 hs hk
  obtain ⟨x, hx⟩ : ∃ x, D W l m W 0 = x := ⟨_, rfl⟩
  obtain ⟨y, hy⟩ : ∃ y, D W l m W n = y := ⟨_, rfl⟩
  rw [hx, hy] at d2 hk
  rw [hy] at d3
  have HX := Bx.mk hx
  have HY := Bx.mk hy
  have HN := Bx.mk hn
  have HNL : Bx (n ≤ l.length) := ⟨by omega⟩
  clear h hf hm hx hy hn
  have step : ∀ k0 : Bool, decide (k < 0) = k0 → (k0 = false → decide ((y : Int) - (x : Int) ≤ k) = true ∧ 0 ≤ k) → Calls Tryd.prog 18 #[.pointer (some ⟨b, 0, none⟩), .int .i64 m, .int .i64 k] w fun e w' => e = .returned (.int .i64 (-1)) ∧ Ch (fun _ => False) w w' := by
    intro k0 hk0 hk1
    cases k0
    · obtain ⟨hk2, hk3⟩ := hk1 rfl
      clear hk1 hk
      go_enter Tryd.func18, Tryd.ntmps18
      go_wp2_with fail
      refine (width_cell b W W _ _ h5).mono ?_
      rintro e w' ⟨rfl, rfl⟩
      go_wp2_with fail
      refine (fits_any W m true _ hW HF.out).mono ?_
      rintro e w' ⟨rfl, rfl⟩
      go_wp2_with fail
      refine (tlen_any b W n l _ H.out HN.out).mono ?_
      rintro e w' ⟨rfl, rfl⟩
      go_wp2_with fail
      refine (gather_is b W m n x y l _ H.out HM.out HNL.out HX.out HY.out).mono ?_
      rintro e w1 ⟨rfl, hC⟩
      have HC := Bx.mk hC
      clear hC
      go_wp2
      go_ret
      exact ⟨rfl, HC.out⟩
    · clear hk1 hk
      go_enter Tryd.func18, Tryd.ntmps18
      go_wp2_with fail
      refine (width_cell b W W _ _ h5).mono ?_
      rintro e w' ⟨rfl, rfl⟩
      go_wp2_with fail
      refine (fits_any W m true _ hW HF.out).mono ?_
      rintro e w' ⟨rfl, rfl⟩
      go_wp2_with fail
      refine (tlen_any b W n l _ H.out HN.out).mono ?_
      rintro e w' ⟨rfl, rfl⟩
      go_wp2_with fail
      refine (gather_is b W m n x y l _ H.out HM.out HNL.out HX.out HY.out).mono ?_
      rintro e w1 ⟨rfl, hC⟩
      have HC := Bx.mk hC
      clear hC
      go_wp2
      go_ret
      exact ⟨rfl, HC.out⟩
  refine step _ rfl fun h0 => ?_
  have h1 := of_decide_eq_false h0
  exact ⟨decide_eq_true (by omega), by omega⟩

set_option maxHeartbeats 1000000 in
theorem tselect_in (b W m k : Nat) (l : List Nat) (w : World) (h : Tr w F b W l) (hT : Tab w) (hm : m < 2 ^ W) (hk : D W l m W 0 + k < D W l m W l.length) :
    Calls Tryd.prog 18 #[.pointer (some ⟨b, 0, none⟩), .int .i64 m, .int .i64 k] w fun e w' => e = .returned (.int .i64 (sel (hit l m) true k)) ∧ Ch (fun _ => False) w w' := by
  have hW := h.hi
  have hW1 := h.lo
  have hs := h.short
  obtain ⟨g, h5, h8⟩ := h.lvs
  have HL := Bx.mk h8
  have H := Bx.mk h
  have HT := Bx.mk hT
  obtain ⟨n, hn⟩ : ∃ n, l.length = n := ⟨_, rfl⟩
  have hf : fitB W m = true := fit_of hW1 hm
  have HF := Bx.mk hf
  have HM := Bx.mk hm
  have d3 := D_le (W := W) (l := l) (c := m) W (Nat.le_refl _)
  obtain ⟨p, hp1, hp2, hp3, hp4⟩ := D_select h.lt hm hk
  have HP : Bx (∀ d, d ≤ W → D W l m d p ≤ 131072 ∧ (bt W l d)[D W l m d p]? = some (dgt W d m)) := ⟨fun d hd => ⟨Nat.le_trans (D_le d (Nat.le_of_lt hp1)) h.short, bt_at h.lt hp2 hd⟩⟩
  rw [hp3]
  rw [hn] at d3 hs hk
  obtain ⟨x, hx⟩ : ∃ x, D W l m W 0 = x := ⟨_, rfl⟩
  obtain ⟨y, hy⟩ : ∃ y, D W l m W n = y := ⟨_, rfl⟩
  rw [hx, hy] at hk
  rw [hx] at hp4
  rw [hy] at d3
  have HX := Bx.mk hx
  have HY := Bx.mk hy
  have HN := Bx.mk hn
  have HNL : Bx (n ≤ l.length) := ⟨by omega⟩
  have HQ := Bx.mk hp4
  have e1 : decide ((k : Int) < 0) = false := by simp
  have e2 : decide ((y : Int) - (x : Int) ≤ (k : Int)) = false := by simp; omega
  clear h hf hm hx hy hn hp2 hp3 hp4 h8 hT
  go_enter Tryd.func18, Tryd.ntmps18
  go_wp2_with fail
  refine (width_cell b W W _ _ h5).mono ?_
  rintro e w' ⟨rfl, rfl⟩
  go_wp2_with fail
  refine (fits_any W m true _ hW HF.out).mono ?_
  rintro e w' ⟨rfl, rfl⟩
  go_wp2_with fail
  refine (tlen_any b W n l _ H.out HN.out).mono ?_
  rintro e w' ⟨rfl, rfl⟩
  go_wp2_with fail
  refine (gather_is b W m n x y l _ H.out HM.out HNL.out HX.out HY.out).mono ?_
  rintro e w1 ⟨rfl, hC⟩
  have HC := Bx.mk hC
  clear hC
  have h51 := HC.out.cell (fun h => h) h5
  go_wp2_with fail
  refine (width_cell b W W _ _ h51).mono ?_
  rintro e w' ⟨rfl, rfl⟩
  go_wp2_with fail
  go_loopw [9, 10] (fun i d wr => ∃ t : Nat, t ≤ W ∧ d = .int .i64 ((t : Int) - 1) ∧ i = .int .i64 (D W l m t p : Nat) ∧ Ch (fun _ => False) w wr) (fun _ d _ => (intOf d + 1).toNat)
  case atStart => exact ⟨W, Nat.le_refl _, rfl, by rw [HQ.out]; go_num, HC.out⟩
  case round =>
    obtain ⟨t, ht, rfl, rfl, hC⟩ := hrel
    have h5r := hC.cell (fun h => h) h5
    rcases t with _ | s
    · rw [show (((0 : Nat) : Int) - 1) = -1 from rfl]
      have HCC := Bx.mk hC
      clear hC
      go_wp2
      go_ret
      exact ⟨rfl, HCC.out⟩
    · rw [show (((s + 1 : Nat) : Int) - 1) = (s : Int) by omega]
      obtain ⟨v, k1, k2, k3⟩ := (HL.out.keep hC) s (by omega)
      obtain ⟨hb1, hb2⟩ := HP.out s (by omega)
      obtain ⟨hb3, _⟩ := HP.out (s + 1) ht
      have hup := up_dn hb2
      have HV := Bx.mk k3
      have HCC := Bx.mk hC
      have HTT := Bx.mk (HT.out.keep hC)
      have hdn : dn (bt W l s) (dgt W s m) (D W l m s p) = D W l m (s + 1) p := rfl
      have hle : D W l m (s + 1) p ≤ (bt W l s).length := by rw [bt_len]; exact D_le _ (Nat.le_of_lt hp1)
      rw [hdn] at hup
      generalize hi1 : D W l m (s + 1) p = i1 at *
      generalize hi2 : D W l m s p = i2 at *
      have HI2 := Bx.mk hi2
      generalize hr : dgt W s m = r at *
      have HR := Bx.mk hr
      generalize bt W l s = yy at *
      have HU := Bx.mk hup
      generalize hq : yy.count false = q at *
      have HZ : Bx ((q : Int) = (yy.count false : Nat)) := ⟨by rw [hq]⟩
      have HLE := Bx.mk hle
      clear hb2 hup k3 hC hdn hi1 hi2 hr hle hq
      have hsW : s < W := by omega
      have g0 : (0 : Int) ≤ (s : Int) := by omega
      have g1 : (s : Int) < (W : Int) := by omega
      go_wp2_with fail
      go_region_held3 (fun w' => w'.cell? ⟨b, 0, none⟩ = some (.slice (some ⟨g, 0, none⟩) W W) ∧ w'.cell? ⟨g, s * 2, none⟩ = some (.pointer (some ⟨v, 0, none⟩)) ∧ w'.cell? ⟨g, s * 2 + 1, none⟩ = some (.int .i64 q)) (first | go_keep | exact s2 | exact ⟨h5r, k1, k2⟩) (first | (go_at_call 23; refine (digit_any b W W m s _ r _ (by exact h5r) hW hsW HM.out HR.out).mono ?_; rintro e w' ⟨rfl, rfl⟩) | (go_at_call 32; refine (up_any v i1 yy r q i2 _ (by exact HV.out) (by exact HTT.out) HLE.out HZ.out (by rw [← HZ.out]; exact HU.out)).mono ?_; rintro e w2 ⟨rfl, hc2⟩; have s2 : w2.cell? ⟨b, 0, none⟩ = some (.slice (some ⟨g, 0, none⟩) W W) ∧ w2.cell? ⟨g, s * 2, none⟩ = some (.pointer (some ⟨v, 0, none⟩)) ∧ w2.cell? ⟨g, s * 2 + 1, none⟩ = some (.int .i64 q) := ⟨hc2.cell (fun h => h) h5r, hc2.cell (fun h => h) k1, hc2.cell (fun h => h) k2⟩))
      all_goals
        have HC2 := Bx.mk (HCC.out.drew.trans hc2 (fun _ _ h => h))
        clear hc2 s2
        go_wp2
        go_roundw
        case rel => exact ⟨s, by omega, by go_num, by rw [HI2.out], HC2.out⟩
        case measure => simp [intOf]
end
end Go.Proofs.YtbckiefkppgipaaDoor
