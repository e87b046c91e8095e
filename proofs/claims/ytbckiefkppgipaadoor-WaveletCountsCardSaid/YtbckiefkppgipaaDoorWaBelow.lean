/-
  The contract of Below of a Tree.
-/
import Derived.Test.YtbckiefkppgipaaDoorWaRank
namespace Go.Proofs.YtbckiefkppgipaaDoor
open Go.RowKit Go.Oct Go.Bi Go.Wa

/-- How many between two places are less. -/
def bel (l : List Nat) (c f t : Int) : Nat := rk (low l c) true t - rk (low l c) true f
theorem rk_mono (b : List Bool) (o : Bool) {f t : Int} (h : f ≤ t) : rk b o f ≤ rk b o t := count_mono o b (by omega)
theorem bel_clip (l : List Nat) (c f t : Int) : bel l c f t = bel l c (clip l.length f : Nat) (clip l.length t : Nat) := by
  unfold bel clip
  rw [rk_clip (low l c) f, rk_clip (low l c) t, low_len]
theorem bel_zero {l : List Nat} {c f t : Int} (h : t ≤ f ∨ c ≤ 0) : bel l c f t = 0 := by
  unfold bel
  rcases h with h | h
  · have := rk_mono (low l c) true h
    omega
  · rw [low_none h, rk_repl, rk_repl]
    rfl
theorem bel_all {W : Nat} {l : List Nat} {c : Int} {f t : Nat} (hl : ∀ x ∈ l, x < 2 ^ W) (hc : ((2 ^ W : Nat) : Int) ≤ c) (hf : f ≤ l.length) (ht : t ≤ l.length) : bel l c f t = t - f := by
  unfold bel
  rw [low_all hl hc, rk_repl, rk_repl, if_pos rfl, if_pos rfl]
  omega

section
variable {F : Nat → Prop}
theorem within_nil (i : Int) (w : World) :
    Calls Tryd.prog 31 #[.pointer none, .int .i64 i] w fun e w' => e = .returned (.int .i64 0) ∧ w = w' := by
  by_cases h1 : i ≤ 0
  · have hm : max i 0 = 0 := by omega
    go_enter Tryd.func31, Tryd.ntmps31
    go_wp2_with (go_at_call 12; refine (tlen_nil _).mono ?_; rintro e w' ⟨rfl, rfl⟩)
    all_goals
      go_ret
      exact ⟨ret_int (by omega), rfl⟩
  · go_enter Tryd.func31, Tryd.ntmps31
    go_wp2_with (go_at_call 12; refine (tlen_nil _).mono ?_; rintro e w' ⟨rfl, rfl⟩)
    all_goals
      go_ret
      exact ⟨ret_int (by omega), rfl⟩
theorem tbelow_nil (c f t : Int) (w : World) : Calls Tryd.prog 20 #[.pointer none, .int .i64 c, .int .i64 f, .int .i64 t] w fun e w' => e = .returned (.int .i64 0) ∧ w = w' := by
  go_enter Tryd.func20, Tryd.ntmps20
  go_wp2_with fail
  refine (within_nil f _).mono ?_
  rintro e w' ⟨rfl, rfl⟩
  go_wp2_with fail
  refine (within_nil t _).mono ?_
  rintro e w' ⟨rfl, rfl⟩
  go_wp2
  go_ret
  exact ⟨rfl, rfl⟩
theorem within_is (b W n k : Nat) (l : List Nat) (i : Int) (w : World) (h : Tr w F b W l) (hn : l.length = n) (hk : clip n i = k) :
    Calls Tryd.prog 31 #[.pointer (some ⟨b, 0, none⟩), .int .i64 i] w fun e w' => e = .returned (.int .i64 k) ∧ w = w' := by
  subst hk
  exact within_any b W n l i w h hn
theorem tbelow_zero (b W f t : Nat) (l : List Nat) (c fi ti : Int) (w : World) (h : Tr w F b W l) (hf : clip l.length fi = f) (ht : clip l.length ti = t) (hz : t ≤ f ∨ c ≤ 0) :
    Calls Tryd.prog 20 #[.pointer (some ⟨b, 0, none⟩), .int .i64 c, .int .i64 fi, .int .i64 ti] w fun e w' => e = .returned (.int .i64 0) ∧ w = w' := by
  have H := Bx.mk h
  have HF := Bx.mk hf
  have HT := Bx.mk ht
  clear h hf ht
  by_cases h1 : t ≤ f
  · clear hz
    go_enter Tryd.func20, Tryd.ntmps20
    go_wp2_with fail
    refine (within_is b W _ f l fi _ H.out rfl HF.out).mono ?_
    rintro e w' ⟨rfl, rfl⟩
    go_wp2_with fail
    refine (within_is b W _ t l ti _ H.out rfl HT.out).mono ?_
    rintro e w' ⟨rfl, rfl⟩
    go_wp2
    go_ret
    exact ⟨rfl, rfl⟩
  · have h2 : c ≤ 0 := by omega
    have h3 : f < t := by omega
    clear hz h1
    go_enter Tryd.func20, Tryd.ntmps20
    go_wp2_with fail
    refine (within_is b W _ f l fi _ H.out rfl HF.out).mono ?_
    rintro e w' ⟨rfl, rfl⟩
    go_wp2_with fail
    refine (within_is b W _ t l ti _ H.out rfl HT.out).mono ?_
    rintro e w' ⟨rfl, rfl⟩
    go_wp2
    go_ret
    exact ⟨rfl, rfl⟩
theorem tbelow_all (b W f t : Nat) (l : List Nat) (c fi ti : Int) (w : World) (h : Tr w F b W l) (hf : clip l.length fi = f) (ht : clip l.length ti = t) (hft : f < t) (hc0 : 0 < c) (hc : fitB W c = false) :
    Calls Tryd.prog 20 #[.pointer (some ⟨b, 0, none⟩), .int .i64 c, .int .i64 fi, .int .i64 ti] w fun e w' => e = .returned (.int .i64 (t - f : Nat)) ∧ w = w' := by
  have hW := h.hi
  have hs := h.short
  have htl : t ≤ l.length := by rw [← ht]; unfold clip; omega
  obtain ⟨g, h5⟩ := h.row
  have H := Bx.mk h
  have HF := Bx.mk hf
  have HT := Bx.mk ht
  have HC := Bx.mk hc
  clear h hf ht hc
  go_enter Tryd.func20, Tryd.ntmps20
  go_wp2_with fail
  refine (within_is b W _ f l fi _ H.out rfl HF.out).mono ?_
  rintro e w' ⟨rfl, rfl⟩
  go_wp2_with fail
  refine (within_is b W _ t l ti _ H.out rfl HT.out).mono ?_
  rintro e w' ⟨rfl, rfl⟩
  go_wp2_with fail
  refine (width_cell b W W _ _ h5).mono ?_
  rintro e w' ⟨rfl, rfl⟩
  go_wp2_with fail
  refine (fits_any W c false _ hW HC.out).mono ?_
  rintro e w' ⟨rfl, rfl⟩
  go_wp2
  go_ret
  exact ⟨ret_int (by first | omega | (unfold wrap64; omega)), rfl⟩

set_option maxHeartbeats 2000000 in
theorem tbelow_in (b W f t m : Nat) (l : List Nat) (fi ti : Int) (w : World) (h : Tr w F b W l) (hf : clip l.length fi = f) (ht : clip l.length ti = t) (hft : f < t) (hm0 : 0 < m) (hm : m < 2 ^ W) :
    Calls Tryd.prog 20 #[.pointer (some ⟨b, 0, none⟩), .int .i64 m, .int .i64 fi, .int .i64 ti] w fun e w' => e = .returned (.int .i64 (belowTo W l m W f t : Nat)) ∧ Ch (fun _ => False) w w' := by
  have hW := h.hi
  have hs := h.short
  have htl : t ≤ l.length := by rw [← ht]; unfold clip; omega
  obtain ⟨g, h5, h8⟩ := h.lvs
  have HL := Bx.mk h8
  have H := Bx.mk h
  have HF := Bx.mk hf
  have HT := Bx.mk ht
  have hfi := fit_of h.lo hm
  have HFI := Bx.mk hfi
  have HM := Bx.mk hm
  have HK : Bx (∀ d, belowTo W l m d f t ≤ 131072) := ⟨fun d => by
    unfold belowTo
    have h1 := List.length_filter_le (fun x => decide (top W d x < top W d m)) (seg l f t)
    rw [seg_len l htl] at h1
    omega⟩
  have HS : Bx (∀ d, d < W → (dgt W d m = true → belowTo W l m (d + 1) f t + rk (bt W l d) false (D W l m d f) = belowTo W l m d f t + rk (bt W l d) false (D W l m d t)) ∧ (dgt W d m = false → belowTo W l m (d + 1) f t = belowTo W l m d f t)) := ⟨fun d hd => belowTo_succ h.lt hm hd (Nat.le_of_lt hft)⟩
  have HZ := Bx.mk (belowTo_zero (l := l) hm f t)
  have HDM : Bx (∀ d, D W l m d f ≤ D W l m d t) := ⟨fun d => D_mono d (Nat.le_of_lt hft)⟩
  clear h hf ht hm h8 hfi
  go_enter Tryd.func20, Tryd.ntmps20
  go_wp2_with fail
  refine (within_is b W _ f l fi _ H.out rfl HF.out).mono ?_
  rintro e w' ⟨rfl, rfl⟩
  go_wp2_with fail
  refine (within_is b W _ t l ti _ H.out rfl HT.out).mono ?_
  rintro e w' ⟨rfl, rfl⟩
  go_wp2_with fail
  refine (width_cell b W W _ _ h5).mono ?_
  rintro e w' ⟨rfl, rfl⟩
  go_wp2_with fail
  refine (fits_any W m true _ hW HFI.out).mono ?_
  rintro e w' ⟨rfl, rfl⟩
  go_wp2_with fail
  go_loopw [2, 3, 9, 10, 11, 12, 41] (fun x y s _ _ _ j wr => ∃ d : Nat, d ≤ W ∧ j = .int .i64 d ∧ x = .int .i64 (D W l m d f : Nat) ∧ y = .int .i64 (D W l m d t : Nat) ∧ s = .int .i64 (belowTo W l m d f t : Nat) ∧ Ch (fun _ => False) w wr) (fun _ _ _ _ _ _ j _ => W - (intOf j).toNat)
  case atStart => exact ⟨0, Nat.zero_le _, rfl, rfl, rfl, by rw [HZ.out]; rfl, Ch.refl _ _⟩
  case round =>
    obtain ⟨d, hd, rfl, rfl, rfl, rfl, hC⟩ := hrel
    by_cases hlt : d < W
    · obtain ⟨v, k1, k2, k3⟩ := (HL.out.keep hC) d hlt
      have h5' := hC.cell (fun h => h) h5
      have HV := Bx.mk k3
      have HC := Bx.mk hC
      have HG1 : Bx (dn (bt W l d) (dgt W d m) (D W l m d f) = D W l m (d + 1) f) := ⟨rfl⟩
      have HG2 : Bx (dn (bt W l d) (dgt W d m) (D W l m d t) = D W l m (d + 1) t) := ⟨rfl⟩
      obtain ⟨hs1, hs0⟩ := HS.out d hlt
      have hk0 := HK.out d
      have hk1 := HK.out (d + 1)
      have hxy := rk_mono (bt W l d) false (f := (D W l m d f : Nat)) (t := (D W l m d t : Nat)) (by have := HDM.out d; omega)
      have hyl := rk_le (bt W l d) false (D W l m d t : Nat)
      rw [bt_len] at hyl
      generalize hf2 : D W l m (d + 1) f = f2 at *
      generalize ht2 : D W l m (d + 1) t = t2 at *
      generalize hn2 : belowTo W l m (d + 1) f t = n2 at *
      generalize belowTo W l m d f t = n1 at *
      have HF2 := Bx.mk hf2
      have HT2 := Bx.mk ht2
      have HN2 := Bx.mk hn2
      clear hf2 ht2 hn2
      generalize D W l m d f = f1 at *
      generalize D W l m d t = t1 at *
      generalize hr : dgt W d m = r at *
      generalize hy : bt W l d = y at *
      generalize hq : y.count false = q at *
      have HZ : Bx ((q : Int) = (y.count false : Nat)) := ⟨by rw [hq]⟩
      have HR := Bx.mk hr
      clear hr k3 hC hq
      go_wp2_with fail
      obtain ⟨c0, c1⟩ := cells2 wr (.pointer (some ⟨v, 0, none⟩)) (.int .i64 q) 52
      have hC1 := (Ch.refl (fun _ => False) wr).alloc (.cells #[.pointer (some ⟨v, 0, none⟩), .int .i64 q] 52)
      have h51 := hC1.cell (fun h => h) h5'
      have HC1 := Bx.mk (HC.out.trans hC1 (fun _ _ h => h))
      have HV1 := Bx.mk (HV.out.keep hC1)
      clear hC1
      generalize wr.heap.size = B at *
      generalize World.alloc wr _ = w1 at *
      refine (digit_any b W W m d _ r _ h51 hW hlt HM.out HR.out).mono ?_
      rintro e w' ⟨rfl, rfl⟩
      clear hy
      cases r
      · have hn12 : n2 = n1 := hs0 rfl
        have HN12 := Bx.mk hn12
        clear hs0 hs1 hn12 hxy hyl
        go_wp2_with fail
        have hcc := Ch.refl (fun _ => False) w1
        go_region_held3 (fun w' => w'.cell? ⟨B, 0, none⟩ = some (.pointer (some ⟨v, 0, none⟩)) ∧ w'.cell? ⟨B, 1, none⟩ = some (.int .i64 q)) (first | go_keep | exact s2 | exact ⟨c0, c1⟩) ((go_at_call 28; refine (down_is v _ y false q _ (by first | exact HV1.out.keep hcc | exact HV1.out) HZ.out).mono ?_; rintro e w2 ⟨rfl, hc2⟩; have hcc : Ch (fun _ => False) w1 w2 := (by first | exact hcc.trans hc2 (fun _ _ h => h) | exact hcc.drew.trans hc2 (fun _ _ h => h)); have s2 : w2.cell? ⟨B, 0, none⟩ = some (.pointer (some ⟨v, 0, none⟩)) ∧ w2.cell? ⟨B, 1, none⟩ = some (.int .i64 q) := ⟨hcc.cell (fun h => h) c0, hcc.cell (fun h => h) c1⟩))
        all_goals
          have HCC := Bx.mk (HC1.out.trans hcc (fun _ _ h => h))
          clear hcc hc2 s2
          rw [HG1.out, HG2.out]
          go_wp2
          go_roundw
          case rel => exact ⟨d + 1, by omega, by go_num, by rw [HF2.out], by rw [HT2.out], by rw [HN2.out, HN12.out], HCC.out⟩
          case measure => simp [intOf]; omega
      · have hn12 := hs1 rfl
        obtain ⟨z, hz⟩ : ∃ z, rk y false (t1 : Nat) - rk y false (f1 : Nat) = z := ⟨_, rfl⟩
        have hz1 : ((rk y false (t1 : Nat) : Nat) : Int) - ((rk y false (f1 : Nat) : Nat) : Int) = (z : Int) := by omega
        have hz2 : (n1 : Int) + (z : Int) = (n2 : Int) := by omega
        have hzl : z ≤ 131072 := by omega
        have hw1 : IntKind.i64.wrap (((rk y false (t1 : Nat) : Nat) : Int) - ((rk y false (f1 : Nat) : Nat) : Int)) = (z : Int) := by rw [hz1]; exact IntWalk.i64_in _ (by omega)
        have hw2 : wrap64 (((rk y false (t1 : Nat) : Nat) : Int) - ((rk y false (f1 : Nat) : Nat) : Int)) = (z : Int) := by rw [hz1]; unfold wrap64; omega
        have hw3 : IntKind.i64.wrap ((n1 : Int) + (z : Int)) = (n2 : Int) := by rw [hz2]; exact IntWalk.i64_in _ (by omega)
        have hw4 : wrap64 ((n1 : Int) + (z : Int)) = (n2 : Int) := by rw [hz2]; unfold wrap64; omega
        clear hs0 hs1 hn12 hxy hyl hz hz1 hz2
        go_wp2_with fail
        go_quiet ((go_at_call 33; exact rank_quiet v y false _ w1 _ HV1.out))
        replace c0 : (w1.drewN nq).cell? ⟨B, 0, none⟩ = some (.pointer (some ⟨v, 0, none⟩)) := c0
        replace c1 : (w1.drewN nq).cell? ⟨B, 1, none⟩ = some (.int .i64 q) := c1
        replace HV1 := Bx.mk (HV1.out.drewN nq)
        replace HC1 := Bx.mk (HC1.out.drewN nq)
        clear hw1 hw2 hw3 hw4 h51
        generalize w1.drewN nq = w1 at *
        go_wp2_with fail
        have hcc := Ch.refl (fun _ => False) w1
        go_region_held3 (fun w' => w'.cell? ⟨B, 0, none⟩ = some (.pointer (some ⟨v, 0, none⟩)) ∧ w'.cell? ⟨B, 1, none⟩ = some (.int .i64 q)) (first | go_keep | exact s2 | exact ⟨c0, c1⟩) ((go_at_call 28; refine (down_is v _ y true q _ (by first | exact HV1.out.keep hcc | exact HV1.out) HZ.out).mono ?_; rintro e w2 ⟨rfl, hc2⟩; have hcc : Ch (fun _ => False) w1 w2 := (by first | exact hcc.trans hc2 (fun _ _ h => h) | exact hcc.drew.trans hc2 (fun _ _ h => h)); have s2 : w2.cell? ⟨B, 0, none⟩ = some (.pointer (some ⟨v, 0, none⟩)) ∧ w2.cell? ⟨B, 1, none⟩ = some (.int .i64 q) := ⟨hcc.cell (fun h => h) c0, hcc.cell (fun h => h) c1⟩))
        all_goals
          have HCC := Bx.mk (HC1.out.trans hcc (fun _ _ h => h))
          clear hcc hc2 s2
          rw [HG1.out, HG2.out]
          go_wp2
          go_roundw
          case rel => exact ⟨d + 1, by omega, by go_num, by rw [HF2.out], by rw [HT2.out], by rw [HN2.out], HCC.out⟩
          case measure => simp [intOf]; omega
    · obtain rfl : d = W := by omega
      go_wp2
      go_ret
      exact ⟨rfl, hC⟩
/-- Below. -/
theorem tbelow_any (b W : Nat) (l : List Nat) (c f t r : Int) (w : World) (h : Tr w F b W l) (hr : ((bel l c f t : Nat) : Int) = r) :
    Calls Tryd.prog 20 #[.pointer (some ⟨b, 0, none⟩), .int .i64 c, .int .i64 f, .int .i64 t] w fun e w' => e = .returned (.int .i64 r) ∧ Ch (fun _ => False) w w' := by
  subst hr
  have keep : ∀ {e : Ending} {w' : World} {v : Int}, (e = .returned (.int .i64 v) ∧ w = w') → e = .returned (.int .i64 v) ∧ Ch (fun _ => False) w w' := fun h => ⟨h.1, by rw [← h.2]; exact Ch.refl _ _⟩
  rw [bel_clip]
  by_cases hz : clip l.length t ≤ clip l.length f ∨ c ≤ 0
  · rw [bel_zero (by omega)]
    exact (tbelow_zero b W _ _ l c f t w h rfl rfl hz).mono fun e w' h => keep h
  · have hft : clip l.length f < clip l.length t := by omega
    have hc0 : 0 < c := by omega
    cases hc : fitB W c
    · rcases fit_out h.lo hc with h1 | h1
      · omega
      · rw [bel_all h.lt h1 (by unfold clip; omega) (by unfold clip; omega)]
        exact (tbelow_all b W _ _ l c f t w h rfl rfl hft hc0 hc).mono fun e w' h => keep h
    · obtain ⟨m, rfl, hm⟩ := fit_in hc
      have := tbelow_in b W _ _ m l f t w h rfl rfl hft (by omega) hm
      rw [belowTo_all _ _ (Nat.le_of_lt hft)] at this
      exact this
/-- Select. -/
theorem tselect_any (b W : Nat) (l : List Nat) (c k r : Int) (w : World) (h : Tr w F b W l) (hT : Tab w) (hr : sel (hit l c) true k = r) :
    Calls Tryd.prog 18 #[.pointer (some ⟨b, 0, none⟩), .int .i64 c, .int .i64 k] w fun e w' => e = .returned (.int .i64 r) ∧ Ch (fun _ => False) w w' := by
  subst hr
  cases hc : fitB W c
  · rw [hit_out h.lt (fit_out h.lo hc), sel_repl]
    exact tselect_out b W l c k w h hc
  · obtain ⟨m, rfl, hm⟩ := fit_in hc
    by_cases hk : k < 0 ∨ ((D W l m W l.length - D W l m W 0 : Nat) : Int) ≤ k
    · rw [D_none h.lt hm hk]
      exact tselect_none b W m l k w h hm hk
    · obtain ⟨n, rfl⟩ : ∃ n : Nat, k = n := ⟨k.toNat, by omega⟩
      exact tselect_in b W m n l w h hT hm (by omega)
end
end Go.Proofs.YtbckiefkppgipaaDoor
