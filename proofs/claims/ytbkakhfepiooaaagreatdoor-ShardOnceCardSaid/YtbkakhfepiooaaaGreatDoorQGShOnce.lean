/- Lemmas and contracts of this proof. Conditions: said at each. -/
import Derived.Test.YtbkakhfepiooaaaGreatDoorQGShStart
namespace Go.Proofs.YtbkakhfepiooaaaGreatDoor
section
open Go.RowKit Go.Oct Go.Su Go.Sg Go.Om Go.Sh
section
variable {cl sq : Int} {k : Key} {xs ys : List Int}
def ss1 (cl sq : Int) : Int → Option Ses := at1 (fun _ => none) cl ⟨sq, [0, 1, 0]⟩
def ss2 (cl sq : Int) : Int → Option Ses := at1 (ss1 cl sq) (cl + 1) ⟨1, [0, 1, 1]⟩
def ss5 (cl sq : Int) : Int → Option Ses := at1 (ss2 cl sq) cl ⟨sq + 1, [0, 0]⟩
def ss6 (cl sq : Int) : Int → Option Ses := at1 (ss5 cl sq) cl ⟨sq + 2, [7, 0]⟩
theorem on1 (hk : okK k) (hx : xs.length ≤ 200) : Go.Sh.step smNew ⟨1, cl, sq, k, xs⟩ = ([0, 1, 0], ⟨1, ss1 cl sq, [(k, xs)], []⟩) := by
  rw [step_new (fun s h => by cases h)]
  unfold newOp done
  rw [if_pos rfl]
  show (repB 0 [if hasB [] k then 1 else 0], (⟨0 + 1, at1 (fun _ => none) cl ⟨sq, repB 0 [if hasB [] k then 1 else 0]⟩, (tPut ([], []) k xs).2.1, (tPut ([], []) k xs).2.2⟩ : Sm)) = _
  rw [hasB_none, put_none k xs hk (by omega), if_neg (by decide), rep_one 0 0 (by omega) (by omega)]
  rfl
theorem on2 (hk : okK k) (hy : ys.length ≤ 200) : Go.Sh.step ⟨1, ss1 cl sq, [(k, xs)], []⟩ ⟨1, cl + 1, 1, k, ys⟩ = ([0, 1, 1], ⟨2, ss2 cl sq, [(k, ys)], []⟩) := by
  rw [step_new (fun s h => by
    have h' : (if cl + 1 = cl then some (⟨sq, [0, 1, 0]⟩ : Ses) else none) = some s := h
    rw [if_neg (by omega)] at h'
    cases h')]
  unfold newOp done
  rw [if_pos rfl]
  show (repB 0 [if hasB [(k, xs)] k then 1 else 0], (⟨1 + 1, at1 (ss1 cl sq) (cl + 1) ⟨1, repB 0 [if hasB [(k, xs)] k then 1 else 0]⟩, (tPut ([(k, xs)], []) k ys).2.1, (tPut ([(k, xs)], []) k ys).2.2⟩ : Sm)) = _
  rw [hasB_one, put_one k xs ys hk (by omega), if_pos rfl, rep_one 0 1 (by omega) (by omega)]
  rfl
theorem ses2 : ss2 cl sq cl = some ⟨sq, [0, 1, 0]⟩ := by
  show (if cl = cl + 1 then some (⟨1, [0, 1, 1]⟩ : Ses) else if cl = cl then some ⟨sq, [0, 1, 0]⟩ else none) = _
  rw [if_neg (by omega), if_pos rfl]
theorem on3 : Go.Sh.step ⟨2, ss2 cl sq, [(k, ys)], []⟩ ⟨1, cl, sq, k, xs⟩ = ([0, 1, 0], ⟨3, ss2 cl sq, [(k, ys)], []⟩) := by
  rw [step_again ses2 rfl]
  rfl
theorem on4 : Go.Sh.step ⟨3, ss2 cl sq, [(k, ys)], []⟩ ⟨2, cl, sq - 1, k, []⟩ = ([13, 0], ⟨4, ss2 cl sq, [(k, ys)], []⟩) := by
  rw [step_elder ses2 (by show sq - 1 < sq; omega), rep_none 13 (by omega)]
  rfl
theorem on5 (hk : okK k) : Go.Sh.step ⟨4, ss2 cl sq, [(k, ys)], []⟩ ⟨2, cl, sq + 1, k, []⟩ = ([0, 0], ⟨5, ss5 cl sq, [], [k]⟩) := by
  rw [step_new (fun s h => by
    have h' : ss2 cl sq cl = some s := h
    rw [ses2] at h'
    injection h' with h'
    subst h'
    show sq < sq + 1
    omega)]
  unfold newOp done
  rw [if_neg (by show ¬ (2 : Int) = 1; omega)]
  have hh : hasB [(k, ys)] k = true := hasB_one k ys
  simp only [hh, if_true]
  rw [del_one k ys hk, rep_none 0 (by omega)]
  rfl
theorem ses5 : ss5 cl sq cl = some ⟨sq + 1, [0, 0]⟩ := by
  show (if cl = cl then some (⟨sq + 1, [0, 0]⟩ : Ses) else _) = _
  rw [if_pos rfl]
theorem on6 : Go.Sh.step ⟨5, ss5 cl sq, [], [k]⟩ ⟨2, cl, sq + 2, k, []⟩ = ([7, 0], ⟨6, ss6 cl sq, [], [k]⟩) := by
  rw [step_new (fun s h => by
    have h' : ss5 cl sq cl = some s := h
    rw [ses5] at h'
    injection h' with h'
    subst h'
    show sq + 1 < sq + 2
    omega)]
  unfold newOp done
  rw [if_neg (by show ¬ (2 : Int) = 1; omega)]
  have hh : hasB [] k = false := hasB_none k
  simp only [hh]
  rw [if_neg (by decide), rep_none 7 (by omega)]
  rfl
theorem wr_in {z : Int} (h0 : -1000000 ≤ z) (h1 : z ≤ 1000000) : IntKind.i64.wrap z = z ∧ wrap64 z = z := by
  refine ⟨IntWalk.i64_in _ (by omega), ?_⟩
  unfold wrap64
  omega
end
section
variable {ShP : World → (Nat → Prop) → Nat → Sm → Prop} {F : Nat → Prop} {w0 : World}
set_option maxHeartbeats 8000000 in
set_option maxRecDepth 100000 in
theorem once_any (H : ShSpec ShP) (HKN : ∀ w, MaxC w → 4 < w.heap.size → Calls Tryz.prog 16 #[] w fun e w' => e = .returned (.bool true) ∧ Ch (fun _ => False) w w') (cl sq : Int) (k : Key) (xs ys : List Int) (A B : Option Addr) (na ca nb cb : Nat) (hk : okK k) (hx : Sl w0 F .u8 A na xs) (hxb : Byt xs) (hy : Sl w0 F .u8 B nb ys) (hyb : Byt ys) (hmx : MaxC w0) (hml : 4 < w0.heap.size)
    (hc0 : 0 ≤ cl) (hc1 : cl ≤ 1000) (hs0 : 1 ≤ sq) (hs1 : sq ≤ 1000) (hna : na ≤ 200) (hnb : nb ≤ 200) :
    Calls Tryz.prog 4 #[.int .i64 cl, .int .i64 sq, kv k, .slice A na ca, .slice B nb cb] w0 fun e w' => e = .returned (.bool true) ∧ Ch (fun _ => False) w0 w' := by
  have HKK := Bx.mk hk
  have HXS := Bx.mk hx
  have HYS := Bx.mk hy
  have HXB := Bx.mk hxb
  have HYB := Bx.mk hyb
  have HXL := Bx.mk hx.len
  have HYL := Bx.mk hy.len
  have HST := Bx.mk (start_any H w0 1048576 (by omega) hmx hml)
  obtain ⟨S, hS, hz⟩ : ∃ S : ByteArray, kv k = .string S ∧ S.size = k.length := ⟨_, rfl, kv_size k⟩
  have HKV := Bx.mk hS
  have hk1 := hk.1
  have hk2 := hk.2
  obtain ⟨lk, hlk⟩ : ∃ l, k.length = l := ⟨_, rfl⟩
  rw [hlk] at hz hk1 hk2
  have d1 : decide (cl < 0) = false := decide_eq_false (by omega)
  have d2 : decide (1000 < cl) = false := decide_eq_false (by omega)
  have d3 : decide (sq < 1) = false := decide_eq_false (by omega)
  have d4 : decide (1000 < sq) = false := decide_eq_false (by omega)
  have d5 : decide ((lk : Int) < 1) = false := decide_eq_false (by omega)
  have d6 : decide ((64 : Int) < (lk : Int)) = false := decide_eq_false (by omega)
  have d62 : decide (64 < lk) = false := decide_eq_false (by omega)
  have d7 : decide ((200 : Int) < (na : Int)) = false := decide_eq_false (by omega)
  have d72 : decide (200 < na) = false := decide_eq_false (by omega)
  have d8 : decide ((200 : Int) < (nb : Int)) = false := decide_eq_false (by omega)
  have d82 : decide (200 < nb) = false := decide_eq_false (by omega)
  rw [hS]
  clear hk hx hy hxb hyb hmx hml hS hlk
  go_enter Tryz.func4, Tryz.ntmps4
  go_wp2_with fail
  refine HST.out.mono ?_
  rintro e w1 ⟨P0, b, bp, d, wd, xp, rfl, hsh, hpr, hlow, hnp, hbp, hch⟩
  obtain ⟨x, hxx⟩ : ∃ v, ptr d = v := ⟨_, rfl⟩
  obtain ⟨y, hyy⟩ : ∃ v, ptr wd = v := ⟨_, rfl⟩
  obtain ⟨z, hzz⟩ : ∃ v, ptr xp = v := ⟨_, rfl⟩
  rw [hxx, hyy, hzz] at hpr
  have HO0 : Bx (On ShP w0 w1 P0 b bp x y z smNew) := ⟨⟨hsh, hpr, hnp, hbp, hlow, hch⟩⟩
  have HL0 : Bx (∀ r ∈ ([] : List (Value × List Int)), Rk w1 P0 r.1 r.2) := ⟨fun r hr => by simp at hr⟩
  clear hsh hpr hlow hnp hbp hch HST hxx hyy hzz d1 d2 d3 d4 d5 d6 d62 d7 d72 d8 d82 hz hk1 hk2
  have HOK1 : Bx (OkO ⟨1, cl, sq, k, xs⟩) := ⟨ok_put (by omega) (by omega) HKK.out (by rw [HXL.out]; omega)⟩
  have HPUT := Bx.mk (lput_any 1 cl sq k xs A na ca w1.drew (HXS.out.ch (HO0.out.ch.drew) (fun _ _ _ h => h)) (by omega) (good_enc HOK1.out).2)
  have HCA := Bx.mk (fun wp A c hf => call_any (w := w1.drew) H ⟨1, cl, sq, k, xs⟩ HOK1.out HXB.out [0, 1, 0] (on1 HKK.out (by rw [HXL.out]; omega)) (few_mk (by first | (show (0 : Nat) + 0 < 7; omega) | (show (1 : Nat) + 0 < 7; omega) | (show (0 : Nat) + 1 < 7; omega)) (by repeat (first | exact .inl rfl | exact rfl | apply Or.inr))) [] (HO0.out.quiet H ((Ch.refl _ _).drew)) (fun r hr => (HL0.out r hr).quiet ((Ch.refl _ _).drew)) wp A c hf)
  rw [HKV.out] at HPUT
  obtain ⟨_, _, z2, _, _, _⟩ := HO0.out.pr.facts
  unfold ptr at z2
  go_upto_region 6 with fail
  go_cut [13] from 66 to 75 (fun s wx => ∃ v P', s = v ∧ Bx (On ShP w0 wx P' b bp x y z ⟨1, ss1 cl sq, [(k, xs)], []⟩ ∧ ∀ r ∈ (v, [0, 1, 0]) :: [], Rk wx P' r.1 r.2))
  case first =>
    go_region_law ((first
      | (go_simp; go_at_call 11; refine (HCA.out wp Ap cp hfp).mono ?_; rintro e wq ⟨v, P', rfl, ho, hl⟩; have HQ := Bx.mk (And.intro ho hl); clear ho hl)
      | (go_simp; go_at_call 18; refine (HPUT.out).mono ?_; rintro e wp ⟨vp, rfl, hfp⟩; obtain ⟨Ap, cp, rfl, _, _⟩ := own_shape hfp.1; have z3 := hfp.2.2.cell (fun h => h) z2)))
    all_goals
      go_wp2_with fail
      go_meet
      exact ⟨_, _, rfl, HQ⟩
  case rest =>
  obtain ⟨v1, P1, rfl, HQ1⟩ := hcut
  obtain ⟨x1, hw1⟩ : ∃ w, w = wc := ⟨_, rfl⟩
  rw [← hw1] at HQ1 ⊢
  have HO1 := Bx.mk HQ1.out.1
  have HL1 := Bx.mk HQ1.out.2
  clear HPUT HCA z2 HQ1 hw1
  obtain ⟨hwa, hwb⟩ := wr_in (z := cl + 1) (by omega) (by omega)
  have HOK2 : Bx (OkO ⟨1, cl + 1, 1, k, ys⟩) := ⟨ok_put (by omega) (by omega) HKK.out (by rw [HYL.out]; omega)⟩
  have HPUT := Bx.mk (lput_any 1 (cl + 1) 1 k ys B nb cb x1.drew (HYS.out.ch (HO1.out.ch.drew) (fun _ _ _ h => h)) (by omega) (good_enc HOK2.out).2)
  have HCA := Bx.mk (fun wp A c hf => call_any (w := x1.drew) H ⟨1, cl + 1, 1, k, ys⟩ HOK2.out HYB.out [0, 1, 1] (on2 HKK.out (by rw [HYL.out]; omega)) (few_mk (by first | (show (0 : Nat) + 0 < 7; omega) | (show (1 : Nat) + 0 < 7; omega) | (show (0 : Nat) + 1 < 7; omega)) (by repeat (first | exact .inl rfl | exact rfl | apply Or.inr))) [(u13, [0, 1, 0])] (HO1.out.quiet H ((Ch.refl _ _).drew)) (fun r hr => (HL1.out r hr).quiet ((Ch.refl _ _).drew)) wp A c hf)
  rw [HKV.out] at HPUT
  obtain ⟨_, _, z2, _, _, _⟩ := HO1.out.pr.facts
  unfold ptr at z2
  go_upto_region 7 with fail
  go_cut [14] from 76 to 85 (fun s wx => ∃ v P', s = v ∧ Bx (On ShP w0 wx P' b bp x y z ⟨2, ss2 cl sq, [(k, ys)], []⟩ ∧ ∀ r ∈ (v, [0, 1, 1]) :: [(u13, [0, 1, 0])], Rk wx P' r.1 r.2))
  case first =>
    go_region_law ((first
      | (go_simp; go_at_call 11; refine (HCA.out wp Ap cp hfp).mono ?_; rintro e wq ⟨v, P', rfl, ho, hl⟩; have HQ := Bx.mk (And.intro ho hl); clear ho hl)
      | (go_simp; go_at_call 18; refine (HPUT.out).mono ?_; rintro e wp ⟨vp, rfl, hfp⟩; obtain ⟨Ap, cp, rfl, _, _⟩ := own_shape hfp.1; have z3 := hfp.2.2.cell (fun h => h) z2)))
    all_goals
      go_wp2_with fail
      go_meet
      exact ⟨_, _, rfl, HQ⟩
  case rest =>
  obtain ⟨v2, P2, rfl, HQ2⟩ := hcut
  obtain ⟨x2, hw2⟩ : ∃ w, w = wc := ⟨_, rfl⟩
  rw [← hw2] at HQ2 ⊢
  have HO2 := Bx.mk HQ2.out.1
  have HL2 := Bx.mk HQ2.out.2
  clear HPUT HCA z2 HQ2 hw2
  have HOK3 : Bx (OkO ⟨1, cl, sq, k, xs⟩) := ⟨ok_put (by omega) (by omega) HKK.out (by rw [HXL.out]; omega)⟩
  have HPUT := Bx.mk (lput_any 1 cl sq k xs A na ca x2.drew (HXS.out.ch (HO2.out.ch.drew) (fun _ _ _ h => h)) (by omega) (good_enc HOK3.out).2)
  have HCA := Bx.mk (fun wp A c hf => call_any (w := x2.drew) H ⟨1, cl, sq, k, xs⟩ HOK3.out HXB.out [0, 1, 0] on3 (few_mk (by first | (show (0 : Nat) + 0 < 7; omega) | (show (1 : Nat) + 0 < 7; omega) | (show (0 : Nat) + 1 < 7; omega)) (by repeat (first | exact .inl rfl | exact rfl | apply Or.inr))) [(u14, [0, 1, 1]), (u13, [0, 1, 0])] (HO2.out.quiet H ((Ch.refl _ _).drew)) (fun r hr => (HL2.out r hr).quiet ((Ch.refl _ _).drew)) wp A c hf)
  rw [HKV.out] at HPUT
  obtain ⟨_, _, z2, _, _, _⟩ := HO2.out.pr.facts
  unfold ptr at z2
  go_upto_region 8 with fail
  go_cut [15] from 86 to 95 (fun s wx => ∃ v P', s = v ∧ Bx (On ShP w0 wx P' b bp x y z ⟨3, ss2 cl sq, [(k, ys)], []⟩ ∧ ∀ r ∈ (v, [0, 1, 0]) :: [(u14, [0, 1, 1]), (u13, [0, 1, 0])], Rk wx P' r.1 r.2))
  case first =>
    go_region_law ((first
      | (go_simp; go_at_call 11; refine (HCA.out wp Ap cp hfp).mono ?_; rintro e wq ⟨v, P', rfl, ho, hl⟩; have HQ := Bx.mk (And.intro ho hl); clear ho hl)
      | (go_simp; go_at_call 18; refine (HPUT.out).mono ?_; rintro e wp ⟨vp, rfl, hfp⟩; obtain ⟨Ap, cp, rfl, _, _⟩ := own_shape hfp.1; have z3 := hfp.2.2.cell (fun h => h) z2)))
    all_goals
      go_wp2_with fail
      go_meet
      exact ⟨_, _, rfl, HQ⟩
  case rest =>
  obtain ⟨v3, P3, rfl, HQ3⟩ := hcut
  obtain ⟨x3, hw3⟩ : ∃ w, w = wc := ⟨_, rfl⟩
  rw [← hw3] at HQ3 ⊢
  have HO3 := Bx.mk HQ3.out.1
  have HL3 := Bx.mk HQ3.out.2
  clear HPUT HCA z2 HQ3 hw3
  obtain ⟨_, _, z2, _, _, _⟩ := HO3.out.pr.facts
  unfold ptr at z2
  have HG := Bx.mk (H.get_ x3 P3 b ⟨3, ss2 cl sq, [(k, ys)], []⟩ k HO3.out.sh HKK.out)
  rw [HKV.out] at HG
  go_wp2_with fail
  refine HG.out.mono ?_
  rintro e x3g ⟨t, rfl, hf⟩
  have hf : Fresh x3 t ys x3g := by have h := hf; rw [show txtOf (⟨3, ss2 cl sq, [(k, ys)], []⟩ : Sm).ds k = ys from txt_one k ys] at h; exact h
  rw [show hasB (⟨3, ss2 cl sq, [(k, ys)], []⟩ : Sm).ds k = true from hasB_one k ys]
  have HO3g := Bx.mk (HO3.out.quiet H hf.2.2)
  have HL3g : Bx (∀ r ∈ (t, ys) :: [(u15, [0, 1, 0]), (u14, [0, 1, 1]), (u13, [0, 1, 0])], Rk x3g P3 r.1 r.2) := ⟨fun r hr => by
    rcases List.mem_cons.1 hr with e | hr
    · subst e
      exact Rk.fresh hf (H.lt HO3.out.sh)
    · exact (HL3.out r hr).quiet hf.2.2⟩
  clear hf HG z2
  obtain ⟨hwa, hwb⟩ := wr_in (z := sq - 1) (by omega) (by omega)
  have HOK4 : Bx (OkO ⟨2, cl, sq - 1, k, []⟩) := ⟨ok_del (by omega) (by omega) HKK.out⟩
  have HPUT := Bx.mk (lput_any 2 cl (sq - 1) k [] none 0 0 x3g.drew (Sl.nil _ (fun _ => True) _ _) (by omega) (good_enc HOK4.out).2)
  have HCA := Bx.mk (fun wp A c hf => call_any (w := x3g.drew) H ⟨2, cl, sq - 1, k, []⟩ HOK4.out (fun x hx => by simp at hx) [13, 0] on4 (few_mk (by first | (show (0 : Nat) + 0 < 7; omega) | (show (1 : Nat) + 0 < 7; omega) | (show (0 : Nat) + 1 < 7; omega)) (by repeat (first | exact .inl rfl | exact rfl | apply Or.inr))) [(t, ys), (u15, [0, 1, 0]), (u14, [0, 1, 1]), (u13, [0, 1, 0])] (HO3g.out.quiet H ((Ch.refl _ _).drew)) (fun r hr => (HL3g.out r hr).quiet ((Ch.refl _ _).drew)) wp A c hf)
  rw [HKV.out] at HPUT
  obtain ⟨_, _, z2, _, _, _⟩ := HO3g.out.pr.facts
  unfold ptr at z2
  go_upto_region 10 with fail
  go_cut [18] from 105 to 114 (fun s wx => ∃ v P', s = v ∧ Bx (On ShP w0 wx P' b bp x y z ⟨4, ss2 cl sq, [(k, ys)], []⟩ ∧ ∀ r ∈ (v, [13, 0]) :: [(t, ys), (u15, [0, 1, 0]), (u14, [0, 1, 1]), (u13, [0, 1, 0])], Rk wx P' r.1 r.2))
  case first =>
    go_region_law ((first
      | (go_simp; go_at_call 11; refine (HCA.out wp Ap cp hfp).mono ?_; rintro e wq ⟨v, P', rfl, ho, hl⟩; have HQ := Bx.mk (And.intro ho hl); clear ho hl)
      | (go_simp; go_at_call 18; refine (HPUT.out).mono ?_; rintro e wp ⟨vp, rfl, hfp⟩; obtain ⟨Ap, cp, rfl, _, _⟩ := own_shape hfp.1; have z3 := hfp.2.2.cell (fun h => h) z2)))
    all_goals
      go_wp2_with fail
      go_meet
      exact ⟨_, _, rfl, HQ⟩
  case rest =>
  obtain ⟨v4, P4, rfl, HQ4⟩ := hcut
  obtain ⟨x4, hw4⟩ : ∃ w, w = wc := ⟨_, rfl⟩
  rw [← hw4] at HQ4 ⊢
  have HO4 := Bx.mk HQ4.out.1
  have HL4 := Bx.mk HQ4.out.2
  clear HPUT HCA z2 HQ4 hw4
  obtain ⟨_, _, z2, _, _, _⟩ := HO4.out.pr.facts
  unfold ptr at z2
  have HG := Bx.mk (H.get_ x4 P4 b ⟨4, ss2 cl sq, [(k, ys)], []⟩ k HO4.out.sh HKK.out)
  rw [HKV.out] at HG
  go_wp2_with fail
  refine HG.out.mono ?_
  rintro e x4g ⟨u, rfl, hf⟩
  have hf : Fresh x4 u ys x4g := by have h := hf; rw [show txtOf (⟨4, ss2 cl sq, [(k, ys)], []⟩ : Sm).ds k = ys from txt_one k ys] at h; exact h
  rw [show hasB (⟨4, ss2 cl sq, [(k, ys)], []⟩ : Sm).ds k = true from hasB_one k ys]
  have HO4g := Bx.mk (HO4.out.quiet H hf.2.2)
  have HL4g : Bx (∀ r ∈ (u, ys) :: [(u18, [13, 0]), (t, ys), (u15, [0, 1, 0]), (u14, [0, 1, 1]), (u13, [0, 1, 0])], Rk x4g P4 r.1 r.2) := ⟨fun r hr => by
    rcases List.mem_cons.1 hr with e | hr
    · subst e
      exact Rk.fresh hf (H.lt HO4.out.sh)
    · exact (HL4.out r hr).quiet hf.2.2⟩
  clear hf HG z2
  go_wp2_with fail
  refine (same_lit [0, 1, 0] (HL4g.out (u13, [0, 1, 0]) (by simp)) (by simp) rfl).mono ?_
  rintro e y1 ⟨rfl, hc⟩
  have HOa := Bx.mk (HO4g.out.quiet H hc)
  have HLa := Bx.mk (rks_quiet HL4g.out hc)
  clear hc
  go_wp2_with fail
  refine (same_lit [0, 1, 1] (HLa.out (u14, [0, 1, 1]) (by simp)) (by simp) rfl).mono ?_
  rintro e y2 ⟨rfl, hc⟩
  have HOb := Bx.mk (HOa.out.quiet H hc)
  have HLb := Bx.mk (rks_quiet HLa.out hc)
  clear hc
  go_wp2_with fail
  refine (same_rr (HLb.out (u15, [0, 1, 0]) (by simp)) (by simp) (HLb.out (u13, [0, 1, 0]) (by simp)) rfl).mono ?_
  rintro e y3 ⟨rfl, hc⟩
  have HOc := Bx.mk (HOb.out.quiet H hc)
  have HLc := Bx.mk (rks_quiet HLb.out hc)
  clear hc
  go_wp2_with fail
  refine (same_rk (HLc.out (t, ys) (by simp)) (by rw [HYL.out]; omega) (HYS.out.ch HOc.out.ch (fun _ _ _ h => h)) (by omega) rfl).mono ?_
  rintro e y4 ⟨rfl, hc⟩
  have HOd := Bx.mk (HOc.out.quiet H hc)
  have HLd := Bx.mk (rks_quiet HLc.out hc)
  clear hc
  go_wp2_with fail
  refine (same_lit [13, 0] (HLd.out (u18, [13, 0]) (by simp)) (by simp) rfl).mono ?_
  rintro e y5 ⟨rfl, hc⟩
  have HOe := Bx.mk (HOd.out.quiet H hc)
  have HLe := Bx.mk (rks_quiet HLd.out hc)
  clear hc
  go_wp2_with fail
  refine (same_rk (HLe.out (u, ys) (by simp)) (by rw [HYL.out]; omega) (HYS.out.ch HOe.out.ch (fun _ _ _ h => h)) (by omega) rfl).mono ?_
  rintro e y6 ⟨rfl, hc⟩
  have HOf := Bx.mk (HOe.out.quiet H hc)
  have HLf := Bx.mk (rks_quiet HLe.out hc)
  clear hc
  go_wp2_with fail
  obtain ⟨hwa, hwb⟩ := wr_in (z := sq + 1) (by omega) (by omega)
  have HOK5 : Bx (OkO ⟨2, cl, sq + 1, k, []⟩) := ⟨ok_del (by omega) (by omega) HKK.out⟩
  have HPUT := Bx.mk (lput_any 2 cl (sq + 1) k [] none 0 0 y6.drew (Sl.nil _ (fun _ => True) _ _) (by omega) (good_enc HOK5.out).2)
  have HCA := Bx.mk (fun wp A c hf => call_any (w := y6.drew) H ⟨2, cl, sq + 1, k, []⟩ HOK5.out (fun x hx => by simp at hx) [0, 0] (on5 HKK.out) (few_mk (by first | (show (0 : Nat) + 0 < 7; omega) | (show (1 : Nat) + 0 < 7; omega) | (show (0 : Nat) + 1 < 7; omega)) (by repeat (first | exact .inl rfl | exact rfl | apply Or.inr))) [(u, ys), (u18, [13, 0]), (t, ys), (u15, [0, 1, 0]), (u14, [0, 1, 1]), (u13, [0, 1, 0])] (HOf.out.quiet H ((Ch.refl _ _).drew)) (fun r hr => (HLf.out r hr).quiet ((Ch.refl _ _).drew)) wp A c hf)
  rw [HKV.out] at HPUT
  obtain ⟨_, _, z2, _, _, _⟩ := HOf.out.pr.facts
  unfold ptr at z2
  go_upto_region 14 with fail
  go_cut [21] from 166 to 175 (fun s wx => ∃ v P', s = v ∧ Bx (On ShP w0 wx P' b bp x y z ⟨5, ss5 cl sq, [], [k]⟩ ∧ ∀ r ∈ (v, [0, 0]) :: [(u, ys), (u18, [13, 0]), (t, ys), (u15, [0, 1, 0]), (u14, [0, 1, 1]), (u13, [0, 1, 0])], Rk wx P' r.1 r.2))
  case first =>
    go_region_law ((first
      | (go_simp; go_at_call 11; refine (HCA.out wp Ap cp hfp).mono ?_; rintro e wq ⟨v, P', rfl, ho, hl⟩; have HQ := Bx.mk (And.intro ho hl); clear ho hl)
      | (go_simp; go_at_call 18; refine (HPUT.out).mono ?_; rintro e wp ⟨vp, rfl, hfp⟩; obtain ⟨Ap, cp, rfl, _, _⟩ := own_shape hfp.1; have z3 := hfp.2.2.cell (fun h => h) z2)))
    all_goals
      go_wp2_with fail
      go_meet
      exact ⟨_, _, rfl, HQ⟩
  case rest =>
  obtain ⟨v5, P5, rfl, HQ5⟩ := hcut
  obtain ⟨x5, hw5⟩ : ∃ w, w = wc := ⟨_, rfl⟩
  rw [← hw5] at HQ5 ⊢
  have HO5 := Bx.mk HQ5.out.1
  have HL5 := Bx.mk HQ5.out.2
  clear HPUT HCA z2 HQ5 hw5
  obtain ⟨hwa, hwb⟩ := wr_in (z := sq + 2) (by omega) (by omega)
  have HOK6 : Bx (OkO ⟨2, cl, sq + 2, k, []⟩) := ⟨ok_del (by omega) (by omega) HKK.out⟩
  have HPUT := Bx.mk (lput_any 2 cl (sq + 2) k [] none 0 0 x5.drew (Sl.nil _ (fun _ => True) _ _) (by omega) (good_enc HOK6.out).2)
  have HCA := Bx.mk (fun wp A c hf => call_any (w := x5.drew) H ⟨2, cl, sq + 2, k, []⟩ HOK6.out (fun x hx => by simp at hx) [7, 0] on6 (few_mk (by first | (show (0 : Nat) + 0 < 7; omega) | (show (1 : Nat) + 0 < 7; omega) | (show (0 : Nat) + 1 < 7; omega)) (by repeat (first | exact .inl rfl | exact rfl | apply Or.inr))) [(u21, [0, 0]), (u, ys), (u18, [13, 0]), (t, ys), (u15, [0, 1, 0]), (u14, [0, 1, 1]), (u13, [0, 1, 0])] (HO5.out.quiet H ((Ch.refl _ _).drew)) (fun r hr => (HL5.out r hr).quiet ((Ch.refl _ _).drew)) wp A c hf)
  rw [HKV.out] at HPUT
  obtain ⟨_, _, z2, _, _, _⟩ := HO5.out.pr.facts
  unfold ptr at z2
  go_upto_region 15 with fail
  go_cut [22] from 176 to 185 (fun s wx => ∃ v P', s = v ∧ Bx (On ShP w0 wx P' b bp x y z ⟨6, ss6 cl sq, [], [k]⟩ ∧ ∀ r ∈ (v, [7, 0]) :: [(u21, [0, 0]), (u, ys), (u18, [13, 0]), (t, ys), (u15, [0, 1, 0]), (u14, [0, 1, 1]), (u13, [0, 1, 0])], Rk wx P' r.1 r.2))
  case first =>
    go_region_law ((first
      | (go_simp; go_at_call 11; refine (HCA.out wp Ap cp hfp).mono ?_; rintro e wq ⟨v, P', rfl, ho, hl⟩; have HQ := Bx.mk (And.intro ho hl); clear ho hl)
      | (go_simp; go_at_call 18; refine (HPUT.out).mono ?_; rintro e wp ⟨vp, rfl, hfp⟩; obtain ⟨Ap, cp, rfl, _, _⟩ := own_shape hfp.1; have z3 := hfp.2.2.cell (fun h => h) z2)))
    all_goals
      go_wp2_with fail
      go_meet
      exact ⟨_, _, rfl, HQ⟩
  case rest =>
  obtain ⟨v6, P6, rfl, HQ6⟩ := hcut
  obtain ⟨x6, hw6⟩ : ∃ w, w = wc := ⟨_, rfl⟩
  rw [← hw6] at HQ6 ⊢
  have HO6 := Bx.mk HQ6.out.1
  have HL6 := Bx.mk HQ6.out.2
  clear HPUT HCA z2 HQ6 hw6
  obtain ⟨_, _, z2, _, _, _⟩ := HO6.out.pr.facts
  unfold ptr at z2
  have HG := Bx.mk (H.get_ x6 P6 b ⟨6, ss6 cl sq, [], [k]⟩ k HO6.out.sh HKK.out)
  rw [HKV.out] at HG
  go_wp2_with fail
  refine HG.out.mono ?_
  rintro e x6g ⟨g, rfl, hf⟩
  have hf : Fresh x6 g [] x6g := by have h := hf; rw [show txtOf (⟨6, ss6 cl sq, [], [k]⟩ : Sm).ds k = [] from rfl] at h; exact h
  rw [show hasB (⟨6, ss6 cl sq, [], [k]⟩ : Sm).ds k = false from hasB_none k]
  have HO6g := Bx.mk (HO6.out.quiet H hf.2.2)
  have HL6g : Bx (∀ r ∈ (g, []) :: [(u22, [7, 0]), (u21, [0, 0]), (u, ys), (u18, [13, 0]), (t, ys), (u15, [0, 1, 0]), (u14, [0, 1, 1]), (u13, [0, 1, 0])], Rk x6g P6 r.1 r.2) := ⟨fun r hr => by
    rcases List.mem_cons.1 hr with e | hr
    · subst e
      exact Rk.fresh hf (H.lt HO6.out.sh)
    · exact (HL6.out r hr).quiet hf.2.2⟩
  clear hf HG z2
  go_wp2_with fail
  refine (same_lit [0, 0] (HL6g.out (u21, [0, 0]) (by simp)) (by simp) rfl).mono ?_
  rintro e y7 ⟨rfl, hc⟩
  have HOh := Bx.mk (HO6g.out.quiet H hc)
  have HLh := Bx.mk (rks_quiet HL6g.out hc)
  clear hc
  go_wp2_with fail
  refine (same_lit [7, 0] (HLh.out (u22, [7, 0]) (by simp)) (by simp) rfl).mono ?_
  rintro e y8 ⟨rfl, hc⟩
  have HOi := Bx.mk (HOh.out.quiet H hc)
  have HLi := Bx.mk (rks_quiet HLh.out hc)
  clear hc
  obtain ⟨_, _, z2, _, _, _⟩ := HOi.out.pr.facts
  unfold ptr at z2
  go_wp2_with fail
  have HA := Bx.mk (H.applied_ _ _ _ _ HOi.out.sh)
  refine HA.out.mono ?_
  rintro e y9 ⟨rfl, rfl⟩
  clear HA z2
  go_wp2_with fail
  refine (HKN _ (H.mx HOi.out.sh).1 (H.mx HOi.out.sh).2.2).mono ?_
  rintro e y9 ⟨rfl, hc⟩
  have HC := Bx.mk (HOi.out.ch.trans hc (fun _ _ h => h))
  clear hc
  go_wp2_with fail
  go_ret
  exact ⟨rfl, HC.out⟩
end
end
section
open Go.RowKit Go.Oct Go.Su Go.Sg Go.Om Go.Sh
set_option maxHeartbeats 4000000 in
set_option maxRecDepth 100000 in
theorem once_all {ShP : World → (Nat → Prop) → Nat → Sm → Prop} {F : Nat → Prop} {w0 : World} (H : ShSpec ShP) (cl sq : Int) (k : Key) (xs ys : List Int) (A B : Option Addr) (na ca nb cb : Nat) (hx : Sl w0 F .u8 A na xs) (hxb : Byt xs) (hy : Sl w0 F .u8 B nb ys) (hyb : Byt ys) (hmx : MaxC w0) (hml : 4 < w0.heap.size) :
    Calls Tryz.prog 4 #[.int .i64 cl, .int .i64 sq, kv k, .slice A na ca, .slice B nb cb] w0 fun e w' => e = .returned (.bool true) ∧ Ch (fun _ => False) w0 w' := by
  have HKN := Bx.mk (shknown_any H w0 hmx hml)
  obtain ⟨S, lk, hS, hz, hlk⟩ : ∃ (S : ByteArray) (p : Nat), kv k = .string S ∧ S.size = p ∧ k.length = p := ⟨_, _, rfl, kv_size k, rfl⟩
  by_cases c0 : cl < 0
  · rw [hS]
    have f00 : decide (cl < 0) = true := decide_eq_true (by omega)
    clear hx hxb hy hyb hmx hml hS hlk c0
    go_enter Tryz.func4, Tryz.ntmps4
    go_wp2_with fail
    refine HKN.out.mono ?_
    rintro e w1 ⟨rfl, hc⟩
    have HC := Bx.mk hc
    clear hc
    go_wp2
    go_ret
    exact ⟨rfl, HC.out⟩
  by_cases c1 : 1000 < cl
  · rw [hS]
    have f00 : decide (cl < 0) = false := decide_eq_false (by omega)
    have f10 : decide (1000 < cl) = true := decide_eq_true (by omega)
    clear hx hxb hy hyb hmx hml hS hlk c0 c1
    go_enter Tryz.func4, Tryz.ntmps4
    go_wp2_with fail
    refine HKN.out.mono ?_
    rintro e w1 ⟨rfl, hc⟩
    have HC := Bx.mk hc
    clear hc
    go_wp2
    go_ret
    exact ⟨rfl, HC.out⟩
  by_cases c2 : sq < 1
  · rw [hS]
    have f00 : decide (cl < 0) = false := decide_eq_false (by omega)
    have f10 : decide (1000 < cl) = false := decide_eq_false (by omega)
    have f20 : decide (sq < 1) = true := decide_eq_true (by omega)
    clear hx hxb hy hyb hmx hml hS hlk c0 c1 c2
    go_enter Tryz.func4, Tryz.ntmps4
    go_wp2_with fail
    refine HKN.out.mono ?_
    rintro e w1 ⟨rfl, hc⟩
    have HC := Bx.mk hc
    clear hc
    go_wp2
    go_ret
    exact ⟨rfl, HC.out⟩
  by_cases c3 : 1000 < sq
  · rw [hS]
    have f00 : decide (cl < 0) = false := decide_eq_false (by omega)
    have f10 : decide (1000 < cl) = false := decide_eq_false (by omega)
    have f20 : decide (sq < 1) = false := decide_eq_false (by omega)
    have f30 : decide (1000 < sq) = true := decide_eq_true (by omega)
    clear hx hxb hy hyb hmx hml hS hlk c0 c1 c2 c3
    go_enter Tryz.func4, Tryz.ntmps4
    go_wp2_with fail
    refine HKN.out.mono ?_
    rintro e w1 ⟨rfl, hc⟩
    have HC := Bx.mk hc
    clear hc
    go_wp2
    go_ret
    exact ⟨rfl, HC.out⟩
  by_cases c4 : lk < 1
  · rw [hS]
    have f00 : decide (cl < 0) = false := decide_eq_false (by omega)
    have f10 : decide (1000 < cl) = false := decide_eq_false (by omega)
    have f20 : decide (sq < 1) = false := decide_eq_false (by omega)
    have f30 : decide (1000 < sq) = false := decide_eq_false (by omega)
    have f40 : decide ((lk : Int) < 1) = true := decide_eq_true (by omega)
    clear hx hxb hy hyb hmx hml hS hlk c0 c1 c2 c3 c4
    go_enter Tryz.func4, Tryz.ntmps4
    go_wp2_with fail
    refine HKN.out.mono ?_
    rintro e w1 ⟨rfl, hc⟩
    have HC := Bx.mk hc
    clear hc
    go_wp2
    go_ret
    exact ⟨rfl, HC.out⟩
  by_cases c5 : 64 < lk
  · rw [hS]
    have f00 : decide (cl < 0) = false := decide_eq_false (by omega)
    have f10 : decide (1000 < cl) = false := decide_eq_false (by omega)
    have f20 : decide (sq < 1) = false := decide_eq_false (by omega)
    have f30 : decide (1000 < sq) = false := decide_eq_false (by omega)
    have f40 : decide ((lk : Int) < 1) = false := decide_eq_false (by omega)
    have f50 : decide ((64 : Int) < (lk : Int)) = true := decide_eq_true (by omega)
    have f51 : decide (64 < lk) = true := decide_eq_true (by omega)
    clear hx hxb hy hyb hmx hml hS hlk c0 c1 c2 c3 c4 c5
    go_enter Tryz.func4, Tryz.ntmps4
    go_wp2_with fail
    refine HKN.out.mono ?_
    rintro e w1 ⟨rfl, hc⟩
    have HC := Bx.mk hc
    clear hc
    go_wp2
    go_ret
    exact ⟨rfl, HC.out⟩
  by_cases c6 : 200 < na
  · rw [hS]
    have f00 : decide (cl < 0) = false := decide_eq_false (by omega)
    have f10 : decide (1000 < cl) = false := decide_eq_false (by omega)
    have f20 : decide (sq < 1) = false := decide_eq_false (by omega)
    have f30 : decide (1000 < sq) = false := decide_eq_false (by omega)
    have f40 : decide ((lk : Int) < 1) = false := decide_eq_false (by omega)
    have f50 : decide ((64 : Int) < (lk : Int)) = false := decide_eq_false (by omega)
    have f51 : decide (64 < lk) = false := decide_eq_false (by omega)
    have f60 : decide ((200 : Int) < (na : Int)) = true := decide_eq_true (by omega)
    have f61 : decide (200 < na) = true := decide_eq_true (by omega)
    clear hx hxb hy hyb hmx hml hS hlk c0 c1 c2 c3 c4 c5 c6
    go_enter Tryz.func4, Tryz.ntmps4
    go_wp2_with fail
    refine HKN.out.mono ?_
    rintro e w1 ⟨rfl, hc⟩
    have HC := Bx.mk hc
    clear hc
    go_wp2
    go_ret
    exact ⟨rfl, HC.out⟩
  by_cases c7 : 200 < nb
  · rw [hS]
    have f00 : decide (cl < 0) = false := decide_eq_false (by omega)
    have f10 : decide (1000 < cl) = false := decide_eq_false (by omega)
    have f20 : decide (sq < 1) = false := decide_eq_false (by omega)
    have f30 : decide (1000 < sq) = false := decide_eq_false (by omega)
    have f40 : decide ((lk : Int) < 1) = false := decide_eq_false (by omega)
    have f50 : decide ((64 : Int) < (lk : Int)) = false := decide_eq_false (by omega)
    have f51 : decide (64 < lk) = false := decide_eq_false (by omega)
    have f60 : decide ((200 : Int) < (na : Int)) = false := decide_eq_false (by omega)
    have f61 : decide (200 < na) = false := decide_eq_false (by omega)
    have f70 : decide ((200 : Int) < (nb : Int)) = true := decide_eq_true (by omega)
    have f71 : decide (200 < nb) = true := decide_eq_true (by omega)
    clear hx hxb hy hyb hmx hml hS hlk c0 c1 c2 c3 c4 c5 c6 c7
    go_enter Tryz.func4, Tryz.ntmps4
    go_wp2_with fail
    refine HKN.out.mono ?_
    rintro e w1 ⟨rfl, hc⟩
    have HC := Bx.mk hc
    clear hc
    go_wp2
    go_ret
    exact ⟨rfl, HC.out⟩
  have hk : okK k := ⟨by rw [hlk]; omega, by rw [hlk]; omega⟩
  exact once_any H (fun w h1 h2 => shknown_any H w h1 h2) cl sq k xs ys A B na ca nb cb hk hx hxb hy hyb hmx hml (by omega) (by omega) (by omega) (by omega) (by omega) (by omega)
end
end Go.Proofs.YtbkakhfepiooaaaGreatDoor
