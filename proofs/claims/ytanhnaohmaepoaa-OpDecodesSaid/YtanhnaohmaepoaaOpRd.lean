/-
  A Reader of op's own; numbers taken into places. Conditions: the Reader reads as it says; the places are apart from it.
-/
import Derived.Test.YtanhnaohmaepoaaOpW
namespace Go.Proofs.Ytanhnaohmaepoaa
open Go.RowKit Go.Oct Go.Su Go.Sg Go.Om

theorem newrd_any (A : Option Addr) (n c : Nat) (xs : List Int) (w : World) (F : Nat → Prop) (hz : Sl w F .u8 A n xs) (hb : n ≤ 100000000000000) (hnc : n ≤ c) (hcm : c ≤ maxLen) (hby : Byt xs) :
    Calls Try.prog 34 #[.slice A n c] w fun e w' => ∃ br, e = .returned (.pointer (some ⟨br, 0, none⟩)) ∧ w.heap.size ≤ br ∧ O.RdQ (fun b => w.heap.size ≤ b ∧ b < br) w' br false xs ∧ Ch (fun _ => False) w w' := by
  obtain rfl := hz.len
  go_enter Try.func34, Try.ntmps34
  go_wp2_with fail
  refine (O.join_any [xs] _ 1 1 _ (fun _ => True) (by omega) (Sls.one _ hz hnc hcm (fun _ _ _ => trivial) trivial) (by simpa [cat] using hb)).mono ?_
  rintro e w1 ⟨v, rfl, hf⟩
  have e1 : cat [xs] = xs := by simp [cat]
  rw [e1] at hf
  have hf := O.Fresh.after ((Ch.refl (fun _ => False) w).alloc _) hf
  obtain ⟨A2, c2, rfl, hl2, hm2⟩ := own_shape hf.1
  have hb1 := heap_alloc_new w1 (.cells #[.slice A2 xs.length c2, .bool false] 86)
  have hR : O.RdQ (fun b => w.heap.size ≤ b ∧ b < w1.heap.size) (w1.alloc (.cells #[.slice A2 xs.length c2, .bool false] 86)) w1.heap.size false xs :=
    ⟨A2, xs.length, c2, hb1, Sl.alloc ((Sl.of_own hf.1).mono fun b h hg => ⟨by omega, hf.2.1 b hg, h⟩) _, hl2, by unfold maxLen at hm2; omega, hby, fun h => by cases h⟩
  have hC := hf.2.2.alloc (.cells #[.slice A2 xs.length c2, .bool false] 86)
  have hs := hf.2.2.size
  have HR := Bx.mk hR
  have HC := Bx.mk hC
  clear hf hb1 hR hC hz
  go_wp2
  go_returns
  exact ⟨_, rfl, hs, HR.out, HC.out⟩
theorem rdq_keep {Q S : Nat → Prop} {w w' : World} {br : Nat} {bad : Bool} {xs : List Int} (h : O.RdQ Q w br bad xs) (hc : Ch S w w') (h0 : ¬ S br) (hS : ∀ b, Q b → b < w.heap.size → ¬ S b) : O.RdQ Q w' br bad xs := by
  have hlt := O.RdQ.lt h
  obtain ⟨A, n, c, hblk, hsl, rest⟩ := h
  exact ⟨A, n, c, (hc.block br hlt h0).trans hblk, hsl.ch hc (fun b hq hb => hS b hq.2 hb), rest⟩
/-- An op's memory. -/
def OpB (w : World) (bo : Nat) (a b c : Int) (k x : Value) : Prop := w.heap[bo]? = some (.cells #[.int .i64 a, .int .i64 b, .int .i64 c, k, x] 24 (0, 0))
section
variable {w w' : World} {bo : Nat} {a b c : Int} {k x : Value}
theorem OpB.ch {S : Nat → Prop} (h : OpB w bo a b c k x) (hc : Ch S w w') (h0 : ¬ S bo) : OpB w' bo a b c k x := (hc.block bo (Array.getElem?_eq_some_iff.1 h).1 h0).trans h
theorem OpB.facts (h : OpB w bo a b c k x) : w.cell? ⟨bo, 0, none⟩ = some (.int .i64 a) ∧ w.cell? ⟨bo, 1, none⟩ = some (.int .i64 b) ∧ w.cell? ⟨bo, 2, none⟩ = some (.int .i64 c) ∧ w.cell? ⟨bo, 3, none⟩ = some k ∧ w.cell? ⟨bo, 4, none⟩ = some x ∧
    w.frozen? ⟨bo, 0, none⟩ = false ∧ w.frozen? ⟨bo, 1, none⟩ = false ∧ w.frozen? ⟨bo, 2, none⟩ = false ∧ w.frozen? ⟨bo, 3, none⟩ = false ∧ w.frozen? ⟨bo, 4, none⟩ = false := by
  unfold OpB at h
  simp [World.cell?, World.frozen?, h]
theorem OpB.set0 (h : OpB w bo a b c k x) (u : Int) : OpB (w.setCell ⟨bo, 0, none⟩ (.int .i64 u)) bo u b c k x := by
  unfold OpB at h ⊢
  simp [World.setCell, Array.getElem?_modify, h]
theorem OpB.set1 (h : OpB w bo a b c k x) (u : Int) : OpB (w.setCell ⟨bo, 1, none⟩ (.int .i64 u)) bo a u c k x := by
  unfold OpB at h ⊢
  simp [World.setCell, Array.getElem?_modify, h]
theorem OpB.set2 (h : OpB w bo a b c k x) (u : Int) : OpB (w.setCell ⟨bo, 2, none⟩ (.int .i64 u)) bo a b u k x := by
  unfold OpB at h ⊢
  simp [World.setCell, Array.getElem?_modify, h]
theorem OpB.set3 (h : OpB w bo a b c k x) (u : Value) : OpB (w.setCell ⟨bo, 3, none⟩ u) bo a b c u x := by
  unfold OpB at h ⊢
  simp [World.setCell, Array.getElem?_modify, h]
theorem OpB.set4 (h : OpB w bo a b c k x) (u : Value) : OpB (w.setCell ⟨bo, 4, none⟩ u) bo a b c k u := by
  unfold OpB at h ⊢
  simp [World.setCell, Array.getElem?_modify, h]
end
theorem ch_set {w : World} {bo i : Nat} {u : Value} : Ch (fun b => b = bo) w (w.setCell ⟨bo, i, none⟩ u) := (Ch.refl (fun b => b = bo) w).setCell (p := ⟨bo, i, none⟩) (.inl rfl) _
section
variable {Q : Nat → Prop}
set_option maxHeartbeats 1000000 in
/-- Three numbers into an op. -/
theorem nums3_any (br bs bo : Nat) (bad : Bool) (xs : List Int) (a b c : Int) (k x : Value) (w : World) (hr : O.RdQ Q w br bad xs) (hq : ∀ b, Q b → b ≠ bo)
    (h0 : w.cell? ⟨bs, 0, none⟩ = some (.pointer (some ⟨bo, 0, none⟩))) (h1 : w.cell? ⟨bs, 1, none⟩ = some (.pointer (some ⟨bo, 1, none⟩))) (h2 : w.cell? ⟨bs, 2, none⟩ = some (.pointer (some ⟨bo, 2, none⟩)))
    (ho : OpB w bo a b c k x) (n1 : br ≠ bs) (n2 : br ≠ bo) (n3 : bs ≠ bo) :
    Calls Try.prog 35 #[.pointer (some ⟨br, 0, none⟩), .slice (some ⟨bs, 0, none⟩) 3 3] w fun e w' => e = .returned (.tuple #[]) ∧
      O.RdQ Q w' br (nb (nr (nr xs))) (nr (nr (nr xs))) ∧ OpB w' bo (nv xs) (nv (nr xs)) (nv (nr (nr xs))) k x ∧ Ch (fun b => b = br ∨ b = bo) w w' := by
  have HA := Bx.mk (O.num_step br bad xs w hr)
  have HO := Bx.mk ho
  have HQ := Bx.mk hq
  clear hr ho hq
  go_enter Try.func35, Try.ntmps35
  go_wp2
  refine wp_loop_rounds 4 ?_
  rw [rounds_succ]
  go_wp2_with fail
  refine HA.out.mono ?_
  rintro e w1 ⟨rfl, hr1, hc1⟩
  clear HA
  have ho1 := HO.out.ch hc1 (fun h => n2 h.symm)
  have g11 := hc1.cell (p := ⟨bs, 1, none⟩) (fun h => n1 h.symm) h1
  have g12 := hc1.cell (p := ⟨bs, 2, none⟩) (fun h => n1 h.symm) h2
  obtain ⟨z0, _, _, _, _, y0, _, _, _, _⟩ := ho1.facts
  have hC2 : Ch (fun b => b = bo) w1 (w1.setCell ⟨bo, 0, none⟩ (.int .i64 (nv xs))) := ch_set
  have HO2 := Bx.mk (ho1.set0 (nv xs))
  have hr2 := rdq_keep hr1 hC2 n2 fun b hb _ h => HQ.out b hb h
  have g21 := hC2.cell (p := ⟨bs, 1, none⟩) (fun h => n3 h) g11
  have g22 := hC2.cell (p := ⟨bs, 2, none⟩) (fun h => n3 h) g12
  have HC : Bx (Ch (fun b => b = br ∨ b = bo) w (w1.setCell ⟨bo, 0, none⟩ (.int .i64 (nv xs)))) := ⟨(hc1.mono (S := fun b => b = br ∨ b = bo) fun _ _ h => .inl h).trans hC2 fun _ _ h => .inr h⟩
  have HB := Bx.mk (O.num_step br _ _ _ hr2)
  clear hr1 hc1 ho1 g11 g12 hC2 hr2 h0 h1 h2 HO
  go_wp2_with fail
  rw [rounds_succ]
  go_wp2_with fail
  refine HB.out.mono ?_
  rintro e w3 ⟨rfl, hr3, hc3⟩
  clear HB z0 y0
  have ho3 := HO2.out.ch hc3 (fun h => n2 h.symm)
  have g32 := hc3.cell (p := ⟨bs, 2, none⟩) (fun h => n1 h.symm) g22
  obtain ⟨_, z1, _, _, _, _, y1, _, _, _⟩ := ho3.facts
  have hC4 : Ch (fun b => b = bo) w3 (w3.setCell ⟨bo, 1, none⟩ (.int .i64 (nv (nr xs)))) := ch_set
  have HO4 := Bx.mk (ho3.set1 (nv (nr xs)))
  have hr4 := rdq_keep hr3 hC4 n2 fun b hb _ h => HQ.out b hb h
  have g42 := hC4.cell (p := ⟨bs, 2, none⟩) (fun h => n3 h) g32
  have HC4 := Bx.mk ((HC.out.trans hc3 fun _ _ h => .inl h).trans hC4 fun _ _ h => .inr h)
  have HB3 := Bx.mk (O.num_step br _ _ _ hr4)
  clear HO2 HC g21 g22 g32 hC4 hc3 hr3 hr4 ho3
  go_wp2_with fail
  rw [rounds_succ]
  go_wp2_with fail
  refine HB3.out.mono ?_
  rintro e w5 ⟨rfl, hr5, hc5⟩
  clear HB3 z1 y1
  have ho5 := HO4.out.ch hc5 (fun h => n2 h.symm)
  obtain ⟨_, _, z2, _, _, _, _, y2, _, _⟩ := ho5.facts
  have hC6 : Ch (fun b => b = bo) w5 (w5.setCell ⟨bo, 2, none⟩ (.int .i64 (nv (nr (nr xs))))) := ch_set
  have HO6 := Bx.mk (ho5.set2 (nv (nr (nr xs))))
  have HR6 := Bx.mk (rdq_keep hr5 hC6 n2 fun b hb _ h => HQ.out b hb h)
  have HC6 := Bx.mk ((HC4.out.trans hc5 fun _ _ h => .inl h).trans hC6 fun _ _ h => .inr h)
  clear HO4 HC4 g42 hC6 hc5 hr5 ho5
  go_wp2_with fail
  rw [rounds_succ]
  go_wp2
  go_returns
  exact ⟨rfl, HR6.out, HO6.out, HC6.out⟩
/-- A number's memory. -/
def Iv (w : World) (b : Nat) (v : Int) : Prop := w.heap[b]? = some (.cells #[.int .i64 v] 3 (0, 0))
theorem Iv.facts {w : World} {b : Nat} {v : Int} (h : Iv w b v) : w.cell? ⟨b, 0, none⟩ = some (.int .i64 v) ∧ w.frozen? ⟨b, 0, none⟩ = false := by unfold Iv at h; simp [World.cell?, World.frozen?, h]
theorem Iv.ch {w w' : World} {S : Nat → Prop} {b : Nat} {v : Int} (h : Iv w b v) (hc : Ch S w w') (hS : ¬ S b) : Iv w' b v := (hc.block b (Array.getElem?_eq_some_iff.1 h).1 hS).trans h
theorem Iv.set_ {w : World} {b : Nat} {v : Int} (h : Iv w b v) (u : Int) : Iv (w.setCell ⟨b, 0, none⟩ (.int .i64 u)) b u := by
  unfold Iv at h ⊢
  simp [World.setCell, Array.getElem?_modify, h]
set_option maxHeartbeats 1000000 in
/-- Two numbers into two places. -/
theorem nums2_any (br bs ba bc : Nat) (bad : Bool) (xs : List Int) (va vc : Int) (w : World) (hr : O.RdQ Q w br bad xs) (hq : ∀ b, Q b → b ≠ ba ∧ b ≠ bc)
    (h0 : w.cell? ⟨bs, 0, none⟩ = some (.pointer (some ⟨ba, 0, none⟩))) (h1 : w.cell? ⟨bs, 1, none⟩ = some (.pointer (some ⟨bc, 0, none⟩)))
    (ha : Iv w ba va) (hc : Iv w bc vc) (n1 : br ≠ bs) (n2 : br ≠ ba) (n3 : br ≠ bc) (n4 : bs ≠ ba) (n6 : ba ≠ bc) :
    Calls Try.prog 35 #[.pointer (some ⟨br, 0, none⟩), .slice (some ⟨bs, 0, none⟩) 2 2] w fun e w' => e = .returned (.tuple #[]) ∧
      O.RdQ Q w' br (nb (nr xs)) (nr (nr xs)) ∧ Iv w' ba (nv xs) ∧ Iv w' bc (nv (nr xs)) ∧ Ch (fun b => b = br ∨ b = ba ∨ b = bc) w w' := by
  have HA := Bx.mk (O.num_step br bad xs w hr)
  have HVA := Bx.mk ha
  have HVC := Bx.mk hc
  have HQ := Bx.mk hq
  clear hr ha hc hq
  go_enter Try.func35, Try.ntmps35
  go_wp2
  refine wp_loop_rounds 3 ?_
  rw [rounds_succ]
  go_wp2_with fail
  refine HA.out.mono ?_
  rintro e w1 ⟨rfl, hr1, hc1⟩
  clear HA
  have ha1 := HVA.out.ch hc1 (fun h => n2 h.symm)
  have hv1 := HVC.out.ch hc1 (fun h => n3 h.symm)
  have g11 := hc1.cell (p := ⟨bs, 1, none⟩) (fun h => n1 h.symm) h1
  obtain ⟨z0, y0⟩ := ha1.facts
  have hC2 : Ch (fun b => b = ba) w1 (w1.setCell ⟨ba, 0, none⟩ (.int .i64 (nv xs))) := ch_set
  have HA2 := Bx.mk (ha1.set_ (nv xs))
  have HV2 := Bx.mk (hv1.ch hC2 (fun h => n6 h.symm))
  have hr2 := rdq_keep hr1 hC2 n2 fun b hb _ h => (HQ.out b hb).1 h
  have g21 := hC2.cell (p := ⟨bs, 1, none⟩) (fun h => n4 h) g11
  have HC : Bx (Ch (fun b => b = br ∨ b = ba ∨ b = bc) w (w1.setCell ⟨ba, 0, none⟩ (.int .i64 (nv xs)))) := ⟨(hc1.mono (S := fun b => b = br ∨ b = ba ∨ b = bc) fun _ _ h => .inl h).trans hC2 fun _ _ h => .inr (.inl h)⟩
  have HB := Bx.mk (O.num_step br _ _ _ hr2)
  clear hr1 hc1 ha1 hv1 g11 hC2 hr2 h0 h1 HVA HVC
  go_wp2_with fail
  rw [rounds_succ]
  go_wp2_with fail
  refine HB.out.mono ?_
  rintro e w3 ⟨rfl, hr3, hc3⟩
  clear HB z0 y0
  have hv3 := HV2.out.ch hc3 (fun h => n3 h.symm)
  have ha3 := HA2.out.ch hc3 (fun h => n2 h.symm)
  obtain ⟨z1, y1⟩ := hv3.facts
  have hC4 : Ch (fun b => b = bc) w3 (w3.setCell ⟨bc, 0, none⟩ (.int .i64 (nv (nr xs)))) := ch_set
  have HV4 := Bx.mk (hv3.set_ (nv (nr xs)))
  have HA4 := Bx.mk (ha3.ch hC4 n6)
  have HR4 := Bx.mk (rdq_keep hr3 hC4 n3 fun b hb _ h => (HQ.out b hb).2 h)
  have HC4 := Bx.mk ((HC.out.trans hc3 fun _ _ h => .inl h).trans hC4 fun _ _ h => .inr (.inr h))
  clear HA2 HV2 HC g21 hC4 hc3 hr3 hv3 ha3
  go_wp2_with fail
  rw [rounds_succ]
  go_wp2
  go_returns
  exact ⟨rfl, HR4.out, HA4.out, HV4.out, HC4.out⟩
end
end Go.Proofs.Ytanhnaohmaepoaa
