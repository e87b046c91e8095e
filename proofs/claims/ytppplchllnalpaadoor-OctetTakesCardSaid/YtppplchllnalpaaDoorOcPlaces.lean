/-
  The contract of (*octet.Reader).Nums with three places, the second one nil.
-/
import Derived.Test.YtppplchllnalpaaDoorOcSteps
namespace Go.Proofs.YtppplchllnalpaaDoor
open Go.RowKit Go.Oct
section
variable {Q : Nat → Prop}
/-- An integer's variable. -/
def Var (w : World) (b : Nat) (v : Int) : Prop := w.heap[b]? = some (.cells #[.int .i64 v] 3 (0, 0))
theorem Var.cell {w : World} {b : Nat} {v : Int} (h : Var w b v) : w.cell? ⟨b, 0, none⟩ = some (.int .i64 v) := by unfold Var at h; simp [World.cell?, h]
theorem Var.frozen {w : World} {b : Nat} {v : Int} (h : Var w b v) : w.frozen? ⟨b, 0, none⟩ = false := by unfold Var at h; simp [World.frozen?, h]
theorem Var.lt {w : World} {b : Nat} {v : Int} (h : Var w b v) : b < w.heap.size := (Array.getElem?_eq_some_iff.1 h).1
theorem Var.ch {w w' : World} {S : Nat → Prop} {b : Nat} {v : Int} (h : Var w b v) (hc : Ch S w w') (hS : ¬ S b) : Var w' b v := (hc.block b h.lt hS).trans h
theorem Var.set_ {w : World} {b : Nat} {v : Int} (h : Var w b v) (u : Int) : Var (w.setCell ⟨b, 0, none⟩ (.int .i64 u)) b u := by
  unfold Var at h ⊢
  simp [World.setCell, Array.getElem?_modify, h]
theorem RdQ.keep {w w' : World} {S : Nat → Prop} {br : Nat} {bad : Bool} {xs : List Int} (h : RdQ Q w br bad xs) (hc : Ch S w w') (h0 : ¬ S br) (hS : ∀ b, Q b → b < w.heap.size → ¬ S b) : RdQ Q w' br bad xs := by
  have hlt := h.lt
  obtain ⟨A, n, c, hblk, hsl, rest⟩ := h
  exact ⟨A, n, c, (hc.block br hlt h0).trans hblk, hsl.ch hc (fun b hq hb => hS b hq.2 hb), rest⟩

set_option maxHeartbeats 1000000 in
theorem places_any (br bs ba bc : Nat) (bad : Bool) (xs : List Int) (va vc : Int) (w : World) (hr : RdQ Q w br bad xs) (hq : ∀ b, Q b → b ≠ ba ∧ b ≠ bc)
    (h0 : w.cell? ⟨bs, 0, none⟩ = some (.pointer (some ⟨ba, 0, none⟩))) (h1 : w.cell? ⟨bs, 1, none⟩ = some (.pointer none)) (h2 : w.cell? ⟨bs, 2, none⟩ = some (.pointer (some ⟨bc, 0, none⟩)))
    (ha : Var w ba va) (hc : Var w bc vc) (n1 : br ≠ bs) (n2 : br ≠ ba) (n3 : br ≠ bc) (n4 : bs ≠ ba) (n6 : ba ≠ bc) :
    Calls Tryd.prog 35 #[.pointer (some ⟨br, 0, none⟩), .slice (some ⟨bs, 0, none⟩) 3 3] w fun e w' => e = .returned (.tuple #[]) ∧
      RdQ Q w' br (nb (nr (nr xs))) (nr (nr (nr xs))) ∧ Var w' ba (nv xs) ∧ Var w' bc (nv (nr (nr xs))) ∧ Ch (fun b => b = br ∨ b = ba ∨ b = bc) w w' := by
  have hA := num_step br bad xs w hr
  have HA := Lib.hid hA
  clear hA hr
  go_enter Tryd.func35, Tryd.ntmps35
  go_wp2
  refine wp_loop_rounds 4 ?_
  rw [rounds_succ]
  go_wp2_with fail
  refine HA.out.mono ?_
  rintro e w1 ⟨rfl, hr1, hc1⟩
  clear HA
  have ha1 := ha.ch hc1 (fun h => n2 h.symm)
  have hv1 := hc.ch hc1 (fun h => n3 h.symm)
  have g11 := hc1.cell (p := ⟨bs, 1, none⟩) (fun h => n1 h.symm) h1
  have g12 := hc1.cell (p := ⟨bs, 2, none⟩) (fun h => n1 h.symm) h2
  have ka := ha1.cell
  have kf := ha1.frozen
  have hC2 : Ch (fun b => b = ba) w1 (w1.setCell ⟨ba, 0, none⟩ (.int .i64 (nv xs))) := (Ch.refl (fun b => b = ba) w1).setCell (p := ⟨ba, 0, none⟩) (.inl rfl) _
  have ha2 := ha1.set_ (nv xs)
  have hv2 := hv1.ch hC2 (fun h => n6 h.symm)
  have hr2 := hr1.keep hC2 n2 fun b hb _ h => (hq b hb).1 h
  have g21 := hC2.cell (p := ⟨bs, 1, none⟩) (fun h => n4 h) g11
  have g22 := hC2.cell (p := ⟨bs, 2, none⟩) (fun h => n4 h) g12
  have hC : Ch (fun b => b = br ∨ b = ba ∨ b = bc) w (w1.setCell ⟨ba, 0, none⟩ (.int .i64 (nv xs))) := (hc1.mono (S := fun b => b = br ∨ b = ba ∨ b = bc) fun _ _ h => .inl h).trans hC2 fun _ _ h => .inr (.inl h)
  have HA2 := Lib.hid ha2
  have HV2 := Lib.hid hv2
  have HR2 := Lib.hid hr2
  have HC := Lib.hid hC
  clear hr1 hc1 ha1 hv1 g11 g12 hC2 ha2 hv2 hr2 hC h0 h1 h2 ha hc
  have HB := Lib.hid (num_step br _ _ _ HR2.out)
  go_wp2_with fail
  rw [rounds_succ]
  go_wp2_with fail
  refine HB.out.mono ?_
  rintro e w3 ⟨rfl, hr3, hc3⟩
  clear HB
  have ha3 := HA2.out.ch hc3 (fun h => n2 h.symm)
  have hv3 := HV2.out.ch hc3 (fun h => n3 h.symm)
  have g32 := hc3.cell (p := ⟨bs, 2, none⟩) (fun h => n1 h.symm) g22
  have hC3 := HC.out.trans hc3 fun _ _ h => .inl h
  have HA3 := Lib.hid ha3
  have HV3 := Lib.hid hv3
  have HB3 := Lib.hid (num_step br _ _ _ hr3)
  have HC3 := Lib.hid hC3
  clear HA2 HV2 HR2 HC g21 g22 ka kf ha3 hv3 hc3 hC3 hr3
  go_wp2_with fail
  rw [rounds_succ]
  go_wp2_with fail
  refine HB3.out.mono ?_
  rintro e w4 ⟨rfl, hr4, hc4⟩
  clear HB3
  have ha4 := HA3.out.ch hc4 (fun h => n2 h.symm)
  have hv4 := HV3.out.ch hc4 (fun h => n3 h.symm)
  have kc := hv4.cell
  have kcf := hv4.frozen
  have hC5 : Ch (fun b => b = bc) w4 (w4.setCell ⟨bc, 0, none⟩ (.int .i64 (nv (nr (nr xs))))) := (Ch.refl (fun b => b = bc) w4).setCell (p := ⟨bc, 0, none⟩) (.inl rfl) _
  have hv5 := hv4.set_ (nv (nr (nr xs)))
  have ha5 := ha4.ch hC5 n6
  have hr5 := hr4.keep hC5 n3 fun b hb _ h => (hq b hb).2 h
  have hC := (HC3.out.trans hc4 fun _ _ h => .inl h).trans hC5 fun _ _ h => .inr (.inr h)
  have HA5 := Lib.hid ha5
  have HV5 := Lib.hid hv5
  have HR5 := Lib.hid hr5
  have HC5 := Lib.hid hC
  clear HA3 HV3 HC3 g32 hr4 hc4 ha4 hv4 hC5 hv5 ha5 hr5 hC
  go_wp2_with fail
  rw [rounds_succ]
  go_wp2
  go_returns
  exact ⟨rfl, HR5.out, HA5.out, HV5.out, HC5.out⟩
end
end Go.Proofs.YtppplchllnalpaaDoor
