/-
  The contract of haystacklaw2.known: true.
-/
import Derived.Test.YtaglgmgpifmkdaaDoorBiFlip
namespace Go.Proofs.YtaglgmgpifmkdaaDoor
open Go.RowKit Go.Oct Go.Bi

theorem Tab.ch {w w' : World} {S : Nat → Prop} (h : Tab w) (hc : Ch S w w') (hS : ¬ S 0) : Tab w' := TabAt.keep hc h hS
theorem Tab.keep {w w' : World} (h : Tab w) (hc : Ch (fun _ => False) w w') : Tab w' := h.ch hc (fun h => h)

/-- The row of the document's example. -/
def eight : List Bool := [false, true, false, true, false, false, true, false]
theorem eight_new : newL 8 [1, 3, 6] = eight := by decide
theorem eight_rk : rk eight true 4 = 2 := by decide
theorem eight_sel1 : sel eight true 2 = 6 := sel_eq (.inl ⟨6, rfl, by decide, by decide⟩)
theorem eight_sel0 : sel eight false 2 = 4 := sel_eq (.inl ⟨4, rfl, by decide, by decide⟩)

set_option maxHeartbeats 400000 in
theorem known_any (w : World) (ht : Tab w) : Calls Tryd.prog 13 #[] w fun e w' => e = .returned (.bool true) ∧ Ch (fun _ => False) w w' := by
  have HT := Bx.mk ht
  clear ht
  go_enter Tryd.func13, Tryd.ntmps13
  go_wp2_with fail
  have hs := Vs.built w 3 [.int .i64 1, .int .i64 3, .int .i64 6]
  refine (new_any 8 [1, 3, 6] _ 3 3 _ (fun b => b = w.heap.size) hs (by omega)).mono ?_
  rintro e w1 ⟨bv, rfl, hv, hC⟩
  rw [eight_new] at hv
  have HV := Bx.mk hv
  have HC := Bx.mk (((Ch.refl (fun _ => False) w).alloc (.cells #[.int .i64 1, .int .i64 3, .int .i64 6] 3)).trans hC (fun _ _ h => h))
  clear hs hv hC
  go_wp2_with fail
  refine (len_any bv eight _ HV.out).mono ?_
  rintro e w' ⟨he, rfl⟩
  rw [show ((eight.length : Nat) : Int) = 8 from rfl] at he
  subst he
  go_wp2_with fail
  refine (rank_any bv eight true 4 _ HV.out).mono ?_
  rintro e w' ⟨he, rfl⟩
  rw [eight_rk] at he
  subst he
  go_wp2_with fail
  refine (select_any bv eight true 2 _ HV.out (HT.out.keep HC.out)).mono ?_
  rintro e w2 ⟨he, hC2⟩
  rw [eight_sel1] at he
  subst he
  have HC2 := Bx.mk (HC.out.trans hC2 (fun _ _ h => h))
  have HV2 := Bx.mk (HV.out.keep hC2)
  clear hC2
  go_wp2_with fail
  refine (select_any bv eight false 2 _ HV2.out (HT.out.keep HC2.out)).mono ?_
  rintro e w3 ⟨he, hC3⟩
  rw [eight_sel0] at he
  subst he
  have HC3 := Bx.mk (HC2.out.trans hC3 (fun _ _ h => h))
  clear hC3
  go_wp2
  go_ret
  exact ⟨rfl, HC3.out⟩
end Go.Proofs.YtaglgmgpifmkdaaDoor
