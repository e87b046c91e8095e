/-
  The law haystacklaw6.BwtMoved answers true for every input and leaves its arguments as they were; its row. Conditions: none.
-/
import Derived.Test.YtgboobjmafdieaaSvLift
import Derived.Test.YtgboobjmafdieaaBwSized
import Derived.Test.YtgboobjmafdieaaBwMovedLaw
namespace Go.Proofs.Ytgboobjmafdieaa.BwtMovedP
open Go Go.ChangeShapes Go.WideShapes Go.ChangeAt Go.WideMaps Go.WideElems Go.RowKit Go.Oct

theorem bytes64 : Try.prog.bytesOf 3 = 8 := by kernel_rfl
theorem cells64i : Try.prog.cellsOf 3 = 1 := by kernel_rfl

set_option maxRecDepth 100000 in
theorem lifted (os : Os) (started : os.Started) (H : Type) (enc : TypeId × Value → H) :
    ReturnsInHanded {} Try.checked os 8 .any (Rows.bwtMovedSpec.pre6 enc Try.prog Try.f8 Rows.bwtMovedRow.domain false) (Rows.bwtMovedSpec.post enc Try.prog Try.f8 false true false false) := by
  refine returnsInHanded_of_change_sized (C := Try.checked) own started (by kernel_rfl) Try.func8
    (ChangeSpec.witness6 (enc := enc) (C := Try.checked) false ⟨#[], #[.slice none 0 0, .slice none 0 0], []⟩ 8 (by kernel_rfl) (by kernel_rfl) (by kernel_rfl) (by kernel_rfl)) ?_
  intro W base args ds gs before hval0 hW _ hsz _
  have hval : ∀ (j : Nat) t v, Try.f8.params[j]? = some t → args[j]? = some v → Value.okWide Try.prog W .any base t v := hval0
  have hW' := hW
  obtain ⟨p, q, hA0, hV, rfl, hfz, hnd⟩ := hW
  have hA : DataW.TrodAll enc Try.prog W 0 (fun _ => true) true Try.f8.params.toList args.toList ds p := hA0
  rw [Try.params8] at hA hval
  have hcalls : Calls Try.prog 8 args W fun e w' => e = .returned (.bool true) ∧ Ch (fun _ => False) W w' := by
    obtain ⟨v0, v1, d0, d1, p0, p1, rfl, rfl, rfl, h0, h1⟩ := trodAll_two hA
    obtain ⟨A0, n0, c0, x0, rfl, hs0, hl0, hm0, hw0⟩ := open_sl Try.underlying22 Try.underlying3 cells64i (hval 0 22 v0 rfl rfl) h0
    obtain ⟨A1, n1, c1, x1, rfl, hs1, hl1, hm1, hw1⟩ := open_sl Try.underlying22 Try.underlying3 cells64i (hval 1 22 v1 rfl rfl) h1
    have hz0 : n0 * 8 ≤ 140737488351232 := by
      have : n0 * Try.prog.bytesOf 3 ≤ 140737488351232 := Go.Su.slice_sized (j := 0) hsz rfl rfl Try.underlying22 h0
      rwa [bytes64] at this
    have hz1 : n1 * 8 ≤ 140737488351232 := by
      have : n1 * Try.prog.bytesOf 3 ≤ 140737488351232 := Go.Su.slice_sized (j := 1) hsz rfl rfl Try.underlying22 h1
      rwa [bytes64] at this
    exact movedlaw_any x0 x1 A0 A1 n0 c0 n1 c1 W hs0 hs1 hz0 hz1
  have hfn : Rows.bwtMovedSpec.fn H (ds ++ gs) = { results := [.lit (.bool true)], args := ds, vars := [] } := by
    obtain ⟨rfl, rfl⟩ := trodVars_none hV
    obtain ⟨v0, v1, d0, d1, p0, p1, rfl, rfl, rfl, h0, h1⟩ := trodAll_two hA
    rfl
  refine hcalls.mono fun e W' ⟨he, hc⟩ => ?_
  subst he
  exact ⟨_, rfl, law_post laidOut Try.underlying4 hW' rfl hfn rfl (fun t ht => by
    have hall : (Try.f8.params.toList.all fun u => Try.prog.readableRec u && decide (u < Try.prog.types.size)) = true := by kernel_rfl
    have h2 := List.all_eq_true.1 hall t ht
    rw [Bool.and_eq_true] at h2
    exact ⟨h2.1, of_decide_eq_true h2.2⟩) hc⟩

theorem said : Rows.BwtMovedSaid :=
  OpenClaim.holds_of_wide 8 Try.f8 rfl rfl rfl rfl rfl rfl rfl ⟨rfl, rfl, rfl, rfl, rfl⟩ rfl rfl rfl rfl rfl (by kernel_rfl) Try.func8 (by kernel_rfl)
    (of_decide_eq_true (by kernel_rfl)) (by unfold Func.isWrapper; first | (rw [if_pos (by decide +kernel)]; kernel_rfl) | (rw [if_neg (by decide +kernel)]; exact ⟨rfl, rfl⟩))
    (fun os started H enc _ => lifted os started H enc)
end Go.Proofs.Ytgboobjmafdieaa.BwtMovedP
namespace Go.Proofs.Ytgboobjmafdieaa
theorem bwtMoved_said : Rows.BwtMovedSaid := BwtMovedP.said
#print axioms bwtMoved_said
end Go.Proofs.Ytgboobjmafdieaa
