/-
  The law haystacklaw13.OpEncodes answers true for every input and leaves its arguments as they were; its row. Conditions: none.
-/
import Derived.Test.YtanhnaohmaepoaaSvLift
import Derived.Test.YtanhnaohmaepoaaOpOpen
import Derived.Test.YtanhnaohmaepoaaOpEncL
namespace Go.Proofs.Ytanhnaohmaepoaa.OpEncodesP
open Go Go.ChangeShapes Go.WideShapes Go.ChangeAt Go.WideMaps Go.WideElems Go.RowKit Go.Oct

set_option maxRecDepth 100000 in
theorem opT : ∃ f0 f1 f2 f3 f4, OpT Try.prog 24 3 9 22 5 f0 f1 f2 f3 f4 :=
  ⟨_, _, _, _, _, Try.underlying24, by kernel_rfl, rfl, rfl, rfl, rfl, rfl, rfl, rfl, rfl, rfl, rfl, Try.underlying3, Try.underlying9, Try.underlying22, Try.underlying5, by kernel_rfl, by kernel_rfl, by kernel_rfl, by kernel_rfl, by kernel_rfl⟩
set_option maxRecDepth 100000 in
theorem lifted (os : Os) (started : os.Started) (H : Type) (enc : TypeId × Value → H) :
    ReturnsInHanded {} Try.checked os 3 .any (Rows.opEncodesSpec.pre6 enc Try.prog Try.f3 Rows.opEncodesRow.domain false) (Rows.opEncodesSpec.post enc Try.prog Try.f3 false true false false) := by
  refine returnsInHanded_of_change_sized (C := Try.checked) own started (by kernel_rfl) Try.func3
    (ChangeSpec.witness6 (enc := enc) (C := Try.checked) false ⟨#[], #[.agg #[.int .i64 0, .int .i64 0, .int .i64 0, .string ByteArray.empty, .slice none 0 0]], []⟩ 8 (by kernel_rfl) (by kernel_rfl) (by kernel_rfl) (by kernel_rfl)) ?_
  intro W base args ds gs before hval0 hW _ hsz _
  have hval : ∀ (j : Nat) t v, Try.f3.params[j]? = some t → args[j]? = some v → Value.okWide Try.prog W .any base t v := hval0
  have hW' := hW
  obtain ⟨p, q, hA0, hV, rfl, hfz, hnd⟩ := hW
  have hA : DataW.TrodAll enc Try.prog W 0 (fun _ => true) true Try.f3.params.toList args.toList ds p := hA0
  rw [Try.params3] at hA hval
  have hcalls : Calls Try.prog 3 args W fun e w' => e = .returned (.bool true) ∧ Ch (fun _ => False) W w' := by
    obtain ⟨f0, f1, f2, f3, f4, hT⟩ := opT
    obtain ⟨v0, d0, rfl, rfl, h0⟩ := trodAll_one hA
    obtain ⟨kd0, cl0, sq0, k0, x0, A0, n0, c0, rfl, hs0, hl0, hm0, hn0, hk0, hb0⟩ := open_op hT (hval 0 24 v0 rfl rfl) (Go.Sg.Wt.of_sized hsz (j := 0) (t := 24) rfl rfl) h0
    exact opencodes_any kd0 cl0 sq0 k0 x0 A0 n0 c0 W hs0 hb0 hl0 hm0 hn0 hk0
  have hfn : Rows.opEncodesSpec.fn H (ds ++ gs) = { results := [.lit (.bool true)], args := ds, vars := [] } := by
    obtain ⟨rfl, rfl⟩ := trodVars_none hV
    obtain ⟨v0, d0, rfl, rfl, h0⟩ := trodAll_one hA
    rfl
  refine hcalls.mono fun e W' ⟨he, hc⟩ => ?_
  subst he
  exact ⟨_, rfl, law_post laidOut Try.underlying4 hW' rfl hfn rfl (fun t ht => by
    have hall : (Try.f3.params.toList.all fun u => Try.prog.readableRec u && decide (u < Try.prog.types.size)) = true := by kernel_rfl
    have h2 := List.all_eq_true.1 hall t ht
    rw [Bool.and_eq_true] at h2
    exact ⟨h2.1, of_decide_eq_true h2.2⟩) hc⟩

theorem said : Rows.OpEncodesSaid :=
  OpenClaim.holds_of_wide 3 Try.f3 rfl rfl rfl rfl rfl rfl rfl ⟨rfl, rfl, rfl, rfl, rfl⟩ rfl rfl rfl rfl rfl (by kernel_rfl) Try.func3 (by kernel_rfl)
    (of_decide_eq_true (by kernel_rfl)) (by unfold Func.isWrapper; first | (rw [if_pos (by decide +kernel)]; kernel_rfl) | (rw [if_neg (by decide +kernel)]; exact ⟨rfl, rfl⟩))
    (fun os started H enc _ => lifted os started H enc)
end Go.Proofs.Ytanhnaohmaepoaa.OpEncodesP
namespace Go.Proofs.Ytanhnaohmaepoaa
theorem opEncodes_said : Rows.OpEncodesSaid := OpEncodesP.said
#print axioms opEncodes_said
end Go.Proofs.Ytanhnaohmaepoaa
