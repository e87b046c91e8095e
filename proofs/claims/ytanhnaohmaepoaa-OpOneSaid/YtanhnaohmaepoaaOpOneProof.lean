/-
  The law haystacklaw13.OpOne answers true for every input and leaves its arguments as they were; its row. Conditions: none.
-/
import Derived.Test.YtanhnaohmaepoaaSvLift
import Derived.Test.YtanhnaohmaepoaaOpOpen
import Derived.Test.YtanhnaohmaepoaaOpOneL
namespace Go.Proofs.Ytanhnaohmaepoaa.OpOneP
open Go Go.ChangeShapes Go.WideShapes Go.ChangeAt Go.WideMaps Go.WideElems Go.RowKit Go.Oct

set_option maxRecDepth 100000 in
theorem opT : ∃ f0 f1 f2 f3 f4, OpT Try.prog 24 3 9 22 5 f0 f1 f2 f3 f4 :=
  ⟨_, _, _, _, _, Try.underlying24, by kernel_rfl, rfl, rfl, rfl, rfl, rfl, rfl, rfl, rfl, rfl, rfl, Try.underlying3, Try.underlying9, Try.underlying22, Try.underlying5, by kernel_rfl, by kernel_rfl, by kernel_rfl, by kernel_rfl, by kernel_rfl⟩
set_option maxRecDepth 100000 in
theorem lifted (os : Os) (started : os.Started) (H : Type) (enc : TypeId × Value → H) :
    ReturnsInHanded {} Try.checked os 7 .any (Rows.opOneSpec.pre6 enc Try.prog Try.f7 Rows.opOneRow.domain false) (Rows.opOneSpec.post enc Try.prog Try.f7 false true false false) := by
  refine returnsInHanded_of_change_sized (C := Try.checked) own started (by kernel_rfl) Try.func7
    (ChangeSpec.witness6 (enc := enc) (C := Try.checked) false ⟨#[], #[.agg #[.int .i64 0, .int .i64 0, .int .i64 0, .string ByteArray.empty, .slice none 0 0], .agg #[.int .i64 0, .int .i64 0, .int .i64 0, .string ByteArray.empty, .slice none 0 0]], []⟩ 8 (by kernel_rfl) (by kernel_rfl) (by kernel_rfl) (by kernel_rfl)) ?_
  intro W base args ds gs before hval0 hW _ hsz _
  have hval : ∀ (j : Nat) t v, Try.f7.params[j]? = some t → args[j]? = some v → Value.okWide Try.prog W .any base t v := hval0
  have hW' := hW
  obtain ⟨p, q, hA0, hV, rfl, hfz, hnd⟩ := hW
  have hA : DataW.TrodAll enc Try.prog W 0 (fun _ => true) true Try.f7.params.toList args.toList ds p := hA0
  rw [Try.params7] at hA hval
  have hcalls : Calls Try.prog 7 args W fun e w' => e = .returned (.bool true) ∧ Ch (fun _ => False) W w' := by
    obtain ⟨f0, f1, f2, f3, f4, hT⟩ := opT
    obtain ⟨v0, v1, d0, d1, p0, p1, rfl, rfl, rfl, h0, h1⟩ := trodAll_two hA
    obtain ⟨kd0, cl0, sq0, k0, x0, A0, n0, c0, rfl, hs0, hl0, hm0, hn0, hk0, hb0⟩ := open_op hT (hval 0 24 v0 rfl rfl) (Go.Sg.Wt.of_sized hsz (j := 0) (t := 24) rfl rfl) h0
    obtain ⟨kd1, cl1, sq1, k1, x1, A1, n1, c1, rfl, hs1, hl1, hm1, hn1, hk1, hb1⟩ := open_op hT (hval 1 24 v1 rfl rfl) (Go.Sg.Wt.of_sized hsz (j := 1) (t := 24) rfl rfl) h1
    exact opone_any kd0 cl0 sq0 k0 x0 A0 n0 c0 kd1 cl1 sq1 k1 x1 A1 n1 c1 W hs0 hl0 hm0 hn0 hk0 hs1 hl1 hm1 hn1 hk1
  have hfn : Rows.opOneSpec.fn H (ds ++ gs) = { results := [.lit (.bool true)], args := ds, vars := [] } := by
    obtain ⟨rfl, rfl⟩ := trodVars_none hV
    obtain ⟨v0, v1, d0, d1, p0, p1, rfl, rfl, rfl, h0, h1⟩ := trodAll_two hA
    rfl
  refine hcalls.mono fun e W' ⟨he, hc⟩ => ?_
  subst he
  exact ⟨_, rfl, law_post laidOut Try.underlying4 hW' rfl hfn rfl (fun t ht => by
    have hall : (Try.f7.params.toList.all fun u => Try.prog.readableRec u && decide (u < Try.prog.types.size)) = true := by kernel_rfl
    have h2 := List.all_eq_true.1 hall t ht
    rw [Bool.and_eq_true] at h2
    exact ⟨h2.1, of_decide_eq_true h2.2⟩) hc⟩

theorem said : Rows.OpOneSaid :=
  OpenClaim.holds_of_wide 7 Try.f7 rfl rfl rfl rfl rfl rfl rfl ⟨rfl, rfl, rfl, rfl, rfl⟩ rfl rfl rfl rfl rfl (by kernel_rfl) Try.func7 (by kernel_rfl)
    (of_decide_eq_true (by kernel_rfl)) (by unfold Func.isWrapper; first | (rw [if_pos (by decide +kernel)]; kernel_rfl) | (rw [if_neg (by decide +kernel)]; exact ⟨rfl, rfl⟩))
    (fun os started H enc _ => lifted os started H enc)
end Go.Proofs.Ytanhnaohmaepoaa.OpOneP
namespace Go.Proofs.Ytanhnaohmaepoaa
theorem opOne_said : Rows.OpOneSaid := OpOneP.said
#print axioms opOne_said
end Go.Proofs.Ytanhnaohmaepoaa
