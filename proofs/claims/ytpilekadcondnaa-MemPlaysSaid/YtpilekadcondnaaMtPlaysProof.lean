/-
  The law haystacklaw12.MemPlays answers true for every input and leaves its arguments as they were; its row. Conditions: none.
-/
import Derived.Test.YtpilekadcondnaaSvLift
import Derived.Test.YtpilekadcondnaaOcOpen
import Derived.Test.YtpilekadcondnaaMtOpen
import Derived.Test.YtpilekadcondnaaMtPlays
import Derived.HandedShaped
namespace Go.Proofs.Ytpilekadcondnaa.MemPlaysP
open Go Go.ChangeShapes Go.WideShapes Go.ChangeAt Go.WideMaps Go.WideElems Go.RowKit Go.Oct

set_option maxRecDepth 100000 in
theorem stepT : ∃ f0 f1 f2, Go.Sg.StepT Try.prog 22 32 3 9 30 5 f0 f1 f2 :=
  ⟨_, _, _, Try.underlying22, Try.underlying32, by kernel_rfl, rfl, rfl, rfl, rfl, rfl, rfl, Try.underlying3, Try.underlying9, Try.underlying30, Try.underlying5, by kernel_rfl, by kernel_rfl, by kernel_rfl, by kernel_rfl, by kernel_rfl⟩
set_option maxRecDepth 100000 in
theorem lifted (os : Os) (started : os.Started) (H : Type) (enc : TypeId × Value → H) :
    ReturnsInHanded {} Try.checked os 3 .any (Rows.memPlaysSpec.pre6 enc Try.prog Try.f3 Rows.memPlaysRow.domain false) (Rows.memPlaysSpec.post enc Try.prog Try.f3 false true false false) := by
  refine returnsInHanded_of_change_shaped (C := Try.checked) own started (by kernel_rfl) Try.func3
    (ChangeSpec.witness6 (enc := enc) (C := Try.checked) false ⟨#[], #[.slice none 0 0, .slice none 0 0], []⟩ 8 (by kernel_rfl) (by kernel_rfl) (by kernel_rfl) (by kernel_rfl)) ?_
  intro W base args ds gs before hval0 hW _ hsz hsh _
  have hmx : ∃ m, W.cell? ⟨0, 0, none⟩ = some (.int .i64 m) := Try.mtIndex.s1_3 W hsh
  have hval : ∀ (j : Nat) t v, Try.f3.params[j]? = some t → args[j]? = some v → Value.okWide Try.prog W .any base t v := hval0
  have hW' := hW
  obtain ⟨p, q, hA0, hV, rfl, hfz, hnd⟩ := hW
  have hA : DataW.TrodAll enc Try.prog W 0 (fun _ => true) true Try.f3.params.toList args.toList ds p := hA0
  rw [Try.params3] at hA hval
  have hcalls : Calls Try.prog 3 args W fun e w' => e = .returned (.bool true) ∧ Ch (fun _ => False) W w' := by
    obtain ⟨f0, f1, f2, hT⟩ := stepT
    obtain ⟨v0, v1, d0, d1, p0, p1, rfl, rfl, rfl, h0, h1⟩ := trodAll_two hA
    obtain ⟨A0, n0, c0, x0, rfl, hs0, hl0, hm0, hok0⟩ := Go.Sg.open_steps hT (hval 0 22 v0 rfl rfl) (Go.Sg.Wt.of_sized hsz (j := 0) (t := 22) rfl rfl) h0
    obtain ⟨A1, n1, c1, x1, rfl, hs1, hl1, hm1, hok1⟩ := Go.Sg.open_steps hT (hval 1 22 v1 rfl rfl) (Go.Sg.Wt.of_sized hsz (j := 1) (t := 22) rfl rfl) h1
    exact plays_law x0 x1 A0 A1 n0 c0 n1 c1 W hs0 hs1 hok0 hok1 (by unfold maxLen at hm0; omega) (by unfold maxLen at hm1; omega) hmx
  have hfn : Rows.memPlaysSpec.fn H (ds ++ gs) = { results := [.lit (.bool true)], args := ds, vars := [] } := by
    obtain ⟨rfl, rfl⟩ := trodVars_none hV
    obtain ⟨v0, v1, d0, d1, p0, p1, rfl, rfl, rfl, h0, h1⟩ := trodAll_two hA
    rfl
  refine hcalls.mono fun e W' ⟨he, hc⟩ => ?_
  subst he
  exact ⟨_, rfl, law_post laidOut Try.underlying4 hW' rfl hfn rfl (fun t ht => by
    have hall : (Try.f3.params.toList.all fun u => Try.prog.readableRec u && decide (u < Try.prog.types.size)) = true := by kernel_rfl
    have h2 := List.all_eq_true.1 hall t ht
    rw [Bool.and_eq_true] at h2
    exact ⟨h2.1, of_decide_eq_true h2.2⟩) hc⟩

theorem said : Rows.MemPlaysSaid :=
  OpenClaim.holds_of_wide 3 Try.f3 rfl rfl rfl rfl rfl rfl rfl ⟨rfl, rfl, rfl, rfl, rfl⟩ rfl rfl rfl rfl rfl (by kernel_rfl) Try.func3 (by kernel_rfl)
    (of_decide_eq_true (by kernel_rfl)) (by unfold Func.isWrapper; first | (rw [if_pos (by decide +kernel)]; kernel_rfl) | (rw [if_neg (by decide +kernel)]; exact ⟨rfl, rfl⟩))
    (fun os started H enc _ => lifted os started H enc)
end Go.Proofs.Ytpilekadcondnaa.MemPlaysP
namespace Go.Proofs.Ytpilekadcondnaa
theorem memPlays_said : Rows.MemPlaysSaid := MemPlaysP.said
#print axioms memPlays_said
end Go.Proofs.Ytpilekadcondnaa
