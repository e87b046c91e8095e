/-
  The law haystacklaw4.WaveletOfNothing answers true for every input and leaves its arguments as they were; its row, and its card tied to the program's text. Condition: the one variable that the row lists starts as the program's text lays it (the card's tie, which is given).
-/
import Derived.Test.YtbckiefkppgipaaDoorWaLift
import Derived.Test.YtbckiefkppgipaaDoorWaOpen
import Derived.Test.YtbckiefkppgipaaDoorWaNothing
import Derived.Test.YtbckiefkppgipaaDoorCards
import Derived.Test.YtbckiefkppgipaaDoorTie
import Derived.SevenTiedAt
namespace Go.Proofs.YtbckiefkppgipaaDoor.WaveletOfNothingP
open Go Go.ChangeShapes Go.WideShapes Go.ChangeAt Go.WideMaps Go.WideElems Go.RowKit Go.Oct Go.Bi Go.Wa

theorem cellsK : Tryd.prog.cellsOf 34 = 3 := by kernel_rfl

set_option maxRecDepth 100000 in
theorem lifted (os : Os) (started : os.Started) (H : Type) (enc : TypeId × Value → H) :
    ReturnsInHanded {} Tryd.checked os 5 .any (fun w args => (Rows.waveletOfNothingSpec.pre enc Tryd.prog Tryd.f5 [] false w args ∧ laidMetH Tryd.prog laidL w) ∧ sizedMet enc Tryd.prog Tryd.f5 (OpenSpec.ofChange Rows.waveletOfNothingSpec) false w args)
      (Rows.waveletOfNothingSpec.post enc Tryd.prog Tryd.f5 false true false false) := by
  refine returnsInHanded_of_change_and (C := Tryd.checked) (X := fun w _ => laidMetH Tryd.prog laidL w) (fun _ _ _ hh h => h.of_heap hh) own started (by kernel_rfl) Tryd.func5
    (ChangeSpec.witness_shaped (enc := enc) (C := Tryd.checked) (os := os) (X := fun w _ => laidMetH Tryd.prog laidL w) false (World.doorLaid Tryd.prog 400 os) #[.agg #[.int .i64 0, .int .i64 0, .int .i64 0]] 8 rfl (World.shaped_of_RefB (by kernel_rfl) (by kernel_rfl)) (by kernel_rfl) (by kernel_rfl) (by kernel_rfl) (door_met os _)) ?_
  intro W base args ds gs before hval0 hW _ _ hL _
  have hval : ∀ (j : Nat) t v, Tryd.f5.params[j]? = some t → args[j]? = some v → Value.okWide Tryd.prog W .any base t v := hval0
  have hW' := hW
  obtain ⟨p, q, hA0, hV, rfl, hfz, hnd⟩ := hW
  have hA : DataW.TrodAll enc Tryd.prog W 0 (fun _ => true) true Tryd.f5.params.toList args.toList ds p := hA0
  rw [Tryd.params5] at hA hval
  have hcalls : Calls Tryd.prog 5 args W fun e w' => e = .returned (.bool true) ∧ Ch (fun _ => False) W w' := by
    obtain ⟨v0, d0, rfl, rfl, h0⟩ := trodAll_one hA
    obtain ⟨x0, rfl⟩ := Go.Wa.open_ask Tryd.underlying34 (by kernel_rfl) cellsK Tryd.underlying3 Tryd.underlying3 Tryd.underlying3 (hval 0 34 v0 rfl rfl) h0
    exact nothing_any x0.c x0.i x0.k W (of_laid hL)
  have hfn : Rows.waveletOfNothingSpec.fn H (ds ++ gs) = { results := [.lit (.bool true)], args := ds, vars := [] } := by
    obtain ⟨rfl, rfl⟩ := trodVars_none hV
    obtain ⟨v0, d0, rfl, rfl, h0⟩ := trodAll_one hA
    rfl
  refine hcalls.mono fun e W' ⟨he, hc⟩ => ?_
  subst he
  exact ⟨_, rfl, law_post laidOut Tryd.underlying4 hW' rfl hfn rfl (fun t ht => by
    have hall : (Tryd.f5.params.toList.all fun u => Tryd.prog.readableRec u && decide (u < Tryd.prog.types.size)) = true := by kernel_rfl
    have h2 := List.all_eq_true.1 hall t ht
    rw [Bool.and_eq_true] at h2
    exact ⟨h2.1, of_decide_eq_true h2.2⟩) hc⟩

theorem said : Rows.WaveletOfNothingSaid :=
  OpenClaim.holds_of_wide 5 Tryd.f5 rfl rfl rfl rfl rfl rfl rfl ⟨rfl, rfl, rfl, rfl, rfl⟩ rfl rfl rfl rfl rfl (by kernel_rfl) Tryd.func5 (by kernel_rfl)
    (of_decide_eq_true (by kernel_rfl)) (by unfold Func.isWrapper; first | (rw [if_pos (by decide +kernel)]; kernel_rfl) | (rw [if_neg (by decide +kernel)]; exact ⟨rfl, rfl⟩))
    (fun os started H enc _ => lifted os started H enc)

theorem card : Rows.WaveletOfNothingCardSaid :=
  Claim7.holds_tied_plain_at .later [] [.data] true Rows.waveletOfNothingCard.stood.harness false
    said (fun _ h => by cases h) (by kernel_rfl) (fun _ h => by cases h) waveletOfNothing_row_tie rfl ⟨rfl, rfl⟩ (by kernel_rfl) rfl
    (fun f fn hf hfn => by
      obtain rfl : f = 5 := Option.some.inj ((show Tryd.prog.funcNamed "haystack/haystacklaw4.WaveletOfNothing" = some 5 by kernel_rfl).symm.trans hf) |>.symm
      obtain rfl : fn = Tryd.f5 := (Option.some.inj (Tryd.func5.symm.trans hfn)).symm
      exact ⟨by kernel_rfl, fun j t ht => by
        have hm : t ∈ Tryd.f5.params.toList := by
          rw [Array.mem_toList_iff]
          exact Array.mem_of_getElem? ht
        have hall : (Tryd.f5.params.toList.all fun u => !Tryd.prog.wantsStandIn u) = true := by kernel_rfl
        exact (show Tryd.prog.wantsStandIn t = false by simpa using List.all_eq_true.1 hall t hm)⟩)
    (by kernel_rfl)
end Go.Proofs.YtbckiefkppgipaaDoor.WaveletOfNothingP
namespace Go.Proofs.YtbckiefkppgipaaDoor
theorem waveletOfNothing_card : Rows.WaveletOfNothingCardSaid := WaveletOfNothingP.card
#print axioms waveletOfNothing_card
end Go.Proofs.YtbckiefkppgipaaDoor
