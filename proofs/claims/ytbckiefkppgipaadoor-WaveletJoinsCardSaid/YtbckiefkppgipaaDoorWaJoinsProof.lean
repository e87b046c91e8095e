/-
  The law haystacklaw4.WaveletJoins answers true for every input and leaves its arguments as they were; its row, and its card tied to the program's text. Condition: the one variable that the row lists starts as the program's text lays it (the card's tie, which is given).
-/
import Derived.Test.YtbckiefkppgipaaDoorWaLift
import Derived.Test.YtbckiefkppgipaaDoorWaSized
import Derived.Test.YtbckiefkppgipaaDoorWaJoins
import Derived.Test.YtbckiefkppgipaaDoorCards
import Derived.Test.YtbckiefkppgipaaDoorTie
import Derived.SevenTiedAt
namespace Go.Proofs.YtbckiefkppgipaaDoor.WaveletJoinsP
open Go Go.ChangeShapes Go.WideShapes Go.ChangeAt Go.WideMaps Go.WideElems Go.RowKit Go.Oct Go.Bi Go.Wa

theorem cells64 : Tryd.prog.cellsOf 3 = 1 := by kernel_rfl
theorem bytes64 : Tryd.prog.bytesOf 3 = 8 := by kernel_rfl

set_option maxRecDepth 100000 in
theorem lifted (os : Os) (started : os.Started) (H : Type) (enc : TypeId × Value → H) :
    ReturnsInHanded {} Tryd.checked os 6 .any (fun w args => (Rows.waveletJoinsSpec.pre enc Tryd.prog Tryd.f6 [] false w args ∧ laidMetH Tryd.prog laidL w) ∧ sizedMet enc Tryd.prog Tryd.f6 (OpenSpec.ofChange Rows.waveletJoinsSpec) false w args)
      (Rows.waveletJoinsSpec.post enc Tryd.prog Tryd.f6 false true false false) := by
  refine returnsInHanded_of_change_and (C := Tryd.checked) (X := fun w _ => laidMetH Tryd.prog laidL w) (fun _ _ _ hh h => h.of_heap hh) own started (by kernel_rfl) Tryd.func6
    (ChangeSpec.witness_shaped (enc := enc) (C := Tryd.checked) (os := os) (X := fun w _ => laidMetH Tryd.prog laidL w) false (World.doorLaid Tryd.prog 400 os) #[.slice none 0 0, .slice none 0 0, .int .i64 0] 8 rfl (World.shaped_of_RefB (by kernel_rfl) (by kernel_rfl)) (by kernel_rfl) (by kernel_rfl) (by kernel_rfl) (door_met os _)) ?_
  intro W base args ds gs before hval0 hW _ hsz hL _
  have hval : ∀ (j : Nat) t v, Tryd.f6.params[j]? = some t → args[j]? = some v → Value.okWide Tryd.prog W .any base t v := hval0
  have hW' := hW
  obtain ⟨p, q, hA0, hV, rfl, hfz, hnd⟩ := hW
  have hA : DataW.TrodAll enc Tryd.prog W 0 (fun _ => true) true Tryd.f6.params.toList args.toList ds p := hA0
  rw [Tryd.params6] at hA hval
  have hcalls : Calls Tryd.prog 6 args W fun e w' => e = .returned (.bool true) ∧ Ch (fun _ => False) W w' := by
    obtain ⟨v0, v1, v2, d0, d1, d2, p0, p1, p2, rfl, rfl, rfl, h0, h1, h2⟩ := trodAll_three hA
    obtain ⟨A0, n0, c0, x0, rfl, hs0, hl0, hm0, hw0⟩ := open_sl Tryd.underlying22 Tryd.underlying3 cells64 (hval 0 22 v0 rfl rfl) h0
    obtain ⟨A1, n1, c1, x1, rfl, hs1, hl1, hm1, hw1⟩ := open_sl Tryd.underlying22 Tryd.underlying3 cells64 (hval 1 22 v1 rfl rfl) h1
    obtain ⟨z2, rfl, rfl, rfl, w2⟩ := open_int Tryd.underlying3 (hval 2 3 v2 rfl rfl) h2
    have hz0 : n0 * 8 ≤ 140737488351232 := by
      have : n0 * Tryd.prog.bytesOf 3 ≤ 140737488351232 := Go.Wa.slice_sized (j := 0) hsz rfl rfl Tryd.underlying22 h0
      rwa [bytes64] at this
    have hz1 : n1 * 8 ≤ 140737488351232 := by
      have : n1 * Tryd.prog.bytesOf 3 ≤ 140737488351232 := Go.Wa.slice_sized (j := 1) hsz rfl rfl Tryd.underlying22 h1
      rwa [bytes64] at this
    exact joins_law x0 x1 A0 A1 n0 c0 n1 c1 z2 W _ _ (of_laid hL) hs0 hs1 hz0 hz1
  have hfn : Rows.waveletJoinsSpec.fn H (ds ++ gs) = { results := [.lit (.bool true)], args := ds, vars := [] } := by
    obtain ⟨rfl, rfl⟩ := trodVars_none hV
    obtain ⟨v0, v1, v2, d0, d1, d2, p0, p1, p2, rfl, rfl, rfl, h0, h1, h2⟩ := trodAll_three hA
    rfl
  refine hcalls.mono fun e W' ⟨he, hc⟩ => ?_
  subst he
  exact ⟨_, rfl, law_post laidOut Tryd.underlying4 hW' rfl hfn rfl (fun t ht => by
    have hall : (Tryd.f6.params.toList.all fun u => Tryd.prog.readableRec u && decide (u < Tryd.prog.types.size)) = true := by kernel_rfl
    have h2 := List.all_eq_true.1 hall t ht
    rw [Bool.and_eq_true] at h2
    exact ⟨h2.1, of_decide_eq_true h2.2⟩) hc⟩

theorem said : Rows.WaveletJoinsSaid :=
  OpenClaim.holds_of_wide 6 Tryd.f6 rfl rfl rfl rfl rfl rfl rfl ⟨rfl, rfl, rfl, rfl, rfl⟩ rfl rfl rfl rfl rfl (by kernel_rfl) Tryd.func6 (by kernel_rfl)
    (of_decide_eq_true (by kernel_rfl)) (by unfold Func.isWrapper; first | (rw [if_pos (by decide +kernel)]; kernel_rfl) | (rw [if_neg (by decide +kernel)]; exact ⟨rfl, rfl⟩))
    (fun os started H enc _ => lifted os started H enc)

theorem card : Rows.WaveletJoinsCardSaid :=
  Claim7.holds_tied_plain_at .later [] [.data] true Rows.waveletJoinsCard.stood.harness false
    said (fun _ h => by cases h) (by kernel_rfl) (fun _ h => by cases h) waveletJoins_row_tie rfl ⟨rfl, rfl⟩ (by kernel_rfl) rfl
    (fun f fn hf hfn => by
      obtain rfl : f = 6 := Option.some.inj ((show Tryd.prog.funcNamed "haystack/haystacklaw4.WaveletJoins" = some 6 by kernel_rfl).symm.trans hf) |>.symm
      obtain rfl : fn = Tryd.f6 := (Option.some.inj (Tryd.func6.symm.trans hfn)).symm
      exact ⟨by kernel_rfl, fun j t ht => by
        have hm : t ∈ Tryd.f6.params.toList := by
          rw [Array.mem_toList_iff]
          exact Array.mem_of_getElem? ht
        have hall : (Tryd.f6.params.toList.all fun u => !Tryd.prog.wantsStandIn u) = true := by kernel_rfl
        exact (show Tryd.prog.wantsStandIn t = false by simpa using List.all_eq_true.1 hall t hm)⟩)
    (by kernel_rfl)
end Go.Proofs.YtbckiefkppgipaaDoor.WaveletJoinsP
namespace Go.Proofs.YtbckiefkppgipaaDoor
theorem waveletJoins_card : Rows.WaveletJoinsCardSaid := WaveletJoinsP.card
#print axioms waveletJoins_card
end Go.Proofs.YtbckiefkppgipaaDoor
