/-
  The law haystacklaw4.WaveletCounts answers true for every input and leaves its arguments as they were; its row, and its card tied to the program's text. Condition: the one variable that the row lists starts as the program's text lays it (the card's tie, which is given).
-/
import Derived.Test.YtbckiefkppgipaaDoorWaLift
import Derived.Test.YtbckiefkppgipaaDoorWaOpen
import Derived.Test.YtbckiefkppgipaaDoorWaCounts
import Derived.Test.YtbckiefkppgipaaDoorCards
import Derived.Test.YtbckiefkppgipaaDoorTie
import Derived.SevenTiedAt
namespace Go.Proofs.YtbckiefkppgipaaDoor.WaveletCountsP
open Go Go.ChangeShapes Go.WideShapes Go.ChangeAt Go.WideMaps Go.WideElems Go.RowKit Go.Oct Go.Bi Go.Wa

theorem cells64 : Tryd.prog.cellsOf 3 = 1 := by kernel_rfl
theorem cellsK : Tryd.prog.cellsOf 34 = 3 := by kernel_rfl
theorem cellsZ : Tryd.prog.cellsOf 3 = 1 := by kernel_rfl

set_option maxRecDepth 100000 in
theorem lifted (os : Os) (started : os.Started) (H : Type) (enc : TypeId × Value → H) :
    ReturnsInHanded {} Tryd.checked os 3 .any (fun w args => (Rows.waveletCountsSpec.pre enc Tryd.prog Tryd.f3 [] false w args ∧ laidMetH Tryd.prog laidL w) ∧ sizedMet enc Tryd.prog Tryd.f3 (OpenSpec.ofChange Rows.waveletCountsSpec) false w args)
      (Rows.waveletCountsSpec.post enc Tryd.prog Tryd.f3 false true false false) := by
  refine returnsInHanded_of_change_and (C := Tryd.checked) (X := fun w _ => laidMetH Tryd.prog laidL w) (fun _ _ _ hh h => h.of_heap hh) own started (by kernel_rfl) Tryd.func3
    (ChangeSpec.witness_shaped (enc := enc) (C := Tryd.checked) (os := os) (X := fun w _ => laidMetH Tryd.prog laidL w) false (World.doorLaid Tryd.prog 400 os) #[.int .i64 0, .slice none 0 0, .slice none 0 0] 8 rfl (World.shaped_of_RefB (by kernel_rfl) (by kernel_rfl)) (by kernel_rfl) (by kernel_rfl) (by kernel_rfl) (door_met os _)) ?_
  intro W base args ds gs before hval0 hW _ _ hL _
  have hval : ∀ (j : Nat) t v, Tryd.f3.params[j]? = some t → args[j]? = some v → Value.okWide Tryd.prog W .any base t v := hval0
  have hW' := hW
  obtain ⟨p, q, hA0, hV, rfl, hfz, hnd⟩ := hW
  have hA : DataW.TrodAll enc Tryd.prog W 0 (fun _ => true) true Tryd.f3.params.toList args.toList ds p := hA0
  rw [Tryd.params3] at hA hval
  have hcalls : Calls Tryd.prog 3 args W fun e w' => e = .returned (.bool true) ∧ Ch (fun _ => False) W w' := by
    obtain ⟨v0, v1, v2, d0, d1, d2, p0, p1, p2, rfl, rfl, rfl, h0, h1, h2⟩ := trodAll_three hA
    obtain ⟨z0, rfl, rfl, rfl, w0⟩ := open_int Tryd.underlying3 (hval 0 3 v0 rfl rfl) h0
    obtain ⟨A1, n1, c1, x1, rfl, hs1, hl1, hm1, hw1⟩ := open_sl Tryd.underlying22 Tryd.underlying3 cells64 (hval 1 22 v1 rfl rfl) h1
    obtain ⟨A2, n2, c2, x2, rfl, hs2, hl2, hm2, hw2⟩ := Go.Wa.open_asks Tryd.underlying23 Tryd.underlying34 cellsK rfl rfl rfl cellsZ cellsZ cellsZ Tryd.underlying3 Tryd.underlying3 Tryd.underlying3 (hval 2 23 v2 rfl rfl) h2
    exact counts_law z0 x1 x2 A1 A2 n1 c1 n2 c2 W _ _ (of_laid hL) hs1 hl1 hm1 hs2 hl2 hm2 hw2
  have hfn : Rows.waveletCountsSpec.fn H (ds ++ gs) = { results := [.lit (.bool true)], args := ds, vars := [] } := by
    obtain ⟨rfl, rfl⟩ := trodVars_none hV
    obtain ⟨v0, v1, v2, d0, d1, d2, p0, p1, p2, rfl, rfl, rfl, h0, h1, h2⟩ := trodAll_three hA
    rfl
  refine hcalls.mono fun e W' ⟨he, hc⟩ => ?_
  subst he
  exact ⟨_, rfl, law_post laidOut Tryd.underlying4 hW' rfl hfn rfl (fun t ht => by
    have hall : (Tryd.f3.params.toList.all fun u => Tryd.prog.readableRec u && decide (u < Tryd.prog.types.size)) = true := by kernel_rfl
    have h2 := List.all_eq_true.1 hall t ht
    rw [Bool.and_eq_true] at h2
    exact ⟨h2.1, of_decide_eq_true h2.2⟩) hc⟩

theorem said : Rows.WaveletCountsSaid :=
  OpenClaim.holds_of_wide 3 Tryd.f3 rfl rfl rfl rfl rfl rfl rfl ⟨rfl, rfl, rfl, rfl, rfl⟩ rfl rfl rfl rfl rfl (by kernel_rfl) Tryd.func3 (by kernel_rfl)
    (of_decide_eq_true (by kernel_rfl)) (by unfold Func.isWrapper; first | (rw [if_pos (by decide +kernel)]; kernel_rfl) | (rw [if_neg (by decide +kernel)]; exact ⟨rfl, rfl⟩))
    (fun os started H enc _ => lifted os started H enc)

theorem card : Rows.WaveletCountsCardSaid :=
  Claim7.holds_tied_plain_at .later [] [.data] true Rows.waveletCountsCard.stood.harness false
    said (fun _ h => by cases h) (by kernel_rfl) (fun _ h => by cases h) waveletCounts_row_tie rfl ⟨rfl, rfl⟩ (by kernel_rfl) rfl
    (fun f fn hf hfn => by
      obtain rfl : f = 3 := Option.some.inj ((show Tryd.prog.funcNamed "haystack/haystacklaw4.WaveletCounts" = some 3 by kernel_rfl).symm.trans hf) |>.symm
      obtain rfl : fn = Tryd.f3 := (Option.some.inj (Tryd.func3.symm.trans hfn)).symm
      exact ⟨by kernel_rfl, fun j t ht => by
        have hm : t ∈ Tryd.f3.params.toList := by
          rw [Array.mem_toList_iff]
          exact Array.mem_of_getElem? ht
        have hall : (Tryd.f3.params.toList.all fun u => !Tryd.prog.wantsStandIn u) = true := by kernel_rfl
        exact (show Tryd.prog.wantsStandIn t = false by simpa using List.all_eq_true.1 hall t hm)⟩)
    (by kernel_rfl)
end Go.Proofs.YtbckiefkppgipaaDoor.WaveletCountsP
namespace Go.Proofs.YtbckiefkppgipaaDoor
theorem waveletCounts_card : Rows.WaveletCountsCardSaid := WaveletCountsP.card
#print axioms waveletCounts_card
end Go.Proofs.YtbckiefkppgipaaDoor
