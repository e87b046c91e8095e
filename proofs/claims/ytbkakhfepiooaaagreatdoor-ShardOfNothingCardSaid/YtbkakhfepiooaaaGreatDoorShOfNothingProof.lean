/-
  The law haystacklaw14.ShardOfNothing answers true for every input and leaves its arguments as they were; its row, and its card tied to the program's text. Condition: the variables that the row lists start as the program's text lays them (the card's tie, which is given).
-/
import Derived.Test.YtbkakhfepiooaaaGreatDoorShOfNothingProofB
import Derived.Test.YtbkakhfepiooaaaGreatDoorCards
import Derived.Test.YtbkakhfepiooaaaGreatDoorTie
import Derived.SevenTiedAt
namespace Go.Proofs.YtbkakhfepiooaaaGreatDoor.ShardOfNothingP
open Go Go.ChangeShapes Go.WideShapes Go.ChangeAt Go.WideMaps Go.WideElems Go.RowKit Go.Oct Go.Su Go.Sg

theorem cdM : Tryz.pinned.checked.prog.mainIs = some (Rows.shardOfNothingCard.stood.harness.fst, Rows.shardOfNothingCard.stood.harness.snd.toList) := by kernel_rfl
theorem cdL : false = Tryz.pinned.checked.prog.looks [] := by kernel_rfl
theorem any_false {P : Program} (h : P.funcs.any Func.goes = false) (f : FuncId) : P.goes f = false := by
  have hx : ∀ g : FuncId, ((P.funcs[g]?).any Func.goes) = false := fun g => by
    cases hg : P.funcs[g]? with
    | none => rfl
    | some fn =>
      rw [Array.any_eq_false] at h
      obtain ⟨hl, he⟩ := Array.getElem?_eq_some_iff.1 hg
      have := h g hl
      rw [he] at this
      simpa using this
  unfold Program.goes
  rw [h, Bool.and_false, Bool.or_false]
  rw [List.any_eq_false]
  intro g _
  rw [hx g]
  decide
theorem by_false {P : Program} (h : P.funcs.any Func.goes = false) (c : OpenClaim) : false = c.goesBy P := by
  have h0 := any_false h
  have h1 : ∀ o : Option FuncId, o.any P.goes = false := fun o => by
    cases o with
    | none => rfl
    | some f => exact h0 f
  have h2 : ∀ l : List FuncId, l.any P.goes = false := fun l => by
    rw [List.any_eq_false]
    intro f _
    rw [h0 f]
    decide
  unfold OpenClaim.goesBy Program.goesAt Program.goesFrom
  rw [h1, Bool.false_or]
  split
  · rfl
  · exact (h2 _).symm
theorem cdG0 : Tryz.pinned.checked.prog.funcs.any Func.goes = false := by kernel_rfl
theorem cdG : false = Rows.shardOfNothingRow.goesBy Tryz.pinned.checked.prog := by_false cdG0 _
theorem cdF : Tryz.prog.funcNamed "haystack/haystacklaw14.ShardOfNothing" = some 3 := by kernel_rfl
theorem cdW : (Tryz.f3.params.toList.all fun u => !Tryz.prog.wantsStandIn u) = true := by kernel_rfl
theorem card  : Rows.ShardOfNothingCardSaid :=
  Claim7.holds_tied_plain_at .later [] [.data, .data, .data, .data] true Rows.shardOfNothingCard.stood.harness false
    (said ) (fun _ h => by cases h) (by kernel_rfl) (fun _ h => by cases h) shardOfNothing_row_tie rfl ⟨rfl, rfl⟩ cdM rfl
    (fun f fn hf hfn => by
      obtain rfl : f = 3 := Option.some.inj (cdF.symm.trans hf) |>.symm
      obtain rfl : fn = Tryz.f3 := (Option.some.inj (Tryz.func3.symm.trans hfn)).symm
      exact ⟨cdL, fun j t ht => by
        have hm : t ∈ Tryz.f3.params.toList := by
          rw [Array.mem_toList_iff]
          exact Array.mem_of_getElem? ht
        exact (show Tryz.prog.wantsStandIn t = false by simpa using List.all_eq_true.1 cdW t hm)⟩)
    cdG
end Go.Proofs.YtbkakhfepiooaaaGreatDoor.ShardOfNothingP
namespace Go.Proofs.YtbkakhfepiooaaaGreatDoor
theorem shardOfNothing_card  : Rows.ShardOfNothingCardSaid := ShardOfNothingP.card 
#print axioms shardOfNothing_card
end Go.Proofs.YtbkakhfepiooaaaGreatDoor
