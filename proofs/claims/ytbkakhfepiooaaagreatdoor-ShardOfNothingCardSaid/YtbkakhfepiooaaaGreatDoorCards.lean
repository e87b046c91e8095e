/-
  DERIVED. GIVEN WITH THE SEED: THE CARDS: each row of YtbkakhfepiooaaaGreatDoorRows.lean that lists a variable, with what it lists TIED to the program's text (the seventh form; the later family's looks); each row that meets fmt, with fmt's text TOLD by the authors' own Lean function (tested against real Go, not proved from fmt's source: count such statements apart). THE CARD IS WHAT COUNTS. Prove the row's statement (the work); the ties are given (YtbkakhfepiooaaaGreatDoorTie.lean); close each card by the builder's one call (the guide's Derived/Test/ToyasCard.lean, 'card_holds'). Laid BY PROGRAM, IN A SANDBOX (cutbox-door.mjs). By AI agents, Wed Nov 11 2026. No macro, syntax, notation, axiom, sorry.
-/
import Derived.Test.YtbkakhfepiooaaaGreatDoorRows
import GoSem.ClaimSeven
namespace Go.Proofs.YtbkakhfepiooaaaGreatDoor
namespace Rows

/-- THE TIED CARD OF 'haystacklaw14.ShardOfNothing'. -/
def shardOfNothingCard : Claim7 := { stood := { row := shardOfNothingRow, standIns := [], harness := (true, "e5d0b938b9028d9c7e339c87659bce5a12e88594cebe96f6a47d30c68ba8d425"), looks := false }, kinds := [], alts := [], laidByText := true, laidKinds := [.data, .data, .data, .data], laidTests := true, laidLooks := .later }
def ShardOfNothingCardSaid : Prop := Claim7.holds Tryz.pinned (.plain (OpenSpec.ofChange shardOfNothingSpec)) shardOfNothingCard

/-- THE TIED CARD OF 'haystacklaw14.ShardOnce'. -/
def shardOnceCard : Claim7 := { stood := { row := shardOnceRow, standIns := [], harness := (true, "e5d0b938b9028d9c7e339c87659bce5a12e88594cebe96f6a47d30c68ba8d425"), looks := false }, kinds := [], alts := [], laidByText := true, laidKinds := [.data, .data, .data, .data], laidTests := true, laidLooks := .later }
def ShardOnceCardSaid : Prop := Claim7.holds Tryz.pinned (.plain (OpenSpec.ofChange shardOnceSpec)) shardOnceCard

/-- THE SECOND FORM's CARD OF 'haystacklaw14.ShardOfNothing'. -/
def shardOfNothingUptoCard : Claim7 := { stood := { row := shardOfNothingUptoRow, standIns := [], harness := (true, "e5d0b938b9028d9c7e339c87659bce5a12e88594cebe96f6a47d30c68ba8d425"), looks := false }, kinds := [], alts := [], laidByText := true, laidKinds := [.data, .data, .data, .data], laidTests := true, laidLooks := .later }
def ShardOfNothingUptoCardSaid : Prop := Claim7.holds Tryz.pinned (.plain (OpenSpec.upto shardOfNothingSpec)) shardOfNothingUptoCard

/-- THE SECOND FORM's CARD OF 'haystacklaw14.ShardOnce'. -/
def shardOnceUptoCard : Claim7 := { stood := { row := shardOnceUptoRow, standIns := [], harness := (true, "e5d0b938b9028d9c7e339c87659bce5a12e88594cebe96f6a47d30c68ba8d425"), looks := false }, kinds := [], alts := [], laidByText := true, laidKinds := [.data, .data, .data, .data], laidTests := true, laidLooks := .later }
def ShardOnceUptoCardSaid : Prop := Claim7.holds Tryz.pinned (.plain (OpenSpec.upto shardOnceSpec)) shardOnceUptoCard
end Rows
end Go.Proofs.YtbkakhfepiooaaaGreatDoor
