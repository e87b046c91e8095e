/-
  DERIVED. GIVEN WITH THE SEED: THE CARDS: each row of YtbckiefkppgipaaDoorRows.lean that lists a variable, with what it lists TIED to the program's text (the seventh form; the later family's looks); each row that meets fmt, with fmt's text TOLD by the authors' own Lean function (tested against real Go, not proved from fmt's source: count such statements apart). THE CARD IS WHAT COUNTS. Prove the row's statement (the work); the ties are given (YtbckiefkppgipaaDoorTie.lean); close each card by the builder's one call (the guide's Derived/Test/ToyasCard.lean, 'card_holds'). Laid BY PROGRAM, IN A SANDBOX (cutbox-door.mjs). By AI agents, Wed Nov 11 2026. No macro, syntax, notation, axiom, sorry.
-/
import Derived.Test.YtbckiefkppgipaaDoorRows
import GoSem.ClaimSeven
namespace Go.Proofs.YtbckiefkppgipaaDoor
namespace Rows

/-- THE TIED CARD OF 'haystacklaw4.WaveletCounts'. -/
def waveletCountsCard : Claim7 := { stood := { row := waveletCountsRow, standIns := [], harness := (true, "d4f0750b6e4825e422a8575dcf8897d5113796baff1f4203c4f852cb063a30ab"), looks := false }, kinds := [], alts := [], laidByText := true, laidKinds := [.data], laidTests := true, laidLooks := .later }
def WaveletCountsCardSaid : Prop := Claim7.holds Tryd.pinned (.plain (OpenSpec.ofChange waveletCountsSpec)) waveletCountsCard

/-- THE TIED CARD OF 'haystacklaw4.WaveletBack'. -/
def waveletBackCard : Claim7 := { stood := { row := waveletBackRow, standIns := [], harness := (true, "d4f0750b6e4825e422a8575dcf8897d5113796baff1f4203c4f852cb063a30ab"), looks := false }, kinds := [], alts := [], laidByText := true, laidKinds := [.data], laidTests := true, laidLooks := .later }
def WaveletBackCardSaid : Prop := Claim7.holds Tryd.pinned (.plain (OpenSpec.ofChange waveletBackSpec)) waveletBackCard

/-- THE TIED CARD OF 'haystacklaw4.WaveletOfNothing'. -/
def waveletOfNothingCard : Claim7 := { stood := { row := waveletOfNothingRow, standIns := [], harness := (true, "d4f0750b6e4825e422a8575dcf8897d5113796baff1f4203c4f852cb063a30ab"), looks := false }, kinds := [], alts := [], laidByText := true, laidKinds := [.data], laidTests := true, laidLooks := .later }
def WaveletOfNothingCardSaid : Prop := Claim7.holds Tryd.pinned (.plain (OpenSpec.ofChange waveletOfNothingSpec)) waveletOfNothingCard

/-- THE TIED CARD OF 'haystacklaw4.WaveletJoins'. -/
def waveletJoinsCard : Claim7 := { stood := { row := waveletJoinsRow, standIns := [], harness := (true, "d4f0750b6e4825e422a8575dcf8897d5113796baff1f4203c4f852cb063a30ab"), looks := false }, kinds := [], alts := [], laidByText := true, laidKinds := [.data], laidTests := true, laidLooks := .later }
def WaveletJoinsCardSaid : Prop := Claim7.holds Tryd.pinned (.plain (OpenSpec.ofChange waveletJoinsSpec)) waveletJoinsCard

/-- THE TIED CARD OF 'haystacklaw4.WaveletAll'. -/
def waveletAllCard : Claim7 := { stood := { row := waveletAllRow, standIns := [], harness := (true, "d4f0750b6e4825e422a8575dcf8897d5113796baff1f4203c4f852cb063a30ab"), looks := false }, kinds := [], alts := [], laidByText := true, laidKinds := [.data], laidTests := true, laidLooks := .later }
def WaveletAllCardSaid : Prop := Claim7.holds Tryd.pinned (.plain (OpenSpec.ofChange waveletAllSpec)) waveletAllCard

/-- THE SECOND FORM's CARD OF 'haystacklaw4.WaveletCounts'. -/
def waveletCountsUptoCard : Claim7 := { stood := { row := waveletCountsUptoRow, standIns := [], harness := (true, "d4f0750b6e4825e422a8575dcf8897d5113796baff1f4203c4f852cb063a30ab"), looks := false }, kinds := [], alts := [], laidByText := true, laidKinds := [.data], laidTests := true, laidLooks := .later }
def WaveletCountsUptoCardSaid : Prop := Claim7.holds Tryd.pinned (.plain (OpenSpec.upto waveletCountsSpec)) waveletCountsUptoCard

/-- THE SECOND FORM's CARD OF 'haystacklaw4.WaveletBack'. -/
def waveletBackUptoCard : Claim7 := { stood := { row := waveletBackUptoRow, standIns := [], harness := (true, "d4f0750b6e4825e422a8575dcf8897d5113796baff1f4203c4f852cb063a30ab"), looks := false }, kinds := [], alts := [], laidByText := true, laidKinds := [.data], laidTests := true, laidLooks := .later }
def WaveletBackUptoCardSaid : Prop := Claim7.holds Tryd.pinned (.plain (OpenSpec.upto waveletBackSpec)) waveletBackUptoCard

/-- THE SECOND FORM's CARD OF 'haystacklaw4.WaveletOfNothing'. -/
def waveletOfNothingUptoCard : Claim7 := { stood := { row := waveletOfNothingUptoRow, standIns := [], harness := (true, "d4f0750b6e4825e422a8575dcf8897d5113796baff1f4203c4f852cb063a30ab"), looks := false }, kinds := [], alts := [], laidByText := true, laidKinds := [.data], laidTests := true, laidLooks := .later }
def WaveletOfNothingUptoCardSaid : Prop := Claim7.holds Tryd.pinned (.plain (OpenSpec.upto waveletOfNothingSpec)) waveletOfNothingUptoCard

/-- THE SECOND FORM's CARD OF 'haystacklaw4.WaveletJoins'. -/
def waveletJoinsUptoCard : Claim7 := { stood := { row := waveletJoinsUptoRow, standIns := [], harness := (true, "d4f0750b6e4825e422a8575dcf8897d5113796baff1f4203c4f852cb063a30ab"), looks := false }, kinds := [], alts := [], laidByText := true, laidKinds := [.data], laidTests := true, laidLooks := .later }
def WaveletJoinsUptoCardSaid : Prop := Claim7.holds Tryd.pinned (.plain (OpenSpec.upto waveletJoinsSpec)) waveletJoinsUptoCard

/-- THE SECOND FORM's CARD OF 'haystacklaw4.WaveletAll'. -/
def waveletAllUptoCard : Claim7 := { stood := { row := waveletAllUptoRow, standIns := [], harness := (true, "d4f0750b6e4825e422a8575dcf8897d5113796baff1f4203c4f852cb063a30ab"), looks := false }, kinds := [], alts := [], laidByText := true, laidKinds := [.data], laidTests := true, laidLooks := .later }
def WaveletAllUptoCardSaid : Prop := Claim7.holds Tryd.pinned (.plain (OpenSpec.upto waveletAllSpec)) waveletAllUptoCard
end Rows
end Go.Proofs.YtbckiefkppgipaaDoor
