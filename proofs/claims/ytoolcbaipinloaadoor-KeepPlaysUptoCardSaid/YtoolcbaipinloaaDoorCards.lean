/-
  DERIVED. GIVEN WITH THE SEED: THE CARDS: each row of YtoolcbaipinloaaDoorRows.lean that lists a variable, with what it lists TIED to the program's text (the seventh form; the later family's looks); each row that meets fmt, with fmt's text TOLD by the authors' own Lean function (tested against real Go, not proved from fmt's source: count such statements apart). THE CARD IS WHAT COUNTS. Prove the row's statement (the work); the ties are given (YtoolcbaipinloaaDoorTie.lean); close each card by the builder's one call (the guide's Derived/Test/ToyasCard.lean, 'card_holds'). Laid BY PROGRAM, IN A SANDBOX (cutbox-door.mjs). By AI agents, Wed Nov 11 2026. No macro, syntax, notation, axiom, sorry.
-/
import Derived.Test.YtoolcbaipinloaaDoorRows
import GoSem.ClaimSeven
namespace Go.Proofs.YtoolcbaipinloaaDoor
namespace Rows

/-- THE TIED CARD OF 'haystacklaw11.KeepPlays'. -/
def keepPlaysCard : Claim7 := { stood := { row := keepPlaysRow, standIns := [], harness := (true, "e12b854760725ba92b49624fd993fe602e3135c7ff6c8d69e53edf081d31af83"), looks := false }, kinds := [], alts := [], laidByText := true, laidKinds := [.data], laidTests := true, laidLooks := .later }
def KeepPlaysCardSaid : Prop := Claim7.holds Tryd.pinned (.plain (OpenSpec.ofChange keepPlaysSpec)) keepPlaysCard

/-- THE TIED CARD OF 'haystacklaw11.KeepLast'. -/
def keepLastCard : Claim7 := { stood := { row := keepLastRow, standIns := [], harness := (true, "e12b854760725ba92b49624fd993fe602e3135c7ff6c8d69e53edf081d31af83"), looks := false }, kinds := [], alts := [], laidByText := true, laidKinds := [.data], laidTests := true, laidLooks := .later }
def KeepLastCardSaid : Prop := Claim7.holds Tryd.pinned (.plain (OpenSpec.ofChange keepLastSpec)) keepLastCard

/-- THE TIED CARD OF 'haystacklaw11.KeepOfNothing'. -/
def keepOfNothingCard : Claim7 := { stood := { row := keepOfNothingRow, standIns := [], harness := (true, "e12b854760725ba92b49624fd993fe602e3135c7ff6c8d69e53edf081d31af83"), looks := false }, kinds := [], alts := [], laidByText := true, laidKinds := [.data], laidTests := true, laidLooks := .later }
def KeepOfNothingCardSaid : Prop := Claim7.holds Tryd.pinned (.plain (OpenSpec.ofChange keepOfNothingSpec)) keepOfNothingCard

/-- THE TIED CARD OF 'haystacklaw11.KeepApart'. -/
def keepApartCard : Claim7 := { stood := { row := keepApartRow, standIns := [], harness := (true, "e12b854760725ba92b49624fd993fe602e3135c7ff6c8d69e53edf081d31af83"), looks := false }, kinds := [], alts := [], laidByText := true, laidKinds := [.data], laidTests := true, laidLooks := .later }
def KeepApartCardSaid : Prop := Claim7.holds Tryd.pinned (.plain (OpenSpec.ofChange keepApartSpec)) keepApartCard

/-- THE SECOND FORM's CARD OF 'haystacklaw11.KeepPlays'. -/
def keepPlaysUptoCard : Claim7 := { stood := { row := keepPlaysUptoRow, standIns := [], harness := (true, "e12b854760725ba92b49624fd993fe602e3135c7ff6c8d69e53edf081d31af83"), looks := false }, kinds := [], alts := [], laidByText := true, laidKinds := [.data], laidTests := true, laidLooks := .later }
def KeepPlaysUptoCardSaid : Prop := Claim7.holds Tryd.pinned (.plain (OpenSpec.upto keepPlaysSpec)) keepPlaysUptoCard

/-- THE SECOND FORM's CARD OF 'haystacklaw11.KeepLast'. -/
def keepLastUptoCard : Claim7 := { stood := { row := keepLastUptoRow, standIns := [], harness := (true, "e12b854760725ba92b49624fd993fe602e3135c7ff6c8d69e53edf081d31af83"), looks := false }, kinds := [], alts := [], laidByText := true, laidKinds := [.data], laidTests := true, laidLooks := .later }
def KeepLastUptoCardSaid : Prop := Claim7.holds Tryd.pinned (.plain (OpenSpec.upto keepLastSpec)) keepLastUptoCard

/-- THE SECOND FORM's CARD OF 'haystacklaw11.KeepOfNothing'. -/
def keepOfNothingUptoCard : Claim7 := { stood := { row := keepOfNothingUptoRow, standIns := [], harness := (true, "e12b854760725ba92b49624fd993fe602e3135c7ff6c8d69e53edf081d31af83"), looks := false }, kinds := [], alts := [], laidByText := true, laidKinds := [.data], laidTests := true, laidLooks := .later }
def KeepOfNothingUptoCardSaid : Prop := Claim7.holds Tryd.pinned (.plain (OpenSpec.upto keepOfNothingSpec)) keepOfNothingUptoCard

/-- THE SECOND FORM's CARD OF 'haystacklaw11.KeepApart'. -/
def keepApartUptoCard : Claim7 := { stood := { row := keepApartUptoRow, standIns := [], harness := (true, "e12b854760725ba92b49624fd993fe602e3135c7ff6c8d69e53edf081d31af83"), looks := false }, kinds := [], alts := [], laidByText := true, laidKinds := [.data], laidTests := true, laidLooks := .later }
def KeepApartUptoCardSaid : Prop := Claim7.holds Tryd.pinned (.plain (OpenSpec.upto keepApartSpec)) keepApartUptoCard
end Rows
end Go.Proofs.YtoolcbaipinloaaDoor
