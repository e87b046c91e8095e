/-
  DERIVED. GIVEN WITH THE SEED: THE CARDS: each row of YtaglgmgpifmkdaaDoorRows.lean that lists a variable, with what it lists TIED to the program's text (the seventh form; the later family's looks); each row that meets fmt, with fmt's text TOLD by the authors' own Lean function (tested against real Go, not proved from fmt's source: count such statements apart). THE CARD IS WHAT COUNTS. Prove the row's statement (the work); the ties are given (YtaglgmgpifmkdaaDoorTie.lean); close each card by the builder's one call (the guide's Derived/Test/ToyasCard.lean, 'card_holds'). Laid BY PROGRAM, IN A SANDBOX (cutbox-door.mjs). By AI agents, Wed Nov 11 2026. No macro, syntax, notation, axiom, sorry.
-/
import Derived.Test.YtaglgmgpifmkdaaDoorRows
import GoSem.ClaimSeven
namespace Go.Proofs.YtaglgmgpifmkdaaDoor
namespace Rows

/-- THE TIED CARD OF 'haystacklaw2.BitsCount'. -/
def bitsCountCard : Claim7 := { stood := { row := bitsCountRow, standIns := [], harness := (true, "d90e910703d471f742f68d966e125d14551f1f0e70219f3938650ac19ac59cad"), looks := false }, kinds := [], alts := [], laidByText := true, laidKinds := [.data], laidTests := true, laidLooks := .later }
def BitsCountCardSaid : Prop := Claim7.holds Tryd.pinned (.plain (OpenSpec.ofChange bitsCountSpec)) bitsCountCard

/-- THE TIED CARD OF 'haystacklaw2.BitsOf'. -/
def bitsOfCard : Claim7 := { stood := { row := bitsOfRow, standIns := [], harness := (true, "d90e910703d471f742f68d966e125d14551f1f0e70219f3938650ac19ac59cad"), looks := false }, kinds := [], alts := [], laidByText := true, laidKinds := [.data], laidTests := true, laidLooks := .later }
def BitsOfCardSaid : Prop := Claim7.holds Tryd.pinned (.plain (OpenSpec.ofChange bitsOfSpec)) bitsOfCard

/-- THE TIED CARD OF 'haystacklaw2.BitsBack'. -/
def bitsBackCard : Claim7 := { stood := { row := bitsBackRow, standIns := [], harness := (true, "d90e910703d471f742f68d966e125d14551f1f0e70219f3938650ac19ac59cad"), looks := false }, kinds := [], alts := [], laidByText := true, laidKinds := [.data], laidTests := true, laidLooks := .later }
def BitsBackCardSaid : Prop := Claim7.holds Tryd.pinned (.plain (OpenSpec.ofChange bitsBackSpec)) bitsBackCard

/-- THE TIED CARD OF 'haystacklaw2.BitsOfNothing'. -/
def bitsOfNothingCard : Claim7 := { stood := { row := bitsOfNothingRow, standIns := [], harness := (true, "d90e910703d471f742f68d966e125d14551f1f0e70219f3938650ac19ac59cad"), looks := false }, kinds := [], alts := [], laidByText := true, laidKinds := [.data], laidTests := true, laidLooks := .later }
def BitsOfNothingCardSaid : Prop := Claim7.holds Tryd.pinned (.plain (OpenSpec.ofChange bitsOfNothingSpec)) bitsOfNothingCard

/-- THE TIED CARD OF 'haystacklaw2.BitsSums'. -/
def bitsSumsCard : Claim7 := { stood := { row := bitsSumsRow, standIns := [], harness := (true, "d90e910703d471f742f68d966e125d14551f1f0e70219f3938650ac19ac59cad"), looks := false }, kinds := [], alts := [], laidByText := true, laidKinds := [.data], laidTests := true, laidLooks := .later }
def BitsSumsCardSaid : Prop := Claim7.holds Tryd.pinned (.plain (OpenSpec.ofChange bitsSumsSpec)) bitsSumsCard

/-- THE TIED CARD OF 'haystacklaw2.BitsLong'. -/
def bitsLongCard : Claim7 := { stood := { row := bitsLongRow, standIns := [], harness := (true, "d90e910703d471f742f68d966e125d14551f1f0e70219f3938650ac19ac59cad"), looks := false }, kinds := [], alts := [], laidByText := true, laidKinds := [.data], laidTests := true, laidLooks := .later }
def BitsLongCardSaid : Prop := Claim7.holds Tryd.pinned (.plain (OpenSpec.ofChange bitsLongSpec)) bitsLongCard

/-- THE TIED CARD OF 'haystacklaw2.BitsFlips'. -/
def bitsFlipsCard : Claim7 := { stood := { row := bitsFlipsRow, standIns := [], harness := (true, "d90e910703d471f742f68d966e125d14551f1f0e70219f3938650ac19ac59cad"), looks := false }, kinds := [], alts := [], laidByText := true, laidKinds := [.data], laidTests := true, laidLooks := .later }
def BitsFlipsCardSaid : Prop := Claim7.holds Tryd.pinned (.plain (OpenSpec.ofChange bitsFlipsSpec)) bitsFlipsCard

/-- THE SECOND FORM's CARD OF 'haystacklaw2.BitsCount'. -/
def bitsCountUptoCard : Claim7 := { stood := { row := bitsCountUptoRow, standIns := [], harness := (true, "d90e910703d471f742f68d966e125d14551f1f0e70219f3938650ac19ac59cad"), looks := false }, kinds := [], alts := [], laidByText := true, laidKinds := [.data], laidTests := true, laidLooks := .later }
def BitsCountUptoCardSaid : Prop := Claim7.holds Tryd.pinned (.plain (OpenSpec.upto bitsCountSpec)) bitsCountUptoCard

/-- THE SECOND FORM's CARD OF 'haystacklaw2.BitsOf'. -/
def bitsOfUptoCard : Claim7 := { stood := { row := bitsOfUptoRow, standIns := [], harness := (true, "d90e910703d471f742f68d966e125d14551f1f0e70219f3938650ac19ac59cad"), looks := false }, kinds := [], alts := [], laidByText := true, laidKinds := [.data], laidTests := true, laidLooks := .later }
def BitsOfUptoCardSaid : Prop := Claim7.holds Tryd.pinned (.plain (OpenSpec.upto bitsOfSpec)) bitsOfUptoCard

/-- THE SECOND FORM's CARD OF 'haystacklaw2.BitsBack'. -/
def bitsBackUptoCard : Claim7 := { stood := { row := bitsBackUptoRow, standIns := [], harness := (true, "d90e910703d471f742f68d966e125d14551f1f0e70219f3938650ac19ac59cad"), looks := false }, kinds := [], alts := [], laidByText := true, laidKinds := [.data], laidTests := true, laidLooks := .later }
def BitsBackUptoCardSaid : Prop := Claim7.holds Tryd.pinned (.plain (OpenSpec.upto bitsBackSpec)) bitsBackUptoCard

/-- THE SECOND FORM's CARD OF 'haystacklaw2.BitsOfNothing'. -/
def bitsOfNothingUptoCard : Claim7 := { stood := { row := bitsOfNothingUptoRow, standIns := [], harness := (true, "d90e910703d471f742f68d966e125d14551f1f0e70219f3938650ac19ac59cad"), looks := false }, kinds := [], alts := [], laidByText := true, laidKinds := [.data], laidTests := true, laidLooks := .later }
def BitsOfNothingUptoCardSaid : Prop := Claim7.holds Tryd.pinned (.plain (OpenSpec.upto bitsOfNothingSpec)) bitsOfNothingUptoCard

/-- THE SECOND FORM's CARD OF 'haystacklaw2.BitsSums'. -/
def bitsSumsUptoCard : Claim7 := { stood := { row := bitsSumsUptoRow, standIns := [], harness := (true, "d90e910703d471f742f68d966e125d14551f1f0e70219f3938650ac19ac59cad"), looks := false }, kinds := [], alts := [], laidByText := true, laidKinds := [.data], laidTests := true, laidLooks := .later }
def BitsSumsUptoCardSaid : Prop := Claim7.holds Tryd.pinned (.plain (OpenSpec.upto bitsSumsSpec)) bitsSumsUptoCard

/-- THE SECOND FORM's CARD OF 'haystacklaw2.BitsLong'. -/
def bitsLongUptoCard : Claim7 := { stood := { row := bitsLongUptoRow, standIns := [], harness := (true, "d90e910703d471f742f68d966e125d14551f1f0e70219f3938650ac19ac59cad"), looks := false }, kinds := [], alts := [], laidByText := true, laidKinds := [.data], laidTests := true, laidLooks := .later }
def BitsLongUptoCardSaid : Prop := Claim7.holds Tryd.pinned (.plain (OpenSpec.upto bitsLongSpec)) bitsLongUptoCard

/-- THE SECOND FORM's CARD OF 'haystacklaw2.BitsFlips'. -/
def bitsFlipsUptoCard : Claim7 := { stood := { row := bitsFlipsUptoRow, standIns := [], harness := (true, "d90e910703d471f742f68d966e125d14551f1f0e70219f3938650ac19ac59cad"), looks := false }, kinds := [], alts := [], laidByText := true, laidKinds := [.data], laidTests := true, laidLooks := .later }
def BitsFlipsUptoCardSaid : Prop := Claim7.holds Tryd.pinned (.plain (OpenSpec.upto bitsFlipsSpec)) bitsFlipsUptoCard
end Rows
end Go.Proofs.YtaglgmgpifmkdaaDoor
