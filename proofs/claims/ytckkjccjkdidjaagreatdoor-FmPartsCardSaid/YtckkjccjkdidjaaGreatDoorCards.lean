/-
  DERIVED. GIVEN WITH THE SEED: THE CARDS: each row of YtckkjccjkdidjaaGreatDoorRows.lean that lists a variable, with what it lists TIED to the program's text (the seventh form; the later family's looks); each row that meets fmt, with fmt's text TOLD by the authors' own Lean function (tested against real Go, not proved from fmt's source: count such statements apart). THE CARD IS WHAT COUNTS. Prove the row's statement (the work); the ties are given (YtckkjccjkdidjaaGreatDoorTie.lean); close each card by the builder's one call (the guide's Derived/Test/ToyasCard.lean, 'card_holds'). Laid BY PROGRAM, IN A SANDBOX (cutbox-door.mjs). By AI agents, Wed Nov 11 2026. No macro, syntax, notation, axiom, sorry.
-/
import Derived.Test.YtckkjccjkdidjaaGreatDoorRows
import GoSem.ClaimSeven
namespace Go.Proofs.YtckkjccjkdidjaaGreatDoor
namespace Rows

/-- THE TIED CARD OF 'haystacklaw7.FmFinds'. -/
def fmFindsCard : Claim7 := { stood := { row := fmFindsRow, standIns := [], harness := (true, "767c102049058fa8e42677111f8380f22394c1688e22e44968f84ba07655019d"), looks := false }, kinds := [], alts := [], laidByText := true, laidKinds := [.data], laidTests := true, laidLooks := .later }
def FmFindsCardSaid : Prop := Claim7.holds Tryz.pinned (.plain (OpenSpec.ofChange fmFindsSpec)) fmFindsCard

/-- THE TIED CARD OF 'haystacklaw7.FmParts'. -/
def fmPartsCard : Claim7 := { stood := { row := fmPartsRow, standIns := [], harness := (true, "767c102049058fa8e42677111f8380f22394c1688e22e44968f84ba07655019d"), looks := false }, kinds := [], alts := [], laidByText := true, laidKinds := [.data], laidTests := true, laidLooks := .later }
def FmPartsCardSaid : Prop := Claim7.holds Tryz.pinned (.plain (OpenSpec.ofChange fmPartsSpec)) fmPartsCard

/-- THE TIED CARD OF 'haystacklaw7.FmFrom'. -/
def fmFromCard : Claim7 := { stood := { row := fmFromRow, standIns := [], harness := (true, "767c102049058fa8e42677111f8380f22394c1688e22e44968f84ba07655019d"), looks := false }, kinds := [], alts := [], laidByText := true, laidKinds := [.data], laidTests := true, laidLooks := .later }
def FmFromCardSaid : Prop := Claim7.holds Tryz.pinned (.plain (OpenSpec.ofChange fmFromSpec)) fmFromCard

/-- THE TIED CARD OF 'haystacklaw7.FmRound'. -/
def fmRoundCard : Claim7 := { stood := { row := fmRoundRow, standIns := [], harness := (true, "767c102049058fa8e42677111f8380f22394c1688e22e44968f84ba07655019d"), looks := false }, kinds := [], alts := [], laidByText := true, laidKinds := [.data], laidTests := true, laidLooks := .later }
def FmRoundCardSaid : Prop := Claim7.holds Tryz.pinned (.plain (OpenSpec.ofChange fmRoundSpec)) fmRoundCard

/-- THE TIED CARD OF 'haystacklaw7.FmLong'. -/
def fmLongCard : Claim7 := { stood := { row := fmLongRow, standIns := [], harness := (true, "767c102049058fa8e42677111f8380f22394c1688e22e44968f84ba07655019d"), looks := false }, kinds := [], alts := [], laidByText := true, laidKinds := [.data], laidTests := true, laidLooks := .later }
def FmLongCardSaid : Prop := Claim7.holds Tryz.pinned (.plain (OpenSpec.ofChange fmLongSpec)) fmLongCard

/-- THE TIED CARD OF 'haystacklaw7.FmOfNothing'. -/
def fmOfNothingCard : Claim7 := { stood := { row := fmOfNothingRow, standIns := [], harness := (true, "767c102049058fa8e42677111f8380f22394c1688e22e44968f84ba07655019d"), looks := false }, kinds := [], alts := [], laidByText := true, laidKinds := [.data], laidTests := true, laidLooks := .later }
def FmOfNothingCardSaid : Prop := Claim7.holds Tryz.pinned (.plain (OpenSpec.ofChange fmOfNothingSpec)) fmOfNothingCard

/-- THE TIED CARD OF 'haystacklaw7.FmLonger'. -/
def fmLongerCard : Claim7 := { stood := { row := fmLongerRow, standIns := [], harness := (true, "767c102049058fa8e42677111f8380f22394c1688e22e44968f84ba07655019d"), looks := false }, kinds := [], alts := [], laidByText := true, laidKinds := [.data], laidTests := true, laidLooks := .later }
def FmLongerCardSaid : Prop := Claim7.holds Tryz.pinned (.plain (OpenSpec.ofChange fmLongerSpec)) fmLongerCard

/-- THE TIED CARD OF 'haystacklaw7.FmTexts'. -/
def fmTextsCard : Claim7 := { stood := { row := fmTextsRow, standIns := [], harness := (true, "767c102049058fa8e42677111f8380f22394c1688e22e44968f84ba07655019d"), looks := false }, kinds := [], alts := [], laidByText := true, laidKinds := [.data], laidTests := true, laidLooks := .later }
def FmTextsCardSaid : Prop := Claim7.holds Tryz.pinned (.plain (OpenSpec.ofChange fmTextsSpec)) fmTextsCard

/-- THE TIED CARD OF 'haystacklaw7.FmBytes'. -/
def fmBytesCard : Claim7 := { stood := { row := fmBytesRow, standIns := [], harness := (true, "767c102049058fa8e42677111f8380f22394c1688e22e44968f84ba07655019d"), looks := false }, kinds := [], alts := [], laidByText := true, laidKinds := [.data], laidTests := true, laidLooks := .later }
def FmBytesCardSaid : Prop := Claim7.holds Tryz.pinned (.plain (OpenSpec.ofChange fmBytesSpec)) fmBytesCard

/-- THE SECOND FORM's CARD OF 'haystacklaw7.FmFinds'. -/
def fmFindsUptoCard : Claim7 := { stood := { row := fmFindsUptoRow, standIns := [], harness := (true, "767c102049058fa8e42677111f8380f22394c1688e22e44968f84ba07655019d"), looks := false }, kinds := [], alts := [], laidByText := true, laidKinds := [.data], laidTests := true, laidLooks := .later }
def FmFindsUptoCardSaid : Prop := Claim7.holds Tryz.pinned (.plain (OpenSpec.upto fmFindsSpec)) fmFindsUptoCard

/-- THE SECOND FORM's CARD OF 'haystacklaw7.FmParts'. -/
def fmPartsUptoCard : Claim7 := { stood := { row := fmPartsUptoRow, standIns := [], harness := (true, "767c102049058fa8e42677111f8380f22394c1688e22e44968f84ba07655019d"), looks := false }, kinds := [], alts := [], laidByText := true, laidKinds := [.data], laidTests := true, laidLooks := .later }
def FmPartsUptoCardSaid : Prop := Claim7.holds Tryz.pinned (.plain (OpenSpec.upto fmPartsSpec)) fmPartsUptoCard

/-- THE SECOND FORM's CARD OF 'haystacklaw7.FmFrom'. -/
def fmFromUptoCard : Claim7 := { stood := { row := fmFromUptoRow, standIns := [], harness := (true, "767c102049058fa8e42677111f8380f22394c1688e22e44968f84ba07655019d"), looks := false }, kinds := [], alts := [], laidByText := true, laidKinds := [.data], laidTests := true, laidLooks := .later }
def FmFromUptoCardSaid : Prop := Claim7.holds Tryz.pinned (.plain (OpenSpec.upto fmFromSpec)) fmFromUptoCard

/-- THE SECOND FORM's CARD OF 'haystacklaw7.FmRound'. -/
def fmRoundUptoCard : Claim7 := { stood := { row := fmRoundUptoRow, standIns := [], harness := (true, "767c102049058fa8e42677111f8380f22394c1688e22e44968f84ba07655019d"), looks := false }, kinds := [], alts := [], laidByText := true, laidKinds := [.data], laidTests := true, laidLooks := .later }
def FmRoundUptoCardSaid : Prop := Claim7.holds Tryz.pinned (.plain (OpenSpec.upto fmRoundSpec)) fmRoundUptoCard

/-- THE SECOND FORM's CARD OF 'haystacklaw7.FmLong'. -/
def fmLongUptoCard : Claim7 := { stood := { row := fmLongUptoRow, standIns := [], harness := (true, "767c102049058fa8e42677111f8380f22394c1688e22e44968f84ba07655019d"), looks := false }, kinds := [], alts := [], laidByText := true, laidKinds := [.data], laidTests := true, laidLooks := .later }
def FmLongUptoCardSaid : Prop := Claim7.holds Tryz.pinned (.plain (OpenSpec.upto fmLongSpec)) fmLongUptoCard

/-- THE SECOND FORM's CARD OF 'haystacklaw7.FmOfNothing'. -/
def fmOfNothingUptoCard : Claim7 := { stood := { row := fmOfNothingUptoRow, standIns := [], harness := (true, "767c102049058fa8e42677111f8380f22394c1688e22e44968f84ba07655019d"), looks := false }, kinds := [], alts := [], laidByText := true, laidKinds := [.data], laidTests := true, laidLooks := .later }
def FmOfNothingUptoCardSaid : Prop := Claim7.holds Tryz.pinned (.plain (OpenSpec.upto fmOfNothingSpec)) fmOfNothingUptoCard

/-- THE SECOND FORM's CARD OF 'haystacklaw7.FmLonger'. -/
def fmLongerUptoCard : Claim7 := { stood := { row := fmLongerUptoRow, standIns := [], harness := (true, "767c102049058fa8e42677111f8380f22394c1688e22e44968f84ba07655019d"), looks := false }, kinds := [], alts := [], laidByText := true, laidKinds := [.data], laidTests := true, laidLooks := .later }
def FmLongerUptoCardSaid : Prop := Claim7.holds Tryz.pinned (.plain (OpenSpec.upto fmLongerSpec)) fmLongerUptoCard

/-- THE SECOND FORM's CARD OF 'haystacklaw7.FmTexts'. -/
def fmTextsUptoCard : Claim7 := { stood := { row := fmTextsUptoRow, standIns := [], harness := (true, "767c102049058fa8e42677111f8380f22394c1688e22e44968f84ba07655019d"), looks := false }, kinds := [], alts := [], laidByText := true, laidKinds := [.data], laidTests := true, laidLooks := .later }
def FmTextsUptoCardSaid : Prop := Claim7.holds Tryz.pinned (.plain (OpenSpec.upto fmTextsSpec)) fmTextsUptoCard

/-- THE SECOND FORM's CARD OF 'haystacklaw7.FmBytes'. -/
def fmBytesUptoCard : Claim7 := { stood := { row := fmBytesUptoRow, standIns := [], harness := (true, "767c102049058fa8e42677111f8380f22394c1688e22e44968f84ba07655019d"), looks := false }, kinds := [], alts := [], laidByText := true, laidKinds := [.data], laidTests := true, laidLooks := .later }
def FmBytesUptoCardSaid : Prop := Claim7.holds Tryz.pinned (.plain (OpenSpec.upto fmBytesSpec)) fmBytesUptoCard
end Rows
end Go.Proofs.YtckkjccjkdidjaaGreatDoor
