/-
  DERIVED. GIVEN WITH THE SEED: THE CARDS: each row of YtambgjpfoceieaaGreatDoorRows.lean that lists a variable, with what it lists TIED to the program's text (the seventh form; the later family's looks); each row that meets fmt, with fmt's text TOLD by the authors' own Lean function (tested against real Go, not proved from fmt's source: count such statements apart). THE CARD IS WHAT COUNTS. Prove the row's statement (the work); the ties are given (YtambgjpfoceieaaGreatDoorTie.lean); close each card by the builder's one call (the guide's Derived/Test/ToyasCard.lean, 'card_holds'). Laid BY PROGRAM, IN A SANDBOX (cutbox-door.mjs). By AI agents, Wed Nov 11 2026. No macro, syntax, notation, axiom, sorry.
-/
import Derived.Test.YtambgjpfoceieaaGreatDoorRows
import GoSem.ClaimSeven
namespace Go.Proofs.YtambgjpfoceieaaGreatDoor
namespace Rows

/-- THE TIED CARD OF 'haystacklaw9.SegmentMakes'. -/
def segmentMakesCard : Claim7 := { stood := { row := segmentMakesRow, standIns := [], harness := (true, "f122dce704cd006befed952328896fbf8ce5e7a7b314085699dee6195b431824"), looks := false }, kinds := [], alts := [], laidByText := true, laidKinds := [.data, .data], laidTests := true, laidLooks := .later }
def SegmentMakesCardSaid : Prop := Claim7.holds Tryz.pinned (.plain (OpenSpec.ofChange segmentMakesSpec)) segmentMakesCard

/-- THE TIED CARD OF 'haystacklaw9.SegmentBack'. -/
def segmentBackCard : Claim7 := { stood := { row := segmentBackRow, standIns := [], harness := (true, "f122dce704cd006befed952328896fbf8ce5e7a7b314085699dee6195b431824"), looks := false }, kinds := [], alts := [], laidByText := true, laidKinds := [.data, .data], laidTests := true, laidLooks := .later }
def SegmentBackCardSaid : Prop := Claim7.holds Tryz.pinned (.plain (OpenSpec.ofChange segmentBackSpec)) segmentBackCard

/-- THE TIED CARD OF 'haystacklaw9.SegmentDecodes'. -/
def segmentDecodesCard : Claim7 := { stood := { row := segmentDecodesRow, standIns := [], harness := (true, "f122dce704cd006befed952328896fbf8ce5e7a7b314085699dee6195b431824"), looks := false }, kinds := [], alts := [], laidByText := true, laidKinds := [.data, .data], laidTests := true, laidLooks := .later }
def SegmentDecodesCardSaid : Prop := Claim7.holds Tryz.pinned (.plain (OpenSpec.ofChange segmentDecodesSpec)) segmentDecodesCard

/-- THE TIED CARD OF 'haystacklaw9.SegmentMerges'. -/
def segmentMergesCard : Claim7 := { stood := { row := segmentMergesRow, standIns := [], harness := (true, "f122dce704cd006befed952328896fbf8ce5e7a7b314085699dee6195b431824"), looks := false }, kinds := [], alts := [], laidByText := true, laidKinds := [.data, .data], laidTests := true, laidLooks := .later }
def SegmentMergesCardSaid : Prop := Claim7.holds Tryz.pinned (.plain (OpenSpec.ofChange segmentMergesSpec)) segmentMergesCard

/-- THE TIED CARD OF 'haystacklaw9.SegmentParts'. -/
def segmentPartsCard : Claim7 := { stood := { row := segmentPartsRow, standIns := [], harness := (true, "f122dce704cd006befed952328896fbf8ce5e7a7b314085699dee6195b431824"), looks := false }, kinds := [], alts := [], laidByText := true, laidKinds := [.data, .data], laidTests := true, laidLooks := .later }
def SegmentPartsCardSaid : Prop := Claim7.holds Tryz.pinned (.plain (OpenSpec.ofChange segmentPartsSpec)) segmentPartsCard

/-- THE TIED CARD OF 'haystacklaw9.SegmentPromotes'. -/
def segmentPromotesCard : Claim7 := { stood := { row := segmentPromotesRow, standIns := [], harness := (true, "f122dce704cd006befed952328896fbf8ce5e7a7b314085699dee6195b431824"), looks := false }, kinds := [], alts := [], laidByText := true, laidKinds := [.data], laidTests := true, laidLooks := .later }
def SegmentPromotesCardSaid : Prop := Claim7.holds Tryz.pinned (.plain (OpenSpec.ofChange segmentPromotesSpec)) segmentPromotesCard

/-- THE TIED CARD OF 'haystacklaw9.SegmentOfNothing'. -/
def segmentOfNothingCard : Claim7 := { stood := { row := segmentOfNothingRow, standIns := [], harness := (true, "f122dce704cd006befed952328896fbf8ce5e7a7b314085699dee6195b431824"), looks := false }, kinds := [], alts := [], laidByText := true, laidKinds := [.data, .data], laidTests := true, laidLooks := .later }
def SegmentOfNothingCardSaid : Prop := Claim7.holds Tryz.pinned (.plain (OpenSpec.ofChange segmentOfNothingSpec)) segmentOfNothingCard

/-- THE TIED CARD OF 'haystacklaw9.SegmentOrder'. -/
def segmentOrderCard : Claim7 := { stood := { row := segmentOrderRow, standIns := [], harness := (true, "f122dce704cd006befed952328896fbf8ce5e7a7b314085699dee6195b431824"), looks := false }, kinds := [], alts := [], laidByText := true, laidKinds := [.data, .data], laidTests := true, laidLooks := .later }
def SegmentOrderCardSaid : Prop := Claim7.holds Tryz.pinned (.plain (OpenSpec.ofChange segmentOrderSpec)) segmentOrderCard

/-- THE TIED CARD OF 'haystacklaw9.SegmentNewest'. -/
def segmentNewestCard : Claim7 := { stood := { row := segmentNewestRow, standIns := [], harness := (true, "f122dce704cd006befed952328896fbf8ce5e7a7b314085699dee6195b431824"), looks := false }, kinds := [], alts := [], laidByText := true, laidKinds := [.data], laidTests := true, laidLooks := .later }
def SegmentNewestCardSaid : Prop := Claim7.holds Tryz.pinned (.plain (OpenSpec.ofChange segmentNewestSpec)) segmentNewestCard

/-- THE SECOND FORM's CARD OF 'haystacklaw9.SegmentMakes'. -/
def segmentMakesUptoCard : Claim7 := { stood := { row := segmentMakesUptoRow, standIns := [], harness := (true, "f122dce704cd006befed952328896fbf8ce5e7a7b314085699dee6195b431824"), looks := false }, kinds := [], alts := [], laidByText := true, laidKinds := [.data, .data], laidTests := true, laidLooks := .later }
def SegmentMakesUptoCardSaid : Prop := Claim7.holds Tryz.pinned (.plain (OpenSpec.upto segmentMakesSpec)) segmentMakesUptoCard

/-- THE SECOND FORM's CARD OF 'haystacklaw9.SegmentBack'. -/
def segmentBackUptoCard : Claim7 := { stood := { row := segmentBackUptoRow, standIns := [], harness := (true, "f122dce704cd006befed952328896fbf8ce5e7a7b314085699dee6195b431824"), looks := false }, kinds := [], alts := [], laidByText := true, laidKinds := [.data, .data], laidTests := true, laidLooks := .later }
def SegmentBackUptoCardSaid : Prop := Claim7.holds Tryz.pinned (.plain (OpenSpec.upto segmentBackSpec)) segmentBackUptoCard

/-- THE SECOND FORM's CARD OF 'haystacklaw9.SegmentDecodes'. -/
def segmentDecodesUptoCard : Claim7 := { stood := { row := segmentDecodesUptoRow, standIns := [], harness := (true, "f122dce704cd006befed952328896fbf8ce5e7a7b314085699dee6195b431824"), looks := false }, kinds := [], alts := [], laidByText := true, laidKinds := [.data, .data], laidTests := true, laidLooks := .later }
def SegmentDecodesUptoCardSaid : Prop := Claim7.holds Tryz.pinned (.plain (OpenSpec.upto segmentDecodesSpec)) segmentDecodesUptoCard

/-- THE SECOND FORM's CARD OF 'haystacklaw9.SegmentMerges'. -/
def segmentMergesUptoCard : Claim7 := { stood := { row := segmentMergesUptoRow, standIns := [], harness := (true, "f122dce704cd006befed952328896fbf8ce5e7a7b314085699dee6195b431824"), looks := false }, kinds := [], alts := [], laidByText := true, laidKinds := [.data, .data], laidTests := true, laidLooks := .later }
def SegmentMergesUptoCardSaid : Prop := Claim7.holds Tryz.pinned (.plain (OpenSpec.upto segmentMergesSpec)) segmentMergesUptoCard

/-- THE SECOND FORM's CARD OF 'haystacklaw9.SegmentParts'. -/
def segmentPartsUptoCard : Claim7 := { stood := { row := segmentPartsUptoRow, standIns := [], harness := (true, "f122dce704cd006befed952328896fbf8ce5e7a7b314085699dee6195b431824"), looks := false }, kinds := [], alts := [], laidByText := true, laidKinds := [.data, .data], laidTests := true, laidLooks := .later }
def SegmentPartsUptoCardSaid : Prop := Claim7.holds Tryz.pinned (.plain (OpenSpec.upto segmentPartsSpec)) segmentPartsUptoCard

/-- THE SECOND FORM's CARD OF 'haystacklaw9.SegmentPromotes'. -/
def segmentPromotesUptoCard : Claim7 := { stood := { row := segmentPromotesUptoRow, standIns := [], harness := (true, "f122dce704cd006befed952328896fbf8ce5e7a7b314085699dee6195b431824"), looks := false }, kinds := [], alts := [], laidByText := true, laidKinds := [.data], laidTests := true, laidLooks := .later }
def SegmentPromotesUptoCardSaid : Prop := Claim7.holds Tryz.pinned (.plain (OpenSpec.upto segmentPromotesSpec)) segmentPromotesUptoCard

/-- THE SECOND FORM's CARD OF 'haystacklaw9.SegmentOfNothing'. -/
def segmentOfNothingUptoCard : Claim7 := { stood := { row := segmentOfNothingUptoRow, standIns := [], harness := (true, "f122dce704cd006befed952328896fbf8ce5e7a7b314085699dee6195b431824"), looks := false }, kinds := [], alts := [], laidByText := true, laidKinds := [.data, .data], laidTests := true, laidLooks := .later }
def SegmentOfNothingUptoCardSaid : Prop := Claim7.holds Tryz.pinned (.plain (OpenSpec.upto segmentOfNothingSpec)) segmentOfNothingUptoCard

/-- THE SECOND FORM's CARD OF 'haystacklaw9.SegmentOrder'. -/
def segmentOrderUptoCard : Claim7 := { stood := { row := segmentOrderUptoRow, standIns := [], harness := (true, "f122dce704cd006befed952328896fbf8ce5e7a7b314085699dee6195b431824"), looks := false }, kinds := [], alts := [], laidByText := true, laidKinds := [.data, .data], laidTests := true, laidLooks := .later }
def SegmentOrderUptoCardSaid : Prop := Claim7.holds Tryz.pinned (.plain (OpenSpec.upto segmentOrderSpec)) segmentOrderUptoCard

/-- THE SECOND FORM's CARD OF 'haystacklaw9.SegmentNewest'. -/
def segmentNewestUptoCard : Claim7 := { stood := { row := segmentNewestUptoRow, standIns := [], harness := (true, "f122dce704cd006befed952328896fbf8ce5e7a7b314085699dee6195b431824"), looks := false }, kinds := [], alts := [], laidByText := true, laidKinds := [.data], laidTests := true, laidLooks := .later }
def SegmentNewestUptoCardSaid : Prop := Claim7.holds Tryz.pinned (.plain (OpenSpec.upto segmentNewestSpec)) segmentNewestUptoCard
end Rows
end Go.Proofs.YtambgjpfoceieaaGreatDoor
