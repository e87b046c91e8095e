/-
  NARROWER THAN 'FOR EVERY INPUT', by the rows' own cells (each row's printed sentence says how): FmFinds: laid · FmParts: laid · FmFrom: laid · FmRound: laid · FmLong: laid · FmOfNothing: laid · FmLonger: laid · FmTexts: laid · FmBytes: laid.
  DERIVED. THE GIVEN ROWS OF THIS SEAT. 9 by the template 'for every input the law returns true; each argument reads behind the call as it read before'; 0 by the template 'total and deterministic' (their statements: YtckkjccjkdidjaaGreatDoorTotals.lean).
  GIVEN WITH THE SEED: the statements are not yours to turn. If you find one false, say at which input.
  Laid BY PROGRAM, IN A SANDBOX (cutbox-rows.mjs): the forced cells as the released guide's own fill.sh prints them over the translation c4f972a99097d374… (all of the seat's roots in one cut). By AI agents, Wed Nov 11 2026. No macro, syntax, notation, axiom, sorry.
-/
import Derived.Test.YtckkjccjkdidjaaGreatDoorChecked
import GoSem.Claim
import GoSem.ClaimJoined
import GoSem.ClaimMapViews
import Derived.JoinedTies
import Derived.KernelRfl
namespace Go.Proofs.YtckkjccjkdidjaaGreatDoor
/- THE CELL 'sum', in the pinned program and in every row, IS THE sha256 OF THE DUMP (.gsa) THAT YtckkjccjkdidjaaGreatDoorProg.lean LOADS. Nothing in Lean hashes anything: it is a label: what it is worth is what the hold of that sum in a sandbox is worth. -/
noncomputable def Tryz.pinned : Pinned := { name := "ytckkjccjkdidjaagreatdoor", sum := "c4f972a99097d3745dcef93b9a81ef804cd52d3ea9b12300a27b0bcc246fe736", checked := Tryz.checked }
namespace Rows
def none {H : Type} : Left H := { results := [], args := [] }

/- WHAT THE LISTED PACKAGE-LEVEL VARIABLES READ AS WHEN THE CALL BEGINS. Each datum BY PROGRAM (the guide's laid-datum.mjs) off the statement by which the dump's own 'gosem.cut.vars' lays the variable. In a bare row this is a premise. The card (YtckkjccjkdidjaaGreatDoorCards.lean) ties it to the program's text. -/
def laid_math_bits_deBruijn64tab {H : Type} : DataW H := .agg [.lit (.int .u8 0), .lit (.int .u8 1), .lit (.int .u8 56), .lit (.int .u8 2), .lit (.int .u8 57), .lit (.int .u8 49), .lit (.int .u8 28), .lit (.int .u8 3), .lit (.int .u8 61), .lit (.int .u8 58), .lit (.int .u8 42), .lit (.int .u8 50), .lit (.int .u8 38), .lit (.int .u8 29), .lit (.int .u8 17), .lit (.int .u8 4), .lit (.int .u8 62), .lit (.int .u8 47), .lit (.int .u8 59), .lit (.int .u8 36), .lit (.int .u8 45), .lit (.int .u8 43), .lit (.int .u8 51), .lit (.int .u8 22), .lit (.int .u8 53), .lit (.int .u8 39), .lit (.int .u8 33), .lit (.int .u8 30), .lit (.int .u8 24), .lit (.int .u8 18), .lit (.int .u8 12), .lit (.int .u8 5), .lit (.int .u8 63), .lit (.int .u8 55), .lit (.int .u8 48), .lit (.int .u8 27), .lit (.int .u8 60), .lit (.int .u8 41), .lit (.int .u8 37), .lit (.int .u8 16), .lit (.int .u8 46), .lit (.int .u8 35), .lit (.int .u8 44), .lit (.int .u8 21), .lit (.int .u8 52), .lit (.int .u8 32), .lit (.int .u8 23), .lit (.int .u8 11), .lit (.int .u8 54), .lit (.int .u8 26), .lit (.int .u8 40), .lit (.int .u8 15), .lit (.int .u8 34), .lit (.int .u8 20), .lit (.int .u8 31), .lit (.int .u8 10), .lit (.int .u8 25), .lit (.int .u8 14), .lit (.int .u8 19), .lit (.int .u8 9), .lit (.int .u8 13), .lit (.int .u8 8), .lit (.int .u8 7), .lit (.int .u8 6)]

/-- 'haystacklaw7.FmFinds': WHATEVER THE INPUT: true; the input reads as it did. -/
def fmFindsSpec : ChangeSpec := { name := "fmFinds", fn := fun _ => fun
  | [d1, d2, d3] => { results := [.lit (.bool true)], args := [d1, d2, d3] }
  | _ => none }
def fmFindsRow : OpenClaim := { program := "ytckkjccjkdidjaagreatdoor", sum := "c4f972a99097d3745dcef93b9a81ef804cd52d3ea9b12300a27b0bcc246fe736", func := "haystack/haystacklaw7.FmFinds", spec := "fmFinds", unfollowed := true, recurses := true, named := ["math/bits.deBruijn64tab"], apart := false, laid := [("math/bits.deBruijn64tab", laid_math_bits_deBruijn64tab)] }
def FmFindsSaid : Prop := fmFindsRow.holds Tryz.pinned (OpenSpec.ofChange fmFindsSpec)

/-- ITS FALSE NEIGHBOUR: 'it returns false'. Refute it at one input. -/
def fmFindsWrong : ChangeSpec := { name := "fmFinds", fn := fun _ => fun
  | [d1, d2, d3] => { results := [.lit (.bool false)], args := [d1, d2, d3] }
  | _ => none }
def FmFindsWrongFalsely : Prop := fmFindsRow.holds Tryz.pinned (OpenSpec.ofChange fmFindsWrong)

/-- 'haystacklaw7.FmParts': WHATEVER THE INPUT: true; the input reads as it did. -/
def fmPartsSpec : ChangeSpec := { name := "fmParts", fn := fun _ => fun
  | [d1, d2, d3, d4] => { results := [.lit (.bool true)], args := [d1, d2, d3, d4] }
  | _ => none }
def fmPartsRow : OpenClaim := { program := "ytckkjccjkdidjaagreatdoor", sum := "c4f972a99097d3745dcef93b9a81ef804cd52d3ea9b12300a27b0bcc246fe736", func := "haystack/haystacklaw7.FmParts", spec := "fmParts", unfollowed := true, recurses := true, named := ["math/bits.deBruijn64tab"], apart := false, laid := [("math/bits.deBruijn64tab", laid_math_bits_deBruijn64tab)] }
def FmPartsSaid : Prop := fmPartsRow.holds Tryz.pinned (OpenSpec.ofChange fmPartsSpec)

/-- ITS FALSE NEIGHBOUR: 'it returns false'. Refute it at one input. -/
def fmPartsWrong : ChangeSpec := { name := "fmParts", fn := fun _ => fun
  | [d1, d2, d3, d4] => { results := [.lit (.bool false)], args := [d1, d2, d3, d4] }
  | _ => none }
def FmPartsWrongFalsely : Prop := fmPartsRow.holds Tryz.pinned (OpenSpec.ofChange fmPartsWrong)

/-- 'haystacklaw7.FmFrom': WHATEVER THE INPUT: true; the input reads as it did. -/
def fmFromSpec : ChangeSpec := { name := "fmFrom", fn := fun _ => fun
  | [d1, d2] => { results := [.lit (.bool true)], args := [d1, d2] }
  | _ => none }
def fmFromRow : OpenClaim := { program := "ytckkjccjkdidjaagreatdoor", sum := "c4f972a99097d3745dcef93b9a81ef804cd52d3ea9b12300a27b0bcc246fe736", func := "haystack/haystacklaw7.FmFrom", spec := "fmFrom", unfollowed := true, recurses := true, named := ["math/bits.deBruijn64tab"], apart := false, laid := [("math/bits.deBruijn64tab", laid_math_bits_deBruijn64tab)] }
def FmFromSaid : Prop := fmFromRow.holds Tryz.pinned (OpenSpec.ofChange fmFromSpec)

/-- ITS FALSE NEIGHBOUR: 'it returns false'. Refute it at one input. -/
def fmFromWrong : ChangeSpec := { name := "fmFrom", fn := fun _ => fun
  | [d1, d2] => { results := [.lit (.bool false)], args := [d1, d2] }
  | _ => none }
def FmFromWrongFalsely : Prop := fmFromRow.holds Tryz.pinned (OpenSpec.ofChange fmFromWrong)

/-- 'haystacklaw7.FmRound': WHATEVER THE INPUT: true; the input reads as it did. -/
def fmRoundSpec : ChangeSpec := { name := "fmRound", fn := fun _ => fun
  | [d1, d2] => { results := [.lit (.bool true)], args := [d1, d2] }
  | _ => none }
def fmRoundRow : OpenClaim := { program := "ytckkjccjkdidjaagreatdoor", sum := "c4f972a99097d3745dcef93b9a81ef804cd52d3ea9b12300a27b0bcc246fe736", func := "haystack/haystacklaw7.FmRound", spec := "fmRound", unfollowed := true, recurses := true, named := ["math/bits.deBruijn64tab"], apart := false, laid := [("math/bits.deBruijn64tab", laid_math_bits_deBruijn64tab)] }
def FmRoundSaid : Prop := fmRoundRow.holds Tryz.pinned (OpenSpec.ofChange fmRoundSpec)

/-- ITS FALSE NEIGHBOUR: 'it returns false'. Refute it at one input. -/
def fmRoundWrong : ChangeSpec := { name := "fmRound", fn := fun _ => fun
  | [d1, d2] => { results := [.lit (.bool false)], args := [d1, d2] }
  | _ => none }
def FmRoundWrongFalsely : Prop := fmRoundRow.holds Tryz.pinned (OpenSpec.ofChange fmRoundWrong)

/-- 'haystacklaw7.FmLong': WHATEVER THE INPUT: true; the input reads as it did. -/
def fmLongSpec : ChangeSpec := { name := "fmLong", fn := fun _ => fun
  | [d1, d2] => { results := [.lit (.bool true)], args := [d1, d2] }
  | _ => none }
def fmLongRow : OpenClaim := { program := "ytckkjccjkdidjaagreatdoor", sum := "c4f972a99097d3745dcef93b9a81ef804cd52d3ea9b12300a27b0bcc246fe736", func := "haystack/haystacklaw7.FmLong", spec := "fmLong", unfollowed := true, recurses := true, named := ["math/bits.deBruijn64tab"], apart := false, laid := [("math/bits.deBruijn64tab", laid_math_bits_deBruijn64tab)] }
def FmLongSaid : Prop := fmLongRow.holds Tryz.pinned (OpenSpec.ofChange fmLongSpec)

/-- ITS FALSE NEIGHBOUR: 'it returns false'. Refute it at one input. -/
def fmLongWrong : ChangeSpec := { name := "fmLong", fn := fun _ => fun
  | [d1, d2] => { results := [.lit (.bool false)], args := [d1, d2] }
  | _ => none }
def FmLongWrongFalsely : Prop := fmLongRow.holds Tryz.pinned (OpenSpec.ofChange fmLongWrong)

/-- 'haystacklaw7.FmOfNothing': WHATEVER THE INPUT: true; the input reads as it did. -/
def fmOfNothingSpec : ChangeSpec := { name := "fmOfNothing", fn := fun _ => fun
  | [d1, d2] => { results := [.lit (.bool true)], args := [d1, d2] }
  | _ => none }
def fmOfNothingRow : OpenClaim := { program := "ytckkjccjkdidjaagreatdoor", sum := "c4f972a99097d3745dcef93b9a81ef804cd52d3ea9b12300a27b0bcc246fe736", func := "haystack/haystacklaw7.FmOfNothing", spec := "fmOfNothing", unfollowed := true, recurses := true, named := ["math/bits.deBruijn64tab"], apart := false, laid := [("math/bits.deBruijn64tab", laid_math_bits_deBruijn64tab)] }
def FmOfNothingSaid : Prop := fmOfNothingRow.holds Tryz.pinned (OpenSpec.ofChange fmOfNothingSpec)

/-- ITS FALSE NEIGHBOUR: 'it returns false'. Refute it at one input. -/
def fmOfNothingWrong : ChangeSpec := { name := "fmOfNothing", fn := fun _ => fun
  | [d1, d2] => { results := [.lit (.bool false)], args := [d1, d2] }
  | _ => none }
def FmOfNothingWrongFalsely : Prop := fmOfNothingRow.holds Tryz.pinned (OpenSpec.ofChange fmOfNothingWrong)

/-- 'haystacklaw7.FmLonger': WHATEVER THE INPUT: true; the input reads as it did. -/
def fmLongerSpec : ChangeSpec := { name := "fmLonger", fn := fun _ => fun
  | [d1, d2, d3] => { results := [.lit (.bool true)], args := [d1, d2, d3] }
  | _ => none }
def fmLongerRow : OpenClaim := { program := "ytckkjccjkdidjaagreatdoor", sum := "c4f972a99097d3745dcef93b9a81ef804cd52d3ea9b12300a27b0bcc246fe736", func := "haystack/haystacklaw7.FmLonger", spec := "fmLonger", unfollowed := true, recurses := true, named := ["math/bits.deBruijn64tab"], apart := false, laid := [("math/bits.deBruijn64tab", laid_math_bits_deBruijn64tab)] }
def FmLongerSaid : Prop := fmLongerRow.holds Tryz.pinned (OpenSpec.ofChange fmLongerSpec)

/-- ITS FALSE NEIGHBOUR: 'it returns false'. Refute it at one input. -/
def fmLongerWrong : ChangeSpec := { name := "fmLonger", fn := fun _ => fun
  | [d1, d2, d3] => { results := [.lit (.bool false)], args := [d1, d2, d3] }
  | _ => none }
def FmLongerWrongFalsely : Prop := fmLongerRow.holds Tryz.pinned (OpenSpec.ofChange fmLongerWrong)

/-- 'haystacklaw7.FmTexts': WHATEVER THE INPUT: true; the input reads as it did. -/
def fmTextsSpec : ChangeSpec := { name := "fmTexts", fn := fun _ => fun
  | [d] => { results := [.lit (.bool true)], args := [d] }
  | _ => none }
def fmTextsRow : OpenClaim := { program := "ytckkjccjkdidjaagreatdoor", sum := "c4f972a99097d3745dcef93b9a81ef804cd52d3ea9b12300a27b0bcc246fe736", func := "haystack/haystacklaw7.FmTexts", spec := "fmTexts", unfollowed := true, recurses := true, named := ["math/bits.deBruijn64tab"], apart := false, laid := [("math/bits.deBruijn64tab", laid_math_bits_deBruijn64tab)] }
def FmTextsSaid : Prop := fmTextsRow.holds Tryz.pinned (OpenSpec.ofChange fmTextsSpec)

/-- ITS FALSE NEIGHBOUR: 'it returns false'. Refute it at one input. -/
def fmTextsWrong : ChangeSpec := { name := "fmTexts", fn := fun _ => fun
  | [d] => { results := [.lit (.bool false)], args := [d] }
  | _ => none }
def FmTextsWrongFalsely : Prop := fmTextsRow.holds Tryz.pinned (OpenSpec.ofChange fmTextsWrong)

/-- 'haystacklaw7.FmBytes': WHATEVER THE INPUT: true; the input reads as it did. -/
def fmBytesSpec : ChangeSpec := { name := "fmBytes", fn := fun _ => fun
  | [d1, d2] => { results := [.lit (.bool true)], args := [d1, d2] }
  | _ => none }
def fmBytesRow : OpenClaim := { program := "ytckkjccjkdidjaagreatdoor", sum := "c4f972a99097d3745dcef93b9a81ef804cd52d3ea9b12300a27b0bcc246fe736", func := "haystack/haystacklaw7.FmBytes", spec := "fmBytes", unfollowed := true, recurses := true, named := ["math/bits.deBruijn64tab"], apart := false, laid := [("math/bits.deBruijn64tab", laid_math_bits_deBruijn64tab)] }
def FmBytesSaid : Prop := fmBytesRow.holds Tryz.pinned (OpenSpec.ofChange fmBytesSpec)

/-- ITS FALSE NEIGHBOUR: 'it returns false'. Refute it at one input. -/
def fmBytesWrong : ChangeSpec := { name := "fmBytes", fn := fun _ => fun
  | [d1, d2] => { results := [.lit (.bool false)], args := [d1, d2] }
  | _ => none }
def FmBytesWrongFalsely : Prop := fmBytesRow.holds Tryz.pinned (OpenSpec.ofChange fmBytesWrong)

/- THE SECOND FORM. 'bulk': how many values and letters a reading holds, each counted each time it is reached (what is shared counts as often as it is met; a slice's spare places count too). A statement '..UptoSaid' is the law's where the arguments, and the package variables that the reading takes, are together of bulk at most 1048576: NARROWER than '..Said'. Prove '..Said' where nothing that the law and all that it calls make is longer than what came in: it says more and counts as full. Else prove '..UptoSaid'. A law counts once. -/
mutual
def uptoBulk {H : Type} : DataW H → Nat
  | .lit (.string bytes) => bytes.length + 1
  | .lit _ => 1
  | .nil => 1
  | .ptr d => uptoBulk d + 1
  | .slice elems spare => uptoBulkAll elems + uptoBulkAll spare + 1
  | .agg parts => uptoBulkAll parts + 1
  | .iface _ d => uptoBulk d + 1
  | .map entries => uptoBulkEntries entries + 1
  | .held _ => 1
def uptoBulkAll {H : Type} : List (DataW H) → Nat
  | [] => 0
  | d :: r => uptoBulk d + uptoBulkAll r
def uptoBulkEntries {H : Type} : List (Lit × DataW H) → Nat
  | [] => 0
  | x :: r => uptoBulkEntry x + uptoBulkEntries r
def uptoBulkEntry {H : Type} : Lit × DataW H → Nat
  | (.string bytes, d) => bytes.length + uptoBulk d + 1
  | (_, d) => uptoBulk d + 1
 end
def uptoSmall : (H : Type) → List (DataW H) → Bool := fun _ ds => decide (uptoBulkAll ds ≤ 1048576)
def OpenSpec.upto (s : _root_.Go.ChangeSpec) : _root_.Go.OpenSpec := { _root_.Go.OpenSpec.ofChange s with cond := some uptoSmall }

/-- 'haystacklaw7.FmFinds', WHERE WHAT IT READS IS OF BULK AT MOST 1048576: true; the input reads as it did. -/
def fmFindsUptoRow : OpenClaim := { program := "ytckkjccjkdidjaagreatdoor", sum := "c4f972a99097d3745dcef93b9a81ef804cd52d3ea9b12300a27b0bcc246fe736", func := "haystack/haystacklaw7.FmFinds", spec := "fmFinds", unfollowed := true, recurses := true, named := ["math/bits.deBruijn64tab"], apart := false, laid := [("math/bits.deBruijn64tab", laid_math_bits_deBruijn64tab)], narrowed := true }
def FmFindsUptoSaid : Prop := fmFindsUptoRow.holds Tryz.pinned (OpenSpec.upto fmFindsSpec)

/-- 'haystacklaw7.FmParts', WHERE WHAT IT READS IS OF BULK AT MOST 1048576: true; the input reads as it did. -/
def fmPartsUptoRow : OpenClaim := { program := "ytckkjccjkdidjaagreatdoor", sum := "c4f972a99097d3745dcef93b9a81ef804cd52d3ea9b12300a27b0bcc246fe736", func := "haystack/haystacklaw7.FmParts", spec := "fmParts", unfollowed := true, recurses := true, named := ["math/bits.deBruijn64tab"], apart := false, laid := [("math/bits.deBruijn64tab", laid_math_bits_deBruijn64tab)], narrowed := true }
def FmPartsUptoSaid : Prop := fmPartsUptoRow.holds Tryz.pinned (OpenSpec.upto fmPartsSpec)

/-- 'haystacklaw7.FmFrom', WHERE WHAT IT READS IS OF BULK AT MOST 1048576: true; the input reads as it did. -/
def fmFromUptoRow : OpenClaim := { program := "ytckkjccjkdidjaagreatdoor", sum := "c4f972a99097d3745dcef93b9a81ef804cd52d3ea9b12300a27b0bcc246fe736", func := "haystack/haystacklaw7.FmFrom", spec := "fmFrom", unfollowed := true, recurses := true, named := ["math/bits.deBruijn64tab"], apart := false, laid := [("math/bits.deBruijn64tab", laid_math_bits_deBruijn64tab)], narrowed := true }
def FmFromUptoSaid : Prop := fmFromUptoRow.holds Tryz.pinned (OpenSpec.upto fmFromSpec)

/-- 'haystacklaw7.FmRound', WHERE WHAT IT READS IS OF BULK AT MOST 1048576: true; the input reads as it did. -/
def fmRoundUptoRow : OpenClaim := { program := "ytckkjccjkdidjaagreatdoor", sum := "c4f972a99097d3745dcef93b9a81ef804cd52d3ea9b12300a27b0bcc246fe736", func := "haystack/haystacklaw7.FmRound", spec := "fmRound", unfollowed := true, recurses := true, named := ["math/bits.deBruijn64tab"], apart := false, laid := [("math/bits.deBruijn64tab", laid_math_bits_deBruijn64tab)], narrowed := true }
def FmRoundUptoSaid : Prop := fmRoundUptoRow.holds Tryz.pinned (OpenSpec.upto fmRoundSpec)

/-- 'haystacklaw7.FmLong', WHERE WHAT IT READS IS OF BULK AT MOST 1048576: true; the input reads as it did. -/
def fmLongUptoRow : OpenClaim := { program := "ytckkjccjkdidjaagreatdoor", sum := "c4f972a99097d3745dcef93b9a81ef804cd52d3ea9b12300a27b0bcc246fe736", func := "haystack/haystacklaw7.FmLong", spec := "fmLong", unfollowed := true, recurses := true, named := ["math/bits.deBruijn64tab"], apart := false, laid := [("math/bits.deBruijn64tab", laid_math_bits_deBruijn64tab)], narrowed := true }
def FmLongUptoSaid : Prop := fmLongUptoRow.holds Tryz.pinned (OpenSpec.upto fmLongSpec)

/-- 'haystacklaw7.FmOfNothing', WHERE WHAT IT READS IS OF BULK AT MOST 1048576: true; the input reads as it did. -/
def fmOfNothingUptoRow : OpenClaim := { program := "ytckkjccjkdidjaagreatdoor", sum := "c4f972a99097d3745dcef93b9a81ef804cd52d3ea9b12300a27b0bcc246fe736", func := "haystack/haystacklaw7.FmOfNothing", spec := "fmOfNothing", unfollowed := true, recurses := true, named := ["math/bits.deBruijn64tab"], apart := false, laid := [("math/bits.deBruijn64tab", laid_math_bits_deBruijn64tab)], narrowed := true }
def FmOfNothingUptoSaid : Prop := fmOfNothingUptoRow.holds Tryz.pinned (OpenSpec.upto fmOfNothingSpec)

/-- 'haystacklaw7.FmLonger', WHERE WHAT IT READS IS OF BULK AT MOST 1048576: true; the input reads as it did. -/
def fmLongerUptoRow : OpenClaim := { program := "ytckkjccjkdidjaagreatdoor", sum := "c4f972a99097d3745dcef93b9a81ef804cd52d3ea9b12300a27b0bcc246fe736", func := "haystack/haystacklaw7.FmLonger", spec := "fmLonger", unfollowed := true, recurses := true, named := ["math/bits.deBruijn64tab"], apart := false, laid := [("math/bits.deBruijn64tab", laid_math_bits_deBruijn64tab)], narrowed := true }
def FmLongerUptoSaid : Prop := fmLongerUptoRow.holds Tryz.pinned (OpenSpec.upto fmLongerSpec)

/-- 'haystacklaw7.FmTexts', WHERE WHAT IT READS IS OF BULK AT MOST 1048576: true; the input reads as it did. -/
def fmTextsUptoRow : OpenClaim := { program := "ytckkjccjkdidjaagreatdoor", sum := "c4f972a99097d3745dcef93b9a81ef804cd52d3ea9b12300a27b0bcc246fe736", func := "haystack/haystacklaw7.FmTexts", spec := "fmTexts", unfollowed := true, recurses := true, named := ["math/bits.deBruijn64tab"], apart := false, laid := [("math/bits.deBruijn64tab", laid_math_bits_deBruijn64tab)], narrowed := true }
def FmTextsUptoSaid : Prop := fmTextsUptoRow.holds Tryz.pinned (OpenSpec.upto fmTextsSpec)

/-- 'haystacklaw7.FmBytes', WHERE WHAT IT READS IS OF BULK AT MOST 1048576: true; the input reads as it did. -/
def fmBytesUptoRow : OpenClaim := { program := "ytckkjccjkdidjaagreatdoor", sum := "c4f972a99097d3745dcef93b9a81ef804cd52d3ea9b12300a27b0bcc246fe736", func := "haystack/haystacklaw7.FmBytes", spec := "fmBytes", unfollowed := true, recurses := true, named := ["math/bits.deBruijn64tab"], apart := false, laid := [("math/bits.deBruijn64tab", laid_math_bits_deBruijn64tab)], narrowed := true }
def FmBytesUptoSaid : Prop := fmBytesUptoRow.holds Tryz.pinned (OpenSpec.upto fmBytesSpec)

end Rows
end Go.Proofs.YtckkjccjkdidjaaGreatDoor
