/-
  NARROWER THAN 'FOR EVERY INPUT', by the rows' own cells (each row's printed sentence says how): SegmentMakes: laid · SegmentBack: laid · SegmentDecodes: laid · SegmentMerges: laid · SegmentParts: laid · SegmentPromotes: laid · SegmentOfNothing: laid · SegmentOrder: laid · SegmentNewest: laid.
  DERIVED. THE GIVEN ROWS OF THIS SEAT. 9 by the template 'for every input the law returns true; each argument reads behind the call as it read before'; 0 by the template 'total and deterministic' (their statements: YtambgjpfoceieaaGreatDoorTotals.lean).
  GIVEN WITH THE SEED: the statements are not yours to turn. If you find one false, say at which input.
  Laid BY PROGRAM, IN A SANDBOX (cutbox-rows.mjs): the forced cells as the released guide's own fill.sh prints them over the translation 69388666e6da408a… (all of the seat's roots in one cut). By AI agents, Wed Nov 11 2026. No macro, syntax, notation, axiom, sorry.
-/
import Derived.Test.YtambgjpfoceieaaGreatDoorChecked
import GoSem.Claim
import GoSem.ClaimJoined
import GoSem.ClaimMapViews
import Derived.JoinedTies
import Derived.KernelRfl
namespace Go.Proofs.YtambgjpfoceieaaGreatDoor
/- THE CELL 'sum', in the pinned program and in every row, IS THE sha256 OF THE DUMP (.gsa) THAT YtambgjpfoceieaaGreatDoorProg.lean LOADS. Nothing in Lean hashes anything: it is a label: what it is worth is what the hold of that sum in a sandbox is worth. -/
noncomputable def Tryz.pinned : Pinned := { name := "ytambgjpfoceieaagreatdoor", sum := "69388666e6da408aff06bfcf21f2848b395d5694381505b8ecd94888e599f3da", checked := Tryz.checked }
namespace Rows
def none {H : Type} : Left H := { results := [], args := [] }

/- WHAT THE LISTED PACKAGE-LEVEL VARIABLES READ AS WHEN THE CALL BEGINS. Each datum BY PROGRAM (the guide's laid-datum.mjs) off the statement by which the dump's own 'gosem.cut.vars' lays the variable. In a bare row this is a premise. The card (YtambgjpfoceieaaGreatDoorCards.lean) ties it to the program's text. -/
def laid_haystack_octet_sums {H : Type} : DataW H := .agg [.lit (.int .u32 0), .lit (.int .u32 498536548), .lit (.int .u32 997073096), .lit (.int .u32 651767980), .lit (.int .u32 1994146192), .lit (.int .u32 1802195444), .lit (.int .u32 1303535960), .lit (.int .u32 1342533948), .lit (.int .u32 3988292384), .lit (.int .u32 4027552580), .lit (.int .u32 3604390888), .lit (.int .u32 3412177804), .lit (.int .u32 2607071920), .lit (.int .u32 2262029012), .lit (.int .u32 2685067896), .lit (.int .u32 3183342108)]
def laid_math_bits_deBruijn64tab {H : Type} : DataW H := .agg [.lit (.int .u8 0), .lit (.int .u8 1), .lit (.int .u8 56), .lit (.int .u8 2), .lit (.int .u8 57), .lit (.int .u8 49), .lit (.int .u8 28), .lit (.int .u8 3), .lit (.int .u8 61), .lit (.int .u8 58), .lit (.int .u8 42), .lit (.int .u8 50), .lit (.int .u8 38), .lit (.int .u8 29), .lit (.int .u8 17), .lit (.int .u8 4), .lit (.int .u8 62), .lit (.int .u8 47), .lit (.int .u8 59), .lit (.int .u8 36), .lit (.int .u8 45), .lit (.int .u8 43), .lit (.int .u8 51), .lit (.int .u8 22), .lit (.int .u8 53), .lit (.int .u8 39), .lit (.int .u8 33), .lit (.int .u8 30), .lit (.int .u8 24), .lit (.int .u8 18), .lit (.int .u8 12), .lit (.int .u8 5), .lit (.int .u8 63), .lit (.int .u8 55), .lit (.int .u8 48), .lit (.int .u8 27), .lit (.int .u8 60), .lit (.int .u8 41), .lit (.int .u8 37), .lit (.int .u8 16), .lit (.int .u8 46), .lit (.int .u8 35), .lit (.int .u8 44), .lit (.int .u8 21), .lit (.int .u8 52), .lit (.int .u8 32), .lit (.int .u8 23), .lit (.int .u8 11), .lit (.int .u8 54), .lit (.int .u8 26), .lit (.int .u8 40), .lit (.int .u8 15), .lit (.int .u8 34), .lit (.int .u8 20), .lit (.int .u8 31), .lit (.int .u8 10), .lit (.int .u8 25), .lit (.int .u8 14), .lit (.int .u8 19), .lit (.int .u8 9), .lit (.int .u8 13), .lit (.int .u8 8), .lit (.int .u8 7), .lit (.int .u8 6)]

/-- 'haystacklaw9.SegmentMakes': WHATEVER THE INPUT: true; the input reads as it did. -/
def segmentMakesSpec : ChangeSpec := { name := "segmentMakes", fn := fun _ => fun
  | [d1, d2] => { results := [.lit (.bool true)], args := [d1, d2] }
  | _ => none }
def segmentMakesRow : OpenClaim := { program := "ytambgjpfoceieaagreatdoor", sum := "69388666e6da408aff06bfcf21f2848b395d5694381505b8ecd94888e599f3da", func := "haystack/haystacklaw9.SegmentMakes", spec := "segmentMakes", unfollowed := true, recurses := true, named := ["math/bits.deBruijn64tab", "haystack/octet.sums"], apart := false, laid := [("haystack/octet.sums", laid_haystack_octet_sums), ("math/bits.deBruijn64tab", laid_math_bits_deBruijn64tab)] }
def SegmentMakesSaid : Prop := segmentMakesRow.holds Tryz.pinned (OpenSpec.ofChange segmentMakesSpec)

/-- ITS FALSE NEIGHBOUR: 'it returns false'. Refute it at one input. -/
def segmentMakesWrong : ChangeSpec := { name := "segmentMakes", fn := fun _ => fun
  | [d1, d2] => { results := [.lit (.bool false)], args := [d1, d2] }
  | _ => none }
def SegmentMakesWrongFalsely : Prop := segmentMakesRow.holds Tryz.pinned (OpenSpec.ofChange segmentMakesWrong)

/-- 'haystacklaw9.SegmentBack': WHATEVER THE INPUT: true; the input reads as it did. -/
def segmentBackSpec : ChangeSpec := { name := "segmentBack", fn := fun _ => fun
  | [d1, d2] => { results := [.lit (.bool true)], args := [d1, d2] }
  | _ => none }
def segmentBackRow : OpenClaim := { program := "ytambgjpfoceieaagreatdoor", sum := "69388666e6da408aff06bfcf21f2848b395d5694381505b8ecd94888e599f3da", func := "haystack/haystacklaw9.SegmentBack", spec := "segmentBack", unfollowed := true, recurses := true, named := ["math/bits.deBruijn64tab", "haystack/octet.sums"], apart := false, laid := [("haystack/octet.sums", laid_haystack_octet_sums), ("math/bits.deBruijn64tab", laid_math_bits_deBruijn64tab)] }
def SegmentBackSaid : Prop := segmentBackRow.holds Tryz.pinned (OpenSpec.ofChange segmentBackSpec)

/-- ITS FALSE NEIGHBOUR: 'it returns false'. Refute it at one input. -/
def segmentBackWrong : ChangeSpec := { name := "segmentBack", fn := fun _ => fun
  | [d1, d2] => { results := [.lit (.bool false)], args := [d1, d2] }
  | _ => none }
def SegmentBackWrongFalsely : Prop := segmentBackRow.holds Tryz.pinned (OpenSpec.ofChange segmentBackWrong)

/-- 'haystacklaw9.SegmentDecodes': WHATEVER THE INPUT: true; the input reads as it did. -/
def segmentDecodesSpec : ChangeSpec := { name := "segmentDecodes", fn := fun _ => fun
  | [d1, d2] => { results := [.lit (.bool true)], args := [d1, d2] }
  | _ => none }
def segmentDecodesRow : OpenClaim := { program := "ytambgjpfoceieaagreatdoor", sum := "69388666e6da408aff06bfcf21f2848b395d5694381505b8ecd94888e599f3da", func := "haystack/haystacklaw9.SegmentDecodes", spec := "segmentDecodes", unfollowed := true, recurses := true, named := ["haystack/octet.sums", "math/bits.deBruijn64tab"], apart := false, laid := [("haystack/octet.sums", laid_haystack_octet_sums), ("math/bits.deBruijn64tab", laid_math_bits_deBruijn64tab)] }
def SegmentDecodesSaid : Prop := segmentDecodesRow.holds Tryz.pinned (OpenSpec.ofChange segmentDecodesSpec)

/-- ITS FALSE NEIGHBOUR: 'it returns false'. Refute it at one input. -/
def segmentDecodesWrong : ChangeSpec := { name := "segmentDecodes", fn := fun _ => fun
  | [d1, d2] => { results := [.lit (.bool false)], args := [d1, d2] }
  | _ => none }
def SegmentDecodesWrongFalsely : Prop := segmentDecodesRow.holds Tryz.pinned (OpenSpec.ofChange segmentDecodesWrong)

/-- 'haystacklaw9.SegmentMerges': WHATEVER THE INPUT: true; the input reads as it did. -/
def segmentMergesSpec : ChangeSpec := { name := "segmentMerges", fn := fun _ => fun
  | [d1, d2, d3] => { results := [.lit (.bool true)], args := [d1, d2, d3] }
  | _ => none }
def segmentMergesRow : OpenClaim := { program := "ytambgjpfoceieaagreatdoor", sum := "69388666e6da408aff06bfcf21f2848b395d5694381505b8ecd94888e599f3da", func := "haystack/haystacklaw9.SegmentMerges", spec := "segmentMerges", unfollowed := true, recurses := true, named := ["math/bits.deBruijn64tab", "haystack/octet.sums"], apart := false, laid := [("haystack/octet.sums", laid_haystack_octet_sums), ("math/bits.deBruijn64tab", laid_math_bits_deBruijn64tab)] }
def SegmentMergesSaid : Prop := segmentMergesRow.holds Tryz.pinned (OpenSpec.ofChange segmentMergesSpec)

/-- ITS FALSE NEIGHBOUR: 'it returns false'. Refute it at one input. -/
def segmentMergesWrong : ChangeSpec := { name := "segmentMerges", fn := fun _ => fun
  | [d1, d2, d3] => { results := [.lit (.bool false)], args := [d1, d2, d3] }
  | _ => none }
def SegmentMergesWrongFalsely : Prop := segmentMergesRow.holds Tryz.pinned (OpenSpec.ofChange segmentMergesWrong)

/-- 'haystacklaw9.SegmentParts': WHATEVER THE INPUT: true; the input reads as it did. -/
def segmentPartsSpec : ChangeSpec := { name := "segmentParts", fn := fun _ => fun
  | [d1, d2, d3, d4] => { results := [.lit (.bool true)], args := [d1, d2, d3, d4] }
  | _ => none }
def segmentPartsRow : OpenClaim := { program := "ytambgjpfoceieaagreatdoor", sum := "69388666e6da408aff06bfcf21f2848b395d5694381505b8ecd94888e599f3da", func := "haystack/haystacklaw9.SegmentParts", spec := "segmentParts", unfollowed := true, recurses := true, named := ["math/bits.deBruijn64tab", "haystack/octet.sums"], apart := false, laid := [("haystack/octet.sums", laid_haystack_octet_sums), ("math/bits.deBruijn64tab", laid_math_bits_deBruijn64tab)] }
def SegmentPartsSaid : Prop := segmentPartsRow.holds Tryz.pinned (OpenSpec.ofChange segmentPartsSpec)

/-- ITS FALSE NEIGHBOUR: 'it returns false'. Refute it at one input. -/
def segmentPartsWrong : ChangeSpec := { name := "segmentParts", fn := fun _ => fun
  | [d1, d2, d3, d4] => { results := [.lit (.bool false)], args := [d1, d2, d3, d4] }
  | _ => none }
def SegmentPartsWrongFalsely : Prop := segmentPartsRow.holds Tryz.pinned (OpenSpec.ofChange segmentPartsWrong)

/-- 'haystacklaw9.SegmentPromotes': WHATEVER THE INPUT: true; the input reads as it did. -/
def segmentPromotesSpec : ChangeSpec := { name := "segmentPromotes", fn := fun _ => fun
  | [d1, d2, d3, d4, d5] => { results := [.lit (.bool true)], args := [d1, d2, d3, d4, d5] }
  | _ => none }
def segmentPromotesRow : OpenClaim := { program := "ytambgjpfoceieaagreatdoor", sum := "69388666e6da408aff06bfcf21f2848b395d5694381505b8ecd94888e599f3da", func := "haystack/haystacklaw9.SegmentPromotes", spec := "segmentPromotes", unfollowed := true, recurses := true, named := ["math/bits.deBruijn64tab"], apart := false, laid := [("math/bits.deBruijn64tab", laid_math_bits_deBruijn64tab)] }
def SegmentPromotesSaid : Prop := segmentPromotesRow.holds Tryz.pinned (OpenSpec.ofChange segmentPromotesSpec)

/-- ITS FALSE NEIGHBOUR: 'it returns false'. Refute it at one input. -/
def segmentPromotesWrong : ChangeSpec := { name := "segmentPromotes", fn := fun _ => fun
  | [d1, d2, d3, d4, d5] => { results := [.lit (.bool false)], args := [d1, d2, d3, d4, d5] }
  | _ => none }
def SegmentPromotesWrongFalsely : Prop := segmentPromotesRow.holds Tryz.pinned (OpenSpec.ofChange segmentPromotesWrong)

/-- 'haystacklaw9.SegmentOfNothing': WHATEVER THE INPUT: true; the input reads as it did. -/
def segmentOfNothingSpec : ChangeSpec := { name := "segmentOfNothing", fn := fun _ => fun
  | [d1, d2] => { results := [.lit (.bool true)], args := [d1, d2] }
  | _ => none }
def segmentOfNothingRow : OpenClaim := { program := "ytambgjpfoceieaagreatdoor", sum := "69388666e6da408aff06bfcf21f2848b395d5694381505b8ecd94888e599f3da", func := "haystack/haystacklaw9.SegmentOfNothing", spec := "segmentOfNothing", unfollowed := true, recurses := true, named := ["math/bits.deBruijn64tab", "haystack/octet.sums"], apart := false, laid := [("haystack/octet.sums", laid_haystack_octet_sums), ("math/bits.deBruijn64tab", laid_math_bits_deBruijn64tab)] }
def SegmentOfNothingSaid : Prop := segmentOfNothingRow.holds Tryz.pinned (OpenSpec.ofChange segmentOfNothingSpec)

/-- ITS FALSE NEIGHBOUR: 'it returns false'. Refute it at one input. -/
def segmentOfNothingWrong : ChangeSpec := { name := "segmentOfNothing", fn := fun _ => fun
  | [d1, d2] => { results := [.lit (.bool false)], args := [d1, d2] }
  | _ => none }
def SegmentOfNothingWrongFalsely : Prop := segmentOfNothingRow.holds Tryz.pinned (OpenSpec.ofChange segmentOfNothingWrong)

/-- 'haystacklaw9.SegmentOrder': WHATEVER THE INPUT: true; the input reads as it did. -/
def segmentOrderSpec : ChangeSpec := { name := "segmentOrder", fn := fun _ => fun
  | [d1, d2] => { results := [.lit (.bool true)], args := [d1, d2] }
  | _ => none }
def segmentOrderRow : OpenClaim := { program := "ytambgjpfoceieaagreatdoor", sum := "69388666e6da408aff06bfcf21f2848b395d5694381505b8ecd94888e599f3da", func := "haystack/haystacklaw9.SegmentOrder", spec := "segmentOrder", unfollowed := true, recurses := true, named := ["math/bits.deBruijn64tab", "haystack/octet.sums"], apart := false, laid := [("haystack/octet.sums", laid_haystack_octet_sums), ("math/bits.deBruijn64tab", laid_math_bits_deBruijn64tab)] }
def SegmentOrderSaid : Prop := segmentOrderRow.holds Tryz.pinned (OpenSpec.ofChange segmentOrderSpec)

/-- ITS FALSE NEIGHBOUR: 'it returns false'. Refute it at one input. -/
def segmentOrderWrong : ChangeSpec := { name := "segmentOrder", fn := fun _ => fun
  | [d1, d2] => { results := [.lit (.bool false)], args := [d1, d2] }
  | _ => none }
def SegmentOrderWrongFalsely : Prop := segmentOrderRow.holds Tryz.pinned (OpenSpec.ofChange segmentOrderWrong)

/-- 'haystacklaw9.SegmentNewest': WHATEVER THE INPUT: true; the input reads as it did. -/
def segmentNewestSpec : ChangeSpec := { name := "segmentNewest", fn := fun _ => fun
  | [d1, d2, d3] => { results := [.lit (.bool true)], args := [d1, d2, d3] }
  | _ => none }
def segmentNewestRow : OpenClaim := { program := "ytambgjpfoceieaagreatdoor", sum := "69388666e6da408aff06bfcf21f2848b395d5694381505b8ecd94888e599f3da", func := "haystack/haystacklaw9.SegmentNewest", spec := "segmentNewest", unfollowed := true, recurses := true, named := ["math/bits.deBruijn64tab"], apart := false, laid := [("math/bits.deBruijn64tab", laid_math_bits_deBruijn64tab)] }
def SegmentNewestSaid : Prop := segmentNewestRow.holds Tryz.pinned (OpenSpec.ofChange segmentNewestSpec)

/-- ITS FALSE NEIGHBOUR: 'it returns false'. Refute it at one input. -/
def segmentNewestWrong : ChangeSpec := { name := "segmentNewest", fn := fun _ => fun
  | [d1, d2, d3] => { results := [.lit (.bool false)], args := [d1, d2, d3] }
  | _ => none }
def SegmentNewestWrongFalsely : Prop := segmentNewestRow.holds Tryz.pinned (OpenSpec.ofChange segmentNewestWrong)

/- THE SECOND FORM. 'bulk': how many values and letters a reading holds, each counted each time it is reached (what is shared counts as often as it is met; a slice's spare places count too). A statement '..UptoSaid' is the law's where the arguments, and the package variables that the reading takes, are together of bulk at most 1048576: NARROWER than '..Said'. Prove '..Said' where nothing that the law and all that it calls make is longer than what came in: it says more and counts as full. Else prove '..UptoSaid'. A law counts once. -/
mutual
def uptoBulk {H : Type} : DataW H → Nat
  | .lit (.string bytes) => bytes.length + 1
  | .lit _ => 1
  | .nil => 1
  | .ptr d => uptoBulk d + 1
  | .slice elems spare => uptoBulkAll elems + uptoBulkAll spare + 1
  | .agg parts => uptoBulkAll parts + 1
  | .iface _ d => uptoBulk d + 1
  | .map entries => uptoBulkEntries entries + 1
  | .held _ => 1
def uptoBulkAll {H : Type} : List (DataW H) → Nat
  | [] => 0
  | d :: r => uptoBulk d + uptoBulkAll r
def uptoBulkEntries {H : Type} : List (Lit × DataW H) → Nat
  | [] => 0
  | x :: r => uptoBulkEntry x + uptoBulkEntries r
def uptoBulkEntry {H : Type} : Lit × DataW H → Nat
  | (.string bytes, d) => bytes.length + uptoBulk d + 1
  | (_, d) => uptoBulk d + 1
 end
def uptoSmall : (H : Type) → List (DataW H) → Bool := fun _ ds => decide (uptoBulkAll ds ≤ 1048576)
def OpenSpec.upto (s : _root_.Go.ChangeSpec) : _root_.Go.OpenSpec := { _root_.Go.OpenSpec.ofChange s with cond := some uptoSmall }

/-- 'haystacklaw9.SegmentMakes', WHERE WHAT IT READS IS OF BULK AT MOST 1048576: true; the input reads as it did. -/
def segmentMakesUptoRow : OpenClaim := { program := "ytambgjpfoceieaagreatdoor", sum := "69388666e6da408aff06bfcf21f2848b395d5694381505b8ecd94888e599f3da", func := "haystack/haystacklaw9.SegmentMakes", spec := "segmentMakes", unfollowed := true, recurses := true, named := ["math/bits.deBruijn64tab", "haystack/octet.sums"], apart := false, laid := [("haystack/octet.sums", laid_haystack_octet_sums), ("math/bits.deBruijn64tab", laid_math_bits_deBruijn64tab)], narrowed := true }
def SegmentMakesUptoSaid : Prop := segmentMakesUptoRow.holds Tryz.pinned (OpenSpec.upto segmentMakesSpec)

/-- 'haystacklaw9.SegmentBack', WHERE WHAT IT READS IS OF BULK AT MOST 1048576: true; the input reads as it did. -/
def segmentBackUptoRow : OpenClaim := { program := "ytambgjpfoceieaagreatdoor", sum := "69388666e6da408aff06bfcf21f2848b395d5694381505b8ecd94888e599f3da", func := "haystack/haystacklaw9.SegmentBack", spec := "segmentBack", unfollowed := true, recurses := true, named := ["math/bits.deBruijn64tab", "haystack/octet.sums"], apart := false, laid := [("haystack/octet.sums", laid_haystack_octet_sums), ("math/bits.deBruijn64tab", laid_math_bits_deBruijn64tab)], narrowed := true }
def SegmentBackUptoSaid : Prop := segmentBackUptoRow.holds Tryz.pinned (OpenSpec.upto segmentBackSpec)

/-- 'haystacklaw9.SegmentDecodes', WHERE WHAT IT READS IS OF BULK AT MOST 1048576: true; the input reads as it did. -/
def segmentDecodesUptoRow : OpenClaim := { program := "ytambgjpfoceieaagreatdoor", sum := "69388666e6da408aff06bfcf21f2848b395d5694381505b8ecd94888e599f3da", func := "haystack/haystacklaw9.SegmentDecodes", spec := "segmentDecodes", unfollowed := true, recurses := true, named := ["haystack/octet.sums", "math/bits.deBruijn64tab"], apart := false, laid := [("haystack/octet.sums", laid_haystack_octet_sums), ("math/bits.deBruijn64tab", laid_math_bits_deBruijn64tab)], narrowed := true }
def SegmentDecodesUptoSaid : Prop := segmentDecodesUptoRow.holds Tryz.pinned (OpenSpec.upto segmentDecodesSpec)

/-- 'haystacklaw9.SegmentMerges', WHERE WHAT IT READS IS OF BULK AT MOST 1048576: true; the input reads as it did. -/
def segmentMergesUptoRow : OpenClaim := { program := "ytambgjpfoceieaagreatdoor", sum := "69388666e6da408aff06bfcf21f2848b395d5694381505b8ecd94888e599f3da", func := "haystack/haystacklaw9.SegmentMerges", spec := "segmentMerges", unfollowed := true, recurses := true, named := ["math/bits.deBruijn64tab", "haystack/octet.sums"], apart := false, laid := [("haystack/octet.sums", laid_haystack_octet_sums), ("math/bits.deBruijn64tab", laid_math_bits_deBruijn64tab)], narrowed := true }
def SegmentMergesUptoSaid : Prop := segmentMergesUptoRow.holds Tryz.pinned (OpenSpec.upto segmentMergesSpec)

/-- 'haystacklaw9.SegmentParts', WHERE WHAT IT READS IS OF BULK AT MOST 1048576: true; the input reads as it did. -/
def segmentPartsUptoRow : OpenClaim := { program := "ytambgjpfoceieaagreatdoor", sum := "69388666e6da408aff06bfcf21f2848b395d5694381505b8ecd94888e599f3da", func := "haystack/haystacklaw9.SegmentParts", spec := "segmentParts", unfollowed := true, recurses := true, named := ["math/bits.deBruijn64tab", "haystack/octet.sums"], apart := false, laid := [("haystack/octet.sums", laid_haystack_octet_sums), ("math/bits.deBruijn64tab", laid_math_bits_deBruijn64tab)], narrowed := true }
def SegmentPartsUptoSaid : Prop := segmentPartsUptoRow.holds Tryz.pinned (OpenSpec.upto segmentPartsSpec)

/-- 'haystacklaw9.SegmentPromotes', WHERE WHAT IT READS IS OF BULK AT MOST 1048576: true; the input reads as it did. -/
def segmentPromotesUptoRow : OpenClaim := { program := "ytambgjpfoceieaagreatdoor", sum := "69388666e6da408aff06bfcf21f2848b395d5694381505b8ecd94888e599f3da", func := "haystack/haystacklaw9.SegmentPromotes", spec := "segmentPromotes", unfollowed := true, recurses := true, named := ["math/bits.deBruijn64tab"], apart := false, laid := [("math/bits.deBruijn64tab", laid_math_bits_deBruijn64tab)], narrowed := true }
def SegmentPromotesUptoSaid : Prop := segmentPromotesUptoRow.holds Tryz.pinned (OpenSpec.upto segmentPromotesSpec)

/-- 'haystacklaw9.SegmentOfNothing', WHERE WHAT IT READS IS OF BULK AT MOST 1048576: true; the input reads as it did. -/
def segmentOfNothingUptoRow : OpenClaim := { program := "ytambgjpfoceieaagreatdoor", sum := "69388666e6da408aff06bfcf21f2848b395d5694381505b8ecd94888e599f3da", func := "haystack/haystacklaw9.SegmentOfNothing", spec := "segmentOfNothing", unfollowed := true, recurses := true, named := ["math/bits.deBruijn64tab", "haystack/octet.sums"], apart := false, laid := [("haystack/octet.sums", laid_haystack_octet_sums), ("math/bits.deBruijn64tab", laid_math_bits_deBruijn64tab)], narrowed := true }
def SegmentOfNothingUptoSaid : Prop := segmentOfNothingUptoRow.holds Tryz.pinned (OpenSpec.upto segmentOfNothingSpec)

/-- 'haystacklaw9.SegmentOrder', WHERE WHAT IT READS IS OF BULK AT MOST 1048576: true; the input reads as it did. -/
def segmentOrderUptoRow : OpenClaim := { program := "ytambgjpfoceieaagreatdoor", sum := "69388666e6da408aff06bfcf21f2848b395d5694381505b8ecd94888e599f3da", func := "haystack/haystacklaw9.SegmentOrder", spec := "segmentOrder", unfollowed := true, recurses := true, named := ["math/bits.deBruijn64tab", "haystack/octet.sums"], apart := false, laid := [("haystack/octet.sums", laid_haystack_octet_sums), ("math/bits.deBruijn64tab", laid_math_bits_deBruijn64tab)], narrowed := true }
def SegmentOrderUptoSaid : Prop := segmentOrderUptoRow.holds Tryz.pinned (OpenSpec.upto segmentOrderSpec)

/-- 'haystacklaw9.SegmentNewest', WHERE WHAT IT READS IS OF BULK AT MOST 1048576: true; the input reads as it did. -/
def segmentNewestUptoRow : OpenClaim := { program := "ytambgjpfoceieaagreatdoor", sum := "69388666e6da408aff06bfcf21f2848b395d5694381505b8ecd94888e599f3da", func := "haystack/haystacklaw9.SegmentNewest", spec := "segmentNewest", unfollowed := true, recurses := true, named := ["math/bits.deBruijn64tab"], apart := false, laid := [("math/bits.deBruijn64tab", laid_math_bits_deBruijn64tab)], narrowed := true }
def SegmentNewestUptoSaid : Prop := segmentNewestUptoRow.holds Tryz.pinned (OpenSpec.upto segmentNewestSpec)

end Rows
end Go.Proofs.YtambgjpfoceieaaGreatDoor
