/-
  No cell of these rows narrows 'for every input' (looked for: loops, veiled, ifaces, maps, wideKeys, modest, calm, conditions, laid).
  DERIVED. THE GIVEN ROWS OF THIS SEAT. 5 by the template 'for every input the law returns true; each argument reads behind the call as it read before'; 0 by the template 'total and deterministic' (their statements: YtanhnaohmaepoaaTotals.lean).
  GIVEN WITH THE SEED: the statements are not yours to turn. If you find one false, say at which input.
  Laid BY PROGRAM, IN A SANDBOX (cutbox-rows.mjs): the forced cells as the released guide's own fill.sh prints them over the translation b1ebd0a3f4d59543… (all of the seat's roots in one cut). By AI agents, Wed Nov 11 2026. No macro, syntax, notation, axiom, sorry.
-/
import Derived.Test.YtanhnaohmaepoaaChecked
import GoSem.Claim
import GoSem.ClaimJoined
import GoSem.ClaimMapViews
import Derived.JoinedTies
import Derived.KernelRfl
namespace Go.Proofs.Ytanhnaohmaepoaa
/- THE CELL 'sum', in the pinned program and in every row, IS THE sha256 OF THE DUMP (.gsa) THAT YtanhnaohmaepoaaProg.lean LOADS. Nothing in Lean hashes anything: it is a label: what it is worth is what the hold of that sum in a sandbox is worth. -/
noncomputable def Try.pinned : Pinned := { name := "ytanhnaohmaepoaa", sum := "b1ebd0a3f4d59543184d5ffc14c508e003217f7d31fcd6e958b33de1c23631b6", checked := Try.checked }
namespace Rows
def none {H : Type} : Left H := { results := [], args := [] }

/-- 'haystacklaw13.OpEncodes': WHATEVER THE INPUT: true; the input reads as it did. -/
def opEncodesSpec : ChangeSpec := { name := "opEncodes", fn := fun _ => fun
  | [d] => { results := [.lit (.bool true)], args := [d] }
  | _ => none }
def opEncodesRow : OpenClaim := { program := "ytanhnaohmaepoaa", sum := "b1ebd0a3f4d59543184d5ffc14c508e003217f7d31fcd6e958b33de1c23631b6", func := "haystack/haystacklaw13.OpEncodes", spec := "opEncodes", apart := false }
def OpEncodesSaid : Prop := opEncodesRow.holds Try.pinned (OpenSpec.ofChange opEncodesSpec)

/-- ITS FALSE NEIGHBOUR: 'it returns false'. Refute it at one input. -/
def opEncodesWrong : ChangeSpec := { name := "opEncodes", fn := fun _ => fun
  | [d] => { results := [.lit (.bool false)], args := [d] }
  | _ => none }
def OpEncodesWrongFalsely : Prop := opEncodesRow.holds Try.pinned (OpenSpec.ofChange opEncodesWrong)

/-- 'haystacklaw13.OpDecodes': WHATEVER THE INPUT: true; the input reads as it did. -/
def opDecodesSpec : ChangeSpec := { name := "opDecodes", fn := fun _ => fun
  | [d] => { results := [.lit (.bool true)], args := [d] }
  | _ => none }
def opDecodesRow : OpenClaim := { program := "ytanhnaohmaepoaa", sum := "b1ebd0a3f4d59543184d5ffc14c508e003217f7d31fcd6e958b33de1c23631b6", func := "haystack/haystacklaw13.OpDecodes", spec := "opDecodes", apart := false }
def OpDecodesSaid : Prop := opDecodesRow.holds Try.pinned (OpenSpec.ofChange opDecodesSpec)

/-- ITS FALSE NEIGHBOUR: 'it returns false'. Refute it at one input. -/
def opDecodesWrong : ChangeSpec := { name := "opDecodes", fn := fun _ => fun
  | [d] => { results := [.lit (.bool false)], args := [d] }
  | _ => none }
def OpDecodesWrongFalsely : Prop := opDecodesRow.holds Try.pinned (OpenSpec.ofChange opDecodesWrong)

/-- 'haystacklaw13.OpReplies': WHATEVER THE INPUT: true; the input reads as it did. -/
def opRepliesSpec : ChangeSpec := { name := "opReplies", fn := fun _ => fun
  | [d1, d2] => { results := [.lit (.bool true)], args := [d1, d2] }
  | _ => none }
def opRepliesRow : OpenClaim := { program := "ytanhnaohmaepoaa", sum := "b1ebd0a3f4d59543184d5ffc14c508e003217f7d31fcd6e958b33de1c23631b6", func := "haystack/haystacklaw13.OpReplies", spec := "opReplies", apart := false }
def OpRepliesSaid : Prop := opRepliesRow.holds Try.pinned (OpenSpec.ofChange opRepliesSpec)

/-- ITS FALSE NEIGHBOUR: 'it returns false'. Refute it at one input. -/
def opRepliesWrong : ChangeSpec := { name := "opReplies", fn := fun _ => fun
  | [d1, d2] => { results := [.lit (.bool false)], args := [d1, d2] }
  | _ => none }
def OpRepliesWrongFalsely : Prop := opRepliesRow.holds Try.pinned (OpenSpec.ofChange opRepliesWrong)

/-- 'haystacklaw13.OpMatches': WHATEVER THE INPUT: true; the input reads as it did. -/
def opMatchesSpec : ChangeSpec := { name := "opMatches", fn := fun _ => fun
  | [d] => { results := [.lit (.bool true)], args := [d] }
  | _ => none }
def opMatchesRow : OpenClaim := { program := "ytanhnaohmaepoaa", sum := "b1ebd0a3f4d59543184d5ffc14c508e003217f7d31fcd6e958b33de1c23631b6", func := "haystack/haystacklaw13.OpMatches", spec := "opMatches", apart := false }
def OpMatchesSaid : Prop := opMatchesRow.holds Try.pinned (OpenSpec.ofChange opMatchesSpec)

/-- ITS FALSE NEIGHBOUR: 'it returns false'. Refute it at one input. -/
def opMatchesWrong : ChangeSpec := { name := "opMatches", fn := fun _ => fun
  | [d] => { results := [.lit (.bool false)], args := [d] }
  | _ => none }
def OpMatchesWrongFalsely : Prop := opMatchesRow.holds Try.pinned (OpenSpec.ofChange opMatchesWrong)

/-- 'haystacklaw13.OpOne': WHATEVER THE INPUT: true; the input reads as it did. -/
def opOneSpec : ChangeSpec := { name := "opOne", fn := fun _ => fun
  | [d1, d2] => { results := [.lit (.bool true)], args := [d1, d2] }
  | _ => none }
def opOneRow : OpenClaim := { program := "ytanhnaohmaepoaa", sum := "b1ebd0a3f4d59543184d5ffc14c508e003217f7d31fcd6e958b33de1c23631b6", func := "haystack/haystacklaw13.OpOne", spec := "opOne", apart := false }
def OpOneSaid : Prop := opOneRow.holds Try.pinned (OpenSpec.ofChange opOneSpec)

/-- ITS FALSE NEIGHBOUR: 'it returns false'. Refute it at one input. -/
def opOneWrong : ChangeSpec := { name := "opOne", fn := fun _ => fun
  | [d1, d2] => { results := [.lit (.bool false)], args := [d1, d2] }
  | _ => none }
def OpOneWrongFalsely : Prop := opOneRow.holds Try.pinned (OpenSpec.ofChange opOneWrong)

/- THE SECOND FORM. 'bulk': how many values and letters a reading holds, each counted each time it is reached (what is shared counts as often as it is met; a slice's spare places count too). A statement '..UptoSaid' is the law's where the arguments, and the package variables that the reading takes, are together of bulk at most 1048576: NARROWER than '..Said'. Prove '..Said' where nothing that the law and all that it calls make is longer than what came in: it says more and counts as full. Else prove '..UptoSaid'. A law counts once. -/
mutual
def uptoBulk {H : Type} : DataW H → Nat
  | .lit (.string bytes) => bytes.length + 1
  | .lit _ => 1
  | .nil => 1
  | .ptr d => uptoBulk d + 1
  | .slice elems spare => uptoBulkAll elems + uptoBulkAll spare + 1
  | .agg parts => uptoBulkAll parts + 1
  | .iface _ d => uptoBulk d + 1
  | .map entries => uptoBulkEntries entries + 1
  | .held _ => 1
def uptoBulkAll {H : Type} : List (DataW H) → Nat
  | [] => 0
  | d :: r => uptoBulk d + uptoBulkAll r
def uptoBulkEntries {H : Type} : List (Lit × DataW H) → Nat
  | [] => 0
  | x :: r => uptoBulkEntry x + uptoBulkEntries r
def uptoBulkEntry {H : Type} : Lit × DataW H → Nat
  | (.string bytes, d) => bytes.length + uptoBulk d + 1
  | (_, d) => uptoBulk d + 1
 end
def uptoSmall : (H : Type) → List (DataW H) → Bool := fun _ ds => decide (uptoBulkAll ds ≤ 1048576)
def OpenSpec.upto (s : _root_.Go.ChangeSpec) : _root_.Go.OpenSpec := { _root_.Go.OpenSpec.ofChange s with cond := some uptoSmall }

/-- 'haystacklaw13.OpEncodes', WHERE WHAT IT READS IS OF BULK AT MOST 1048576: true; the input reads as it did. -/
def opEncodesUptoRow : OpenClaim := { program := "ytanhnaohmaepoaa", sum := "b1ebd0a3f4d59543184d5ffc14c508e003217f7d31fcd6e958b33de1c23631b6", func := "haystack/haystacklaw13.OpEncodes", spec := "opEncodes", apart := false, narrowed := true }
def OpEncodesUptoSaid : Prop := opEncodesUptoRow.holds Try.pinned (OpenSpec.upto opEncodesSpec)

/-- 'haystacklaw13.OpDecodes', WHERE WHAT IT READS IS OF BULK AT MOST 1048576: true; the input reads as it did. -/
def opDecodesUptoRow : OpenClaim := { program := "ytanhnaohmaepoaa", sum := "b1ebd0a3f4d59543184d5ffc14c508e003217f7d31fcd6e958b33de1c23631b6", func := "haystack/haystacklaw13.OpDecodes", spec := "opDecodes", apart := false, narrowed := true }
def OpDecodesUptoSaid : Prop := opDecodesUptoRow.holds Try.pinned (OpenSpec.upto opDecodesSpec)

/-- 'haystacklaw13.OpReplies', WHERE WHAT IT READS IS OF BULK AT MOST 1048576: true; the input reads as it did. -/
def opRepliesUptoRow : OpenClaim := { program := "ytanhnaohmaepoaa", sum := "b1ebd0a3f4d59543184d5ffc14c508e003217f7d31fcd6e958b33de1c23631b6", func := "haystack/haystacklaw13.OpReplies", spec := "opReplies", apart := false, narrowed := true }
def OpRepliesUptoSaid : Prop := opRepliesUptoRow.holds Try.pinned (OpenSpec.upto opRepliesSpec)

/-- 'haystacklaw13.OpMatches', WHERE WHAT IT READS IS OF BULK AT MOST 1048576: true; the input reads as it did. -/
def opMatchesUptoRow : OpenClaim := { program := "ytanhnaohmaepoaa", sum := "b1ebd0a3f4d59543184d5ffc14c508e003217f7d31fcd6e958b33de1c23631b6", func := "haystack/haystacklaw13.OpMatches", spec := "opMatches", apart := false, narrowed := true }
def OpMatchesUptoSaid : Prop := opMatchesUptoRow.holds Try.pinned (OpenSpec.upto opMatchesSpec)

/-- 'haystacklaw13.OpOne', WHERE WHAT IT READS IS OF BULK AT MOST 1048576: true; the input reads as it did. -/
def opOneUptoRow : OpenClaim := { program := "ytanhnaohmaepoaa", sum := "b1ebd0a3f4d59543184d5ffc14c508e003217f7d31fcd6e958b33de1c23631b6", func := "haystack/haystacklaw13.OpOne", spec := "opOne", apart := false, narrowed := true }
def OpOneUptoSaid : Prop := opOneUptoRow.holds Try.pinned (OpenSpec.upto opOneSpec)

end Rows
end Go.Proofs.Ytanhnaohmaepoaa
