/-
  No cell of these rows narrows 'for every input' (looked for: loops, veiled, ifaces, maps, wideKeys, modest, calm, conditions, laid).
  DERIVED. THE GIVEN ROWS OF THIS SEAT. 6 by the template 'for every input the law returns true; each argument reads behind the call as it read before'; 0 by the template 'total and deterministic' (their statements: YtgboobjmafdieaaTotals.lean).
  GIVEN WITH THE SEED: the statements are not yours to turn. If you find one false, say at which input.
  Laid BY PROGRAM, IN A SANDBOX (cutbox-rows.mjs): the forced cells as the released guide's own fill.sh prints them over the translation 2f465a12b3911d13… (all of the seat's roots in one cut). By AI agents, Wed Nov 11 2026. No macro, syntax, notation, axiom, sorry.
-/
import Derived.Test.YtgboobjmafdieaaChecked
import GoSem.Claim
import GoSem.ClaimJoined
import GoSem.ClaimMapViews
import Derived.JoinedTies
import Derived.KernelRfl
namespace Go.Proofs.Ytgboobjmafdieaa
/- THE CELL 'sum', in the pinned program and in every row, IS THE sha256 OF THE DUMP (.gsa) THAT YtgboobjmafdieaaProg.lean LOADS. Nothing in Lean hashes anything: it is a label: what it is worth is what the hold of that sum in a sandbox is worth. -/
noncomputable def Try.pinned : Pinned := { name := "ytgboobjmafdieaa", sum := "2f465a12b3911d13d47af760f7508cd2847c783ad40136ea88da77868c4a156a", checked := Try.checked }
namespace Rows
def none {H : Type} : Left H := { results := [], args := [] }

/-- 'haystacklaw6.BwtTurns': WHATEVER THE INPUT: true; the input reads as it did. -/
def bwtTurnsSpec : ChangeSpec := { name := "bwtTurns", fn := fun _ => fun
  | [d] => { results := [.lit (.bool true)], args := [d] }
  | _ => none }
def bwtTurnsRow : OpenClaim := { program := "ytgboobjmafdieaa", sum := "2f465a12b3911d13d47af760f7508cd2847c783ad40136ea88da77868c4a156a", func := "haystack/haystacklaw6.BwtTurns", spec := "bwtTurns", unfollowed := true, recurses := true, apart := false }
def BwtTurnsSaid : Prop := bwtTurnsRow.holds Try.pinned (OpenSpec.ofChange bwtTurnsSpec)

/-- ITS FALSE NEIGHBOUR: 'it returns false'. Refute it at one input. -/
def bwtTurnsWrong : ChangeSpec := { name := "bwtTurns", fn := fun _ => fun
  | [d] => { results := [.lit (.bool false)], args := [d] }
  | _ => none }
def BwtTurnsWrongFalsely : Prop := bwtTurnsRow.holds Try.pinned (OpenSpec.ofChange bwtTurnsWrong)

/-- 'haystacklaw6.BwtBack': WHATEVER THE INPUT: true; the input reads as it did. -/
def bwtBackSpec : ChangeSpec := { name := "bwtBack", fn := fun _ => fun
  | [d] => { results := [.lit (.bool true)], args := [d] }
  | _ => none }
def bwtBackRow : OpenClaim := { program := "ytgboobjmafdieaa", sum := "2f465a12b3911d13d47af760f7508cd2847c783ad40136ea88da77868c4a156a", func := "haystack/haystacklaw6.BwtBack", spec := "bwtBack", unfollowed := true, recurses := true, apart := false }
def BwtBackSaid : Prop := bwtBackRow.holds Try.pinned (OpenSpec.ofChange bwtBackSpec)

/-- ITS FALSE NEIGHBOUR: 'it returns false'. Refute it at one input. -/
def bwtBackWrong : ChangeSpec := { name := "bwtBack", fn := fun _ => fun
  | [d] => { results := [.lit (.bool false)], args := [d] }
  | _ => none }
def BwtBackWrongFalsely : Prop := bwtBackRow.holds Try.pinned (OpenSpec.ofChange bwtBackWrong)

/-- 'haystacklaw6.BwtRound': WHATEVER THE INPUT: true; the input reads as it did. -/
def bwtRoundSpec : ChangeSpec := { name := "bwtRound", fn := fun _ => fun
  | [d] => { results := [.lit (.bool true)], args := [d] }
  | _ => none }
def bwtRoundRow : OpenClaim := { program := "ytgboobjmafdieaa", sum := "2f465a12b3911d13d47af760f7508cd2847c783ad40136ea88da77868c4a156a", func := "haystack/haystacklaw6.BwtRound", spec := "bwtRound", unfollowed := true, recurses := true, apart := false }
def BwtRoundSaid : Prop := bwtRoundRow.holds Try.pinned (OpenSpec.ofChange bwtRoundSpec)

/-- ITS FALSE NEIGHBOUR: 'it returns false'. Refute it at one input. -/
def bwtRoundWrong : ChangeSpec := { name := "bwtRound", fn := fun _ => fun
  | [d] => { results := [.lit (.bool false)], args := [d] }
  | _ => none }
def BwtRoundWrongFalsely : Prop := bwtRoundRow.holds Try.pinned (OpenSpec.ofChange bwtRoundWrong)

/-- 'haystacklaw6.BwtCounts': WHATEVER THE INPUT: true; the input reads as it did. -/
def bwtCountsSpec : ChangeSpec := { name := "bwtCounts", fn := fun _ => fun
  | [d1, d2] => { results := [.lit (.bool true)], args := [d1, d2] }
  | _ => none }
def bwtCountsRow : OpenClaim := { program := "ytgboobjmafdieaa", sum := "2f465a12b3911d13d47af760f7508cd2847c783ad40136ea88da77868c4a156a", func := "haystack/haystacklaw6.BwtCounts", spec := "bwtCounts", unfollowed := true, recurses := true, apart := false }
def BwtCountsSaid : Prop := bwtCountsRow.holds Try.pinned (OpenSpec.ofChange bwtCountsSpec)

/-- ITS FALSE NEIGHBOUR: 'it returns false'. Refute it at one input. -/
def bwtCountsWrong : ChangeSpec := { name := "bwtCounts", fn := fun _ => fun
  | [d1, d2] => { results := [.lit (.bool false)], args := [d1, d2] }
  | _ => none }
def BwtCountsWrongFalsely : Prop := bwtCountsRow.holds Try.pinned (OpenSpec.ofChange bwtCountsWrong)

/-- 'haystacklaw6.BwtAlike': WHATEVER THE INPUT: true; the input reads as it did. -/
def bwtAlikeSpec : ChangeSpec := { name := "bwtAlike", fn := fun _ => fun
  | [d1, d2] => { results := [.lit (.bool true)], args := [d1, d2] }
  | _ => none }
def bwtAlikeRow : OpenClaim := { program := "ytgboobjmafdieaa", sum := "2f465a12b3911d13d47af760f7508cd2847c783ad40136ea88da77868c4a156a", func := "haystack/haystacklaw6.BwtAlike", spec := "bwtAlike", unfollowed := true, recurses := true, apart := false }
def BwtAlikeSaid : Prop := bwtAlikeRow.holds Try.pinned (OpenSpec.ofChange bwtAlikeSpec)

/-- ITS FALSE NEIGHBOUR: 'it returns false'. Refute it at one input. -/
def bwtAlikeWrong : ChangeSpec := { name := "bwtAlike", fn := fun _ => fun
  | [d1, d2] => { results := [.lit (.bool false)], args := [d1, d2] }
  | _ => none }
def BwtAlikeWrongFalsely : Prop := bwtAlikeRow.holds Try.pinned (OpenSpec.ofChange bwtAlikeWrong)

/-- 'haystacklaw6.BwtMoved': WHATEVER THE INPUT: true; the input reads as it did. -/
def bwtMovedSpec : ChangeSpec := { name := "bwtMoved", fn := fun _ => fun
  | [d1, d2] => { results := [.lit (.bool true)], args := [d1, d2] }
  | _ => none }
def bwtMovedRow : OpenClaim := { program := "ytgboobjmafdieaa", sum := "2f465a12b3911d13d47af760f7508cd2847c783ad40136ea88da77868c4a156a", func := "haystack/haystacklaw6.BwtMoved", spec := "bwtMoved", unfollowed := true, recurses := true, apart := false }
def BwtMovedSaid : Prop := bwtMovedRow.holds Try.pinned (OpenSpec.ofChange bwtMovedSpec)

/-- ITS FALSE NEIGHBOUR: 'it returns false'. Refute it at one input. -/
def bwtMovedWrong : ChangeSpec := { name := "bwtMoved", fn := fun _ => fun
  | [d1, d2] => { results := [.lit (.bool false)], args := [d1, d2] }
  | _ => none }
def BwtMovedWrongFalsely : Prop := bwtMovedRow.holds Try.pinned (OpenSpec.ofChange bwtMovedWrong)

/- THE SECOND FORM. 'bulk': how many values and letters a reading holds, each counted each time it is reached (what is shared counts as often as it is met; a slice's spare places count too). A statement '..UptoSaid' is the law's where the arguments, and the package variables that the reading takes, are together of bulk at most 1048576: NARROWER than '..Said'. Prove '..Said' where nothing that the law and all that it calls make is longer than what came in: it says more and counts as full. Else prove '..UptoSaid'. A law counts once. -/
mutual
def uptoBulk {H : Type} : DataW H → Nat
  | .lit (.string bytes) => bytes.length + 1
  | .lit _ => 1
  | .nil => 1
  | .ptr d => uptoBulk d + 1
  | .slice elems spare => uptoBulkAll elems + uptoBulkAll spare + 1
  | .agg parts => uptoBulkAll parts + 1
  | .iface _ d => uptoBulk d + 1
  | .map entries => uptoBulkEntries entries + 1
  | .held _ => 1
def uptoBulkAll {H : Type} : List (DataW H) → Nat
  | [] => 0
  | d :: r => uptoBulk d + uptoBulkAll r
def uptoBulkEntries {H : Type} : List (Lit × DataW H) → Nat
  | [] => 0
  | x :: r => uptoBulkEntry x + uptoBulkEntries r
def uptoBulkEntry {H : Type} : Lit × DataW H → Nat
  | (.string bytes, d) => bytes.length + uptoBulk d + 1
  | (_, d) => uptoBulk d + 1
 end
def uptoSmall : (H : Type) → List (DataW H) → Bool := fun _ ds => decide (uptoBulkAll ds ≤ 1048576)
def OpenSpec.upto (s : _root_.Go.ChangeSpec) : _root_.Go.OpenSpec := { _root_.Go.OpenSpec.ofChange s with cond := some uptoSmall }

/-- 'haystacklaw6.BwtTurns', WHERE WHAT IT READS IS OF BULK AT MOST 1048576: true; the input reads as it did. -/
def bwtTurnsUptoRow : OpenClaim := { program := "ytgboobjmafdieaa", sum := "2f465a12b3911d13d47af760f7508cd2847c783ad40136ea88da77868c4a156a", func := "haystack/haystacklaw6.BwtTurns", spec := "bwtTurns", unfollowed := true, recurses := true, apart := false, narrowed := true }
def BwtTurnsUptoSaid : Prop := bwtTurnsUptoRow.holds Try.pinned (OpenSpec.upto bwtTurnsSpec)

/-- 'haystacklaw6.BwtBack', WHERE WHAT IT READS IS OF BULK AT MOST 1048576: true; the input reads as it did. -/
def bwtBackUptoRow : OpenClaim := { program := "ytgboobjmafdieaa", sum := "2f465a12b3911d13d47af760f7508cd2847c783ad40136ea88da77868c4a156a", func := "haystack/haystacklaw6.BwtBack", spec := "bwtBack", unfollowed := true, recurses := true, apart := false, narrowed := true }
def BwtBackUptoSaid : Prop := bwtBackUptoRow.holds Try.pinned (OpenSpec.upto bwtBackSpec)

/-- 'haystacklaw6.BwtRound', WHERE WHAT IT READS IS OF BULK AT MOST 1048576: true; the input reads as it did. -/
def bwtRoundUptoRow : OpenClaim := { program := "ytgboobjmafdieaa", sum := "2f465a12b3911d13d47af760f7508cd2847c783ad40136ea88da77868c4a156a", func := "haystack/haystacklaw6.BwtRound", spec := "bwtRound", unfollowed := true, recurses := true, apart := false, narrowed := true }
def BwtRoundUptoSaid : Prop := bwtRoundUptoRow.holds Try.pinned (OpenSpec.upto bwtRoundSpec)

/-- 'haystacklaw6.BwtCounts', WHERE WHAT IT READS IS OF BULK AT MOST 1048576: true; the input reads as it did. -/
def bwtCountsUptoRow : OpenClaim := { program := "ytgboobjmafdieaa", sum := "2f465a12b3911d13d47af760f7508cd2847c783ad40136ea88da77868c4a156a", func := "haystack/haystacklaw6.BwtCounts", spec := "bwtCounts", unfollowed := true, recurses := true, apart := false, narrowed := true }
def BwtCountsUptoSaid : Prop := bwtCountsUptoRow.holds Try.pinned (OpenSpec.upto bwtCountsSpec)

/-- 'haystacklaw6.BwtAlike', WHERE WHAT IT READS IS OF BULK AT MOST 1048576: true; the input reads as it did. -/
def bwtAlikeUptoRow : OpenClaim := { program := "ytgboobjmafdieaa", sum := "2f465a12b3911d13d47af760f7508cd2847c783ad40136ea88da77868c4a156a", func := "haystack/haystacklaw6.BwtAlike", spec := "bwtAlike", unfollowed := true, recurses := true, apart := false, narrowed := true }
def BwtAlikeUptoSaid : Prop := bwtAlikeUptoRow.holds Try.pinned (OpenSpec.upto bwtAlikeSpec)

/-- 'haystacklaw6.BwtMoved', WHERE WHAT IT READS IS OF BULK AT MOST 1048576: true; the input reads as it did. -/
def bwtMovedUptoRow : OpenClaim := { program := "ytgboobjmafdieaa", sum := "2f465a12b3911d13d47af760f7508cd2847c783ad40136ea88da77868c4a156a", func := "haystack/haystacklaw6.BwtMoved", spec := "bwtMoved", unfollowed := true, recurses := true, apart := false, narrowed := true }
def BwtMovedUptoSaid : Prop := bwtMovedUptoRow.holds Try.pinned (OpenSpec.upto bwtMovedSpec)

end Rows
end Go.Proofs.Ytgboobjmafdieaa
