/-
  What a set that came in keeps. Over no program. Conditions: none.
-/
import Derived.Test.YtanhnaohmaepoaaSgWords
namespace Go.Sg
open Go.RowKit Go.Oct

/-- A document that came in. -/
def DocOk (d : Dc) : Prop := d.1.length ≤ 140737488351232 ∧ d.2.length ≤ 140737488351232 ∧ ∀ x ∈ d.2, 0 ≤ x ∧ x < 256
def SetOk (s : St) : Prop := (∀ d ∈ s.1, DocOk d) ∧ ∀ k ∈ s.2, k.length ≤ 140737488351232
end Go.Sg
