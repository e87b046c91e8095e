/- Lemmas and contracts of this proof. Conditions: said at each. -/
import Derived.Test.YtoolcbaipinloaaDoorKpOfNothingProofA
namespace Go.Proofs.YtoolcbaipinloaaDoor.KeepOfNothingP
open Go Go.ChangeShapes Go.WideShapes Go.ChangeAt Go.WideMaps Go.WideElems Go.RowKit Go.Oct Go.Su Go.Dk Go.Fr
end Go.Proofs.YtoolcbaipinloaaDoor.KeepOfNothingP
