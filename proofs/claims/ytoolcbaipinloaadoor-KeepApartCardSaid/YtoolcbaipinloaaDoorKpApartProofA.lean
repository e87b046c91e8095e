/- Lemmas and contracts of this proof. Conditions: said at each. -/
import Derived.Test.YtoolcbaipinloaaDoorGKpOpen
import Derived.Test.YtoolcbaipinloaaDoorMKpApart
import Derived.Carry
namespace Go.Proofs.YtoolcbaipinloaaDoor.KeepApartP
open Go Go.ChangeShapes Go.WideShapes Go.ChangeAt Go.WideMaps Go.WideElems Go.RowKit Go.Oct Go.Su Go.Dk Go.Fr
end Go.Proofs.YtoolcbaipinloaaDoor.KeepApartP
