/-
  The law haystacklaw11.KeepApart answers true for every input and leaves its arguments as they were; its row, and its card tied to the program's text. Condition: the variables that the row lists start as the program's text lays them (the card's tie, which is given).
-/
import Derived.Test.YtoolcbaipinloaaDoorKpApartProofB
import Derived.Test.YtoolcbaipinloaaDoorCards
import Derived.Test.YtoolcbaipinloaaDoorTie
import Derived.SevenTiedAt
namespace Go.Proofs.YtoolcbaipinloaaDoor.KeepApartP
open Go Go.ChangeShapes Go.WideShapes Go.ChangeAt Go.WideMaps Go.WideElems Go.RowKit Go.Oct Go.Su Go.Dk Go.Fr
end Go.Proofs.YtoolcbaipinloaaDoor.KeepApartP
namespace Go.Proofs.YtoolcbaipinloaaDoor
#print axioms keepApart_card
end Go.Proofs.YtoolcbaipinloaaDoor
