/- Lemmas and contracts of this proof. Conditions: said at each. -/
import Init
namespace Go.Su
def gs (s:List Int) (p:Nat):Int:=s.getD p (-1)
section
variable (g:Nat→Int)
def EqK (h a b:Nat):Prop:=∀ j,j<h→g (a+j)=g (b+j)
end
section
variable {g:Nat→Int} {h h' a b c:Nat}
theorem EqK.add (e:EqK g h a b) (f:EqK g h' (a+h) (b+h)):EqK g (h+h') a b:=fun j hj=>by
 rcases Nat.lt_or_ge j h with h1 | h1
 ·exact e j h1
 ·have:=f (j-h) (by omega)
  rwa[show a+h+(j-h)=a+j by omega,show b+h+(j-h)=b+j by omega] at this
end
section
variable {s:List Int} {a b:Nat}
variable {sa:List Nat} {r:List Int} {h:Nat}
end
end Go.Su
