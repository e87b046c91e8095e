/- Lemmas and contracts of this proof. Conditions: said at each. -/
import Derived.Test.YtambgjpfoceieaaGreatDoorGOcWords
import Derived.Deep.Slices
import Derived.Deep.Strs
import Derived.Lib.SmallJoins
import Derived.SizedLaws
namespace Go.Wa
open Go.ChangeShapes Go.WideShapes Go.ChangeAt Go.WideMaps Go.WideElems Go.RowKit Go.Deep Go.Oct Go.Joins
section
variable {H:Type} {enc:TypeId×Value→H} {P:Program}
theorem slice_sized {W:World} {ts:List TypeId} {ds:List (DataW H)} (hsz:(DataW.weightsEach P ts ds).all (·≤reachBytes)=true) {j:Nat} {t e:TypeId} {d:DataW H} (htj:ts[j]? = some t) (hdj:ds[j]? = some d) (ht:P.underlying t=some (.slice e))
  {A:Option Addr} {n c:Nat} {p:List MemPlace} (h:DataW.Trod enc P W 0 (fun _=>true) true t (.slice A n c) d p):n*P.bytesOf e≤140737488351232:=by
 obtain⟨fuel,hf⟩:=h
 rcases open_slice ht hf with ⟨hcs,_⟩ | ⟨a,len,cap,m,q,D,Pl,hcs,_,_,_,_,hx,_⟩
 ·simp[Value.cells] at hcs
  obtain⟨_,rfl,_⟩:=hcs
  omega
 ·simp[Value.cells] at hcs
  obtain⟨_,rfl,_⟩:=hcs
  simp only[Prod.mk.injEq] at hx
  rw[hx.1] at hdj
  have h1:=sized_slice hsz htj hdj ht
  rw[List.length_map,List.length_range] at h1
  have h2:n*P.bytesOf e≤(n+((List.range (m-n)).map fun j=>D (n+j)).length)*P.bytesOf e:=Nat.mul_le_mul_right _ (Nat.le_add_right _ _)
  exact Nat.le_trans h2 (by simpa[reachBytes] using h1)
end
end Go.Wa
