/- Lemmas and contracts of this proof. Conditions: said at each. -/
import Derived.Test.YtambgjpfoceieaaGreatDoorGFxIx
import Derived.Test.YtambgjpfoceieaaGreatDoorGSgSort
namespace Go.Proofs.YtambgjpfoceieaaGreatDoor
open Go.RowKit Go.Oct Go.Su Go.Sg
structure Sp0 (w:World) (F:Nat→Prop) (b x:Nat) (A:Option Addr) (n c:Nat) (B:Option Addr) (m d:Nat) (ds:List Dc) (gs:List Key):Prop where
 c0:w.cell? ⟨b,0,none⟩=some (.pointer (some ⟨x,0,none⟩))
 c1:w.cell? ⟨b,1,none⟩=some (.slice A n c)
 c2:w.cell? ⟨b,2,none⟩=some (.slice B m d)
 ix:X.Ix w F x (ts ds)
 keys:Kss w F A n (ks ds)
 gone:Kss w F B m gs
 nc:n≤c
 cm:c≤maxLen
 md:m≤d
 dm:d≤maxLen
 at_:F b
def Sp (w:World) (F:Nat→Prop) (b:Nat) (ds:List Dc) (gs:List Key):Prop:=∃ (x:Nat) (A:Option Addr) (n c:Nat) (B:Option Addr) (m d:Nat),Sp0 w F b x A n c B m d ds gs
section
variable {w w':World} {F G S:Nat→Prop} {b x n c m d:Nat} {A B:Option Addr} {ds:List Dc} {gs:List Key}
theorem Sp0.chS (h:Sp0 w F b x A n c B m d ds gs) (hc:Ch S w w') (hF:∀ k,F k→k<w.heap.size→¬ S k) (hS:¬ S 1):Sp0 w' F b x A n c B m d ds gs :=
 have hb:=hF b h.at_ (lt_of_cell h.c0)
 ⟨hc.cell hb h.c0,hc.cell hb h.c1,hc.cell hb h.c2,h.ix.chS hc hF hS,h.keys.ch hc hF,h.gone.ch hc hF,h.nc,h.cm,h.md,h.dm,h.at_⟩
theorem Sp0.keep (h:Sp0 w F b x A n c B m d ds gs) (hc:Ch (fun _=>False) w w'):Sp0 w' F b x A n c B m d ds gs:=h.chS hc (fun _ _ _ h=>h) (fun h=>h)
theorem Sp0.mono (h:Sp0 w F b x A n c B m d ds gs) (hF:∀ k,k<w.heap.size→F k→G k):Sp0 w G b x A n c B m d ds gs :=
 ⟨h.c0,h.c1,h.c2,h.ix.mono hF,h.keys.mono hF,h.gone.mono hF,h.nc,h.cm,h.md,h.dm,hF b (lt_of_cell h.c0) h.at_⟩
theorem Sp0.len (h:Sp0 w F b x A n c B m d ds gs):ds.length=n∧gs.length=m:=⟨by rw[←ks_len]; exact h.keys.len,h.gone.len⟩
theorem Sp.chS (h:Sp w F b ds gs) (hc:Ch S w w') (hF:∀ k,F k→k<w.heap.size→¬ S k) (hS:¬ S 1):Sp w' F b ds gs:=by
 obtain⟨x,A,n,c,B,m,d,h⟩:=h
 exact⟨x,A,n,c,B,m,d,h.chS hc hF hS⟩
theorem Sp.keep (h:Sp w F b ds gs) (hc:Ch (fun _=>False) w w'):Sp w' F b ds gs:=h.chS hc (fun _ _ _ h=>h) (fun h=>h)
theorem Sp.mono (h:Sp w F b ds gs) (hF:∀ k,k<w.heap.size→F k→G k):Sp w G b ds gs:=by
 obtain⟨x,A,n,c,B,m,d,h⟩:=h
 exact⟨x,A,n,c,B,m,d,h.mono hF⟩
end
end Go.Proofs.YtambgjpfoceieaaGreatDoor
