/- Lemmas and contracts of this proof. Conditions: said at each. -/
import Derived.Test.YtoolcbaipinloaaDoorQDkMap
import Derived.Test.YtoolcbaipinloaaDoorQGSuRow
import Derived.Laws.OwnMore
import Derived.Sort.Row
import Derived.Lib.Strings
import Derived.Shelf.Abstract
import Derived.StillTailTactics
set_option maxHeartbeats 4000000
set_option maxRecDepth 100000
namespace Go.Proofs.YtoolcbaipinloaaDoor
section
open Go.RowKit Go.Oct Go.Su Go.Dk Go.Maps
inductive Tg where
 | no | dk | mp
 | fl (k:Key)
 | rw (k:Key)
theorem mapLaw:Keyed Tryd.prog 9 := string_keyed Tryd.underlying9
theorem mapT : Tryd.prog.underlying 57 = some (.map 9 73) := Tryd.underlying57
theorem zeroF (w:World):(zeroValue 73).run Tryd.prog w = .ok (.pointer none) w:=by kernel_rfl
theorem key_of {k:Key} (h:k.length≤maxLen):keyOf Tryd.prog 9 (kv k)=some (.string k):=by
 unfold kv
 have:=Go.WideMaps.keyOf_string_mk (P := Tryd.prog) Tryd.underlying9 (s:=⟨k.toArray⟩) (by rw[key_size]; exact h)
 rwa[key_list] at this
structure Fil (w:World) (g:Nat→Tg) (a:Nat) (x:Fl):Prop where
 tag:g a = .fl x.nm
 zf:∀ j,w.frozen? ⟨a,j,none⟩=false
 row:∃ v,w.cell? ⟨a,0,none⟩=some v∧w.cell? ⟨a,1,none⟩=some (.int .i64 (x.la:Int))∧w.ownsRow 0 5 1 v x.bs.length (x.bs.map (Value.int .u8))∧∀ r,v.ownBlock=some r→g r = .rw x.nm
section
variable {w w':World} {g g':Nat→Tg} {a d:Nat} {x y:Fl} {S T:Nat→Prop} {mb:Option Nat} {ad:Key→Nat} {s:Ds}
theorem Fil.lt (h:Fil w g a x):a<w.heap.size:=by
 obtain⟨v,c0,_⟩:=h.row
 exact lt_of_cell c0
theorem Fil.ch (h:Fil w g a x) (hc:Ch S w w') (hS:∀ b,g b = .fl x.nm∨g b = .rw x.nm→¬ S b):Fil w' g a x:=by
 obtain⟨v,c0,c1,ho,hr⟩:=h.row
 have ha:¬ S a:=hS a (.inl h.tag)
 exact⟨h.tag,fun j=>by rw[hc.frozen (p:=⟨a,j,none⟩) ha h.lt]; exact h.zf j,v,hc.cell (p:=⟨a,0,none⟩) ha c0,hc.cell (p:=⟨a,1,none⟩) ha c1,hc.own ho (fun r hv=>hS r (.inr (hr r hv))),hr⟩
theorem Fil.tags (h:Fil w g a x) (ht:∀ b,g b = .fl x.nm∨g b = .rw x.nm→g' b=g b):Fil w g' a x:=by
 obtain⟨v,c0,c1,ho,hr⟩:=h.row
 exact⟨by rw[ht a (.inl h.tag)]; exact h.tag,h.zf,v,c0,c1,ho,fun r hv=>by rw[ht r (.inr (hr r hv))]; exact hr r hv⟩
def FuseIs:Option Nat→Bool→Int→Prop
 | none,fz,_=>fz=false
 | some n,fz,lf=>fz=true∧lf=n∧n≤9223372036854775807
structure Dsk (w:World) (g:Nat→Tg) (d:Nat) (mb:Option Nat) (ad:Key→Nat) (s:Ds):Prop where
 ok:DsOk s
 lt:∀ b,g b ≠ .no→b<w.heap.size
 tag:g d = .dk
 zf:∀ j,w.frozen? ⟨d,j,none⟩=false
 c0:w.cell? ⟨d,0,none⟩=some (.map mb)
 c1:w.cell? ⟨d,1,none⟩=some (.int .i64 (s.room:Int))
 c2:w.cell? ⟨d,2,none⟩=some (.int .i64 (used s.fs:Int))
 fuse:∃ fz lf,w.cell? ⟨d,3,none⟩=some (.bool fz)∧w.cell? ⟨d,4,none⟩=some (.int .i64 lf)∧FuseIs s.left fz lf
 none_:mb=none→s.fs=[]
 some_:∀ b,mb=some b→g b = .mp∧w.ownsMap Tryd.prog 9 heldR b s.fs.length (mapD s.fs ad)
 files:∀ x∈s.fs,Fil w g (ad x.nm) x
def Pd (w:World) (S:Nat→Prop) (d:Nat) (s:Ds):Prop:=(∃ g mb ad,Dsk w g d mb ad s∧∀ b,g b ≠ .no→S b)∧∀ b,S b→b<w.heap.size
theorem own_map_ch {kt:TypeId} {b n:Nat} {D:DataW Value} {P:Program} (h:w.ownsMap P kt heldR b n D) (hc:Ch S w w') (hb:¬ S b):w'.ownsMap P kt heldR b n D:=by
 have hl:=h.lt
 obtain⟨es,c,hh,r⟩:=h
 exact⟨es,c,(hc.block b hl hb).trans hh,r⟩
theorem Dsk.ch (h:Dsk w g d mb ad s) (hc:Ch S w w') (hS:∀ b,g b ≠ .no→¬ S b):Dsk w' g d mb ad s:=by
 have hd:¬ S d:=hS d (by rw[h.tag]; exact fun e=>by cases e)
 have hl:d<w.heap.size:=lt_of_cell h.c0
 obtain⟨fz,lf,f3,f4,hf⟩:=h.fuse
 exact⟨h.ok,fun b hb=>Nat.lt_of_lt_of_le (h.lt b hb) hc.size,h.tag,fun j=>by rw[hc.frozen (p:=⟨d,j,none⟩) hd hl]; exact h.zf j,hc.cell (p:=⟨d,0,none⟩) hd h.c0,hc.cell (p:=⟨d,1,none⟩) hd h.c1,hc.cell (p:=⟨d,2,none⟩) hd h.c2,
  ⟨fz,lf,hc.cell (p:=⟨d,3,none⟩) hd f3,hc.cell (p:=⟨d,4,none⟩) hd f4,hf⟩,h.none_,fun b hb=>by
   obtain⟨h1,h2⟩:=h.some_ b hb
   exact⟨h1,own_map_ch h2 hc (hS b (by rw[h1]; exact fun e=>by cases e))⟩,fun x hx=>(h.files x hx).ch hc fun b hb=>hS b (by rcases hb with e | e <;> rw[e] <;> exact fun e=>by cases e)⟩
theorem Dsk.keep (h:Dsk w g d mb ad s) (hc:Ch (fun _=>False) w w'):Dsk w' g d mb ad s:=h.ch hc (fun _ _ h=>h)
structure Dgo (w:World) (g:Nat→Tg) (w':World) (g':Nat→Tg):Prop where
 ch:Ch (fun b=>g b ≠ .no) w w'
 new:∀ b,g' b ≠ .no→g b ≠ .no∨w.heap.size≤b
theorem Dgo.refl (w:World) (g:Nat→Tg):Dgo w g w g:=⟨Ch.refl _ _,fun _ h => .inl h⟩
theorem Dgo.quiet (hc:Ch (fun _=>False) w w'):Dgo w g w' g:=⟨hc.mono (fun _ _ h=>h.elim),fun _ h => .inl h⟩
theorem Dgo.trans {w2:World} {g2:Nat→Tg} (h:Dgo w g w' g') (k:Dgo w' g' w2 g2):Dgo w g w2 g2 :=
 ⟨h.ch.trans k.ch fun i hi hs=>by
  rcases h.new i hs with h1 | h1
  ·exact h1
  ·omega,fun b hb=>by
  rcases k.new b hb with h1 | h1
  ·exact h.new b h1
  ·exact .inr (Nat.le_trans h.ch.size h1)⟩
theorem Dsk.pd (h:Dsk w g d mb ad s):Pd w (fun b=>g b ≠ .no) d s:=⟨⟨g,mb,ad,h,fun _ h=>h⟩,h.lt⟩
theorem Pd.open_ (h:Pd w S d s):∃ g mb ad,Dsk w g d mb ad s∧∀ b,g b ≠ .no→S b:=h.1
def Kss (w:World) (F:Nat→Prop) (A:Option Addr) (n:Nat) (l:List Key):Prop:=Vs w F A n (l.map kv)
theorem Kss.len {F:Nat→Prop} {A:Option Addr} {n:Nat} {l:List Key} (h:Kss w F A n l):l.length=n:=by simpa using h.1
theorem Kss.ch {F:Nat→Prop} {A:Option Addr} {n:Nat} {l:List Key} (h:Kss w F A n l) (hc:Ch S w w') (hF:∀ b,F b→b<w.heap.size→¬ S b):Kss w' F A n l:=Vs.ch h hc hF
theorem Kss.mono {F G:Nat→Prop} {A:Option Addr} {n:Nat} {l:List Key} (h:Kss w F A n l) (hF:∀ b,b<w.heap.size→F b→G b):Kss w G A n l:=Vs.mono h hF
theorem Kss.at_ {F:Nat→Prop} {A:Option Addr} {n:Nat} {l:List Key} (h:Kss w F A n l) {j:Nat} (hj:j<n):∃ b off k,A=some ⟨b,off,none⟩∧F b∧Hid (l[j]? = some k)∧w.cell? ⟨b,off+j,none⟩=some (kv k):=by
 obtain⟨b,off,u,e,hb,hu,hc⟩:=Vs.at_ h hj
 have hu:=hu.out
 rw[List.getElem?_map] at hu
 cases hx:l[j]? with
 | none=>rw[hx] at hu; cases hu
 | some x =>
  rw[hx] at hu
  simp only[Option.map_some,Option.some.injEq] at hu
  subst hu
  exact⟨b,off,x,e,hb,rfl,hc⟩
end
end
section
open Go.RowKit Go.Oct Go.Su Go.Dk Go.Maps
structure Ro {α:Type} (w:World) (F:Nat→Prop) (k:Nat) (E:List Value→α→Prop) (A:Option Addr) (n:Nat) (av:List α):Prop where
 len:av.length=n
 at_:0<n→∃ b off,A=some ⟨b,off,none⟩∧F b∧∀ j a,av[j]? = some a→∃ cs,cs.length=k∧E cs a∧∀ i u,cs[i]? = some u→w.cell? ⟨b,off+j*k+i,none⟩=some u
section
variable {α:Type} {w w':World} {F G S:Nat→Prop} {k:Nat} {E E':List Value→α→Prop} {A:Option Addr} {n:Nat} {av:List α}
theorem Ro.nil (w:World) (F:Nat→Prop) (k:Nat) (E:List Value→α→Prop) (A:Option Addr):Ro w F k E A 0 []:=⟨rfl,fun h=>absurd h (by omega)⟩
theorem Ro.ch (h:Ro w F k E A n av) (_:0<k) (hc:Ch S w w') (hF:∀ b,F b→b<w.heap.size→¬ S b) (hE:∀ cs a,a∈av→E cs a→E' cs a):Ro w' F k E' A n av :=
 ⟨h.len,fun hn=>by
  obtain⟨b,off,e,hb,hj⟩:=h.at_ hn
  refine⟨b,off,e,hb,fun j a ha=>?_⟩
  obtain⟨cs,hl,he,hi⟩:=hj j a ha
  exact⟨cs,hl,hE cs a (List.mem_of_getElem? ha) he,fun i u hu=>hc.cell (hF b hb (lt_of_cell (hi i u hu))) (hi i u hu)⟩⟩
theorem Ro.mono (h:Ro w F k E A n av) (hk:0<k) (hF:∀ b,b<w.heap.size→F b→G b) (hE:∀ cs a,a∈av→E cs a→E' cs a):Ro w G k E' A n av :=
 ⟨h.len,fun hn=>by
  obtain⟨b,off,e,hb,hj⟩:=h.at_ hn
  have h0:av[0]? = some (av[0]'(by have:=h.len; omega)):=List.getElem?_eq_getElem _
  obtain⟨cs0,hl0,_,hi0⟩:=hj 0 _ h0
  have hlt:=lt_of_cell (hi0 0 (cs0[0]'(by omega)) (List.getElem?_eq_getElem _))
  refine⟨b,off,e,hF b hlt hb,fun j a ha=>?_⟩
  obtain⟨cs,hl,he,hi⟩:=hj j a ha
  exact⟨cs,hl,hE cs a (List.mem_of_getElem? ha) he,hi⟩⟩
theorem Ro.get (h:Ro w F k E A n av) {j:Nat} (hj:j<n):∃ b off a cs,A=some ⟨b,off,none⟩∧F b∧av[j]? = some a∧cs.length=k∧E cs a∧∀ i u,cs[i]? = some u→w.cell? ⟨b,off+j*k+i,none⟩=some u:=by
 obtain⟨b,off,e,hb,hc⟩:=h.at_ (by omega)
 have h0:av[j]? = some (av[j]'(by have:=h.len; omega)):=List.getElem?_eq_getElem _
 obtain⟨cs,hl,he,hi⟩:=hc j _ h0
 exact⟨b,off,_,cs,e,hb,h0,hl,he,hi⟩
end
structure Stp where
 kind:Int
 num:Int
 name:Key
 a:List Int
 b:List Int
 stay:List Key
def StpE (w:World) (F:Nat→Prop) (cs:List Value) (s:Stp):Prop:=∃ A c B d E e,cs=[.int .i64 s.kind, .int .i64 s.num,kv s.name, .slice A s.a.length c, .slice B s.b.length d, .slice E s.stay.length e] ∧
 Sl w F .u8 A s.a.length s.a∧Sl w F .u8 B s.b.length s.b∧Kss w F E s.stay.length s.stay∧(s.a.length≤c∧c≤maxLen)∧(s.b.length≤d∧d≤maxLen)∧s.stay.length≤e∧e≤maxLen
structure StpOk (s:Stp):Prop where
 kind : -9223372036854775808≤s.kind∧s.kind≤9223372036854775807
 num : -9223372036854775808≤s.num∧s.num≤9223372036854775807
 name:s.name.length≤140737488351232
 a:s.a.length≤140737488351232
 b:s.b.length≤140737488351232
 stay:s.stay.length≤140737488351232
 each:∀ k∈s.stay,k.length≤140737488351232
 ba:∀ x∈s.a,0≤x∧x<256
 bb:∀ x∈s.b,0≤x∧x<256
def Stps (w:World) (F:Nat→Prop) (A:Option Addr) (n:Nat) (l:List Stp):Prop:=Ro w F 6 (StpE w F) A n l
section
variable {w w':World} {F G S:Nat→Prop} {A:Option Addr} {n:Nat} {l:List Stp} {s:Stp} {cs:List Value}
theorem StpE.ch (h:StpE w F cs s) (hc:Ch S w w') (hF:∀ b,F b→b<w.heap.size→¬ S b):StpE w' F cs s:=by
 obtain⟨A,c,B,d,E,e,e1,h1,h2,h3,r⟩:=h
 exact⟨A,c,B,d,E,e,e1,h1.ch hc hF,h2.ch hc hF,h3.ch hc hF,r⟩
theorem StpE.mono (h:StpE w F cs s) (hF:∀ b,b<w.heap.size→F b→G b):StpE w G cs s:=by
 obtain⟨A,c,B,d,E,e,e1,h1,h2,h3,r⟩:=h
 exact⟨A,c,B,d,E,e,e1,h1.mono hF,h2.mono hF,h3.mono hF,r⟩
theorem Stps.ch (h:Stps w F A n l) (hc:Ch S w w') (hF:∀ b,F b→b<w.heap.size→¬ S b):Stps w' F A n l:=Ro.ch h (by omega) hc hF fun _ _ _ he=>he.ch hc hF
theorem Stps.mono (h:Stps w F A n l) (hF:∀ b,b<w.heap.size→F b→G b):Stps w G A n l:=Ro.mono h (by omega) hF fun _ _ _ he=>he.mono hF
structure StpAt (w:World) (F:Nat→Prop) (b o:Nat) (s:Stp) (A:Option Addr) (c:Nat) (B:Option Addr) (d:Nat) (E:Option Addr) (e:Nat):Prop where
 c0:w.cell? ⟨b,o,none⟩=some (.int .i64 s.kind)
 c1:w.cell? ⟨b,o+1,none⟩=some (.int .i64 s.num)
 c2:w.cell? ⟨b,o+2,none⟩=some (kv s.name)
 c3:w.cell? ⟨b,o+3,none⟩=some (.slice A s.a.length c)
 c4:w.cell? ⟨b,o+4,none⟩=some (.slice B s.b.length d)
 c5:w.cell? ⟨b,o+5,none⟩=some (.slice E s.stay.length e)
 sa:Sl w F .u8 A s.a.length s.a
 sb:Sl w F .u8 B s.b.length s.b
 ss:Kss w F E s.stay.length s.stay
 ca:s.a.length≤c∧c≤maxLen
 cb:s.b.length≤d∧d≤maxLen
 cs:s.stay.length≤e∧e≤maxLen
theorem StpAt.ch {b o c d e:Nat} {A B E:Option Addr} (h:StpAt w F b o s A c B d E e) (hc:Ch S w w') (hb:¬ S b) (hF:∀ b,F b→b<w.heap.size→¬ S b):StpAt w' F b o s A c B d E e :=
 ⟨hc.cell hb h.c0,hc.cell hb h.c1,hc.cell hb h.c2,hc.cell hb h.c3,hc.cell hb h.c4,hc.cell hb h.c5,h.sa.ch hc hF,h.sb.ch hc hF,h.ss.ch hc hF,h.ca,h.cb,h.cs⟩
theorem Stps.get (h:Stps w F A n l) {j:Nat} (hj:j<n):∃ b off s B c D d E e,A=some ⟨b,off,none⟩∧F b∧Hid (l[j]? = some s)∧StpAt w F b (off+j*6) s B c D d E e:=by
 obtain⟨b,off,s,cs,e1,hb,hs,_,⟨B,c,D,d,E,e,rfl,h1,h2,h3,r1,r2,r3⟩,hi⟩:=Ro.get h hj
 exact⟨b,off,s,B,c,D,d,E,e,e1,hb,hs,hi 0 _ rfl,hi 1 _ rfl,hi 2 _ rfl,hi 3 _ rfl,hi 4 _ rfl,hi 5 _ rfl,h1,h2,h3,r1,r2,r3⟩
end
end
section
open Go.RowKit Go.Oct Go.Su Go.Dk
structure StpSm (s:Stp):Prop where
 kind : -9223372036854775808≤s.kind∧s.kind≤9223372036854775807
 num : -9223372036854775808≤s.num∧s.num≤9223372036854775807
 name:s.name.length≤1048576
 a:s.a.length≤1048576
 b:s.b.length≤1048576
 stay:s.stay.length≤1048576
 each:∀ k∈s.stay,k.length≤1048576
 ba:Byt s.a
 bb:Byt s.b
theorem StpSm.ok {s:Stp} (h:StpSm s):StpOk s:=⟨h.kind,h.num,by have:=h.name; omega,by have:=h.a; omega,by have:=h.b; omega,by have:=h.stay; omega,fun k hk=>by have:=h.each k hk; omega,h.ba,h.bb⟩
end
section
open Go.RowKit Go.Oct Go.Su Go.Dk Go.Maps
def HeavyOf (w:World) (e:Ending) (w':World):Prop:=∃ o:Bool,e = .returned (.bool o)∧Ch (fun _=>False) w w'
section
variable {F:Nat→Prop}
theorem heavy_any (l:List Stp) (A:Option Addr) (n c:Nat) (w:World) (hz:Stps w F A n l) (hok:∀ s∈l,StpOk s) (hn:n≤140737488351232) :
  Calls Tryd.prog 7 #[.slice A n c] w (HeavyOf w):=by
 have HZ:=Bx.mk hz
 have HOK:=Bx.mk hok
 clear hz hok
 go_enter Tryd.func7,Tryd.ntmps7
 go_wp2_with fail
 go_loopw [3,4,5] (fun q i _ wr=>∃ (k:Nat) (z:Int),k≤n∧k≤80∧q = .int .i64 z∧i = .int .i64 k∧Ch (fun _=>False) w wr) (fun _ i _ _=>n-(intOf i).toNat)
 case atStart=>exact⟨0,0,Nat.zero_le _,Nat.zero_le _,rfl,rfl,Ch.refl _ _⟩
 case round =>
  obtain⟨k,z,hk,hk8,rfl,rfl,hC⟩:=hrel
  by_cases hkn:k<n
  ·have dk:decide ((k:Int)<(n:Int))=true:=decide_eq_true (by omega)
   have dk':decide (k<n)=true:=decide_eq_true hkn
   have i1:(k:Int)<(n:Int):=by omega
   by_cases h8:k<80
   ·have d8:decide ((k:Int)<80)=true:=decide_eq_true (by omega)
    have d8':decide (k<80)=true:=decide_eq_true h8
    obtain⟨b,off,s,B,c1,D,d1,E,e1,rfl,_,hs,hat⟩:=HZ.out.get hkn
    obtain⟨_,_,okn,oka,okb,oks,oke,_,_⟩:=HOK.out s (List.mem_of_getElem? hs.out)
    have HAT:Bx (∀ W,Ch (fun _=>False) w W→StpAt W F b (off+k*6) s B c1 D d1 E e1):=⟨fun W hc=>hat.ch hc (fun h=>h) (fun _ _ _ h=>h)⟩
    obtain⟨SN,hSN⟩:∃ S:ByteArray,(⟨s.name.toArray⟩:ByteArray)=S:=⟨_,rfl⟩
    have hkv:kv s.name = .string SN:=by unfold kv; rw[hSN]
    have hsz:SN.size=s.name.length:=by rw[←hSN]; exact key_size s.name
    have k2:=hC.cell (fun h=>h) hat.c2
    have k3:=hC.cell (fun h=>h) hat.c3
    have k4:=hC.cell (fun h=>h) hat.c4
    rw[hkv] at k2
    have hs9:SN.size≤9223372036854775807:=by omega
    have HSTL:Bx (s.stay.length≤9223372036854775807):=⟨by omega⟩
    have HEK:Bx (∀ k∈s.stay,k.length≤140737488351232):=⟨oke⟩
    obtain⟨al,hal⟩:∃ q,s.a.length=q:=⟨_,rfl⟩
    obtain⟨bl,hbl⟩:∃ q,s.b.length=q:=⟨_,rfl⟩
    rw[hal] at k3 oka
    rw[hbl] at k4 okb
    clear hs hat hkv hSN hal hbl okn oks oke
    go_wp2_with fail
    go_quiet (fail)
    have HQ:=Bx.mk (hC.drewN nq)
    clear k2 k3 k4 hC
    generalize wr.drewN nq=w1 at HQ ⊢
    go_wp2_with fail
    go_loopw [3,5] (fun q i wr=>∃ (j:Nat) (z:Int),j≤s.stay.length∧q = .int .i64 z∧i = .int .i64 j∧Ch (fun _=>False) w wr) (fun _ i _=>s.stay.length-(intOf i).toNat)
    case atStart=>exact⟨0,_,Nat.zero_le _,rfl,rfl,HQ.out⟩
    case round =>
     obtain⟨j,z,hj,rfl,rfl,hC⟩:=hrel
     have hat:=HAT.out wr hC
     have k5:=hat.c5
     have hss:=hat.ss
     have hstl:=HSTL.out
     obtain⟨sl,hsl⟩:∃ q,s.stay.length=q:=⟨_,rfl⟩
     rw[hsl] at k5 hss hstl hj
     rw[hsl]
     by_cases hjs:j<sl
     ·have dj:decide ((j:Int)<(sl:Int))=true:=decide_eq_true (by omega)
      have dj':decide (j<sl)=true:=decide_eq_true hjs
      have i2:(j:Int)<(sl:Int):=by omega
      obtain⟨bu,ou,u,rfl,_,hu,hcu⟩:=hss.at_ hjs
      have huk:=HEK.out u (List.mem_of_getElem? hu.out)
      obtain⟨UB,hub⟩:∃ S,(⟨u.toArray⟩:ByteArray)=S:=⟨_,rfl⟩
      have HUV:kv u = .string UB:=by unfold kv; rw[hub]
      have huz:UB.size=u.length:=by rw[←hub]; exact key_size u
      rw[HUV] at hcu
      have hu9:UB.size≤9223372036854775807:=by omega
      clear hss hat hu hub HUV huz huk
      go_wp2_with fail
      go_roundw
      case rel=>exact⟨j+1,_,by omega,rfl,by go_num,hC⟩
      case measure=>simp[intOf]; omega
     ·obtain rfl:j=sl:=by omega
      have dj:decide ((j:Int)<(j:Int))=false:=decide_eq_false (by omega)
      have dj':decide (j<j)=false:=decide_eq_false (by omega)
      clear hss hat
      by_cases hbig:5000<z
      ·have e1:decide ((5000:Int)<z)=true:=decide_eq_true hbig
       go_wp2_with fail
       go_ret
       exact⟨true,rfl,hC⟩
      ·have e1:decide ((5000:Int)<z)=false:=decide_eq_false hbig
       go_wp2_with fail
       go_roundw
       case rel=>exact⟨k+1,z,by omega,by omega,rfl,by go_num,hC⟩
       case measure=>simp[intOf]; omega
   ·obtain rfl:k=80:=by omega
    have d8:decide ((80:Int)<80)=false:=by decide
    go_wp2_with fail
    go_ret
    exact⟨false,rfl,hC⟩
  ·obtain rfl:k=n:=by omega
   have dk:decide ((k:Int)<(k:Int))=false:=decide_eq_false (by omega)
   have dk':decide (k<k)=false:=decide_eq_false (by omega)
   go_wp2_with fail
   go_ret
   exact⟨false,rfl,hC⟩
end
end
section
open Go.RowKit Go.Oct Go.Su Go.Dk
section
variable {F S:Nat→Prop}
theorem str_empty (k:Key):((⟨k.toArray⟩:ByteArray).toList==([]:List UInt8))=decide (k.length=0):=by
 rw[Lib.toList_data]
 cases k <;> simp
theorem noname_any (k:Key) (w:World) (hk:k.length≤9223372036854775807):Calls Tryd.prog 71 #[kv k] w fun e w'=>e = .returned (.bool (decide (¬okN k)))∧w=w':=by
 have he:=str_empty k
 have hs:=key_size k
 obtain⟨n,hn⟩:∃ n,k.length=n:=⟨_,rfl⟩
 have HO:Bx (∀ o:Bool,(o=true↔n=0∨64<n)→o=decide (¬okN k)):=⟨fun o ho=>by
  rw[Bool.eq_iff_iff,ho]
  unfold okN
  simp only[hn,decide_eq_true_eq]
  omega⟩
 rw[hn] at hs he hk
 obtain⟨S,hS⟩:∃ S,(⟨k.toArray⟩:ByteArray)=S:=⟨_,rfl⟩
 have hkv:kv k = .string S:=by rw[←hS]; rfl
 rw[hS] at hs he
 rw[hkv]
 clear hS hn hkv
 by_cases h0:n=0
 ·have he':(S.toList==([]:List UInt8))=true:=by rw[he]; simp[h0]
  clear he
  go_enter Tryd.func71,Tryd.ntmps71
  go_wp2
  go_ret
  exact⟨ret_bool (HO.out true (by simp[h0])),rfl⟩
 ·have he':(S.toList==([]:List UInt8))=false:=by rw[he]; simp[h0]
  obtain⟨o,ho⟩:∃ o,decide (64<n)=o:=⟨_,rfl⟩
  have HO2:Bx (o=decide (¬okN k)):=⟨HO.out o (by rw[←ho]; simp[h0])⟩
  have ho2:decide ((64:Int)<(n:Int))=o:=by rw[←ho,decide_eq_decide]; omega
  clear he HO
  go_enter Tryd.func71,Tryd.ntmps71
  go_wp2
  go_ret
  exact⟨ret_bool HO2.out,rfl⟩
theorem indexno_any (l:List Key) (A:Option Addr) (n c:Nat) (w:World) (hz:Kss w F A n l) (hn:n≤1048576) (hk:∀ k∈l,k.length≤9223372036854775807) :
  Calls Tryd.prog 68 #[.slice A n c, .func (.func 71) #[] #[]] w fun e w'=>∃ z:Int,e = .returned (.int .i64 z)∧(0≤z↔∃ k∈l,¬okN k) ∧ -1≤z∧z≤1048576∧w=w':=by
 have HL:=Bx.mk hz.len
 have HZ:=Bx.mk hz
 have HK:=Bx.mk hk
 have eg:∀ args w,(callFunc 71 args).run Tryd.prog w = .ok (.enter 71 args) w:=enters_of Tryd.func71 (by kernel_rfl) rfl
 clear hz hk
 go_enter Tryd.func68,Tryd.ntmps68
 go_wp2_with fail
 go_loop [5,8] (fun _ i=>∃ k:Nat,k≤n∧i = .int .i64 k∧Bx (∀ j t,j<k→l[j]? = some t→okN t)) (fun _ i=>n-(intOf i).toNat)
 case atStart=>exact⟨0,Nat.zero_le _,rfl,⟨fun j t h=>by omega⟩⟩
 case round =>
  obtain⟨k,hk,rfl,hno⟩:=hrel
  by_cases hlt:k<n
  ·have dk:decide ((k:Int)<(n:Int))=true:=decide_eq_true (by omega)
   obtain⟨bt,ot,t,rfl,_,ht,hcell⟩:=HZ.out.at_ hlt
   have HTX:=Bx.mk ht.out
   have HLN:=HK.out t (List.mem_of_getElem? ht.out)
   have i2:(k:Int)<(n:Int):=by omega
   have HC:=Bx.mk (noname_any t w HLN)
   clear ht HLN
   obtain⟨tv,htv⟩:∃ tv,kv t=tv:=⟨_,rfl⟩
   rw[htv] at hcell HC
   clear htv
   by_cases hbig:okN t
   ·have HC2:Bx (Calls Tryd.prog 71 #[tv] w fun e w'=>e = .returned (.bool false)∧w=w'):=⟨by have:=HC.out; simpa[hbig] using this⟩
    have HN:Bx (∀ j t,j<k+1→l[j]? = some t→okN t):=⟨fun j u hj hu=>by
     rcases Nat.lt_or_ge j k with h | h
     ·exact hno.out j u h hu
     ·obtain rfl:j=k:=by omega
      rw[HTX.out] at hu
      injection hu with hu
      rw[←hu]
      exact hbig⟩
    clear hno hbig HC
    go_wp2_with fail
    refine HC2.out.mono ?_
    rintro e w1 ⟨rfl,rfl⟩
    go_wp2
    go_round
    case rel=>exact⟨k+1,by omega,by go_num,HN⟩
    case measure=>simp[intOf]; omega
   ·have HC2:Bx (Calls Tryd.prog 71 #[tv] w fun e w'=>e = .returned (.bool true)∧w=w'):=⟨by have:=HC.out; simpa[hbig] using this⟩
    have HE:Bx (∃ t∈l,¬okN t):=⟨t,List.mem_of_getElem? HTX.out,hbig⟩
    clear hno hbig HC
    go_wp2_with fail
    refine HC2.out.mono ?_
    rintro e w1 ⟨rfl,rfl⟩
    go_wp2
    go_ret
    exact⟨(k:Int),rfl,⟨fun _=>HE.out,fun _=>by omega⟩,by omega,by omega,rfl⟩
  ·obtain rfl:n=k:=by omega
   have dk:decide ((n:Int)<(n:Int))=false:=decide_eq_false (by omega)
   have HE:Bx (¬∃ t∈l,¬okN t):=⟨fun ⟨t,ht,h⟩=>by
    obtain⟨j,hj⟩:=List.getElem?_of_mem ht
    exact h (hno.out j t (by rw[←HL.out]; exact (List.getElem?_eq_some_iff.1 hj).1) hj)⟩
   clear hno
   go_wp2
   go_ret
   exact⟨-1,rfl,⟨fun h=>by omega,fun h=>absurd h HE.out⟩,by omega,by omega,rfl⟩
theorem containsno_any (l:List Key) (A:Option Addr) (n c:Nat) (w:World) (hz:Kss w F A n l) (hn:n≤1048576) (hk:∀ k∈l,k.length≤9223372036854775807) (o:Bool) (ho:o=true↔∃ k∈l,¬okN k) :
  Calls Tryd.prog 70 #[.slice A n c, .func (.func 71) #[] #[]] w fun e w'=>e = .returned (.bool o)∧w=w':=by
 have HC:=Bx.mk (indexno_any l A n c w hz hn hk)
 have HO:=Bx.mk ho
 clear hz ho hk
 go_enter Tryd.func70,Tryd.ntmps70
 go_wp2_with fail
 refine HC.out.mono ?_
 rintro e w1 ⟨z,rfl,hz,_,_,rfl⟩
 have HB:Bx (decide (0≤z)=o):=⟨by
  cases o with
  | true=>exact decide_eq_true (hz.2 (HO.out.1 rfl))
  | false=>exact decide_eq_false (fun h=>by simpa using HO.out.2 (hz.1 h))⟩
 clear hz HC
 go_wp2
 go_ret
 exact⟨ret_bool HB.out,rfl⟩
def mays (s:Ds) (l:List Key):Nat:=if s.left=some 0 then 9 else if ∀ k∈l,okN k then 0 else 1
theorem mays_one (s:Ds) (k:Key):mays s [k]=may s k:=by unfold mays may; simp
theorem may_any {g:Nat→Tg} {d:Nat} {mb:Option Nat} {ad:Key→Nat} {s:Ds} (l:List Key) (A:Option Addr) (n c:Nat) (w:World) (h:Dsk w g d mb ad s) (hz:Kss w F A n l) (hn:n≤1048576) (hk:∀ k∈l,k.length≤9223372036854775807) :
  Calls Tryd.prog 42 #[pv d, .slice A n c] w fun e w'=>e = .returned (.int .i64 (mays s l:Nat))∧Ch (fun _=>False) w w':=by
 have hp:pv d = .pointer (some ⟨d,0,none⟩):=rfl
 obtain⟨fz,lf,c3,c4,hf⟩:=h.fuse
 have HM:Bx (∀ m:Nat,m=mays s l→Ending.returned (.int .i64 (m:Int)) = .returned (.int .i64 (mays s l:Nat))):=⟨fun m e=>by rw[e]⟩
 have HU:Bx (mays s l=if s.left=some 0 then 9 else if ∀ k∈l,okN k then 0 else 1):=⟨rfl⟩
 have HC:Bx (∀ o:Bool,(o=true↔∃ k∈l,¬okN k)→Calls Tryd.prog 70 #[.slice A n c, .func (.func 71) #[] #[]] w fun e w'=>e = .returned (.bool o)∧w=w'):=⟨fun o ho=>containsno_any l A n c w hz hn hk o ho⟩
 rw[hp]
 clear hp h hz hk
 have hcases:(fz=true∧lf=0∧s.left=some 0)∨((fz=true∧lf≠0∨fz=false)∧s.left≠some 0):=by
  cases hl:s.left with
  | none=>rw[hl] at hf; exact .inr ⟨.inr hf,fun e=>by cases e⟩
  | some m =>
   rw[hl] at hf
   obtain⟨rfl,rfl,_⟩:=hf
   by_cases hm:m=0
   ·subst hm; exact .inl ⟨rfl,rfl,rfl⟩
   ·exact .inr ⟨.inl ⟨rfl,by omega⟩,fun e=>by injection e with e; exact hm e⟩
 clear hf
 rcases hcases with ⟨rfl,rfl,hl⟩ | ⟨hor,hl⟩
 ·have HV:Bx ((9:Nat)=mays s l):=⟨by rw[HU.out,if_pos hl]⟩
  clear hl HC
  go_enter Tryd.func42,Tryd.ntmps42
  go_wp2
  go_ret
  exact⟨HM.out 9 HV.out,Ch.refl _ _⟩
 ·have HV:Bx (mays s l=if ∀ k∈l,okN k then 0 else 1):=⟨by rw[HU.out,if_neg hl]⟩
  clear hl
  by_cases ho:∀ k∈l,okN k
  ·have HV2:Bx ((0:Nat)=mays s l):=⟨by rw[HV.out,if_pos ho]⟩
   have HC2:=Bx.mk (HC.out false ⟨fun e=>(by cases e),fun ⟨k,hk,hn⟩=>absurd (ho k hk) hn⟩)
   clear ho HC HV HU
   rcases hor with ⟨rfl,hlf⟩ | rfl
   ·go_enter Tryd.func42,Tryd.ntmps42
    go_wp2_with fail
    refine HC2.out.mono ?_
    rintro e w1 ⟨rfl,rfl⟩
    go_wp2
    go_ret
    exact⟨HM.out 0 HV2.out,Ch.refl _ _⟩
   ·go_enter Tryd.func42,Tryd.ntmps42
    go_wp2_with fail
    refine HC2.out.mono ?_
    rintro e w1 ⟨rfl,rfl⟩
    go_wp2
    go_ret
    exact⟨HM.out 0 HV2.out,Ch.refl _ _⟩
  ·have HV2:Bx ((1:Nat)=mays s l):=⟨by rw[HV.out,if_neg ho]⟩
   have HC2:=Bx.mk (HC.out true ⟨fun _=>by
    by_cases hx:∃ k∈l,¬okN k
    ·exact hx
    ·exact absurd (fun k hk=>by
      by_cases h:okN k
      ·exact h
      ·exact absurd ⟨k,hk,h⟩ hx) ho,fun _=>rfl⟩)
   clear ho HC HV HU
   rcases hor with ⟨rfl,hlf⟩ | rfl
   ·go_enter Tryd.func42,Tryd.ntmps42
    go_wp2_with fail
    refine HC2.out.mono ?_
    rintro e w1 ⟨rfl,rfl⟩
    go_wp2
    go_ret
    exact⟨HM.out 1 HV2.out,Ch.refl _ _⟩
   ·go_enter Tryd.func42,Tryd.ntmps42
    go_wp2_with fail
    refine HC2.out.mono ?_
    rintro e w1 ⟨rfl,rfl⟩
    go_wp2
    go_ret
    exact⟨HM.out 1 HV2.out,Ch.refl _ _⟩
end
end
section
open Go.RowKit Go.Oct Go.Su Go.Dk Go.Maps
section
variable {w w':World} {g:Nat→Tg} {d:Nat} {mb:Option Nat} {ad:Key→Nat} {s:Ds} {F S:Nat→Prop}
theorem w64_of {x:Int} (h : -9223372036854775808≤x∧x≤9223372036854775807):wrap64 x=x:=by
 unfold wrap64
 omega
theorem set_same {w:World} {p:Addr} {u v:Value} (h:w.cell? p=some u):(w.setCell p v).cell? p=some v:=World.cell?_setCell_same w p v h
theorem set_off {w:World} {b i j:Nat} {v:Value} (h:i≠j):(w.setCell ⟨b,i,none⟩ v).cell? ⟨b,j,none⟩=w.cell? ⟨b,j,none⟩:=World.cell?_setCell_other _ _ _ _ (fun e=>h (by injection e))
theorem set_far {w:World} {b c i j:Nat} {v:Value} (h:b≠c):(w.setCell ⟨b,i,none⟩ v).cell? ⟨c,j,none⟩=w.cell? ⟨c,j,none⟩:=World.cell?_setCell_other _ _ _ _ (fun e=>h (by injection e))
theorem ch_set (w:World) (d j:Nat) (v:Value):Ch (fun b=>b=d) w (w.setCell ⟨d,j,none⟩ v):=(Ch.refl (fun b=>b=d) w).setCell (p:=⟨d,j,none⟩) (.inl rfl) v
theorem Dsk.lt_d (h:Dsk w g d mb ad s):d<w.heap.size:=lt_of_cell h.c0
theorem Dsk.head {s':Ds} (h:Dsk w g d mb ad s) (hc:Ch (fun b=>b=d) w w') (hf:s'.fs=s.fs) (hok:DsOk s') (c0:w'.cell? ⟨d,0,none⟩=some (.map mb)) (c1:w'.cell? ⟨d,1,none⟩=some (.int .i64 (s'.room:Int)))
  (c2:w'.cell? ⟨d,2,none⟩=some (.int .i64 (used s'.fs:Int))) (zf:∀ j,w'.frozen? ⟨d,j,none⟩=false) {fz:Bool} {lf:Int} (c3:w'.cell? ⟨d,3,none⟩=some (.bool fz)) (c4:w'.cell? ⟨d,4,none⟩=some (.int .i64 lf)) (hl:FuseIs s'.left fz lf):Dsk w' g d mb ad s':=by
 refine⟨hok,fun b hb=>Nat.lt_of_lt_of_le (h.lt b hb) hc.size,h.tag,zf,c0,c1,c2,⟨fz,lf,c3,c4,hl⟩,fun e=>by rw[hf]; exact h.none_ e,fun b hb=>?_,fun x hx=>?_⟩
 ·obtain⟨h1,h2⟩:=h.some_ b hb
  refine⟨h1,?_⟩
  rw[hf]
  exact own_map_ch h2 hc (fun e=>by subst e; rw[h.tag] at h1; cases h1)
 ·rw[hf] at hx
  refine (h.files x hx).ch hc fun b hb e=>?_
  subst e
  rw[h.tag] at hb
  rcases hb with hb | hb <;> cases hb
theorem DsOk.left {s:Ds} (h:DsOk s) (o:Option Nat):DsOk ⟨s.room,s.fs,o⟩:=⟨h.fine,h.used,h.room,h.most⟩
theorem done_any (h:Dsk w g d mb ad s) (hl:s.left≠some 0) :
  Calls Tryd.prog 45 #[pv d] w fun e w'=>e = .returned (.int .i64 0)∧Dsk w' g d mb ad ⟨s.room,s.fs,tick s.left⟩∧Ch (fun b=>b=d) w w':=by
 have hp:pv d = .pointer (some ⟨d,0,none⟩):=rfl
 have H:=Bx.mk h
 obtain⟨fz,lf,c3,c4,hf⟩:=h.fuse
 have z4:=h.zf 4
 rw[hp]
 clear hp h
 cases hs:s.left with
 | none =>
  rw[hs] at hf
  obtain rfl:fz=false:=hf
  have HR:Bx (Dsk w g d mb ad ⟨s.room,s.fs,tick none⟩):=⟨by have:=H.out; obtain⟨a,b,l⟩:=s; subst hs; exact this⟩
  clear hl hs
  go_enter Tryd.func45,Tryd.ntmps45
  go_wp2
  go_ret
  exact⟨rfl,HR.out,Ch.refl _ _⟩
 | some n =>
  rw[hs] at hf
  obtain⟨rfl,rfl,hn⟩:=hf
  have hn0:n≠0:=fun e=>hl (by rw[hs,e])
  obtain⟨m,rfl⟩:∃ m,n=m+1:=⟨n-1,by omega⟩
  have hm:m≤9223372036854775807:=by omega
  have HR:Bx (Dsk (w.setCell ⟨d,4,none⟩ (.int .i64 (m:Int))) g d mb ad ⟨s.room,s.fs,tick (some (m+1))⟩) :=
   ⟨H.out.head (ch_set _ _ _ _) rfl (DsOk.left H.out.ok _) ((set_off (by decide)).trans H.out.c0) ((set_off (by decide)).trans H.out.c1) ((set_off (by decide)).trans H.out.c2) (fun j=>by rw[World.frozen?_setCell]; exact H.out.zf j)
    ((set_off (by decide)).trans c3) (set_same c4) ⟨rfl,rfl,hm⟩⟩
  obtain⟨x,hx⟩:∃ x:Int,((m+1:Nat):Int)=x:=⟨_,rfl⟩
  have hx2:x-1=(m:Int):=by omega
  have hx3:wrap64 (m:Int)=(m:Int):=w64_of (by omega)
  rw[hx] at c4
  clear hl hs hx hn0
  go_enter Tryd.func45,Tryd.ntmps45
  go_wp2
  go_ret
  exact⟨rfl,HR.out,ch_set _ _ _ _⟩
end
end
section
open Go.RowKit Go.Oct Go.Su Go.Dk Go.Maps
section
variable {w w':World} {g g':Nat→Tg} {d:Nat} {mb:Option Nat} {ad:Key→Nat} {s s':Ds} {F S:Nat→Prop} {x y:Fl}
theorem mapD_put_old {fs:Fs} (h:Rise (nms fs)) (hx:x∈fs) (hy:y.nm=x.nm) (ad:Key→Nat):mapD (put fs y) ad=mapD fs ad:=by
 have e:=split_at h hx
 have e2:mapD fs ad=mapD (lo fs x.nm++x::hi fs x.nm) ad:=by rw[←e]
 rw[e2]
 unfold put mapD
 rw[hy]
 simp[hy]
theorem Dsk.turn (h:Dsk w g d mb ad s) (hx:x∈s.fs) (hy:y.nm=x.nm) (hg:∀ b,g' b=g b∨((g b = .rw x.nm∨w.heap.size≤b)∧(g' b = .no∨g' b = .rw x.nm)))
  (hc:Ch (fun b=>b=d∨g b = .fl x.nm∨g b = .rw x.nm) w w') (hlt:∀ b,g' b ≠ .no→b<w'.heap.size) (hfil:Fil w' g' (ad x.nm) y) (hfs:s'.fs=put s.fs y) (hok:DsOk s') (c0:w'.cell? ⟨d,0,none⟩=some (.map mb)) (c1:w'.cell? ⟨d,1,none⟩=some (.int .i64 (s'.room:Int)))
  (c2:w'.cell? ⟨d,2,none⟩=some (.int .i64 (used s'.fs:Int))) (zf:∀ j,w'.frozen? ⟨d,j,none⟩=false) {fz:Bool} {lf:Int} (c3:w'.cell? ⟨d,3,none⟩=some (.bool fz)) (c4:w'.cell? ⟨d,4,none⟩=some (.int .i64 lf)) (hl:FuseIs s'.left fz lf):Dsk w' g' d mb ad s':=by
 have hgd:∀ b t,b<w.heap.size→g b=t→t ≠ .rw x.nm→g' b=t:=fun b t hb ht hne=>by
  rcases hg b with e | ⟨e | e,_⟩
  ·rw[e]; exact ht
  ·exact absurd (ht.symm.trans e) hne
  ·omega
 refine⟨hok,hlt,hgd d _ h.lt_d h.tag (fun e=>by cases e),zf,c0,c1,c2,⟨fz,lf,c3,c4,hl⟩,fun e=>?_,fun b hb=>?_,fun z hz=>?_⟩
 ·have:=h.none_ e
  rw[this] at hx
  simp at hx
 ·obtain⟨h1,h2⟩:=h.some_ b hb
  refine⟨hgd b _ h2.lt h1 (fun e=>by cases e),?_⟩
  rw[hfs,mapD_put_old h.ok.fine.rise hx hy,len_put_old h.ok.fine.rise hx hy]
  exact own_map_ch h2 hc fun e=>by
   rcases e with e | e | e
   ·subst e; rw[h.tag] at h1; cases h1
   ·rw[h1] at e; cases e
   ·rw[h1] at e; cases e
 ·rw[hfs] at hz
  rcases mem_put.1 hz with rfl | ⟨hz,hne⟩
  ·rw[hy]; exact hfil
  ·rw[hy] at hne
   have hf:=h.files z hz
   have hlz:∀ b,g b = .fl z.nm∨g b = .rw z.nm→b<w.heap.size:=fun b hb=>h.lt b (by rcases hb with e | e <;> rw[e] <;> exact fun e=>by cases e)
   refine (hf.ch hc fun b hb e=>?_).tags fun b hb=>?_
   ·rcases e with e | e | e
    ·subst e
     rw[h.tag] at hb
     rcases hb with hb | hb <;> cases hb
    ·rw[e] at hb
     rcases hb with hb | hb
     ·injection hb with hb; exact hne hb.symm
     ·cases hb
    ·rw[e] at hb
     rcases hb with hb | hb
     ·cases hb
     ·injection hb with hb; exact hne hb.symm
   ·rcases hb with hb | hb
    ·rw[hgd b _ (hlz b (.inl hb)) hb (fun e=>by cases e)]; exact hb.symm
    ·rw[hgd b _ (hlz b (.inr hb)) hb (fun e=>by injection e with e; exact hne e)]; exact hb.symm
theorem own_take {w:World} {base:Nat} {e:TypeId} {A:Option Addr} {n c m:Nat} {xs:List Value} (h:w.ownsRow base e 1 (.slice A n c) n xs) (hm:m≤n):w.ownsRow base e 1 (.slice A m c) m (xs.take m):=by
 refine⟨by rw[List.length_take]; have:=h.1; omega,?_⟩
 rcases h.2 with ⟨e1,e2⟩ | ⟨g,cap,cur,e1,hb,hg,h1,h2,h3,h4⟩
 ·injection e1 with a b c
  subst a c
  obtain rfl:m=0:=by omega
  exact .inl ⟨rfl,rfl⟩
 ·injection e1 with a b c
  subst a c
  refine .inr ⟨g,_,cur,rfl,hb,hg,by omega,h2,h3,?_⟩
  rw[←h4,List.take_take]
  congr 1
  omega
def cutF (x:Fl) (n:Nat):Fl:=⟨x.nm,x.bs.take n,min x.la n⟩
theorem used_cut {fs:Fs} (h:Rise (nms fs)) (hx:x∈fs) {n:Nat} (hn:n≤x.bs.length):used (put fs (cutF x n))=used fs-(x.bs.length-n):=by
 have e1:=used_put fs (cutF x n)
 have e2:=used_at h hx
 have e3:(cutF x n).bs.length=n:=by show (x.bs.take n).length=n; rw[List.length_take]; omega
 have e4:del fs (cutF x n).nm=del fs x.nm:=rfl
 rw[e1,e3,e4]
 omega
theorem DsOk.cut (h:DsOk s) (hx:x∈s.fs) {n:Nat} (hn:n≤x.bs.length):DsOk ⟨s.room,put s.fs (cutF x n),s.left⟩:=by
 have e1:=used_cut h.fine.rise hx hn
 have e2:=h.used
 refine⟨h.fine.put (h.fine.ok x hx) ?_ (fun z hz=>h.fine.byte x hx z (List.mem_of_mem_take hz)),by show used (put s.fs (cutF x n))≤s.room; omega,h.room,?_⟩
 ·show min x.la n≤(x.bs.take n).length
  rw[List.length_take]
  have:=h.fine.la x hx
  omega
 ·show (put s.fs (cutF x n)).length≤4096
  rw[len_put_old (g:=cutF x n) h.fine.rise hx rfl]
  exact h.most
theorem cut_any (h:Dsk w g d mb ad s) (hx:x∈s.fs) {n:Nat} (hn:n≤x.bs.length) :
  Calls Tryd.prog 41 #[pv d,pv (ad x.nm), .int .i64 (n:Int)] w fun e w'=>e = .returned (.tuple #[])∧Dsk w' g d mb ad ⟨s.room,put s.fs (cutF x n),s.left⟩∧Ch (fun b=>b=d∨b=ad x.nm) w w':=by
 have hp:pv d = .pointer (some ⟨d,0,none⟩):=rfl
 have hF:=h.files x hx
 obtain⟨a,ha⟩:∃ a,ad x.nm=a:=⟨_,rfl⟩
 have hpa:pv (ad x.nm) = .pointer (some ⟨a,0,none⟩):=by rw[ha]; rfl
 rw[hp,hpa]
 rw[ha] at hF ⊢
 obtain⟨v,b0,b1,ho,hr⟩:=hF.row
 obtain⟨A,c,rfl,h1,h2⟩:=own_shape ho
 obtain⟨q,hq⟩:∃ q,x.bs.length=q:=⟨_,rfl⟩
 obtain⟨u,hu⟩:∃ u,used s.fs=u:=⟨_,rfl⟩
 obtain⟨la,hla⟩:∃ la,x.la=la:=⟨_,rfl⟩
 have hne:d≠a:=fun e=>by have:=hF.tag; rw[←e,h.tag] at this; cases this
 have c2:=h.c2
 have k1:=h.zf 2
 have k2:=hF.zf 0
 have k3:=hF.zf 1
 have hqu:q≤u:=by have:=used_at h.ok.fine.rise hx; omega
 have hum:u≤1073741824:=by have:=h.ok.used; have:=h.ok.room; omega
 have hlq:la≤q:=by have:=h.ok.fine.la x hx; omega
 rw[hu] at c2
 rw[hq] at b0 ho h1 hn
 rw[hla] at b1
 obtain⟨r,hr1⟩:∃ r,q-n=r:=⟨_,rfl⟩
 obtain⟨u2,hu2⟩:∃ u2,u-r=u2:=⟨_,rfl⟩
 have hrm:r≤1073741824:=by omega
 have hu2m:u2≤1073741824:=by omega
 obtain⟨m,hm⟩:∃ m,min la n=m:=⟨_,rfl⟩
 have i1:(q:Int)-(n:Int)=(r:Int):=by omega
 have i2:(u:Int)-(r:Int)=(u2:Int):=by omega
 have i5:(0:Int)≤(n:Int):=by omega
 have i6:(n:Int)≤(c:Int):=by omega
 have hc9:c≤9223372036854775807:=by unfold maxLen at h2; omega
 have HR:Bx (∀ w':World,Ch (fun b=>b=d∨b=a) w w'→w'.cell? ⟨d,2,none⟩=some (.int .i64 (u2:Int))→(∀ j,j≠2→w'.cell? ⟨d,j,none⟩=w.cell? ⟨d,j,none⟩)→(∀ p,w'.frozen? p=w.frozen? p)→w'.cell? ⟨a,0,none⟩=some (.slice A n c)→w'.cell? ⟨a,1,none⟩=some (.int .i64 (m:Int)) →
   Dsk w' g d mb ad ⟨s.room,put s.fs (cutF x n),s.left⟩):=⟨fun w' hc g2 g3 g4 g5 g6=>by
  obtain⟨fz,lf,c3,c4,hf⟩:=h.fuse
  have hob:(Value.slice A x.bs.length c).ownBlock=(Value.slice A n c).ownBlock:=by cases A <;> rfl
  have hxn:n≤x.bs.length:=by omega
  have hown:w'.ownsRow 0 5 1 (.slice A n c) n ((x.bs.take n).map (Value.int .u8)):=by
   have h3:=own_take (m:=n) ho (by omega)
   rw[←List.map_take] at h3
   refine hc.own h3 fun r hv e=>?_
   have hr2:=hr r (by rw[hob]; exact hv)
   rcases e with e | e
   ·subst e; rw[h.tag] at hr2; cases hr2
   ·subst e; rw[hF.tag] at hr2; cases hr2
  have hfl:Fil w' g (ad x.nm) (cutF x n):=by
   rw[ha]
   refine⟨hF.tag,fun j=>by rw[g4]; exact hF.zf j, .slice A n c,g5,?_,?_,fun r hv=>hr r (by rw[hob]; exact hv)⟩
   ·rw[g6,←hm,←hla]; rfl
   ·have e3:(cutF x n).bs.length=n:=by show (x.bs.take n).length=n; rw[List.length_take]; omega
    rw[e3]
    exact hown
  refine h.turn hx (y:=cutF x n) rfl (fun b => .inl rfl) (hc.mono fun i _ hi=>?_) (fun b hb=>Nat.lt_of_lt_of_le (h.lt b hb) hc.size) hfl rfl (DsOk.cut h.ok hx hxn) ((g3 0 (by decide)).trans h.c0) ((g3 1 (by decide)).trans h.c1) ?_ (fun j=>by rw[g4]; exact h.zf j) ((g3 3 (by decide)).trans c3) ((g3 4 (by decide)).trans c4) hf
  ·rcases hi with e | e
   ·exact .inl e
   ·exact .inr (.inl (by rw[e]; exact hF.tag))
  ·rw[g2]
   have:=used_cut h.ok.fine.rise hx hxn
   show _=some (Value.int .i64 (used (put s.fs (cutF x n)):Int))
   rw[this,←hu2,←hu,←hr1,←hq]⟩
 clear h hF ho hr hx hu hq hla ha hp hpa hr1 hu2
 have hne2:a≠d:=hne.symm
 have HW:Bx (∀ z:Nat,z=m→Dsk (((w.setCell ⟨d,2,none⟩ (.int .i64 (u2:Int))).setCell ⟨a,0,none⟩ (.slice A n c)).setCell ⟨a,1,none⟩ (.int .i64 (z:Int))).drew g d mb ad ⟨s.room,put s.fs (cutF x n),s.left⟩ ∧
   Ch (fun b=>b=d∨b=a) w (((w.setCell ⟨d,2,none⟩ (.int .i64 (u2:Int))).setCell ⟨a,0,none⟩ (.slice A n c)).setCell ⟨a,1,none⟩ (.int .i64 (z:Int))).drew):=⟨fun z hz=>by
  subst hz
  have hc:=(((((Ch.refl (fun b=>b=d∨b=a) w)).setCell (p:=⟨d,2,none⟩) (.inl (.inl rfl)) (.int .i64 (u2:Int))).setCell (p:=⟨a,0,none⟩) (.inl (.inr rfl)) (.slice A n c)).setCell (p:=⟨a,1,none⟩) (.inl (.inr rfl)) (.int .i64 (z:Int))).drew
  refine⟨HR.out _ hc ?_ (fun j hj=>?_) (fun p=>?_) ?_ ?_,hc⟩
  ·exact ((set_far hne2).trans (set_far hne2)).trans (set_same c2)
  ·exact ((set_far hne2).trans (set_far hne2)).trans (set_off hj.symm)
  ·exact (World.frozen?_setCell _ _ _ _).trans ((World.frozen?_setCell _ _ _ _).trans (World.frozen?_setCell _ _ _ _))
  ·exact (set_off (by decide)).trans (set_same ((set_far hne).trans b0))
  ·exact set_same (((set_off (by decide)).trans (set_far hne)).trans b1)⟩
 by_cases hmn:la≤n
 ·have HM:Bx (la=m):=⟨by omega⟩
  have j1:min (la:Int) (n:Int)=(la:Int):=by omega
  have j2:decide ((la:Int)<(n:Int))=decide (la<n):=by rw[decide_eq_decide]; omega
  clear hm HR 
  go_enter Tryd.func41,Tryd.ntmps41
  go_wp2_with fail
  have i3:IntKind.i64.wrap (r:Int)=(r:Int):=IntWalk.i64_in _ (by omega)
  have i4:IntKind.i64.wrap (u2:Int)=(u2:Int):=IntWalk.i64_in _ (by omega)
  refine wp_region_still_tail 14 (by kernel_rfl) (by kernel_rfl) ?_
  simp only[List.take_succ_cons,List.take_zero,List.drop_succ_cons,List.drop_zero]
  repeat still_step
  refine wpStill_nil ?_
  clear i3 i4
  change wpList _ _ _ _ _ w.drew
  go_wp2
  go_returns
  exact⟨rfl,HW.out _ HM.out⟩
 ·have HM:Bx (n=m):=⟨by omega⟩
  have j1:min (la:Int) (n:Int)=(n:Int):=by omega
  have j3:¬ (la:Int)≤(n:Int):=by omega
  clear hm HR 
  go_enter Tryd.func41,Tryd.ntmps41
  go_wp2_with fail
  have i3:IntKind.i64.wrap (r:Int)=(r:Int):=IntWalk.i64_in _ (by omega)
  have i4:IntKind.i64.wrap (u2:Int)=(u2:Int):=IntWalk.i64_in _ (by omega)
  refine wp_region_still_tail 14 (by kernel_rfl) (by kernel_rfl) ?_
  simp only[List.take_succ_cons,List.take_zero,List.drop_succ_cons,List.drop_zero]
  repeat still_step
  refine wpStill_nil ?_
  clear i3 i4
  change wpList _ _ _ _ _ w.drew
  go_wp2
  go_returns
  exact⟨rfl,HW.out _ HM.out⟩
end
end
section
open Go.RowKit Go.Oct Go.Su Go.Dk Go.Maps
section
variable {w w':World} {g g':Nat→Tg} {d:Nat} {mb:Option Nat} {ad:Key→Nat} {s s':Ds} {F S:Nat→Prop} {x y:Fl} {k:Key}
theorem Dsk.look_yes (h:Dsk w g d mb ad s) (hx:fnd s.fs k=some x) (hk:k.length≤maxLen):(Instr.lookup 57 (.map mb) (kv k) true).run Tryd.prog w = .ok (.tuple #[.pointer (some ⟨ad k,0,none⟩), .bool true]) w:=by
 cases mb with
 | none=>rw[h.none_ rfl] at hx; cases hx
 | some b =>
  obtain⟨_,ho⟩:=h.some_ b rfl
  obtain⟨v,ps,hr,hv⟩:=ho.look_ok (z := .pointer none) (zd := .held (.pointer none)) (zp:=[]) mapLaw mapT (zeroF w) rfl (key_of hk)
  rw[at_mapD h.ok.fine.rise hx] at hv
  simp only[heldR,Option.some.injEq,Prod.mk.injEq,DataW.held.injEq] at hv
  rw[hr,hv.1,has_mapD,hx]
  rfl
theorem Dsk.look_no (h:Dsk w g d mb ad s) (hx:fnd s.fs k=none) (hk:k.length≤maxLen):(Instr.lookup 57 (.map mb) (kv k) true).run Tryd.prog w = .ok (.tuple #[.pointer none, .bool false]) w:=by
 cases mb with
 | none =>
  have:=Maps.look_nil (w:=w) true mapLaw mapT (z := .pointer none) (zeroF w) (key_of hk)
  simpa using this
 | some b =>
  obtain⟨_,ho⟩:=h.some_ b rfl
  obtain⟨v,ps,hr,hv⟩:=ho.look_ok (z := .pointer none) (zd := .held (.pointer none)) (zp:=[]) mapLaw mapT (zeroF w) rfl (key_of hk)
  rw[at_mapD_no hx] at hv
  simp only[heldR,Option.some.injEq,Prod.mk.injEq,DataW.held.injEq] at hv
  rw[hr,hv.1,has_mapD,hx]
  rfl
theorem Kss.one (w:World) (e:TypeId) (k:Key):Kss (w.alloc (.cells #[kv k] e)) (fun b=>b=w.heap.size) (some ⟨w.heap.size,0,none⟩) 1 [k]:=Vs.one w e (kv k)
theorem may1_any (h:Dsk w g d mb ad s) (hk:k.length≤9223372036854775807) :
  Calls Tryd.prog 42 #[pv d, .slice (some ⟨w.heap.size,0,none⟩) 1 1] (w.alloc (.cells #[kv k] 9)) fun e w'=>e = .returned (.int .i64 (may s k:Nat))∧Ch (fun _=>False) w w' :=
 (may_any [k] _ 1 1 (w.alloc (.cells #[kv k] 9)) (h.keep ((Ch.refl (fun _=>False) w).alloc _)) (Kss.one w 9 k) (by decide) (fun j hj=>by simp at hj; subst hj; exact hk)).mono fun e w' ⟨h1,h2⟩=>⟨by rw[h1,mays_one],((Ch.refl (fun _=>False) w).alloc _).trans h2 (fun _ _ h=>h)⟩
def Post (op:Nat×Ds) (d:Nat) (w:World) (g:Nat→Tg) (e:Ending) (w':World):Prop:=e = .returned (.int .i64 (op.1:Int))∧∃ g' mb' ad',Dsk w' g' d mb' ad' op.2∧Dgo w g w' g'
theorem DsOk.last (h:DsOk s) (hx:x∈s.fs):DsOk ⟨s.room,put s.fs ⟨x.nm,x.bs,x.bs.length⟩,s.left⟩:=by
 have hu:=used_at h.fine.rise hx
 have hp:=used_put s.fs ⟨x.nm,x.bs,x.bs.length⟩
 refine⟨h.fine.put (h.fine.ok x hx) (Nat.le_refl _) (h.fine.byte x hx),?_,h.room,?_⟩
 ·show used (put s.fs ⟨x.nm,x.bs,x.bs.length⟩)≤s.room
  rw[hp,show (Fl.mk x.nm x.bs x.bs.length).nm=x.nm from rfl,show (Fl.mk x.nm x.bs x.bs.length).bs=x.bs from rfl,←hu]
  exact h.used
 ·show (put s.fs ⟨x.nm,x.bs,x.bs.length⟩).length≤4096
  rw[len_put_old (g:=⟨x.nm,x.bs,x.bs.length⟩) h.fine.rise hx rfl]
  exact h.most
theorem Dsk.last (h:Dsk w g d mb ad s) (hx:x∈s.fs):Dsk (w.setCell ⟨ad x.nm,1,none⟩ (.int .i64 (x.bs.length:Int))) g d mb ad ⟨s.room,put s.fs ⟨x.nm,x.bs,x.bs.length⟩,s.left⟩:=by
 have hF:=h.files x hx
 obtain⟨v,b0,b1,ho,hr⟩:=hF.row
 obtain⟨fz,lf,c3,c4,hf⟩:=h.fuse
 have hne:ad x.nm≠d:=fun e=>by have:=hF.tag; rw[e,h.tag] at this; cases this
 have hc:=ch_set w (ad x.nm) 1 (.int .i64 (x.bs.length:Int))
 have hu:=used_at h.ok.fine.rise hx
 have hp:=used_put s.fs ⟨x.nm,x.bs,x.bs.length⟩
 refine h.turn hx (y:=⟨x.nm,x.bs,x.bs.length⟩) rfl (fun b => .inl rfl) (hc.mono fun i _ hi => .inr (.inl (by rw[hi]; exact hF.tag))) (fun b hb=>Nat.lt_of_lt_of_le (h.lt b hb) hc.size) ⟨hF.tag,fun j=>by rw[World.frozen?_setCell]; exact hF.zf j,v,?_,set_same b1,?_,hr⟩ rfl (DsOk.last h.ok hx)
  ((set_far hne).trans h.c0) ((set_far hne).trans h.c1) ?_ (fun j=>by rw[World.frozen?_setCell]; exact h.zf j) ((set_far hne).trans c3) ((set_far hne).trans c4) hf
 ·exact (set_off (by decide)).trans b0
 ·exact hc.own ho (fun r hv e=>by have:=hr r hv; rw[e,hF.tag] at this; cases this)
 ·rw[set_far hne,h.c2]
  show _=some (Value.int .i64 (used (put s.fs ⟨x.nm,x.bs,x.bs.length⟩):Int))
  rw[hp,show (Fl.mk x.nm x.bs x.bs.length).nm=x.nm from rfl,show (Fl.mk x.nm x.bs x.bs.length).bs=x.bs from rfl,←hu]
theorem sync_any (h:Dsk w g d mb ad s) (hk:k.length≤9223372036854775807):Calls Tryd.prog 76 #[pv d,kv k] w (Post (opSync s k) d w g):=by
 have hp:pv d = .pointer (some ⟨d,0,none⟩):=rfl
 have HM:=Bx.mk (may1_any h hk)
 have H:=Bx.mk h
 have HKL:=Bx.mk hk
 obtain⟨S,hkv⟩:∃ S,kv k = .string S:=⟨_,rfl⟩
 obtain⟨m,hm⟩:∃ m,may s k=m:=⟨_,rfl⟩
 have HKV:=Bx.mk hkv
 rw[hp] at HM ⊢
 rw[hkv] at HM ⊢
 rw[hm] at HM
 clear hp h hk hkv
 by_cases h0:m=0
 ·subst h0
  have HMY:=Bx.mk hm
  clear hm
  cases hf:fnd s.fs k with
  | none =>
   have HR:Bx (Ending.returned (.int .i64 7) = .returned (.int .i64 ((opSync s k).1:Int))∧(opSync s k).2=s):=⟨by unfold opSync; rw[if_neg (by simp[HMY.out]),hf]; exact⟨rfl,rfl⟩⟩
   have HF:=Bx.mk hf
   clear hf
   go_enter Tryd.func76,Tryd.ntmps76
   go_wp2_with fail
   refine HM.out.mono ?_
   rintro e w1 ⟨rfl,hc1⟩
   have H1:=Bx.mk (H.out.keep hc1)
   have hlk:=H1.out.look_no HF.out (by unfold maxLen; exact HKL.out)
   have c0:=H1.out.c0
   rw[HKV.out] at hlk
   have HC1:=Bx.mk hc1
   clear hc1
   go_wp2
   go_ret
   exact⟨HR.out.1,g,mb,ad,by rw[HR.out.2]; exact H1.out,Dgo.quiet HC1.out⟩
  | some x =>
   have HF:=Bx.mk hf
   have HR:Bx (Ending.returned (.int .i64 0) = .returned (.int .i64 ((opSync s k).1:Int))∧(opSync s k).2=⟨s.room,put s.fs ⟨k,x.bs,x.bs.length⟩,tick s.left⟩):=⟨by unfold opSync; rw[if_neg (by simp[HMY.out]),hf]; exact⟨rfl,rfl⟩⟩
   clear hf
   go_enter Tryd.func76,Tryd.ntmps76
   go_wp2_with fail
   refine HM.out.mono ?_
   rintro e w1 ⟨rfl,hc1⟩
   have H1:=Bx.mk (H.out.keep hc1)
   have hlk:=H1.out.look_yes HF.out (by unfold maxLen; exact HKL.out)
   have c0:=H1.out.c0
   rw[HKV.out] at hlk
   have HC1:=Bx.mk hc1
   obtain⟨hxm,hxn⟩:=fnd_some HF.out
   have hF:=H1.out.files x hxm
   rw[hxn] at hF
   obtain⟨v,b0,b1,ho,hr⟩:=hF.row
   obtain⟨A,c,rfl,h1,h2⟩:=own_shape ho
   have z1:=hF.zf 1
   have HL:=Bx.mk (H1.out.last hxm)
   rw[hxn] at HL
   have HD:Bx (Calls Tryd.prog 45 #[.pointer (some ⟨d,0,none⟩)] (w1.setCell ⟨ad k,1,none⟩ (.int .i64 (x.bs.length:Int))) fun e w'=>e = .returned (.int .i64 0)∧Dsk w' g d mb ad ⟨s.room,put s.fs ⟨k,x.bs,x.bs.length⟩,tick s.left⟩∧Ch (fun b=>b=d) (w1.setCell ⟨ad k,1,none⟩ (.int .i64 (x.bs.length:Int))) w'):=⟨done_any HL.out (may_ok HMY.out).1⟩
   have HTG:Bx (g (ad k) ≠ .no∧g d ≠ .no):=⟨by rw[hF.tag]; exact (fun e=>by cases e),by rw[H.out.tag]; exact (fun e=>by cases e)⟩
   obtain⟨q,hq⟩:∃ q,x.bs.length=q:=⟨_,rfl⟩
   obtain⟨a,ha⟩:∃ a,ad k=a:=⟨_,rfl⟩
   rw[hq] at b0 HD HL HR
   rw[ha] at b0 b1 z1 HD HL hlk HTG
   clear hc1 hxm hxn hF ho hr h1 h2 HM hq ha
   go_wp2_with fail
   refine HD.out.mono ?_
   rintro e w2 ⟨rfl,hd2,hc2⟩
   go_wp2
   go_ret
   have hcs:=ch_set w1 a 1 (.int .i64 (q:Int))
   refine⟨HR.out.1,g,mb,ad,by rw[HR.out.2]; exact hd2,⟨?_,fun b hb => .inl hb⟩⟩
   exact ((HC1.out.mono (fun _ _ h=>h.elim)).trans hcs (fun i _ hi=>by rw[hi]; exact HTG.out.1)).trans hc2 (fun i _ hi=>by rw[hi]; exact HTG.out.2)
 ·have HR:Bx (Ending.returned (.int .i64 (m:Int)) = .returned (.int .i64 ((opSync s k).1:Int))∧(opSync s k).2=s):=⟨by unfold opSync; rw[if_pos (by rw[hm]; exact h0),hm]; exact⟨rfl,rfl⟩⟩
  have h0':¬ (m:Int)=0:=by omega
  clear hm
  go_enter Tryd.func76,Tryd.ntmps76
  go_wp2_with fail
  refine HM.out.mono ?_
  rintro e w1 ⟨rfl,hc1⟩
  go_wp2
  go_ret
  exact⟨HR.out.1,g,mb,ad,by rw[HR.out.2]; exact H.out.keep hc1,Dgo.quiet hc1⟩
end
end
section
open Go.RowKit Go.Oct Go.Su Go.Dk Go.Maps
section
variable {w w':World} {g g':Nat→Tg} {d:Nat} {mb:Option Nat} {ad:Key→Nat} {s s':Ds} {F S:Nat→Prop} {x y:Fl} {k:Key}
theorem ch_turned {b:Nat} (h:w.mapTurned w' b):Ch (fun i=>i=b) w w':=by
 have hg:=h.grown
 exact⟨hg.os,hg.tape,hg.output,hg.size,fun i hi hn=>hg.block i hi (fun e=>hn (by injection e))⟩
theorem Dsk.out {b n:Nat} (h:Dsk w g d (some b) ad s) (hx:x∈s.fs) (h0:x.bs.length=0) (hc:Ch (fun i=>i=b) w w') (hm:w'.ownsMap Tryd.prog 9 heldR b n ((mapD s.fs ad).del (.string x.nm))):Dsk w' g d (some b) ad ⟨s.room,del s.fs x.nm,s.left⟩:=by
 obtain⟨hb,ho⟩:=h.some_ b rfl
 have hdb:d≠b:=fun e=>by have:=h.tag; rw[e,hb] at this; cases this
 have hu:=used_at h.ok.fine.rise hx
 obtain⟨fz,lf,c3,c4,hf⟩:=h.fuse
 have hlt:∀ p:Addr,p.block=d→w.cell? p=w'.cell? p:=fun p hp=>(World.cell?_of_block (w:=w) (hc.block p.block (by rw[hp]; exact h.lt_d) (by rw[hp]; exact hdb))).symm
 refine⟨h.ok.del _ _,fun i hi=>Nat.lt_of_lt_of_le (h.lt i hi) hc.size,h.tag,fun j=>?_,(hlt _ rfl).symm.trans h.c0,(hlt _ rfl).symm.trans h.c1,?_,⟨fz,lf,(hlt _ rfl).symm.trans c3,(hlt _ rfl).symm.trans c4,hf⟩,(fun e=>by cases e),fun i hi=>?_,fun z hz=>?_⟩
 ·rw[hc.frozen (p:=⟨d,j,none⟩) hdb h.lt_d]; exact h.zf j
 ·rw[←hlt _ rfl,h.c2,hu,h0,Nat.add_zero]
 ·injection hi with hi
  subst hi
  refine⟨hb,?_⟩
  have h1:=own_tight hm
  rw[del_canon mapLaw h.ok.fine.rise hm,size_mapD] at h1
  exact h1
 ·exact (h.files z (mem_del.1 hz).1).ch hc fun i hi e=>by
   subst e
   rw[hb] at hi
   rcases hi with hi | hi <;> cases hi
theorem put_cut_del (fs:Fs) (f:Fl):del (put fs f) f.nm=del fs f.nm:=by
 have e1:lo (put fs f) f.nm=lo fs f.nm:=by
  show (lo fs f.nm++f::hi fs f.nm).filter _=lo fs f.nm
  rw[List.filter_append,List.filter_cons_of_neg (by simp[key_irrefl]),List.filter_eq_self.2 (fun z hz=>by simpa using (mem_lo.1 hz).2),List.filter_eq_nil_iff.2 (fun z hz=>by simpa using key_le_of_lt (mem_hi.1 hz).2),List.append_nil]
 have e2:hi (put fs f) f.nm=hi fs f.nm:=by
  show (lo fs f.nm++f::hi fs f.nm).filter _=hi fs f.nm
  rw[List.filter_append,List.filter_cons_of_neg (by simp[key_irrefl]),List.filter_eq_nil_iff.2 (fun z hz=>by simpa using key_le_of_lt (mem_lo.1 hz).2),List.filter_eq_self.2 (fun z hz=>by simpa using (mem_hi.1 hz).2),List.nil_append]
 unfold del
 rw[e1,e2]
theorem drop_any (h:Dsk w g d mb ad s) (hk:k.length≤9223372036854775807):Calls Tryd.prog 77 #[pv d,kv k] w fun e w'=>e = .returned (.tuple #[])∧Dsk w' g d mb ad ⟨s.room,del s.fs k,s.left⟩∧Dgo w g w' g:=by
 have hp:pv d = .pointer (some ⟨d,0,none⟩):=rfl
 have H:=Bx.mk h
 have HKL:=Bx.mk hk
 obtain⟨S,hkv⟩:∃ S,kv k = .string S:=⟨_,rfl⟩
 have HKV:=Bx.mk hkv
 have c0:=h.c0
 rw[hp]
 rw[hkv]
 clear hp h hk hkv
 cases hf:fnd s.fs k with
 | none =>
  have hlk:=H.out.look_no hf (by unfold maxLen; exact HKL.out)
  rw[HKV.out] at hlk
  have HR:Bx (Dsk w g d mb ad ⟨s.room,del s.fs k,s.left⟩):=⟨by rw[del_no H.out.ok.fine.rise (fnd_none hf)]; exact H.out⟩
  clear hf
  go_enter Tryd.func77,Tryd.ntmps77
  go_wp2
  go_returns
  exact⟨rfl,HR.out,Dgo.refl _ _⟩
 | some x =>
  obtain⟨hxm,hxn⟩:=fnd_some hf
  obtain⟨b,rfl⟩:∃ b,mb=some b:=by
   cases mb with
   | none=>rw[H.out.none_ rfl] at hxm; simp at hxm
   | some b=>exact⟨b,rfl⟩
  have hlk:=H.out.look_yes hf (by unfold maxLen; exact HKL.out)
  rw[HKV.out] at hlk
  have HC:=Bx.mk (cut_any H.out hxm (n:=0) (Nat.zero_le _))
  rw[hxn,show pv d = .pointer (some ⟨d,0,none⟩) from rfl,show pv (ad k) = .pointer (some ⟨ad k,0,none⟩) from rfl] at HC
  have HTG:Bx (g (ad k) ≠ .no∧g d ≠ .no∧g b ≠ .no):=⟨by rw[←hxn,(H.out.files x hxm).tag]; exact (fun e=>by cases e),by rw[H.out.tag]; exact (fun e=>by cases e),by rw[(H.out.some_ b rfl).1]; exact (fun e=>by cases e)⟩
  have HXM:=Bx.mk hxm
  have HXN:=Bx.mk hxn
  clear hf hxm hxn
  obtain⟨a,ha⟩:∃ a,ad k=a:=⟨_,rfl⟩
  rw[ha] at hlk HC HTG
  clear ha
  go_enter Tryd.func77,Tryd.ntmps77
  go_wp2_with fail
  refine HC.out.mono ?_
  rintro e w1 ⟨rfl,hd1,hc1⟩
  have HD1:=Bx.mk hd1
  have c01:=hd1.c0
  have hown:=(hd1.some_ b rfl).2
  have HC1:=Bx.mk hc1
  clear hlk hd1 hc1 c0
  obtain⟨w2,hdel,hown2,hturn2⟩:=hown.drop mapLaw mapT (key := .string S) (kl := .string k) (by rw[←HKV.out]; exact key_of (by unfold maxLen; exact HKL.out)) 0
  have HR:Bx (Dsk w2 g d (some b) ad ⟨s.room,del s.fs k,s.left⟩∧Ch (fun i=>i=b) w1 w2):=⟨by
   have hc2:=ch_turned hturn2
   refine⟨?_,hc2⟩
   have hne:(cutF x 0).nm=k:=HXN.out
   have h1:=HD1.out.out (x:=cutF x 0) (w':=w2) (n:=(put s.fs (cutF x 0)).length) (mem_put.2 (.inl rfl)) (by simp[cutF]) hc2 (by rw[hne]; exact hown2)
   rw[put_cut_del,hne] at h1
   exact h1⟩
  clear hown hown2 hturn2
  go_wp2
  go_returns
  exact⟨rfl,HR.out.1,⟨(HC1.out.mono (fun i _ hi=>hi.elim (fun e=>e ▸ HTG.out.2.1) (fun e=>e ▸ HTG.out.1))).trans HR.out.2 (fun i _ hi=>by rw[hi]; exact HTG.out.2.2),fun b hb => .inl hb⟩⟩
theorem remove_any (h:Dsk w g d mb ad s) (hk:k.length≤9223372036854775807):Calls Tryd.prog 67 #[pv d,kv k] w (Post (opRem s k) d w g):=by
 have hp:pv d = .pointer (some ⟨d,0,none⟩):=rfl
 have HM:=Bx.mk (may1_any h hk)
 have H:=Bx.mk h
 have HKL:=Bx.mk hk
 have HDR:Bx (∀ w1,Ch (fun _=>False) w w1→Calls Tryd.prog 77 #[pv d,kv k] w1 fun e w'=>e = .returned (.tuple #[])∧Dsk w' g d mb ad ⟨s.room,del s.fs k,s.left⟩∧Dgo w1 g w' g):=⟨fun w1 hc=>drop_any (h.keep hc) hk⟩
 obtain⟨S,hkv⟩:∃ S,kv k = .string S:=⟨_,rfl⟩
 obtain⟨m,hm⟩:∃ m,may s k=m:=⟨_,rfl⟩
 have HKV:=Bx.mk hkv
 rw[hp] at HM HDR ⊢
 rw[hkv] at HM HDR ⊢
 rw[hm] at HM
 clear hp h hk hkv
 by_cases h0:m=0
 ·subst h0
  have HMY:=Bx.mk hm
  clear hm
  cases hf:fnd s.fs k with
  | none =>
   have HR:Bx (Ending.returned (.int .i64 7) = .returned (.int .i64 ((opRem s k).1:Int))∧(opRem s k).2=s):=⟨by unfold opRem; rw[if_neg (by simp[HMY.out]),hf]; exact⟨rfl,rfl⟩⟩
   have HF:=Bx.mk hf
   clear hf
   go_enter Tryd.func67,Tryd.ntmps67
   go_wp2_with fail
   refine HM.out.mono ?_
   rintro e w1 ⟨rfl,hc1⟩
   have H1:=Bx.mk (H.out.keep hc1)
   have hlk:=H1.out.look_no HF.out (by unfold maxLen; exact HKL.out)
   have c0:=H1.out.c0
   rw[HKV.out] at hlk
   have HC1:=Bx.mk hc1
   clear hc1
   go_wp2
   go_ret
   exact⟨HR.out.1,g,mb,ad,by rw[HR.out.2]; exact H1.out,Dgo.quiet HC1.out⟩
  | some x =>
   have HF:=Bx.mk hf
   have HR:Bx (Ending.returned (.int .i64 0) = .returned (.int .i64 ((opRem s k).1:Int))∧(opRem s k).2=⟨s.room,del s.fs k,tick s.left⟩):=⟨by unfold opRem; rw[if_neg (by simp[HMY.out]),hf]; exact⟨rfl,rfl⟩⟩
   clear hf
   go_enter Tryd.func67,Tryd.ntmps67
   go_wp2_with fail
   refine HM.out.mono ?_
   rintro e w1 ⟨rfl,hc1⟩
   have H1:=Bx.mk (H.out.keep hc1)
   have hlk:=H1.out.look_yes HF.out (by unfold maxLen; exact HKL.out)
   have c0:=H1.out.c0
   rw[HKV.out] at hlk
   have HC1:=Bx.mk hc1
   have HDR1:=Bx.mk (HDR.out w1 hc1)
   clear hc1 HM HDR
   go_wp2_with fail
   refine HDR1.out.mono ?_
   rintro e w2 ⟨rfl,hd2,hg2⟩
   have HD:Bx (Calls Tryd.prog 45 #[.pointer (some ⟨d,0,none⟩)] w2 fun e w'=>e = .returned (.int .i64 0)∧Dsk w' g d mb ad ⟨s.room,del s.fs k,tick s.left⟩∧Ch (fun b=>b=d) w2 w'):=⟨done_any hd2 (may_ok HMY.out).1⟩
   have HG2:=Bx.mk hg2
   clear hd2 hg2 hlk c0
   go_wp2_with fail
   refine HD.out.mono ?_
   rintro e w3 ⟨rfl,hd3,hc3⟩
   go_wp2
   go_ret
   exact⟨HR.out.1,g,mb,ad,by rw[HR.out.2]; exact hd3,((Dgo.quiet HC1.out).trans HG2.out).trans ⟨hc3.mono (fun i _ hi=>by rw[hi,H.out.tag]; exact (fun e=>by cases e)),fun b hb => .inl hb⟩⟩
 ·have HR:Bx (Ending.returned (.int .i64 (m:Int)) = .returned (.int .i64 ((opRem s k).1:Int))∧(opRem s k).2=s):=⟨by unfold opRem; rw[if_pos (by rw[hm]; exact h0),hm]; exact⟨rfl,rfl⟩⟩
  have h0':¬ (m:Int)=0:=by omega
  clear hm
  go_enter Tryd.func67,Tryd.ntmps67
  go_wp2_with fail
  refine HM.out.mono ?_
  rintro e w1 ⟨rfl,hc1⟩
  go_wp2
  go_ret
  exact⟨HR.out.1,g,mb,ad,by rw[HR.out.2]; exact H.out.keep hc1,Dgo.quiet hc1⟩
end
end
end Go.Proofs.YtoolcbaipinloaaDoor
