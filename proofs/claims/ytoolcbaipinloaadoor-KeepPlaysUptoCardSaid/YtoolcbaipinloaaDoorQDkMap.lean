/- Lemmas and contracts of this proof. Conditions: said at each. -/
import Derived.Test.YtoolcbaipinloaaDoorQGOcWords
import Derived.Maps.OwnSet
import Derived.Maps.RangeWalk
import Derived.Sort.KeysCollected
namespace Go.Dk
open Go.RowKit Go.Oct Go.Maps Go.WideShapes
def kv (k:Key):Value := .string ⟨k.toArray⟩
theorem kv_data (s:ByteArray):kv s.data.toList = .string s:=rfl
theorem key_list (k:Key):(⟨k.toArray⟩:ByteArray).data.toList=k:=by simp
theorem key_size (k:Key):(⟨k.toArray⟩:ByteArray).size=k.length:=by simp[ByteArray.size]
def pv (a:Nat):Value := .pointer (some ⟨a,0,none⟩)
def heldR (v:Value):Option (DataW Value×List MemPlace):=some (.held v,[])
def mapD (fs:Fs) (ad:Key→Nat):DataW Value := .map (fs.map fun x=>(Lit.string x.nm, .held (pv (ad x.nm))))
section
variable {fs:Fs} {ad:Key→Nat} {k:Key}
theorem str_before {a b:Key}:(Lit.string a).before (.string b)=decide (a<b):=by
 show bytesBefore a b=decide (a<b)
 induction a generalizing b with
 | nil=>cases b <;> simp[bytesBefore]
 | cons x a ih =>
  cases b with
  | nil=>simp[bytesBefore]
  | cons y b =>
   unfold bytesBefore
   rw[ih,Bool.eq_iff_iff]
   simp only[List.cons_lt_cons_iff,Bool.or_eq_true,Bool.and_eq_true,decide_eq_true_eq,beq_iff_eq]
theorem lit_key (k:Key):WideAt.IsKeyLit (.string k):=trivial
theorem canon_mapD (h:Rise (nms fs)):Canon (mapD fs ad):=by
 refine⟨_,rfl,?_,fun p hp=>?_⟩
 ·rw[List.pairwise_map]
  unfold Rise nms at h
  rw[List.pairwise_map] at h
  exact h.imp fun {a b} hab=>by rw[str_before]; simpa using hab
 ·obtain⟨x,_,rfl⟩:=List.mem_map.1 hp
  exact lit_key _
theorem has_mapD (fs:Fs) (ad:Key→Nat) (k:Key):has (mapD fs ad) (.string k)=(fnd fs k).isSome:=by
 unfold mapD
 rw[has_eq]
 unfold fnd
 induction fs with
 | nil=>rfl
 | cons a l ih =>
  rw[List.map_cons,List.any_cons,ih,List.find?_cons]
  by_cases h:a.nm=k
  ·subst h; simp[Lit.sameKey]
  ·have:(Lit.string a.nm).sameKey (.string k)=false:=sameKey_ne (fun e=>h (by injection e))
   simp[this,h]
theorem has_mapD_no (fs:Fs) (ad:Key→Nat) {kl:Lit} (h:∀ k,kl ≠ .string k):has (mapD fs ad) kl=false:=by
 unfold mapD
 rw[has_eq,List.any_eq_false]
 intro p hp
 obtain⟨x,_,rfl⟩:=List.mem_map.1 hp
 simp only[Bool.not_eq_true]
 exact sameKey_ne (fun e=>h _ e.symm)
theorem at_mapD (h:Rise (nms fs)) {f:Fl} (hf:fnd fs k=some f) (z:DataW Value):(mapD fs ad).atKey (.string k) z = .held (pv (ad k)):=by
 obtain⟨hm,rfl⟩:=fnd_some hf
 obtain⟨es,e,hs,_⟩:=canon_mapD (ad:=ad) h
 have he:es=fs.map fun x=>(Lit.string x.nm, .held (pv (ad x.nm))):=by unfold mapD at e; injection e with e; exact e.symm
 rw[e]
 exact WideAt.atKey_mem z (k := .string f.nm) (d := .held (pv (ad f.nm))) (lit_key _) (apart_of_rising hs) (by rw[he]; exact List.mem_map_of_mem (f:=fun x:Fl=>(Lit.string x.nm,DataW.held (pv (ad x.nm)))) hm)
theorem at_mapD_no (hf:fnd fs k=none) (z:DataW Value):(mapD fs ad).atKey (.string k) z=z:=atKey_of_not_has (by rw[has_mapD,hf]; rfl) z
theorem size_mapD (fs:Fs) (ad:Key→Nat):Maps.size (mapD fs ad)=fs.length:=by unfold mapD; rw[size_eq,List.length_map]
theorem isMap_mapD (fs:Fs) (ad:Key→Nat):IsMap (mapD fs ad):=⟨_,rfl⟩
def at1 (ad:Key→Nat) (k:Key) (a:Nat):Key→Nat:=fun j=>if j=k then a else ad j
theorem put_canon {P:Program} {kt:TypeId} {w:World} {b n:Nat} (K:Keyed P kt) {f:Fl} {a:Nat} (h:Rise (nms fs)) (hown:w.ownsMap P kt heldR b n ((mapD fs ad).put (.string f.nm) (.held (pv a)))):(mapD fs ad).put (.string f.nm) (.held (pv a))=mapD (put fs f) (at1 ad f.nm a):=by
 refine Maps.ext (hown.canon K) (canon_mapD (rise_put h f)) (fun kl=>?_) (fun kl z hk=>?_)
 ·by_cases e:kl = .string f.nm
  ·subst e
   rw[has_put_same (isMap_mapD _ _) (lit_key _),has_mapD,fnd_put_same h]
   rfl
  ·rw[has_put_other e]
   by_cases es:∃ k,kl = .string k
   ·obtain⟨k,rfl⟩:=es
    rw[has_mapD,has_mapD,fnd_put_other h (fun e2=>e (by rw[e2]))]
   ·rw[has_mapD_no _ _ (fun k e=>es ⟨k,e⟩),has_mapD_no _ _ (fun k e=>es ⟨k,e⟩)]
 ·by_cases e:kl = .string f.nm
  ·subst e
   rw[atKey_put_same (isMap_mapD _ _) (lit_key _),at_mapD (rise_put h f) (fnd_put_same h f)]
   simp[at1]
  ·rw[has_put_other e] at hk
   rw[atKey_put_other e]
   by_cases es:∃ k,kl = .string k
   ·obtain⟨k,rfl⟩:=es
    have hne:k≠f.nm:=fun e2=>e (by rw[e2])
    rw[has_mapD] at hk
    obtain⟨g,hg⟩:=Option.isSome_iff_exists.1 hk
    rw[at_mapD h hg,at_mapD (rise_put h f) (by rw[fnd_put_other h hne]; exact hg)]
    simp[at1,hne]
   ·rw[has_mapD_no _ _ (fun k e=>es ⟨k,e⟩)] at hk
    cases hk
theorem del_canon {P:Program} {kt:TypeId} {w:World} {b n:Nat} (K:Keyed P kt) {k:Key} (h:Rise (nms fs)) (hown:w.ownsMap P kt heldR b n ((mapD fs ad).del (.string k))):(mapD fs ad).del (.string k)=mapD (del fs k) ad:=by
 refine Maps.ext (hown.canon K) (canon_mapD (rise_del h k)) (fun kl=>?_) (fun kl z hk=>?_)
 ·by_cases e:kl = .string k
  ·subst e
   rw[has_del_same,has_mapD,fnd_del_same]
   rfl
  ·rw[has_del_other e]
   by_cases es:∃ k,kl = .string k
   ·obtain⟨j,rfl⟩:=es
    rw[has_mapD,has_mapD,fnd_del_other h (fun e2=>e (by rw[e2]))]
   ·rw[has_mapD_no _ _ (fun k e=>es ⟨k,e⟩),has_mapD_no _ _ (fun k e=>es ⟨k,e⟩)]
 ·by_cases e:kl = .string k
  ·subst e
   rw[has_del_same] at hk
   cases hk
  ·rw[has_del_other e] at hk
   rw[atKey_del_other e]
   by_cases es:∃ k,kl = .string k
   ·obtain⟨j,rfl⟩:=es
    have hne:j≠k:=fun e2=>e (by rw[e2])
    rw[has_mapD] at hk
    obtain⟨g,hg⟩:=Option.isSome_iff_exists.1 hk
    rw[at_mapD h hg,at_mapD (rise_del h k) (by rw[fnd_del_other h hne]; exact hg)]
   ·rw[has_mapD_no _ _ (fun k e=>es ⟨k,e⟩)] at hk
    cases hk
theorem own_tight {P:Program} {kt:TypeId} {w:World} {b n:Nat} {R:Value→Option (DataW Value×List MemPlace)} {D:DataW Value} (h:w.ownsMap P kt R b n D):w.ownsMap P kt R b (Maps.size D) D:=by
 obtain⟨es,c,h1,h2,h3,rfl⟩:=h
 exact⟨es,c,h1,h2,by rw[size_eq,length_read]; exact Nat.le_refl _,rfl⟩
theorem strKeys_mapD (fs:Fs) (ad:Key→Nat):strKeys (mapD fs ad)=nms fs:=by
 show (fs.map fun x=>(Lit.string x.nm,DataW.held (pv (ad x.nm)))).map (fun p=>strOf p.1)=fs.map (·.nm)
 rw[List.map_map]
 rfl
end
end Go.Dk
