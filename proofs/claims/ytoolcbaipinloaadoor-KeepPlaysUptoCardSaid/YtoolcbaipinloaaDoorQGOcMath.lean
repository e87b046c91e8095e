/- Lemmas and contracts of this proof. Conditions: said at each. -/
import Derived.WalkKit
import Derived.Maps.Ext
namespace Go.Oct
section
open Go.RowKit
theorem take_more {α:Type} {zs:List α} {k:Nat} {z:α} (h:zs[k]? = some z):zs.take (k+1)=zs.take k++[z]:=by
 rw[List.take_add_one,h]; rfl
def cat (xss:List (List Int)):List Int:=xss.flatten
theorem cat_more {l:List (List Int)} {k:Nat} {a:List Int} (h:l[k]? = some a):cat (l.take (k+1))=cat (l.take k)++a:=by
 unfold cat
 rw[take_more h]
 simp
theorem cat_app (a b:List (List Int)):cat (a++b)=cat a++cat b:=by simp[cat]
theorem cat_take (l:List (List Int)):∀ k,(cat (l.take k)).length≤(cat l).length:=by
 intro k
 have:cat l=cat (l.take k)++cat (l.drop k):=by rw[←cat_app,List.take_append_drop]
 rw[this,List.length_append]
 omega
theorem cat_room {l:List (List Int)} {k:Nat} {a:List Int} (h:l[k]? = some a):(cat (l.take k)).length+a.length≤(cat l).length:=by
 have:=cat_take l (k+1)
 rw[cat_more h,List.length_append] at this
 exact this
def tabN:List Nat:=[0,498536548,997073096,651767980,1994146192,1802195444,1303535960,1342533948,3988292384,4027552580,3604390888,3412177804,2607071920,2262029012,2685067896,3183342108]
def nib (s:Nat):Nat:=(s/16) ^^^ tabN.getD (s%16) 0
def stepN (s x:Nat):Nat:=nib (nib (s ^^^ x))
def sumFrom (s:Nat) (xs:List Int):Nat:=xs.foldl (fun s x=>stepN s x.toNat) s
def sumN (xs:List Int):Nat:=4294967295-sumFrom 4294967295 xs
theorem tab_lt (i:Nat) (h:i<16):tabN.getD i 0<4294967296:=by
 have:∀ i:Fin 16,tabN.getD i.val 0<4294967296:=by decide
 exact this ⟨i,h⟩
theorem xor_lt32 {a b:Nat} (ha:a<4294967296) (hb:b<4294967296):a ^^^ b<4294967296:=Nat.xor_lt_two_pow (n:=32) ha hb
theorem sumFrom_more {xs:List Int} {k:Nat} {x:Int} (s:Nat) (h:xs[k]? = some x):sumFrom s (xs.take (k+1))=stepN (sumFrom s (xs.take k)) x.toNat:=by
 unfold sumFrom
 rw[take_more h,List.foldl_append]
 rfl
theorem sumFrom_app (s:Nat) (xs ys:List Int):sumFrom s (xs++ys)=sumFrom (sumFrom s xs) ys:=by
 unfold sumFrom
 rw[List.foldl_append]
def Byt (xs:List Int):Prop:=∀ x∈xs,0≤x∧x<256
theorem Byt.at_ {xs:List Int} (h:Byt xs) {k:Nat} {x:Int} (e:xs[k]? = some x):0≤x∧x<256:=h x (List.mem_of_getElem? e)
end
end Go.Oct
namespace Go.Dk
section
abbrev Key:=List UInt8
def okN (k:Key):Prop:=1≤k.length∧k.length≤64
instance (k:Key):Decidable (okN k):=by unfold okN; exact inferInstance
/-! ### the order -/
theorem key_irrefl (a:Key):¬ a<a:=List.lt_irrefl a
theorem key_trans {a b c:Key} (h:a<b) (k:b<c):a<c:=List.lt_trans h k
theorem key_tri (a b:Key):a<b∨a=b∨b<a:=by
 by_cases h:a<b
 ·exact .inl h
 ·by_cases k:b<a
  ·exact .inr (.inr k)
  ·exact .inr (.inl (List.le_antisymm (List.not_lt.1 k) (List.not_lt.1 h)))
theorem key_le_of_lt {a b:Key} (h:a<b):¬ b<a:=fun k=>key_irrefl a (key_trans h k)
theorem key_ne {a b:Key} (h:a<b):a≠b:=fun e=>by subst e; exact key_irrefl _ h
def Srt (l:List Key):Prop:=l.Pairwise fun a b=>¬ b<a
def Rise (l:List Key):Prop:=l.Pairwise fun a b=>a<b
theorem Rise.srt {l:List Key} (h:Rise l):Srt l:=h.imp key_le_of_lt
theorem srt_uniq {l m:List Key} (hl:Srt l) (hm:Srt m) (hp:l.Perm m):l=m :=
 List.Perm.eq_of_pairwise (le:=fun a b=>¬ b<a) (fun a b _ _ h1 h2=>by
  rcases key_tri a b with h | h | h
  ·exact absurd h h2
  ·exact h
  ·exact absurd h h1) hl hm hp
/-! ### files -/
structure Fl where
 nm:Key
 bs:List Int
 la:Nat
abbrev Fs:=List Fl
def nms (fs:Fs):List Key:=fs.map (·.nm)
def used (fs:Fs):Nat:=(fs.map fun f=>f.bs.length).sum
def fnd (fs:Fs) (k:Key):Option Fl:=fs.find? fun f=>decide (f.nm=k)
def lo (fs:Fs) (k:Key):Fs:=fs.filter fun f=>decide (f.nm<k)
def hi (fs:Fs) (k:Key):Fs:=fs.filter fun f=>decide (k<f.nm)
def put (fs:Fs) (f:Fl):Fs:=lo fs f.nm++f::hi fs f.nm
def del (fs:Fs) (k:Key):Fs:=lo fs k++hi fs k
structure Fine (fs:Fs):Prop where
 rise:Rise (nms fs)
 ok:∀ f∈fs,okN f.nm
 la:∀ f∈fs,f.la≤f.bs.length
 byte:∀ f∈fs,∀ x∈f.bs,0≤x∧x<256
theorem Fine.nil:Fine []:=⟨List.Pairwise.nil,by simp,by simp,by simp⟩
section
variable {fs:Fs} {f g:Fl} {k j:Key}
theorem nms_len (fs:Fs):(nms fs).length=fs.length:=by simp[nms]
theorem mem_lo:f∈lo fs k↔f∈fs∧f.nm<k:=by simp[lo]
theorem mem_hi:f∈hi fs k↔f∈fs∧k<f.nm:=by simp[hi]
theorem mem_put:g∈put fs f↔g=f∨(g∈fs∧g.nm≠f.nm):=by
 unfold put
 rw[List.mem_append,List.mem_cons,mem_lo,mem_hi]
 constructor
 ·rintro (⟨h,h1⟩ | h | ⟨h,h1⟩)
  ·exact .inr ⟨h,key_ne h1⟩
  ·exact .inl h
  ·exact .inr ⟨h,(key_ne h1).symm⟩
 ·rintro (h | ⟨h,h1⟩)
  ·exact .inr (.inl h)
  ·rcases key_tri g.nm f.nm with h2 | h2 | h2
   ·exact .inl ⟨h,h2⟩
   ·exact absurd h2 h1
   ·exact .inr (.inr ⟨h,h2⟩)
theorem mem_del:g∈del fs k↔g∈fs∧g.nm≠k:=by
 unfold del
 rw[List.mem_append,mem_lo,mem_hi]
 constructor
 ·rintro (⟨h,h1⟩ | ⟨h,h1⟩)
  ·exact⟨h,key_ne h1⟩
  ·exact⟨h,(key_ne h1).symm⟩
 ·rintro ⟨h,h1⟩
  rcases key_tri g.nm k with h2 | h2 | h2
  ·exact .inl ⟨h,h2⟩
  ·exact absurd h2 h1
  ·exact .inr ⟨h,h2⟩
theorem rise_filter (h:Rise (nms fs)) (p:Fl→Bool):Rise (nms (fs.filter p)):=by
 unfold Rise nms at *
 rw[List.pairwise_map] at *
 exact h.filter p
theorem rise_put (h:Rise (nms fs)) (f:Fl):Rise (nms (put fs f)):=by
 unfold put
 unfold nms
 rw[List.map_append,List.map_cons]
 refine List.pairwise_append.2 ⟨rise_filter h _,List.pairwise_cons.2 ⟨fun b hb=>?_,rise_filter h _⟩,fun a ha b hb=>?_⟩
 ·obtain⟨x,hx,rfl⟩:=List.mem_map.1 hb
  exact (mem_hi.1 hx).2
 ·obtain⟨x,hx,rfl⟩:=List.mem_map.1 ha
  have h1:=(mem_lo.1 hx).2
  rcases List.mem_cons.1 hb with rfl | hb
  ·exact h1
  ·obtain⟨y,hy,rfl⟩:=List.mem_map.1 hb
   exact key_trans h1 (mem_hi.1 hy).2
theorem rise_del (h:Rise (nms fs)) (k:Key):Rise (nms (del fs k)):=by
 unfold del nms
 rw[List.map_append]
 refine List.pairwise_append.2 ⟨rise_filter h _,rise_filter h _,fun a ha b hb=>?_⟩
 obtain⟨x,hx,rfl⟩:=List.mem_map.1 ha
 obtain⟨y,hy,rfl⟩:=List.mem_map.1 hb
 exact key_trans (mem_lo.1 hx).2 (mem_hi.1 hy).2
theorem uniq (h:Rise (nms fs)) (hf:f∈fs) (hg:g∈fs) (e:f.nm=g.nm):f=g:=by
 unfold Rise nms at h
 rw[List.pairwise_map] at h
 obtain⟨i,hi,rfl⟩:=List.mem_iff_getElem.1 hf
 obtain⟨j,hj,rfl⟩:=List.mem_iff_getElem.1 hg
 rcases Nat.lt_trichotomy i j with h1 | h1 | h1
 ·exact absurd e (key_ne (List.pairwise_iff_getElem.1 h i j hi hj h1))
 ·subst h1; rfl
 ·exact absurd e.symm (key_ne (List.pairwise_iff_getElem.1 h j i hj hi h1))
theorem fnd_some (h:fnd fs k=some f):f∈fs∧f.nm=k:=⟨List.mem_of_find?_eq_some h,by simpa using List.find?_some h⟩
theorem fnd_none (h:fnd fs k=none):∀ f∈fs,f.nm≠k:=fun f hf=>by simpa using List.find?_eq_none.1 h f hf
theorem fnd_of (h:Rise (nms fs)) (hf:f∈fs):fnd fs f.nm=some f:=by
 cases hk:fnd fs f.nm with
 | none=>exact absurd rfl (fnd_none hk f hf)
 | some g=>rw[uniq h (fnd_some hk).1 hf (fnd_some hk).2]
theorem fnd_not (h:∀ f∈fs,f.nm≠k):fnd fs k=none:=by
 unfold fnd
 rw[List.find?_eq_none]
 intro x hx
 simpa using h x hx
theorem fnd_put_same (h:Rise (nms fs)) (f:Fl):fnd (put fs f) f.nm=some f:=fnd_of (rise_put h f) (mem_put.2 (.inl rfl))
theorem fnd_put_other (h:Rise (nms fs)) (hk:k≠f.nm):fnd (put fs f) k=fnd fs k:=by
 cases hj:fnd fs k with
 | none =>
  refine fnd_not fun g hg=>?_
  rcases mem_put.1 hg with rfl | ⟨hg,_⟩
  ·exact fun e=>hk e.symm
  ·exact fnd_none hj g hg
 | some g =>
  obtain⟨h1,rfl⟩:=fnd_some hj
  exact fnd_of (rise_put h f) (mem_put.2 (.inr ⟨h1,hk⟩))
theorem fnd_del_same (fs:Fs) (k:Key):fnd (del fs k) k=none:=fnd_not fun _ hg=>(mem_del.1 hg).2
theorem fnd_del_other (h:Rise (nms fs)) (hk:k≠j):fnd (del fs j) k=fnd fs k:=by
 cases hj:fnd fs k with
 | none=>exact fnd_not fun g hg=>fnd_none hj g (mem_del.1 hg).1
 | some g =>
  obtain⟨h1,rfl⟩:=fnd_some hj
  exact fnd_of (rise_del h j) (mem_del.2 ⟨h1,hk⟩)
theorem split_at (h:Rise (nms fs)) (hf:f∈fs):fs=lo fs f.nm++f::hi fs f.nm:=by
 obtain⟨a,b,rfl⟩:=List.append_of_mem hf
 unfold Rise nms at h
 rw[List.pairwise_map] at h
 obtain⟨_,h2,h3⟩:=List.pairwise_append.1 h
 obtain⟨h4,_⟩:=List.pairwise_cons.1 h2
 have e1:∀ x∈a,x.nm<f.nm:=fun x hx=>h3 x hx f (by simp)
 have e2:∀ x∈b,f.nm<x.nm:=h4
 unfold lo hi
 rw[List.filter_append,List.filter_append,List.filter_cons_of_neg (by simp[key_irrefl]),List.filter_cons_of_neg (by simp[key_irrefl]),
  List.filter_eq_self.2 (fun x hx=>by simpa using e1 x hx),List.filter_eq_nil_iff.2 (fun x hx=>by simpa using key_le_of_lt (e2 x hx)),
  List.filter_eq_nil_iff.2 (fun x hx=>by simpa using key_le_of_lt (e1 x hx)),List.filter_eq_self.2 (fun x hx=>by simpa using e2 x hx)]
 simp
theorem split_no (h:Rise (nms fs)) (hk:∀ f∈fs,f.nm≠k):fs=lo fs k++hi fs k:=by
 induction fs with
 | nil=>rfl
 | cons a l ih =>
  have h':=h
  unfold Rise nms at h'
  rw[List.map_cons] at h'
  obtain⟨h1,h2⟩:=List.pairwise_cons.1 h'
  have ih':=ih h2 (fun f hf=>hk f (by simp[hf]))
  rcases key_tri a.nm k with h3 | h3 | h3
  ·have e1:lo (a::l) k=a::lo l k:=by unfold lo; rw[List.filter_cons_of_pos (by simpa using h3)]
   have e2:hi (a::l) k=hi l k:=by unfold hi; rw[List.filter_cons_of_neg (by simpa using key_le_of_lt h3)]
   rw[e1,e2,List.cons_append,←ih']
  ·exact absurd h3 (hk a (by simp))
  ·have e0:∀ x∈a::l,k<x.nm:=fun x hx=>by
    rcases List.mem_cons.1 hx with rfl | hx
    ·exact h3
    ·exact key_trans h3 (h1 x.nm (List.mem_map_of_mem hx))
   unfold lo hi
   rw[List.filter_eq_nil_iff.2 (fun x hx=>by simpa using key_le_of_lt (e0 x hx)),List.filter_eq_self.2 (fun x hx=>by simpa using e0 x hx)]
   rfl
theorem used_app (a b:Fs):used (a++b)=used a+used b:=by simp[used]
theorem used_cons (f:Fl) (b:Fs):used (f::b)=f.bs.length+used b:=by simp[used]
theorem used_put (fs:Fs) (f:Fl):used (put fs f)=used (del fs f.nm)+f.bs.length:=by
 unfold put del
 rw[used_app,used_cons,used_app]
 omega
theorem used_at (h:Rise (nms fs)) (hf:f∈fs):used fs=used (del fs f.nm)+f.bs.length:=by
 have e:=split_at h hf
 have:used fs=used (lo fs f.nm++f::hi fs f.nm):=by rw[←e]
 rw[this,used_app,used_cons]
 unfold del
 rw[used_app]
 omega
theorem del_no (h:Rise (nms fs)) (hk:∀ f∈fs,f.nm≠k):del fs k=fs:=(split_no h hk).symm
theorem len_put_old (h:Rise (nms fs)) (hf:f∈fs) (hg:g.nm=f.nm):(put fs g).length=fs.length:=by
 have e:=split_at h hf
 have:fs.length=(lo fs f.nm++f::hi fs f.nm).length:=by rw[←e]
 rw[this]
 unfold put
 rw[hg]
 simp
theorem len_put_new (h:Rise (nms fs)) (hk:∀ f∈fs,f.nm≠g.nm):(put fs g).length=fs.length+1:=by
 have e:=split_no h hk
 have:fs.length=(lo fs g.nm++hi fs g.nm).length:=by rw[←e]
 rw[this]
 unfold put
 simp
 omega
theorem len_del (h:Rise (nms fs)) (hf:f∈fs):(del fs f.nm).length+1=fs.length:=by
 have e:=split_at h hf
 have:fs.length=(lo fs f.nm++f::hi fs f.nm).length:=by rw[←e]
 rw[this]
 unfold del
 simp
 omega
theorem Fine.put (h:Fine fs) {f:Fl} (h1:okN f.nm) (h2:f.la≤f.bs.length) (h3:∀ x∈f.bs,0≤x∧x<256):Fine (put fs f) :=
 ⟨rise_put h.rise f,fun g hg=>by rcases mem_put.1 hg with rfl | ⟨hg,_⟩ <;> first | exact h1 | exact h.ok g hg,
  fun g hg=>by rcases mem_put.1 hg with rfl | ⟨hg,_⟩ <;> first | exact h2 | exact h.la g hg,
  fun g hg=>by rcases mem_put.1 hg with rfl | ⟨hg,_⟩ <;> first | exact h3 | exact h.byte g hg⟩
theorem Fine.del (h:Fine fs) (k:Key):Fine (del fs k) :=
 ⟨rise_del h.rise k,fun g hg=>h.ok g (mem_del.1 hg).1,fun g hg=>h.la g (mem_del.1 hg).1,fun g hg=>h.byte g (mem_del.1 hg).1⟩
end
/-! ### the disk -/
structure Ds where
 room:Nat
 fs:Fs
 left:Option Nat
structure DsOk (s:Ds):Prop where
 fine:Fine s.fs
 used:used s.fs≤s.room
 room:s.room≤1073741824
 most:s.fs.length≤4096
def tick (o:Option Nat):Option Nat:=o.map (·-1)
def may (s:Ds) (k:Key):Nat:=if s.left=some 0 then 9 else if okN k then 0 else 1
def grow (o:Option Fl) (k:Key) (b:List Int):Fl:=match o with
 | none=>⟨k,b,0⟩
 | some f=>⟨k,f.bs++b,f.la⟩
def Room (s:Ds) (k:Key) (n:Nat):Prop:=used s.fs+n≤s.room∧(fnd s.fs k=none→s.fs.length<4096)
instance (s:Ds) (k:Key) (n:Nat):Decidable (Room s k n):=by
 unfold Room
 cases h:fnd s.fs k with
 | none=>simp only[true_implies]; exact inferInstance
 | some f=>simp only[reduceCtorEq,false_implies,and_true]; exact inferInstance
def opApp (s:Ds) (k:Key) (b:List Int):Nat×Ds :=
 if may s k≠0 then (may s k,s) else if Room s k b.length then (0,⟨s.room,put s.fs (grow (fnd s.fs k) k b),tick s.left⟩) else (6,s)
def opSync (s:Ds) (k:Key):Nat×Ds :=
 if may s k≠0 then (may s k,s) else match fnd s.fs k with
 | none=>(7,s)
 | some f=>(0,⟨s.room,put s.fs ⟨k,f.bs,f.bs.length⟩,tick s.left⟩)
def opRem (s:Ds) (k:Key):Nat×Ds :=
 if may s k≠0 then (may s k,s) else match fnd s.fs k with
 | none=>(7,s)
 | some _=>(0,⟨s.room,del s.fs k,tick s.left⟩)
def opRen (s:Ds) (a b:Key):Nat×Ds :=
 if may s a≠0 then (may s a,s) else if may s b≠0 then (may s b,s) else match fnd s.fs a with
 | none=>(7,s)
 | some f=>if a=b then (0,⟨s.room,s.fs,tick s.left⟩) else (0,⟨s.room,put (del s.fs a) ⟨b,f.bs,f.la⟩,tick s.left⟩)
def opFuse (s:Ds) (n:Int):Ds:=⟨s.room,s.fs,if n<0 then none else some n.toNat⟩
def stays (d:Nat) (f:Fl):Nat:=f.la+d%(f.bs.length-f.la+1)
def crashF (d:Nat) (f:Fl):Fl:=⟨f.nm,f.bs.take (stays d f),stays d f⟩
def opCrash (s:Ds) (n:Int):Ds:=⟨s.room,s.fs.map (crashF n.toNat),none⟩
def opRead (s:Ds) (k:Key):Option (List Int):=(fnd s.fs k).map (·.bs)
section
variable {s:Ds} {k a b:Key}
theorem stays_le {d:Nat} {f:Fl} (h:f.la≤f.bs.length):f.la≤stays d f∧stays d f≤f.bs.length:=by
 unfold stays
 have:=Nat.mod_lt d (show 0<f.bs.length-f.la+1 by omega)
 omega
theorem used_mono {fs:Fs} (p:Fl→Fl) (h:∀ f∈fs,(p f).bs.length≤f.bs.length):used (fs.map p)≤used fs:=by
 induction fs with
 | nil=>exact Nat.le_refl _
 | cons a l ih =>
  rw[List.map_cons,used_cons,used_cons]
  have h1:=h a (by simp)
  have h2:=ih fun f hf=>h f (by simp[hf])
  omega
theorem DsOk.fuse (h:DsOk s) (n:Int):DsOk (opFuse s n):=⟨h.fine,h.used,h.room,h.most⟩
theorem nms_crash (fs:Fs) (d:Nat):nms (fs.map (crashF d))=nms fs:=by
 unfold nms
 rw[List.map_map]
 rfl
theorem DsOk.crash (h:DsOk s) (n:Int):DsOk (opCrash s n):=by
 refine⟨⟨?_,fun f hf=>?_,fun f hf=>?_,fun f hf=>?_⟩,Nat.le_trans (used_mono _ fun f hf=>?_) h.used,h.room,by simpa[opCrash] using h.most⟩
 ·show Rise (nms (s.fs.map _))
  rw[nms_crash]
  exact h.fine.rise
 ·obtain⟨g,hg,rfl⟩:=List.mem_map.1 hf
  exact h.fine.ok g hg
 ·obtain⟨g,hg,rfl⟩:=List.mem_map.1 hf
  have:=stays_le (d:=n.toNat) (h.fine.la g hg)
  show stays _ g≤(g.bs.take _).length
  rw[List.length_take]
  omega
 ·obtain⟨g,hg,rfl⟩:=List.mem_map.1 hf
  intro x hx
  exact h.fine.byte g hg x (List.mem_of_mem_take hx)
 ·show (f.bs.take _).length≤_
  rw[List.length_take]
  omega
theorem may_ok (h:may s k=0):s.left≠some 0∧okN k:=by
 unfold may at h
 split at h
 ·cases h
 ·rename_i h1
  split at h
  ·rename_i h2
   exact⟨h1,h2⟩
  ·cases h
theorem used_fnd {fs:Fs} (h:Rise (nms fs)) {f:Fl} (hf:fnd fs k=some f):used fs=used (del fs k)+f.bs.length:=by
 obtain⟨h1,rfl⟩:=fnd_some hf
 exact used_at h h1
theorem DsOk.put_old (h:DsOk s) {f g:Fl} (hf:fnd s.fs g.nm=some f) (hl:Go.Dk.used s.fs-f.bs.length+g.bs.length≤s.room) (h1:g.la≤g.bs.length) (h2:∀ x∈g.bs,0≤x∧x<256) (o:Option Nat):DsOk ⟨s.room,put s.fs g,o⟩:=by
 obtain⟨hm,hn⟩:=fnd_some hf
 have hu:=used_fnd h.fine.rise hf
 refine⟨h.fine.put (hn ▸ h.fine.ok f hm) h1 h2,?_,h.room,?_⟩
 ·show Go.Dk.used (put s.fs g)≤s.room
  rw[used_put]
  omega
 ·show (put s.fs g).length≤4096
  rw[len_put_old h.fine.rise hm hn.symm]
  exact h.most
theorem DsOk.app (h:DsOk s) {bs:List Int} (hb:∀ x∈bs,0≤x∧x<256):DsOk (opApp s k bs).2:=by
 unfold opApp
 split
 ·exact h
 ·rename_i hm
  have hk:=(may_ok (by omega:may s k=0)).2
  split
  ·rename_i hr
   cases hf:fnd s.fs k with
   | none =>
    have hn:=fnd_none hf
    refine⟨h.fine.put hk (Nat.zero_le _) hb,?_,h.room,?_⟩
    ·show Go.Dk.used (put s.fs ⟨k,bs,0⟩)≤s.room
     rw[used_put,del_no h.fine.rise hn]
     exact hr.1
    ·show (put s.fs ⟨k,bs,0⟩).length≤4096
     rw[len_put_new h.fine.rise hn]
     exact hr.2 hf
   | some f =>
    have hm:=(fnd_some hf).1
    have hu:=used_fnd h.fine.rise hf
    refine h.put_old (g:=⟨k,f.bs++bs,f.la⟩) hf ?_ ?_ (fun x hx=>?_) _
    ·have:=hr.1
     simp only[List.length_append]
     omega
    ·have:=h.fine.la f hm
     simp only[List.length_append]
     omega
    ·rcases List.mem_append.1 hx with hx | hx
     ·exact h.fine.byte f hm x hx
     ·exact hb x hx
  ·exact h
theorem DsOk.sync (h:DsOk s):DsOk (opSync s k).2:=by
 unfold opSync
 split
 ·exact h
 ·split
  ·exact h
  ·rename_i f hf
   have hm:=(fnd_some hf).1
   have hu:=used_fnd h.fine.rise hf
   refine h.put_old (g:=⟨k,f.bs,f.bs.length⟩) hf ?_ (Nat.le_refl _) (h.fine.byte f hm) _
   have:=h.used
   show _-f.bs.length+f.bs.length≤_
   omega
theorem DsOk.del (h:DsOk s) (k:Key) (o:Option Nat):DsOk ⟨s.room,del s.fs k,o⟩:=by
 cases hf:fnd s.fs k with
 | none =>
  rw[del_no h.fine.rise (fnd_none hf)]
  exact⟨h.fine,h.used,h.room,h.most⟩
 | some f =>
  obtain⟨hm,rfl⟩:=fnd_some hf
  have hu:=used_at h.fine.rise hm
  have hl:=len_del h.fine.rise hm
  have h1:=h.used
  have h2:=h.most
  exact⟨h.fine.del _,by show Go.Dk.used (Go.Dk.del s.fs f.nm)≤s.room; omega,h.room,by show (Go.Dk.del s.fs f.nm).length≤4096; omega⟩
theorem DsOk.rem (h:DsOk s):DsOk (opRem s k).2:=by
 unfold opRem
 split
 ·exact h
 ·split
  ·exact h
  ·exact h.del k _
theorem used_del_le {fs:Fs} (h:Rise (nms fs)) (k:Key):Go.Dk.used (Go.Dk.del fs k)≤Go.Dk.used fs:=by
 cases hk:fnd fs k with
 | none=>rw[del_no h (fnd_none hk)]; exact Nat.le_refl _
 | some g=>have:=used_fnd h hk; omega
theorem len_put_le {fs:Fs} (h:Rise (nms fs)) (f:Fl):(put fs f).length≤fs.length+1:=by
 cases hk:fnd fs f.nm with
 | none=>rw[len_put_new h (fnd_none hk)]; exact Nat.le_refl _
 | some g=>rw[len_put_old h (fnd_some hk).1 (fnd_some hk).2.symm]; omega
theorem DsOk.ren (h:DsOk s):DsOk (opRen s a b).2:=by
 unfold opRen
 split
 ·exact h
 ·split
  ·exact h
  ·rename_i hb
   have hb:=(may_ok (by omega:may s b=0)).2
   split
   ·exact h
   ·rename_i f hf
    obtain⟨hm,rfl⟩:=fnd_some hf
    split
    ·exact⟨h.fine,h.used,h.room,h.most⟩
    ·have h1:=h.del f.nm s.left
     have hu:=used_at h.fine.rise hm
     have hl:=len_del h.fine.rise hm
     have hus:=h.used
     have hmo:=h.most
     have hr1:Rise (nms (Go.Dk.del s.fs f.nm)):=h1.fine.rise
     have e1:=used_del_le hr1 b
     have e2:=used_put (Go.Dk.del s.fs f.nm) ⟨b,f.bs,f.la⟩
     have e3:=len_put_le hr1 ⟨b,f.bs,f.la⟩
     refine⟨h1.fine.put hb (h.fine.la f hm) (h.fine.byte f hm),?_,h.room,?_⟩
     ·show Go.Dk.used (put (Go.Dk.del s.fs f.nm) ⟨b,f.bs,f.la⟩)≤s.room
      rw[e2]
      show Go.Dk.used (Go.Dk.del (Go.Dk.del s.fs f.nm) b)+f.bs.length≤s.room
      omega
     ·show (put (Go.Dk.del s.fs f.nm) ⟨b,f.bs,f.la⟩).length≤4096
      omega
end
end
end Go.Dk
namespace Go.Fr
section
open Go.Oct Go.RowKit
def four (n:Nat):List Int:=[((n%256:Nat):Int),((n/256%256:Nat):Int),((n/65536%256:Nat):Int),((n/16777216%256:Nat):Int)]
def unf (b:List Int) (i:Nat):Nat:=(b.getD i 0).toNat+256*(b.getD (i+1) 0).toNat+65536*(b.getD (i+2) 0).toNat+16777216*(b.getD (i+3) 0).toNat
theorem four_len (n:Nat):(four n).length=4:=rfl
theorem four_byt (n:Nat):Byt (four n):=fun x hx=>by
 simp only[four,List.mem_cons,List.not_mem_nil,or_false] at hx
 omega
theorem unf_four {n:Nat} (h:n<4294967296) (a c:List Int):unf (a++(four n++c)) a.length=n:=by
 have e:∀ j,(a++(four n++c)).getD (a.length+j) 0=(four n++c).getD j 0:=fun j=>by
  rw[List.getD_eq_getElem?_getD,List.getElem?_append_right (by omega),List.getD_eq_getElem?_getD]
  congr 2
  omega
 unfold unf
 have e0:=e 0
 rw[Nat.add_zero] at e0
 rw[e0,e 1,e 2,e 3]
 simp only[four,List.cons_append,List.getD_cons_zero,List.getD_cons_succ,Int.toNat_natCast]
 omega
theorem unf_lt {b:List Int} {i:Nat} (hb:Byt b) (hi:i+4≤b.length):unf b i<4294967296:=by
 have g:∀ j,i+j<b.length→0≤b.getD (i+j) 0∧b.getD (i+j) 0<256:=fun j hj=>by
  rw[List.getD_eq_getElem?_getD,List.getElem?_eq_getElem hj]
  exact hb _ (List.getElem_mem hj)
 have h0:=g 0 (by omega)
 have h1:=g 1 (by omega)
 have h2:=g 2 (by omega)
 have h3:=g 3 (by omega)
 rw[Nat.add_zero] at h0
 unfold unf
 omega
theorem sumN_lt {xs:List Int}:sumN xs<4294967296:=by unfold sumN; omega
def hd (n:Nat):List Int:=four n++four (sumN (four n))
def frm (p:List Int):List Int:=hd p.length++p++four (sumN (hd p.length++p))
theorem hd_len (n:Nat):(hd n).length=8:=rfl
theorem frm_len (p:List Int):(frm p).length=12+p.length:=by
 unfold frm
 simp[hd_len,four_len]
 omega
theorem hd_byt (n:Nat):Byt (hd n):=fun x hx=>by
 rcases List.mem_append.1 hx with h | h
 ·exact four_byt _ x h
 ·exact four_byt _ x h
theorem frm_byt {p:List Int} (hp:Byt p):Byt (frm p):=fun x hx=>by
 unfold frm at hx
 rcases List.mem_append.1 hx with h | h
 ·rcases List.mem_append.1 h with h | h
  ·exact hd_byt _ x h
  ·exact hp x h
 ·exact four_byt _ x h
def decF (b:List Int):List Int×Nat×Int :=
 if b.length<8 then ([],0,2)
 else if unf b 4≠sumN (b.take 4) then ([],0,4)
 else if 1048576<unf b 0 then ([],0,5)
 else if b.length<12+unf b 0 then ([],0,2)
 else if unf b (8+unf b 0)≠sumN (b.take (8+unf b 0)) then ([],0,4)
 else ((b.drop 8).take (unf b 0),12+unf b 0,0)
def oneF (b:List Int):List Int×Int:=if (decF b).2.2≠0 then ([],(decF b).2.2) else if (decF b).2.1≠b.length then ([],3) else ((decF b).1,0)
theorem decF_frm {p:List Int} (h:p.length≤1048576) (more:List Int):decF (frm p++more)=(p,12+p.length,0):=by
 have hl:(frm p++more).length=12+p.length+more.length:=by simp[frm_len]
 have e0:unf (frm p++more) 0=p.length:=by
  have:=unf_four (n:=p.length) (by omega) [] (four (sumN (four p.length))++p++four (sumN (hd p.length++p))++more)
  simpa[frm,hd] using this
 have e4:unf (frm p++more) 4=sumN (four p.length):=by
  have:=unf_four (n:=sumN (four p.length)) sumN_lt (four p.length) (p++four (sumN (hd p.length++p))++more)
  simpa[frm,hd,four_len] using this
 have t4:(frm p++more).take 4=four p.length:=by
  simp[frm,hd,List.take_append,four_len]
  exact List.take_of_length_le (Nat.le_refl _)
 have e8:unf (frm p++more) (8+p.length)=sumN (hd p.length++p):=by
  have:=unf_four (n:=sumN (hd p.length++p)) sumN_lt (hd p.length++p) more
  rw[show (hd p.length++p).length=8+p.length by simp[hd_len]] at this
  simpa[frm] using this
 have t8:(frm p++more).take (8+p.length)=hd p.length++p:=by
  have e:frm p++more=(hd p.length++p)++(four (sumN (hd p.length++p))++more):=by simp[frm]
  rw[e,List.take_append_of_le_length (by simp[hd_len]),List.take_of_length_le (by simp[hd_len])]
 have d8:((frm p++more).drop 8).take p.length=p:=by
  have e:frm p++more=hd p.length++(p++(four (sumN (hd p.length++p))++more)):=by simp[frm]
  rw[e,List.drop_append_of_le_length (by simp[hd_len]),List.drop_eq_nil_of_le (by simp[hd_len]),List.nil_append,List.take_append_of_le_length (by omega),List.take_of_length_le (by omega)]
 unfold decF
 rw[e0,e4,t4,e8,t8,d8,hl,if_neg (by omega),if_neg (by simp),if_neg (by omega),if_neg (by omega),if_neg (by simp)]
theorem oneF_frm {p:List Int} (h:p.length≤1048576):oneF (frm p)=(p,0):=by
 have:=decF_frm h []
 rw[List.append_nil] at this
 unfold oneF
 rw[this]
 simp[frm_len]
end
end Go.Fr
namespace Go.Oct
section
def bitStep (s:Nat):Nat:=if s%2=1 then (s/2) ^^^ 3988292384 else s/2
def bitsN:Nat→Nat→Nat
 | 0,s=>s
 | k+1,s=>bitsN k (bitStep s)
theorem xor_mod2 (x y:Nat):(x ^^^ y)%2=(x%2) ^^^ (y%2):=by
 have:=Nat.xor_mod_two_pow (a:=x) (b:=y) (n:=1)
 simpa using this
theorem bitStep_xor (x y:Nat):bitStep (x ^^^ y)=bitStep x ^^^ bitStep y:=by
 unfold bitStep
 rw[xor_mod2,Nat.xor_div_two]
 have hx:x%2=0∨x%2=1:=by omega
 have hy:y%2=0∨y%2=1:=by omega
 rcases hx with hx | hx <;> rcases hy with hy | hy <;> rw[hx,hy]
 ·simp
 ·simp[Nat.xor_assoc]
 ·simp only[Nat.xor_zero,if_true,if_neg (show ¬(0=1) by omega)]
  rw[Nat.xor_assoc,Nat.xor_assoc,Nat.xor_comm (y/2)]
 ·simp only[Nat.xor_self,if_true,if_neg (show ¬(0=1) by omega)]
  rw[Nat.xor_assoc,Nat.xor_comm (y/2),←Nat.xor_assoc 3988292384,Nat.xor_self,Nat.zero_xor]
theorem bitsN_xor:∀ (k x y:Nat),bitsN k (x ^^^ y)=bitsN k x ^^^ bitsN k y:=by
 intro k
 induction k with
 | zero=>intro x y; rfl
 | succ k ih=>intro x y; simp only[bitsN]; rw[bitStep_xor,ih]
theorem bitStep_even (a:Nat):bitStep (2*a)=a:=by
 unfold bitStep
 rw[if_neg (by omega)]
 omega
theorem split16 (s:Nat):s=(16*(s/16)) ^^^ (s%16):=by
 apply Nat.eq_of_testBit_eq
 intro i
 rw[Nat.testBit_xor,show 16*(s/16)=2^4*(s/2^4) from rfl,show s%16=s%2^4 from rfl,Nat.testBit_two_pow_mul,Nat.testBit_mod_two_pow,Nat.testBit_div_two_pow]
 by_cases h:4≤i
 ·simp[h,show ¬i<4 by omega]
 ·simp[h,show i<4 by omega]
theorem four_bits (s:Nat):bitsN 4 s=nib s:=by
 have h:=split16 s
 have h1:bitsN 4 (16*(s/16))=s/16:=by
  simp only[bitsN]
  rw[show 16*(s/16)=2*(2*(2*(2*(s/16)))) by omega,bitStep_even,bitStep_even,bitStep_even,bitStep_even]
 have h2:∀ r:Fin 16,bitsN 4 r.val=tabN.getD r.val 0:=by decide +kernel
 have h3:=h2 ⟨s%16,by omega⟩
 have h4:bitsN 4 s=bitsN 4 ((16*(s/16)) ^^^ (s%16)):=congrArg (bitsN 4) h
 rw[h4,bitsN_xor,h1]
 unfold nib
 exact congrArg _ h3
theorem bitsN_add:∀ (j k s:Nat),bitsN (j+k) s=bitsN k (bitsN j s):=by
 intro j
 induction j with
 | zero=>intro k s; rw[Nat.zero_add]; rfl
 | succ j ih=>intro k s; rw[Nat.succ_add]; simp only[bitsN]; rw[ih]
theorem eight_bits (s x:Nat):bitsN 8 (s ^^^ x)=stepN s x:=by
 rw[show 8=4+4 from rfl,bitsN_add,four_bits,four_bits]
 rfl
theorem bitsN_more (k s:Nat):bitsN (k+1) s=bitStep (bitsN k s):=by
 rw[bitsN_add]
 rfl
end
end Go.Oct
namespace Go.Dk
section
def way (k:Key):Key:=k++[126]
def opWhole (s:Ds) (k:Key) (b:List Int):Nat×Ds :=
 let r1:=if (fnd s.fs (way k)).isSome then opRem s (way k) else (0,s)
 if r1.1≠0 then r1 else
 let r2:=opApp r1.2 (way k) b
 if r2.1≠0 then r2 else
 let r3:=opSync r2.2 (way k)
 if r3.1≠0 then r3 else opRen r3.2 (way k) k
def okS (k:Key):Prop:=1≤k.length∧k.length≤60
instance (k:Key):Decidable (okS k):=by unfold okS; exact inferInstance
def opSave (s:Ds) (k:Key) (b:List Int):Nat×Ds:=if okS k then opWhole s k b else (1,s)
def opEach' (f:Ds→Key→Nat×Ds):Ds→List Key→Nat×Ds
 | s,[]=>(0,s)
 | s,k::l=>if (f s k).1≠0 then f s k else opEach' f (f s k).2 l
def gone (p:Key) (stay:List Key) (l:List Key):List Key:=l.filter fun k=>decide (k.take p.length=p∧p.length≤k.length∧k∉stay)
def opClear (s:Ds) (p:Key) (stay:List Key):Nat×Ds:=opEach' opRem s (gone p stay (nms s.fs))
theorem way_len (k:Key):(way k).length=k.length+1:=by simp[way]
theorem way_ok {k:Key} (h:okS k):okN (way k):=by unfold okN; rw[way_len]; unfold okS at h; omega
theorem okS_okN {k:Key} (h:okS k):okN k:=by unfold okN; unfold okS at h; omega
theorem way_ne (k:Key):way k≠k:=fun e=>by have:=congrArg List.length e; rw[way_len] at this; omega
theorem DsOk.whole {s:Ds} (h:DsOk s) {k:Key} {b:List Int} (hb:∀ x∈b,0≤x∧x<256):DsOk (opWhole s k b).2:=by
 unfold opWhole
 have h1:DsOk (if (fnd s.fs (way k)).isSome=true then opRem s (way k) else (0,s)).2:=by
  split
  ·exact h.rem
  ·exact h
 generalize (if (fnd s.fs (way k)).isSome=true then opRem s (way k) else (0,s))=r1 at h1
 show DsOk (if r1.1≠0 then r1 else if (opApp r1.2 (way k) b).1≠0 then opApp r1.2 (way k) b else if (opSync (opApp r1.2 (way k) b).2 (way k)).1≠0 then opSync (opApp r1.2 (way k) b).2 (way k) else opRen (opSync (opApp r1.2 (way k) b).2 (way k)).2 (way k) k).2
 split
 ·exact h1
 ·split
  ·exact h1.app hb
  ·split
   ·exact (h1.app hb).sync
   ·exact (h1.app hb).sync.ren
theorem str_add (k:Key):(⟨(way k).toArray⟩:ByteArray)=(⟨k.toArray⟩:ByteArray)++(⟨#[126]⟩:ByteArray):=by
 apply ByteArray.ext
 simp[way]
end
section
section
variable {s:Ds} {k j a b:Key} {bs:List Int}
theorem rem_gone (e:(opRem s k).1=0):fnd (opRem s k).2.fs k=none:=by
 unfold opRem at e ⊢
 split at e
 ·rename_i h1; exact absurd e h1
 ·rename_i h1
  rw[if_neg h1]
  split at e
  ·cases e
  ·exact fnd_del_same _ _
theorem app_done (h:DsOk s) (e:(opApp s k bs).1=0):fnd (opApp s k bs).2.fs k=some (grow (fnd s.fs k) k bs):=by
 unfold opApp at e ⊢
 split at e
 ·rename_i h1; exact absurd e h1
 ·rename_i h1
  rw[if_neg h1]
  split at e
  ·rename_i h2
   rw[if_pos h2]
   have hn:(grow (fnd s.fs k) k bs).nm=k:=by unfold grow; split <;> rfl
   have:=fnd_put_same h.fine.rise (grow (fnd s.fs k) k bs)
   rw[hn] at this
   exact this
  ·cases e
theorem sync_done (h:DsOk s) (e:(opSync s k).1=0):∃ f,fnd s.fs k=some f∧fnd (opSync s k).2.fs k=some ⟨k,f.bs,f.bs.length⟩:=by
 unfold opSync at e ⊢
 split at e
 ·rename_i h1; exact absurd e h1
 ·rename_i h1
  rw[if_neg h1]
  split at e
  ·cases e
  ·rename_i f hf
   rw[hf]
   exact⟨f,rfl,fnd_put_same h.fine.rise ⟨k,f.bs,f.bs.length⟩⟩
theorem ren_done (h:DsOk s) (hab:a≠b) (e:(opRen s a b).1=0):∃ f,fnd s.fs a=some f∧fnd (opRen s a b).2.fs b=some ⟨b,f.bs,f.la⟩∧fnd (opRen s a b).2.fs a=none:=by
 unfold opRen at e ⊢
 split at e
 ·rename_i h1; exact absurd e h1
 ·rename_i h1
  rw[if_neg h1]
  split at e
  ·rename_i h2; exact absurd e h2
  ·rename_i h2
   rw[if_neg h2]
   split at e
   ·cases e
   ·rename_i f hf
    rw[hf]
    refine⟨f,rfl,?_⟩
    show fnd (if a=b then _ else _:Nat×Ds).2.fs b=_∧fnd (if a=b then _ else _:Nat×Ds).2.fs a=_
    rw[if_neg hab]
    refine⟨fnd_put_same (rise_del h.fine.rise a) ⟨b,f.bs,f.la⟩,?_⟩
    show fnd (put (del s.fs a) ⟨b,f.bs,f.la⟩) a=none
    rw[fnd_put_other (rise_del h.fine.rise a) hab]
    exact fnd_del_same _ _
theorem fnd_crash (fs:Fs) (d:Nat) (k:Key):fnd (fs.map (crashF d)) k=(fnd fs k).map (crashF d):=by
 unfold fnd
 rw[List.find?_map]
 rfl
theorem crash_whole (d:Nat) (k:Key) (bs:List Int):crashF d ⟨k,bs,bs.length⟩=⟨k,bs,bs.length⟩:=by
 unfold crashF stays
 simp[Nat.mod_one]
def wh1 (s:Ds) (k:Key):Nat×Ds:=if (fnd s.fs (way k)).isSome then opRem s (way k) else (0,s)
theorem wh1_ok (h:DsOk s):DsOk (wh1 s k).2:=by
 unfold wh1
 split
 ·exact h.rem
 ·exact h
theorem wh1_gone (e:(wh1 s k).1=0):fnd (wh1 s k).2.fs (way k)=none:=by
 unfold wh1 at e ⊢
 split at e
 ·rename_i h1
  rw[if_pos h1]
  exact rem_gone e
 ·rename_i h1
  rw[if_neg h1]
  cases hf:fnd s.fs (way k) with
  | none=>rfl
  | some f=>rw[hf] at h1; exact absurd rfl h1
theorem whole_steps (s:Ds) (k:Key) (bs:List Int):opWhole s k bs =
  if (wh1 s k).1≠0 then wh1 s k else
  if (opApp (wh1 s k).2 (way k) bs).1≠0 then opApp (wh1 s k).2 (way k) bs else
  if (opSync (opApp (wh1 s k).2 (way k) bs).2 (way k)).1≠0 then opSync (opApp (wh1 s k).2 (way k) bs).2 (way k) else
  opRen (opSync (opApp (wh1 s k).2 (way k) bs).2 (way k)).2 (way k) k:=rfl
theorem whole_done (h:DsOk s) (hb:∀ x∈bs,0≤x∧x<256) (e:(opWhole s k bs).1=0):fnd (opWhole s k bs).2.fs k=some ⟨k,bs,bs.length⟩∧fnd (opWhole s k bs).2.fs (way k)=none:=by
 rw[whole_steps] at e ⊢
 have g1:=wh1_ok (k:=k) h
 have g2:=g1.app (k:=way k) hb
 split at e
 ·rename_i e1; exact absurd e e1
 ·rename_i e1
  rw[if_neg e1]
  split at e
  ·rename_i e2; exact absurd e e2
  ·rename_i e2
   rw[if_neg e2]
   split at e
   ·rename_i e3; exact absurd e e3
   ·rename_i e3
    rw[if_neg e3]
    have a1:=wh1_gone (s:=s) (k:=k) (by omega)
    have a2:=app_done g1 (k:=way k) (bs:=bs) (by omega)
    obtain⟨f,f1,f2⟩:=sync_done g2 (k:=way k) (by omega)
    obtain⟨f',f3,f4,f5⟩:=ren_done g2.sync (way_ne k) e
    rw[a1] at a2
    rw[a2] at f1
    injection f1 with f1
    subst f1
    rw[f2] at f3
    injection f3 with f3
    subst f3
    exact⟨f4,f5⟩
end
end
section
section
variable {s:Ds} {k j a b:Key} {bs:List Int}
theorem may_free (hl:s.left=none) (hk:okN k):may s k=0:=by
 unfold may
 rw[hl,if_neg (by simp),if_pos hk]
structure Free (s:Ds) (room u n:Nat):Prop where
 ok:DsOk s
 left:s.left=none
 room:s.room=room
 used:used s.fs≤u
 len:s.fs.length≤n
theorem len_del_le (fs:Fs) (k:Key) (h:Rise (nms fs)):(del fs k).length≤fs.length:=by
 cases hf:fnd fs k with
 | none=>rw[del_no h (fnd_none hf)]; exact Nat.le_refl _
 | some f =>
  obtain⟨h1,h2⟩:=fnd_some hf
  have:=len_del h h1
  rw[h2] at this
  omega
theorem Free.wh1 {room u n:Nat} (h:Free s room u n) (hk:okN (way k)):(wh1 s k).1=0∧Free (wh1 s k).2 room u n:=by
 unfold Go.Dk.wh1
 by_cases h1:(fnd s.fs (way k)).isSome=true
 ·rw[if_pos h1]
  obtain⟨f,hf⟩:=Option.isSome_iff_exists.1 h1
  have e:opRem s (way k)=(0,⟨s.room,del s.fs (way k),tick s.left⟩):=by
   unfold opRem
   rw[may_free h.left hk,if_neg (by simp),hf]
  have hok:=h.ok.rem (k:=way k)
  rw[e] at hok ⊢
  exact⟨rfl,hok,by rw[h.left]; rfl,h.room,Nat.le_trans (used_del_le h.ok.fine.rise _) h.used,Nat.le_trans (len_del_le _ _ h.ok.fine.rise) h.len⟩
 ·rw[if_neg h1]
  exact⟨rfl,h⟩
theorem Free.app {room u n:Nat} (h:Free s room u n) (hk:okN k) (hb:∀ x∈bs,0≤x∧x<256) (hf:fnd s.fs k=none) (h1:u+bs.length≤room) (h2:n<4096):(opApp s k bs).1=0∧Free (opApp s k bs).2 room (u+bs.length) (n+1):=by
 have hu:=h.used
 have hn:=h.len
 have e:opApp s k bs=(0,⟨s.room,put s.fs ⟨k,bs,0⟩,tick s.left⟩):=by
  unfold opApp
  rw[may_free h.left hk,if_neg (by simp),if_pos ⟨by rw[h.room]; omega,fun _=>by omega⟩,hf]
  rfl
 have hok:=h.ok.app (k:=k) hb
 rw[e] at hok ⊢
 refine⟨rfl,hok,by rw[h.left]; rfl,h.room,?_,Nat.le_trans (len_put_le h.ok.fine.rise _) (by omega)⟩
 show Go.Dk.used (put s.fs ⟨k,bs,0⟩)≤_
 rw[used_put]
 have:=used_del_le h.ok.fine.rise k
 show Go.Dk.used (del s.fs k)+bs.length≤_
 omega
theorem Free.sync {room u n:Nat} {f:Fl} (h:Free s room u n) (hk:okN k) (hf:fnd s.fs k=some f):(opSync s k).1=0∧Free (opSync s k).2 room u n:=by
 have e:opSync s k=(0,⟨s.room,put s.fs ⟨k,f.bs,f.bs.length⟩,tick s.left⟩):=by
  unfold opSync
  rw[may_free h.left hk,if_neg (by simp),hf]
 have hok:=h.ok.sync (k:=k)
 obtain⟨hm,hn⟩:=fnd_some hf
 rw[e] at hok ⊢
 refine⟨rfl,hok,by rw[h.left]; rfl,h.room,?_,?_⟩
 ·show Go.Dk.used (put s.fs ⟨k,f.bs,f.bs.length⟩)≤_
  rw[used_put]
  have:=used_fnd h.ok.fine.rise hf
  have:=h.used
  show Go.Dk.used (del s.fs k)+f.bs.length≤_
  omega
 ·show (put s.fs ⟨k,f.bs,f.bs.length⟩).length≤_
  rw[len_put_old h.ok.fine.rise hm hn.symm]
  exact h.len
theorem Free.ren {room u n:Nat} {f:Fl} (h:Free s room u n) (ha:okN a) (hb:okN b) (hne:a≠b) (hf:fnd s.fs a=some f):(opRen s a b).1=0∧Free (opRen s a b).2 room u n:=by
 have e:opRen s a b=(0,⟨s.room,put (del s.fs a) ⟨b,f.bs,f.la⟩,tick s.left⟩):=by
  unfold opRen
  rw[may_free h.left ha,if_neg (by simp),may_free h.left hb,if_neg (by simp),hf]
  simp[hne]
 have hok:=h.ok.ren (a:=a) (b:=b)
 obtain⟨hm,hn⟩:=fnd_some hf
 rw[e] at hok ⊢
 refine⟨rfl,hok,by rw[h.left]; rfl,h.room,?_,?_⟩
 ·show Go.Dk.used (put (del s.fs a) ⟨b,f.bs,f.la⟩)≤_
  rw[used_put]
  have:=used_fnd h.ok.fine.rise hf
  have:=used_del_le (rise_del h.ok.fine.rise a) b
  have:=h.used
  show Go.Dk.used (del (del s.fs a) b)+f.bs.length≤_
  omega
 ·have h1:=len_put_le (rise_del h.ok.fine.rise a) ⟨b,f.bs,f.la⟩
  have h2:=len_del h.ok.fine.rise hm
  rw[hn] at h2
  have:=h.len
  show (put (del s.fs a) ⟨b,f.bs,f.la⟩).length≤_
  omega
theorem Free.whole {room u n:Nat} (h:Free s room u n) (hk:okS k) (hb:∀ x∈bs,0≤x∧x<256) (h1:u+bs.length≤room) (h2:n<4096):(opWhole s k bs).1=0∧Free (opWhole s k bs).2 room (u+bs.length) (n+1):=by
 obtain⟨e1,f1⟩:=h.wh1 (k:=k) (way_ok hk)
 have g1:=wh1_gone e1
 obtain⟨e2,f2⟩:=f1.app (k:=way k) (bs:=bs) (way_ok hk) hb g1 h1 h2
 have g2:=app_done f1.ok e2
 obtain⟨e3,f3⟩:=f2.sync (way_ok hk) g2
 obtain⟨f,_,g3⟩:=sync_done f2.ok e3
 obtain⟨e4,f4⟩:=f3.ren (way_ok hk) (okS_okN hk) (way_ne k) g3
 rw[whole_steps,if_neg (by simp[e1]),if_neg (by simp[e2]),if_neg (by simp[e3])]
 exact⟨e4,f4⟩
theorem Free.new {room:Nat} (h:room≤1073741824):Free ⟨room,[],none⟩ room 0 0:=⟨⟨Fine.nil,Nat.zero_le _,h,Nat.zero_le _⟩,rfl,rfl,Nat.le_refl _,Nat.le_refl _⟩
end
end
end Go.Dk
