/- Lemmas and contracts of this proof. Conditions: said at each. -/
import Derived.Test.YtambgjpfoceieaaGreatDoorGSvMath
namespace Go.Su
section
def swp (f:Nat→Nat) (x y:Nat):Nat→Nat:=fun p=>if p=y then f x else if p=x then f y else f p
def swr (f:Nat→Nat) (a b k:Nat):Nat→Nat:=fun p=>if a≤p∧p<a+k then f (p-a+b) else if b≤p∧p<b+k then f (p-b+a) else f p
def rotn (f:Nat→Nat) (a m b:Nat):Nat→Nat:=fun p=>if a≤p∧p<a+(b-m) then f (p-a+m) else if a+(b-m)≤p∧p<b then f (p-(b-m)) else f p
def mvu (f:Nat→Nat) (a k:Nat):Nat→Nat:=fun p=>if a≤p∧p<k then f (p+1) else if p=k then f a else f p
def mvd (f:Nat→Nat) (m k:Nat):Nat→Nat:=fun p=>if k<p∧p≤m then f (p-1) else if p=k then f m else f p
theorem swr_zero (f:Nat→Nat) (a b:Nat):swr f a b 0=f:=by
 funext p
 unfold swr
 rw[if_neg (by omega),if_neg (by omega)]
theorem swr_next {f:Nat→Nat} {a b k:Nat} (h:a+(k+1)≤b):swp (swr f a b k) (a+k) (b+k)=swr f a b (k+1):=by
 funext p
 unfold swp swr
 repeat' split
 all_goals first | omega | rfl | (congr 1; omega)
theorem rot_left {f:Nat→Nat} {m i j:Nat} (h:j<i) (hm:i≤m):rotn (swr f (m-i) m j) (m-(i-j)) m (m+j)=rotn f (m-i) m (m+j):=by
 funext p
 unfold rotn swr
 repeat' split
 all_goals first | omega | rfl | (congr 1; omega)
theorem rot_right {f:Nat→Nat} {m i j:Nat} (h:i<j) (hm:i≤m):rotn (swr f (m-i) (m+j-i) i) (m-i) m (m+(j-i))=rotn f (m-i) m (m+j):=by
 funext p
 unfold rotn swr
 repeat' split
 all_goals first | omega | rfl | (congr 1; omega)
theorem rot_end {f:Nat→Nat} {m i:Nat} (hm:i≤m):swr f (m-i) m i=rotn f (m-i) m (m+i):=by
 funext p
 unfold rotn swr
 repeat' split
 all_goals first | omega | rfl | (congr 1; omega)
theorem rot_none1 {f:Nat→Nat} {m b:Nat}:rotn f m m b=f:=by
 funext p
 unfold rotn
 repeat' split
 all_goals first | omega | rfl | (congr 1; omega)
theorem rot_none2 {f:Nat→Nat} {a m:Nat}:rotn f a m m=f:=by
 funext p
 unfold rotn
 repeat' split
 all_goals first | omega | rfl | (congr 1; omega)
theorem mvu_start (f:Nat→Nat) (a:Nat):mvu f a a=f:=by
 funext p
 unfold mvu
 repeat' split
 all_goals first | omega | rfl | (congr 1; omega)
theorem mvu_next {f:Nat→Nat} {a k:Nat} (h:a≤k):swp (mvu f a k) k (k+1)=mvu f a (k+1):=by
 funext p
 unfold swp mvu
 repeat' split
 all_goals first | omega | rfl | (congr 1; omega)
theorem mvd_start (f:Nat→Nat) (m:Nat):mvd f m m=f:=by
 funext p
 unfold mvd
 repeat' split
 all_goals first | omega | rfl | (congr 1; omega)
theorem mvd_next {f:Nat→Nat} {m k:Nat} (h:k+1≤m):swp (mvd f m (k+1)) (k+1) k=mvd f m k:=by
 funext p
 unfold swp mvd
 repeat' split
 all_goals first | omega | rfl | (congr 1; omega)
theorem mvd_here (f:Nat→Nat) (m k:Nat):mvd f m k k=f m:=by
 unfold mvd
 rw[if_neg (by omega),if_pos rfl]
theorem mvd_ahead {f:Nat→Nat} {m k:Nat}:mvd f m (k+1) k=f k:=by
 unfold mvd
 rw[if_neg (by omega),if_neg (by omega)]
def SrtOn (l:List Int) (f:Nat→Nat) (a b:Nat):Prop:=∀ i j,a≤i→i<j→j<b→Bef l (f i) (f j)
structure Frm (f f':Nat→Nat) (a b:Nat):Prop where
 inn:∀ p,a≤p→p<b→∃ q,a≤q∧q<b∧f' p=f q
 out:∀ p,p<a∨b≤p→f' p=f p
structure Mpre (l:List Int) (f:Nat→Nat) (a m b:Nat):Prop where
 am:a<m
 mb:m<b
 left:SrtOn l f a m
 right:SrtOn l f m b
 cross:∀ i j,a≤i→i<m→m≤j→j<b→f i<f j
structure Mpost (l:List Int) (f f':Nat→Nat) (a b:Nat):Prop where
 srt:SrtOn l f' a b
 frm:Frm f f' a b
section
variable {l:List Int} {f f' f2 f3:Nat→Nat} {a m b:Nat}
theorem bef_of {x y:Nat} (hc:gs l y<gs l x):Bef l y x := .inl hc
theorem bef_not {x y:Nat} (h:x<y) (hc:¬ gs l y<gs l x):Bef l x y:=by
 unfold Bef
 omega
theorem Frm.refl (f:Nat→Nat) (a b:Nat):Frm f f a b:=⟨fun p h1 h2=>⟨p,h1,h2,rfl⟩,fun _ _=>rfl⟩
theorem Frm.trans (h:Frm f f2 a b) (g:Frm f2 f3 a b):Frm f f3 a b:=by
 refine⟨fun p h1 h2=>?_,fun p hp=>by rw[g.out p hp,h.out p hp]⟩
 obtain⟨q,h3,h4,e⟩:=g.inn p h1 h2
 obtain⟨r,h5,h6,e2⟩:=h.inn q h3 h4
 exact⟨r,h5,h6,by rw[e,e2]⟩
theorem Frm.wide {c d:Nat} (h:Frm f f2 a b) (h1:c≤a) (h2:b≤d):Frm f f2 c d:=by
 refine⟨fun p h3 h4=>?_,fun p hp=>h.out p (by omega)⟩
 by_cases hp:a≤p∧p<b
 ·obtain⟨q,h5,h6,e⟩:=h.inn p hp.1 hp.2
  exact⟨q,by omega,by omega,e⟩
 ·exact⟨p,h3,h4,h.out p (by omega)⟩
theorem frm_rot (h1:a≤m) (h2:m≤b):Frm f (rotn f a m b) a b:=by
 refine⟨fun p h3 h4=>?_,fun p hp=>?_⟩
 ·unfold rotn
  by_cases h:p<a+(b-m)
  ·exact⟨p-a+m,by omega,by omega,by rw[if_pos (by omega)]⟩
  ·exact⟨p-(b-m),by omega,by omega,by rw[if_neg (by omega),if_pos (by omega)]⟩
 ·unfold rotn
  rw[if_neg (by omega),if_neg (by omega)]
theorem frm_mvu {k:Nat} (h1:a≤k) (h2:k<b):Frm f (mvu f a k) a b:=by
 refine⟨fun p h3 h4=>?_,fun p hp=>?_⟩
 ·unfold mvu
  rcases Nat.lt_trichotomy p k with h | h | h
  ·exact⟨p+1,by omega,by omega,by rw[if_pos (by omega)]⟩
  ·exact⟨a,by omega,by omega,by rw[if_neg (by omega),if_pos h]⟩
  ·exact⟨p,by omega,by omega,by rw[if_neg (by omega),if_neg (by omega)]⟩
 ·unfold mvu
  rw[if_neg (by omega),if_neg (by omega)]
theorem frm_mvd {k:Nat} (h1:a≤k) (h2:k≤m):Frm f (mvd f m k) a (m+1):=by
 refine⟨fun p h3 h4=>?_,fun p hp=>?_⟩
 ·unfold mvd
  rcases Nat.lt_trichotomy p k with h | h | h
  ·exact⟨p,by omega,by omega,by rw[if_neg (by omega),if_neg (by omega)]⟩
  ·exact⟨m,by omega,by omega,by rw[if_neg (by omega),if_pos h]⟩
  ·exact⟨p-1,by omega,by omega,by rw[if_pos (by omega)]⟩
 ·unfold mvd
  rw[if_neg (by omega),if_neg (by omega)]
theorem srt_mvu {i:Nat} (hs:SrtOn l f (a+1) b) (h1:a<i) (h2:i≤b) (hlo:∀ j,a+1≤j→j<i→Bef l (f j) (f a)) (hhi:∀ j,i≤j→j<b→Bef l (f a) (f j)):SrtOn l (mvu f a (i-1)) a b:=by
 intro p q hp hpq hq
 unfold mvu
 rcases Nat.lt_trichotomy p (i-1) with h | h | h
 ·rw[if_pos (by omega)]
  rcases Nat.lt_trichotomy q (i-1) with g | g | g
  ·rw[if_pos (by omega)]
   exact hs _ _ (by omega) (by omega) (by omega)
  ·rw[if_neg (by omega),if_pos g]
   exact hlo _ (by omega) (by omega)
  ·rw[if_neg (by omega),if_neg (by omega)]
   exact hs _ _ (by omega) (by omega) (by omega)
 ·rw[if_neg (by omega),if_pos h,if_neg (by omega),if_neg (by omega)]
  exact hhi _ (by omega) hq
 ·rw[if_neg (by omega),if_neg (by omega),if_neg (by omega),if_neg (by omega)]
  exact hs _ _ (by omega) hpq hq
theorem srt_mvd {k:Nat} (hs:SrtOn l f a m) (h1:a≤k) (h2:k≤m) (hlo:∀ j,a≤j→j<k→Bef l (f j) (f m)) (hhi:∀ j,k≤j→j<m→Bef l (f m) (f j)):SrtOn l (mvd f m k) a (m+1):=by
 intro p q hp hpq hq
 unfold mvd
 rcases Nat.lt_trichotomy p k with h | h | h
 ·rw[if_neg (by omega),if_neg (by omega)]
  rcases Nat.lt_trichotomy q k with g | g | g
  ·rw[if_neg (by omega),if_neg (by omega)]
   exact hs _ _ (by omega) (by omega) (by omega)
  ·rw[if_neg (by omega),if_pos g]
   exact hlo _ (by omega) (by omega)
  ·rw[if_pos (by omega)]
   exact hs _ _ (by omega) (by omega) (by omega)
 ·rw[if_neg (by omega),if_pos h,if_pos (by omega)]
  exact hhi _ (by omega) (by omega)
 ·rw[if_pos (by omega),if_pos (by omega)]
  exact hs _ _ (by omega) (by omega) (by omega)
structure FndU (l:List Int) (f:Nat→Nat) (a b lo hi:Nat):Prop where
 lh:lo≤hi
 hb:hi≤b
 al:a<lo
 low:∀ j,a+1≤j→j<lo→Bef l (f j) (f a)
 high:∀ j,hi≤j→j<b→Bef l (f a) (f j)
theorem fndU_start (h:a+1<b):FndU l f a b (a+1) b:=⟨by omega,Nat.le_refl _,by omega,fun j h1 h2=>absurd h1 (by omega),fun j h1 h2=>absurd h1 (by omega)⟩
theorem FndU.less {lo hi h:Nat} (g:FndU l f a b lo hi) (p:Mpre l f a (a+1) b) (h1:lo≤h) (h2:h<hi) (hc:gs l (f h)<gs l (f a)):FndU l f a b (h+1) hi:=by
 have ha:=g.al
 have hb:=g.hb
 have hx:=bef_of hc
 refine⟨by omega,g.hb,by omega,fun j h3 h4=>?_,g.high⟩
 rcases Nat.lt_or_ge j h with h5 | h5
 ·exact (p.right j h (by omega) h5 (by omega)).trans hx
 ·obtain rfl:j=h:=by omega
  exact hx
theorem FndU.more {lo hi h:Nat} (g:FndU l f a b lo hi) (p:Mpre l f a (a+1) b) (h1:lo≤h) (h2:h<hi) (hc:¬ gs l (f h)<gs l (f a)):FndU l f a b lo h:=by
 have ha:=g.al
 have hb:=g.hb
 have hx:=bef_not (p.cross a h (Nat.le_refl _) (by omega) (by omega) (by omega)) hc
 refine⟨h1,by omega,g.al,g.low,fun j h3 h4=>?_⟩
 rcases Nat.lt_or_ge h j with h5 | h5
 ·exact hx.trans (p.right h j (by omega) h5 (by omega))
 ·obtain rfl:j=h:=by omega
  exact hx
theorem FndU.done {i:Nat} (g:FndU l f a b i i) (p:Mpre l f a (a+1) b):Mpost l f (mvu f a (i-1)) a b:=by
 have ha:=g.al
 have hb:=g.hb
 exact⟨srt_mvu p.right ha g.hb g.low g.high,frm_mvu (by omega) (by omega)⟩
structure FndD (l:List Int) (f:Nat→Nat) (a m lo hi:Nat):Prop where
 lh:lo≤hi
 hb:hi≤m
 al:a≤lo
 low:∀ j,a≤j→j<lo→Bef l (f j) (f m)
 high:∀ j,hi≤j→j<m→Bef l (f m) (f j)
theorem fndD_start (h:a<m):FndD l f a m a m:=⟨by omega,Nat.le_refl _,Nat.le_refl _,fun j h1 h2=>absurd h1 (by omega),fun j h1 h2=>absurd h1 (by omega)⟩
theorem FndD.less {lo hi h:Nat} (g:FndD l f a m lo hi) (p:Mpre l f a m (m+1)) (h1:lo≤h) (h2:h<hi) (hc:¬ gs l (f m)<gs l (f h)):FndD l f a m (h+1) hi:=by
 have ha:=g.al
 have hb:=g.hb
 have hx:=bef_not (p.cross h m (by omega) (by omega) (Nat.le_refl _) (by omega)) hc
 refine⟨by omega,g.hb,by omega,fun j h3 h4=>?_,g.high⟩
 rcases Nat.lt_or_ge j h with h5 | h5
 ·exact (p.left j h (by omega) h5 (by omega)).trans hx
 ·obtain rfl:j=h:=by omega
  exact hx
theorem FndD.more {lo hi h:Nat} (g:FndD l f a m lo hi) (p:Mpre l f a m (m+1)) (h1:lo≤h) (h2:h<hi) (hc:gs l (f m)<gs l (f h)):FndD l f a m lo h:=by
 have ha:=g.al
 have hb:=g.hb
 have hx:=bef_of hc
 refine⟨h1,by omega,g.al,g.low,fun j h3 h4=>?_⟩
 rcases Nat.lt_or_ge h j with h5 | h5
 ·exact hx.trans (p.left h j (by omega) h5 (by omega))
 ·obtain rfl:j=h:=by omega
  exact hx
theorem FndD.done {i:Nat} (g:FndD l f a m i i) (p:Mpre l f a m (m+1)):Mpost l f (mvd f m i) a (m+1) :=
 ⟨srt_mvd p.left g.al g.hb g.low g.high,frm_mvd g.al g.hb⟩
structure FndS (l:List Int) (f:Nat→Nat) (a m b N lo0 hi0 lo hi:Nat):Prop where
 lh:lo≤hi
 l0:lo0≤lo
 h0:hi≤hi0
 low:lo0<lo→Bef l (f (lo-1)) (f (N-lo))
 high:hi<hi0→Bef l (f (N-1-hi)) (f hi)
structure Bnd (a m b N lo0 hi0:Nat):Prop where
 al:a≤lo0
 hm:hi0≤m
 mn:m+hi0≤N
 nb:N≤lo0+b
 lh:lo0≤hi0
 ea:lo0=a∨N=lo0+b
 eh:hi0=m∨N=hi0+m
theorem bnd_less {mid:Nat} (h2:m<b) (hmid:mid=(a+b)/2) (h:mid<m):Bnd a m b (mid+m) (mid+m-b) mid:=⟨by omega,by omega,by omega,by omega,by omega, .inr (by omega), .inr rfl⟩
theorem bnd_more {mid:Nat} (h1:a<m) (hmid:mid=(a+b)/2) (h:m≤mid):Bnd a m b (mid+m) a m:=⟨by omega,by omega,by omega,by omega,by omega, .inl rfl, .inl rfl⟩
theorem fndS_start {N lo0 hi0:Nat} (g:Bnd a m b N lo0 hi0):FndS l f a m b N lo0 hi0 lo0 hi0:=⟨g.lh,Nat.le_refl _,Nat.le_refl _,fun h=>absurd h (by omega),fun h=>absurd h (by omega)⟩
theorem FndS.less {N lo0 hi0 lo hi c:Nat} (g:FndS l f a m b N lo0 hi0 lo hi) (n:Bnd a m b N lo0 hi0) (p:Mpre l f a m b) (h1:lo≤c) (h2:c<hi) (hc:¬ gs l (f (N-1-c))<gs l (f c)):FndS l f a m b N lo0 hi0 (c+1) hi:=by
 have g1:=g.l0
 have g2:=g.h0
 have n1:=n.al
 have n2:=n.hm
 have n3:=n.mn
 have n4:=n.nb
 have hx:=bef_not (p.cross c (N-1-c) (by omega) (by omega) (by omega) (by omega)) hc
 refine⟨by omega,by omega,g2,fun _=>?_,g.high⟩
 rw[show c+1-1=c by omega,show N-(c+1)=N-1-c by omega]
 exact hx
theorem FndS.more {N lo0 hi0 lo hi c:Nat} (g:FndS l f a m b N lo0 hi0 lo hi) (n:Bnd a m b N lo0 hi0) (h1:lo≤c) (h2:c<hi) (hc:gs l (f (N-1-c))<gs l (f c)):FndS l f a m b N lo0 hi0 lo c:=by
 have g1:=g.l0
 have g2:=g.h0
 have n1:=n.al
 have n2:=n.hm
 have n3:=n.mn
 have n4:=n.nb
 have hx:=bef_of hc
 exact⟨h1,g1,by omega,g.low,fun _=>hx⟩
end
end
section
section
variable {l:List Int} {f f' f2 f3:Nat→Nat} {a m b s e N lo0 hi0 mid:Nat}
theorem rot_a {i:Nat} (h:i<s):rotn f s m e i=f i:=by
 unfold rotn
 rw[if_neg (by omega),if_neg (by omega)]
theorem rot_b {i:Nat} (h:s≤i) (h2:i<s+(e-m)):rotn f s m e i=f (i-s+m):=by
 unfold rotn
 rw[if_pos (by omega)]
theorem rot_c {i:Nat} (h:s+(e-m)≤i) (h2:i<e):rotn f s m e i=f (i-(e-m)):=by
 unfold rotn
 rw[if_neg (by omega),if_pos (by omega)]
theorem rot_d {i:Nat} (h:e≤i) (hs:s≤m) (hm:m≤e):rotn f s m e i=f i:=by
 unfold rotn
 rw[if_neg (by omega),if_neg (by omega)]
structure Split (l:List Int) (f:Nat→Nat) (a m b s e mid:Nat):Prop where
 as_:a≤s
 sm:s≤m
 me:m≤e
 eb:e≤b
 smid:s+(e-m)=mid
 mide:mid+(m-s)=e
 pre:Mpre l f a m b
 l1r2:∀ i j,a≤i→i<s→e≤j→j<b→Bef l (f i) (f j)
 r1l2:∀ i j,m≤i→i<e→s≤j→j<m→Bef l (f i) (f j)
theorem FndS.split (g:FndS l f a m b N lo0 hi0 s s) (n:Bnd a m b N lo0 hi0) (p:Mpre l f a m b) (hN:N=mid+m):Split l f a m b s (N-s) mid:=by
 have g1:=g.l0
 have g2:=g.h0
 have n1:=n.al
 have n2:=n.hm
 have n3:=n.mn
 have n4:=n.nb
 have n5:=n.lh
 have p1:=p.am
 have p2:=p.mb
 refine⟨by omega,by omega,by omega,by omega,by omega,by omega,p,fun i j h1 h2 h3 h4=>?_,fun i j h1 h2 h3 h4=>?_⟩
 ·rcases Nat.lt_or_ge lo0 s with h5 | h5
  ·have hx:=g.low h5
   have hy:Bef l (f i) (f (N-s)):=by
    rcases Nat.lt_or_ge i (s-1) with h6 | h6
    ·exact (p.left i (s-1) h1 h6 (by omega)).trans hx
    ·obtain rfl:i=s-1:=by omega
     exact hx
   rcases Nat.lt_or_ge (N-s) j with h6 | h6
   ·exact hy.trans (p.right (N-s) j (by omega) h6 h4)
   ·obtain rfl:j=N-s:=by omega
    exact hy
  ·rcases n.ea with h6 | h6 <;> omega
 ·rcases Nat.lt_or_ge s hi0 with h5 | h5
  ·have hx:=g.high h5
   have hy:Bef l (f i) (f s):=by
    rcases Nat.lt_or_ge i (N-1-s) with h6 | h6
    ·exact (p.right i (N-1-s) h1 h6 (by omega)).trans hx
    ·obtain rfl:i=N-1-s:=by omega
     exact hx
   rcases Nat.lt_or_ge s j with h6 | h6
   ·exact hy.trans (p.left s j (by omega) h6 h4)
   ·obtain rfl:j=s:=by omega
    exact hy
  ·rcases n.eh with h6 | h6 <;> omega
theorem Split.leftPre (p:Split l f a m b s e mid) (h1:a<s) (h2:s<mid):Mpre l (rotn f s m e) a s mid:=by
 have p1:=p.smid
 have p2:=p.me
 have p3:=p.eb
 have p4:=p.sm
 refine⟨h1,h2,fun i j h3 h4 h5=>?_,fun i j h3 h4 h5=>?_,fun i j h3 h4 h5 h6=>?_⟩
 ·rw[rot_a (by omega),rot_a (by omega)]
  exact p.pre.left i j h3 h4 (by omega)
 ·rw[rot_b (by omega) (by omega),rot_b (by omega) (by omega)]
  exact p.pre.right _ _ (by omega) (by omega) (by omega)
 ·rw[rot_a (by omega),rot_b (by omega) (by omega)]
  exact p.pre.cross _ _ h3 (by omega) (by omega) (by omega)
theorem Split.leftNone (p:Split l f a m b s e mid) (h:¬ (a<s∧s<mid)):Mpost l (rotn f s m e) (rotn f s m e) a mid:=by
 have p1:=p.smid
 have p2:=p.me
 have p3:=p.eb
 have p4:=p.sm
 have p5:=p.as_
 refine⟨fun i j h3 h4 h5=>?_,Frm.refl _ _ _⟩
 by_cases h6:a<s
 ·rw[rot_a (by omega),rot_a (by omega)]
  exact p.pre.left i j h3 h4 (by omega)
 ·rw[rot_b (by omega) (by omega),rot_b (by omega) (by omega)]
  exact p.pre.right _ _ (by omega) (by omega) (by omega)
theorem Split.rightPre (p:Split l f a m b s e mid) (q:Mpost l (rotn f s m e) f2 a mid) (h1:mid<e) (h2:e<b):Mpre l f2 mid e b:=by
 have p1:=p.smid
 have p2:=p.me
 have p3:=p.mide
 have p4:=p.sm
 refine⟨h1,h2,fun i j h3 h4 h5=>?_,fun i j h3 h4 h5=>?_,fun i j h3 h4 h5 h6=>?_⟩
 ·rw[q.frm.out i (by omega),q.frm.out j (by omega),rot_c (by omega) (by omega),rot_c (by omega) (by omega)]
  exact p.pre.left _ _ (by have:=p.as_; omega) (by omega) (by omega)
 ·rw[q.frm.out i (by omega),q.frm.out j (by omega),rot_d (by omega) p4 p2,rot_d (by omega) p4 p2]
  exact p.pre.right _ _ (by omega) (by omega) (by omega)
 ·rw[q.frm.out i (by omega),q.frm.out j (by omega),rot_c (by omega) (by omega),rot_d (by omega) p4 p2]
  exact p.pre.cross _ _ (by have:=p.as_; omega) (by omega) (by omega) (by omega)
theorem Split.rightNone (p:Split l f a m b s e mid) (q:Mpost l (rotn f s m e) f2 a mid) (h:¬ (mid<e∧e<b)):Mpost l f2 f2 mid b:=by
 have p1:=p.smid
 have p2:=p.me
 have p3:=p.mide
 have p4:=p.sm
 have p5:=p.eb
 refine⟨fun i j h3 h4 h5=>?_,Frm.refl _ _ _⟩
 rw[q.frm.out i (by omega),q.frm.out j (by omega)]
 by_cases h6:mid<e
 ·rw[rot_c (by omega) (by omega),rot_c (by omega) (by omega)]
  exact p.pre.left _ _ (by have:=p.as_; omega) (by omega) (by omega)
 ·rw[rot_d (by omega) p4 p2,rot_d (by omega) p4 p2]
  exact p.pre.right _ _ (by omega) (by omega) (by omega)
theorem Split.cross (p:Split l f a m b s e mid) {i j:Nat} (h1:a≤i) (h2:i<mid) (h3:mid≤j) (h4:j<b):Bef l (rotn f s m e i) (rotn f s m e j):=by
 have p1:=p.smid
 have p2:=p.me
 have p3:=p.mide
 have p4:=p.sm
 have p5:=p.eb
 rcases Nat.lt_or_ge i s with h5 | h5 <;> rcases Nat.lt_or_ge j e with h6 | h6
 ·rw[rot_a h5,rot_c (by omega) h6]
  exact p.pre.left _ _ h1 (by omega) (by omega)
 ·rw[rot_a h5,rot_d h6 p4 p2]
  exact p.l1r2 _ _ h1 h5 h6 h4
 ·rw[rot_b h5 (by omega),rot_c (by omega) h6]
  exact p.r1l2 _ _ (by omega) (by omega) (by omega) (by omega)
 ·rw[rot_b h5 (by omega),rot_d h6 p4 p2]
  exact p.pre.right _ _ (by omega) (by omega) (by omega)
theorem Split.done (p:Split l f a m b s e mid) (q:Mpost l (rotn f s m e) f2 a mid) (r:Mpost l f2 f3 mid b):Mpost l f f3 a b:=by
 have p1:=p.smid
 have p2:=p.me
 have p3:=p.mide
 have p4:=p.sm
 have p5:=p.eb
 have p6:=p.as_
 refine⟨fun i j h3 h4 h5=>?_,((frm_rot p4 p2).wide p6 p5).trans ((q.frm.wide (Nat.le_refl _) (by omega)).trans (r.frm.wide (by omega) (Nat.le_refl _)))⟩
 rcases Nat.lt_or_ge j mid with h6 | h6
 ·rw[r.frm.out i (by omega),r.frm.out j (by omega)]
  exact q.srt i j h3 h4 h6
 ·rcases Nat.lt_or_ge i mid with h7 | h7
  ·rw[r.frm.out i (by omega)]
   obtain⟨q2,h8,h9,e2⟩:=r.frm.inn j h6 h5
   obtain⟨q1,h10,h11,e1⟩:=q.frm.inn i h3 h7
   rw[e1,e2,q.frm.out q2 (by omega)]
   exact p.cross h10 h11 h8 h9
  ·exact r.srt i j h7 h4 h5
theorem Frm.lt {n:Nat} (h:Frm f f2 a b) (hb:b≤n) (hl:∀ p,p<n→f p<n):∀ p,p<n→f2 p<n:=fun p hp=>by
 by_cases h1:a≤p∧p<b
 ·obtain⟨q,h2,h3,e⟩:=h.inn p h1.1 h1.2
  rw[e]
  exact hl q (by omega)
 ·rw[h.out p (by omega)]
  exact hl p hp
structure Good (l:List Int) (f:Nat→Nat) (b e:Nat):Prop where
 inn:∀ p,b≤p→p<e→b≤f p∧f p<e
 srt:SrtOn l f b e
theorem Good.same (h:Good l f a b) (e:∀ p,a≤p→p<b→f2 p=f p):Good l f2 a b :=
 ⟨fun p h1 h2=>by rw[e p h1 h2]; exact h.inn p h1 h2,fun i j h1 h2 h3=>by rw[e i h1 (by omega),e j (by omega) h3]; exact h.srt i j h1 h2 h3⟩
theorem good_none (h:b≤a):Good l f a b:=⟨fun p h1 h2=>by omega,fun i j h1 h2 h3=>by omega⟩
theorem Good.pre (h:Good l f a m) (g:Good l f m b) (h1:a<m) (h2:m<b):Mpre l f a m b :=
 ⟨h1,h2,h.srt,g.srt,fun i j h3 h4 h5 h6=>by have:=(h.inn i h3 h4).2; have:=(g.inn j h5 h6).1; omega⟩
theorem Good.merged (h:Good l f a m) (g:Good l f m b) (q:Mpost l f f2 a b) (h1:a≤m) (h2:m≤b):Good l f2 a b:=by
 refine⟨fun p h3 h4=>?_,q.srt⟩
 obtain⟨r,h5,h6,e⟩:=q.frm.inn p h3 h4
 rw[e]
 rcases Nat.lt_or_ge r m with h7 | h7
 ·have:=h.inn r h5 h7
  omega
 ·have:=g.inn r h7 h6
  omega
theorem good_ins (hid:∀ p,a≤p→p<b→f p=p) (q:Mpost l f f2 a b):Good l f2 a b:=by
 refine⟨fun p h3 h4=>?_,q.srt⟩
 obtain⟨r,h5,h6,e⟩:=q.frm.inn p h3 h4
 rw[e,hid r h5 h6]
 omega
theorem dvd_next {d a c:Nat} (ha:d∣a) (hc:d∣c) (h:c<a):c+d≤a:=by
 have:=Nat.le_of_dvd (by omega) (Nat.dvd_sub ha hc)
 omega
structure Ins (l:List Int) (n W a:Nat) (f:Nat→Nat):Prop where
 dvd:W∣a
 lt:∀ p,p<n→f p<n
 blk:∀ c,W∣c→c<a→Good l f c (min (c+W) n)
 rest:∀ p,a≤p→p<n→f p=p
theorem ins_start {n W:Nat} (h:∀ p,p<n→f p=p):Ins l n W 0 f:=⟨Nat.dvd_zero W,fun p hp=>by rw[h p hp]; exact hp,fun c _ hc=>absurd hc (by omega),fun p _ hp=>h p hp⟩
theorem Ins.rise {n W:Nat} (h:Ins l n W a f) (hb:b≤n):∀ i j,a≤i→i<j→j<b→f i<f j:=fun i j h1 h2 h3=>by
 rw[h.rest i h1 (by omega),h.rest j (by omega) (by omega)]
 exact h2
theorem Ins.next {n W:Nat} (h:Ins l n W a f) (hb:a+W≤n) (q:Mpost l f f2 a (a+W)):Ins l n W (a+W) f2:=by
 refine⟨Nat.dvd_add h.dvd (Nat.dvd_refl W),q.frm.lt hb h.lt,fun c h1 h2=>?_,fun p h1 h2=>by rw[q.frm.out p (by omega)]; exact h.rest p (by omega) h2⟩
 rcases Nat.lt_or_ge c a with h3 | h3
 ·have h4:=dvd_next h.dvd h1 h3
  exact (h.blk c h1 h3).same fun p h5 h6=>q.frm.out p (by omega)
 ·obtain rfl:c=a:=by
   rcases Nat.lt_or_ge a c with h4 | h4
   ·have:=dvd_next h1 h.dvd h4
    omega
   ·omega
  rw[show min (c+W) n=c+W by omega]
  exact good_ins (fun p h5 h6=>h.rest p h5 (by omega)) q
structure Half (l:List Int) (n W a:Nat) (f:Nat→Nat):Prop where
 dvd:2*W∣a
 lt:∀ p,p<n→f p<n
 low:∀ c,2*W∣c→c<a→Good l f c (min (c+2*W) n)
 high:∀ c,W∣c→a≤c→Good l f c (min (c+W) n)
structure All (l:List Int) (n W:Nat) (f:Nat→Nat):Prop where
 lt:∀ p,p<n→f p<n
 blk:∀ c,W∣c→Good l f c (min (c+W) n)
theorem Ins.last {n W:Nat} (h:Ins l n W a f) (hb:n<a+W) (q:Mpost l f f2 a n) (han:a≤n):All l n W f2:=by
 refine⟨q.frm.lt (Nat.le_refl _) h.lt,fun c h1=>?_⟩
 rcases Nat.lt_trichotomy c a with h3 | h3 | h3
 ·have h4:=dvd_next h.dvd h1 h3
  exact (h.blk c h1 h3).same fun p h5 h6=>q.frm.out p (by omega)
 ·subst h3
  rw[show min (c+W) n=n by omega]
  exact good_ins (fun p h5 h6=>h.rest p h5 (by omega)) q
 ·have:=dvd_next h1 h.dvd h3
  exact good_none (by omega)
theorem All.half {n W:Nat} (h:All l n W f):Half l n W 0 f:=⟨Nat.dvd_zero _,h.lt,fun c _ hc=>absurd hc (by omega),fun c hc _=>h.blk c hc⟩
theorem dvd_half {W c:Nat} (h:2*W∣c):W∣c:=Nat.dvd_trans ⟨2,by omega⟩ h
theorem Half.pre {n W:Nat} (h:Half l n W a f) (hW:0<W) (hb:b=min (a+2*W) n) (hm:a+W<b):Mpre l f a (a+W) b:=by
 have h1:=h.high a (dvd_half h.dvd) (Nat.le_refl _)
 have h2:=h.high (a+W) (Nat.dvd_add (dvd_half h.dvd) (Nat.dvd_refl W)) (by omega)
 rw[show min (a+W) n=a+W by omega] at h1
 rw[show min (a+W+W) n=b by omega] at h2
 exact h1.pre h2 (by omega) hm
theorem Half.good {n W:Nat} (h:Half l n W a f) (hb:b=min (a+2*W) n) (hm:a+W<b) (q:Mpost l f f2 a b):Good l f2 a b:=by
 have h1:=h.high a (dvd_half h.dvd) (Nat.le_refl _)
 have h2:=h.high (a+W) (Nat.dvd_add (dvd_half h.dvd) (Nat.dvd_refl W)) (by omega)
 rw[show min (a+W) n=a+W by omega] at h1
 rw[show min (a+W+W) n=b by omega] at h2
 exact h1.merged h2 q (by omega) (by omega)
theorem Half.next {n W:Nat} (h:Half l n W a f) (hW:0<W) (hb:a+2*W≤n) (q:Mpost l f f2 a (a+2*W)):Half l n W (a+2*W) f2:=by
 refine⟨Nat.dvd_add h.dvd (Nat.dvd_refl _),q.frm.lt hb h.lt,fun c h1 h2=>?_,fun c h1 h2=>(h.high c h1 (by omega)).same fun p h5 h6=>q.frm.out p (by omega)⟩
 rcases Nat.lt_or_ge c a with h3 | h3
 ·have h4:=dvd_next h.dvd h1 h3
  exact (h.low c h1 h3).same fun p h5 h6=>q.frm.out p (by omega)
 ·obtain rfl:c=a:=by
   rcases Nat.lt_or_ge a c with h4 | h4
   ·have:=dvd_next h1 h.dvd h4
    omega
   ·omega
  have:=h.good (b:=c+2*W) (by omega) (by omega) q
  rwa[show min (c+2*W) n=c+2*W by omega]
theorem Half.last {n W:Nat} (h:Half l n W a f) (hb:n<a+2*W) (hm:a+W<n) (q:Mpost l f f2 a n):All l n (2*W) f2:=by
 refine⟨q.frm.lt (Nat.le_refl _) h.lt,fun c h1=>?_⟩
 rcases Nat.lt_trichotomy c a with h3 | h3 | h3
 ·have h4:=dvd_next h.dvd h1 h3
  exact (h.low c h1 h3).same fun p h5 h6=>q.frm.out p (by omega)
 ·subst h3
  have:=h.good (b:=n) (by omega) hm q
  rwa[show min (c+2*W) n=n by omega]
 ·have:=dvd_next h1 h.dvd h3
  exact good_none (by omega)
theorem Half.lastNone {n W:Nat} (h:Half l n W a f) (hm:n≤a+W):All l n (2*W) f:=by
 refine⟨h.lt,fun c h1=>?_⟩
 rcases Nat.lt_trichotomy c a with h3 | h3 | h3
 ·exact h.low c h1 h3
 ·subst h3
  have:=h.high c (dvd_half h1) (Nat.le_refl _)
  rw[show min (c+W) n=n by omega] at this
  rwa[show min (c+2*W) n=n by omega]
 ·have:=dvd_next h1 h.dvd h3
  exact good_none (by omega)
theorem All.srt {n W:Nat} (h:All l n W f) (hn:n≤W) (hl:l.length=n):Srt l ((List.range n).map f):=by
 have g:=h.blk 0 (Nat.dvd_zero W)
 rw[show min (0+W) n=n by omega] at g
 refine⟨by simp[hl],fun x hx=>?_,fun i j x y hij hx hy=>?_⟩
 ·obtain⟨p,hp,rfl⟩:=List.mem_map.1 hx
  rw[hl]
  exact h.lt p (List.mem_range.1 hp)
 ·rw[List.getElem?_map] at hx hy
  obtain⟨h1,_⟩:=List.getElem?_eq_some_iff.1 (show (List.range n)[i]? = some i by
   rcases Nat.lt_or_ge i n with h | h
   ·rw[List.getElem?_range h]
   ·rw[List.getElem?_eq_none (by simpa using h)] at hx
    cases hx)
  obtain⟨h2,_⟩:=List.getElem?_eq_some_iff.1 (show (List.range n)[j]? = some j by
   rcases Nat.lt_or_ge j n with h | h
   ·rw[List.getElem?_range h]
   ·rw[List.getElem?_eq_none (by simpa using h)] at hy
    cases hy)
  rw[List.length_range] at h1 h2
  rw[List.getElem?_range h1] at hx
  rw[List.getElem?_range h2] at hy
  obtain rfl:=Option.some.inj hx
  obtain rfl:=Option.some.inj hy
  exact g.srt i j (Nat.zero_le _) hij h2
end
end
end Go.Su
