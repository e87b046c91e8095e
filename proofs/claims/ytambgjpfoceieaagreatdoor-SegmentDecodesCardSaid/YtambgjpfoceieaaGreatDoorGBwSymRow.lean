/- Lemmas and contracts of this proof. Conditions: said at each. -/
import Derived.Test.YtambgjpfoceieaaGreatDoorGBwSymMath
import Derived.Test.YtambgjpfoceieaaGreatDoorGFmFrom
import Derived.BigRegion
import Derived.Lib.Small
set_option maxHeartbeats 8000000
set_option maxRecDepth 100000
namespace Go.Proofs.YtambgjpfoceieaaGreatDoor
section
open Go.RowKit Go.Oct Go.Su
def tb (n:Nat) (f:Nat→Nat):List Nat:=(List.range n).map f
theorem tb_len (n:Nat) (f:Nat→Nat):(tb n f).length=n:=by unfold tb; simp
theorem tb_at {n:Nat} {f:Nat→Nat} {j:Nat} (h:j<n):(tb n f)[j]? = some (f j):=by
 unfold tb
 rw[List.getElem?_map,List.getElem?_range h]
 rfl
theorem tb_set {n:Nat} {f f':Nat→Nat} {j v:Nat} (h1:f' j=v) (h2:∀ q,q≠j→f' q=f q):(tb n f).set j v=tb n f':=by
 apply List.ext_getElem?
 intro q
 rcases Nat.lt_or_ge q n with h | h
 ·rw[tb_at h]
  by_cases e:j=q
  ·subst e
   rw[List.getElem?_set_self (by rw[tb_len]; exact h),h1]
  ·rw[List.getElem?_set_ne e,tb_at h,h2 q (fun e2=>e e2.symm)]
 ·rw[List.getElem?_eq_none (by rw[List.length_set,tb_len]; exact h),List.getElem?_eq_none (by rw[tb_len]; exact h)]
structure Rw (w:World) (g n:Nat) (f:Nat→Nat):Prop where
 own:Own w 3 1 g n n (vals (tb n f))
section
variable {w w':World} {g n:Nat} {f f':Nat→Nat}
theorem Rw.cell (h:Rw w g n f) {j:Nat} (hj:j<n):w.cell? ⟨g,j,none⟩=some (.int .i64 (f j:Nat)):=by
 have:=h.own.cellN hj
 rwa[gn_at (tb_at hj)] at this
theorem Rw.frozen (h:Rw w g n f) (j:Nat):w.frozen? ⟨g,j,none⟩=false:=h.own.frozenAt j
theorem Rw.keep (h:Rw w g n f) (hc:Ch (fun _=>False) w w'):Rw w' g n f:=⟨h.own.keep hc⟩
theorem Rw.drewN (h:Rw w g n f) (q:Nat):Rw (w.drewN q) g n f:=h.keep ((Ch.refl _ w).drewN q)
theorem Rw.swap (h:Rw w g n f) (x y:Nat):Rw ((w.setCell ⟨g,x,none⟩ (.int .i64 (f y:Nat))).setCell ⟨g,y,none⟩ (.int .i64 (f x:Nat))) g n (swp f x y)∧Ch (fun b=>b=g) w ((w.setCell ⟨g,x,none⟩ (.int .i64 (f y:Nat))).setCell ⟨g,y,none⟩ (.int .i64 (f x:Nat))):=by
 obtain⟨h1,c1⟩:=h.own.storedN x (f y)
 rw[tb_set (f':=fun p=>if p=x then f y else f p) (if_pos rfl) (fun q hq=>if_neg hq)] at h1
 obtain⟨h2,c2⟩:=h1.storedN y (f x)
 rw[tb_set (f':=swp f x y) (by unfold swp; rw[if_pos rfl]) (fun q hq=>by unfold swp; rw[if_neg hq])] at h2
 exact⟨⟨h2⟩,c1.trans c2 (fun _ _ h=>h)⟩
end
def Row1 (g n:Nat) (p:(Nat→Nat)→Prop) (w:World) (e:Ending) (w':World):Prop:=e = .returned (.tuple #[])∧∃ f',p f'∧Rw w' g n f'∧Ch (fun b=>b=g) w w'
theorem swaprange_any (g n a b k:Nat) (f:Nat→Nat) (cmp:Value) (w:World) (hO:Rw w g n f) (hn:n≤1048576) (hab:a+k≤b) (hb:b+k≤n) :
  Calls Tryz.prog 262 #[.slice (some ⟨g,0,none⟩) n n, .int .i64 a, .int .i64 b, .int .i64 k,cmp] w (Row1 g n (fun f'=>f'=swr f a b k) w):=by
 have HO:Bx (Rw w g n (swr f a b 0)):=⟨by rw[swr_zero]; exact hO⟩
 clear hO
 go_enter Tryz.func262,Tryz.ntmps262
 go_wp2_with fail
 go_loopw [10] (fun i wr=>∃ j:Nat,j≤k∧i = .int .i64 j∧Rw wr g n (swr f a b j)∧Ch (fun b=>b=g) w wr) (fun i _=>k-(intOf i).toNat)
 case atStart=>exact⟨0,Nat.zero_le _,rfl,HO.out,Ch.refl _ _⟩
 case round =>
  obtain⟨j,hj,rfl,hO,hC⟩:=hrel
  by_cases hlt:j<k
  ·have dj:decide ((j:Int)<(k:Int))=true:=by simp; omega
   obtain⟨x,hx⟩:∃ x,a+j=x:=⟨_,rfl⟩
   obtain⟨y,hy⟩:∃ y,b+j=y:=⟨_,rfl⟩
   have ex:(a:Int)+(j:Int)=(x:Int):=by omega
   have ey:(b:Int)+(j:Int)=(y:Int):=by omega
   have hcx:=hO.cell (j:=x) (by omega)
   have hcy:=hO.cell (j:=y) (by omega)
   have hfx:=hO.frozen x
   have hfy:=hO.frozen y
   have hst:=hO.swap x y
   have hnx:=swr_next (f:=f) (a:=a) (b:=b) (k:=j) (by omega)
   rw[hx,hy] at hnx
   rw[hnx] at hst
   generalize swr f a b j x=vx at *
   generalize swr f a b j y=vy at *
   have HST:=Bx.mk hst
   have HC:=Bx.mk (hC.trans hst.2 (fun _ _ h=>h))
   have i1:(x:Int)<(n:Int):=by omega
   have i2:(y:Int)<(n:Int):=by omega
   clear hst hnx hO hC hx hy
   go_wp2_with fail
   go_region
   all_goals
    go_wp2
    go_roundw
    case rel=>exact⟨j+1,by omega,by go_num,HST.out.1.keep ((Ch.refl (fun _=>False) _).drew),HC.out.drew⟩
    case measure=>simp[intOf]; omega
  ·obtain rfl:j=k:=by omega
   have HO:=Bx.mk hO
   have HC:=Bx.mk hC
   have dj:decide ((j:Int)<(j:Int))=false:=by simp
   clear hO hC
   go_wp2
   go_returns
   exact⟨rfl,_,rfl,HO.out,HC.out⟩
end
section
open Go.RowKit Go.Oct Go.Su
theorem rotate_any (g n a m b:Nat) (f:Nat→Nat) (cmp:Value) (w:World) (hO:Rw w g n f) (hn:n≤1048576) (ham:a<m) (hmb:m<b) (hb:b≤n) :
  Calls Tryz.prog 254 #[.slice (some ⟨g,0,none⟩) n n, .int .i64 a, .int .i64 m, .int .i64 b,cmp] w (Row1 g n (fun f'=>f'=rotn f a m b) w):=by
 have HO:=Bx.mk hO
 clear hO
 go_enter Tryz.func254,Tryz.ntmps254
 go_wp2_with fail
 go_loopw [10,11] (fun x y wr=>∃ (i j:Nat) (f':Nat→Nat),x = .int .i64 i∧y = .int .i64 j∧0<i∧0<j∧a+i≤m∧m+j≤b∧Bx (rotn f' (m-i) m (m+j)=rotn f a m b)∧Rw wr g n f'∧Ch (fun b=>b=g) w wr) (fun x y _=>(intOf x).toNat+(intOf y).toNat)
 case atStart=>exact⟨m-a,b-m,f,by rw[show ((m-a:Nat):Int)=(m:Int)-(a:Int) by omega],by rw[show ((b-m:Nat):Int)=(b:Int)-(m:Int) by omega],by omega,by omega,by omega,by omega,⟨by rw[show m-(m-a)=a by omega,show m+(b-m)=b by omega]⟩,HO.out,Ch.refl _ _⟩
 case round =>
  obtain⟨i,j,f',rfl,rfl,hi,hj,hai,hbj,hR,hO,hC⟩:=hrel
  have HO:=Bx.mk hO
  have HC:=Bx.mk hC
  clear hO hC
  have e1:(m:Int)-(i:Int)=((m-i:Nat):Int):=by omega
  rcases Nat.lt_trichotomy i j with h | h | h
  ·have d1:((i:Int) != (j:Int))=true:=by simp; omega
   have d2:decide ((j:Int)<(i:Int))=false:=by simp; omega
   have e2:(m:Int)+(j:Int)-(i:Int)=((m+j-i:Nat):Int):=by omega
   have hsw:=swaprange_any g n (m-i) (m+j-i) i f' cmp wr HO.out hn (by omega) (by omega)
   rw[←e1,←e2] at hsw
   have HR:Bx (rotn (swr f' (m-i) (m+j-i) i) (m-i) m (m+(j-i))=rotn f a m b):=⟨by rw[rot_right h (by omega)]; exact hR.out⟩
   have HSW:=Bx.mk hsw
   clear hsw hR e1 e2
   go_wp2_with fail
   refine HSW.out.mono ?_
   rintro e w2 ⟨rfl,f2,rfl,hO2,hC2⟩
   have HO2:=Bx.mk hO2
   have HC2:=Bx.mk (HC.out.trans hC2 (fun _ _ h=>h))
   clear hO2 hC2 HSW
   go_wp2
   go_roundw
   case rel=>exact⟨i,j-i,_,rfl,by rw[show ((j-i:Nat):Int)=(j:Int)-(i:Int) by omega],by omega,by omega,by omega,by omega,HR,HO2.out,HC2.out⟩
   case measure=>simp[intOf]; omega
  ·subst h
   have d1:((i:Int) != (i:Int))=false:=by simp
   have hsw:=swaprange_any g n (m-i) m i f' cmp wr HO.out hn (by omega) (by omega)
   rw[←e1] at hsw
   have HR:Bx (swr f' (m-i) m i=rotn f a m b):=⟨by rw[rot_end (by omega)]; exact hR.out⟩
   have HSW:=Bx.mk hsw
   clear hsw hR e1
   go_wp2_with fail
   refine HSW.out.mono ?_
   rintro e w2 ⟨rfl,f2,rfl,hO2,hC2⟩
   have HO2:=Bx.mk hO2
   have HC2:=Bx.mk (HC.out.trans hC2 (fun _ _ h=>h))
   clear hO2 hC2 HSW
   go_wp2
   go_returns
   exact⟨rfl,_,HR.out,HO2.out,HC2.out⟩
  ·have d1:((i:Int) != (j:Int))=true:=by simp; omega
   have d2:decide ((j:Int)<(i:Int))=true:=by simp; omega
   have hsw:=swaprange_any g n (m-i) m j f' cmp wr HO.out hn (by omega) (by omega)
   rw[←e1] at hsw
   have HR:Bx (rotn (swr f' (m-i) m j) (m-(i-j)) m (m+j)=rotn f a m b):=⟨by rw[rot_left h (by omega)]; exact hR.out⟩
   have HSW:=Bx.mk hsw
   clear hsw hR e1
   go_wp2_with fail
   refine HSW.out.mono ?_
   rintro e w2 ⟨rfl,f2,rfl,hO2,hC2⟩
   have HO2:=Bx.mk hO2
   have HC2:=Bx.mk (HC.out.trans hC2 (fun _ _ h=>h))
   clear hO2 hC2 HSW
   go_wp2
   go_roundw
   case rel=>exact⟨i-j,j,_,by rw[show ((i-j:Nat):Int)=(i:Int)-(j:Int) by omega],rfl,by omega,by omega,by omega,by omega,HR,HO2.out,HC2.out⟩
   case measure=>simp[intOf]; omega
end
section
open Go.RowKit Go.Oct Go.Su
def cv (l:List Int) (x y:Nat):Int:=Lib.compareInt (gs l x) (gs l y)
theorem cv_neg (l:List Int) (x y:Nat):cv l x y<0↔gs l x<gs l y:=by
 unfold cv Lib.compareInt
 by_cases h1:gs l x<gs l y
 ·simp[h1]
 ·by_cases h2:gs l y<gs l x <;> simp[h1,h2]
structure CmpOk (l:List Int) (n g fc:Nat) (cb:Array Value) (w:World):Prop where
 enters:∀ args w,(callFunc fc args).run Tryz.prog w = .ok (.enter fc args) w
 calls:∀ W,Ch (fun b=>b=g) w W→∀ x y:Nat,x<n→y<n→Calls Tryz.prog fc (#[.int .i64 (x:Int), .int .i64 (y:Int)]++cb) W fun e w'=>e = .returned (.int .i64 (cv l x y))∧∃ q,w'=W.drewN q
theorem CmpOk.later {l:List Int} {n g fc:Nat} {cb:Array Value} {w w':World} (h:CmpOk l n g fc cb w) (hc:Ch (fun b=>b=g) w w'):CmpOk l n g fc cb w':=⟨h.enters,fun W hW=>h.calls W (hc.trans hW (fun _ _ h=>h))⟩
theorem CmpOk.quiet {l:List Int} {n g fc:Nat} {cb:Array Value} {w:World} (h:CmpOk l n g fc cb w) {x y:Nat} (hx:x<n) (hy:y<n) (m:Nat):Calls Tryz.prog fc (#[.int .i64 (x:Int), .int .i64 (y:Int)]++cb) (w.drewN m) fun e w'=>e = .returned (.int .i64 (cv l x y))∧∃ q,w'=(w.drewN m).drewN q :=
 h.calls _ ((Ch.refl _ w).drewN m) x y hx hy
theorem insertion_any (l:List Int) (g n fc a b:Nat) (cb:Array Value) (f:Nat→Nat) (w:World) (hO:Rw w g n f) (hc:CmpOk l n g fc cb w) (hn:n≤1048576) (hab:a≤b) (hb:b≤n) (hlt:∀ p,p<n→f p<n) (hid:∀ i j,a≤i→i<j→j<b→f i<f j) :
  Calls Tryz.prog 251 #[.slice (some ⟨g,0,none⟩) n n, .int .i64 a, .int .i64 b, .func (.func fc) #[] cb] w (Row1 g n (fun f'=>Mpost l f f' a b) w):=by
 have HO:=Bx.mk hO
 have HCM:=Bx.mk hc
 have HLT:=Bx.mk hlt
 have HID:=Bx.mk hid
 have eg:=hc.enters
 clear hO hc hlt hid
 go_enter Tryz.func251,Tryz.ntmps251
 go_wp2_with fail
 go_loopw [8] (fun x wr=>∃ (i:Nat) (F:Nat→Nat),x = .int .i64 i∧a<i∧i≤b+1∧Bx (SrtOn l F a (min i b)∧Frm f F a (min i b))∧Rw wr g n F∧Ch (fun b=>b=g) w wr) (fun x _=>b+1-(intOf x).toNat)
 case atStart=>exact⟨a+1,f,by go_num,by omega,by omega,⟨fun i j h1 h2 h3=>absurd h1 (by omega),Frm.refl _ _ _⟩,HO.out,Ch.refl _ _⟩
 case round =>
  obtain⟨i,F,rfl,hai,hib,hS,hO,hC⟩:=hrel
  by_cases hlt:i<b
  ·have dj:decide ((i:Int)<(b:Int))=true:=by simp; omega
   have hmin:min i b=i:=by omega
   rw[hmin] at hS
   have HO1:=Bx.mk hO
   have HC1:=Bx.mk hC
   have HFL:Bx (∀ p,p<n→F p<n):=⟨fun p hp=>by
    by_cases h:a≤p∧p<i
    ·obtain⟨q,h1,h2,e⟩:=hS.out.2.inn p h.1 h.2
     rw[e]
     exact HLT.out q (by omega)
    ·rw[hS.out.2.out p (by omega)]
     exact HLT.out p hp⟩
   have HCR:Bx (∀ q,a≤q→q<i→F q<F i):=⟨fun q h1 h2=>by
    obtain⟨r,h3,h4,e⟩:=hS.out.2.inn q h1 h2
    rw[e,hS.out.2.out i (by omega)]
    exact HID.out r i h3 h4 hlt⟩
   obtain⟨wo,rfl⟩:∃ wo:World,wo=wr:=⟨_,rfl⟩
   clear hO hC hmin
   go_wp2_with fail
   go_loopw [9] (fun x wr=>∃ j:Nat,x = .int .i64 j∧a≤j∧j≤i∧Bx (∀ q,j≤q→q<i→Bef l (F i) (F q))∧Rw wr g n (mvd F i j)∧Ch (fun b=>b=g) wo wr) (fun x _=>(intOf x).toNat)
   case atStart=>exact⟨i,rfl,by omega,Nat.le_refl _,⟨fun q h1 h2=>absurd h1 (by omega)⟩,by rw[mvd_start]; exact HO1.out,Ch.refl _ _⟩
   case round =>
    obtain⟨j,rfl,haj,hji,hB,hO,hC⟩:=hrel
    have HO:=Bx.mk hO
    have HC:=Bx.mk hC
    clear hO hC
    have out:(j=a∨∃ k,j=k+1∧¬ gs l (F i)<gs l (F k))→Mpost l f (mvd F i j) a (i+1):=fun hs=>by
     refine⟨srt_mvd hS.out.1 haj hji (fun q h1 h2=>?_) hB.out,(hS.out.2.wide (Nat.le_refl _) (by omega)).trans (frm_mvd haj hji)⟩
     rcases hs with hs | ⟨k,hk,hs⟩
     ·omega
     ·have hx:=bef_not (HCR.out k (by omega) (by omega)) hs
      rcases Nat.lt_or_ge q k with h5 | h5
      ·exact (hS.out.1 q k h1 h5 (by omega)).trans hx
      ·obtain rfl:q=k:=by omega
       exact hx
    have OUT:=Bx.mk out
    have bmin:min (i+1) b=i+1:=by omega
    have BMIN:=Bx.mk bmin
    clear out bmin
    by_cases hja:a<j
    ·obtain⟨k,rfl⟩:∃ k,j=k+1:=⟨j-1,by omega⟩
     have jc:((k+1:Nat):Int)=(k:Int)+1:=by omega
     have d0:decide ((a:Int)<(k:Int)+1)=true:=by simp; omega
     have hcj:=HO.out.cell (j:=k+1) (by omega)
     have hck:=HO.out.cell (j:=k) (by omega)
     rw[mvd_here] at hcj
     rw[mvd_ahead] at hck
     have hq:=(HCM.out.later (HC1.out.trans HC.out (fun _ _ h=>h))).quiet (HFL.out i (by omega)) (HFL.out k (by omega))
     have hF1:=mvd_here F i (k+1)
     have hF0:=mvd_ahead (f:=F) (m:=i) (k:=k)
     obtain⟨v,hv⟩:∃ v,cv l (F i) (F k)=v:=⟨_,rfl⟩
     have hvl:=cv_neg l (F i) (F k)
     rw[hv] at hq hvl
     have HVL:=Bx.mk hvl
     have HBN:Bx (v<0→∀ q,k≤q→q<i→Bef l (F i) (F q)):=⟨fun h0 q h1 h2=>by
      rcases Nat.lt_or_ge k q with h5 | h5
      ·exact hB.out q (by omega) h2
      ·obtain rfl:q=k:=by omega
       exact bef_of (hvl.1 h0)⟩
     obtain⟨x,hx⟩:∃ x,F i=x:=⟨_,rfl⟩
     rw[hx] at hq hcj hF1
     obtain⟨y,hy⟩:∃ y,F k=y:=⟨_,rfl⟩
     rw[hy] at hq hck hF0
     have HQ:=Bx.mk hq
     have i1:(k:Int)+1<(n:Int):=by omega
     have i2:(k:Int)<(n:Int):=by omega
     clear hB hv hvl hq hx hy
     by_cases h0:v<0
     ·have HBN2:=Bx.mk (HBN.out h0)
      have d1:decide (v<0)=true:=by simpa using h0
      go_wp2_with fail
      go_quiet (refine Calls.quiet_of (HQ.out _))
      have hst:=(HO.out.drewN nq).swap (k+1) k
      rw[mvd_next (by omega),hF1,hF0] at hst
      have HST:=Bx.mk hst.1
      have HCD:=Bx.mk ((HC.out.drewN nq).trans hst.2 (fun _ _ h=>h))
      have hcj1:(wr.drewN nq).cell? ⟨g,k+1,none⟩=some (.int .i64 (x:Int)):=hcj
      have hck1:(wr.drewN nq).cell? ⟨g,k,none⟩=some (.int .i64 (y:Int)):=hck
      have hfj1:=(HO.out.drewN nq).frozen (k+1)
      have hfk1:=(HO.out.drewN nq).frozen k
      clear hst hcj hck HQ
      generalize wr.drewN nq=w1 at *
      go_wp2_with fail
      go_region
      all_goals
       go_wp2
       go_roundw
       case rel=>exact⟨k,by go_num,by omega,by omega,HBN2,HST.out.keep ((Ch.refl (fun _=>False) _).drew),HCD.out.drew⟩
       case measure=>first | (simp[intOf]; done) | (simp[intOf]; omega)
     ·have HOU:=Bx.mk (OUT.out (.inr ⟨k,rfl,fun h=>h0 (HVL.out.2 h)⟩))
      have d1:decide (v<0)=false:=by simpa using h0
      go_wp2_with fail
      go_quiet (refine Calls.quiet_of (HQ.out _))
      have HCD:=Bx.mk (HC1.out.trans (HC.out.drewN nq) (fun _ _ h=>h))
      have HOD:=Bx.mk (HO.out.drewN nq)
      generalize wr.drewN nq=w1 at *
      go_wp2
      go_roundw
      case rel=>exact⟨i+1,_,by go_num,by omega,by omega,⟨by rw[BMIN.out]; exact⟨HOU.out.srt,HOU.out.frm⟩⟩,HOD.out,HCD.out⟩
      case measure=>simp[intOf]; omega
    ·have HOU:=Bx.mk (OUT.out (.inl (by omega)))
     have d0:decide ((a:Int)<(j:Int))=false:=by simp; omega
     have d1:decide (a<j)=false:=by simp; omega
     go_wp2_with fail
     go_quiet (fail)
     have HCD:=Bx.mk (HC1.out.trans (HC.out.drewN nq) (fun _ _ h=>h))
     have HOD:=Bx.mk (HO.out.drewN nq)
     generalize wr.drewN nq=w1 at *
     go_wp2
     go_roundw
     case rel=>exact⟨i+1,_,by go_num,by omega,by omega,⟨by rw[BMIN.out]; exact⟨HOU.out.srt,HOU.out.frm⟩⟩,HOD.out,HCD.out⟩
     case measure=>simp[intOf]; omega
  ·have dj:decide ((i:Int)<(b:Int))=false:=by simp; omega
   have hmin:min i b=b:=by omega
   rw[hmin] at hS
   have HO1:=Bx.mk hO
   have HC1:=Bx.mk hC
   clear hO hC hmin
   go_wp2
   go_returns
   exact⟨rfl,F,⟨hS.out.1,hS.out.2⟩,HO1.out,HC1.out⟩
end
section
open Go.RowKit Go.Oct Go.Su
theorem mvu_here (f:Nat→Nat) (a k:Nat):mvu f a k k=f a:=by
 unfold mvu
 rw[if_neg (by omega),if_pos rfl]
theorem mvu_next1 {f:Nat→Nat} {a k:Nat}:mvu f a k (k+1)=f (k+1):=by
 unfold mvu
 rw[if_neg (by omega),if_neg (by omega)]
theorem merge_up (l:List Int) (g n fc a b:Nat) (cb:Array Value) (f:Nat→Nat) (w:World) (hO:Rw w g n f) (hc:CmpOk l n g fc cb w) (hn:n≤1048576) (hb:b≤n) (hlt:∀ p,p<n→f p<n) (hp:Mpre l f a (a+1) b) :
  Calls Tryz.prog 252 #[.slice (some ⟨g,0,none⟩) n n, .int .i64 a, .int .i64 ((a:Int)+1), .int .i64 b, .func (.func fc) #[] cb] w (Row1 g n (fun f'=>Mpost l f f' a b) w):=by
 have HO:=Bx.mk hO
 have HCM:=Bx.mk hc
 have HLT:=Bx.mk hlt
 have HP:=Bx.mk hp
 have hab:=hp.mb
 have eg:=hc.enters
 have d0:((a:Int)+1-(a:Int)==1)=true:=by simp; omega
 clear hO hc hlt hp
 go_enter Tryz.func252,Tryz.ntmps252
 go_wp2_with fail
 go_loopw [10,11,12] (fun x y _ wr=>∃ lo hi:Nat,x = .int .i64 lo∧y = .int .i64 hi∧Bx (FndU l f a b lo hi)∧Rw wr g n f∧Ch (fun b=>b=g) w wr) (fun x y _ _=>(intOf y).toNat-(intOf x).toNat)
 case atStart=>exact⟨a+1,b,by go_num,rfl,⟨fndU_start hab⟩,HO.out,Ch.refl _ _⟩
 case round =>
  obtain⟨lo,hi,rfl,rfl,hF,hO,hC⟩:=hrel
  have h1:=hF.out.lh
  have h2:=hF.out.hb
  have h3:=hF.out.al
  by_cases hlh:lo<hi
  ·have dj:decide ((lo:Int)<(hi:Int))=true:=by simp; omega
   obtain⟨m,hm⟩:∃ m,(lo+hi)/2=m:=⟨_,rfl⟩
   have hme:((lo:Int)+(hi:Int))/2=(m:Int):=by omega
   have hlm:lo≤m:=by omega
   have hmh:m<hi:=by omega
   have hcm:=hO.cell (j:=m) (by omega)
   have hca:=hO.cell (j:=a) (by omega)
   have hq:=(HCM.out.later hC).quiet (HLT.out m (by omega)) (HLT.out a (by omega))
   obtain⟨v,hv⟩:∃ v,cv l (f m) (f a)=v:=⟨_,rfl⟩
   have hvl:=cv_neg l (f m) (f a)
   rw[hv] at hq hvl
   obtain⟨x,hx⟩:∃ x,f m=x:=⟨_,rfl⟩
   rw[hx] at hq hcm
   obtain⟨y,hy⟩:∃ y,f a=y:=⟨_,rfl⟩
   rw[hy] at hq hca
   have HQ:=Bx.mk hq
   have HOR:=Bx.mk hO
   have HCR:=Bx.mk hC
   have i1:(m:Int)<(n:Int):=by omega
   have i2:(a:Int)<(n:Int):=by omega
   have HLM:Bx (lo≤m∧m<hi):=⟨hlm,hmh⟩
   clear hm hO hC hv hq hx hy
   by_cases h0:v<0
   ·have HFN:=Bx.mk (hF.out.less HP.out hlm hmh (hvl.1 h0))
    have d1:decide (v<0)=true:=by simpa using h0
    clear hvl
    go_wp2_with fail
    go_quiet (refine Calls.quiet_of (HQ.out _))
    have HCD:=Bx.mk (HCR.out.drewN nq)
    have HOD:=Bx.mk (HOR.out.drewN nq)
    clear HQ hcm hca
    generalize wr.drewN nq=w1 at *
    go_wp2
    go_roundw
    case rel=>exact⟨m+1,hi,by go_num,rfl,HFN,HOD.out,HCD.out⟩
    case measure=>have:=HLM.out; simp[intOf]; omega
   ·have HFN:=Bx.mk (hF.out.more HP.out hlm hmh (fun h=>h0 (hvl.2 h)))
    have d1:decide (v<0)=false:=by simpa using h0
    clear hvl
    go_wp2_with fail
    go_quiet (refine Calls.quiet_of (HQ.out _))
    have HCD:=Bx.mk (HCR.out.drewN nq)
    have HOD:=Bx.mk (HOR.out.drewN nq)
    clear HQ hcm hca
    generalize wr.drewN nq=w1 at *
    go_wp2
    go_roundw
    case rel=>exact⟨lo,m,rfl,rfl,HFN,HOD.out,HCD.out⟩
    case measure=>have:=HLM.out; simp[intOf]; omega
  ·obtain rfl:lo=hi:=by omega
   have dj:decide ((lo:Int)<(lo:Int))=false:=by simp
   have HPO:=Bx.mk (hF.out.done HP.out)
   obtain⟨i,rfl⟩:∃ i,lo=i+1:=⟨lo-1,by omega⟩
   have ic:((i+1:Nat):Int)=(i:Int)+1:=by omega
   have hai:a≤i:=by omega
   have HOR:=Bx.mk hO
   have HCR:=Bx.mk hC
   obtain⟨wo,rfl⟩:∃ wo:World,wo=wr:=⟨_,rfl⟩
   clear hO hC hF h1
   go_wp2_with fail
   go_loopw [13] (fun x wr=>∃ k:Nat,x = .int .i64 k∧a≤k∧k≤i∧Rw wr g n (mvu f a k)∧Ch (fun b=>b=g) wo wr) (fun x _=>i-(intOf x).toNat)
   case atStart=>exact⟨a,rfl,Nat.le_refl _,hai,by rw[mvu_start]; exact HOR.out,Ch.refl _ _⟩
   case round =>
    obtain⟨k,rfl,hak,hki,hO,hC⟩:=hrel
    by_cases hlk:k<i
    ·have dk:decide ((k:Int)<(i:Int))=true:=by simp; omega
     have hck:=hO.cell (j:=k) (by omega)
     have hck1:=hO.cell (j:=k+1) (by omega)
     have hfk:=hO.frozen k
     have hfk1:=hO.frozen (k+1)
     have hst:=hO.swap k (k+1)
     rw[mvu_next hak,mvu_here,mvu_next1] at hst
     rw[mvu_here] at hck
     rw[mvu_next1] at hck1
     generalize f a=x at *
     generalize f (k+1)=y at *
     have HST:=Bx.mk hst.1
     have HCN:=Bx.mk (hC.trans hst.2 (fun _ _ h=>h))
     have i1:(k:Int)+1<(n:Int):=by omega
     have i2:(k:Int)<(n:Int):=by omega
     clear hst hO hC
     go_wp2_with fail
     go_region
     all_goals
      go_wp2
      go_roundw
      case rel=>exact⟨k+1,by go_num,by omega,by omega,HST.out.keep ((Ch.refl (fun _=>False) _).drew),HCN.out.drew⟩
      case measure=>simp[intOf]; omega
    ·obtain rfl:k=i:=by omega
     have dk:decide ((k:Int)<(k:Int))=false:=by simp
     have HOF:=Bx.mk hO
     have HCF:=Bx.mk (HCR.out.trans hC (fun _ _ h=>h))
     clear hO hC
     go_wp2
     go_returns
     exact⟨rfl,_,HPO.out,HOF.out,HCF.out⟩
end
section
open Go.RowKit Go.Oct Go.Su
theorem merge_down (l:List Int) (g n fc a m:Nat) (cb:Array Value) (f:Nat→Nat) (w:World) (hO:Rw w g n f) (hc:CmpOk l n g fc cb w) (hn:n≤1048576) (hb:m+1≤n) (hlt:∀ p,p<n→f p<n) (hp:Mpre l f a m (m+1)) (hne:m≠a+1) :
  Calls Tryz.prog 252 #[.slice (some ⟨g,0,none⟩) n n, .int .i64 a, .int .i64 m, .int .i64 ((m:Int)+1), .func (.func fc) #[] cb] w (Row1 g n (fun f'=>Mpost l f f' a (m+1)) w):=by
 have HO:=Bx.mk hO
 have HCM:=Bx.mk hc
 have HLT:=Bx.mk hlt
 have HP:=Bx.mk hp
 have ham:=hp.am
 have eg:=hc.enters
 have dd:((m:Int)-(a:Int)==1)=false:=by simp; omega
 have d0:((m:Int)+1-(m:Int)==1)=true:=by simp; omega
 clear hO hc hlt hp hne
 go_enter Tryz.func252,Tryz.ntmps252
 go_wp2_with fail
 go_loopw [14,15,16] (fun x y _ wr=>∃ lo hi:Nat,x = .int .i64 lo∧y = .int .i64 hi∧Bx (FndD l f a m lo hi)∧Rw wr g n f∧Ch (fun b=>b=g) w wr) (fun x y _ _=>(intOf y).toNat-(intOf x).toNat)
 case atStart=>exact⟨a,m,rfl,rfl,⟨fndD_start ham⟩,HO.out,Ch.refl _ _⟩
 case round =>
  obtain⟨lo,hi,rfl,rfl,hF,hO,hC⟩:=hrel
  have h1:=hF.out.lh
  have h2:=hF.out.hb
  have h3:=hF.out.al
  by_cases hlh:lo<hi
  ·have dj:decide ((lo:Int)<(hi:Int))=true:=by simp; omega
   obtain⟨h,hm⟩:∃ h,(lo+hi)/2=h:=⟨_,rfl⟩
   have hme:((lo:Int)+(hi:Int))/2=(h:Int):=by omega
   have hlm:lo≤h:=by omega
   have hmh:h<hi:=by omega
   have hcm:=hO.cell (j:=m) (by omega)
   have hca:=hO.cell (j:=h) (by omega)
   have hq:=(HCM.out.later hC).quiet (HLT.out m (by omega)) (HLT.out h (by omega))
   obtain⟨v,hv⟩:∃ v,cv l (f m) (f h)=v:=⟨_,rfl⟩
   have hvl:=cv_neg l (f m) (f h)
   rw[hv] at hq hvl
   obtain⟨x,hx⟩:∃ x,f m=x:=⟨_,rfl⟩
   rw[hx] at hq hcm
   obtain⟨y,hy⟩:∃ y,f h=y:=⟨_,rfl⟩
   rw[hy] at hq hca
   have HQ:=Bx.mk hq
   have HOR:=Bx.mk hO
   have HCR:=Bx.mk hC
   have i1:(m:Int)<(n:Int):=by omega
   have i2:(h:Int)<(n:Int):=by omega
   have HLM:Bx (lo≤h∧h<hi):=⟨hlm,hmh⟩
   clear hm hO hC hv hq hx hy
   by_cases h0:v<0
   ·have HFN:=Bx.mk (hF.out.more HP.out hlm hmh (hvl.1 h0))
    have d1:decide (v<0)=true:=by simpa using h0
    clear hvl
    go_wp2_with fail
    go_quiet (refine Calls.quiet_of (HQ.out _))
    have HCD:=Bx.mk (HCR.out.drewN nq)
    have HOD:=Bx.mk (HOR.out.drewN nq)
    clear HQ hcm hca
    generalize wr.drewN nq=w1 at *
    go_wp2
    go_roundw
    case rel=>exact⟨lo,h,rfl,rfl,HFN,HOD.out,HCD.out⟩
    case measure=>have:=HLM.out; simp[intOf]; omega
   ·have HFN:=Bx.mk (hF.out.less HP.out hlm hmh (fun h=>h0 (hvl.2 h)))
    have d1:decide (v<0)=false:=by simpa using h0
    clear hvl
    go_wp2_with fail
    go_quiet (refine Calls.quiet_of (HQ.out _))
    have HCD:=Bx.mk (HCR.out.drewN nq)
    have HOD:=Bx.mk (HOR.out.drewN nq)
    clear HQ hcm hca
    generalize wr.drewN nq=w1 at *
    go_wp2
    go_roundw
    case rel=>exact⟨h+1,hi,by go_num,rfl,HFN,HOD.out,HCD.out⟩
    case measure=>have:=HLM.out; simp[intOf]; omega
  ·obtain rfl:lo=hi:=by omega
   have dj:decide ((lo:Int)<(lo:Int))=false:=by simp
   have HPO:=Bx.mk (hF.out.done HP.out)
   have HOR:=Bx.mk hO
   have HCR:=Bx.mk hC
   obtain⟨wo,rfl⟩:∃ wo:World,wo=wr:=⟨_,rfl⟩
   clear hO hC hF h1
   go_wp2_with fail
   go_loopw [17] (fun x wr=>∃ k:Nat,x = .int .i64 k∧lo≤k∧k≤m∧Rw wr g n (mvd f m k)∧Ch (fun b=>b=g) wo wr) (fun x _=>(intOf x).toNat)
   case atStart=>exact⟨m,rfl,h2,Nat.le_refl _,by rw[mvd_start]; exact HOR.out,Ch.refl _ _⟩
   case round =>
    obtain⟨k,rfl,hak,hki,hO,hC⟩:=hrel
    by_cases hlk:lo<k
    ·obtain⟨k,rfl⟩:∃ k',k=k'+1:=⟨k-1,by omega⟩
     have kc:((k+1:Nat):Int)=(k:Int)+1:=by omega
     have dk:decide ((lo:Int)<(k:Int)+1)=true:=by simp; omega
     have hck:=hO.cell (j:=k+1) (by omega)
     have hck1:=hO.cell (j:=k) (by omega)
     have hfk:=hO.frozen k
     have hfk1:=hO.frozen (k+1)
     have hst:=hO.swap (k+1) k
     rw[mvd_next hki,mvd_here,mvd_ahead] at hst
     rw[mvd_here] at hck
     rw[mvd_ahead] at hck1
     generalize f m=x at *
     generalize f k=y at *
     have HST:=Bx.mk hst.1
     have HCN:=Bx.mk (hC.trans hst.2 (fun _ _ h=>h))
     have i1:(k:Int)+1<(n:Int):=by omega
     have i2:(k:Int)<(n:Int):=by omega
     clear hst hO hC
     go_wp2_with fail
     go_region
     all_goals
      go_wp2
      go_roundw
      case rel=>exact⟨k,by go_num,by omega,by omega,HST.out.keep ((Ch.refl (fun _=>False) _).drew),HCN.out.drew⟩
      case measure=>first | (simp[intOf]; done) | (simp[intOf]; omega)
    ·obtain rfl:k=lo:=by omega
     have dk:decide ((k:Int)<(k:Int))=false:=by simp
     have HOF:=Bx.mk hO
     have HCF:=Bx.mk (HCR.out.trans hC (fun _ _ h=>h))
     clear hO hC
     go_wp2
     go_returns
     exact⟨rfl,_,HPO.out,HOF.out,HCF.out⟩
end
section
open Go.RowKit Go.Oct Go.Su
def MrgIH (l:List Int) (g n fc:Nat) (cb:Array Value) (K:Nat):Prop:=∀ (a m b:Nat) (f:Nat→Nat) (w:World),b≤a+K→Rw w g n f→CmpOk l n g fc cb w→b≤n→(∀ p,p<n→f p<n)→Mpre l f a m b →
  Calls Tryz.prog 252 #[.slice (some ⟨g,0,none⟩) n n, .int .i64 a, .int .i64 m, .int .i64 b, .func (.func fc) #[] cb] w (Row1 g n (fun f'=>Mpost l f f' a b) w)
theorem merge_step (l:List Int) (g n fc a m b K:Nat) (cb:Array Value) (f:Nat→Nat) (w:World) (ih:Bx (MrgIH l g n fc cb K)) (hK:b≤a+(K+1)) (hO:Rw w g n f) (hc:CmpOk l n g fc cb w) (hn:n≤1048576) (hb:b≤n) (hlt:∀ p,p<n→f p<n) (hp:Mpre l f a m b) (hm1:m≠a+1) (hm2:b≠m+1) :
  Calls Tryz.prog 252 #[.slice (some ⟨g,0,none⟩) n n, .int .i64 a, .int .i64 m, .int .i64 b, .func (.func fc) #[] cb] w (Row1 g n (fun f'=>Mpost l f f' a b) w):=by
 have HO:=Bx.mk hO
 have HCM:=Bx.mk hc
 have HLT:=Bx.mk hlt
 have HP:=Bx.mk hp
 have ham:=hp.am
 have hmb:=hp.mb
 have eg:=hc.enters
 have dd:((m:Int)-(a:Int)==1)=false:=by simp; omega
 have d0:((b:Int)-(m:Int)==1)=false:=by simp; omega
 obtain⟨mid,hmid⟩:∃ mid,(a+b)/2=mid:=⟨_,rfl⟩
 have hme:((a:Int)+(b:Int))/2=(mid:Int):=by omega
 obtain⟨N,hN⟩:∃ N,mid+m=N:=⟨_,rfl⟩
 have hNe:(mid:Int)+(m:Int)=(N:Int):=by omega
 obtain⟨lo0,hi0,HB,hlo,hhi⟩:∃ lo0 hi0:Nat,Bx (Bnd a m b N lo0 hi0)∧((mid<m∧lo0+b=N∧hi0=mid)∨(m≤mid∧lo0=a∧hi0=m))∧True:=by
  rcases Nat.lt_or_ge mid m with h | h
  ·exact⟨mid+m-b,mid,⟨by rw[←hN]; exact bnd_less hmb hmid.symm h⟩, .inl ⟨h,by omega,rfl⟩,trivial⟩
  ·exact⟨a,m,⟨by rw[←hN]; exact bnd_more ham hmid.symm h⟩, .inr ⟨h,rfl,rfl⟩,trivial⟩
 have HMID:Bx (mid=(a+b)/2∧mid+m=N):=⟨by omega⟩
 have HLO:=Bx.mk hlo
 clear hO hc hlt hp hmid hN hlo hhi hm1 hm2
 go_enter Tryz.func252,Tryz.ntmps252
 go_upto_if 140 with fail
 go_cut [20,21] from 138 to 146 (fun s20 s21 wx=>s20 = .int .i64 (lo0:Int)∧s21 = .int .i64 (hi0:Int)∧wx=w)
 case first =>
  rcases HLO.out with ⟨h1,h2,rfl⟩ | ⟨h1,rfl,rfl⟩
  ·have d1:decide ((hi0:Int)<(m:Int))=true:=by simp; omega
   have e1:(N:Int)-(b:Int)=(lo0:Int):=by omega
   go_wp2_with fail
   all_goals
    go_meet
    exact⟨rfl,rfl,rfl⟩
  ·have d1:decide ((mid:Int)<(hi0:Int))=false:=by simp; omega
   go_wp2_with fail
   all_goals
    go_meet
    exact⟨rfl,rfl,rfl⟩
 case rest =>
  obtain⟨rfl,rfl,rfl⟩:=hcut
  go_wp2_with fail
  go_loopw [20,21,23] (fun x y _ wr=>∃ lo hi:Nat,x = .int .i64 lo∧y = .int .i64 hi∧Bx (FndS l f a m b N lo0 hi0 lo hi)∧Rw wr g n f∧Ch (fun b=>b=g) wc wr) (fun x y _ _=>(intOf y).toNat-(intOf x).toNat)
  case atStart=>exact⟨lo0,hi0,rfl,rfl,⟨fndS_start HB.out⟩,HO.out,Ch.refl _ _⟩
  case round =>
   obtain⟨lo,hi,rfl,rfl,hF,hO,hC⟩:=hrel
   have h1:=hF.out.lh
   have h2:=hF.out.l0
   have h3:=hF.out.h0
   by_cases hlh:lo<hi
   ·have dj:decide ((lo:Int)<(hi:Int))=true:=by simp; omega
    obtain⟨c,hm⟩:∃ c,(lo+hi)/2=c:=⟨_,rfl⟩
    have hme2:((lo:Int)+(hi:Int))/2=(c:Int):=by omega
    have hlm:lo≤c:=by omega
    have hmh:c<hi:=by omega
    have hbd:=HB.out
    have b1:=hbd.al
    have b2:=hbd.hm
    have b3:=hbd.mn
    have b4:=hbd.nb
    obtain⟨r,hr⟩:∃ r,N-1-c=r:=⟨_,rfl⟩
    have hre:(N:Int)-1-(c:Int)=(r:Int):=by omega
    have hrn:r<n:=by omega
    have hcn:c<n:=by omega
    have hcm:=hO.cell hrn
    have hca:=hO.cell hcn
    have hq:=(HCM.out.later hC).quiet (HLT.out r hrn) (HLT.out c hcn)
    obtain⟨v,hv⟩:∃ v,cv l (f r) (f c)=v:=⟨_,rfl⟩
    have hvl:=cv_neg l (f r) (f c)
    rw[hv] at hq hvl
    obtain⟨x,hx⟩:∃ x,f r=x:=⟨_,rfl⟩
    rw[hx] at hq hcm
    obtain⟨y,hy⟩:∃ y,f c=y:=⟨_,rfl⟩
    rw[hy] at hq hca
    have HQ:=Bx.mk hq
    have HOR:=Bx.mk hO
    have HCR:=Bx.mk hC
    have i1:(r:Int)<(n:Int):=by omega
    have i2:(c:Int)<(n:Int):=by omega
    have HLM:Bx (lo≤c∧c<hi):=⟨hlm,hmh⟩
    rw[←hr] at hvl
    clear hm hO hC hv hq hx hy hbd b1 b2 b3 b4 hr hrn hcn
    by_cases h0:v<0
    ·have HFN:=Bx.mk (hF.out.more HB.out hlm hmh (hvl.1 h0))
     have d1:decide (v<0)=true:=by simpa using h0
     clear hvl
     go_wp2_with fail
     go_quiet (refine Calls.quiet_of (HQ.out _))
     have HCD:=Bx.mk (HCR.out.drewN nq)
     have HOD:=Bx.mk (HOR.out.drewN nq)
     clear HQ hcm hca
     generalize wr.drewN nq=w1 at *
     go_wp2
     go_roundw
     case rel=>exact⟨lo,c,rfl,rfl,HFN,HOD.out,HCD.out⟩
     case measure=>have:=HLM.out; simp[intOf]; omega
    ·have HFN:=Bx.mk (hF.out.less HB.out HP.out hlm hmh (fun h=>h0 (hvl.2 h)))
     have d1:decide (v<0)=false:=by simpa using h0
     clear hvl
     go_wp2_with fail
     go_quiet (refine Calls.quiet_of (HQ.out _))
     have HCD:=Bx.mk (HCR.out.drewN nq)
     have HOD:=Bx.mk (HOR.out.drewN nq)
     clear HQ hcm hca
     generalize wr.drewN nq=w1 at *
     go_wp2
     go_roundw
     case rel=>exact⟨c+1,hi,by go_num,rfl,HFN,HOD.out,HCD.out⟩
     case measure=>have:=HLM.out; simp[intOf]; omega
   ·obtain rfl:lo=hi:=by omega
    have dj:decide ((lo:Int)<(lo:Int))=false:=by simp
    have HS:=Bx.mk (hF.out.split HB.out HP.out HMID.out.2.symm)
    obtain⟨e,he⟩:∃ e,N-lo=e:=⟨_,rfl⟩
    rw[he] at HS
    have k1:=HS.out.as_
    have k2:=HS.out.sm
    have k3:=HS.out.me
    have k4:=HS.out.eb
    have k5:=HS.out.smid
    have k6:=HS.out.mide
    have hee:(N:Int)-(lo:Int)=(e:Int):=by omega
    have HOR:=Bx.mk hO
    have HCR:=Bx.mk hC
    have HCMR:=Bx.mk (HCM.out.later hC)
    have HHM:=Bx.mk HMID.out.1
    clear hO hC hF h1 h2 h3 he
    obtain⟨wo,rfl⟩:∃ wo:World,wo=wr:=⟨_,rfl⟩
    go_upto_region 39 with fail
    obtain⟨b1,hb1⟩:∃ b1,(decide (lo<m)&&decide (m<e))=b1:=⟨_,rfl⟩
    have HB1:=Bx.mk hb1
    clear hb1
    go_cut [185] from 178 to 185 (fun s185 wx=>s185 = .bool b1∧wo=wx)
    case first =>
     by_cases f1:lo<m
     ·have g1:decide ((lo:Int)<(m:Int))=true:=decide_eq_true (by omega)
      have g2:decide (lo<m)=true:=decide_eq_true f1
      have e1:decide (m<e)=b1:=by rw[←HB1.out,g2]; rfl
      go_wp2_with fail
      all_goals
       go_meet
       first | exact⟨rfl,rfl⟩ | exact⟨congrArg Value.bool e1,rfl⟩
     ·have g1:decide ((lo:Int)<(m:Int))=false:=decide_eq_false (by omega)
      have g2:decide (lo<m)=false:=decide_eq_false f1
      have e1:b1=false:=by rw[←HB1.out,g2]; rfl
      subst e1
      go_wp2_with fail
      all_goals
       go_meet
       exact⟨rfl,rfl⟩
    case rest =>
    obtain⟨rfl,rfl⟩:=hcut
    have hcb1:(b1=true∧lo<m∧m<e)∨(b1=false∧¬ (lo<m∧m<e)):=by
     rw[←HB1.out]
     by_cases f1:lo<m <;> by_cases f2:m<e <;> simp[f1,f2] <;> omega
    have HCB1:=Bx.mk hcb1
    clear hcb1 HB1
    go_upto_if 185 with fail
    go_cut [24] from 186 to 191 (fun s24 wx=>s24 = .int .i64 (e:Int)∧Rw wx g n (rotn f lo m e)∧Ch (fun b=>b=g) wo wx)
    case first =>
     rcases HCB1.out with ⟨rfl,f1,f2⟩ | ⟨rfl,f1⟩
     ·have hr:=rotate_any g n lo m e f (.func (.func fc) #[] cb) wo HOR.out hn f1 f2 (by omega)
      go_wp2_with fail
      refine hr.mono ?_
      rintro e0 w2 ⟨rfl,f2,rfl,hO2,hC2⟩
      have HO2:=Bx.mk hO2
      have HC2:=Bx.mk hC2
      clear hO2 hC2 hr
      go_wp2_with fail
      all_goals
       go_meet
       exact⟨rfl,HO2.out,HC2.out⟩
     ·have hrn:rotn f lo m e=f:=by
       by_cases h:lo<m
       ·obtain rfl:m=e:=by omega
        exact rot_none2
       ·obtain rfl:lo=m:=by omega
        exact rot_none1
      have HRN:=Bx.mk hrn
      clear hrn
      go_wp2_with fail
      all_goals
       go_meet
       exact⟨rfl,by rw[HRN.out]; exact HOR.out,Ch.refl _ _⟩
    case rest =>
    obtain⟨rfl,hO1,hC1⟩:=hcut
    obtain⟨w1,rfl⟩:∃ w1:World,w1=wc:=⟨_,rfl⟩
    have HO1:=Bx.mk hO1
    have HC1:=Bx.mk (HCR.out.trans hC1 (fun _ _ h=>h))
    have HCM1:=Bx.mk (HCMR.out.later hC1)
    have HL1:=Bx.mk ((frm_rot k2 k3).lt (f:=f) (show e≤n by omega) HLT.out)
    clear hO1 hC1
    go_upto_region 41 with fail
    obtain⟨b2,hb2⟩:∃ b2,(decide (a<lo)&&decide (lo<mid))=b2:=⟨_,rfl⟩
    have HB2:=Bx.mk hb2
    clear hb2
    go_cut [199] from 192 to 199 (fun s199 wx=>s199 = .bool b2∧w1=wx)
    case first =>
     by_cases f1:a<lo
     ·have g1:decide ((a:Int)<(lo:Int))=true:=decide_eq_true (by omega)
      have g2:decide (a<lo)=true:=decide_eq_true f1
      have e1:decide (lo<mid)=b2:=by rw[←HB2.out,g2]; rfl
      go_wp2_with fail
      all_goals
       go_meet
       first | exact⟨rfl,rfl⟩ | exact⟨congrArg Value.bool e1,rfl⟩
     ·have g1:decide ((a:Int)<(lo:Int))=false:=decide_eq_false (by omega)
      have g2:decide (a<lo)=false:=decide_eq_false f1
      have e1:b2=false:=by rw[←HB2.out,g2]; rfl
      subst e1
      go_wp2_with fail
      all_goals
       go_meet
       exact⟨rfl,rfl⟩
    case rest =>
    obtain⟨rfl,rfl⟩:=hcut
    have hcb2:(b2=true∧a<lo∧lo<mid)∨(b2=false∧¬ (a<lo∧lo<mid)):=by
     rw[←HB2.out]
     by_cases f1:a<lo <;> by_cases f2:lo<mid <;> simp[f1,f2] <;> omega
    have HCB2:=Bx.mk hcb2
    clear hcb2 HB2
    go_upto_if 199 with fail
    go_cut [24] from 200 to 205 (fun s24 wx=>s24 = .int .i64 (e:Int)∧∃ f2,Bx (Mpost l (rotn f lo m e) f2 a mid)∧Rw wx g n f2∧Ch (fun b=>b=g) w1 wx)
    case first =>
     rcases HCB2.out with ⟨rfl,f1,f2⟩ | ⟨rfl,f1⟩
     ·have hr:=ih.out a lo mid (rotn f lo m e) w1 (by have:=HHM.out; omega) HO1.out HCM1.out (by omega) HL1.out (HS.out.leftPre f1 f2)
      go_wp2_with fail
      refine hr.mono ?_
      rintro e0 w2 ⟨rfl,f2,hq,hO2,hC2⟩
      have HQ:=Bx.mk hq
      have HO2:=Bx.mk hO2
      have HC2:=Bx.mk hC2
      clear hO2 hC2 hr hq
      go_wp2_with fail
      all_goals
       go_meet
       exact⟨rfl,f2,HQ,HO2.out,HC2.out⟩
     ·have HQ:=Bx.mk (HS.out.leftNone f1)
      go_wp2_with fail
      all_goals
       go_meet
       exact⟨rfl,_,HQ,HO1.out,Ch.refl _ _⟩
    case rest =>
    obtain⟨rfl,f2,HQ,hO2,hC2⟩:=hcut
    obtain⟨w2,rfl⟩:∃ w2:World,w2=wc:=⟨_,rfl⟩
    have HO2:=Bx.mk hO2
    have HC2:=Bx.mk (HC1.out.trans hC2 (fun _ _ h=>h))
    have HCM2:=Bx.mk (HCM1.out.later hC2)
    have HL2:=Bx.mk (HQ.out.frm.lt (show mid≤n by omega) HL1.out)
    clear hO2 hC2
    go_upto_region 43 with fail
    obtain⟨b3,hb3⟩:∃ b3,(decide (mid<e)&&decide (e<b))=b3:=⟨_,rfl⟩
    have HB3:=Bx.mk hb3
    clear hb3
    go_cut [213] from 206 to 213 (fun s213 wx=>s213 = .bool b3∧w2=wx)
    case first =>
     by_cases f1:mid<e
     ·have g1:decide ((mid:Int)<(e:Int))=true:=decide_eq_true (by omega)
      have g2:decide (mid<e)=true:=decide_eq_true f1
      have e1:decide (e<b)=b3:=by rw[←HB3.out,g2]; rfl
      go_wp2_with fail
      all_goals
       go_meet
       first | exact⟨rfl,rfl⟩ | exact⟨congrArg Value.bool e1,rfl⟩
     ·have g1:decide ((mid:Int)<(e:Int))=false:=decide_eq_false (by omega)
      have g2:decide (mid<e)=false:=decide_eq_false f1
      have e1:b3=false:=by rw[←HB3.out,g2]; rfl
      subst e1
      go_wp2_with fail
      all_goals
       go_meet
       exact⟨rfl,rfl⟩
    case rest =>
    obtain⟨rfl,rfl⟩:=hcut
    have hcb3:(b3=true∧mid<e∧e<b)∨(b3=false∧¬ (mid<e∧e<b)):=by
     rw[←HB3.out]
     by_cases f1:mid<e <;> by_cases f2:e<b <;> simp[f1,f2] <;> omega
    have HCB3:=Bx.mk hcb3
    clear hcb3 HB3
    rcases HCB3.out with ⟨rfl,f1,f3⟩ | ⟨rfl,f1⟩
    ·have hr:=ih.out mid e b f2 w2 (by have:=HHM.out; omega) HO2.out HCM2.out hb HL2.out (HS.out.rightPre HQ.out f1 f3)
     go_wp2_with fail
     refine hr.mono ?_
     rintro e0 w3 ⟨rfl,f3,hq,hO3,hC3⟩
     have HQ3:=Bx.mk (HS.out.done HQ.out hq)
     have HO3:=Bx.mk hO3
     have HC3:=Bx.mk (HC2.out.trans hC3 (fun _ _ h=>h))
     clear hO3 hC3 hr hq
     go_wp2
     go_returns
     exact⟨rfl,f3,HQ3.out,HO3.out,HC3.out⟩
    ·have HQ3:=Bx.mk (HS.out.done HQ.out (HS.out.rightNone HQ.out f1))
     go_wp2
     go_returns
     exact⟨rfl,f2,HQ3.out,HO2.out,HC2.out⟩
theorem merge_all (l:List Int) (g n fc:Nat) (cb:Array Value) (hn:n≤1048576):∀ K,MrgIH l g n fc cb K
 | 0=>fun a m b f w hK _ _ _ _ hp=>by
  have h1:=hp.am
  have h2:=hp.mb
  omega
 | K+1=>fun a m b f w hK hO hc hb hlt hp=>by
  by_cases h1:m=a+1
  ·subst h1
   exact merge_up l g n fc a b cb f w hO hc hn hb hlt hp
  ·by_cases h2:b=m+1
   ·subst h2
    exact merge_down l g n fc a m cb f w hO hc hn hb hlt hp h1
   ·exact merge_step l g n fc a m b K cb f w ⟨merge_all l g n fc cb hn K⟩ hK hO hc hn hb hlt hp h1 h2
theorem merge_any (l:List Int) (g n fc a m b:Nat) (cb:Array Value) (f:Nat→Nat) (w:World) (hO:Rw w g n f) (hc:CmpOk l n g fc cb w) (hn:n≤1048576) (hb:b≤n) (hlt:∀ p,p<n→f p<n) (hp:Mpre l f a m b) :
  Calls Tryz.prog 252 #[.slice (some ⟨g,0,none⟩) n n, .int .i64 a, .int .i64 m, .int .i64 b, .func (.func fc) #[] cb] w (Row1 g n (fun f'=>Mpost l f f' a b) w) :=
 merge_all l g n fc cb hn b a m b f w (by omega) hO hc hb hlt hp
end
section
open Go.RowKit Go.Oct Go.Su
theorem stablefn_any (l:List Int) (g n fc:Nat) (cb:Array Value) (f:Nat→Nat) (w:World) (hO:Rw w g n f) (hc:CmpOk l n g fc cb w) (hn:n≤1048576) (hf:∀ p,p<n→f p=p) (hl:l.length=n) :
  Calls Tryz.prog 243 #[.slice (some ⟨g,0,none⟩) n n, .int .i64 n, .func (.func fc) #[] cb] w (Row1 g n (fun f'=>Srt l (tb n f')) w):=by
 have HO:=Bx.mk hO
 have HCM:=Bx.mk hc
 have HI:=Bx.mk (ins_start (l:=l) (W:=20) hf)
 have HL:=Bx.mk hl
 clear hO hc hf hl
 go_enter Tryz.func243,Tryz.ntmps243
 go_wp2_with fail
 go_loopw [7,8] (fun x y wr=>∃ (a b:Nat) (f:Nat→Nat),x = .int .i64 a∧y = .int .i64 b∧Bx (b=a+20)∧a≤n∧Bx (Ins l n 20 a f)∧Rw wr g n f∧Ch (fun b=>b=g) w wr) (fun x _ _=>n-(intOf x).toNat)
 case atStart=>exact⟨0,20,f,rfl,rfl,⟨rfl⟩,Nat.zero_le _,HI,HO.out,Ch.refl _ _⟩
 case round =>
  obtain⟨a,b,f1,rfl,rfl,HAB,han,hI,hO,hC⟩:=hrel
  have hab:=HAB.out
  by_cases hbn:b≤n
  ·have dk:decide ((b:Int)≤(n:Int))=true:=by simp; omega
   have hins:=insertion_any l g n fc a b cb f1 wr hO (HCM.out.later hC) hn (by omega) hbn hI.out.lt (hI.out.rise hbn)
   have HC:=Bx.mk hC
   have HINS:=Bx.mk hins
   have hlt:a<b:=by omega
   clear hO hC hins hab
   go_wp2_with fail
   refine HINS.out.mono ?_
   rintro e w2 ⟨rfl,f2,hq,hO2,hC2⟩
   have HIN:=Bx.mk (hI.out.next (by have:=HAB.out; omega) (by rw[←HAB.out]; exact hq))
   have HO2:=Bx.mk hO2
   have HC2:=Bx.mk (HC.out.trans hC2 (fun _ _ h=>h))
   clear hO2 hC2 HINS hq
   go_wp2
   go_roundw
   case rel=>exact⟨b,b+20,f2,rfl,by go_num,⟨rfl⟩,hbn,by rw[HAB.out]; exact HIN,HO2.out,HC2.out⟩
   case measure=>simp[intOf]; omega
  ·have dk:decide ((b:Int)≤(n:Int))=false:=by simp; omega
   have hins:=insertion_any l g n fc a n cb f1 wr hO (HCM.out.later hC) hn han (Nat.le_refl _) hI.out.lt (hI.out.rise (Nat.le_refl _))
   have HC:=Bx.mk hC
   have HINS:=Bx.mk hins
   have hlt:a<b:=by omega
   clear hO hC hins hab
   go_wp2_with fail
   refine HINS.out.mono ?_
   rintro e w2 ⟨rfl,f2,hq,hO2,hC2⟩
   have HAL:=Bx.mk (hI.out.last (by have:=HAB.out; omega) hq han)
   have HO2:=Bx.mk hO2
   have HC2:=Bx.mk (HC.out.trans hC2 (fun _ _ h=>h))
   have HCM2:=Bx.mk (HCM.out.later HC2.out)
   clear hO2 hC2 HINS hq hI han hbn dk HC HO HCM HI HAB
   go_wp2_with fail
   go_loopw [6,7,8,9] (fun x _ _ _ wr=>∃ (W:Nat) (f:Nat→Nat),x = .int .i64 W∧0<W∧W≤2097152∧Bx (All l n W f)∧Rw wr g n f∧Ch (fun b=>b=g) w2 wr) (fun x _ _ _ _=>n-(intOf x).toNat)
   case atStart=>exact⟨20,f2,rfl,by omega,by omega,HAL,HO2.out,Ch.refl _ _⟩
   case round =>
    obtain⟨W,f3,rfl,hW0,hW,hA,hO,hC⟩:=hrel
    by_cases hWn:W<n
    ·have dW:decide ((W:Int)<(n:Int))=true:=by simp; omega
     have HO3:=Bx.mk hO
     have HC3:=Bx.mk hC
     have HCM3:=Bx.mk (HCM2.out.later hC)
     have HH3:=Bx.mk hA.out.half
     obtain⟨w3,rfl⟩:∃ w3:World,w3=wr:=⟨_,rfl⟩
     clear hO hC hA
     go_wp2_with fail
     go_loopw [7,8] (fun x y wr=>∃ (a b:Nat) (f:Nat→Nat),x = .int .i64 a∧y = .int .i64 b∧Bx (b=a+2*W)∧a≤n∧Bx (Half l n W a f)∧Rw wr g n f∧Ch (fun b=>b=g) w3 wr) (fun x _ _=>n-(intOf x).toNat)
     case atStart=>exact⟨0,2*W,f3,rfl,by go_num,⟨by omega⟩,Nat.zero_le _,HH3,HO3.out,Ch.refl _ _⟩
     case round =>
      obtain⟨a,b,f4,rfl,rfl,HAB,han,hH,hO,hC⟩:=hrel
      have hab:=HAB.out
      obtain⟨m,hm⟩:∃ m,a+W=m:=⟨_,rfl⟩
      have hmi:(a:Int)+(W:Int)=(m:Int):=by omega
      by_cases hbn:b≤n
      ·have dk:decide ((b:Int)≤(n:Int))=true:=by simp; omega
       have hmg:=merge_any l g n fc a m b cb f4 wr hO (HCM3.out.later hC) hn hbn hH.out.lt (by rw[←hm]; exact hH.out.pre hW0 (by omega) (by omega))
       have HC:=Bx.mk hC
       have HMG:=Bx.mk hmg
       have HM:=Bx.mk hm
       have hlt:a<b:=by omega
       clear hO hC hmg hab hm
       go_wp2_with fail
       refine HMG.out.mono ?_
       rintro e w4 ⟨rfl,f5,hq,hO2,hC2⟩
       have HHN:=Bx.mk (hH.out.next hW0 (by have:=HAB.out; omega) (by rw[←HAB.out]; exact hq))
       have HO4:=Bx.mk hO2
       have HC4:=Bx.mk (HC.out.trans hC2 (fun _ _ h=>h))
       clear hO2 hC2 HMG hq
       go_wp2
       go_roundw
       case rel=>exact⟨b,b+2*W,f5,rfl,by go_num,⟨rfl⟩,hbn,by rw[HAB.out]; exact HHN,HO4.out,HC4.out⟩
       case measure=>simp[intOf]; omega
      ·have dk:decide ((b:Int)≤(n:Int))=false:=by simp; omega
       by_cases hmn:m<n
       ·have dm:decide ((m:Int)<(n:Int))=true:=by simp; omega
        have hmg:=merge_any l g n fc a m n cb f4 wr hO (HCM3.out.later hC) hn (Nat.le_refl _) hH.out.lt (by rw[←hm]; exact hH.out.pre hW0 (by omega) (by omega))
        have HC:=Bx.mk hC
        have HMG:=Bx.mk hmg
        have HM:=Bx.mk hm
        clear hO hC hmg hab hm
        go_wp2_with fail
        refine HMG.out.mono ?_
        rintro e w4 ⟨rfl,f5,hq,hO2,hC2⟩
        have HAN:=Bx.mk (hH.out.last (by have:=HAB.out; omega) (by have:=HM.out; omega) hq)
        have HO4:=Bx.mk hO2
        have HC4:=Bx.mk (HC3.out.trans (HC.out.trans hC2 (S:=fun b=>b=g) (fun _ _ h=>h)) (fun _ _ h=>h))
        clear hO2 hC2 HMG hq
        go_wp2
        go_roundw
        case rel=>exact⟨2*W,f5,by go_num,by omega,by omega,HAN,HO4.out,HC4.out⟩
        case measure=>simp[intOf]; omega
       ·have dm:decide ((m:Int)<(n:Int))=false:=by simp; omega
        have HAN:=Bx.mk (hH.out.lastNone (by omega))
        have HO4:=Bx.mk hO
        have HC4:=Bx.mk (HC3.out.trans hC (fun _ _ h=>h))
        clear hO hC hab hm
        go_wp2
        go_roundw
        case rel=>exact⟨2*W,f4,by go_num,by omega,by omega,HAN,HO4.out,HC4.out⟩
        case measure=>simp[intOf]; omega
    ·have dW:decide ((W:Int)<(n:Int))=false:=by simp; omega
     have HS:=Bx.mk (hA.out.srt (by omega) HL.out)
     have HO3:=Bx.mk hO
     have HC3:=Bx.mk (HC2.out.trans hC (fun _ _ h=>h))
     clear hO hC hA
     go_wp2
     go_returns
     exact⟨rfl,f3,HS.out,HO3.out,HC3.out⟩
theorem sortstable_any (l:List Int) (g n fc:Nat) (cb:Array Value) (f:Nat→Nat) (w:World) (hO:Rw w g n f) (hc:CmpOk l n g fc cb w) (hn:n≤1048576) (hf:∀ p,p<n→f p=p) (hl:l.length=n) :
  Calls Tryz.prog 219 #[.slice (some ⟨g,0,none⟩) n n, .func (.func fc) #[] cb] w (Row1 g n (fun f'=>Srt l (tb n f')) w):=by
 have hs:=stablefn_any l g n fc cb f w hO hc hn hf hl
 clear hO hc hf hl
 go_enter Tryz.func219,Tryz.ntmps219
 go_wp2_with fail
 refine hs.mono ?_
 rintro e w2 ⟨rfl,f2,hq,hO2,hC2⟩
 go_wp2
 go_returns
 exact⟨rfl,f2,hq,hO2,hC2⟩
end
end Go.Proofs.YtambgjpfoceieaaGreatDoor
namespace Go.Su
section
section
variable {s l:List Int}
def Bord (s:List Int) (i:Nat):Prop:=i=0∨gs s (i-1)=1
theorem split_to (t:Turned s l) (hle:∀ x∈s,x≤257):∀ i,i≤s.length-1→∃ xss tb,Sp s i xss tb∧(tb=[]↔Bord s i)
 | 0,_=>⟨[],[],sp_start s,fun _ => .inl rfl,fun _=>rfl⟩
 | i+1,hi=>by
  obtain⟨xss,tb,h,_⟩:=split_to t hle i (by omega)
  have hx:=gs_some (s:=s) (p:=i) (by omega)
  have h0:=t.closed.only i (by omega)
  have h1:=gs_pos t.closed.pos (p:=i) (by omega)
  have h2:=hle _ (List.mem_of_getElem? hx)
  by_cases e:gs s i=1
  ·exact⟨_,_,h.close (by rw[hx,e]),fun _ => .inr (by rw[Nat.add_sub_cancel]; exact e),fun _=>rfl⟩
  ·refine⟨_,_,h.push hx (by omega) h2,fun g=>absurd g (by simp),fun g=>?_⟩
   rcases g with g | g
   ·omega
   ·rw[Nat.add_sub_cancel] at g
    exact absurd g e
def OfTxt (s:List Int):Prop:=(∀ x∈s,x≤257)∧Bord s (s.length-1)
theorem oftxt_yes (t:Turned s l) (h:OfTxt s):∃ xss:List (List Int),(∀ t∈xss,∀ x∈t,0≤x∧x<256)∧txt xss=s:=by
 obtain⟨xss,tb,hs,hb⟩:=split_to t h.1 _ (Nat.le_refl _)
 obtain rfl:=hb.2 h.2
 exact⟨xss,hs.texts,sp_txt t hs⟩
theorem oftxt_no (t:Turned s l) (h:¬ OfTxt s):NoTxt l:=by
 by_cases hle:∀ x∈s,x≤257
 ·obtain⟨xss,tb,hs,hb⟩:=split_to t hle _ (Nat.le_refl _)
  exact no_tail t hs fun e=>h ⟨hle,hb.1 e⟩
 ·obtain⟨x,hx⟩:=Classical.not_forall.1 hle
  obtain⟨hm,hc⟩:=Classical.not_imp.1 hx
  obtain⟨i,hi⟩:=List.getElem?_of_mem hm
  exact no_big t hi (by omega)
end
end
end Go.Su
namespace Go.Proofs.YtambgjpfoceieaaGreatDoor
section
open Go.RowKit Go.Oct Go.Su Go.Sg Go.Fr
def NoGood (xs:List Int):Prop:=∀ ds gs,¬Good xs ds gs
structure TookK (xs:List Int) (bad:Bool) (ys:List Int) (l:List Key):Prop where
 yes:bad=false→nb xs=false∧(kst (false,nr xs) (nv xs)).1=false∧(kst (false,nr xs) (nv xs)).2=ys∧l=(kvs (false,nr xs) (nv xs)).map keyI
 no:bad=true→nb xs=true∨(kst (false,nr xs) (nv xs)).1=true
 nil:bad=true→ys=[]
structure TookN (xs:List Int) (bad:Bool) (ys:List Int) (l:List Nat):Prop where
 yes:bad=false→nb xs=false∧(nst (false,nr xs) (nv xs)).1=false∧(nst (false,nr xs) (nv xs)).2=ys∧l=nvs (false,nr xs) (nv xs)
 no:bad=true→nb xs=true∨(nst (false,nr xs) (nv xs)).1=true
 nil:bad=true→ys=[]
theorem TookK.bad_nil {bad:Bool} {ys:List Int} {l:List Key} (h:TookK [] bad ys l):bad=true:=by
 cases bad with
 | true=>rfl
 | false=>have:=(h.yes rfl).1; rw[nb_of_nil] at this; exact this.symm
theorem TookN.bad_nil {bad:Bool} {ys:List Int} {l:List Nat} (h:TookN [] bad ys l):bad=true:=by
 cases bad with
 | true=>rfl
 | false=>have:=(h.yes rfl).1; rw[nb_of_nil] at this; exact this.symm
theorem parsed_of {p x1 x2:List Int} {b1 b2:Bool} {k1 k2:List Key} {l:List Nat} (h2:2≤p.length) (hh:p.take 2=[83,1]) (t1:TookK (p.drop 2) b1 x1 k1) (t2:TookK x1 b2 x2 k2) (t3:TookN x2 false [] l):∃ kl gl,Parsed p kl gl l∧k1=kl.map keyI∧k2=gl.map keyI:=by
 have hb2:b2=false:=by
  cases b2 with
  | false=>rfl
  | true =>
   have:=t2.nil rfl
   subst this
   have:=t3.bad_nil
   simp at this
 subst hb2
 have hb1:b1=false:=by
  cases b1 with
  | false=>rfl
  | true =>
   have:=t1.nil rfl
   subst this
   have:=t2.bad_nil
   simp at this
 subst hb1
 obtain⟨a0,a1,a2,a3⟩:=t1.yes rfl
 obtain⟨c0,c1,c2,c3⟩:=t2.yes rfl
 obtain⟨d0,d1,d2,d3⟩:=t3.yes rfl
 subst a2
 subst c2
 exact⟨_,_,⟨h2,hh,a0,a1,rfl,c0,c1,rfl,d0,d3,Prod.ext d1 d2⟩,a3,c3⟩
theorem not_parsed {p x1 x2 x3:List Int} {b1 b2 b3:Bool} {k1 k2:List Key} {l:List Nat} (t1:TookK (p.drop 2) b1 x1 k1) (t2:TookK x1 b2 x2 k2) (t3:TookN x2 b3 x3 l) (hn:b3=true∨x3≠[]) (kl gl:List (List Int)) (tl:List Nat):¬ Parsed p kl gl tl:=fun h=>by
 have hb1:b1=false:=by
  cases b1 with
  | false=>rfl
  | true =>
   rcases t1.no rfl with h1 | h1
   ·rw[h.b0] at h1; simp at h1
   ·rw[h.b1] at h1; simp at h1
 subst hb1
 obtain⟨a0,a1,a2,a3⟩:=t1.yes rfl
 subst a2
 have hb2:b2=false:=by
  cases b2 with
  | false=>rfl
  | true =>
   rcases t2.no rfl with h1 | h1
   ·rw[h.b2] at h1; simp at h1
   ·rw[h.b3] at h1; simp at h1
 subst hb2
 obtain⟨c0,c1,c2,c3⟩:=t2.yes rfl
 subst c2
 have hb3:b3=false:=by
  cases b3 with
  | false=>rfl
  | true =>
   rcases t3.no rfl with h1 | h1
   ·rw[h.b4] at h1; simp at h1
   ·rw[congrArg Prod.fst h.b5] at h1; simp at h1
 subst hb3
 obtain⟨d0,d1,d2,d3⟩:=t3.yes rfl
 rcases hn with h1 | h1
 ·simp at h1
 ·rw[congrArg Prod.snd h.b5] at d2
  exact h1 d2.symm
theorem no_one {xs p:List Int} {ec:Int} (h1:oneF xs=(p,ec)) (h:ec≠0):NoGood xs:=fun ds gs hg=>by
 obtain⟨p',tl,k1,_⟩:=hg.parse
 rw[h1] at k1
 injection k1 with _ k2
 exact h k2
theorem no_parse {xs p:List Int} {ec:Int} (h1:oneF xs=(p,ec)) (h:∀ kl gl tl,¬Parsed p kl gl tl):NoGood xs:=fun ds gs hg=>by
 obtain⟨p',tl,k1,_,k2,_⟩:=hg.parse
 rw[h1] at k1
 injection k1 with k1 _
 subst k1
 exact h _ _ _ k2
theorem no_from {xs p:List Int} {ec:Int} {kl gl:List (List Int)} {tl:List Nat} (h1:oneF xs=(p,ec)) (h2:Parsed p kl gl tl) (h:NoTxt (asI tl)):NoGood xs:=fun ds gs hg=>by
 obtain⟨p',tl',k1,_,k2,k3⟩:=hg.parse
 rw[h1] at k1
 injection k1 with k1 _
 subst k1
 obtain⟨_,_,rfl⟩:=h2.uniq k2
 exact h _ (seg_bytsT hg.1) k3
theorem Good.keys {xs p:List Int} {ec:Int} {ds:List Dc} {gs:List Key} {kl gl:List (List Int)} {tl:List Nat} {xss:List (List Int)} (h:Good xs ds gs) (h1:oneF xs=(p,ec)) (h2:Parsed p kl gl tl) (h3:Turned (txt xss) (asI tl)) (h4:Byts xss) :
  kl.map keyI=ks ds∧gl.map keyI=gs∧xss=ts ds:=by
 obtain⟨p',tl',k1,_,k2,k3⟩:=h.parse
 rw[h1] at k1
 injection k1 with k1 _
 subst k1
 obtain⟨e1,e2,e3⟩:=h2.uniq k2
 subst e1 e2 e3
 exact⟨keyI_map _,keyI_map _,txt_inj h4.pos (seg_bytsT h.1).pos (h3.uniq k3)⟩
def zipD (l:List Key) (xss:List (List Int)):List Dc:=l.zip xss
theorem zip_ks {l:List Key} {xss:List (List Int)} (h:xss.length=l.length):ks (zipD l xss)=l:=by
 unfold zipD ks
 exact List.map_fst_zip (by omega)
theorem zip_ts {l:List Key} {xss:List (List Int)} (h:xss.length=l.length):ts (zipD l xss)=xss:=by
 unfold zipD ts
 exact List.map_snd_zip (by omega)
theorem rv_two {p:List Int} (h:rv p 2=[83,1]):2≤p.length∧p.take 2=[83,1]∧rr p 2=p.drop 2∧rb false p 2=false:=by
 unfold rv at h
 by_cases hh:(2:Int)<0∨(p.length:Int)<2
 ·rw[if_pos hh] at h; simp at h
 ·rw[if_neg hh] at h
  unfold rr rb
  rw[if_neg hh,if_neg hh]
  exact⟨by omega,h,rfl,rfl⟩
theorem rv_of {p:List Int} (h:2≤p.length) (h2:p.take 2=[83,1]):rv p 2=[83,1]:=by
 unfold rv
 rw[if_neg (by omega)]
 exact h2
theorem rv_byt {p:List Int} (hb:Byt p):Byt (rv p 2):=fun x hx=>by
 unfold rv at hx
 split at hx
 ·simp at hx
 ·exact hb x (List.mem_of_mem_take hx)
theorem took_two {p x1 x2:List Int} {b1 b2:Bool} {k1 k2:List Key} {l:List Nat} (t1:TookK (rr p 2) b1 x1 k1) (t2:TookK x1 b2 x2 k2) (t3:TookN x2 false [] l):2≤p.length:=by
 rcases Nat.lt_or_ge p.length 2 with h | h
 ·have e:rr p 2=[]:=by
   unfold rr
   rw[if_pos (.inr (by omega))]
  rw[e] at t1
  have:=t1.bad_nil
  subst this
  have:=t1.nil rfl
  subst this
  have:=t2.bad_nil
  subst this
  have:=t2.nil rfl
  subst this
  have:=t3.bad_nil
  simp at this
 ·exact h
theorem rv_take {p:List Int} (h:2≤p.length):rv p 2=p.take 2∧rr p 2=p.drop 2:=by
 unfold rv rr
 rw[if_neg (by omega),if_neg (by omega)]
 exact⟨rfl,rfl⟩
theorem take_two {p:List Int} (h:2≤p.length):∃ x y,p.take 2=[x,y]:=by
 match p,h with
 | x::y::_,_=>exact⟨x,y,rfl⟩
end
end Go.Proofs.YtambgjpfoceieaaGreatDoor
