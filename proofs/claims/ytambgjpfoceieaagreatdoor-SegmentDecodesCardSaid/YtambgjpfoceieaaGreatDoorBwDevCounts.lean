/- Lemmas and contracts of this proof. Conditions: said at each. -/
import Derived.Test.YtambgjpfoceieaaGreatDoorGBwCounts
set_option maxHeartbeats 1000000
namespace Go.Proofs.YtambgjpfoceieaaGreatDoor
open Go.RowKit Go.Oct Go.Su
section
variable {F:Nat→Prop}
theorem counts_own (l:List Int) (A:Option Addr) (n c W:Nat) (z:Int) (w:World) (hs:Sl w F .i64 A n l) (hn:n≤65536) (hW:clampW z=W) :
  Calls Tryz.prog 160 #[.slice A n c, .int .i64 z] w fun e w'=>∃ g:Nat,e = .returned (.slice (some ⟨g,0,none⟩) (2^W+1) (2^W+1))∧Own w' 3 1 g (2^W+1) (2^W+1) (vals (cnts l W))∧w.heap.size≤g∧Ch (fun _=>False) w w':=by
 have hcase:(z<0∧W=0)∨(16<z∧W=16)∨(z=W∧W≤16):=by
  rw[←hW]
  unfold clampW
  by_cases h1:z<0
  ·rw[if_pos h1]
   exact .inl ⟨h1,rfl⟩
  ·rw[if_neg h1]
   by_cases h2:16<z
   ·rw[if_pos h2]
    exact .inr (.inl ⟨h2,rfl⟩)
   ·rw[if_neg h2]
    exact .inr (.inr ⟨by omega,by omega⟩)
 have hW16:W≤16:=by omega
 have HS:=Bx.mk (hs.mono (G:=fun b=>b<w.heap.size) (fun b h _=>h))
 have HL:=Bx.mk hs.len
 have HCN:=Bx.mk (sup_all l W)
 obtain⟨P,hP⟩:∃ P,2^W=P:=⟨_,rfl⟩
 have hP2:P≤65536:=by
  rw[←hP]
  exact Nat.pow_le_pow_right (n:=2) (by decide) hW16
 have hcase:(z<0∧W=0∧Bx (P=1))∨(16<z∧W=16∧Bx (P=65536))∨(z=W∧W≤16):=by
  rcases hcase with ⟨h1,h2⟩ | ⟨h1,h2⟩ | h
  ·exact .inl ⟨h1,h2,⟨by rw[←hP,h2]⟩⟩
  ·exact .inr (.inl ⟨h1,h2,⟨by rw[←hP,h2]⟩⟩)
  ·exact .inr (.inr h)
 have hPW:(2:Int)^W=(P:Int):=by
  rw[←hP,Int.natCast_pow]
  rfl
 have HPW:Bx (wrap64 ((2:Int)^W)=(P:Int)):=⟨by rw[hPW]; unfold wrap64; omega⟩
 rw[hP] at HCN ⊢
 obtain⟨cn,hcn⟩:∃ cn,cnts l W=cn:=⟨_,rfl⟩
 rw[hcn] at HCN ⊢
 have hmk:=mkI w (P+1) (by omega)
 rw[show ((P+1:Nat):Int)=(P:Int)+1 by omega] at hmk
 clear hW hs hPW hP hcn
 go_enter Tryz.func160,Tryz.ntmps160
 go_upto_region 1 with fail
 go_cut [5] (fun s5 wx=>s5 = .int .i64 (P:Int)∧wx=w)
 case first =>
  rcases hcase with ⟨h1,rfl,HP1⟩ | ⟨h1,rfl,HP1⟩ | ⟨rfl,h1⟩
  ·have g1:¬ 16<z:=by omega
   clear HPW
   go_wp2_with fail
   all_goals
    go_meet
    exact⟨by rw[HP1.out]; rfl,rfl⟩
  ·clear HPW
   go_wp2_with fail
   all_goals
    go_meet
    exact⟨by rw[HP1.out]; rfl,rfl⟩
  ·have hwp:=HPW.out
   go_wp2_with fail
   all_goals
    go_meet
    exact⟨by first | rfl | (congr 1; done) | (congr 1; omega),rfl⟩
 case rest =>
  obtain⟨rfl,rfl⟩:=hcut
  clear HPW
  go_wp2_with fail
  obtain⟨H,hH⟩:∃ H,wc.heap.size=H:=⟨_,rfl⟩
  obtain⟨w0,hw0⟩:∃ w0,wc.alloc (.cells (madeCells #[.int .i64 0] (P+1)) 3)=w0:=⟨_,rfl⟩
  have hC0:Ch (fun _=>False) wc w0:=by rw[←hw0]; exact (Ch.refl (fun _=>False) wc).alloc _
  have hz0:List.replicate (P+1) 0=cup l (P+1) 0:=by
   refine row_ext (by simp) fun p hp=>?_
   rw[List.getElem?_replicate,if_pos hp]
   unfold one
   simp
  have hO0:Own w0 3 1 H (P+1) (P+1) (vals (cup l (P+1) 0)):=by
   rw[←hz0]
   unfold vals
   rw[List.map_replicate,←hw0,←hH]
   exact own_made1 wc 3 (.int .i64 0) (P+1) (by omega)
  rw[hH] at HS
  have HS0:Bx (Sl w0 (fun b=>b<H) .i64 A n l):=⟨HS.out.ch hC0 (fun _ _ _ h=>h)⟩
  have HO0:=Bx.mk hO0
  have HC0:=Bx.mk hC0
  have HH:=Bx.mk (Nat.le_of_eq hH)
  rw[hw0,hH]
  clear hw0 hH hC0 hO0 HS hmk hz0 hcase
  go_loopw [8,19] (fun _ i wr=>∃ k:Nat,k≤n∧i = .int .i64 k∧Own wr 3 1 H (P+1) (P+1) (vals (cup l (P+1) k))∧Ch (fun b=>b=H) w0 wr) (fun _ i _=>n-(intOf i).toNat)
  case atStart=>exact⟨0,Nat.zero_le _,rfl,HO0.out,Ch.refl _ _⟩
  case round =>
   obtain⟨k,hk,rfl,hO,hC⟩:=hrel
   by_cases hlt:k<n
   ·have dk:decide ((k:Int)<(n:Int))=true:=by simp; omega
    obtain⟨b,off,x,rfl,_,hx,hcx⟩:=(HS0.out.ch hC (fun b hb _ (e:b=H)=>by omega)).at_ hlt
    have i1:(0:Int)≤(k:Int):=by omega
    have i2:(k:Int)<(n:Int):=by omega
    by_cases h0:x<0
    ·have dx:decide (x<(P:Int))=true:=by simp; omega
     have hnx:=cup_neg (N:=P+1) (by omega) hx.out h0
     have hcell:=hO.cellN (j:=0) (by omega)
     have hg:gn (cup l (P+1) k) 0=one l k 0:=gn_at (row_at (by omega))
     have hle:one l k 0≤65536:=by
      unfold one
      rw[if_pos rfl]
      have h1:=List.countP_le_length (p:=fun x:Int=>decide (x<0)) (l:=l.take k)
      rw[List.length_take] at h1
      omega
     rw[hg] at hcell
     have hfz:=hO.frozenAt 0
     have hst:=hO.storedN 0 (one l k 0+1)
     rw[hnx] at hst
     generalize one l k 0=y at *
     rw[show ((y+1:Nat):Int)=(y:Int)+1 by omega] at hst
     have HST:=Bx.mk hst
     have HCC:=Bx.mk (hC.trans hst.2 (fun _ _ h=>h))
     have i3:(0:Int)<(P:Int)+1:=by omega
     clear hO hC hx hnx hg hst
     by_cases hx1:x = -1
     ·subst hx1
      clear h0
      go_wp2
      go_roundw
      case rel=>exact⟨k+1,by omega,by go_num,HST.out.1,HCC.out⟩
      case measure=>simp[intOf]; omega
     ·have hx2:x < -1:=by omega
      clear h0 hx1
      go_wp2
      go_roundw
      case rel=>exact⟨k+1,by omega,by go_num,HST.out.1,HCC.out⟩
      case measure=>simp[intOf]; omega
    ·obtain⟨q,rfl⟩:∃ q:Nat,x=q:=⟨x.toNat,by omega⟩
     by_cases hq:q<P
     ·have hnx:=cup_in hx.out (show q+1<P+1 by omega)
      have hcell:=hO.cellN (j:=q+1) (by omega)
      have hg:gn (cup l (P+1) k) (q+1)=one l k (q+1):=gn_at (row_at (by omega))
      have hle:one l k (q+1)≤65536:=by
       unfold one
       rw[if_neg (by omega)]
       have h1:=List.countP_le_length (p:=fun x:Int=>decide (x=((q+1:Nat):Int)-1)) (l:=l.take k)
       rw[List.length_take] at h1
       omega
      rw[hg] at hcell
      have hfz:=hO.frozenAt (q+1)
      have hst:=hO.storedN (q+1) (one l k (q+1)+1)
      rw[hnx] at hst
      generalize one l k (q+1)=y at *
      rw[show ((y+1:Nat):Int)=(y:Int)+1 by omega] at hst
      have HST:=Bx.mk hst
      have HCC:=Bx.mk (hC.trans hst.2 (fun _ _ h=>h))
      have i3:(0:Int)≤(q:Int)+1:=by omega
      have i4:(q:Int)+1<(P:Int)+1:=by omega
      have i5:(-1:Int)<(q:Int):=by omega
      have dq:decide ((q:Int)<(P:Int))=true:=by simp; omega
      have dq2:decide (q<P)=true:=by simp; omega
      clear hO hC hx hnx hg hst h0
      go_wp2
      go_roundw
      case rel=>exact⟨k+1,by omega,by go_num,HST.out.1,HCC.out⟩
      case measure=>simp[intOf]; omega
     ·have hnx:=cup_out (N:=P+1) hx.out (by omega) (by omega)
      rw[←hnx] at hO
      have HO:=Bx.mk hO
      have HCC:=Bx.mk hC
      have dq:decide ((q:Int)<(P:Int))=false:=by simp; omega
      have dq2:decide (q<P)=false:=by simp; omega
      clear hO hC hx hnx h0
      go_wp2
      go_roundw
      case rel=>exact⟨k+1,by omega,by go_num,HO.out,HCC.out⟩
      case measure=>simp[intOf]; omega
   ·have hkn:k=n:=by omega
    have dk:decide ((k:Int)<(n:Int))=false:=by simp; omega
    have hO1:Own wr 3 1 H (P+1) (P+1) (vals (sup l (P+1) (0+1))):=by
     rw[sup_start,HL.out,←hkn]
     exact hO
    have HO1:=Bx.mk hO1
    have HCr:=Bx.mk (HC0.out.trans hC (S:=fun _=>False) (fun i hi (e:i=H)=>by have:=HH.out; omega))
    obtain⟨wo,rfl⟩:∃ wo:World,wo=wr:=⟨_,rfl⟩
    clear hO hC hkn hO1
    go_wp2_with fail
    go_loopw [9,36] (fun _ i wr=>∃ r:Nat,r≤P∧i = .int .i64 r∧Own wr 3 1 H (P+1) (P+1) (vals (sup l (P+1) (r+1)))∧Ch (fun b=>b=H) wo wr) (fun _ i _=>P-(intOf i).toNat)
    case atStart=>exact⟨0,Nat.zero_le _,rfl,HO1.out,Ch.refl _ _⟩
    case round =>
     obtain⟨r,hq,rfl,hO,hC⟩:=hrel
     by_cases hqn:r<P
     ·have hnx:=sup_next (l:=l) (show r+1<P+1 by omega)
      have hc1:=hO.cellN (j:=r+1) (by omega)
      have hc2:=hO.cellN (j:=r) (by omega)
      have g1:gn (sup l (P+1) (r+1)) (r+1)=one l l.length (r+1):=gn_at (by unfold sup; rw[row_at (by omega),if_neg (by omega)])
      have g2:gn (sup l (P+1) (r+1)) r=less l r:=gn_at (by unfold sup; rw[row_at (by omega),if_pos (by omega)])
      have b1:one l l.length (r+1)≤65536:=by
       unfold one
       rw[if_neg (by omega)]
       have h1:=List.countP_le_length (p:=fun x:Int=>decide (x=((r+1:Nat):Int)-1)) (l:=l.take l.length)
       rw[List.length_take,HL.out] at h1
       rw[HL.out]
       omega
      have b2:less l r≤65536:=by
       unfold less
       have h1:=List.countP_le_length (p:=fun x:Int=>decide (x<(r:Int))) (l:=l)
       rw[HL.out] at h1
       omega
      rw[g1] at hc1
      rw[g2] at hc2
      have hfz:=hO.frozenAt (r+1)
      have hst:=hO.storedN (r+1) (one l l.length (r+1)+less l r)
      rw[hnx] at hst
      generalize one l l.length (r+1)=u at *
      generalize less l r=v at *
      rw[show ((u+v:Nat):Int)=(u:Int)+(v:Int) by omega] at hst
      have HST:=Bx.mk hst
      have HCC:=Bx.mk (hC.trans hst.2 (fun _ _ h=>h))
      have dq:decide ((r:Int)<(P:Int))=true:=by simp; omega
      have i3:(0:Int)≤(r:Int)+1:=by omega
      have i4:(r:Int)+1<(P:Int)+1:=by omega
      have i5:(0:Int)≤(r:Int):=by omega
      have i6:(r:Int)<(P:Int)+1:=by omega
      clear hO hC hnx g1 g2 hst
      go_wp2_with fail
      go_region
      all_goals
       go_wp2
       go_roundw
       case rel=>exact⟨r+1,by omega,by go_num,HST.out.1.keep ((Ch.refl (fun _=>False) _).drew),HCC.out.drew⟩
       case measure=>simp[intOf]; omega
     ·have hqP:r=P:=by omega
      have HOF:Bx (Own wr 3 1 H (P+1) (P+1) (vals cn)):=⟨by rw[hqP,HCN.out] at hO; exact hO⟩
      have HCF:Bx (Ch (fun _=>False) wc wr):=⟨HCr.out.trans hC (fun i hi (e:i=H)=>by have:=HH.out; omega)⟩
      have dq:decide ((r:Int)<(P:Int))=false:=by simp; omega
      have dq2:decide (r<P)=false:=by simp; omega
      clear hO hC hqP
      go_wp2
      go_ret
      exact⟨H,rfl,HOF.out,HH.out,HCF.out⟩
theorem counts_any (l:List Int) (A:Option Addr) (n c W:Nat) (z:Int) (w:World) (hs:Sl w F .i64 A n l) (hn:n≤65536) (hW:clampW z=W) :
  Calls Tryz.prog 160 #[.slice A n c, .int .i64 z] w fun e w'=>∃ (A':Option Addr) (c':Nat),e = .returned (.slice A' (2^W+1) c')∧Sl w' (fun b=>w.heap.size≤b) .i64 A' (2^W+1) (asI (cnts l W))∧Ch (fun _=>False) w w' :=
 (counts_own l A n c W z w hs hn hW).mono fun e w' ⟨g,he,hO,hg,hC⟩=>⟨some ⟨g,0,none⟩,2^W+1,he,by
  rw[←vals_asI] at hO
  exact hO.sl.mono (fun b _ hb=>by omega),hC⟩
end
end Go.Proofs.YtambgjpfoceieaaGreatDoor
