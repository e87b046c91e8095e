/- Lemmas and contracts of this proof. Conditions: said at each. -/
import Derived.Test.YtambgjpfoceieaaGreatDoorGBwSymRow
import Derived.Test.YtambgjpfoceieaaGreatDoorGSvSame
set_option maxHeartbeats 1000000
namespace Go.Proofs.YtambgjpfoceieaaGreatDoor
section
open Go.RowKit Go.Oct Go.Su
section
variable {F:Nat→Prop}
theorem bcmp_any (s:List Int) (A:Option Addr) (n c a b B:Nat) (w:World) (hs:Sl w F .i64 A n s) (hbx:w.cell? ⟨B,0,none⟩=some (.slice A n c)) (ha:a<n) (hb:b<n) :
  Calls Tryz.prog 220 #[.int .i64 a, .int .i64 b, .pointer (some ⟨B,0,none⟩)] w fun e w'=>e = .returned (.int .i64 (cv s a b))∧∃ q,w'=w.drewN q:=by
 unfold cv
 obtain⟨b1,o1,rfl,_,hca⟩:=Sl.gsAt hs ha
 obtain⟨b2,o2,hA,_,hcb⟩:=Sl.gsAt hs hb
 injection hA with hA
 injection hA with hA1 hA2
 subst hA1 hA2
 generalize gs s a=x at *
 generalize gs s b=y at *
 have i1:(0:Int)≤(a:Int):=by omega
 have i2:(a:Int)<(n:Int):=by omega
 have i3:(0:Int)≤(b:Int):=by omega
 have i4:(b:Int)<(n:Int):=by omega
 have hcc:=fun m=>cmp_val x y w m
 generalize Lib.compareInt x y=r at *
 clear hs
 go_enter Tryz.func220,Tryz.ntmps220
 go_wp2_with fail
 go_quiet ((go_at_call 221; exact hcc _))
 go_wp2
 go_ret
 exact⟨rfl,_,rfl⟩
def BySym (s:List Int) (n:Nat) (w:World) (e:Ending) (w':World):Prop:=∃ (g:Nat) (P:List Nat),e = .returned (.slice (some ⟨g,0,none⟩) n n)∧Srt s P∧Own w' 3 1 g n n (vals P)∧w.heap.size≤g∧Ch (fun _=>False) w w'
theorem rng_vals (n:Nat):(rng n).map (Value.int .i64)=vals (List.range n):=by unfold rng; exact vals_asI _
theorem bysymb_any (s:List Int) (A:Option Addr) (n c:Nat) (w:World) (hs:Sl w F .i64 A n s) (hn:n≤65536) :
  Calls Tryz.prog 176 #[.slice A n c] w (BySym s n w):=by
 have hl:=hs.len
 have HL:=Bx.mk hl
 have HS:=Bx.mk (hs.mono (G:=fun b=>b<w.heap.size) (fun b h _=>h))
 clear hs hl
 go_enter Tryz.func176,Tryz.ntmps176
 go_upto_region 1 with fail
 obtain⟨B,hB⟩:∃ B,w.heap.size=B:=⟨_,rfl⟩
 have hbx0:(w.alloc (.cells #[.slice A n c] 75)).cell? ⟨w.heap.size,0,none⟩=some (.slice A n c):=by
  rw[World.cell?_alloc_at _ _ _ _ rfl]
  rfl
 have hC0:Ch (fun _=>False) w (w.alloc (.cells #[.slice A n c] 75)):=(Ch.refl (fun _=>False) w).alloc _
 have hsz:(w.alloc (.cells #[.slice A n c] 75)).heap.size=w.heap.size+1:=World.size_alloc ..
 rw[hB] at hbx0 hsz
 obtain⟨w0,hw0⟩:∃ w0,w.alloc (.cells #[.slice A n c] 75)=w0:=⟨_,rfl⟩
 rw[hw0] at hbx0 hC0 hsz
 have HS0:Bx (Sl w0 (fun b=>b<B) .i64 A n s):=⟨by rw[←hB]; exact HS.out.ch hC0 (fun _ _ _ h=>h)⟩
 have HC0:=Bx.mk hC0
 have HBX:=Bx.mk hbx0
 have HSZ:=Bx.mk hsz
 have HBW:=Bx.mk hB
 rw[hw0,hB]
 have hbx1:=hbx0
 clear hw0 hB hbx0 hC0 hsz HS
 have hmk:=mkI w0 n (by omega)
 go_wp2_with fail
 obtain⟨G,hG⟩:∃ G,w0.heap.size=G:=⟨_,rfl⟩
 obtain⟨w1,hw1⟩:∃ w1,w0.alloc (.cells (madeCells #[.int .i64 0] n) 3)=w1:=⟨_,rfl⟩
 have hC1:Ch (fun _=>False) w0 w1:=by rw[←hw1]; exact (Ch.refl (fun _=>False) w0).alloc _
 have hO1:Own w1 3 1 G n n ((upZ (rng n) 0).map (Value.int .i64)):=by
  rw[upZ_zero,rng_len,List.map_replicate,←hw1,←hG]
  exact own_made1 w0 3 (.int .i64 0) n (by omega)
 have HGB:Bx (B<G):=⟨by have:=HSZ.out; omega⟩
 have HS1:=Bx.mk (HS0.out.ch hC1 (fun _ _ _ h=>h))
 have HBX1:=Bx.mk (hC1.cell (p:=⟨B,0,none⟩) (fun h=>h) HBX.out)
 have HC1:=Bx.mk (HC0.out.trans hC1 (fun _ _ h=>h))
 have HO1:=Bx.mk hO1
 rw[hw1,hG]
 clear hw1 hG hC1 hO1 hmk hbx1 HS0 HC0 HBX HSZ
 go_loopw [4,10] (fun _ i wr=>∃ k:Nat,k≤n∧i = .int .i64 k∧Own wr 3 1 G n n ((upZ (rng n) k).map (Value.int .i64))∧Ch (fun b=>b=G) w1 wr) (fun _ i _=>n-(intOf i).toNat)
 case atStart=>exact⟨0,Nat.zero_le _,rfl,HO1.out,Ch.refl _ _⟩
 case round =>
  obtain⟨k,hk,rfl,hO,hC⟩:=hrel
  by_cases hlt:k<n
  ·have hcell:=hO.cellI hlt
   have hfz:=hO.frozenAt k
   have hst:=hO.storedI k (k:Int)
   rw[upZ_next (rng_at hlt)] at hst
   have HST:=Bx.mk hst
   have HC:=Bx.mk (hC.trans hst.2 (fun _ _ h=>h))
   generalize (upZ (rng n) k).getD k 0=old at *
   clear hC hst hO
   go_wp2
   go_roundw
   case rel=>exact⟨k+1,by omega,by go_num,HST.out.1,HC.out⟩
   case measure=>simp[intOf]; omega
  ·have hkn:k=n:=by omega
   have dk:decide ((k:Int)<(n:Int))=false:=by simp; omega
   have hu:=upZ_all (rng n)
   rw[rng_len] at hu
   rw[hkn,hu,rng_vals] at hO
   have hR:Rw wr G n (fun p=>p):=⟨by
    have:tb n (fun p=>p)=List.range n:=by unfold tb; simp
    rw[this]
    exact hO⟩
   have hS2:=HS1.out.ch hC (fun b hb _ (e:b=G)=>by have:=HGB.out; omega)
   have hbx2:=hC.cell (p:=⟨B,0,none⟩) (fun (e:B=G)=>by have:=HGB.out; omega) HBX1.out
   have eg:∀ args w,(callFunc 220 args).run Tryz.prog w = .ok (.enter 220 args) w:=enters_of Tryz.func220 (by kernel_rfl) rfl
   have hcm:CmpOk s n G 220 #[.pointer (some ⟨B,0,none⟩)] wr:=⟨eg,fun W hW x y hx hy =>
    bcmp_any s A n c x y B W (hS2.ch hW (fun b hb _ (e:b=G)=>by have:=HGB.out; omega)) (hW.cell (p:=⟨B,0,none⟩) (fun (e:B=G)=>by have:=HGB.out; omega) hbx2) hx hy⟩
   have hss:=sortstable_any s G n 220 #[.pointer (some ⟨B,0,none⟩)] (fun p=>p) wr hR hcm (by omega) (fun _ _=>rfl) HL.out
   have HSS:=Bx.mk hss
   have HC2:=Bx.mk (HC1.out.trans hC (S:=fun _=>False) (fun i hi (e:i=G)=>by have:=HGB.out; have:=HBW.out; omega))
   clear hO hC hkn hu hR hS2 hbx2 eg hcm hss
   go_wp2_with fail
   refine HSS.out.mono ?_
   rintro e w3 ⟨rfl,f,hq,hO3,hC3⟩
   have HQ:=Bx.mk hq
   have HO3:=Bx.mk hO3.own
   have HC3:=Bx.mk (HC2.out.trans hC3 (S:=fun _=>False) (fun i hi (e:i=G)=>by have:=HGB.out; have:=HBW.out; omega))
   clear hq hO3 hC3 HSS
   go_wp2
   go_ret
   exact⟨G,tb n f,rfl,HQ.out,HO3.out,by have:=HGB.out; have:=HBW.out; omega,HC3.out⟩
end
end
section
open Go.RowKit Go.Oct Go.Su
section
variable {F:Nat→Prop}
def Follows (l:List Int) (P:List Nat) (n:Nat) (w:World) (e:Ending) (w':World):Prop:=∃ g:Nat,e = .returned (.slice (some ⟨g,0,none⟩) n n)∧Own w' 3 1 g n n ((fol l P n).map (Value.int .i64))∧w.heap.size≤g∧Ch (fun _=>False) w w'
theorem follow_any {G:Nat→Prop} (l:List Int) (P:List Nat) (A B:Option Addr) (n c d:Nat) (w:World) (hs:Sl w F .i64 A n l) (hb:Sl w G .i64 B n (asI P)) (hn:n≤65536) (h0:0<n) (hP:Srt l P) :
  Calls Tryz.prog 175 #[.slice A n c, .slice B n d] w (Follows l P n w):=by
 have HL:=Bx.mk hs.len
 have HS:=Bx.mk (hs.mono (G:=fun b=>b<w.heap.size) (fun b h _=>h))
 have HB:=Bx.mk (hb.mono (G:=fun b=>b<w.heap.size) (fun b h _=>h))
 have HFL:Bx (∀ k,fw P k<n):=⟨fun k=>by rw[←hs.len]; exact hP.fw_lt (by rw[hs.len]; exact h0) k⟩
 have hPl:P.length=n:=by rw[hP.len,hs.len]
 have HPL:=Bx.mk hPl
 clear hs hb hP
 have hmk:=mkI w n (by omega)
 go_enter Tryz.func175,Tryz.ntmps175
 go_upto_region 2 with fail
 obtain⟨H,hH⟩:∃ H,w.heap.size=H:=⟨_,rfl⟩
 obtain⟨w1,hw1⟩:∃ w1,w.alloc (.cells (madeCells #[.int .i64 0] n) 3)=w1:=⟨_,rfl⟩
 have hC1:Ch (fun _=>False) w w1:=by rw[←hw1]; exact (Ch.refl (fun _=>False) w).alloc _
 have hO1:Own w1 3 1 H n n ((upZ (fol l P n) 0).map (Value.int .i64)):=by
  rw[upZ_zero,fol_len,List.map_replicate,←hw1,←hH]
  exact own_made1 w 3 (.int .i64 0) n (by omega)
 rw[hH] at HS HB
 have HS1:=Bx.mk (HS.out.ch hC1 (fun _ _ _ h=>h))
 have HB1:=Bx.mk (HB.out.ch hC1 (fun _ _ _ h=>h))
 have HO1:=Bx.mk hO1
 have HC1:=Bx.mk hC1
 have HHW:Bx (w.heap.size=H):=⟨hH⟩
 rw[hw1,hH]
 clear hw1 hH hC1 hO1 HS HB hmk
 obtain⟨b0,o0,p0,hB,_,hp0,hc0⟩:=HB1.out.at_ h0
 obtain⟨q0,rfl,hq0⟩:=asI_at hp0.out
 have e0:q0=fw P 0:=(gn_at hq0).symm
 subst e0
 subst hB
 rw[Nat.add_zero] at hc0
 have i0:(0:Int)<(n:Int):=by omega
 clear hp0 hq0
 go_wp2_with fail
 go_loopw [6,7,16] (fun x _ i wr=>∃ k:Nat,k≤n∧i = .int .i64 k∧x = .int .i64 (fw P k:Nat)∧Own wr 3 1 H n n ((upZ (fol l P n) k).map (Value.int .i64))∧Ch (fun b=>b=H) w1 wr) (fun _ _ i _=>n-(intOf i).toNat)
 case atStart=>exact⟨0,Nat.zero_le _,rfl,rfl,HO1.out,Ch.refl _ _⟩
 case round =>
  obtain⟨k,hk,rfl,rfl,hO,hC⟩:=hrel
  by_cases hlt:k<n
  ·have dk:decide ((k:Int)<(n:Int))=true:=by simp; omega
   have hfk:=HFL.out k
   have hfk1:=HFL.out (k+1)
   obtain⟨b1,o1,p1,hB,_,hp1,hc1⟩:=(HB1.out.ch hC (fun b hb _ (e:b=H)=>by omega)).at_ hfk
   injection hB with hB
   injection hB with e1 e2
   subst e1 e2
   obtain⟨q1,rfl,hq1⟩:=asI_at hp1.out
   obtain rfl:q1=fw P (k+1):=(gn_at hq1).symm
   obtain⟨b2,o2,rfl,_,hc2⟩:=Sl.gsAt (HS1.out.ch hC (fun b hb _ (e:b=H)=>by omega)) hfk1
   have hco:=hO.cellI hlt
   have hfo:=hO.frozenAt k
   have hst:=hO.storedI k (gs l (fw P (k+1)))
   rw[upZ_next (fol_get hlt)] at hst
   generalize (upZ (fol l P n) k).getD k 0=old at *
   obtain⟨v,hv⟩:∃ v,gs l (fw P (k+1))=v:=⟨_,rfl⟩
   rw[hv] at hc2 hst
   have HST:=Bx.mk hst.1
   have HCC:=Bx.mk (hC.trans hst.2 (fun _ _ h=>h))
   clear hp1 hq1 hO hC hst hv
   obtain⟨x,hx⟩:∃ x,fw P k=x:=⟨_,rfl⟩
   obtain⟨y,hy⟩:∃ y,fw P (k+1)=y:=⟨_,rfl⟩
   have HY:Bx (fw P (k+1)=y):=⟨hy⟩
   rw[hy] at hc1 hc2 hfk1
   rw[hx] at hc1 hfk ⊢
   have i1:(x:Int)<(n:Int):=by omega
   have i2:(y:Int)<(n:Int):=by omega
   have i3:(k:Int)<(n:Int):=by omega
   clear hx hy
   go_wp2
   go_roundw
   case rel=>exact⟨k+1,by omega,by go_num,by rw[HY.out],HST.out,HCC.out⟩
   case measure=>simp[intOf]; omega
  ·have hkn:k=n:=by omega
   have dk:decide ((k:Int)<(n:Int))=false:=by simp; omega
   have hu:=upZ_all (fol l P n)
   rw[fol_len] at hu
   rw[hkn,hu] at hO
   have HOF:=Bx.mk hO
   have HCF:=Bx.mk (HC1.out.trans hC (S:=fun _=>False) (fun i hi (e:i=H)=>by have:=HHW.out; omega))
   clear hO hC hkn hu
   go_wp2
   go_ret
   exact⟨H,rfl,HOF.out,Nat.le_of_eq HHW.out,HCF.out⟩
theorem back_any (l:List Int) (A:Option Addr) (n c:Nat) (w:World) (hs:Sl w F .i64 A n l) (hn:n≤65536) :
  Calls Tryz.prog 119 #[.slice A n c] w (BackAny l n w):=by
 have HL:=Bx.mk hs.len
 have d1:decide (65536<(n:Int))=false:=by simp; omega
 by_cases h0:n=0
 ·have hb:((n:Int)==0)=true:=by simp; omega
  have HN:Bx (∀ s,¬Turned s l):=⟨fun s t=>by
   have h1:=t.closed.full
   have h2:=t.len
   have h3:=HL.out
   omega⟩
  clear hs h0
  go_enter Tryz.func119,Tryz.ntmps119
  go_wp2
  go_returns
  exact back_no hn HN.out (Ch.refl _ _)
 ·have hb:((n:Int)==0)=false:=by simp; omega
  have HS:=Bx.mk hs
  have H0:Bx (0<n):=⟨by omega⟩
  have hby:=bysymb_any l A n c w hs hn
  clear hs h0
  go_enter Tryz.func119,Tryz.ntmps119
  go_wp2_with fail
  refine hby.mono ?_
  rintro e w1 ⟨g,P,rfl,hP,hO1,hg,hC1⟩
  have hfo:=follow_any l P A (some ⟨g,0,none⟩) n c n w1 (HS.out.ch hC1 (fun _ _ _ h=>h)) (by
   rw[←vals_asI] at hO1
   exact hO1.sl) hn H0.out hP
  have HP:=Bx.mk hP
  have HC1:=Bx.mk hC1
  clear hP hO1 hC1 hby
  go_wp2_with fail
  refine hfo.mono ?_
  rintro e w2 ⟨g2,rfl,hO2,hg2,hC2⟩
  have hS2:=hO2.sl
  have hcl:=closed_any (fol l P n) _ n n w2 hS2 (by omega)
  have HS2:=Bx.mk (hS2.mono (G:=fun b=>w.heap.size≤b) (fun b _ hb=>by have:=HC1.out.size; omega))
  have HC2:=Bx.mk (HC1.out.trans hC2 (fun _ _ h=>h))
  clear hO2 hg2 hC2 hfo hS2
  go_wp2_with fail
  refine hcl.mono ?_
  rintro e w3 ⟨b,rfl,hbc,rfl⟩
  cases b with
  | false =>
   have HN:Bx (∀ s,¬Turned s l):=⟨fun s t=>by
    have h1:=t.fol HP.out
    rw[HL.out] at h1
    have h2:=hbc.2 (by rw[h1]; exact t.closed)
    cases h2⟩
   clear hbc hcl
   go_wp2
   go_returns
   exact back_no hn HN.out HC2.out
  | true =>
   have HT:Bx (Turned (fol l P n) l):=⟨by
    have h1:=closed_turned HP.out (by rw[HL.out]; exact hbc.1 rfl)
    rwa[HL.out] at h1⟩
   clear hbc hcl
   go_wp2
   go_returns
   exact⟨_,n,n,0,fol l P n,rfl,HS2.out, .inr (.inr ⟨hn,rfl,rfl,HT.out⟩),HC2.out⟩
end
end
end Go.Proofs.YtambgjpfoceieaaGreatDoor
