/- Lemmas and contracts of this proof. Conditions: said at each. -/
import Derived.Test.YtambgjpfoceieaaGreatDoorBwDevCounts
import Derived.Test.YtambgjpfoceieaaGreatDoorGFxSort
set_option maxHeartbeats 4000000
set_option maxRecDepth 100000
namespace Go.Proofs.YtambgjpfoceieaaGreatDoor.X
section
open Go.RowKit Go.Oct Go.Su
theorem counts9 {F:Nat→Prop} (l:List Int) (A:Option Addr) (n c:Nat) (w:World) (hs:Sl w F .i64 A n l) (hn:n≤65536) :
  Calls Tryz.prog 160 #[.slice A n c, .int .i64 9] w fun e w'=>∃ (A':Option Addr) (c':Nat),e = .returned (.slice A' 513 c')∧Sl w' (fun b=>w.heap.size≤b) .i64 A' 513 (asI (cnts l 9))∧Ch (fun _=>False) w w':=counts_any l A n c 9 9 w hs hn rfl
theorem own_box (w:World) (u0 u1 u2 u3 u4 u5:Value):Own (w.alloc (.cells #[u0,u1,u2,u3,u4,u5] 129)) 129 6 w.heap.size 1 1 [u0,u1,u2,u3,u4,u5] :=
 ⟨World.ownsRow_lit (base:=0) (e := 129) (size:=6) w #[u0,u1,u2,u3,u4,u5] 1 (Nat.zero_le _) (by unfold maxLen; omega) rfl⟩
def upB (s:List Int) (k:Nat):List Bool:=(List.range s.length).map fun i=>if i<k then decide (gs s i=1) else false
theorem upB_len (s:List Int) (k:Nat):(upB s k).length=s.length:=by unfold upB; simp
theorem upB_start (s:List Int):upB s 0=List.replicate s.length false:=by
 refine List.ext_getElem? fun i=>?_
 unfold upB
 rcases Nat.lt_or_ge i s.length with h | h
 ·rw[List.getElem?_map,List.getElem?_range h,List.getElem?_replicate,if_pos h]
  simp
 ·rw[List.getElem?_eq_none (by simpa using h),List.getElem?_eq_none (by simpa using h)]
theorem upB_all (s:List Int):upB s s.length=brd s:=by
 refine List.ext_getElem? fun i=>?_
 unfold upB brd
 rcases Nat.lt_or_ge i s.length with h | h
 ·rw[List.getElem?_map,List.getElem?_range h,List.getElem?_map,gs_some h,Option.map_some,Option.map_some,if_pos h]
 ·rw[List.getElem?_eq_none (by simpa using h),List.getElem?_eq_none (by simpa using h)]
theorem upB_next {s:List Int} {k:Nat} {x:Int} (h:s[k]? = some x):(upB s k).set k (x==1)=upB s (k+1):=by
 obtain⟨h1,_⟩:=List.getElem?_eq_some_iff.1 h
 have hg:=gs_at h
 refine List.ext_getElem? fun i=>?_
 rw[List.getElem?_set,upB_len]
 unfold upB
 rcases Nat.lt_or_ge i s.length with g | g
 ·rw[List.getElem?_map,List.getElem?_map,List.getElem?_range g,Option.map_some,Option.map_some]
  by_cases e:k=i
  ·subst e
   rw[if_pos rfl,if_pos h1,if_pos (by omega),hg]
   rfl
  ·rw[if_neg e]
   by_cases e2:i<k
   ·rw[if_pos e2,if_pos (by omega)]
   ·rw[if_neg e2,if_neg (by omega)]
 ·rw[if_neg (by omega),List.getElem?_eq_none (by simpa using g),List.getElem?_eq_none (by simpa using g)]
def Indexed (xss:List (List Int)) (w:World) (e:Ending) (w':World):Prop:=∃ b:Nat,e = .returned (.pointer (some ⟨b,0,none⟩))∧Ix w' (fun k=>w.heap.size≤k) b xss∧Ch (fun _=>False) w w'
section
variable {F G:Nat→Prop}
theorem index_is (xss:List (List Int)) (s:List Int) (l:List Nat) (A B:Option Addr) (n c d:Nat) (w:World) (hs:Sl w F .i64 A n s) (ht:Sl w G .i64 B n (asI l)) (he:txt xss=s) (hb:Byts xss) (hn:n≤65536) (hT:Turned s (asI l)) (hd:n≤d) (hdm:d≤maxLen) (hlt:∀ x∈l,x<512) (htab:W.Tab w) :
  Calls Tryz.prog 99 #[.slice A n c, .slice B n d] w (Indexed xss w):=by
 have HS:=Bx.mk hs
 have HTS:=Bx.mk ht
 have HE:=Bx.mk he
 have HB:=Bx.mk hb
 have HT:=Bx.mk hT
 have HLT:=Bx.mk hlt
 have HTAB:=Bx.mk htab
 have hsl:s.length=n:=hs.len
 have HSL:=Bx.mk hsl
 have hbu:=W.build_val 9 9 l B n d w G rfl ht (by omega) (by omega) (by omega) hlt hd hdm
 obtain⟨L,hL⟩:=sa_exists (s:=s) hT.closed.pos
 have HL:=Bx.mk hL
 clear hs ht he hb hT hlt htab hsl hL
 go_enter Tryz.func99,Tryz.ntmps99
 go_wp2_with fail
 refine hbu.mono ?_
 rintro e w1 ⟨T,rfl,hTr,hC1⟩
 have HTR:=Bx.mk hTr
 have HC1:=Bx.mk hC1
 have hco:=counts9 (asI l) B n d w1 (HTS.out.ch hC1 (fun _ _ _ h=>h)) hn
 clear hTr hC1 hbu
 go_wp2_with fail
 refine hco.mono ?_
 rintro e w2 ⟨A2,c2,rfl,hLS,hC2⟩
 have hC12:=HC1.out.trans hC2 (fun _ _ h=>h)
 have hsz1:=HC1.out.size
 have HCO:Bx (Core w2 (fun k=>w.heap.size≤k) T A2 c2 l):=⟨⟨HTR.out.keep hC2,hLS.mono (fun k _ hk=>by have hk':w1.heap.size≤k:=hk; show w.heap.size≤k; omega)⟩⟩
 have HC2:=Bx.mk hC12
 clear hC2 hC12 hLS hco HTR
 have hown:=own_box w2 (.pointer (some ⟨T,0,none⟩)) (.slice A2 513 c2) (.pointer none) (.pointer none) (.pointer none) (.pointer none)
 have hmk:=mkO (w2.alloc (.cells #[.pointer (some ⟨T,0,none⟩), .slice A2 513 c2, .pointer none, .pointer none, .pointer none, .pointer none] 129)) n (by omega)
 have hown2:=own_made1 (w2.alloc (.cells #[.pointer (some ⟨T,0,none⟩), .slice A2 513 c2, .pointer none, .pointer none, .pointer none, .pointer none] 129)) 4 (.bool false) n (by omega)
 go_wp2_with fail
 have hsz:=World.size_alloc w2 (.cells #[.pointer (some ⟨T,0,none⟩), .slice A2 513 c2, .pointer none, .pointer none, .pointer none, .pointer none] 129)
 have hC3:Ch (fun _=>False) w2 (w2.alloc (.cells #[.pointer (some ⟨T,0,none⟩), .slice A2 513 c2, .pointer none, .pointer none, .pointer none, .pointer none] 129)):=(Ch.refl _ _).alloc _
 obtain⟨w3,hw3⟩:∃ w3,w2.alloc (.cells #[.pointer (some ⟨T,0,none⟩), .slice A2 513 c2, .pointer none, .pointer none, .pointer none, .pointer none] 129)=w3:=⟨_,rfl⟩
 rw[hw3] at hown hown2 hsz hC3 ⊢
 obtain⟨b,hbb⟩:∃ b,w2.heap.size=b:=⟨_,rfl⟩
 rw[hbb] at hown hsz ⊢
 rw[hsz] at hown2
 have hC4:Ch (fun _=>False) w3 (w3.alloc (.cells (madeCells #[.bool false] n) 4)):=(Ch.refl _ _).alloc _
 have HOB:Bx (Own (w3.alloc (.cells (madeCells #[.bool false] n) 4)) 129 6 b 1 1 [.pointer (some ⟨T,0,none⟩), .slice A2 513 c2, .pointer none, .pointer none, .pointer none, .pointer none]):=⟨hown.keep hC4⟩
 have HOD:Bx (Own (w3.alloc (.cells (madeCells #[.bool false] n) 4)) 4 1 (b+1) n n ((upB s 0).map Value.bool)):=⟨by rw[upB_start,HSL.out,List.map_replicate]; exact hown2⟩
 have HC4:Bx (Ch (fun _=>False) w2 (w3.alloc (.cells (madeCells #[.bool false] n) 4))):=⟨hC3.trans hC4 (fun _ _ h=>h)⟩
 have hwb:w.heap.size≤b:=by have:=HC2.out.size; omega
 have HBB:=Bx.mk hbb
 clear hown hown2 hmk hsz hC3 hC4 hw3 hbb
 generalize w3.alloc (.cells (madeCells #[.bool false] n) 4)=w4 at *
 go_loopw [9,10,27] (fun _ _ iv wr=>∃ k:Nat,k≤n∧iv = .int .i64 k∧Own wr 4 1 (b+1) n n ((upB s k).map Value.bool)∧Ch (fun x=>x=b+1) w4 wr) (fun _ _ iv _=>n-(intOf iv).toNat)
 case atStart=>exact⟨0,Nat.zero_le _,rfl,HOD.out,Ch.refl _ _⟩
 case round =>
  obtain⟨k,hk,rfl,hD,hC⟩:=hrel
  by_cases hlt:k<n
  ·have dk:decide ((k:Int)<(n:Int))=true:=by simp; omega
   have hCw:Ch (fun _=>False) w wr:=(HC2.out.trans HC4.out (fun _ _ h=>h)).trans hC (fun i hi (e:i=b+1)=>by omega)
   obtain⟨b1,o1,x,rfl,_,hx,hcx⟩:=(HS.out.ch hCw (fun _ _ _ h=>h)).at_ hlt
   obtain⟨o,co⟩:=bool_cell hD (j:=k) (by rw[upB_len,HSL.out]; exact hlt)
   have fo:=hD.frozenAt k
   have hst:=hD.stored k (.bool (x==1))
   rw[←List.map_set,upB_next hx.out] at hst
   have HST:=Bx.mk hst
   have HC:=Bx.mk hC
   have i1:(k:Int)<(n:Int):=by omega
   clear hx hD hC hCw hst
   by_cases e1:x=1
   ·have e2:(x==1)=true:=by simpa using e1
    rw[e2] at HST
    go_wp2
    go_roundw
    case rel=>exact⟨k+1,by omega,by go_num,HST.out.1,HC.out.trans HST.out.2 (fun _ _ h=>h)⟩
    case measure=>simp[intOf]; omega
   ·have e2:(x==1)=false:=by simpa using e1
    rw[e2] at HST
    go_wp2
    go_roundw
    case rel=>exact⟨k+1,by omega,by go_num,HST.out.1,HC.out.trans HST.out.2 (fun _ _ h=>h)⟩
    case measure=>simp[intOf]; omega
  ·obtain rfl:k=n:=by omega
   have dk:decide ((k:Int)<(k:Int))=false:=by simp
   have eall:upB s k=brd s:=by
    have:=upB_all s
    rwa[HSL.out] at this
   rw[eall] at hD
   have hC5:Ch (fun _=>False) w2 wr:=HC4.out.trans hC (fun i hi (e:i=b+1)=>by have:=HBB.out; omega)
   have HO5:=Bx.mk (HOB.out.ch hC (fun (e:b=b+1)=>by omega))
   have HC5:=Bx.mk hC5
   have hof:=W.of_any (brd s) (some ⟨b+1,0,none⟩) k k wr (fun x=>x=b+1) hD.vs (by omega) (Nat.le_refl _) (by omega)
   have hszr:w.heap.size≤wr.heap.size:=by have h1:=HC2.out.size; have h2:=hC5.size; omega
   clear hD hC hC5 eall
   go_wp2_with fail
   refine hof.mono ?_
   rintro e w6 ⟨vb,rfl,hV,hC6⟩
   have hO6:=HO5.out.keep hC6
   have k2:=hO6.cellAt (j:=2) rfl
   have f2:=hO6.frozenAt 2
   have hst:=hO6.stored 2 (.pointer (some ⟨vb,0,none⟩))
   obtain⟨w7,hw7⟩:∃ w7:World,w6.setCell ⟨b,2,none⟩ (.pointer (some ⟨vb,0,none⟩))=w7:=⟨_,rfl⟩
   rw[hw7] at hst
   have HW7:=Bx.mk hw7
   have hC26:=HC5.out.trans hC6 (fun _ _ h=>h)
   have HCO7:Bx (Core w7 (fun k=>w.heap.size≤k∧k≠b) T A2 c2 l):=⟨by
    have h1:=HBB.out
    have hco:Core w2 (fun k=>w.heap.size≤k∧k≠b) T A2 c2 l:=⟨HCO.out.tr.mono (fun x hx h=>⟨h,by omega⟩),HCO.out.less.mono (fun x hx h=>⟨h,by omega⟩)⟩
    exact (hco.keep hC26).ch hst.2 (fun x hx _ (e:x=b)=>hx.2 e)⟩
   have HV7:Bx (W.Vec w7 (fun k=>w.heap.size≤k∧k≠b) vb (brd s)):=⟨(hV.mono (G:=fun k=>w.heap.size≤k∧k≠b) (fun x _ (h:wr.heap.size≤x)=>by have:=HO5.out.lt; exact⟨by omega,by omega⟩)).ch hst.2 (fun x hx _ (e:x=b)=>hx.2 e)⟩
   have HC7:Bx (Ch (fun _=>False) w w7):=⟨(HC2.out.trans hC26 (fun _ _ h=>h)).trans hst.2 (fun i hi (e:i=b)=>by omega)⟩
   have HO7:=Bx.mk hst.1
   have hbsz:=hst.1.lt
   have hwr:=write_any k (.pointer (some ⟨vb,0,none⟩)) (.pointer none) (.pointer none) (.pointer none) w7 HCO7.out HT.out HL.out (by have:=HT.out.len; rw[asI_len,HSL.out] at this; exact this) hn hst.1
   clear hV hC6 hO6 hst hw7 hC26 hof
   go_wp2_with fail
   rw[HW7.out]
   refine hwr.mono ?_
   rintro e w8 ⟨rfl,vk,pb,ob,hO8,hK8,hP8,hOr8,hC8⟩
   have hsz7:w.heap.size≤w7.heap.size:=HC7.out.size
   have hCw8:Ch (fun _=>False) w w8:=HC7.out.trans hC8 (fun i hi (e:i=b)=>by omega)
   have HIX:Bx (Ix0 w8 (fun k=>w.heap.size≤k) b xss l L T c2 vb vk pb ob A2):=⟨by
    have hs65:(txt xss).length≤65536:=by rw[HE.out,HSL.out]; exact hn
    have hco8:Core w8 (fun k=>w.heap.size≤k) T A2 c2 l:=by
     have:=HCO7.out.ch hC8 (fun x hx _ (e:x=b)=>hx.2 e)
     exact⟨this.tr.mono (fun x _ hx=>hx.1),this.less.mono (fun x _ hx=>hx.1)⟩
    exact⟨W.TabAt.keep hCw8 HTAB.out (fun h=>h),HB.out,hs65,by rw[HE.out]; exact HT.out,by rw[HE.out]; exact HL.out,hco8,hwb,hO8.cellAt (j:=0) rfl,hO8.cellAt (j:=1) rfl,hO8.cellAt (j:=2) rfl,hO8.cellAt (j:=3) rfl,hO8.cellAt (j:=4) rfl,hO8.cellAt (j:=5) rfl,by rw[HE.out]; exact (HV7.out.ch hC8 (fun x hx _ (e:x=b)=>hx.2 e)).mono (fun x _ hx=>hx.1),hK8.mono (fun x _ (hx:w7.heap.size≤x)=>by omega),hP8.mono (fun x _ (hx:w7.heap.size≤x)=>by omega),hOr8.mono (fun x _ (hx:w7.heap.size≤x)=>by omega)⟩⟩
   have HCW:=Bx.mk hCw8
   clear hO8 hK8 hP8 hOr8 hC8 hCw8 hwr
   go_wp2
   go_ret
   exact⟨b,rfl,⟨l,L,T,c2,vb,vk,pb,ob,A2,HIX.out⟩,HCW.out⟩
end
end
section
open Go.RowKit Go.Oct Go.Su
theorem le_beg {xss:List (List Int)} {n:Nat} (hn:n≤xss.length):n≤beg xss n:=by
 have:∀ k,k≤xss.length→k≤beg xss k:=fun k=>by
  induction k with
  | zero=>intro _; exact Nat.zero_le _
  | succ k ih =>
   intro hk
   have:=ih (by omega)
   rw[beg_next xss k (by omega)]
   omega
 exact this n hn
section
variable {F:Nat→Prop}
theorem toolong_any (xss:List (List Int)) (A:Option Addr) (n c:Nat) (w:World) (hz:Sls w F A n xss) (hN:(txt xss).length≤1048576) (o:Bool) (ho:decide (65536<(txt xss).length)=o) :
  Calls Tryz.prog 96 #[.slice A n c] w fun e w'=>e = .returned (.bool o)∧w=w':=by
 have hl:=hz.len
 have HL:=Bx.mk hl
 have HZ:=Bx.mk hz
 have HN:Bx (beg xss n<1048576):=⟨by rw[txt_len,hl] at hN; omega⟩
 have hn:n≤1048576:=by
  have h1:=le_beg (xss:=xss) (n:=n) (by omega)
  have:=HN.out
  omega
 have HO:Bx (decide (65536<beg xss n+1)=o):=⟨by rw[txt_len,hl] at ho; exact ho⟩
 clear hz hN hl ho
 go_enter Tryz.func96,Tryz.ntmps96
 go_wp2_with fail
 go_loop [3,5,8] (fun v _ i=>∃ k m:Nat,k≤n∧i = .int .i64 k∧v = .int .i64 m∧Bx (m=beg xss k+1)) (fun _ _ i=>n-(intOf i).toNat)
 case atStart=>exact⟨0,1,Nat.zero_le _,rfl,rfl,⟨rfl⟩⟩
 case round =>
  obtain⟨k,m,hk,rfl,rfl,hm⟩:=hrel
  by_cases hlt:k<n
  ·have dk:decide ((k:Int)<(n:Int))=true:=by simp; omega
   obtain⟨b,off,A',c',t,rfl,hFb,ex,hc,hsl,hlc,hcm⟩:=HZ.out.at_ hlt
   have hmt:m+t.length+1≤1048576∧m+t.length+1=beg xss (k+1)+1:=by
    have h1:=beg_next xss k (by rw[HL.out]; exact hlt)
    have h2:=beg_mono xss (show k+1≤n by omega) (by rw[HL.out]; exact Nat.le_refl _)
    rw[List.getD_eq_getElem?_getD,ex.out] at h1
    have h3:=HN.out
    have h4:=hm.out
    simp only[Option.getD_some] at h1
    omega
   have HMN:=Bx.mk hmt.2
   have hmt1:=hmt.1
   generalize t.length=tl at *
   have i2:(k:Int)<(n:Int):=by omega
   clear hsl ex hm hmt
   go_wp2
   go_round
   case rel=>exact⟨k+1,m+(tl+1),by omega,by go_num,by go_num,⟨by have:=HMN.out; omega⟩⟩
   case measure=>simp[intOf]; omega
  ·obtain rfl:k=n:=by omega
   have dk:decide ((k:Int)<(k:Int))=false:=by simp
   have HO2:Bx (decide ((65536:Int)<(m:Int))=o):=⟨by
    rw[←HO.out,hm.out,decide_eq_decide]
    omega⟩
   clear hm
   go_wp2
   go_ret
   exact⟨ret_bool HO2.out,rfl⟩
theorem lay_any (xss:List (List Int)) (A:Option Addr) (n c:Nat) (w:World) (hz:Sls w F A n xss) (hb:Byts xss) (hN:(txt xss).length≤1048576) :
  Calls Tryz.prog 97 #[.slice A n c] w (NewInts (txt xss) w):=by
 have hl:=hz.len
 have HL:=Bx.mk hl
 have HZ:=Bx.mk (hz.mono (G:=fun b=>b<w.heap.size) (fun b h _=>h))
 have HB:=Bx.mk hb
 have HN:Bx (beg xss n<1048576):=⟨by rw[txt_len,hl] at hN; omega⟩
 have hn:n≤1048576:=by
  have h1:n≤beg xss n:=by
   have:∀ k,k≤xss.length→k≤beg xss k:=fun k=>by
    induction k with
    | zero=>intro _; exact Nat.zero_le _
    | succ k ih =>
     intro hk
     have:=ih (by omega)
     rw[beg_next xss k (by omega)]
     omega
   exact this n (by omega)
  have:=HN.out
  omega
 clear hz hb hN hl
 go_enter Tryz.func97,Tryz.ntmps97
 go_wp2_with fail
 go_loopw [3,5,7,10] (fun v _ _ i wr=>∃ k m:Nat,k≤n∧i = .int .i64 k∧Bx (m=beg xss k)∧Gs 3 1 w wr v m (rowTo xss k [] 0)) (fun _ _ _ i _=>n-(intOf i).toNat)
 case atStart=>exact⟨0,0,Nat.zero_le _,rfl,⟨rfl⟩,Gs.nil _ _ _⟩
 case round =>
  obtain⟨k,m,hk,rfl,hm,hG⟩:=hrel
  by_cases hlt:k<n
  ·have dk:decide ((k:Int)<(n:Int))=true:=by simp; omega
   obtain⟨b,off,A',c',t,rfl,hFb,ex,hc,hsl,hlc,hcm⟩:=HZ.out.at_ hlt
   have HEX:=Bx.mk ex.out
   have hmt:m+t.length+1≤1048576∧m+t.length+1=beg xss (k+1):=by
    have h1:=beg_next xss k (by rw[HL.out]; exact hlt)
    have h2:=beg_mono xss (show k+1≤n by omega) (by rw[HL.out]; exact Nat.le_refl _)
    rw[List.getD_eq_getElem?_getD,ex.out] at h1
    have h3:=HN.out
    have h4:=hm.out
    simp only[Option.getD_some] at h1
    omega
   have HMN:=Bx.mk hmt.2
   obtain⟨tl,htl⟩:∃ tl,t.length=tl:=⟨_,rfl⟩
   have HTL:=Bx.mk htl
   rw[htl] at hmt hsl hc hlc
   have hmt1:=hmt.1
   have hct:c'≤9223372036854775807:=by unfold maxLen at hcm; omega
   have htc:tl≤9223372036854775807:=by omega
   have HG:=Bx.mk hG
   have HSL:=Bx.mk hsl
   have HC:=Bx.mk hc
   have HALL:=Bx.mk (rowTo_all (xss:=xss) ex.out)
   have i2:(k:Int)<(n:Int):=by omega
   have hcr:=hG.ch.cell (p:=⟨b,off+k,none⟩) (fun h=>h) hc
   clear hG hsl ex hm hc hmt htl
   go_wp2_with fail
   clear hcr
   go_loopw [3,7,16] (fun v _ i wr=>∃ j:Nat,j≤tl∧i = .int .i64 j∧Gs 3 1 w wr v (m+j) (rowTo xss k t j)) (fun _ _ i _=>tl-(intOf i).toNat)
   case atStart=>exact⟨0,Nat.zero_le _,rfl,by rw[rowTo_zero]; have:=HG.out; rwa[rowTo_zero] at this⟩
   case round =>
    obtain⟨j,hj,rfl,hGj⟩:=hrel
    obtain⟨A1,c1,rfl,_,_⟩:=hGj.shape
    have HGJ:=Bx.mk hGj
    have hc:=hGj.ch.cell (p:=⟨b,off+k,none⟩) (fun h=>h) HC.out
    by_cases hjt:j<tl
    ·have dj:decide ((j:Int)<(tl:Int))=true:=by simp; omega
     obtain⟨b2,o2,x,rfl,_,hx,hcx⟩:=(HSL.out.ch hGj.ch (fun _ _ _ h=>h)).at_ hjt
     obtain⟨hx0,hx1⟩:=HB.out t (List.mem_of_getElem? HEX.out) x (List.mem_of_getElem? hx.out)
     have HNX:=Bx.mk (rowTo_next (xss:=xss) (k:=k) hx.out)
     have i4:(j:Int)<(tl:Int):=by omega
     clear hGj hx
     go_wp2_with fail
     refine (symbol_any x (x+2) _ hx0 hx1 rfl).mono ?_
     rintro e w' ⟨rfl,rfl⟩
     go_wp2_with (at_builtin; refine wp_app rfl (.tmp 20) (.tmp 23) elemI rfl rfl (HGJ.out.own.alloc _) rfl (Vs.one _ _ _) ?c1 ?c2 ?c3 ?_)
     case c1=>intro u hu; simp at hu; subst hu; rfl
     case c2=>omega
     case c3=>omega
     intro v5 w5 ho1 hg1 hb1
     have HG5:=Bx.mk (HGJ.out.app ((Ch.refl (fun _=>False) wr).alloc _) ho1 hg1 (by rw[World.size_alloc]; exact hb1))
     clear ho1 hg1 hb1
     go_wp2
     go_roundw
     case rel=>exact⟨j+1,by omega,by go_num,by rw[←HNX.out]; exact HG5.out⟩
     case measure=>simp[intOf]; omega
    ·have hjn:j=tl:=by omega
     have dj:decide ((j:Int)<(tl:Int))=false:=by simp; omega
     have HJ:=Bx.mk hjn
     clear hGj hjn
     go_wp2_with (at_builtin; refine wp_app rfl (.tmp 26) (.tmp 27) elemI rfl rfl (HGJ.out.own.alloc _) rfl (Vs.one _ _ _) ?c1 ?c2 ?c3 ?_)
     case c1=>intro u hu; simp at hu; subst hu; rfl
     case c2=>omega
     case c3=>omega
     intro v5 w5 ho1 hg1 hb1
     have HG5:=Bx.mk (HGJ.out.app ((Ch.refl (fun _=>False) wr).alloc _) ho1 hg1 (by rw[World.size_alloc]; exact hb1))
     clear ho1 hg1 hb1
     go_wp2
     go_roundw
     case rel =>
      refine⟨k+1,m+j+1,by omega,by go_num,⟨by rw[HJ.out,←HTL.out]; exact HMN.out⟩,?_⟩
      have:=HG5.out
      rw[HJ.out,←HTL.out] at this ⊢
      rw[HALL.out] at this
      exact this
     case measure=>simp[intOf]; omega
  ·have hkn:k=n:=by omega
   have dk:decide ((k:Int)<(n:Int))=false:=by simp; omega
   rw[hkn] at hm hG
   have hm2:m<1048576:=by rw[hm.out]; exact HN.out
   have HG:=Bx.mk hG
   have HML:Bx (m+1=(txt xss).length):=⟨by rw[txt_len,HL.out,hm.out]⟩
   obtain⟨A1,c1,rfl,_,_⟩:=hG.shape
   clear hG hm hkn
   go_wp2_with (at_builtin; refine wp_app rfl (.tmp 30) (.tmp 31) elemI rfl rfl (HG.out.own.alloc _) rfl (Vs.one _ _ _) ?c1 ?c2 ?c3 ?_)
   case c1=>intro u hu; simp at hu; subst hu; rfl
   case c2=>omega
   case c3=>omega
   intro v5 w5 ho1 hg1 hb1
   have HF:Bx (Gs 3 1 w w5 v5 (m+1) ((txt xss).map (Value.int .i64))):=⟨by
    have:=HG.out.app ((Ch.refl (fun _=>False) wr).alloc _) ho1 hg1 (by rw[World.size_alloc]; exact hb1)
    rwa[rowTo_end HL.out] at this⟩
   clear ho1 hg1 hb1
   go_wp2
   go_ret
   exact⟨v5,rfl,by rw[←HML.out]; exact HF.out⟩
def BuildPost (xss:List (List Int)) (w:World) (e:Ending) (w':World):Prop:=((txt xss).length≤65536∧∃ b:Nat,e = .returned (.tuple #[.pointer (some ⟨b,0,none⟩), .int .i64 0])∧Ix w' (fun k=>w.heap.size≤k) b xss∧Ch (fun _=>False) w w')∨(65536<(txt xss).length∧e = .returned (.tuple #[.pointer none, .int .i64 5])∧Ch (fun _=>False) w w')
theorem build_any (xss:List (List Int)) (A:Option Addr) (n c:Nat) (w:World) (hz:Sls w F A n xss) (hb:Byts xss) (hN:(txt xss).length≤1048576) (htab:W.Tab w) :
  Calls Tryz.prog 48 #[.slice A n c] w (BuildPost xss w):=by
 have htl:=toolong_any xss A n c w hz hN _ rfl
 have hlay:=lay_any xss A n c w hz hb hN
 by_cases hbig:65536<(txt xss).length
 ·rw[decide_eq_true hbig] at htl
  have HBIG:=Bx.mk hbig
  clear hz hb hN hbig hlay
  go_enter Tryz.func48,Tryz.ntmps48
  go_wp2_with fail
  refine htl.mono ?_
  rintro e w' ⟨rfl,rfl⟩
  clear htl
  go_wp2
  go_returns
  exact .inr ⟨HBIG.out,rfl,Ch.refl _ _⟩
 ·rw[decide_eq_false hbig] at htl
  have HSM:Bx ((txt xss).length≤65536):=⟨by omega⟩
  have HB:=Bx.mk hb
  have HT:=Bx.mk htab
  clear hz hb hN hbig htab
  go_enter Tryz.func48,Tryz.ntmps48
  go_wp2_with fail
  refine htl.mono ?_
  rintro e w' ⟨rfl,rfl⟩
  clear htl
  go_wp2_with fail
  refine hlay.mono ?_
  rintro e w1 ⟨v,rfl,hG⟩
  obtain⟨A1,c1,rfl,hc1,hc2⟩:=hG.shape
  have HSR:=Bx.mk hG.sl
  have HC1:=Bx.mk hG.ch
  have htu:=turn_cap (txt xss) A1 (txt xss).length c1 w1 hG.sl HSM.out
  clear hG hlay
  obtain⟨m,hm⟩:∃ m,(txt xss).length=m:=⟨_,rfl⟩
  rw[hm] at HSR htu HSM hc1 ⊢
  have HM:=Bx.mk hm
  clear hm
  go_wp2_with fail
  refine htu.mono ?_
  rintro e w2 ⟨A2,c2,m2,ec,t,rfl,hsl,hres,hmc,hcm,hC2⟩
  have hT:ec=0∧m2=m∧Turned (txt xss) t:=by
   rcases hres with ⟨h1,_⟩ | ⟨_,h1,_⟩ | ⟨_,h1,h2,h3⟩
   ·have:=HSM.out; omega
   ·exact absurd (txt_closed HB.out.pos) h1
   ·exact⟨h1,h2,h3⟩
  obtain⟨rfl,rfl,hT⟩:=hT
  obtain⟨l,rfl,hlt⟩:=turned_nats hT (txt_sym HB.out)
  have hix:=index_is xss (txt xss) l A1 A2 m2 c1 c2 w2 (HSR.out.ch hC2 (fun _ _ _ h=>h)) hsl rfl HB.out HSM.out hT hmc hcm hlt (HT.out.keep (HC1.out.trans hC2 (fun _ _ h=>h)))
  have HC2:=Bx.mk (HC1.out.trans hC2 (fun _ _ h=>h))
  clear hsl hres hC2 hT hlt htu
  go_wp2_with fail
  refine hix.mono ?_
  rintro e w3 ⟨b,rfl,hI,hC3⟩
  have HI:=Bx.mk (hI.mono (G:=fun k=>w.heap.size≤k) (fun k _ (h:w2.heap.size≤k)=>by have:=HC2.out.size; omega))
  have HC3:=Bx.mk (HC2.out.trans hC3 (fun _ _ h=>h))
  have HSM2:Bx ((txt xss).length≤65536):=⟨by rw[HM.out]; exact HSM.out⟩
  clear hI hC3 hix
  go_wp2
  go_returns
  exact .inl ⟨HSM2.out,b,rfl,HI.out,HC3.out⟩
end
end
end Go.Proofs.YtambgjpfoceieaaGreatDoor.X
