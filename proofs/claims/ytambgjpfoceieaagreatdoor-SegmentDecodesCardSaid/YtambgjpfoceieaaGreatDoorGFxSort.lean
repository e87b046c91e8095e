/- Lemmas and contracts of this proof. Conditions: said at each. -/
import Derived.Test.YtambgjpfoceieaaGreatDoorGFxIx
import Derived.Test.YtambgjpfoceieaaGreatDoorGSvSame
import Derived.Test.YtambgjpfoceieaaGreatDoorFxLaid
set_option maxHeartbeats 4000000
set_option maxRecDepth 100000
namespace Go.Su
section
variable {xss:List (List Int)} {p:List Int} {L:List Nat} {lo hi:Nat}
def leN (x y:Nat):Bool:=decide (x≤y)
structure FoundAt (xss:List (List Int)) (L:List Nat) (p:List Int) (lo hi:Nat):Prop where
 le:lo≤hi
 top:hi≤L.length
 eq:((cutL L lo hi).mergeSort leN).map (spot xss)=locs xss p 0
 spots:∀ x∈cutL L lo hi,∃ d a,x=beg xss d+a∧d<xss.length∧a≤(xss.getD d []).length
theorem sorted_le (l:List Nat):(l.mergeSort leN).Pairwise (fun x y=>x≤y) :=
 (List.pairwise_mergeSort (le:=leN) (fun a b c=>by simp[leN]; omega) (fun a b=>by simp[leN]; omega) l).imp fun {x y} h=>by simpa[leN] using h
theorem found_of (hb:PosB xss) (hp:∀ b∈p,0≤b) (h0:p≠[]) (h:IsSA (txt xss) L) (r:Rng (txt xss) L (up2 p) lo hi):FoundAt xss L p lo hi:=by
 refine⟨r.1,by have:=r.2.1; have:=h.len; omega,locs_cut hb hp h0 h r (List.mergeSort_perm _ _) (sorted_le _),fun x hx=>?_⟩
 obtain⟨i,h1,h2,h3⟩:=cutL_mem.1 hx
 obtain⟨d,a,e,ho⟩:=(pre_occ hp h0).1 ((r.2.2 i x h3).2 ⟨h1,h2⟩)
 have:=ho.fits
 exact⟨d,a,e,ho.doc,by omega⟩
theorem found_none (xss:List (List Int)) (L:List Nat):FoundAt xss L [] 0 0:=by
 have e:cutL L 0 0=[]:=rfl
 refine⟨Nat.le_refl _,Nat.zero_le _,?_,fun x hx=>?_⟩
 ·rw[e,locs_empty]
  simp
 ·rw[e] at hx
  cases hx
end
end Go.Su
namespace Go.Proofs.YtambgjpfoceieaaGreatDoor.X
open Go.RowKit Go.Oct Go.Su Go.Sort
theorem sort_asI (S:List Nat):(asI S).mergeSort (fun x y=>decide (x≤y))=asI (S.mergeSort leN):=by
 unfold asI
 exact (List.map_mergeSort (r:=leN) (s:=fun x y:Int=>decide (x≤y)) (f:=fun x:Nat=>(x:Int)) (fun a _ b _=>by unfold leN; rw[decide_eq_decide]; omega)).symm
theorem putrow_ch (w:World) (g n:Nat) (d:Array Int) (os:Array Obj):Ch (fun b=>b=g) w (grow (putRow (Value.int .i64) (Sort.ahead w n) g 0 d) os):=by
 have h0:Ch (fun b=>b=g) w (putRow (Value.int .i64) (Sort.ahead w n) g 0 d):=by
  refine⟨rfl,rfl,rfl,?_,fun k hk hn=>?_⟩
  ·simp[putRow,mapBlock,Sort.ahead]
  ·unfold putRow mapBlock Sort.ahead
   show (w.heap.modify g _)[k]? = w.heap[k]?
   rw[Array.getElem?_modify,if_neg (fun e=>hn e.symm)]
 exact ch_grow h0 os
theorem sort_any (S:List Nat) (g n c:Nat) (w:World) (h:Own w 3 1 g n c (vals S)) (hn:n≤1048576) :
  Calls Tryz.prog 82 #[.slice (some ⟨g,0,none⟩) n c] w fun e w'=>e = .returned (.tuple #[])∧Own w' 3 1 g n c (vals (S.mergeSort leN))∧Ch (fun b=>b=g) w w':=by
 have hS:S.length=n:=by
  have:=h.len
  unfold vals at this
  rw[List.length_map] at this
  omega
 have hH:Holds (Value.int .i64) w g 0 (asI S).toArray:=by
  intro j hj
  rw[List.size_toArray,asI_len] at hj
  refine⟨?_,by rw[Nat.zero_add]; exact h.frozenAt j⟩
  rw[Nat.zero_add,h.cellN (by omega),getElem!_pos _ j (by rw[List.size_toArray,asI_len]; exact hj)]
  unfold asI gn
  rw[List.getElem_toArray,List.getElem_map,List.getD_eq_getElem?_getD,List.getElem?_eq_getElem hj]
  rfl
 have hc:=AnyM.slices_Sort_int Tryz.fxSort g 0 c (asI S) w hH h.lt (by rw[asI_len]; omega)
 rw[asI_len,hS] at hc
 refine hc.mono ?_
 rintro e w' ⟨rfl,m,os,rfl⟩
 refine⟨rfl,?_,putrow_ch w g m _ os⟩
 rw[Lib.sorted_world (Value.int .i64) w g 0 m (asI S).toArray _ os hH (by rw[List.length_mergeSort,List.size_toArray]),sort_asI]
 have hOd:Own (w.drewN m) 3 1 g n c (vals S):=h.keep ((Ch.refl (fun _=>False) w).drewN m)
 have hl:(asI (S.mergeSort leN)).length=n:=by rw[asI_len,List.length_mergeSort,hS]
 have h1:=own_setCells ((asI (S.mergeSort leN)).map (Value.int .i64)) 0 _ _ hOd (by rw[List.length_map]; omega)
 rw[List.take_zero,List.nil_append,List.length_map,hl,List.drop_eq_nil_of_le (by unfold vals; rw[List.length_map]; omega),List.append_nil] at h1
 rw[vals_asI] at h1 ⊢
 exact h1.keep (ch_grow (Ch.refl _ _) os)
end Go.Proofs.YtambgjpfoceieaaGreatDoor.X
namespace Go.Proofs.YtambgjpfoceieaaGreatDoor.X
section
open Go.RowKit Go.Oct Go.Su
def hitZ:Value := .agg #[.int .i64 0, .int .i64 0]
theorem mkH (w:World) (n:Nat) (hn:n≤1048576):(Instr.makeSlice 59 (.int .i64 (n:Int)) (.int .i64 (n:Int))).run Tryz.prog w = .ok (.slice (some ⟨w.heap.size,0,none⟩) n n) (w.alloc (.cells (madeCells hitZ.cells (n*2)) 65)):=by
 obtain⟨i,hi,hz,hs,hby⟩:=infoK elemH.info
 have hb':(i.bytes:Int)*(n:Int)≤281474976710656:=by
  rw[hby]
  have h:((16*n:Nat):Int)≤281474976710656:=by omega
  rwa[Int.natCast_mul] at h
 have hr:=run_make (P := Tryz.prog) w 59 65 i hitZ Tryz.underlying59 hi hz .i64 .i64 n n (by omega) (by omega) hb' (by omega)
 simp only[Int.toNat_natCast,hs] at hr
 exact hr
theorem ownH (w:World) (n:Nat) (hn:n≤1048576):Own (w.alloc (.cells (madeCells hitZ.cells (n*2)) 65)) 65 2 w.heap.size n n (madeCells hitZ.cells (n*2)).toList :=
 ⟨World.ownsRow_lit (base:=0) (e := 65) (size:=2) w (madeCells hitZ.cells (n*2)) n (Nat.zero_le _) (by unfold maxLen; omega) (by simp[madeCells])⟩
def HUp (hs:List (Nat×Nat)) (k:Nat) (us:List Value):Prop:=∀ j h,j<k→hs[j]? = some h→us[j*2]? = some (.int .i64 (h.1:Nat))∧us[j*2+1]? = some (.int .i64 (h.2:Nat))
theorem HUp.next {hs:List (Nat×Nat)} {k d a:Nat} {us:List Value} (h:HUp hs k us) (hl:k*2+1<us.length) (hk:hs[k]? = some (d,a)):HUp hs (k+1) ((us.set (k*2) (.int .i64 (d:Nat))).set (k*2+1) (.int .i64 (a:Nat))):=by
 intro j x hj hx
 by_cases e:j=k
 ·subst e
  rw[hk] at hx
  obtain rfl:=Option.some.inj hx
  constructor
  ·rw[List.getElem?_set_ne (by omega),List.getElem?_set_self (by omega)]
  ·rw[List.getElem?_set_self (by rw[List.length_set]; omega)]
 ·obtain⟨h1,h2⟩:=h j x (by omega) hx
  constructor
  ·rw[List.getElem?_set_ne (by omega),List.getElem?_set_ne (by omega)]
   exact h1
  ·rw[List.getElem?_set_ne (by omega),List.getElem?_set_ne (by omega)]
   exact h2
theorem hup_hs {w:World} {g n c:Nat} {hs:List (Nat×Nat)} {us:List Value} (ho:Own w 65 2 g n c us) (h:HUp hs n us) (hl:hs.length=n):Hs w (fun b=>b=g) (some ⟨g,0,none⟩) n hs:=by
 refine⟨hl,fun _=>⟨g,0,rfl,rfl,fun j x hx=>?_⟩⟩
 obtain⟨hj,_⟩:=List.getElem?_eq_some_iff.1 hx
 obtain⟨k1,k2⟩:=h j x (by omega) hx
 rw[Nat.zero_add]
 exact⟨ho.cellAt k1,ho.cellAt k2⟩
def LocOf (xss:List (List Int)) (p:List Int) (w:World) (e:Ending) (w':World):Prop:=∃ (A:Option Addr) (c n:Nat),e = .returned (.slice A n c)∧Hs w' (fun k=>w.heap.size≤k) A n (locs xss p 0)∧Ch (fun _=>False) w w'
section
variable {F G:Nat→Prop} {b T c vb vk pb ob:Nat} {A:Option Addr} {xss:List (List Int)} {l L:List Nat}
theorem locate_with (p:List Int) (B:Option Addr) (m d:Nat) (w:World) (h:Ix0 w F b xss l L T c vb vk pb ob A)
  (hs:Calls Tryz.prog 80 #[.pointer (some ⟨b,0,none⟩), .slice B m d] w fun e w'=>∃ lo hi:Nat,e = .returned (.tuple #[.int .i64 lo, .int .i64 hi])∧FoundAt xss L p lo hi∧Ch (fun _=>False) w w') :
  Calls Tryz.prog 28 #[.pointer (some ⟨b,0,none⟩), .slice B m d] w (LocOf xss p w):=by
 have HH:=Bx.mk h
 have hL:L.length≤65536:=by have:=h.sa.len; have:=h.small; omega
 clear h
 go_enter Tryz.func28,Tryz.ntmps28
 go_wp2_with fail
 refine hs.mono ?_
 rintro e w1 ⟨lo,hi,rfl,hf,hC1⟩
 have hle:=hf.le
 have htop:=hf.top
 have HEQ:=Bx.mk hf.eq
 have HSP:=Bx.mk hf.spots
 have HSL:=Bx.mk (cutL_len (lo:=lo) hf.top)
 have HSG:=Bx.mk fun i (hi':lo+i<hi)=>(cutL_at hi':(cutL L lo hi)[i]? = L[lo+i]?)
 have HH1:=Bx.mk (HH.out.keep hC1)
 have HC1:=Bx.mk hC1
 clear hf hs hC1 HH
 generalize cutL L lo hi=S at *
 obtain⟨n,hn⟩:∃ n,hi-lo=n:=⟨_,rfl⟩
 rw[hn] at HSL
 obtain rfl:hi=lo+n:=by omega
 have en:(lo:Int)+(n:Int)-(lo:Int)=(n:Int):=by omega
 have hn6:n≤65536:=by omega
 clear hn hle
 have hmk:=mkI w1 n (by omega)
 have hO0:=own_made1 w1 3 (.int .i64 0) n (by omega)
 rw[show List.replicate n (Value.int .i64 0)=vals (K.upL S 0) by rw[K.upL_zero,HSL.out]; unfold vals; rw[List.map_replicate]; rfl] at hO0
 have HO0:=Bx.mk hO0
 clear hO0
 go_wp2_with fail
 have HC2:Bx (Ch (fun _=>False) w1 (w1.alloc (.cells (madeCells #[.int .i64 0] n) 3))):=⟨(Ch.refl (fun _=>False) w1).alloc _⟩
 obtain⟨g,hg⟩:∃ g,w1.heap.size=g:=⟨_,rfl⟩
 have HG:=Bx.mk hg
 have HO1:=HO0
 rw[hg] at HO1 ⊢
 clear HO0 hg hmk
 generalize w1.alloc (.cells (madeCells #[.int .i64 0] n) 3)=w2 at *
 have HH2:=Bx.mk (HH1.out.keep HC2.out)
 go_loopw [8,25] (fun _ i wr=>∃ k:Nat,k≤n∧i = .int .i64 k∧Own wr 3 1 g n n (vals (K.upL S k))∧Ch (fun _=>False) w1 wr) (fun _ i _=>n-(intOf i).toNat)
 case atStart=>exact⟨0,Nat.zero_le _,rfl,HO1.out,HC2.out⟩
 case round =>
  obtain⟨k,hk,rfl,hO,hC⟩:=hrel
  by_cases hlt:k<n
  ·have dk:decide ((k:Int)<(n:Int))=true:=by simp; omega
   have hx0:=HSG.out k (by omega)
   obtain⟨x,hx⟩:∃ x,S[k]? = some x:=⟨_,List.getElem?_eq_getElem (by rw[HSL.out]; exact hlt)⟩
   rw[hx] at hx0
   have HX:=Bx.mk hx0.symm
   have HHR:=Bx.mk (HH1.out.keep hC)
   have HC:=Bx.mk hC
   have HO:=Bx.mk hO
   have HN:=Bx.mk (K.upL_next hx)
   have i1:(k:Int)<(n:Int):=by omega
   have i0:(0:Int)≤(k:Int):=by omega
   have ek:((lo+k:Nat):Int)=(lo:Int)+(k:Int):=by omega
   have hk6:lo+k≤65536:=by omega
   clear hx hx0 hO hC
   go_wp2_with fail
   rw[←ek]
   refine (place_any (lo+k) x _ HHR.out HX.out).mono ?_
   rintro e w3 ⟨rfl,hC3⟩
   have hO3:=HO.out.keep hC3
   have hcell:=hO3.cellN hlt
   have hfz:=hO3.frozenAt k
   have hst:=hO3.storedN k x
   rw[HN.out] at hst
   have HST:=Bx.mk hst
   have HC3:=Bx.mk (HC.out.trans hC3 (fun _ _ h=>h))
   generalize gn (K.upL S k) k=old at *
   clear hst hO3 hC3
   go_wp2
   go_roundw
   case rel=>exact⟨k+1,by omega,by go_num,HST.out.1,HC3.out.trans HST.out.2 (fun i hi (e:i=g)=>by have:=HG.out; omega)⟩
   case measure=>simp[intOf]; omega
  ·obtain rfl:k=n:=by omega
   have dk:decide ((k:Int)<(k:Int))=false:=by simp
   have eall:K.upL S k=S:=by
    have:=K.upL_all S
    rwa[HSL.out] at this
   rw[eall] at hO
   have HC:=Bx.mk hC
   have hsort:=sort_any S g k k wr hO (by omega)
   clear hO hC eall
   go_wp2_with fail
   refine hsort.mono ?_
   rintro e w4 ⟨rfl,hO4,hC4⟩
   have HC4:=Bx.mk (HC.out.trans hC4 (fun i hi (e:i=g)=>by have:=HG.out; omega))
   have HO4:=Bx.mk hO4
   have HPL:Bx ((S.mergeSort leN).length=k):=⟨by rw[List.length_mergeSort]; exact HSL.out⟩
   have HPM:Bx (∀ x∈S.mergeSort leN,∃ d a,x=beg xss d+a∧d<xss.length∧a≤(xss.getD d []).length):=⟨fun x hx=>HSP.out x ((List.mergeSort_perm _ _).mem_iff.1 hx)⟩
   clear hO4 hC4 hsort HC HSP HSG HSL HC2 HO1 HH2
   generalize S.mergeSort leN=P at *
   have hmh:=mkH w4 k (by omega)
   have hown:=ownH w4 k (by omega)
   generalize madeCells hitZ.cells (k*2)=arr at *
   have HW:=Bx.mk hown
   clear hown
   go_wp2_with fail
   have HC5:Bx (Ch (fun _=>False) w4 (w4.alloc (.cells (arr) 65))):=⟨(Ch.refl (fun _=>False) w4).alloc _⟩
   obtain⟨q,hq⟩:∃ q,w4.heap.size=q:=⟨_,rfl⟩
   have HQ:=Bx.mk hq
   have HW1:=HW
   rw[hq] at HW1 ⊢
   have hgq:g<q:=by
    have:=HO4.out.lt
    omega
   clear HW hq hmh
   generalize w4.alloc (.cells (arr) 65)=w5 at *
   have HO5:=Bx.mk (HO4.out.keep HC5.out)
   have HC6:=Bx.mk (HC4.out.trans HC5.out (fun _ _ h=>h))
   go_loopw [10,11,12,44] (fun _ _ _ i wr=>∃ (j:Nat) (us:List Value),j≤k∧i = .int .i64 j∧Own wr 65 2 q k k us∧Bx (HUp (P.map (spot xss)) j us)∧Ch (fun b=>b=q) w5 wr) (fun _ _ _ i _=>k-(intOf i).toNat)
   case atStart=>exact⟨0,_,Nat.zero_le _,rfl,HW1.out,⟨fun j h hj=>absurd hj (by omega)⟩,Ch.refl _ _⟩
   case round =>
    obtain⟨j,us,hj,rfl,hO,hU,hC⟩:=hrel
    by_cases hlt:j<k
    ·have dj:decide ((j:Int)<(k:Int))=true:=by simp; omega
     obtain⟨x,hx⟩:∃ x,P[j]? = some x:=⟨_,List.getElem?_eq_getElem (by rw[HPL.out]; exact hlt)⟩
     obtain⟨d1,a1,hxe,hd1,ha1⟩:=HPM.out x (List.mem_of_getElem? hx)
     have hsp:=spot_is HH1.out.byts.pos hd1 ha1
     have hcx:wr.cell? ⟨g,j,none⟩=some (.int .i64 (x:Nat)):=by
      have:=(HO5.out.ch hC (fun (e:g=q)=>by omega)).cellN hlt
      rwa[gn_at hx] at this
     have HCR:=Bx.mk (HC6.out.trans hC (fun i hi (e:i=q)=>by have:=HQ.out; have:=HC4.out.size; omega))
     have HHR:=Bx.mk (HH1.out.keep HCR.out)
     have c2:=HHR.out.c2
     have hbs:=beg_small xss hd1
     have hsm:=HH1.out.small
     obtain⟨s,hs⟩:∃ s,beg xss d1=s:=⟨_,rfl⟩
     have HRK:Bx (((Go.Bi.rk (brd (txt xss)) true (x:Nat):Nat):Int)=(d1:Nat)):=⟨by rw[hxe,brd_count HH1.out.byts.pos hd1 ha1]⟩
     have HS:=Bx.mk hs
     rw[hs] at hxe hbs
     have ex:(x:Int)-(s:Int)=(a1:Int):=by omega
     have hx6:x≤131072∧s≤65536∧d1≤65536:=by omega
     have HHT:Bx ((P.map (spot xss))[j]? = some (d1,a1)):=⟨by rw[List.getElem?_map,hx,hxe,←HS.out]; exact congrArg some hsp⟩
     have hul:=hO.len
     have HUL:=Bx.mk hul
     have hg0:us[j*2]? = some us[j*2]:=List.getElem?_eq_getElem (by omega)
     have hg1:us[j*2+1]? = some us[j*2+1]:=List.getElem?_eq_getElem (by omega)
     obtain⟨u0,hu0⟩:∃ u,us[j*2]? = some u:=⟨_,hg0⟩
     obtain⟨u1,hu1⟩:∃ u,us[j*2+1]? = some u:=⟨_,hg1⟩
     have HU0:=Bx.mk hu0
     have HU1:=Bx.mk hu1
     have HO:=Bx.mk hO
     have HCQ:=Bx.mk hC
     have i1:(j:Int)<(k:Int):=by omega
     have i0:(0:Int)≤(j:Int):=by omega
     clear hx hsp hs hO hC hul hg0 hg1 hu0 hu1 ha1 hxe hbs hsm
     go_wp2_with fail
     refine (vrank_val vb (brd (txt xss)) true x d1 _ HHR.out.brd HRK.out).mono ?_
     rintro e w' ⟨rfl,rfl⟩
     go_wp2_with fail
     refine (start_any d1 s _ HHR.out hd1 HS.out).mono ?_
     rintro e w6 ⟨rfl,hC6⟩
     have hO6:=HO.out.keep hC6
     have k0:=hO6.cellAt HU0.out
     have k1:=hO6.cellAt HU1.out
     have f0:=hO6.frozenAt (j*2)
     have f1:=hO6.frozenAt (j*2+1)
     have HO6:=Bx.mk hO6
     have HC6':=Bx.mk hC6
     clear hO6 hC6
     go_wp2_with fail
     generalize hws:World.setCell (World.setCell w6 _ _) _ _=ws at *
     have hCs:Ch (fun b=>b=q) w6 ws:=by rw[←hws]; exact ((Ch.refl (fun b=>b=q) w6).setCell (p:=⟨q,j*2,none⟩) (.inl rfl) _).setCell (p:=⟨q,j*2+1,none⟩) (.inl rfl) _
     have hOs:Own ws 65 2 q k k ((us.set (j*2) (.int .i64 (d1:Nat))).set (j*2+1) (.int .i64 (a1:Nat))):=by
      rw[←hws]
      exact ((HO6.out.stored (j*2) _).1.stored (j*2+1) _).1
     have HU2:=Bx.mk (hU.out.next (by have:=HUL.out; omega) HHT.out)
     have HOs:=Bx.mk hOs
     have HCs:Bx (Ch (fun b=>b=q) w5 ws):=⟨(HCQ.out.trans HC6'.out (fun _ _ h=>h.elim)).trans hCs (fun _ _ h=>h)⟩
     clear hws hCs hOs k0 k1 f0 f1
     go_wp2
     go_roundw
     case rel=>exact⟨j+1,_,by omega,by go_num,HOs.out,HU2,HCs.out⟩
     case measure=>simp[intOf]; omega
    ·obtain rfl:j=k:=by omega
     have dj:decide ((j:Int)<(j:Int))=false:=by simp
     have hH:=hup_hs hO hU.out (by rw[List.length_map]; exact HPL.out)
     rw[HEQ.out] at hH
     have HRES:=Bx.mk (hH.mono (G:=fun b=>w.heap.size≤b) (fun b (e:b=q)=>by have h1:=HQ.out; have h2:=HC4.out.size; have h3:=HC1.out.size; omega))
     have HCR:=Bx.mk (HC1.out.trans (HC6.out.trans hC (fun i hi (e:i=q)=>by have:=HQ.out; have:=HC4.out.size; omega)) (fun _ _ h=>h))
     clear hO hU hC hH
     go_wp2
     go_ret
     exact⟨_,_,_,rfl,HRES.out,HCR.out⟩
end
end
section
open Go.RowKit Go.Oct Go.Su
section
variable {F G:Nat→Prop} {b:Nat} {xss:List (List Int)}
theorem locate_any {w:World} (h:Ix w F b xss) (p:List Int) (B:Option Addr) (m d:Nat) (hp:Sl w G .u8 B m p) (hb:∀ x∈p,0≤x∧x<256) (hm:m≤1048576) :
  Calls Tryz.prog 28 #[.pointer (some ⟨b,0,none⟩), .slice B m d] w (LocOf xss p w):=by
 obtain⟨l,L,T,c,vb,vk,pb,ob,A,h⟩:=h
 refine locate_with p B m d w h ?_
 rcases m with _ | m
 ·obtain rfl:p=[]:=List.length_eq_zero_iff.1 hp.len
  refine (seek_none B d w).mono ?_
  rintro e w' ⟨rfl,rfl⟩
  exact⟨0,0,rfl,found_none xss L,Ch.refl _ _⟩
 ·have hne:p≠[]:=fun e=>by
   have:=hp.len
   rw[e] at this
   simp at this
  refine (seek_any p B (m+1) d w h hp hb hm (by omega)).mono ?_
  rintro e w' ⟨lo,hi,rfl,r,hC⟩
  exact⟨lo,hi,rfl,found_of h.byts.pos (fun b hb'=>(hb b hb').1) hne h.sa r,hC⟩
end
end
section
open Go.RowKit Go.Oct Go.Su
def lenOf (xss:List (List Int)) (d:Int):Nat:=if 0≤d∧d<xss.length then (xss.getD d.toNat []).length else 0
section
variable {F G:Nat→Prop} {b:Nat} {w:World} {xss:List (List Int)}
theorem docs_same (h:Ix w F b xss) (n:Nat) (hn:xss.length=n):Calls Tryz.prog 31 #[.pointer (some ⟨b,0,none⟩)] w fun e w'=>e = .returned (.int .i64 n)∧w=w':=by
 obtain⟨l,L,T,c,vb,vk,pb,ob,A,h⟩:=h
 have HB:=Bx.mk h.brd
 have HN:Bx ((brd (txt xss)).count true=n):=⟨by rw[brd_ones h.byts.pos,hn]⟩
 have c2:=h.c2
 clear h hn
 go_enter Tryz.func31,Tryz.ntmps31
 go_wp2_with (go_at_call 86; refine (vones_val vb n (brd (txt xss)) _ HB.out HN.out).mono ?_; rintro e w' ⟨rfl,rfl⟩)
 go_ret
 exact⟨rfl,rfl⟩
theorem len_val (h:Ix w F b xss) (d:Int) (k:Nat) (hk:lenOf xss d=k):Calls Tryz.prog 55 #[.pointer (some ⟨b,0,none⟩), .int .i64 d] w fun e w'=>e = .returned (.int .i64 k)∧Ch (fun _=>False) w w':=by
 have HI:=Bx.mk h
 obtain⟨n,hn⟩:∃ n,xss.length=n:=⟨_,rfl⟩
 have HN:=Bx.mk hn
 unfold lenOf at hk
 rw[hn] at hk
 by_cases h0:d<0
 ·have d0:decide (d<0)=true:=by simpa using h0
  rw[if_neg (by omega)] at hk
  subst hk
  clear h hn
  go_enter Tryz.func55,Tryz.ntmps55
  go_wp2
  go_ret
  exact⟨rfl,Ch.refl _ _⟩
 ·have d0:decide (d<0)=false:=by simpa using h0
  obtain⟨d,rfl⟩:∃ z:Nat,d=z:=⟨d.toNat,by omega⟩
  by_cases h1:d<n
  ·have d1:decide ((n:Int)≤(d:Int))=false:=by simp; omega
   have d2:decide (n≤d)=false:=by simp; omega
   rw[if_pos (by omega),Int.toNat_natCast] at hk
   obtain⟨l,L,T,c,vb,vk,pb,ob,A,h⟩:=h
   have hd:d<xss.length:=by omega
   have c2:=h.c2
   have hb:=beg_small xss hd
   have hsm:=h.small
   have HH:=Bx.mk h
   obtain⟨s,hs⟩:∃ s,beg xss d=s:=⟨_,rfl⟩
   have HS:=Bx.mk hs
   have HSEL:Bx (Go.Bi.sel (brd (txt xss)) true (d:Nat)=((s+k:Nat):Int)):=⟨by rw[brd_sel h.byts.pos hd,hs,hk]⟩
   rw[hs,hk] at hb
   have hsk:s+k≤65536:=by omega
   have hd6:d≤65536:=by omega
   clear h hn hk hs hb hsm
   go_enter Tryz.func55,Tryz.ntmps55
   go_wp2_with fail
   refine (docs_same HI.out n HN.out).mono ?_
   rintro e w' ⟨rfl,rfl⟩
   go_wp2_with fail
   refine (vsel_val vb (brd (txt xss)) true d ((s+k:Nat):Int) _ HH.out.brd HH.out.tab HSEL.out).mono ?_
   rintro e w2 ⟨rfl,hC2⟩
   have HH2:=Bx.mk (HH.out.keep hC2)
   have HC2:=Bx.mk hC2
   clear hC2
   go_wp2_with fail
   refine (start_any d s _ HH2.out hd HS.out).mono ?_
   rintro e w3 ⟨rfl,hC3⟩
   have HC3:=Bx.mk (HC2.out.trans hC3 (fun _ _ h=>h))
   clear hC3
   go_wp2
   go_ret
   exact⟨ret_int (by omega),HC3.out⟩
  ·have d1:decide ((n:Int)≤(d:Int))=true:=by simp; omega
   have d2:decide (n≤d)=true:=by simp; omega
   rw[if_neg (by omega)] at hk
   subst hk
   clear h hn
   go_enter Tryz.func55,Tryz.ntmps55
   go_wp2_with fail
   refine (docs_same HI.out n HN.out).mono ?_
   rintro e w' ⟨rfl,rfl⟩
   go_wp2
   go_ret
   exact⟨rfl,Ch.refl _ _⟩
def TurnedCap (xss:List (List Int)) (w:World) (e:Ending) (w':World):Prop:=∃ (A:Option Addr) (c n:Nat) (l:List Int),e = .returned (.slice A n c)∧n=(txt xss).length∧Sl w' (fun b=>w.heap.size≤b) .i64 A n l∧Turned (txt xss) l∧n≤c∧c≤maxLen∧Ch (fun _=>False) w w'
theorem turnedx_cap (h:Ix w F b xss):Calls Tryz.prog 102 #[.pointer (some ⟨b,0,none⟩)] w (TurnedCap xss w):=by
 obtain⟨l,L,T,c,vb,vk,pb,ob,A,h⟩:=h
 have hc:=W.tall_any T 9 (txt xss).length l w h.core.tr h.size
 have HT:=Bx.mk h.turned
 have HSM:=Bx.mk h.small
 have c0:=h.c0
 clear h
 go_enter Tryz.func102,Tryz.ntmps102
 go_wp2_with fail
 refine hc.mono ?_
 rintro e w2 ⟨g,rfl,hO,hg,hC⟩
 have HS:Bx (Sl w2 (fun k=>w.heap.size≤k) .i64 (some ⟨g,0,none⟩) (txt xss).length (asI l)):=⟨hO.sl.mono fun k _ (e:k=g)=>by omega⟩
 have HC:=Bx.mk hC
 clear hO hC hc
 go_wp2
 go_ret
 exact⟨_,_,_,_,rfl,rfl,HS.out,HT.out,Nat.le_refl _,by have:=HSM.out; unfold maxLen; omega,HC.out⟩
end
end
section
open Go.RowKit Go.Oct Go.Su
theorem elem8:Elem Tryz.prog 26 5 (.int .u8 0) 1:=⟨Tryz.underlying26,by kernel_rfl,rfl⟩
theorem mk8 (w:World) (n:Nat) (hn:n≤1048576):(Instr.makeSlice 26 (.int .i64 (n:Int)) (.int .i64 (n:Int))).run Tryz.prog w = .ok (.slice (some ⟨w.heap.size,0,none⟩) n n) (w.alloc (.cells (madeCells #[.int .u8 0] n) 5)):=run_mk2 elem8 n (by omega) (by omega) w
def dnB (e:List Int) (j:Nat):List Int:=List.replicate j 0++e.drop j
theorem dnB_start (e:List Int):dnB e e.length=List.replicate e.length 0:=by unfold dnB; simp
theorem dnB_all (e:List Int):dnB e 0=e:=by unfold dnB; simp
theorem dnB_next {e:List Int} {j:Nat} {x:Int} (h:e[j]? = some x):(dnB e (j+1)).set j x=dnB e j:=by
 obtain⟨h1,h2⟩:=List.getElem?_eq_some_iff.1 h
 unfold dnB
 rw[List.set_append_left _ _ (by simp),List.replicate_succ',List.set_append_right _ _ (by simp),List.length_replicate,Nat.sub_self,List.set_cons_zero,List.append_assoc,List.drop_eq_getElem_cons h1,h2]
 rfl
def ExtOf (xs:List Int) (w:World) (e:Ending) (w':World):Prop:=∃ (A:Option Addr) (c:Nat),e = .returned (.slice A xs.length c)∧Sl w' (fun k=>w.heap.size≤k) .u8 A xs.length xs∧xs.length≤c∧c≤maxLen∧Ch (fun _=>False) w w'∧w'.ownsRow 0 5 1 (.slice A xs.length c) xs.length (xs.map (Value.int .u8))∧∀ g,(Value.slice A xs.length c).ownBlock=some g→w.heap.size≤g
theorem extof_nil {w w':World} (hC:Ch (fun _=>False) w w'):ExtOf [] w (.returned (.slice none 0 0)) w':=⟨none,0,rfl,Vs.nil _ _ _,Nat.le_refl _,Nat.zero_le _,hC,World.ownsRow_nil _ _ _ _,fun g hg=>by simp[Value.ownBlock] at hg⟩
section
variable {F G:Nat→Prop} {b:Nat} {xss:List (List Int)}
theorem text_in {d:Nat} {f m:Nat} {t:List Int} (hd:d<xss.length) (ht:xss.getD d []=t) {j:Nat} (hj:j<m) (hf:f+m≤t.length):((t.drop f).take m)[j]? = some (gs t (f+j))∧gs (txt xss) (beg xss d+f+j)=gs t (f+j)+2:=by
 constructor
 ·rw[List.getElem?_take_of_lt hj,List.getElem?_drop,gs_some (by omega)]
 ·rw[Nat.add_assoc,txt_at hd (by rw[ht]; omega),ht]
theorem byts_get (h:Byts xss) {d:Nat} (hd:d<xss.length) {t:List Int} (ht:xss.getD d []=t) {a:Nat} (ha:a<t.length):0≤gs t a∧gs t a<256:=by
 have e:xss.getD d []=xss[d]:=by rw[List.getD_eq_getElem?_getD,List.getElem?_eq_getElem hd]; rfl
 rw[←ht,e] at ha ⊢
 exact h xss[d] (List.getElem_mem hd) _ (List.mem_of_getElem? (gs_some ha))
theorem extract_in {w:World} {l L:List Nat} {T c vb vk pb ob:Nat} {A:Option Addr} (h:Ix0 w F b xss l L T c vb vk pb ob A) (d f m n:Nat) (k:Int) (t:List Int) (hd:d<xss.length) (ht:xss.getD d []=t) (hn:t.length=n) (hf:f<n) (hk:0≤k) (hm:min k ((n:Int)-(f:Int))=(m:Int)) :
  Calls Tryz.prog 32 #[.pointer (some ⟨b,0,none⟩), .int .i64 d, .int .i64 f, .int .i64 k] w (ExtOf ((t.drop f).take m) w):=by
 have HH:=Bx.mk h
 have HI:Bx (Ix w F b xss):=⟨⟨l,L,T,c,vb,vk,pb,ob,A,h⟩⟩
 have hb:=beg_small xss hd
 rw[ht,hn] at hb
 have hsm:=h.small
 have hmn:f+m≤n:=by omega
 have HLV:Bx (lenOf xss (d:Nat)=n):=⟨by unfold lenOf; rw[if_pos (by omega),Int.toNat_natCast,ht,hn]⟩
 obtain⟨s,hs⟩:∃ s,beg xss d=s:=⟨_,rfl⟩
 have HS:=Bx.mk hs
 rw[hs] at hb
 have HEL:Bx (((t.drop f).take m).length=m):=⟨by rw[List.length_take,List.length_drop]; omega⟩
 have HGET:Bx (∀ j,j<m→((t.drop f).take m)[j]? = some (gs t (f+j))∧gs (txt xss) (s+f+j)=gs t (f+j)+2∧0≤gs t (f+j)∧gs t (f+j)<256):=⟨fun j hj=>by
  obtain⟨g1,g2⟩:=text_in hd ht hj (f:=f) (by omega)
  rw[hs] at g2
  exact⟨g1,g2,byts_get h.byts hd ht (by omega)⟩⟩
 generalize hE:(t.drop f).take m=E at *
 obtain⟨a0,ha0⟩:=h.sa.find (x:=s+f+m) (by omega)
 have HA0:=Bx.mk ha0
 have hs6:s+n≤65536:=by omega
 have hd6:d≤65536:=by omega
 have k0:decide (k<0)=false:=by simp; omega
 have f0:decide ((f:Int)<0)=false:=by simp
 have g0:decide ((n:Int)≤(f:Int))=false:=by simp; omega
 have g1:decide (n≤f)=false:=by simp; omega
 clear h hs hE ha0 hb hsm ht hn
 go_enter Tryz.func32,Tryz.ntmps32
 go_wp2_with fail
 refine (len_val HI.out d n HLV.out).mono ?_
 rintro e w1 ⟨rfl,hC1⟩
 have hmk:=mk8 w1 m (by omega)
 have hO0:=own_made1 w1 5 (.int .u8 0) m (by omega)
 have HC1:=Bx.mk hC1
 have HO0:=Bx.mk hO0
 clear hC1 hO0
 go_wp2_with fail
 have HC2:Bx (Ch (fun _=>False) w1 (w1.alloc (.cells (madeCells #[.int .u8 0] m) 5))):=⟨(Ch.refl (fun _=>False) w1).alloc _⟩
 obtain⟨g,hg⟩:∃ g,w1.heap.size=g:=⟨_,rfl⟩
 have HG:=Bx.mk hg
 have HO1:=HO0
 rw[hg] at HO1 ⊢
 clear HO0 hg hmk
 generalize w1.alloc (.cells (madeCells #[.int .u8 0] m) 5)=w2 at *
 have HC3:=Bx.mk (HC1.out.trans HC2.out (fun _ _ h=>h))
 have HH2:=Bx.mk (HH.out.keep HC3.out)
 refine (start_any d s _ HH2.out hd HS.out).mono ?_
 rintro e w3 ⟨rfl,hC3⟩
 have HC4:=Bx.mk (HC3.out.trans hC3 (fun _ _ h=>h))
 have HO3:=Bx.mk (HO1.out.keep hC3)
 have HH3:=Bx.mk (HH.out.keep HC4.out)
 have es:((s+f+m:Nat):Int)=(s:Int)+(f:Int)+(m:Int):=by omega
 clear hC3 HO1 HH2 HC2 HC3
 go_wp2_with fail
 rw[←es]
 refine (order_any (s+f+m) a0 _ HH3.out HA0.out).mono ?_
 rintro e w4 ⟨rfl,hC4⟩
 have HC5:=Bx.mk (HC4.out.trans hC4 (fun _ _ h=>h))
 have hO4:=HO3.out.keep hC4
 rw[show List.replicate m (Value.int .u8 0)=(dnB E m).map (Value.int .u8) by rw[←HEL.out,dnB_start,List.map_replicate]] at hO4
 have HO4:=Bx.mk hO4
 have hgw:w.heap.size≤g:=by have:=HG.out; have:=HC1.out.size; omega
 clear hC4 hO4 HO3 HH3 HC4
 go_wp2_with fail
 go_loopw [11,12,13] (fun av iv _ wr=>∃ j a:Nat,j≤m∧iv = .int .i64 ((j:Int)-1)∧av = .int .i64 a∧Bx (L[a]? = some (s+f+j))∧Own wr 5 1 g m m ((dnB E j).map (Value.int .u8))∧Ch (fun _=>False) w wr) (fun _ iv _ _=>(intOf iv+1).toNat)
 case atStart=>exact⟨m,a0,Nat.le_refl _,rfl,rfl,HA0,HO4.out,HC5.out⟩
 case round =>
  obtain⟨j,a,hj,rfl,rfl,ha,hO,hC⟩:=hrel
  rcases j with _ | j
  ·rw[dnB_all] at hO
   have HLG:Bx (∀ k,(Value.slice (some ⟨g,0,none⟩) E.length m).ownBlock=some k→w.heap.size≤k):=⟨fun k hk=>by
    have:g=k:=by simpa[Value.ownBlock] using hk
    omega⟩
   have HOW:Bx (wr.ownsRow 0 5 1 (.slice (some ⟨g,0,none⟩) E.length m) E.length (E.map (Value.int .u8))):=⟨by
    rw[HEL.out]
    exact hO.own⟩
   have HRES:Bx (Sl wr (fun k=>w.heap.size≤k) .u8 (some ⟨g,0,none⟩) E.length E):=⟨by
    rw[HEL.out]
    exact (Vs.of_own hO.own).mono fun k _ hk=>by
     have:g=k:=by simpa[Value.ownBlock] using hk
     omega⟩
   have HC:=Bx.mk hC
   have hEL:=HEL.out
   clear hO hC
   go_wp2
   go_ret
   exact⟨some ⟨g,0,none⟩,m,by rw[hEL]; rfl,HRES.out,by omega,by unfold maxLen; omega,HC.out,HOW.out,HLG.out⟩
  ·have ej:(((j+1:Nat):Int)-1)=(j:Int):=by omega
   rw[ej]
   obtain⟨x1,x2,x3,x4⟩:=HGET.out j (by omega)
   have HR:=Bx.mk (HH.out.keep hC)
   have ha':L[a]? = some ((s+f+j)+1):=ha.out
   have HSYM:=Bx.mk (HR.out.turned.symAt HR.out.sa ha')
   have HL:=Bx.mk (HR.out.turned.longer HR.out.sa ha')
   obtain⟨y,hy,hyg⟩:=sym_some (HR.out.lt ha').1
   have hye:(y:Int)-2=gs t (f+j):=by
    have:=HSYM.out
    omega
   have HY:=Bx.mk hy
   obtain⟨q,hq⟩:∃ q,lf (asI l) a=q:=⟨_,rfl⟩
   have HQ:=Bx.mk hq
   rw[hq] at HL
   have hst:=hO.stored j (.int .u8 (gs t (f+j)))
   have HN:=Bx.mk (dnB_next x1)
   have HC:=Bx.mk hC
   have HO:=Bx.mk hO
   have c0:=HR.out.c0
   have c1:=HR.out.c1
   generalize gs t (f+j)=z at *
   have i1:(j:Int)<(m:Int):=by omega
   have i0:(0:Int)≤(j:Int):=by omega
   have hy6:y≤257:=by omega
   have hw8:IntKind.u8.wrap ((y:Int)-2)=z:=by rw[hye,IntKind.wrap_u8]; omega
   clear hst hO hC hy hyg x1 x2 ha' ha hq HSYM
   go_wp2_with fail
   refine (ahead_any T c a y q A l _ HR.out.core HY.out HQ.out).mono ?_
   rintro e w5 ⟨rfl,hC5⟩
   have hO5:=HO.out.keep hC5
   have hul:=hO5.len
   rw[Nat.mul_one] at hul
   have hcell:w5.cell? ⟨g,j,none⟩=some (((dnB E (j+1)).map (Value.int .u8)).getD j (.bool false)):=hO5.cellAt (by rw[List.getD_eq_getElem?_getD,List.getElem?_eq_getElem (by omega)]; rfl)
   generalize ((dnB E (j+1)).map (Value.int .u8)).getD j (.bool false)=old at *
   have hfz:=hO5.frozenAt j
   have hst:=hO5.stored j (.int .u8 z)
   rw[←List.map_set,HN.out] at hst
   have HST:=Bx.mk hst
   have HC6:=Bx.mk (HC.out.trans hC5 (fun _ _ h=>h))
   clear hst hO5 hC5 hul
   go_wp2
   go_roundw
   case rel=>exact⟨j,q,by omega,rfl,rfl,HL,HST.out.1,HC6.out.trans HST.out.2 (fun i hi (e:i=g)=>by have:=HG.out; have:=HC1.out.size; omega)⟩
   case measure=>simp[intOf]
theorem extract_any {w:World} (h:Ix w F b xss) (d f k:Int) :
  Calls Tryz.prog 32 #[.pointer (some ⟨b,0,none⟩), .int .i64 d, .int .i64 f, .int .i64 k] w (ExtOf (ext xss d f k) w):=by
 obtain⟨n,hn⟩:∃ n,lenOf xss d=n:=⟨_,rfl⟩
 by_cases hin:0≤f∧0≤k∧f<n
 ·obtain⟨f,rfl⟩:∃ z:Nat,f=z:=⟨f.toNat,by omega⟩
  have hd:0≤d∧d<xss.length:=by
   refine Decidable.byContradiction fun g=>?_
   unfold lenOf at hn
   rw[if_neg g] at hn
   omega
  obtain⟨d,rfl⟩:∃ z:Nat,d=z:=⟨d.toNat,by omega⟩
  obtain⟨t,ht⟩:∃ t,xss.getD d []=t:=⟨_,rfl⟩
  have hnt:t.length=n:=by
   unfold lenOf at hn
   rw[if_pos hd,Int.toNat_natCast,ht] at hn
   exact hn
  obtain⟨m,hm⟩:∃ m:Nat,min k ((n:Int)-(f:Int))=(m:Int):=⟨(min k ((n:Int)-(f:Int))).toNat,by omega⟩
  obtain⟨l,L,T,c,vb,vk,pb,ob,A,h⟩:=h
  have e:ext xss d f k=(t.drop f).take m:=by
   unfold ext
   rw[Int.toNat_natCast,ht,if_neg (by omega),Int.toNat_natCast]
   rcases Nat.le_total k.toNat (n-f) with g | g
   ·rw[show k.toNat=m by omega]
   ·rw[List.take_of_length_le (by rw[List.length_drop]; omega),List.take_of_length_le (by rw[List.length_drop]; omega)]
  rw[e]
  exact extract_in h d f m n k t (by omega) ht hnt (by omega) hin.2.1 hm
 ·have e:ext xss d f k=[]:=by
   unfold ext
   by_cases g:d<0∨(xss.length:Int)≤d∨f<0∨k<0∨((xss.getD d.toNat []).length:Int)<f
   ·rw[if_pos g]
   ·rw[if_neg g]
    unfold lenOf at hn
    rw[if_pos (by omega)] at hn
    rw[List.drop_of_length_le (by omega)]
    simp
  have hb:lenOf xss d≤65536:=by
   have hsm:=h.small
   unfold lenOf
   split
   ·have:=(beg_small xss (d:=d.toNat) (by omega)).1
    omega
   ·omega
  have hn6:n≤65536:=by omega
  have HL:=Bx.mk hn
  have HI:=Bx.mk h
  rw[e]
  clear h hn hb e
  by_cases f0:f<0
  ·have d1:decide (f<0)=true:=by simpa using f0
   go_enter Tryz.func32,Tryz.ntmps32
   go_wp2_with fail
   refine (len_val HI.out d n HL.out).mono ?_
   rintro e w1 ⟨rfl,hC1⟩
   have HC1:=Bx.mk hC1
   clear hC1
   go_wp2
   go_ret
   exact extof_nil HC1.out
  ·have d1:decide (f<0)=false:=by simpa using f0
   by_cases k0:k<0
   ·have d2:decide (k<0)=true:=by simpa using k0
    go_enter Tryz.func32,Tryz.ntmps32
    go_wp2_with fail
    refine (len_val HI.out d n HL.out).mono ?_
    rintro e w1 ⟨rfl,hC1⟩
    have HC1:=Bx.mk hC1
    clear hC1
    go_wp2
    go_ret
    exact extof_nil HC1.out
   ·have d2:decide (k<0)=false:=by simpa using k0
    have d3:decide ((n:Int)≤f)=true:=by simp; omega
    go_enter Tryz.func32,Tryz.ntmps32
    go_wp2_with fail
    refine (len_val HI.out d n HL.out).mono ?_
    rintro e w1 ⟨rfl,hC1⟩
    have HC1:=Bx.mk hC1
    clear hC1
    go_wp2
    go_ret
    exact extof_nil HC1.out
end
end
section
open Go.RowKit Go.Oct Go.Su
theorem mk64 (w:World) (n:Nat) (hn:n≤1048576):(Instr.makeSlice 172 (.int .i64 (n:Int)) (.int .i64 (n:Int))).run Tryz.prog w = .ok (.slice (some ⟨w.heap.size,0,none⟩) n n) (w.alloc (.cells (madeCells #[.int .u64 0] n) 163)):=K.run_mk2 K.elem64 n (by omega) (by omega) w
theorem mkO (w:World) (n:Nat) (hn:n≤1048576):(Instr.makeSlice 196 (.int .i64 (n:Int)) (.int .i64 (n:Int))).run Tryz.prog w = .ok (.slice (some ⟨w.heap.size,0,none⟩) n n) (w.alloc (.cells (madeCells #[.bool false] n) 4)):=W.mkB w n hn
def Wrote (l L:List Nat) (b:Nat) (u0 u1 u2:Value) (w:World) (e:Ending) (w':World):Prop:=e = .returned (.tuple #[])∧∃ vk pb ob:Nat,Own w' 129 6 b 1 1 [u0,u1,u2, .pointer (some ⟨vk,0,none⟩), .pointer (some ⟨pb,0,none⟩), .pointer (some ⟨ob,0,none⟩)]∧W.Vec w' (fun k=>w.heap.size≤k) vk (knw L)∧Arr w' (fun k=>w.heap.size≤k) pb (plcs L)∧Arr w' (fun k=>w.heap.size≤k) ob (ords (asI l))∧Ch (fun k=>k=b) w w'
theorem two_words (w:World) (m:Nat) (hm:m≤1048576):K.Ow ((w.alloc (.cells (madeCells #[.int .u64 0] m) 163)).alloc (.cells (madeCells #[.int .u64 0] m) 163)).drew w.heap.size m (List.replicate m 0)∧K.Ow ((w.alloc (.cells (madeCells #[.int .u64 0] m) 163)).alloc (.cells (madeCells #[.int .u64 0] m) 163)).drew (w.heap.size+1) m (List.replicate m 0)∧Ch (fun _=>False) w ((w.alloc (.cells (madeCells #[.int .u64 0] m) 163)).alloc (.cells (madeCells #[.int .u64 0] m) 163)).drew:=by
 refine⟨(K.ow_made w m hm).keep (((Ch.refl _ _).alloc _).drew),?_,(((Ch.refl _ _).alloc _).alloc _).drew⟩
 have h:=K.ow_made (w.alloc (.cells (madeCells #[.int .u64 0] m) 163)) m hm
 rw[World.size_alloc] at h
 exact h.keep ((Ch.refl _ _).drew)
theorem pack_val {F:Nat→Prop} (l:List Nat) (A:Option Addr) (n c:Nat) (w:World) (hs:K.Sn w F A l) (hn:l.length=n) (hm:n≤1048576) (hc:n≤c) (h64:∀ x∈l,x<18446744073709551616) :
  Calls Tryz.prog 215 #[.slice A n c] w fun e w'=>∃ pb:Nat,e = .returned (.pointer (some ⟨pb,0,none⟩))∧Arr w' (fun k=>w.heap.size≤k) pb l∧Ch (fun _=>False) w w':=by
 subst hn
 refine (K.pack_any l A c w F hs hm hc h64).mono ?_
 rintro e w' ⟨rfl,⟨ws,h1,h2⟩,hC⟩
 exact⟨_,rfl,⟨_,_,ws,h1,h2,by omega,Nat.le_refl _⟩,hC⟩
theorem bool_cell {w:World} {g n c:Nat} {l:List Bool} (h:Own w 4 1 g n c (l.map Value.bool)) {j:Nat} (hj:j<l.length):∃ o:Bool,w.cell? ⟨g,j,none⟩=some (.bool o):=⟨l[j],h.cellAt (by rw[List.getElem?_map,List.getElem?_eq_getElem hj]; rfl)⟩
theorem way_lt {s:List Int} {l L:List Nat} {n q:Nat} (ht:Turned s (asI l)) (hL:IsSA s L) (hn:l.length=n) (hq:q<n):L[way (asI l) (n-1-q)]? = some q∧way (asI l) (n-1-q)<n:=by
 have h1:=ht.len
 rw[asI_len,hn] at h1
 have h2:=way_at ht hL (x:=q) (by omega)
 rw[asI_len,hn] at h2
 obtain⟨h3,_⟩:=List.getElem?_eq_some_iff.1 h2
 have h4:=hL.len
 exact⟨h2,by omega⟩
section
variable {F:Nat→Prop} {s:List Int} {l L:List Nat} {T c b:Nat} {A:Option Addr}
theorem write_any (n:Nat) (u2 u3 u4 u5:Value) (w:World) (hc:Core w F T A c l) (ht:Turned s (asI l)) (hL:IsSA s L) (hn:l.length=n) (h6:n≤65536)
  (hO:Own w 129 6 b 1 1 [.pointer (some ⟨T,0,none⟩), .slice A 513 c,u2,u3,u4,u5]) :
  Calls Tryz.prog 162 #[.pointer (some ⟨b,0,none⟩)] w (Wrote l L b (.pointer (some ⟨T,0,none⟩)) (.slice A 513 c) u2 w):=by
 have c0:=hO.cellAt (j:=0) rfl
 have HCO:=Bx.mk hc
 have HT:=Bx.mk ht
 have HL:=Bx.mk hL
 have HN:=Bx.mk hn
 have HO:=Bx.mk hO
 obtain⟨m,hm⟩:∃ m,smp n=m:=⟨_,rfl⟩
 have HM:=Bx.mk hm
 have hm8:m≤8192:=by unfold smp at hm; omega
 have hdiv:((n:Int)+8-1)/8=(m:Int):=by unfold smp at hm; omega
 have hmk1:=mk64 w.drew m (by omega)
 have hmk2:=mk64 (w.alloc (.cells (madeCells #[.int .u64 0] m) 163)).drew m (by omega)
 clear hc ht hL hn hm hO
 go_enter Tryz.func162,Tryz.ntmps162
 go_wp2_with fail
 refine (W.tlen_any T 9 n l _ HCO.out.tr HN.out).mono ?_
 rintro e w' ⟨rfl,rfl⟩
 go_upto_region 2 with fail
 rw[hdiv]
 go_cut [4,5] from 21 to 24 (fun s4 s5 wx=>∃ g1 g2:Nat,s4 = .slice (some ⟨g1,0,none⟩) m m∧s5 = .slice (some ⟨g2,0,none⟩) m m∧Bx (K.Ow wx g1 m (List.replicate m 0)∧K.Ow wx g2 m (List.replicate m 0)∧w.heap.size≤g1∧w.heap.size≤g2∧g1≠g2∧Ch (fun _=>False) w wx))
 case first =>
  go_region
  all_goals
   go_wp2_with fail
   go_meet
   have h2:=two_words w m (by omega)
   first | exact⟨_,_,rfl,rfl,⟨h2.1,h2.2.1,Nat.le_refl _,by omega,by omega,h2.2.2⟩⟩ | exact⟨_,_,rfl,rfl,⟨h2.2.1,h2.1,by omega,Nat.le_refl _,by omega,h2.2.2⟩⟩
 case rest =>
  obtain⟨g1,g2,rfl,rfl,hG⟩:=hcut
  clear hmk1 hmk2
  have hg1:=hG.out.2.2.1
  have hg2:=hG.out.2.2.2.1
  have hg12:=hG.out.2.2.2.2.1
  have HC2:=Bx.mk hG.out.2.2.2.2.2
  have HB:Bx (b<w.heap.size):=⟨HO.out.lt⟩
  have hbw:=HB.out
  obtain⟨w2,hw2⟩:∃ w2:World,w2=wc:=⟨_,rfl⟩
  have hmk:=mkO wc n (by omega)
  have hown:=own_made1 wc 4 (.bool false) n (by omega)
  go_wp2_with fail
  obtain⟨g3,hg3⟩:∃ g3,wc.heap.size=g3:=⟨_,rfl⟩
  have HK0:Bx (Own (wc.alloc (.cells (madeCells #[.bool false] n) 4)) 4 1 g3 n n ((upK L n).map Value.bool)):=⟨by
   have e:=upK_start HL.out
   rw[show s.length=n by rw[←HT.out.len,asI_len,HN.out]] at e
   rw[e,List.map_replicate,←hg3]
   exact hown⟩
  have hC3:Ch (fun _=>False) wc (wc.alloc (.cells (madeCells #[.bool false] n) 4)):=(Ch.refl (fun _=>False) wc).alloc _
  have HOA:Bx (K.Ow (wc.alloc (.cells (madeCells #[.bool false] n) 4)) g1 m (upO (asI l) n)):=⟨by
   have e:=upO_start (asI l)
   rw[asI_len,HN.out,HM.out] at e
   rw[e]
   exact hG.out.1.keep hC3⟩
  have HPA:Bx (K.Ow (wc.alloc (.cells (madeCells #[.bool false] n) 4)) g2 m (List.replicate m 0)):=⟨hG.out.2.1.keep hC3⟩
  have hl1:=hG.out.1.lt
  have hl2:=hG.out.2.1.lt
  have hg31:g1≠g3:=by omega
  have hg32:g2≠g3:=by omega
  have hg3w:w.heap.size≤g3:=by have:=HC2.out.size; omega
  have HC3:=Bx.mk (HC2.out.trans hC3 (fun _ _ h=>h))
  rw[hg3]
  clear hmk hown hC3 hG hl1 hl2 hg3 hw2 HC2
  generalize wc.alloc (.cells (madeCells #[.bool false] n) 4)=w3 at *
  have HWAY:Bx (∀ q,q<n→L[way (asI l) (n-1-q)]? = some q∧way (asI l) (n-1-q)<n):=⟨fun q hq=>way_lt HT.out HL.out HN.out hq⟩
  go_loopw [7,8] (fun av iv wr=>∃ p:Nat,p≤n∧iv = .int .i64 ((p:Int)-1)∧av = .int .i64 (way (asI l) (n-p):Nat)∧K.Ow wr g1 m (upO (asI l) p)∧K.Ow wr g2 m (List.replicate m 0)∧Own wr 4 1 g3 n n ((upK L p).map Value.bool)∧Ch (fun _=>False) w wr) (fun _ iv _=>(intOf iv+1).toNat)
  case atStart=>exact⟨n,Nat.le_refl _,rfl,by rw[Nat.sub_self]; rfl,HOA.out,HPA.out,HK0.out,HC3.out⟩
  case round =>
   obtain⟨p,hp,rfl,rfl,hOA,hPA,hK,hC⟩:=hrel
   rcases p with _ | q
   ·have HK:Bx (Own wr 4 1 g3 n n ((knw L).map Value.bool)):=⟨by rw[←upK_all]; exact hK⟩
    have HOA:Bx (K.Ow wr g1 m (ords (asI l))):=⟨by rw[←upO_all]; exact hOA⟩
    have HPA:=Bx.mk hPA
    have HC:=Bx.mk hC
    have hLn:L.length=n:=by rw[HL.out.len,←HT.out.len,asI_len,HN.out]
    have hof:=W.of_any (knw L) (some ⟨g3,0,none⟩) n n wr (fun b=>b=g3) HK.out.vs (by omega) (Nat.le_refl _) (by omega)
    clear hOA hPA hK hC hLn
    go_wp2_with fail
    refine hof.mono ?_
    rintro e w4 ⟨vk,rfl,hV,hC4⟩
    have hC5:=HC.out.trans hC4 (fun _ _ h=>h)
    have hO5:=HO.out.keep hC5
    have k3:=hO5.cellAt (j:=3) rfl
    have f3:=hO5.frozenAt 3
    have hst:=hO5.stored 3 (.pointer (some ⟨vk,0,none⟩))
    obtain⟨w5,hw5⟩:∃ w5:World,w4.setCell ⟨b,3,none⟩ (.pointer (some ⟨vk,0,none⟩))=w5:=⟨_,rfl⟩
    rw[hw5] at hst
    have HW5:=Bx.mk hw5
    have HOB:Bx (Own w5 129 6 b 1 1 [.pointer (some ⟨T,0,none⟩), .slice A 513 c,u2, .pointer (some ⟨vk,0,none⟩),u4,u5]):=⟨hst.1⟩
    have HV5:Bx (W.Vec w5 (fun k=>w.heap.size≤k∧k≠g2) vk (knw L)):=⟨(hV.mono (G:=fun k=>w.heap.size≤k∧k≠g2) (fun k _ (h:wr.heap.size≤k)=>by have h1:=HC.out.size; have h2:=HPA.out.lt; exact⟨by omega,by omega⟩)).ch hst.2 (fun k (hk:w.heap.size≤k∧k≠g2) _ (e:k=b)=>by omega)⟩
    have HC5:Bx (Ch (fun k=>k=b) w w5):=⟨(hC5.mono (fun _ _ h=>h.elim)).trans hst.2 (fun _ _ h=>h)⟩
    have HOA5:=Bx.mk ((HOA.out.keep hC4).ch hst.2 (fun (e:g1=b)=>by omega))
    have HPA5:=Bx.mk ((HPA.out.keep hC4).ch hst.2 (fun (e:g2=b)=>by omega))
    have HPL:Bx ((plcs L).length=m):=⟨by rw[plcs_len HL.out,←HT.out.len,asI_len,HN.out,HM.out]⟩
    have HOL:Bx ((ords (asI l)).length=m):=⟨by rw[ords_len,asI_len,HN.out,HM.out]⟩
    clear hV hC4 hC5 hO5 hst hw5 hof HK HOA HPA HC
    go_wp2_with fail
    rw[HW5.out]
    have HPU:Bx (K.Ow w5 g2 m (upP L 0)):=⟨by rw[upP_start,HPL.out]; exact HPA5.out⟩
    clear HPA5
    go_loopw [9,10,61] (fun _ _ iv wr=>∃ k:Nat,k≤m∧iv = .int .i64 k∧K.Ow wr g2 m (upP L k)∧Ch (fun x=>x=g2) w5 wr) (fun _ _ iv _=>m-(intOf iv).toNat)
    case atStart=>exact⟨0,Nat.zero_le _,rfl,HPU.out,Ch.refl _ _⟩
    case round =>
     obtain⟨k,hk,rfl,hP,hC⟩:=hrel
     have hO6:=HOB.out.ch hC (fun (e:b=g2)=>by omega)
     have HA6:=Bx.mk (HOA5.out.ch hC (fun (e:g1=g2)=>hg12 e))
     have HV6:=Bx.mk (HV5.out.ch hC (fun x (hx:w.heap.size≤x∧x≠g2) _ (e:x=g2)=>hx.2 e))
     by_cases hlt:k<m
     ·have h8k:8*k<n:=smp_lt (by rw[HM.out]; exact hlt)
      obtain⟨hj,hjn⟩:=HWAY.out (8*k) h8k
      have hx:(ords (asI l))[k]? = some (way (asI l) (n-1-8*k)):=by rw[ords_get (by rw[asI_len,HN.out,HM.out]; exact hlt),asI_len,HN.out]
      have hr:=plcs_at hj (by omega)
      rw[show 8*k/8=k by omega] at hr
      generalize way (asI l) (n-1-8*k)=j at *
      obtain⟨r,hrr⟩:∃ r:Nat,Go.Bi.rk (knw L) true j=r:=⟨_,rfl⟩
      rw[hrr] at hr
      have HRK:Bx (((Go.Bi.rk (knw L) true (j:Nat):Nat):Int)=(r:Nat)):=⟨by rw[hrr]⟩
      obtain⟨hrm,_⟩:=List.getElem?_eq_some_iff.1 hr
      rw[HPL.out] at hrm
      have cx:=HA6.out.cellAt (j:=k) (by rw[HOL.out]; exact hlt)
      rw[show (ords (asI l)).getD k 0=j by rw[List.getD_eq_getElem?_getD,hx]; rfl] at cx
      have cp:=hP.cellAt (j:=r) (by rw[upP_len,HPL.out]; exact hrm)
      have fp:=hP.frozenAt r
      have hst:=hP.stored r k
      rw[upP_next HL.out hr] at hst
      have k3:=hO6.cellAt (j:=3) rfl
      have HST:=Bx.mk hst
      have HC:=Bx.mk hC
      generalize (upP L k).getD r 0=old at *
      have i1:(k:Int)<(m:Int):=by omega
      have i2:(r:Int)<(m:Int):=by omega
      have hj6:j≤65536:=by omega
      clear hP hC hO6 hj hx hr hrr hst
      go_wp2_with fail
      refine (vrank_val vk (knw L) true j r _ HV6.out HRK.out).mono ?_
      rintro e w' ⟨rfl,rfl⟩
      go_wp2
      go_roundw
      case rel=>exact⟨k+1,by omega,by go_num,HST.out.1,HC.out.trans HST.out.2 (fun _ _ h=>h)⟩
      case measure=>simp[intOf]; omega
     ·obtain rfl:k=m:=by omega
      have eall:upP L k=plcs L:=by
       have:=upP_all HL.out
       rwa[←HT.out.len,asI_len,HN.out,HM.out] at this
      rw[eall] at hP
      have HSN:=Bx.mk hP.sn
      have HC:=Bx.mk hC
      have HPT:Bx (∀ x∈plcs L,x<18446744073709551616):=⟨fun x hx=>by
       have h1:=plcs_lt HL.out x hx
       rw[←HT.out.len,asI_len,HN.out,HM.out] at h1
       omega⟩
      have HOT:Bx (∀ x∈ords (asI l),x<18446744073709551616):=⟨fun x hx=>by
       unfold ords at hx
       obtain⟨i,hi,rfl⟩:=List.mem_map.1 hx
       rw[asI_len,HN.out] at hi ⊢
       have:=(HWAY.out (8*i) (smp_lt (List.mem_range.1 hi))).2
       omega⟩
      have HO6:=Bx.mk hO6
      clear hP hC hO6 eall
      go_wp2_with fail
      refine (pack_val (plcs L) (some ⟨g2,0,none⟩) k k _ HSN.out HPL.out (by omega) (Nat.le_refl _) HPT.out).mono ?_
      rintro e w7 ⟨pb,rfl,hpb,hC7⟩
      have HA7:=Bx.mk (HA6.out.keep hC7)
      have HPB:=Bx.mk hpb
      have HC7:=Bx.mk hC7
      clear hpb hC7
      go_wp2_with fail
      refine (pack_val (ords (asI l)) (some ⟨g1,0,none⟩) k k _ HA7.out.sn HOL.out (by omega) (Nat.le_refl _) HOT.out).mono ?_
      rintro e w8 ⟨ob,rfl,hob,hC8⟩
      have hC9:=HC7.out.trans hC8 (fun _ _ h=>h)
      have hO9:=HO6.out.keep hC9
      have k4:=hO9.cellAt (j:=4) rfl
      have f4:=hO9.frozenAt 4
      have hs4:=hO9.stored 4 (.pointer (some ⟨pb,0,none⟩))
      have k5:=hs4.1.cellAt (j:=5) rfl
      have f5:=hs4.1.frozenAt 5
      have hs5:=hs4.1.stored 5 (.pointer (some ⟨ob,0,none⟩))
      have hcb:=hs4.2.trans hs5.2 (fun _ _ h=>h)
      have hsz5:w.heap.size≤w5.heap.size:=HC5.out.size
      have hszr:w.heap.size≤wr.heap.size:=by have:=HC.out.size; omega
      have hsz7:w.heap.size≤w7.heap.size:=by have:=HC7.out.size; omega
      obtain⟨w9,hw9⟩:∃ w9:World,(w8.setCell ⟨b,4,none⟩ (.pointer (some ⟨pb,0,none⟩))).setCell ⟨b,5,none⟩ (.pointer (some ⟨ob,0,none⟩))=w9:=⟨_,rfl⟩
      rw[hw9] at hs5 hcb
      have HW9:=Bx.mk hw9
      have HRES:Bx (Wrote l L b (.pointer (some ⟨T,0,none⟩)) (.slice A 513 c) u2 w (.returned (.tuple #[])) w9):=⟨rfl,vk,pb,ob,hs5.1,((HV6.out.keep hC9).ch hcb (fun x (hx:w.heap.size≤x∧x≠g2) _ (e:x=b)=>by omega)).mono (fun x _ hx=>hx.1),(((HPB.out.ch hC8 (fun _ _ _ h=>h)).ch hcb (fun x (hx:wr.heap.size≤x) _ (e:x=b)=>by omega)).mono (fun x _ (hx:wr.heap.size≤x)=>by omega)),((hob.ch hcb (fun x (hx:w7.heap.size≤x) _ (e:x=b)=>by omega)).mono (fun x _ (hx:w7.heap.size≤x)=>by omega)),((HC5.out.trans HC.out (fun x hx (e:x=g2)=>by omega)).trans hC9 (fun _ _ h=>h.elim)).trans hcb (fun _ _ h=>h)⟩
      clear hob hC8 hC9 hO9 hs4 hs5 hcb hw9
      go_wp2_with fail
      rw[HW9.out]
      go_returns
      exact HRES.out
   ·have ej:(((q+1:Nat):Int)-1)=(q:Int):=by omega
    rw[ej]
    obtain⟨ha,haln⟩:=HWAY.out q (by omega)
    have en1:n-(q+1)=n-1-q:=by omega
    have en2:way (asI l) (n-q)=lf (asI l) (way (asI l) (n-1-q)):=by
     rw[show n-q=(n-1-q)+1 by omega]
     rfl
    have HNX:=Bx.mk en2
    rw[en1]
    obtain⟨y,hy,_⟩:=sym_some (l:=l) (a:=way (asI l) (n-1-q)) (by rw[HN.out]; exact haln)
    have HY:=Bx.mk hy
    have HA:=Bx.mk ha
    obtain⟨z,hz⟩:∃ z,lf (asI l) (way (asI l) (n-1-q))=z:=⟨_,rfl⟩
    have HZ:=Bx.mk hz
    rw[hz] at HNX
    have HOY:=Bx.mk fun h8=>(by have:=upO_yes (l:=asI l) (p:=q) (by rw[asI_len,HN.out]; omega) h8; rwa[asI_len,HN.out] at this:(upO (asI l) (q+1)).set (q/8) (way (asI l) (n-1-q))=upO (asI l) q)
    have HON:=Bx.mk fun h8=>upO_no (l:=asI l) (p:=q) h8
    have HKY:=Bx.mk fun h8=>upK_yes HL.out ha h8
    have HKN:=Bx.mk fun h8=>upK_no (L:=L) (p:=q) h8
    generalize way (asI l) (n-1-q)=a at *
    have i0:(0:Int)≤(q:Int):=by omega
    have ia:(a:Int)<(n:Int):=by omega
    clear ej en1 en2 hy ha hz
    by_cases h8:q%8=0
    ·have hq8:q/8<m:=by have:=lt_smp (show q<n by omega) h8; rw[HM.out] at this; exact this
     have r1:(q:Int)%8=0:=by omega
     have r2:(q:Int)/8=((q/8:Nat):Int):=by omega
     have hul:=upO_len (asI l) (q+1)
     rw[asI_len,HN.out,HM.out] at hul
     have hkl:=upK_len L (q+1)
     have hLn:L.length=n:=by rw[HL.out.len,←HT.out.len,asI_len,HN.out]
     have ca:=hOA.cellAt (j:=q/8) (by omega)
     have fa:=hOA.frozenAt (q/8)
     obtain⟨o,ck⟩:=bool_cell hK (j:=a) (by omega)
     have fk:=hK.frozenAt a
     have HK:=Bx.mk hK
     have HOA:=Bx.mk hOA
     have HPA:=Bx.mk hPA
     have HC:=Bx.mk hC
     have HOY8:=Bx.mk (HOY.out h8)
     have HKY8:=Bx.mk (HKY.out h8)
     generalize (upO (asI l) (q+1)).getD (q/8) 0=old at *
     generalize hqq:q/8=q8 at *
     have i1:(q8:Int)<(m:Int):=by omega
     clear hOA hPA hK hC HOY HON HKY HKN hul hkl hLn
     have hS1:=(HOA.out.stored q8 a)
     rw[HOY8.out] at hS1
     have hw5:∃ w5:World,(wr.setCell ⟨g1,q8,none⟩ (.int .u64 (a:Nat))).setCell ⟨g3,a,none⟩ (.bool true)=w5:=⟨_,rfl⟩
     obtain⟨w5,hw5⟩:=hw5
     have hK5:=((HK.out.ch hS1.2 (fun (e:g3=g1)=>hg31 e.symm)).stored a (.bool true))
     rw[hw5,←List.map_set,HKY8.out] at hK5
     have hC5:Ch (fun _=>False) w w5:=(HC.out.trans hS1.2 (fun i hi (e:i=g1)=>by omega)).trans hK5.2 (fun i hi (e:i=g3)=>by omega)
     have hO5:=HO.out.keep hC5
     have d0:=hO5.cellAt (j:=0) rfl
     have d1:=hO5.cellAt (j:=1) rfl
     rw[←hw5] at d0 d1
     have HOA5:=Bx.mk (hS1.1.ch hK5.2 (fun (e:g1=g3)=>hg31 e))
     have HPA5:=Bx.mk ((HPA.out.ch hS1.2 (fun (e:g2=g1)=>hg12 e.symm)).ch hK5.2 (fun (e:g2=g3)=>hg32 e))
     have HK5:=Bx.mk hK5.1
     have HC5:=Bx.mk hC5
     have HCO5:=Bx.mk (HCO.out.keep hC5)
     have HW5:=Bx.mk hw5
     clear hS1 hK5 hC5 hO5 hw5
     go_wp2_with fail
     rw[HW5.out]
     refine (ahead_any T c a y z A l _ HCO5.out HY.out HZ.out).mono ?_
     rintro e w6 ⟨rfl,hC6⟩
     have HC6:=Bx.mk (HC5.out.trans hC6 (fun _ _ h=>h))
     have HOA6:=Bx.mk (HOA5.out.keep hC6)
     have HPA6:=Bx.mk (HPA5.out.keep hC6)
     have HK6:=Bx.mk (HK5.out.keep hC6)
     clear hC6 d0 d1 ca fa ck fk
     go_wp2
     go_roundw
     case rel=>exact⟨q,by omega,rfl,by rw[HNX.out],HOA6.out,HPA6.out,HK6.out,HC6.out⟩
     case measure=>simp[intOf]
    ·have r1:((q:Int)%8==0)=false:=by simp; omega
     have r2:¬ (q:Int)%8=0:=by omega
     have HO5:=Bx.mk (HO.out.keep hC)
     have d0:=HO5.out.cellAt (j:=0) rfl
     have d1:=HO5.out.cellAt (j:=1) rfl
     have HK:=Bx.mk hK
     have HOA:=Bx.mk hOA
     have HPA:=Bx.mk hPA
     have HC:=Bx.mk hC
     have HON8:=Bx.mk (HON.out h8)
     have HKN8:=Bx.mk (HKN.out h8)
     have HCO5:=Bx.mk (HCO.out.keep hC)
     clear hOA hPA hK hC HOY HON HKY HKN
     go_wp2_with fail
     refine (ahead_any T c a y z A l _ HCO5.out HY.out HZ.out).mono ?_
     rintro e w6 ⟨rfl,hC6⟩
     have HC6:=Bx.mk (HC.out.trans hC6 (fun _ _ h=>h))
     have HOA6:=Bx.mk (HOA.out.keep hC6)
     have HPA6:=Bx.mk (HPA.out.keep hC6)
     have HK6:=Bx.mk (HK.out.keep hC6)
     rw[HON8.out] at HOA6
     rw[HKN8.out] at HK6
     clear hC6 d0 d1
     go_wp2
     go_roundw
     case rel=>exact⟨q,by omega,rfl,by rw[HNX.out],HOA6.out,HPA6.out,HK6.out,HC6.out⟩
     case measure=>simp[intOf]
end
end
end Go.Proofs.YtambgjpfoceieaaGreatDoor.X
