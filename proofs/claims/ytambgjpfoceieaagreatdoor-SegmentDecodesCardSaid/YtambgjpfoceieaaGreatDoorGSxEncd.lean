/- Lemmas and contracts of this proof. Conditions: said at each. -/
import Derived.Test.YtambgjpfoceieaaGreatDoorFxFrom
import Derived.Test.YtambgjpfoceieaaGreatDoorGSxKeys
import Derived.Test.YtambgjpfoceieaaGreatDoorSxSorted
import Derived.Test.YtambgjpfoceieaaGreatDoorSxTake
set_option maxHeartbeats 8000000
set_option maxRecDepth 100000
namespace Go.Proofs.YtambgjpfoceieaaGreatDoor
section
open Go.RowKit Go.Oct Go.Su Go.Sg
def EncOk (ds:List Dc) (gs:List Key):Prop:=Srt (ks ds)∧Srt gs∧ArgOk ds gs∧¬ Big ds
theorem encok_seg {ds:List Dc} {gs:List Key} (h:EncOk ds gs) (hb:∀ d∈ds,∀ x∈d.2,0≤x∧x<256):Seg ds gs :=
 ⟨h.2.2.1,h.1.rise (List.nodup_append.1 h.2.2.1.2).1,h.2.1.rise (List.nodup_append.1 h.2.2.1.2).2.1,h.2.2.2,hb⟩
theorem seg_encok {ds:List Dc} {gs:List Key} (h:Seg ds gs):EncOk ds gs:=⟨h.rd.srt,h.rg.srt,h.ok,h.small⟩
section
variable {F:Nat→Prop}
theorem encoded_no {w:World} {b x n c:Nat} {A:Option Addr} {xss:List (List Int)} (hc0:w.cell? ⟨b,0,none⟩=some (.pointer (some ⟨x,0,none⟩))) (hc1:w.cell? ⟨b,1,none⟩=some (.slice A n c)) (hi:X.Ix w F x xss) (hne:xss.length≠n) :
  Calls Tryz.prog 70 #[.pointer (some ⟨b,0,none⟩)] w fun e w'=>e = .returned (.bool false)∧Ch (fun _=>False) w w':=by
 have HI:=Bx.mk hi
 obtain⟨m,hm⟩:∃ m,xss.length=m:=⟨_,rfl⟩
 have HM:=Bx.mk hm
 rw[hm] at hne
 have e1:((m:Int) != (n:Int))=true:=by simp; omega
 clear hi hm
 go_enter Tryz.func70,Tryz.ntmps70
 go_wp2_with fail
 have HQ:Bx (∀ q:Nat,Calls Tryz.prog 31 #[.pointer (some ⟨x,0,none⟩)] (w.drewN q) fun e w'=>e = .returned (.int .i64 m)∧∃ q,w'=w.drewN q):=⟨fun q=>(X.docs_same (HI.out.keep ((Ch.refl _ w).drewN q)) m HM.out).mono fun e w' hh=>⟨hh.1,q,hh.2.symm⟩⟩
 go_quiet ((go_at_call 31; exact HQ.out _))
 go_wp2
 go_ret
 exact⟨rfl,(Ch.refl _ w).drewN _⟩
theorem encoded_any {w:World} {b x n c m d:Nat} {A B:Option Addr} {ds:List Dc} {gs:List Key} (h:Sp0 w F b x A n c B m d ds gs) (hn:n≤100000) (hm:m≤100000) (o:Bool) (ho:o=true↔EncOk ds gs) :
  Calls Tryz.prog 70 #[.pointer (some ⟨b,0,none⟩)] w fun e w'=>e = .returned (.bool o)∧Ch (fun _=>False) w w':=by
 have hc0:=h.c0
 have hc1:=h.c1
 have hc2:=h.c2
 have HI:=Bx.mk h.ix
 have HL:Bx ((ts ds).length=n):=⟨by rw[ts_len]; exact h.len.1⟩
 have HK:=Bx.mk h.keys
 have HG:=Bx.mk h.gone
 have HO:=Bx.mk ho
 obtain⟨o1,ho1⟩:∃ o1:Bool,o1=true↔Srt (ks ds):=by
  by_cases hh:Srt (ks ds)
  ·exact⟨true,by simp[hh]⟩
  ·exact⟨false,by simp[hh]⟩
 obtain⟨o2,ho2⟩:∃ o2:Bool,o2=true↔Srt gs:=by
  by_cases hh:Srt gs
  ·exact⟨true,by simp[hh]⟩
  ·exact⟨false,by simp[hh]⟩
 obtain⟨o3,ho3⟩:∃ o3:Bool,o3=true↔ArgOk ds gs:=by
  by_cases hh:ArgOk ds gs
  ·exact⟨true,by simp[hh]⟩
  ·exact⟨false,by simp[hh]⟩
 have HO1:=Bx.mk ho1
 have HO2:=Bx.mk ho2
 have HO3:=Bx.mk ho3
 have e1:((n:Int) != (n:Int))=false:=by simp
 have hcc:=Ch.refl (fun _=>False) w
 have HD0:Bx (∀ W,Ch (fun _=>False) w W→Calls Tryz.prog 31 #[.pointer (some ⟨x,0,none⟩)] W fun e w'=>e = .returned (.int .i64 n)∧W=w'):=⟨fun W hc=>X.docs_same (HI.out.keep hc) n HL.out⟩
 have HB1:Bx (∀ W,Ch (fun _=>False) w W→Calls Tryz.prog 121 #[.slice A n c] W fun e w'=>e = .returned (.bool o1)∧Ch (fun _=>False) w w'):=⟨fun W hc=>(issorted_any (F:=F) (ks ds) A n c W (HK.out.ch hc (fun _ _ _ h=>h)) (by omega) o1 ho1).mono fun e w' h=>⟨h.1,by obtain⟨q,eq⟩:=h.2; rw[eq]; exact hc.drewN q⟩⟩
 have HB2:Bx (∀ W,Ch (fun _=>False) w W→Calls Tryz.prog 121 #[.slice B m d] W fun e w'=>e = .returned (.bool o2)∧Ch (fun _=>False) w w'):=⟨fun W hc=>(issorted_any (F:=F) gs B m d W (HG.out.ch hc (fun _ _ _ h=>h)) (by omega) o2 ho2).mono fun e w' h=>⟨h.1,by obtain⟨q,eq⟩:=h.2; rw[eq]; exact hc.drewN q⟩⟩
 have HB3:Bx (∀ W,Ch (fun _=>False) w W→Calls Tryz.prog 45 #[.pointer (some ⟨b,0,none⟩)] W fun e w'=>e = .returned (.bool o3)∧Ch (fun _=>False) w w'):=⟨fun W hc=>(sound_any (F:=F) (G:=F) ds gs A B n c m d b W (hc.cell (fun h=>h) h.c1) (hc.cell (fun h=>h) h.c2) (HK.out.ch hc (fun _ _ _ h=>h)) (HG.out.ch hc (fun _ _ _ h=>h)) hn hm o3 ho3).mono fun e w' h=>⟨h.1,hc.trans h.2 (fun _ _ h=>h)⟩⟩
 have HQD:Bx (∀ q:Nat,Calls Tryz.prog 31 #[.pointer (some ⟨x,0,none⟩)] (w.drewN q) fun e w'=>e = .returned (.int .i64 n)∧∃ q,w'=w.drewN q):=⟨fun q=>(HD0.out (w.drewN q) ((Ch.refl _ w).drewN q)).mono fun e w' h=>⟨h.1,q,h.2.symm⟩⟩
 have HQ1:Bx (∀ q:Nat,Calls Tryz.prog 121 #[.slice A n c] (w.drewN q) fun e w'=>e = .returned (.bool o1)∧∃ q,w'=w.drewN q):=⟨fun q=>(issorted_any (F:=F) (ks ds) A n c (w.drewN q) (HK.out.ch ((Ch.refl (fun _=>False) w).drewN q) (fun _ _ _ h=>h)) (by omega) o1 ho1).mono fun e w' h=>⟨h.1,by obtain⟨q2,e2⟩:=h.2; exact⟨q+q2,by rw[e2,World.drewN_drewN]⟩⟩⟩
 have HQ2:Bx (∀ q:Nat,Calls Tryz.prog 121 #[.slice B m d] (w.drewN q) fun e w'=>e = .returned (.bool o2)∧∃ q,w'=w.drewN q):=⟨fun q=>(issorted_any (F:=F) gs B m d (w.drewN q) (HG.out.ch ((Ch.refl (fun _=>False) w).drewN q) (fun _ _ _ h=>h)) (by omega) o2 ho2).mono fun e w' h=>⟨h.1,by obtain⟨q2,e2⟩:=h.2; exact⟨q+q2,by rw[e2,World.drewN_drewN]⟩⟩⟩
 clear h ho ho1 ho2 ho3
 cases o1 with
 | false =>
  have HF:Bx (false=o):=⟨by
   cases o with
   | false=>rfl
   | true=>exact absurd ((fun h:EncOk ds gs=>HO1.out.2 h.1) (HO.out.1 rfl)) (by simp)⟩
  go_enter Tryz.func70,Tryz.ntmps70
  go_wp2_with fail
  go_quiet ((first | (go_at_call 31; with_reducible (exact HQD.out _)) | (go_at_call 121; with_reducible (exact HQ1.out _)) | (go_at_call 121; with_reducible (exact HQ2.out _))))
  go_wp2
  go_ret
  exact⟨ret_bool HF.out,(Ch.refl _ w).drewN _⟩
 | true =>
  cases o2 with
  | false =>
   have HF:Bx (false=o):=⟨by
    cases o with
    | false=>rfl
    | true=>exact absurd ((fun h:EncOk ds gs=>HO2.out.2 h.2.1) (HO.out.1 rfl)) (by simp)⟩
   go_enter Tryz.func70,Tryz.ntmps70
   go_wp2_with fail
   go_quiet ((first | (go_at_call 31; with_reducible (exact HQD.out _)) | (go_at_call 121; with_reducible (exact HQ1.out _)) | (go_at_call 121; with_reducible (exact HQ2.out _))))
   go_wp2
   go_ret
   exact⟨ret_bool HF.out,(Ch.refl _ w).drewN _⟩
  | true =>
   cases o3 with
   | false =>
    have HF:Bx (false=o):=⟨by
     cases o with
     | false=>rfl
     | true=>exact absurd ((fun h:EncOk ds gs=>HO3.out.2 h.2.2.1) (HO.out.1 rfl)) (by simp)⟩
    go_enter Tryz.func70,Tryz.ntmps70
    go_wp2_with fail
    first | (go_region_held3 (fun w'=>w'.cell? ⟨b,0,none⟩=some (.pointer (some ⟨x,0,none⟩))∧w'.cell? ⟨b,1,none⟩=some (.slice A n c)∧w'.cell? ⟨b,2,none⟩=some (.slice B m d)) (first | go_keep | exact s2 | exact⟨hc0,hc1,hc2⟩) (first
       | (go_at_call 31; (with_reducible (refine (HD0.out _ (by first | exact hcc | exact hcc.drew)).mono ?_)); rintro e w2 ⟨rfl,rfl⟩)
       | (go_at_call 121; (with_reducible (refine (HB1.out _ (by first | exact hcc | exact hcc.drew)).mono ?_)); rintro e w2 ⟨rfl,hcc⟩; have s2:w2.cell? ⟨b,0,none⟩=some (.pointer (some ⟨x,0,none⟩))∧w2.cell? ⟨b,1,none⟩=some (.slice A n c)∧w2.cell? ⟨b,2,none⟩=some (.slice B m d):=⟨hcc.cell (fun h=>h) hc0,hcc.cell (fun h=>h) hc1,hcc.cell (fun h=>h) hc2⟩)
       | (go_at_call 121; (with_reducible (refine (HB2.out _ (by first | exact hcc | exact hcc.drew)).mono ?_)); rintro e w2 ⟨rfl,hcc⟩; have s2:w2.cell? ⟨b,0,none⟩=some (.pointer (some ⟨x,0,none⟩))∧w2.cell? ⟨b,1,none⟩=some (.slice A n c)∧w2.cell? ⟨b,2,none⟩=some (.slice B m d):=⟨hcc.cell (fun h=>h) hc0,hcc.cell (fun h=>h) hc1,hcc.cell (fun h=>h) hc2⟩)
       | (go_at_call 45; (with_reducible (refine (HB3.out _ (by first | exact hcc | exact hcc.drew)).mono ?_)); rintro e w2 ⟨rfl,hcc⟩; have s2:w2.cell? ⟨b,0,none⟩=some (.pointer (some ⟨x,0,none⟩))∧w2.cell? ⟨b,1,none⟩=some (.slice A n c)∧w2.cell? ⟨b,2,none⟩=some (.slice B m d):=⟨hcc.cell (fun h=>h) hc0,hcc.cell (fun h=>h) hc1,hcc.cell (fun h=>h) hc2⟩))) | fail
    all_goals
     have HCC:=Bx.mk hcc
     clear hcc s2
     go_wp2
     go_ret
     exact⟨ret_bool HF.out,HCC.out⟩
   | true =>
    have HB:Bx (o=true↔¬ Big ds):=⟨⟨fun h=>(HO.out.1 h).2.2.2,fun h=>HO.out.2 ⟨HO1.out.1 rfl,HO2.out.1 rfl,HO3.out.1 rfl,h⟩⟩⟩
    go_enter Tryz.func70,Tryz.ntmps70
    go_wp2_with fail
    first | (go_region_held3 (fun w'=>w'.cell? ⟨b,0,none⟩=some (.pointer (some ⟨x,0,none⟩))∧w'.cell? ⟨b,1,none⟩=some (.slice A n c)∧w'.cell? ⟨b,2,none⟩=some (.slice B m d)) (first | go_keep | exact s2 | exact⟨hc0,hc1,hc2⟩) (first
       | (go_at_call 31; (with_reducible (refine (HD0.out _ (by first | exact hcc | exact hcc.drew)).mono ?_)); rintro e w2 ⟨rfl,rfl⟩)
       | (go_at_call 121; (with_reducible (refine (HB1.out _ (by first | exact hcc | exact hcc.drew)).mono ?_)); rintro e w2 ⟨rfl,hcc⟩; have s2:w2.cell? ⟨b,0,none⟩=some (.pointer (some ⟨x,0,none⟩))∧w2.cell? ⟨b,1,none⟩=some (.slice A n c)∧w2.cell? ⟨b,2,none⟩=some (.slice B m d):=⟨hcc.cell (fun h=>h) hc0,hcc.cell (fun h=>h) hc1,hcc.cell (fun h=>h) hc2⟩)
       | (go_at_call 121; (with_reducible (refine (HB2.out _ (by first | exact hcc | exact hcc.drew)).mono ?_)); rintro e w2 ⟨rfl,hcc⟩; have s2:w2.cell? ⟨b,0,none⟩=some (.pointer (some ⟨x,0,none⟩))∧w2.cell? ⟨b,1,none⟩=some (.slice A n c)∧w2.cell? ⟨b,2,none⟩=some (.slice B m d):=⟨hcc.cell (fun h=>h) hc0,hcc.cell (fun h=>h) hc1,hcc.cell (fun h=>h) hc2⟩)
       | (go_at_call 45; (with_reducible (refine (HB3.out _ (by first | exact hcc | exact hcc.drew)).mono ?_)); rintro e w2 ⟨rfl,hcc⟩; have s2:w2.cell? ⟨b,0,none⟩=some (.pointer (some ⟨x,0,none⟩))∧w2.cell? ⟨b,1,none⟩=some (.slice A n c)∧w2.cell? ⟨b,2,none⟩=some (.slice B m d):=⟨hcc.cell (fun h=>h) hc0,hcc.cell (fun h=>h) hc1,hcc.cell (fun h=>h) hc2⟩))) | fail
    all_goals
     have HCC:=Bx.mk hcc
     clear hcc HO HO1 HO2 HO3 HB1 HB2 HB3 HD0
     obtain⟨hc0',hc1',_⟩:=s2
     clear hc0 hc1 hc2
     go_wp2_with fail
     go_loopw [3,41] (fun _ i wr=>∃ k:Nat,k≤n∧i = .int .i64 k∧Ch (fun _=>False) w2 wr∧Bx (∀ j t,j<k→(ts ds)[j]? = some t→t.length≤4096)) (fun _ i _=>n-(intOf i).toNat)
     case atStart=>exact⟨0,Nat.zero_le _,rfl,Ch.refl _ _,⟨fun j t h=>absurd h (by omega)⟩⟩
     case round =>
      obtain⟨k,hk,rfl,hC,hno⟩:=hrel
      have hcr:=hC.cell (p:=⟨b,0,none⟩) (fun h=>h) hc0'
      have HCR:=Bx.mk (HCC.out.trans hC (fun _ _ h=>h))
      by_cases hlt:k<n
      ·have dk:decide ((k:Int)<(n:Int))=true:=decide_eq_true (by omega)
       obtain⟨t,ht⟩:∃ t,(ts ds)[k]? = some t:=⟨_,List.getElem?_eq_getElem (by rw[HL.out]; exact hlt)⟩
       obtain⟨tl,htl⟩:∃ tl,t.length=tl:=⟨_,rfl⟩
       have hlen:X.lenOf (ts ds) (k:Int)=tl:=by
        unfold X.lenOf
        rw[if_pos ⟨by omega,by rw[HL.out]; omega⟩,Int.toNat_natCast,List.getD_eq_getElem?_getD,ht]
        exact htl
       have HLN:=Bx.mk (X.len_val (HI.out.keep HCR.out) (k:Int) tl hlen)
       have HT:=Bx.mk ht
       have HTL:=Bx.mk htl
       have i2:(k:Int)<(n:Int):=by omega
       clear ht htl hlen
       by_cases hbig:4096<tl
       ·have d1:decide ((4096:Int)<(tl:Int))=true:=decide_eq_true (by omega)
        have d2:decide (4096<tl)=true:=decide_eq_true hbig
        have HF:Bx (false=o):=⟨by
         cases o with
         | false=>rfl
         | true=>exact absurd ⟨t,List.mem_of_getElem? HT.out,by rw[HTL.out]; exact hbig⟩ (HB.out.1 rfl)⟩
        clear hno hC
        go_wp2_with fail
        refine HLN.out.mono ?_
        rintro e w4 ⟨rfl,hc4⟩
        have HC4:=Bx.mk (HCR.out.trans hc4 (fun _ _ h=>h))
        clear hc4 HLN
        go_wp2
        go_ret
        exact⟨ret_bool HF.out,HC4.out⟩
       ·have d1:decide ((4096:Int)<(tl:Int))=false:=decide_eq_false (by omega)
        have d2:decide (4096<tl)=false:=decide_eq_false hbig
        have HN:Bx (∀ j t,j<k+1→(ts ds)[j]? = some t→t.length≤4096):=⟨fun j u hj hu=>by
         rcases Nat.lt_or_ge j k with h | h
         ·exact hno.out j u h hu
         ·obtain rfl:j=k:=by omega
          rw[HT.out] at hu
          injection hu with hu
          rw[←hu,HTL.out]
          omega⟩
        have HCW:=Bx.mk hC
        clear hno hC
        go_wp2_with fail
        refine HLN.out.mono ?_
        rintro e w4 ⟨rfl,hc4⟩
        have HC4:=Bx.mk (HCW.out.trans hc4 (fun _ _ h=>h))
        clear hc4 HLN
        go_wp2
        go_roundw
        case rel=>exact⟨k+1,by omega,by go_num,HC4.out,HN⟩
        case measure=>simp[intOf]; omega
      ·obtain rfl:n=k:=by omega
       have dk:decide ((n:Int)<(n:Int))=false:=decide_eq_false (by omega)
       have HF:Bx (true=o):=⟨(HB.out.2 (fun ⟨t,ht,hb⟩=>by
        obtain⟨j,hj⟩:=List.getElem?_of_mem ht
        have:=hno.out j t (by rw[←HL.out]; exact (List.getElem?_eq_some_iff.1 hj).1) hj
        omega)).symm⟩
       clear hno hC
       go_wp2
       go_ret
       exact⟨ret_bool HF.out,HCR.out⟩
end
end
section
open Go.RowKit Go.Oct Go.Su Go.Sg Go.Fr
def PDecOf (xs:List Int) (w:World) (e:Ending) (w':World):Prop :=
 (NoGood xs∧e = .returned (.tuple #[.pointer none, .int .i64 3])∧Ch (fun _=>False) w w') ∨
 (∃ (b:Nat) (ds:List Dc) (gs:List Key),Good xs ds gs∧e = .returned (.tuple #[.pointer (some ⟨b,0,none⟩), .int .i64 0])∧Sp w' (fun k=>w.heap.size≤k) b ds gs∧Ch (fun _=>False) w w')
theorem keyI_mark {l:List Int} (hb:Byt l):keyI l=([83,1]:Key)↔l=[83,1]:=by
 constructor
 ·intro h
  have h1:=kI_keyI hb
  rw[h] at h1
  rw[←h1]
  rfl
 ·rintro rfl
  rfl
theorem seg_cells (w:World) (u v z:Value) (T:TypeId):(w.alloc (.cells #[u,v,z] T)).cell? ⟨w.heap.size,0,none⟩=some u∧(w.alloc (.cells #[u,v,z] T)).cell? ⟨w.heap.size,1,none⟩=some v∧(w.alloc (.cells #[u,v,z] T)).cell? ⟨w.heap.size,2,none⟩=some z:=by
 refine⟨?_,?_,?_⟩ <;> (rw[World.cell?_alloc_at _ _ _ _ rfl]; rfl)
section
variable {F:Nat→Prop}
theorem decode_any (xs:List Int) (A:Option Addr) (n c:Nat) (w:World) (hs:Sl w F .u8 A n xs) (hc:n≤c) (hcm:c≤maxLen) (hn:n≤50000) (hby:Byt xs) (ho:O.Tab w) (hw:W.Tab w) :
  Calls Tryz.prog 21 #[.slice A n c] w (PDecOf xs w):=by
 have HONE:=Bx.mk (fone_any xs A n c w ho hs hc hcm (by omega) hby)
 have HLN:=Bx.mk hs.len
 have HBY:=Bx.mk hby
 have HT:=Bx.mk hw
 clear hs hby ho hw hc hcm
 go_enter Tryz.func21,Tryz.ntmps21
 go_wp2_with fail
 refine HONE.out.mono ?_
 rintro e w1 ⟨v,rfl,hf⟩
 obtain⟨p,ec,hone⟩:∃ p ec,oneF xs=(p,ec):=⟨_,_,rfl⟩
 have HO1:=Bx.mk hone
 rw[hone] at hf ⊢
 have HF:=Bx.mk hf
 clear HONE hf hone
 by_cases hec:ec=0
 ·subst hec
  obtain⟨m,hm⟩:∃ m,p.length=m:=⟨_,rfl⟩
  have hmb:m≤50000:=by
   obtain⟨e1,_⟩:=oneF_ok HBY.out HO1.out
   have h1:=frm_len p
   rw[←e1,HLN.out,hm] at h1
   omega
  have hbp:Byt p:=fun x hx=>by
   obtain⟨e1,_⟩:=oneF_ok HBY.out HO1.out
   refine HBY.out x ?_
   rw[e1]
   unfold frm
   exact List.mem_append_left _ (List.mem_append_right _ hx)
  have d1:decide ((1048512:Int)<(m:Int))=false:=decide_eq_false (by omega)
  have d2:decide (1048512<m)=false:=decide_eq_false (by omega)
  obtain⟨A1,c1,rfl,h11,h12⟩:=fr_shape (ys:=p) HF.out hm
  have HNR:=Bx.mk (O.new_low A1 m c1 p w1 _ (Fresh.sl HF.out hm.symm) (by omega) h11 h12 hbp)
  have HM:=Bx.mk hm
  have HBP:=Bx.mk hbp
  have HC1:=Bx.mk HF.out.2.2
  clear hm hbp h11 h12
  go_wp2_with fail
  refine HNR.out.mono ?_
  rintro e w2 ⟨br,rfl,hbr,hR,hC2⟩
  have hplen:p.length≤100000:=by rw[HM.out]; omega
  have HRAW:=Bx.mk (O.raw_step br false p 2 w2 hplen hR)
  have hwb:w.heap.size≤br:=Nat.le_trans HC1.out.size hbr
  have HWB:=Bx.mk hwb
  have HC2:=Bx.mk (HC1.out.trans hC2 (fun _ _ h=>h))
  clear hR hC2 HNR hplen hwb hbr
  go_wp2_with fail
  refine HRAW.out.mono ?_
  rintro e w3 ⟨v3,rfl,hrow,hR3,hC3⟩
  obtain⟨n3,hn3⟩:∃ n3,(rv p 2).length=n3:=⟨_,rfl⟩
  obtain⟨A3,c3,rfl,_,_⟩:=own_shape hrow.1
  have hcv:=conv_row hrow.1
  rw[hn3] at hcv ⊢
  obtain⟨SK,hSK⟩:∃ S:ByteArray,(⟨(keyI (rv p 2)).toArray⟩:ByteArray)=S:=⟨_,rfl⟩
  have hkv:kv (keyI (rv p 2)) = .string SK:=by unfold kv; rw[hSK]
  rw[hkv] at hcv
  obtain⟨bg,hbg⟩:∃ bg:Bool,decide (rv p 2=[83,1])=bg:=⟨_,rfl⟩
  have hsb:(SK.toList==([83,1]:List UInt8))=bg:=by
   have h1:=str_beq (keyI (rv p 2)) ([83,1]:Key)
   have h2:(⟨([83,1]:Key).toArray⟩:ByteArray).toList=([83,1]:List UInt8):=by rw[Lib.toList_data]
   rw[hSK,h2] at h1
   refine h1.trans ?_
   rw[←hbg]
   exact decide_eq_decide.2 (keyI_mark (rv_byt HBP.out))
  have HBG:=Bx.mk hbg
  have hlt3:=O.RdQ.lt hR3
  have hrl:(rr p 2).length≤50000:=Nat.le_trans (rr_len p 2) (by rw[HM.out]; exact hmb)
  have HRL:=Bx.mk hrl
  have HT1:=Bx.mk (takes_any br (rb false p 2) (rr p 2) w3 hR3 (by omega) (fun b hb=>Nat.lt_trans hb hlt3))
  have HLT3:=Bx.mk hlt3
  have HC3:=Bx.mk (HC2.out.trans hC3 (fun i hi (e:i=br)=>by have:=HWB.out; omega))
  clear hrow hR3 hC3 hn3 hSK hkv hbg hlt3 hrl HRAW
  go_wp2_with fail
  refine HT1.out.mono ?_
  rintro e w4 ⟨A4,n4,c4,k1,b1,y1,rfl,hT4,hR4,hK1,hl1,hn4,hy1,h41,h42⟩
  have hlt4:=O.RdQ.lt hR4
  have hn4b:n4≤60000:=by have:=HRL.out; omega
  have hy1b:y1.length≤50000:=by have:=HRL.out; omega
  have HT2:=Bx.mk (takes_any br b1 y1 w4 hR4 (by omega) (fun b hb=>Nat.lt_trans hb hlt4))
  have HC4:=Bx.mk (HC3.out.trans hT4.ch (fun i hi (e:i=br)=>by have:=HWB.out; omega))
  have HT4:=Bx.mk hT4
  have HK1:=Bx.mk hK1
  have HL1:=Bx.mk hl1
  have HLT4:=Bx.mk hlt4
  have HY1:=Bx.mk hy1b
  clear hT4 hR4 hK1 hl1 hn4 hy1 hlt4 hy1b HT1 hsb hcv
  go_wp2_with fail
  refine HT2.out.mono ?_
  rintro e w5 ⟨A5,n5,c5,k2,b2,y2,rfl,hT5,hR5,hK2,hl2,hn5,hy2,h51,h52⟩
  have hlt5:=O.RdQ.lt hR5
  have hn5b:n5≤60000:=by have:=HY1.out; omega
  have hy2b:y2.length≤50000:=by have:=HY1.out; omega
  have HT3:=Bx.mk (taken_any br b2 y2 w5 hR5 (by omega) (fun b hb=>Nat.lt_trans hb hlt5))
  have HC5:=Bx.mk (HC4.out.trans hT5.ch (fun i hi (e:i=br)=>by have:=HWB.out; omega))
  have HT45:=Bx.mk (HT4.out.keep HLT3.out hT5.ch)
  have HT5:=Bx.mk hT5
  have HK2:=Bx.mk hK2
  have HL2:=Bx.mk hl2
  have HLT5:=Bx.mk hlt5
  have HY2:=Bx.mk hy2b
  clear hT5 hR5 hK2 hl2 hn5 hy2 hlt5 hy2b HT2 HT4
  go_wp2_with fail
  refine HT3.out.mono ?_
  rintro e w6 ⟨A6,n6,c6,k3,b3,y3,rfl,hT6,hR6,hK3,hl3,hn6,hy3,h61,h62⟩
  have hn6b:n6≤60000:=by have:=HY2.out; omega
  have HWH:=Bx.mk (O.whole_any br b3 y3 w6 hR6)
  have HC6:=Bx.mk (HC5.out.trans hT6.ch (fun i hi (e:i=br)=>by have:=HWB.out; omega))
  have HT46:=Bx.mk (HT45.out.keep HLT3.out hT6.ch)
  have HT56:=Bx.mk (HT5.out.keep HLT4.out hT6.ch)
  have HT6:=Bx.mk hT6
  have HK3:=Bx.mk hK3
  have HL3:=Bx.mk hl3
  clear hT6 hR6 hK3 hl3 hn6 hy3 HT3 HT45 HT5
  cases bg with
  | false =>
   have HNG:Bx (NoGood xs):=⟨no_parse HO1.out fun kl gl tl hp=>by
    have:=HBG.out
    rw[decide_eq_false_iff_not] at this
    exact this (rv_of hp.len hp.head)⟩
   go_wp2_with fail
   go_ret2
   exact .inl ⟨HNG.out,rfl,HC6.out⟩
  | true =>
   obtain⟨q1,q2,q3,q4⟩:=rv_two (of_decide_eq_true HBG.out)
   have HQ1:=Bx.mk q1
   have HQ2:=Bx.mk q2
   have HKK:Bx (TookK (p.drop 2) b1 y1 k1):=⟨by rw[←q3]; exact HK1.out⟩
   obtain⟨wh,hwh⟩:∃ wh,(!b3&&y3.isEmpty)=wh:=⟨_,rfl⟩
   rw[hwh] at HWH
   have HWW:=Bx.mk hwh
   clear q1 q2 q3 q4 hwh
   cases wh with
   | false =>
    have HNG:Bx (NoGood xs):=⟨no_parse HO1.out (not_parsed HKK.out HK2.out HK3.out (by
     have:=HWW.out
     cases b3 with
     | true=>exact .inl rfl
     | false =>
      refine .inr fun h=>?_
      rw[h] at this
      simp at this))⟩
    go_wp2_with fail
    refine HWH.out.mono ?_
    rintro e w7 ⟨rfl,rfl⟩
    go_wp2
    go_ret2
    exact .inl ⟨HNG.out,rfl,HC6.out⟩
   | true =>
    obtain⟨rfl,rfl⟩:b3=false∧y3=[]:=by
     have:=HWW.out
     cases b3 with
     | true=>simp at this
     | false =>
      refine⟨rfl,?_⟩
      simpa using this
    obtain⟨kl,gl,hpar,hk1,hk2⟩:=parsed_of HQ1.out HQ2.out HKK.out HK2.out HK3.out
    have HPAR:=Bx.mk hpar
    have HKL:=Bx.mk hk1
    have HGL:=Bx.mk hk2
    have hsl:Sl w6 (fun b=>(Value.slice A6 n6 c6).ownBlock=some b) .i64 A6 n6 (asI k3):=by
     refine Sl.of_own (base:=0) (e := 3) (c:=c6) ?_
     rw[valN_asI]
     exact HT6.out.own
    have HFR:=Bx.mk (X.from_any (asI k3) A6 n6 c6 w6 hsl (by omega) h61 h62 (HT.out.keep HC6.out))
    clear hpar hk1 hk2 hsl
    go_wp2_with fail
    refine HWH.out.mono ?_
    rintro e w7 ⟨rfl,rfl⟩
    clear HWH
    go_wp2_with fail
    refine HFR.out.mono ?_
    rintro e w7 (⟨bx,xss,rfl,hn65,htu,hIx,hC7⟩ | ⟨ec,rfl,hwhy,hC7⟩)
    ·have HTU:=Bx.mk htu
     have HIX:=Bx.mk hIx
     have hbyt:Byts xss:=by
      obtain⟨_,_,_,_,_,_,_,_,_,hh⟩:=hIx
      exact hh.byts
     have HBT:=Bx.mk hbyt
     have HC7:=Bx.mk (HC6.out.trans hC7 (fun _ _ h=>h))
     have HC67:=Bx.mk hC7
     obtain⟨xl,hxl⟩:∃ xl,xss.length=xl:=⟨_,rfl⟩
     have HXL:=Bx.mk hxl
     obtain⟨w8,hw8⟩:∃ w8,w7.alloc (.cells #[.pointer (some ⟨bx,0,none⟩), .slice A4 n4 c4, .slice A5 n5 c5] 56)=w8:=⟨_,rfl⟩
     have HC78:Bx (Ch (fun _=>False) w7 w8):=⟨by rw[←hw8]; exact (Ch.refl _ w7).alloc _⟩
     have hcs:=seg_cells w7 (.pointer (some ⟨bx,0,none⟩)) (.slice A4 n4 c4) (.slice A5 n5 c5) 56
     rw[hw8] at hcs
     have HCS:=Bx.mk hcs
     have HW8:=Bx.mk hw8
     have HC8:=Bx.mk (HC7.out.trans HC78.out (fun _ _ h=>h))
     have HIX8:Bx (X.Ix w8 (fun k=>w.heap.size≤k) bx xss):=⟨(HIX.out.mono (fun k _ h=>Nat.le_trans HC6.out.size h)).keep HC78.out⟩
     have HC68:=Bx.mk (HC67.out.trans HC78.out (fun _ _ h=>h))
     have HKS:Bx (Kss w8 (fun k=>w.heap.size≤k) A4 n4 k1):=⟨by
      have h1:=HC68.out.own HT46.out.own (fun _ _ h=>h)
      have h2:=HC3.out.size
      exact Kss.mono (Vs.of_own h1) (fun b _ hb=>Nat.le_trans h2 (HT46.out.lies b hb))⟩
     have HGS:Bx (Kss w8 (fun k=>w.heap.size≤k) A5 n5 k2):=⟨by
      have h1:=HC68.out.own HT56.out.own (fun _ _ h=>h)
      have h2:=HC4.out.size
      exact Kss.mono (Vs.of_own h1) (fun b _ hb=>Nat.le_trans h2 (HT56.out.lies b hb))⟩
     by_cases hne:xl=n4
     ·have hlen:xss.length=k1.length:=by rw[HL1.out,hxl,hne]
      have hks:=zip_ks hlen
      have hts:=zip_ts hlen
      obtain⟨ds,hds⟩:∃ ds,zipD k1 xss=ds:=⟨_,rfl⟩
      rw[hds] at hks hts
      have HS0:Bx (Sp0 w8 (fun k=>w.heap.size≤k) w7.heap.size bx A4 n4 c4 A5 n5 c5 ds k2):=⟨⟨HCS.out.1,HCS.out.2.1,HCS.out.2.2,by rw[hts]; exact HIX8.out,by rw[hks]; exact HKS.out,HGS.out,h41,h42,h51,h52,HC7.out.size⟩⟩
      obtain⟨o,ho⟩:∃ o:Bool,o=true↔EncOk ds k2:=by
       by_cases hh:EncOk ds k2
       ·exact⟨true,by simp[hh]⟩
       ·exact⟨false,by simp[hh]⟩
      have HE:=Bx.mk (encoded_any HS0.out (by omega) (by omega) o ho)
      have HRES:Bx ((o=true→Good xs ds k2)∧(o=false→NoGood xs)):=⟨by
       refine⟨fun h=>?_,fun h ds' gs' hg=>?_⟩
       ·have hseg:=encok_seg (ho.1 h) (fun d hd=>HBT.out d.2 (by rw[←hts]; exact List.mem_map.2 ⟨d,hd,rfl⟩))
        exact good_of HBY.out HO1.out (by rw[HM.out]; omega) HPAR.out HTU.out HBT.out (by rw[hks]; exact HKL.out) hts HGL.out hseg
       ·obtain⟨g1,g2,g3⟩:=hg.keys HO1.out HPAR.out HTU.out HBT.out
        have e1:ds=ds':=docs_ext (by rw[hks,HKL.out,g1]) (by rw[hts,g3])
        have e2:k2=gs':=by rw[HGL.out,g2]
        have:=ho.2 (by rw[e1,e2]; exact seg_encok hg.1)
        rw[h] at this
        simp at this⟩
      clear ho hlen hks hts hds hne htu hIx hbyt hC7 hxl hcs hw8 HFR hn65
      cases o with
      | false =>
       go_wp2_with fail
       rw[HW8.out]
       refine HE.out.mono ?_
       rintro e w9 ⟨rfl,hc9⟩
       have HC9:=Bx.mk (HC8.out.trans hc9 (fun _ _ h=>h))
       clear hc9 HE
       go_wp2
       go_ret2
       exact .inl ⟨(by first | exact HRES.out.2 rfl | exact HRES.out.2 trivial),rfl,HC9.out⟩
      | true =>
       go_wp2_with fail
       rw[HW8.out]
       refine HE.out.mono ?_
       rintro e w9 ⟨rfl,hc9⟩
       have HC9:=Bx.mk (HC8.out.trans hc9 (fun _ _ h=>h))
       have HSP:Bx (Sp w9 (fun k=>w.heap.size≤k) w7.heap.size ds k2):=⟨⟨_,_,_,_,_,_,_,HS0.out.keep hc9⟩⟩
       clear hc9 HE
       go_wp2
       go_ret2
       exact .inr ⟨w7.heap.size,ds,k2,(by first | exact HRES.out.1 rfl | exact HRES.out.1 trivial),rfl,HSP.out,HC9.out⟩
     ·have HE:=Bx.mk (encoded_no HCS.out.1 HCS.out.2.1 HIX8.out (by rw[hxl]; exact hne))
      have HNG:Bx (NoGood xs):=⟨fun ds' gs' hg=>by
       obtain⟨g1,g2,g3⟩:=hg.keys HO1.out HPAR.out HTU.out HBT.out
       have h1:ds'.length=xl:=by rw[←ts_len,←g3,hxl]
       have h2:ds'.length=n4:=by rw[←ks_len,←g1,←HKL.out,HL1.out]
       omega⟩
      clear hne htu hIx hbyt hC7 hxl hcs hw8 HFR hn65
      go_wp2_with fail
      rw[HW8.out]
      refine HE.out.mono ?_
      rintro e w9 ⟨rfl,hc9⟩
      have HC9:=Bx.mk (HC8.out.trans hc9 (fun _ _ h=>h))
      clear hc9 HE
      go_wp2
      go_ret2
      exact .inl ⟨HNG.out,rfl,HC9.out⟩
    ·have HC7:=Bx.mk (HC6.out.trans hC7 (fun _ _ h=>h))
     rcases hwhy with ⟨h1,_⟩ | ⟨_,hno,rfl⟩
     ·omega
     ·have HNG:Bx (NoGood xs):=⟨no_from HO1.out HPAR.out hno⟩
      clear hno hC7 HFR
      go_wp2_with fail
      go_ret2
      exact .inl ⟨HNG.out,rfl,HC7.out⟩
 ·have e1:((ec:Int) != 0)=true:=by simpa using hec
  have HNG:Bx (NoGood xs):=⟨no_one HO1.out hec⟩
  have HC1:=Bx.mk HF.out.2.2
  clear hec
  go_wp2_with fail
  go_ret2
  exact .inl ⟨HNG.out,rfl,HC1.out⟩
end
end
end Go.Proofs.YtambgjpfoceieaaGreatDoor
