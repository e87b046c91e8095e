/- Lemmas and contracts of this proof. Conditions: said at each. -/
import Derived.Test.YtambgjpfoceieaaGreatDoorGSxMrg
set_option maxHeartbeats 16000000
set_option maxRecDepth 100000
namespace Go.Proofs.YtambgjpfoceieaaGreatDoor
section
open Go.RowKit Go.Oct Go.Su Go.Sg Go.Fr
theorem same_yes {F G:Nat→Prop} (xs:List Int) (A B:Option Addr) (n m c d:Nat) (w:World) (hn:n≤9223372036854775807) (hm:m≤9223372036854775807) (hx:Sl w F .u8 A n xs) (hy:Sl w G .u8 B m xs) :
  Calls Tryz.prog 16 #[.slice A n c, .slice B m d] w fun e w'=>e = .returned (.bool true)∧Ch (fun _=>False) w w' :=
 (same_any A B n m c d xs xs F G w hn hm hx hy).mono fun e w' ⟨h1,q,h2⟩=>⟨by rw[h1]; simp,by rw[h2]; exact (Ch.refl _ w).drewN q⟩
def NSK:Key:=[110,111,32,115,117,99,104,32,107,101,121]
theorem Gs.spoilt {e:TypeId} {s n:Nat} {w w3 w4 w5:World} {v t:Value} {us:List Value} {xs:List Int} (h:Gs e s w w3 v n us) (hf:Fresh w3 t xs w4) (hc:Ch (fun k=>t.ownBlock=some k) w4 w5):Gs e s w w5 v n us:=by
 have h4:=h.own
 have hsz:=h.ch.size
 have hC:Ch (fun _=>False) w3 w5:=hf.2.2.trans hc (fun i hi (e:t.ownBlock=some i)=>by have:=hf.2.1 i e; omega)
 exact⟨hC.own h4 (fun _ _ h=>h),h.lies,h.ch.trans hC (fun _ _ h=>h)⟩
section
variable {F G H:Nat→Prop}
theorem alike_any {w:World} {b b':Nat} {ds:List Dc} {gs:List Key} (hs:Sp w F b ds gs) (hr:Rs w G b' ds gs) (hseg:Seg ds gs) (hl:Lite ds gs) (p:List Int) (B:Option Addr) (m d:Nat) (hp:Sl w H .u8 B m p) (hbp:∀ x∈p,0≤x∧x<256) (hm:m≤1048576) (ht:O.Tab w) :
  Calls Tryz.prog 18 #[.pointer (some ⟨b,0,none⟩), .pointer (some ⟨b',0,none⟩), .slice B m d] w fun e w'=>e = .returned (.bool true)∧Ch (fun _=>False) w w':=by
 have HSP:=Bx.mk hs
 have HRS:=Bx.mk hr
 have HSEG:=Bx.mk hseg
 have HLT:=Bx.mk hl
 have HFIT:=Bx.mk (fit_of hl)
 have HP:=Bx.mk hp
 have HBP:=Bx.mk hbp
 have HT:=Bx.mk ht
 have HBT:=Bx.mk (seg_bytsT hseg)
 obtain⟨x,A1,n1,c1,A2,n2,c2,h0⟩:=hs
 obtain⟨D1,e1,D2,e2,r1,r2,r3,r4,r5,r6,r7,r8,_⟩:=hr
 obtain⟨n,hn⟩:∃ n,ds.length=n:=⟨_,rfl⟩
 obtain⟨k,hk⟩:∃ k,gs.length=k:=⟨_,rfl⟩
 have hnb:n≤10000:=by rw[←hn]; exact hl.n
 have hkb:k≤10000:=by rw[←hk]; exact hl.m
 have HBEG:Bx (beg (ts ds) n≤60000):=⟨by rw[←hn]; exact hl.b⟩
 rw[hn] at r1 r3 r5
 rw[hk] at r2 r4 r7
 have HN:=Bx.mk hn
 have HK:=Bx.mk hk
 have HI:=Bx.mk h0.ix
 have hc0:=h0.c0
 have HC0:=Bx.mk hc0
 have HR1:=Bx.mk r1
 have HR2:=Bx.mk r2
 have HDC:=Bx.mk r3
 have HKV:=Bx.mk r4
 have HTL:Bx (∀ dc∈ds,dc.2.length≤60000):=⟨fun dc hd=>by
  obtain⟨i,hi⟩:=List.getElem?_of_mem hd
  have hil:i<n:=by rw[←HN.out]; exact (List.getElem?_eq_some_iff.1 hi).1
  have h1:=beg_next (ts ds) i (by rw[ts_len,HN.out]; exact hil)
  have h2:=beg_mono (ts ds) (show i+1≤n by omega) (by rw[ts_len,HN.out]; exact Nat.le_refl _)
  have h3:=ts_at hi
  rw[h3] at h1
  have:=HBEG.out
  omega⟩
 have HGN:=Bx.mk (gone_any HSP.out (by rw[hk]; omega))
 rw[hk] at HGN
 have HGONE:Bx (∀ W,Ch (fun _=>False) w W→Calls Tryz.prog 36 #[.pointer (some ⟨b,0,none⟩)] W (KeysOf gs k W)):=⟨fun W hc=>by have h:=gone_any (HSP.out.keep hc) (by rw[hk]; omega); rw[hk] at h; exact h⟩
 have HGET:Bx (∀ W,Ch (fun _=>False) w W→∀ key,Calls Tryz.prog 34 #[.pointer (some ⟨b,0,none⟩),kv key] W (GetOf ds gs key W)):=⟨fun W hc key=>get_any (HSP.out.keep hc) HSEG.out.rd HSEG.out.rg (by rw[hn]; omega) (by rw[hk]; omega) key⟩
 clear hseg hl hp hbp ht h0 hn hk r3 r4 HGN
 have HRGET:Bx (∀ W,Ch (fun _=>False) w W→∀ key,Calls Tryz.prog 38 #[.pointer (some ⟨b',0,none⟩),kv key] W (GetOf ds gs key W)):=⟨fun W hc key=>rget_any (HRS.out.keep hc) (by rw[HN.out]; omega) (by rw[HK.out]; omega) (fun dc hd=>by have:=HTL.out dc hd; omega) key⟩
 have HRFIND:Bx (∀ W,Ch (fun _=>False) w W→Calls Tryz.prog 56 #[.slice D1 n e1, .slice B m d] W (FindsOf (finds ds p) W)):=⟨fun W hc=>rfind_any ds p D1 B n e1 m d W (HDC.out.ch hc (fun _ _ _ h=>h)) (HP.out.ch hc (fun _ _ _ h=>h)) HSEG.out.byts HBP.out (by have:=HBEG.out; omega) (by omega) hm⟩
 have HKEYS:Bx (∀ W,Ch (fun _=>False) w W→Calls Tryz.prog 35 #[.pointer (some ⟨b,0,none⟩)] W (KeysOf (ks ds) n W)):=⟨fun W hc=>by have h:=keys_any (HSP.out.keep hc) (by rw[HN.out]; omega); rw[HN.out] at h; exact h⟩
 have HDOCS:Bx (∀ W,Ch (fun _=>False) w W→Calls Tryz.prog 31 #[.pointer (some ⟨x,0,none⟩)] W fun e w'=>e = .returned (.int .i64 n)∧W=w'):=⟨fun W hc=>X.docs_same (HI.out.keep hc) n (by rw[ts_len]; exact HN.out)⟩
 have HFIND:Bx (∀ W,Ch (fun _=>False) w W→Calls Tryz.prog 37 #[.pointer (some ⟨b,0,none⟩), .slice B m d] W (FindsOf (finds ds p) W)):=⟨fun W hc=>find_any (HSP.out.keep hc) (by rw[HN.out]; omega) (by rw[HN.out]; have:=HBEG.out; omega) p B m d (HP.out.ch hc (fun _ _ _ h=>h)) HBP.out hm⟩
 obtain⟨LL,hLL⟩:∃ LL,(locs (ts ds) p 0).length=LL:=⟨_,rfl⟩
 have HLL:=Bx.mk hLL
 have HCNT:Bx (∀ W,Ch (fun _=>False) w W→Calls Tryz.prog 30 #[.pointer (some ⟨x,0,none⟩), .slice B m d] W fun e w'=>e = .returned (.int .i64 (LL:Nat))∧Ch (fun _=>False) W w'):=⟨fun W hc=>(X.count_any (HI.out.keep hc) p B m d (HP.out.ch hc (fun _ _ _ h=>h)) HBP.out hm).mono fun e w' h=>⟨by rw[h.1,HLL.out],h.2⟩⟩
 have HTXT:Bx (∀ W,Ch (fun _=>False) w W→Calls Tryz.prog 27 #[.pointer (some ⟨b',0,none⟩)] W fun e w'=>∃ (A:Option Addr) (c:Nat),e = .returned (.slice A n c)∧Sls w' (fun _=>True) A n (ts ds)∧n≤c∧c≤maxLen∧Ch (fun _=>False) W w'):=⟨fun W hc=>(texts_any (HRS.out.keep hc) (by rw[HN.out]; omega)).mono fun e w' ⟨A,c,h1,h2,h3,h4,h5⟩=>by
  rw[HN.out] at h1 h2 h3
  exact⟨A,c,h1,h2.mono (fun _ _ _=>trivial),h3,h4,h5⟩⟩
 have HRLOC:Bx (∀ (W:World) (A:Option Addr) (c:Nat),Ch (fun _=>False) w W→Sls W (fun _=>True) A n (ts ds)→Calls Tryz.prog 29 #[.slice A n c, .slice B m d] W fun e w'=>∃ (A:Option Addr) (c:Nat),e = .returned (.slice A LL c)∧Ch (fun _=>False) W w'):=⟨fun W A c hc hz=>(refloc_any (ts ds) p A B n c m d W hz (HP.out.ch hc (fun _ _ _ h=>h)) HBT.out HBP.out (by have:=HBEG.out; omega) (by omega) hm).mono fun e w' ⟨v,h1,h2⟩=>by
  obtain⟨A2,c2,rfl,_,_⟩:=h2.shape
  exact⟨A2,c2,by rw[h1,HLL.out],h2.ch⟩⟩
 have HENC:Bx (∀ W,Ch (fun _=>False) w W→Calls Tryz.prog 20 #[.pointer (some ⟨b,0,none⟩)] W (EncOf ds gs W)):=⟨fun W hc=>enc_any (HSP.out.keep hc) HFIT.out (HT.out.ch hc (fun h=>h))⟩
 have HRENC:Bx (∀ W,Ch (fun _=>False) w W→Calls Tryz.prog 58 #[.pointer (some ⟨b',0,none⟩)] W (EncOf ds gs W)):=⟨fun W hc=>renc_any (HRS.out.keep hc) HBT.out HFIT.out⟩
 clear hLL
 go_enter Tryz.func18,Tryz.ntmps18
 go_wp2_with fail
 have hcc:=Ch.refl (fun _=>False) w
 go_region_held3 (fun w'=>w'.cell? ⟨b,0,none⟩=some (.pointer (some ⟨x,0,none⟩))∧w'.cell? ⟨b',1,none⟩=some (.slice D2 k e2)) (first | go_keep | exact s2 | exact⟨hc0,r2⟩) (first
  | (go_at_call 36; (with_reducible (refine (HGONE.out _ (by first | exact hcc | exact hcc.drew)).mono ?_)); rintro e w2 ⟨Ag,cg,rfl,hGg,_,_⟩; have hcc:Ch (fun _=>False) w w2:=(by first | exact hcc.trans hGg.ch (fun _ _ h=>h) | exact hcc.drew.trans hGg.ch (fun _ _ h=>h)); have s2:w2.cell? ⟨b,0,none⟩=some (.pointer (some ⟨x,0,none⟩))∧w2.cell? ⟨b',1,none⟩=some (.slice D2 k e2):=⟨hcc.cell (fun h=>h) hc0,hcc.cell (fun h=>h) r2⟩)
  | (go_at_call 54; refine (lawtexts_yes gs Ag D2 k k cg e2 _ hGg.vs (HKV.out.ch hcc (fun _ _ _ h=>h)) (by omega)).mono ?_; rintro e w3 ⟨rfl,hc3⟩; have hcc:Ch (fun _=>False) w w3:=hcc.trans hc3 (fun _ _ h=>h); have s2:w3.cell? ⟨b,0,none⟩=some (.pointer (some ⟨x,0,none⟩))∧w3.cell? ⟨b',1,none⟩=some (.slice D2 k e2):=⟨hcc.cell (fun h=>h) hc0,hcc.cell (fun h=>h) r2⟩))
 all_goals
  have HCC:=Bx.mk hcc
  clear hcc s2 hGg hc3 hc0 r1 r2 HGONE
  go_wp2_with fail
  go_loopw [7,8,9,10,11] (fun v i _ _ _ wr=>∃ q:Nat,q≤n∧i = .int .i64 q∧Gs 9 1 w3 wr v q ((ks (ds.take q)).map kv)) (fun _ i _ _ _ _=>n-(intOf i).toNat)
  case atStart=>exact⟨0,Nat.zero_le _,rfl,Gs.nil _ _ _⟩
  case round =>
   obtain⟨q,hq,rfl,hG⟩:=hrel
   obtain⟨Ak,ck,rfl,_,_⟩:=hG.shape
   have hcw:=HCC.out.trans hG.ch (fun _ _ h=>h)
   have hb1:=hcw.cell (p:=⟨b',0,none⟩) (fun h=>h) HR1.out
   by_cases hlt:q<n
   ·have dk:decide ((q:Int)<(n:Int))=true:=decide_eq_true (by omega)
    obtain⟨bd,od,dc,Bt,ct,rfl,_,hd,hck0,hct0,hst0,hl1,hl2⟩:=HDC.out.get hlt
    have hck:=hcw.cell (p:=⟨bd,od+q*2,none⟩) (fun h=>h) hck0
    obtain⟨SK,hSK⟩:∃ S:ByteArray,kv dc.1 = .string S:=⟨_,rfl⟩
    have HSK:=Bx.mk hSK
    rw[hSK] at hck
    have HD:=Bx.mk hd.out
    have HCK0:=Bx.mk hck0
    have HCT0:=Bx.mk hct0
    have HST0:=Bx.mk hst0
    have HG:=Bx.mk hG
    have HCW:=Bx.mk hcw
    have HMORE:Bx ((ks (ds.take (q+1))).map kv=(ks (ds.take q)).map kv++[.string SK]):=⟨by rw[ks_take hd.out,List.map_append,←hSK]; rfl⟩
    have htb:=HTL.out dc (List.mem_of_getElem? hd.out)
    have hln:=lenOf_at hd.out
    obtain⟨tl,htl⟩:∃ tl,dc.2.length=tl:=⟨_,rfl⟩
    have HTLE:=Bx.mk htl
    rw[htl] at HCT0 HST0 hl1 htb hln
    have HLN:=Bx.mk hln
    have i1:(q:Int)<(n:Int):=by omega
    obtain⟨US,hUS⟩:∃ US,(ks (ds.take q)).map kv=US:=⟨_,rfl⟩
    have HUS:=Bx.mk hUS
    have hgo:=hG.own
    rw[hUS] at hgo
    have HGO:=Bx.mk hgo
    clear hd hck0 hct0 hst0 hSK htl hG hcw hUS hgo hln
    go_wp2_with (at_builtin; refine wp_app rfl (.tmp 51) (.tmp 60) elemS rfl rfl (HGO.out.alloc _) rfl (Vs.one _ _ _) ?c1 ?c2 ?c3 ?_)
    case c1=>intro x hx; simp at hx; subst hx; rfl
    case c2=>omega
    case c3=>omega
    intro v5 w5 ho hg hb
    have HG5:Bx (Gs 9 1 w3 w5 v5 (q+1) ((ks (ds.take (q+1))).map kv)):=⟨by
     rw[HMORE.out]
     have hg0:=HG.out
     rw[HUS.out] at hg0 ⊢
     exact hg0.app (m:=1) ((Ch.refl (fun _=>False) wr).alloc _) ho hg (by rw[World.size_alloc]; exact hb)⟩
    have HCW5:Bx (Ch (fun _=>False) w w5):=⟨HCC.out.trans HG5.out.ch (fun _ _ h=>h)⟩
    have hb5:=HCW5.out.cell (p:=⟨b',0,none⟩) (fun h=>h) HR1.out
    have hk5:=HCW5.out.cell (p:=⟨bd,od+q*2,none⟩) (fun h=>h) HCK0.out
    rw[HSK.out] at hk5
    have HGT:=Bx.mk (HGET.out w5 HCW5.out dc.1)
    rw[HSK.out] at HGT
    clear ho hg hb hb1 hck HGO
    go_wp2_with fail
    refine HGT.out.mono ?_
    rintro e w6 ⟨v6,tx,hs6,kn6,rfl,hF6,hGR⟩
    obtain⟨rfl,rfl,rfl⟩:=GR.doc HSEG.out.rd.nodup (List.mem_of_getElem? HD.out) hGR
    obtain⟨A6,c6,rfl,h61,h62⟩:=fr_shape hF6 HTLE.out
    have HF6:=Bx.mk hF6
    have HCW6:=Bx.mk (HCW5.out.trans hF6.2.2 (fun _ _ h=>h))
    have hcc:=Ch.refl (fun _=>False) w6
    have g0:=HCW6.out.cell (p:=⟨b,0,none⟩) (fun h=>h) HC0.out
    have g1:=HCW6.out.cell (p:=⟨b',0,none⟩) (fun h=>h) HR1.out
    have g2:=HCW6.out.cell (p:=⟨bd,od+q*2+1,none⟩) (fun h=>h) HCT0.out
    have HSAME:Bx (∀ W,Ch (fun _=>False) w6 W→Calls Tryz.prog 16 #[.slice A6 tl c6, .slice Bt tl ct] W fun e w'=>e = .returned (.bool true)∧Ch (fun _=>False) w6 w'):=⟨fun W hc=>(same_yes dc.2 A6 Bt tl tl c6 ct W (by omega) (by omega) ((Fresh.sl (Fresh.rw HF6.out) HTLE.out.symm).ch hc (fun _ _ _ h=>h)) (HST0.out.ch (HCW6.out.trans hc (fun _ _ h=>h)) (fun _ _ _ h=>h))).mono fun e w' h=>⟨h.1,hc.trans h.2 (fun _ _ h=>h)⟩⟩
    have HLEN:Bx (∀ W,Ch (fun _=>False) w6 W→Calls Tryz.prog 55 #[.pointer (some ⟨x,0,none⟩), .int .i64 q] W fun e w'=>e = .returned (.int .i64 tl)∧Ch (fun _=>False) w6 w'):=⟨fun W hc=>(X.len_val (HI.out.keep (HCW6.out.trans hc (fun _ _ h=>h))) (q:Int) tl HLN.out).mono fun e w' h=>⟨h.1,hc.trans h.2 (fun _ _ h=>h)⟩⟩
    have e9:((tl:Int) != (tl:Int))=false:=by simp
    clear hF6 hGR HGT hb5 hk5
    go_wp2_with fail
    go_region_held3 (fun w'=>w'.cell? ⟨b,0,none⟩=some (.pointer (some ⟨x,0,none⟩))∧w'.cell? ⟨b',0,none⟩=some (.slice (some ⟨bd,od,none⟩) n e1)∧w'.cell? ⟨bd,od+q*2+1,none⟩=some (.slice Bt tl ct)) (first | go_keep | exact s2 | exact⟨g0,g1,g2⟩) (first
     | (go_at_call 16; (with_reducible (refine (HSAME.out _ (by first | exact hcc | exact hcc.drew)).mono ?_)); rintro e w7 ⟨rfl,hcc⟩; have s2:w7.cell? ⟨b,0,none⟩=some (.pointer (some ⟨x,0,none⟩))∧w7.cell? ⟨b',0,none⟩=some (.slice (some ⟨bd,od,none⟩) n e1)∧w7.cell? ⟨bd,od+q*2+1,none⟩=some (.slice Bt tl ct):=⟨hcc.cell (fun h=>h) g0,hcc.cell (fun h=>h) g1,hcc.cell (fun h=>h) g2⟩)
     | (go_at_call 55; (with_reducible (refine (HLEN.out _ (by first | exact hcc | exact hcc.drew)).mono ?_)); rintro e w8 ⟨rfl,hcc⟩; have s2:w8.cell? ⟨b,0,none⟩=some (.pointer (some ⟨x,0,none⟩))∧w8.cell? ⟨b',0,none⟩=some (.slice (some ⟨bd,od,none⟩) n e1)∧w8.cell? ⟨bd,od+q*2+1,none⟩=some (.slice Bt tl ct):=⟨hcc.cell (fun h=>h) g0,hcc.cell (fun h=>h) g1,hcc.cell (fun h=>h) g2⟩))
    all_goals
     have HCC8:=Bx.mk hcc
     have HF8:=Bx.mk (HF6.out.past hcc)
     have hown:=HF8.out.1
     rw[HTLE.out] at hown
     have HSPL:=Bx.mk (spoil_any (.slice A6 tl c6) tl _ w8 (by omega) hown)
     clear hcc s2 g0 g1 g2 hown HSAME HLEN e9
     go_wp2_with fail
     refine HSPL.out.mono ?_
     rintro e w9 ⟨rfl,hc9⟩
     have HG9:=Bx.mk (HG5.out.spoilt HF8.out hc9)
     obtain⟨A9,c9,rfl,_,_⟩:=HG9.out.shape
     clear hc9 HSPL
     go_wp2
     go_roundw
     case rel=>exact⟨q+1,by omega,by go_num,HG9.out⟩
     case measure=>simp[intOf]; omega
   ·obtain rfl:n=q:=by omega
    have dk:decide ((n:Int)<(n:Int))=false:=decide_eq_false (by omega)
    have hall:ds.take n=ds:=List.take_of_length_le (Nat.le_of_eq HN.out)
    rw[hall] at hG
    have HG:=Bx.mk hG
    have HCW:=Bx.mk hcw
    obtain⟨w4,rfl⟩:∃ w4:World,w4=wr:=⟨_,rfl⟩
    clear hall hG hcw
    go_wp2_with fail
    go_loopw [12,13,14,15] (fun i _ _ _ wr=>∃ q:Nat,q≤k∧i = .int .i64 q∧Ch (fun _=>False) w4 wr) (fun i _ _ _ _=>k-(intOf i).toNat)
    case atStart=>exact⟨0,Nat.zero_le _,rfl,Ch.refl _ _⟩
    case round =>
     obtain⟨q,hq,rfl,hC⟩:=hrel
     have hcw:=HCW.out.trans hC (fun _ _ h=>h)
     have hb2:=hcw.cell (p:=⟨b',1,none⟩) (fun h=>h) HR2.out
     by_cases hlt:q<k
     ·have dk2:decide ((q:Int)<(k:Int))=true:=decide_eq_true (by omega)
      obtain⟨bk,ok,key,rfl,_,hkey,hck0⟩:=HKV.out.at_ hlt
      have hck:=hcw.cell (p:=⟨bk,ok+q,none⟩) (fun h=>h) hck0
      obtain⟨SK,hSK⟩:∃ S:ByteArray,kv key = .string S:=⟨_,rfl⟩
      rw[hSK] at hck
      have HGT:=Bx.mk (HGET.out wr hcw key)
      rw[hSK] at HGT
      have HKY:=Bx.mk (List.mem_of_getElem? hkey.out)
      have HC:=Bx.mk hC
      have i1:(q:Int)<(k:Int):=by omega
      clear hC hcw hkey hck0 hSK
      go_wp2_with fail
      refine HGT.out.mono ?_
      rintro e w6 ⟨v6,tx,hs6,kn6,rfl,hF6,hGR⟩
      obtain⟨rfl,rfl,rfl⟩:=GR.gone HSEG.out.nd HKY.out hGR
      obtain⟨A6,c6,rfl,h61,h62⟩:=fr_shape hF6 (n:=0) rfl
      have HC6:=Bx.mk (HC.out.trans hF6.2.2 (fun _ _ h=>h))
      clear hF6 hGR HGT hb2 hck
      go_wp2_with fail
      go_roundw
      case rel=>exact⟨q+1,by omega,by go_num,HC6.out⟩
      case measure=>simp[intOf]; omega
     ·obtain rfl:k=q:=by omega
      have dk2:decide ((k:Int)<(k:Int))=false:=decide_eq_false (by omega)
      have HCW5:=Bx.mk hcw
      have HC5:=Bx.mk hC
      obtain⟨w5,rfl⟩:∃ w5:World,w5=wr:=⟨_,rfl⟩
      have HGT:Bx (Calls Tryz.prog 34 #[.pointer (some ⟨b,0,none⟩), .string ⟨#[110,111,32,115,117,99,104,32,107,101,121]⟩] w5 (GetOf ds gs NSK w5)):=⟨HGET.out w5 hcw NSK⟩
      clear hcw hC hb1
      go_wp2_with fail
      refine HGT.out.mono ?_
      rintro e w6 ⟨v6,t6,hs6,kn6,rfl,hF6,hGR⟩
      have HGR6:=Bx.mk hGR
      have HCW6:=Bx.mk (HCW5.out.trans hF6.2.2 (fun _ _ h=>h))
      have HGT2:Bx (Calls Tryz.prog 38 #[.pointer (some ⟨b',0,none⟩), .string ⟨#[110,111,32,115,117,99,104,32,107,101,121]⟩] w6 (GetOf ds gs NSK w6)):=⟨HRGET.out w6 HCW6.out NSK⟩
      have HC56:=Bx.mk hF6.2.2
      clear hF6 hGR HGT hb2
      go_wp2_with fail
      refine HGT2.out.mono ?_
      rintro e w7 ⟨v7,t7,hs7,kn7,rfl,hF7,hGR⟩
      obtain⟨_,rfl,rfl⟩:=GR.uniq HGR6.out hGR
      have HCW7:=Bx.mk (HCW6.out.trans hF7.2.2 (fun _ _ h=>h))
      have HC57:=Bx.mk hF7.2.2
      have hd1:=HCW7.out.cell (p:=⟨b',0,none⟩) (fun h=>h) HR1.out
      have HFD:=Bx.mk (HRFIND.out w7 HCW7.out)
      clear hF7 hGR HGT2
      go_wp2_with fail
      refine HFD.out.mono ?_
      rintro e w8 ⟨A8,n8,c8,rfl,hM8,_,_,hC8⟩
      have HCW8:=Bx.mk (HCW7.out.trans hC8 (fun _ _ h=>h))
      have HM8:=Bx.mk hM8
      have HKW:Bx (Kss w8 (fun _=>True) Ak n (ks ds)):=⟨Kss.mono (Kss.ch HG.out.vs ((HC5.out.trans (HC56.out.trans (HC57.out.trans hC8 (fun _ _ h=>h)) (fun _ _ h=>h)) (fun _ _ h=>h))) (fun _ _ _ h=>h)) (fun _ _ _=>trivial)⟩
      have g0:=HCW8.out.cell (p:=⟨b,0,none⟩) (fun h=>h) HC0.out
      have e3:(hs6==hs6)=true:=by simp
      have e4:(kn6==kn6)=true:=by simp
      have e5:((n:Int)==(n:Int))=true:=by simp
      have e6:((LL:Int)==(LL:Int))=true:=by simp
      have h8:=Ch.refl (fun _=>False) w8
      clear hM8 hC8 HFD hd1
      have HKEYS8:=Bx.mk (fun W (hc:Ch (fun _=>False) w8 W)=>HKEYS.out W (HCW8.out.trans hc (fun _ _ h=>h)))
      have HDOCS8:=Bx.mk (fun W (hc:Ch (fun _=>False) w8 W)=>HDOCS.out W (HCW8.out.trans hc (fun _ _ h=>h)))
      have HFIND8:=Bx.mk (fun W (hc:Ch (fun _=>False) w8 W)=>HFIND.out W (HCW8.out.trans hc (fun _ _ h=>h)))
      have HCNT8:=Bx.mk (fun W (hc:Ch (fun _=>False) w8 W)=>HCNT.out W (HCW8.out.trans hc (fun _ _ h=>h)))
      have HTXT8:=Bx.mk (fun W (hc:Ch (fun _=>False) w8 W)=>HTXT.out W (HCW8.out.trans hc (fun _ _ h=>h)))
      have HENC8:=Bx.mk (fun W (hc:Ch (fun _=>False) w8 W)=>HENC.out W (HCW8.out.trans hc (fun _ _ h=>h)))
      have HRENC8:=Bx.mk (fun W (hc:Ch (fun _=>False) w8 W)=>HRENC.out W (HCW8.out.trans hc (fun _ _ h=>h)))
      have HFL:Bx ((finds ds p).length≤60000):=⟨by
       have h2:=finds_le p ds
       have h3:=HBEG.out
       rw[HN.out] at h2
       omega⟩
      have HNE:Bx (∀ t N,Turned (txt (ts ds)) t→(frm (bod ds gs t)).length=N→N≤9223372036854775807):=⟨fun t N hT hN=>by
       have h1:=HFIT.out.lb t hT
       rw[frm_len] at hN
       omega⟩
      have HQ0:=Bx.mk h8
      have HG0:=Bx.mk g0
      clear h8 g0
      go_wp2_with fail
      refine (HKEYS8.out _ HQ0.out).mono ?_
      rintro e wz0 ⟨Aq,cq,rfl,hGq,_,_⟩
      have HQ1:=Bx.mk (HQ0.out.trans hGq.ch (fun _ _ h=>h))
      have HGQ:=Bx.mk hGq
      clear hGq
      go_wp2_with fail
      refine (lawtexts_yes (ks ds) Aq Ak n n cq ck _ HGQ.out.vs (HKW.out.ch HQ1.out (fun _ _ _ h=>h)) (by omega)).mono ?_
      rintro e wz1 ⟨rfl,hcx⟩
      have HQ2:=Bx.mk (HQ1.out.trans hcx (fun _ _ h=>h))
      have g1:=HQ2.out.cell (p:=⟨b,0,none⟩) (fun h=>h) HG0.out
      clear hcx
      go_wp2_with fail
      refine (HDOCS8.out _ HQ2.out).mono ?_
      rintro e wz2 ⟨rfl,rfl⟩
      clear g1
      go_wp2_with fail
      refine (HFIND8.out _ HQ2.out).mono ?_
      rintro e wz3 ⟨Af,nf,cf,rfl,hMf,_,_,hcx⟩
      have HQ3:=Bx.mk (HQ2.out.trans hcx (fun _ _ h=>h))
      have HMF:=Bx.mk hMf
      clear hMf hcx
      go_wp2_with fail
      refine (lawmatches_yes (finds ds p) Af A8 nf n8 cf c8 _ HMF.out (HM8.out.ch HQ3.out (fun _ _ _ h=>h)) (by have h:=HMF.out.len; have h2:=HFL.out; omega)).mono ?_
      rintro e wz4 ⟨rfl,hcx⟩
      have HQ4:=Bx.mk (HQ3.out.trans hcx (fun _ _ h=>h))
      have g1:=HQ4.out.cell (p:=⟨b,0,none⟩) (fun h=>h) HG0.out
      clear hcx
      go_wp2_with fail
      refine (HCNT8.out _ HQ4.out).mono ?_
      rintro e wz5 ⟨rfl,hcx⟩
      have HQ5:=Bx.mk (HQ4.out.trans hcx (fun _ _ h=>h))
      clear hcx g1
      go_wp2_with fail
      refine (HTXT8.out _ HQ5.out).mono ?_
      rintro e wz6 ⟨At,ct,rfl,hSt,_,_,hcx⟩
      have HQ6:=Bx.mk (HQ5.out.trans hcx (fun _ _ h=>h))
      have HST:=Bx.mk hSt
      clear hcx hSt
      go_wp2_with fail
      refine (HRLOC.out _ At ct (HCW8.out.trans HQ6.out (fun _ _ h=>h)) HST.out).mono ?_
      rintro e wz7 ⟨Al,cl,rfl,hcx⟩
      have HQ7:=Bx.mk (HQ6.out.trans hcx (fun _ _ h=>h))
      clear hcx
      go_wp2_with fail
      refine (HENC8.out _ HQ7.out).mono ?_
      rintro e wz8 ⟨ve,t1,rfl,hT1,hFe⟩
      have HQ8:=Bx.mk (HQ7.out.trans hFe.2.2 (fun _ _ h=>h))
      obtain⟨NE,hNE⟩:∃ N,(frm (bod ds gs t1)).length=N:=⟨_,rfl⟩
      obtain⟨Ae,ce,rfl,_,_⟩:=fr_shape hFe hNE
      have HFE:=Bx.mk hFe
      have HT1:=Bx.mk hT1
      have HNEE:=Bx.mk hNE
      clear hFe hT1 hNE
      go_wp2_with fail
      refine (HRENC8.out _ HQ8.out).mono ?_
      rintro e wz9 ⟨vf,t2,rfl,hT2,hFf⟩
      have HQ9:=Bx.mk (HQ8.out.trans hFf.2.2 (fun _ _ h=>h))
      obtain rfl:t1=t2:=HT1.out.det hT2
      obtain⟨Af2,cf2,rfl,_,_⟩:=fr_shape hFf HNEE.out
      have HFF:=Bx.mk hFf
      clear hFf hT2
      go_wp2_with fail
      refine (same_yes (frm (bod ds gs t1)) Ae Af2 NE NE ce cf2 _ (HNE.out t1 NE HT1.out HNEE.out) (HNE.out t1 NE HT1.out HNEE.out) ((Fresh.sl (Fresh.rw HFE.out) HNEE.out.symm).ch HFF.out.2.2 (fun _ _ _ h=>h)) (Fresh.sl (Fresh.rw HFF.out) HNEE.out.symm)).mono ?_
      rintro e wz10 ⟨rfl,hcx⟩
      have HQ10:=Bx.mk (HQ9.out.trans hcx (fun _ _ h=>h))
      clear hcx
      go_wp2
      go_ret
      exact⟨rfl,HCW8.out.trans HQ10.out (fun _ _ h=>h)⟩
end
end
section
open Go.RowKit Go.Oct Go.Su Go.Sg Go.Fr
theorem wtab_lt {w:World} (h:W.Tab w) : 1 < w.heap.size:=lt_of_cell (h 0 (by decide))
theorem sts_one {w:World} {A B:Option Addr} {n c k d:Nat} {ds:List Dc} {gs:List Key} (T:TypeId) (hz:Dcs w (fun _=>True) A n ds) (hg:Kss w (fun _=>True) B k gs) (h1:n≤c) (h2:c≤maxLen) (h3:k≤d) (h4:d≤maxLen) :
  Sts (w.alloc (.cells #[.slice A n c, .slice B k d] T)) (fun _=>True) (some ⟨w.heap.size,0,none⟩) 1 [(ds,gs)]:=by
 obtain rfl:=hz.len
 obtain rfl:=hg.len
 refine⟨rfl,fun _=>⟨w.heap.size,0,rfl,trivial,fun j s hs=>?_⟩⟩
 match j,hs with
 | 0,hs =>
  simp at hs
  subst hs
  refine⟨[.slice A ds.length c, .slice B gs.length d],rfl,⟨A,c,B,d,rfl,hz.alloc _,hg.alloc _,h1,h2,h3,h4⟩,fun i u hu=>?_⟩
  match i,hu with
  | 0,hu=>simp at hu; subst hu; exact (World.cell?_alloc_at _ _ _ _ rfl).trans rfl
  | 1,hu=>simp at hu; subst hu; exact (World.cell?_alloc_at _ _ _ _ rfl).trans rfl
 | j+1,hs=>simp at hs
theorem lite_each {ds:List Dc} {gs:List Key} (h:Lite ds gs):∀ d∈ds,d.2.length≤60000:=fun d hd=>by
 obtain⟨i,hi⟩:=List.getElem?_of_mem hd
 have hil:=(List.getElem?_eq_some_iff.1 hi).1
 have h1:=beg_next (ts ds) i (by rw[ts_len]; exact hil)
 have h2:=beg_mono (ts ds) (show i+1≤ds.length by omega) (by rw[ts_len]; exact Nat.le_refl _)
 rw[ts_at hi] at h1
 have:=h.b
 omega
theorem wS_one (s:List Dc×List Key):wS [s]=wD s.1+wK s.2:=by simp[wS]
end
end Go.Proofs.YtambgjpfoceieaaGreatDoor
