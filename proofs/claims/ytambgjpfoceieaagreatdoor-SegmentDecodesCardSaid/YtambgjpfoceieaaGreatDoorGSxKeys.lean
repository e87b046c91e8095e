/- Lemmas and contracts of this proof. Conditions: said at each. -/
import Derived.Test.YtambgjpfoceieaaGreatDoorGFxSort
import Derived.Test.YtambgjpfoceieaaGreatDoorGSxLib
import Derived.Test.YtambgjpfoceieaaGreatDoorSgNew
import Derived.Test.YtambgjpfoceieaaGreatDoorSxWords
import Derived.Lib.SlBytesConst
import Derived.Test.YtambgjpfoceieaaGreatDoorSxLaid
set_option maxHeartbeats 4000000
set_option maxRecDepth 100000
namespace Go.Proofs.YtambgjpfoceieaaGreatDoor
section
open Go.RowKit Go.Oct Go.Su Go.Sg
theorem Gs.back {e:TypeId} {s n:Nat} {w w1 w2:World} {v:Value} {us:List Value} (h:Gs e s w1 w2 v n us) (hc:Ch (fun _=>False) w w1):Gs e s w w2 v n us:=⟨h.own,fun g hg=>Nat.le_trans hc.size (h.lies g hg),hc.trans h.ch (fun _ _ h=>h)⟩
section
variable {F:Nat→Prop}
theorem keyless_nil (w:World):Calls Tryz.prog 59 #[.pointer none] w fun e w'=>e = .returned (.bool true)∧Ch (fun _=>False) w w':=by
 go_enter Tryz.func59,Tryz.ntmps59
 go_wp2_with fail
 go_region
 all_goals
  go_wp2
  go_ret
  exact⟨rfl,(Ch.refl _ w).drew⟩
theorem keyless_any {w:World} {b:Nat} {ds:List Dc} {gs:List Key} (h:Sp w F b ds gs):Calls Tryz.prog 59 #[.pointer (some ⟨b,0,none⟩)] w fun e w'=>e = .returned (.bool false)∧Ch (fun _=>False) w w':=by
 obtain⟨x,A,n,c,B,m,d,h⟩:=h
 have hc0:=h.c0
 have hc1:=h.c1
 have HI:=Bx.mk h.ix
 have HL:Bx ((ts ds).length=n):=⟨by rw[ts_len]; exact h.len.1⟩
 clear h
 have hcc:=Ch.refl (fun _=>False) w
 rcases Nat.eq_zero_or_pos n with h0 | h0
 ·subst h0
  have HT:Bx ((txt (ts ds)).length=1):=⟨by rw[txt_len,List.eq_nil_of_length_eq_zero HL.out]; rfl⟩
  go_enter Tryz.func59,Tryz.ntmps59
  go_wp2_with fail
  go_region_held3 (fun w'=>w'.cell? ⟨b,0,none⟩=some (.pointer (some ⟨x,0,none⟩))∧w'.cell? ⟨b,1,none⟩=some (.slice A 0 c)) (first | go_keep | exact s2 | exact⟨hc0,hc1⟩) (first
   | (go_at_call 31; refine (X.docs_same (by first | exact HI.out.keep hcc | exact HI.out.keep hcc.drew) 0 HL.out).mono ?_; rintro e w2 ⟨rfl,rfl⟩)
   | (go_at_call 102; refine (X.turnedx_cap (by first | exact HI.out.keep hcc | exact HI.out.keep hcc.drew)).mono ?_; rintro e w2 ⟨A2,c2,n2,l2,rfl,hn2,_,_,_,_,hc2⟩; have hcc:Ch (fun _=>False) w w2:=(by first | exact hcc.trans hc2 (fun _ _ h=>h) | exact hcc.drew.trans hc2 (fun _ _ h=>h)); have s2:w2.cell? ⟨b,0,none⟩=some (.pointer (some ⟨x,0,none⟩))∧w2.cell? ⟨b,1,none⟩=some (.slice A 0 c):=⟨hcc.cell (fun h=>h) hc0,hcc.cell (fun h=>h) hc1⟩; rw[HT.out] at hn2; subst hn2))
  all_goals
   have HCC:=Bx.mk hcc
   clear hcc hc2 s2
   go_wp2
   go_ret
   exact⟨rfl,HCC.out⟩
 ·have e1:((n:Int)==0)=false:=by simp; omega
  have e2:decide ((n:Int)=0)=false:=by simp; omega
  have e3:decide (n=0)=false:=by simp; omega
  have e4:(n==0)=false:=by simp; omega
  go_enter Tryz.func59,Tryz.ntmps59
  go_wp2_with fail
  have HQ:Bx (∀ q:Nat,Calls Tryz.prog 31 #[.pointer (some ⟨x,0,none⟩)] (w.drewN q) fun e w'=>e = .returned (.int .i64 n)∧∃ q,w'=w.drewN q):=⟨fun q=>(X.docs_same (HI.out.keep ((Ch.refl _ w).drewN q)) n HL.out).mono fun e w' hh=>⟨hh.1,q,hh.2.symm⟩⟩
  go_quiet ((go_at_call 31; exact HQ.out _))
  go_wp2
  go_ret
  exact⟨rfl,(Ch.refl _ w).drewN _⟩
theorem keys_nil (w:World):Calls Tryz.prog 35 #[.pointer none] w fun e w'=>e = .returned (.slice none 0 0)∧Ch (fun _=>False) w w':=by
 go_enter Tryz.func35,Tryz.ntmps35
 go_wp2_with fail
 refine (keyless_nil w).mono ?_
 rintro e w1 ⟨rfl,hc⟩
 go_wp2
 go_ret
 exact⟨rfl,hc⟩
theorem keys_any {w:World} {b:Nat} {ds:List Dc} {gs:List Key} (h:Sp w F b ds gs) (hn:ds.length≤1048576):Calls Tryz.prog 35 #[.pointer (some ⟨b,0,none⟩)] w (KeysOf (ks ds) ds.length w):=by
 have HK:=Bx.mk (keyless_any h)
 have HH:=Bx.mk h
 clear h
 go_enter Tryz.func35,Tryz.ntmps35
 go_wp2_with fail
 refine HK.out.mono ?_
 rintro e w1 ⟨rfl,hc⟩
 obtain⟨x,A,n,c,B,m,d,h1⟩:=HH.out.keep hc
 have hcell:=h1.c1
 have HL:=Bx.mk h1.len
 have HC:=Bx.mk hc
 have HCL:=Bx.mk (clonek_any _ _ _ c w1 h1.keys (by have:=h1.len; omega))
 clear h1 hc HK
 go_wp2_with fail
 refine HCL.out.mono ?_
 rintro e w2 ⟨A2,c2,rfl,hG,e1,e2⟩
 have HG:=Bx.mk (hG.back HC.out)
 clear hG HCL
 go_wp2
 go_ret
 have hl:=HL.out.1
 rw[hl]
 exact⟨A2,c2,rfl,HG.out,e1,e2⟩
theorem gone_nil (w:World):Calls Tryz.prog 36 #[.pointer none] w fun e w'=>e = .returned (.slice none 0 0)∧Ch (fun _=>False) w w':=by
 go_enter Tryz.func36,Tryz.ntmps36
 go_wp2_with fail
 refine (keyless_nil w).mono ?_
 rintro e w1 ⟨rfl,hc⟩
 go_wp2
 go_ret
 exact⟨rfl,hc⟩
theorem gone_any {w:World} {b:Nat} {ds:List Dc} {gs:List Key} (h:Sp w F b ds gs) (hn:gs.length≤1048576):Calls Tryz.prog 36 #[.pointer (some ⟨b,0,none⟩)] w (KeysOf gs gs.length w):=by
 have HK:=Bx.mk (keyless_any h)
 have HH:=Bx.mk h
 clear h
 go_enter Tryz.func36,Tryz.ntmps36
 go_wp2_with fail
 refine HK.out.mono ?_
 rintro e w1 ⟨rfl,hc⟩
 obtain⟨x,A,n,c,B,m,d,h1⟩:=HH.out.keep hc
 have hcell:=h1.c2
 have HL:=Bx.mk h1.len
 have HC:=Bx.mk hc
 have HCL:=Bx.mk (clonek_any _ _ _ d w1 h1.gone (by have:=h1.len; omega))
 clear h1 hc HK
 go_wp2_with fail
 refine HCL.out.mono ?_
 rintro e w2 ⟨A2,c2,rfl,hG,e1,e2⟩
 have HG:=Bx.mk (hG.back HC.out)
 clear hG HCL
 go_wp2
 go_ret
 have hl:=HL.out.2
 rw[hl]
 exact⟨A2,c2,rfl,HG.out,e1,e2⟩
end
end
section
open Go.RowKit Go.Oct Go.Su Go.Sg
theorem ts_at {ds:List Dc} {i:Nat} {d:Dc} (h:ds[i]? = some d):(ts ds).getD i []=d.2:=by
 unfold ts
 rw[List.getD_eq_getElem?_getD,List.getElem?_map,h]
 rfl
theorem lenOf_at {ds:List Dc} {i:Nat} {d:Dc} (h:ds[i]? = some d):X.lenOf (ts ds) (i:Int)=d.2.length:=by
 have hi:=(List.getElem?_eq_some_iff.1 h).1
 unfold X.lenOf
 rw[if_pos ⟨by omega,by rw[ts_len]; omega⟩,Int.toNat_natCast,ts_at h]
theorem ext_at {ds:List Dc} {i:Nat} {d:Dc} (h:ds[i]? = some d):ext (ts ds) (i:Int) 0 ((d.2.length:Nat):Int)=d.2:=by
 have hi:=(List.getElem?_eq_some_iff.1 h).1
 unfold ext
 rw[if_neg (by rw[Int.toNat_natCast,ts_at h,ts_len]; omega),Int.toNat_natCast,Int.toNat_natCast,ts_at h]
 simp
section
variable {F:Nat→Prop}
theorem get_nil (k:Key) (w:World):Calls Tryz.prog 34 #[.pointer none,kv k] w fun e w'=>e = .returned (.tuple #[.slice none 0 0, .bool false, .bool false])∧Ch (fun _=>False) w w':=by
 obtain⟨SK,hSK⟩:∃ S:ByteArray,kv k = .string S:=⟨_,rfl⟩
 rw[hSK]
 clear hSK
 go_enter Tryz.func34,Tryz.ntmps34
 go_wp2_with fail
 refine (keyless_nil w).mono ?_
 rintro e w1 ⟨rfl,hc⟩
 go_wp2
 go_ret3
 exact⟨rfl,hc⟩
theorem get_any {w:World} {b:Nat} {ds:List Dc} {gs:List Key} (h:Sp w F b ds gs) (hrd:Rise (ks ds)) (hrg:Rise gs) (hn:ds.length≤1048576) (hm:gs.length≤1048576) (k:Key) :
  Calls Tryz.prog 34 #[.pointer (some ⟨b,0,none⟩),kv k] w (GetOf ds gs k w):=by
 have HK:=Bx.mk (keyless_any h)
 have HH:=Bx.mk h
 have HRD:=Bx.mk hrd
 have HRG:=Bx.mk hrg
 obtain⟨SK,hSK⟩:∃ S:ByteArray,kv k = .string S:=⟨_,rfl⟩
 have HSK:=Bx.mk hSK
 rw[hSK]
 clear h hrd hrg hSK
 go_enter Tryz.func34,Tryz.ntmps34
 go_wp2_with fail
 refine HK.out.mono ?_
 rintro e w1 ⟨rfl,hc⟩
 obtain⟨x,A,n,c,B,m,d,h1⟩:=HH.out.keep hc
 have hc0:=h1.c0
 have hc1:=h1.c1
 have hc2:=h1.c2
 have hl:=h1.len
 have HB1:=Bx.mk (search_any (ks ds) A n c k w1 h1.keys HRD.out (by omega))
 have HB2:=Bx.mk (search_any gs B m d k w1 h1.gone HRG.out (by omega))
 rw[HSK.out] at HB1 HB2
 have HI:=Bx.mk h1.ix
 have HC:=Bx.mk hc
 have hnb:n≤1048576:=by omega
 clear h1 hc HK
 go_wp2_with fail
 refine HB1.out.mono ?_
 rintro e w2 ⟨i,o,rfl,hiff,hat,rfl⟩
 cases o with
 | true =>
  have hki:=hat rfl
  obtain⟨dc,hd⟩:∃ dc,ds[i]? = some dc:=by
   have:=(List.getElem?_eq_some_iff.1 hki).1
   exact⟨_,List.getElem?_eq_getElem (by rw[ks_len] at this; exact this)⟩
  have hkd:dc.1=k:=by
   have h1:=ks_get hd
   rw[hki] at h1
   injection h1 with h1
   exact h1.symm
  have HAT:Bx (at_ ds k=some dc.2):=⟨(at_mem HRD.out.nodup).2 (by rw[←hkd]; exact List.mem_of_getElem? hd)⟩
  obtain⟨tl,htl⟩:∃ tl,dc.2.length=tl:=⟨_,rfl⟩
  have HEX:Bx (ext (ts ds) (i:Int) 0 ((tl:Nat):Int)=dc.2):=⟨by rw[←htl]; exact ext_at hd⟩
  have HLN:Bx (X.lenOf (ts ds) (i:Int)=tl):=⟨by rw[lenOf_at hd]; exact htl⟩
  have hcc:=Ch.refl (fun _=>False) w1
  clear hiff hat hki hd hkd htl HB1 HB2 hc1 hc2
  go_wp2_with fail
  go_region_held3 (fun w'=>w'.cell? ⟨b,0,none⟩=some (.pointer (some ⟨x,0,none⟩))) (first | go_keep | exact s2 | exact hc0) (first
   | (go_at_call 55; refine (X.len_val (by first | exact HI.out.keep hcc | exact HI.out.keep hcc.drew) (i:Int) tl HLN.out).mono ?_; rintro e w2 ⟨rfl,hc2⟩; have hcc:Ch (fun _=>False) w1 w2:=(by first | exact hcc.trans hc2 (fun _ _ h=>h) | exact hcc.drew.trans hc2 (fun _ _ h=>h)); have s2:w2.cell? ⟨b,0,none⟩=some (.pointer (some ⟨x,0,none⟩)):=hcc.cell (fun h=>h) hc0)
   | (go_at_call 32; refine (X.extract_any (by first | exact HI.out.keep hcc | exact HI.out.keep hcc.drew) (i:Int) 0 (tl:Int)).mono ?_; rw[HEX.out]; rintro e w2 ⟨A2,c2,rfl,_,_,_,hc2,ho2,hf2⟩; have hz2:w1.heap.size≤_:=hcc.size; have hcc:Ch (fun _=>False) w1 w2:=(by first | exact hcc.trans hc2 (fun _ _ h=>h) | exact hcc.drew.trans hc2 (fun _ _ h=>h)); have s2:w2.cell? ⟨b,0,none⟩=some (.pointer (some ⟨x,0,none⟩)):=hcc.cell (fun h=>h) hc0))
  all_goals
   have HF:Bx (Fresh w (.slice A2 dc.2.length c2) dc.2 w2):=⟨ho2,fun g hg=>by have h1:=hf2 g hg; have h2:=HC.out.size; exact Nat.le_trans h2 (Nat.le_trans hz2 h1),HC.out.trans hcc (fun _ _ h=>h)⟩
   clear ho2 hf2 hz2 hcc hc2 s2
   go_wp2
   go_ret3
   exact⟨_,dc.2,true,true,rfl,HF.out,GR.some HAT.out⟩
 | false =>
  have HNO:Bx (at_ ds k=none):=⟨at_none.2 (fun hm=>by simpa using hiff.2 hm)⟩
  clear hiff hat HB1 hc0 hc1
  go_wp2_with fail
  refine HB2.out.mono ?_
  rintro e w2 ⟨i2,o2,rfl,hiff,_,rfl⟩
  have HO:Bx (decide (k∈gs)=o2):=⟨by
   cases o2 with
   | true=>exact decide_eq_true (hiff.1 rfl)
   | false=>exact decide_eq_false (fun hm=>by simpa using hiff.2 hm)⟩
  clear hiff HB2
  go_wp2
  go_ret3
  exact⟨_,[],false,o2,rfl,fresh_none HC.out,GR.none HNO.out HO.out⟩
end
end
section
open Go.RowKit Go.Oct Go.Su Go.Sg Go.Fr
theorem laid_nums {w w1 w2:World} {bw:Nat} {v v1:Value} {xs zs:List Int} {n:Nat} (h:O.NumsRel w1 bw v1 xs zs n w2) (hz:zs.length=n) (hc:Ch (O.WS bw v) w w1) (hn:O.Newer w v v1):O.Laid w bw v (xs++zs.flatMap Oct.encI) w2:=by
 obtain⟨v',h1,h2,h3⟩:=h
 rw[List.take_of_length_le (by omega)] at h1
 exact⟨v',h1,hc.trans h2 (O.WS.of hn),hn.trans h3 hc.size⟩
section
variable {F:Nat→Prop}
theorem laykeys_any (bw:Nat) (v:Value) (xs:List Int) (l:List Key) (A:Option Addr) (n c:Nat) (w:World) (hw:O.Wr w bw v xs) (hz:Kss w F A n l) (hF:∀ b,F b→b<w.heap.size→¬ O.WS bw v b) (hn:n≤1000000) (hb:xs.length+(keysB l).length≤1000000000) :
  Calls Tryz.prog 101 #[.pointer (some ⟨bw,0,none⟩), .slice A n c] w fun e w'=>e = .returned (.tuple #[])∧O.Laid w bw v (xs++keysB l) w':=by
 have HL:=Bx.mk hz.len
 have HZ:=Bx.mk hz
 have HF:=Bx.mk hF
 have HB:=Bx.mk hb
 have hxl:xs.length≤1000000000:=by omega
 have hN:=O.nums_any bw v xs [(n:Int)] (some ⟨w.heap.size,0,none⟩) 1 1 (w.alloc (.cells #[.int .i64 (n:Nat)] 3)) (fun b=>b=w.heap.size) (by omega) (hw.ch ((Ch.refl (fun _=>False) w).alloc _) (fun _ _ h=>h)) (Vs.one _ _ _) (by
  rintro _ rfl h
  rcases h with h | h
  ·have:=hw.lt; omega
  ·have:=hw.row_lt h; omega) (by omega)
 have HN:=Bx.mk hN
 clear hz hF hb hN
 go_enter Tryz.func101,Tryz.ntmps101
 go_wp2_with fail
 refine HN.out.mono ?_
 rintro e w1 ⟨rfl,h1⟩
 have HL1:Bx (O.Laid w bw v (xs++encN n) w1):=⟨by
  have h2:=laid_nums h1 rfl ((Ch.refl (O.WS bw v) w).alloc _) (O.Newer.refl _ _)
  have e:[(n:Int)].flatMap Oct.encI=encN n:=by
   rw[List.flatMap_cons,List.flatMap_nil,List.append_nil]
   exact (enc_len (by omega)).1
  rwa[e] at h2⟩
 clear h1 HN hw
 go_wp2_with fail
 go_loopw [5,13] (fun _ i wr=>∃ k:Nat,k≤n∧i = .int .i64 k∧Bx (O.Laid w bw v (xs++encN n++(l.take k).flatMap kB) wr)) (fun _ i _=>n-(intOf i).toNat)
 case atStart=>exact⟨0,Nat.zero_le _,rfl,⟨by simpa using HL1.out⟩⟩
 case round =>
  obtain⟨k,hk,rfl,hLd⟩:=hrel
  obtain⟨v1,hw1,hch,hnew⟩:=hLd.out
  by_cases hlt:k<n
  ·have dk:decide ((k:Int)<(n:Int))=true:=decide_eq_true (by omega)
   obtain⟨bk,ok,x,rfl,hFb,hx,hck⟩:=HZ.out.at_ hlt
   have hcell:=hch.cell (HF.out bk hFb (lt_of_cell hck)) hck
   have hroom:=flat_room kB hx.out
   have hmore:=flat_more kB hx.out
   have hxb:x.length≤(kB x).length:=kB_len x
   have hall:(xs++encN n++(l.take k).flatMap kB).length+(kB x).length≤1000000000:=by
    have h1:=HB.out
    rw[keysB_eq,HL.out] at h1
    rw[List.length_append] at h1
    rw[List.length_append,List.length_append]
    omega
   obtain⟨SK,hSK⟩:∃ S:ByteArray,kv x = .string S:=⟨_,rfl⟩
   have i2:(k:Int)<(n:Int):=by omega
   have hxm:x.length≤1000000000:=by omega
   have HW1:=Bx.mk hw1
   have HCH:=Bx.mk hch
   have HNW:=Bx.mk hnew
   have HMO:=Bx.mk hmore
   have HALL:=Bx.mk hall
   clear hLd hw1 hch hnew hck hx hroom hmore hall hSK
   go_wp2_with (refine wp_bytes rfl (.tmp 18) rfl Tryz.underlying9 Tryz.underlying26 Tryz.underlying5 (k:=x) (by unfold maxLen; omega) rfl ?_)
   intro c6 w6 h61 h62 hs6 hC6
   have HW6:=Bx.mk (HW1.out.ch hC6 (fun _ _ h=>h))
   have HZ6:Bx (Sls (w6.alloc (.cells #[.slice (some ⟨wr.heap.size,0,none⟩) x.length c6] 26)) (fun b=>wr.heap.size≤b) (some ⟨w6.heap.size,0,none⟩) 1 [kI x]):=⟨by
    have h:=Sls.one (w:=w6) (F:=fun b=>b=wr.heap.size) (G:=fun b=>wr.heap.size≤b) (A:=some ⟨wr.heap.size,0,none⟩) (c:=c6) (xs:=kI x) 26 (by rw[kI_len]; exact hs6) (by rw[kI_len]; exact h61) h62 (fun b _ e=>by show wr.heap.size≤b; omega) hC6.size
    rw[kI_len] at h
    exact h⟩
   have HC6:=Bx.mk (HCH.out.trans hC6 (fun _ _ h=>h.elim))
   have hs:=hC6.size
   have HBY:=Bx.mk (O.bytes_any bw v1 _ [kI x] _ 1 1 _ _ (by omega) (HW6.out.ch ((Ch.refl (fun _=>False) w6).alloc _) (fun _ _ h=>h)) HZ6.out (by
    intro b hb _ h
    rcases h with h | h
    ·have:=HW1.out.lt; omega
    ·have:=HW1.out.row_lt h; omega) (by
    rw[List.flatMap_cons,List.flatMap_nil,List.append_nil]
    have h1:=HALL.out
    have h2:(kB x).length=(rowB (kI x)).length:=rfl
    omega))
   clear hs6 hC6 h61 h62 hs
   go_wp2_with fail
   refine HBY.out.mono ?_
   rintro e w7 ⟨rfl,h7⟩
   have HL7:Bx (O.Laid w bw v (xs++encN n++(l.take (k+1)).flatMap kB) w7):=⟨by
    have h8:=h7.trans (HC6.out.alloc _) HNW.out
    rw[HMO.out,←List.append_assoc]
    rw[List.flatMap_cons,List.flatMap_nil,List.append_nil] at h8
    exact h8⟩
   clear h7 HBY
   go_wp2_with fail
   go_roundw
   case rel=>exact⟨k+1,by omega,by go_num,HL7⟩
   case measure=>simp[intOf]; omega
  ·obtain rfl:n=k:=by omega
   have dk:decide ((n:Int)<(n:Int))=false:=decide_eq_false (by omega)
   have HE:Bx (O.Laid w bw v (xs++keysB l) wr):=⟨by
    have h:=hLd.out
    rw[List.take_of_length_le (by rw[HL.out]; exact Nat.le_refl _)] at h
    rw[keysB_eq,HL.out,←List.append_assoc]
    exact h⟩
   clear hLd hw1 hch hnew
   go_wp2
   go_returns
   exact⟨rfl,HE.out⟩
structure Hd (w wr:World) (bw:Nat) (v:Value) (ys:List Int):Prop where
 lay:O.Wr wr bw v ys
 ch:Ch (fun _=>False) w wr
 bl:w.heap.size≤bw
 vl:∀ g,v.ownBlock=some g→w.heap.size≤g
theorem Hd.keep {w wr w2:World} {bw:Nat} {v:Value} {ys:List Int} (h:Hd w wr bw v ys) (hc:Ch (fun _=>False) wr w2):Hd w w2 bw v ys :=
 ⟨h.lay.ch hc (fun _ _ h=>h),h.ch.trans hc (fun _ _ h=>h),h.bl,h.vl⟩
theorem Hd.laid {w wr w2:World} {bw:Nat} {v:Value} {ys zs:List Int} (h:Hd w wr bw v ys) (hl:O.Laid wr bw v zs w2):∃ v',Hd w w2 bw v' zs∧O.Newer wr v v':=by
 obtain⟨v',h1,h2,h3⟩:=hl
 refine⟨v',⟨h1,h.ch.trans h2 (fun i hi hs=>?_),h.bl,fun g hg=>?_⟩,h3⟩
 ·rcases hs with e | e
  ·have:=h.bl; omega
  ·have:=h.vl i e; omega
 ·rcases h3 g hg with e | e
  ·exact h.vl g e
  ·exact Nat.le_trans h.ch.size e
theorem Hd.apart {w wr:World} {bw:Nat} {v:Value} {ys:List Int} (h:Hd w wr bw v ys):∀ b,b<w.heap.size→¬ O.WS bw v b:=fun b hb hs=>by
 rcases hs with e | e
 ·have:=h.bl; omega
 ·have:=h.vl b e; omega
theorem held_any {w:World} {b:Nat} {ds:List Dc} {gs:List Key} (h:Sp w F b ds gs) (hf:Fit ds gs) :
  Calls Tryz.prog 49 #[.pointer (some ⟨b,0,none⟩)] w (BodyOf ds gs w):=by
 obtain⟨x,A,n,c,B,m,d,h0⟩:=h
 have hlt:Sp0 w (fun k=>k<w.heap.size) b x A n c B m d ds gs:=h0.mono fun k hk _=>hk
 have HS:=Bx.mk hlt
 have HF:=Bx.mk hf
 have hl:=h0.len
 have hln:=hf.ln
 have hlm:=hf.lm
 have hn:n≤1000000:=by omega
 have hm:m≤1000000:=by omega
 have HK1:Bx ((keysB (ks ds)).length≤20000000):=⟨by
  have h1:=hf.lk
  have h2:=(enc_len (n:=(ks ds).length) (by rw[ks_len]; omega)).2
  rw[keysB_eq,List.length_append]
  omega⟩
 have HK2:Bx ((keysB gs).length≤20000000):=⟨by
  have h1:=hf.lg
  have h2:=(enc_len (n:=gs.length) (by omega)).2
  rw[keysB_eq,List.length_append]
  omega⟩
 clear h0 hlt hf hl hln hlm
 have hC0:=(Ch.refl (fun _=>False) w).alloc (.cells #[.slice none 0 0] 145)
 have HD0:Bx (Hd w (w.alloc (.cells #[.slice none 0 0] 145)) w.heap.size (.slice none 0 0) []):=⟨⟨⟨heap_alloc_new w _,World.ownsRow_nil _ _ _ _⟩,hC0,Nat.le_refl _,fun g hg=>by simp[Value.ownBlock] at hg⟩⟩
 have kc:=Joins.run_convert_bytes_const_at (P := Tryz.prog) (w.alloc (.cells #[.slice none 0 0] 145)) 26 5 #[.int .u8 83, .int .u8 1] 2 2 (w.heap.size+1) (by simp) Tryz.underlying26 Tryz.underlying5
 go_enter Tryz.func49,Tryz.ntmps49
 go_wp2_with fail
 clear kc
 have hs0:(w.alloc (.cells #[.slice none 0 0] 145)).heap.size=w.heap.size+1:=World.size_alloc ..
 rw[←hs0]
 generalize w.alloc (.cells #[.slice none 0 0] 145)=w0 at *
 obtain⟨bw,hbw⟩:∃ bw,w.heap.size=bw:=⟨_,rfl⟩
 rw[hbw] at HD0 ⊢
 have hr1:Sl (w0.alloc (.cells #[.int .u8 83, .int .u8 1] 5 (2,3))) (fun _=>True) .u8 (some ⟨w0.heap.size,0,none⟩) 2 [83,1] :=
  (Vs.built w0 5 [.int .u8 83, .int .u8 1] (2,3)).mono fun _ _ _=>trivial
 have HD1:=Bx.mk (HD0.out.keep ((Ch.refl _ w0).alloc (.cells #[.int .u8 83, .int .u8 1] 5 (2,3))))
 have HR1:=Bx.mk (O.raw_any bw _ [] [83,1] _ 2 2 _ _ HD1.out.lay hr1 (by simp))
 clear hr1 HD0 hC0 hs0
 refine HR1.out.mono ?_
 rintro e w2 ⟨rfl,h2⟩
 obtain⟨v2,hd2,_⟩:=HD1.out.laid h2
 have HD2:=Bx.mk hd2
 have hs2:=HS.out.keep hd2.ch
 have hc1:=hs2.c1
 have HK:=Bx.mk (laykeys_any bw v2 [83,1] (ks ds) A n c w2 hd2.lay hs2.keys (fun k hk _=>hd2.apart k hk) hn (by have:=HK1.out; simp; omega))
 clear h2 hd2 hs2 HR1 HD1
 go_wp2_with fail
 refine HK.out.mono ?_
 rintro e w3 ⟨rfl,h3⟩
 obtain⟨v3,hd3,_⟩:=HD2.out.laid h3
 have HD3:=Bx.mk hd3
 have hs3:=HS.out.keep hd3.ch
 have hc2:=hs3.c2
 have HK3:=Bx.mk (laykeys_any bw v3 ([83,1]++keysB (ks ds)) gs B m d w3 hd3.lay hs3.gone (fun k hk _=>hd3.apart k hk) hm (by have h1:=HK1.out; have h2:=HK2.out; rw[List.length_append]; simp; omega))
 clear h3 hd3 hs3 HK HD2
 go_wp2_with fail
 refine HK3.out.mono ?_
 rintro e w4 ⟨rfl,h4⟩
 obtain⟨v4,hd4,_⟩:=HD3.out.laid h4
 have HD4:=Bx.mk hd4
 have hs4:=HS.out.keep hd4.ch
 have hc0:=hs4.c0
 have HT:=Bx.mk (X.turnedx_cap hs4.ix)
 have hvl4:∀ g,v4.ownBlock=some g→g<w4.heap.size:=fun g hg=>hd4.lay.row_lt hg
 have hbl4:bw<w4.heap.size:=hd4.lay.lt
 have HVL:=Bx.mk hvl4
 have HBL:=Bx.mk hbl4
 clear h4 hd4 hs4 HK3 HD3 hvl4 hbl4 hc1 hc2
 go_wp2_with fail
 refine HT.out.mono ?_
 rintro e w5 ⟨A5,c5,q,tl,rfl,hq,hS5,hT5,h51,h52,hC5⟩
 have hqb:q≤65536:=by rw[hq]; exact HF.out.lt
 have HD5:=Bx.mk (HD4.out.keep hC5)
 have HT5:=Bx.mk hT5
 have HQL:Bx (tl.length=q):=⟨hS5.len⟩
 have HS5:Bx (Sl w5 (fun k=>w4.heap.size≤k∧k<w5.heap.size) .i64 A5 q tl):=⟨hS5.mono fun k hk h=>⟨h,hk⟩⟩
 obtain⟨Y,hY⟩:∃ Y,[83,1]++keysB (ks ds)++keysB gs=Y:=⟨_,rfl⟩
 have HY:=Bx.mk hY
 rw[hY] at HD5
 have hYl:Y.length≤50000000:=by
  have h1:=HK1.out
  have h2:=HK2.out
  rw[←hY,List.length_append,List.length_append]
  simp
  omega
 have HCW5:=Bx.mk hC5.size
 have hN:=O.nums_any bw v4 Y [(q:Int)] (some ⟨w5.heap.size,0,none⟩) 1 1 (w5.alloc (.cells #[.int .i64 (q:Nat)] 3)) (fun b=>b=w5.heap.size) (by omega) (HD5.out.lay.ch ((Ch.refl (fun _=>False) w5).alloc _) (fun _ _ h=>h)) (Vs.one _ _ _) (by
  rintro _ rfl h
  rcases h with h | h
  ·have:=HD5.out.lay.lt; omega
  ·have:=HD5.out.lay.row_lt h; omega) (by omega)
 have HN:=Bx.mk hN
 clear hS5 hT5 hq h51 h52 hC5 hY hN HT HD4 hc0
 go_wp2_with fail
 refine HN.out.mono ?_
 rintro e w6 ⟨rfl,h6⟩
 have hl6:O.Laid w5 bw v4 (Y++encN q) w6:=by
  have h2:=laid_nums h6 rfl ((Ch.refl (O.WS bw v4) w5).alloc _) (O.Newer.refl _ _)
  have e:[(q:Int)].flatMap Oct.encI=encN q:=by
   rw[List.flatMap_cons,List.flatMap_nil,List.append_nil]
   exact (enc_len (by omega)).1
  rwa[e] at h2
 obtain⟨v6,hd6,hn6⟩:=HD5.out.laid hl6
 obtain⟨_,_,hch6,_⟩:=hl6
 have HD6:=Bx.mk hd6
 have hel:=(enc_len (n:=q) (by omega)).2
 have hw5:∀ k,w4.heap.size≤k∧k<w5.heap.size→¬ O.WS bw v4 k:=fun k hk h=>by
  rcases h with h | h
  ·have:=HBL.out; omega
  ·have:=HVL.out k h; omega
 have HN6:=Bx.mk (O.nums_any bw v6 (Y++encN q) tl A5 q c5 w6 _ (by omega) hd6.lay (HS5.out.ch hch6 (fun k hk _=>hw5 k hk)) (fun k hk h=>by
  rcases h with h | h
  ·have:=HBL.out; omega
  ·rcases hn6 k h with h2 | h2
   ·have:=HVL.out k h2; omega
   ·omega) (by rw[List.length_append]; omega))
 clear h6 hd6 hn6 hch6 hw5 HN HS5 HD5
 go_wp2_with fail
 refine HN6.out.mono ?_
 rintro e w7 ⟨rfl,h7⟩
 obtain⟨v7,hd7,_⟩:=HD6.out.laid (laid_nums h7 HQL.out (Ch.refl _ _) (O.Newer.refl _ _))
 have hbod:Y++encN q++tl.flatMap Oct.encI=bod ds gs tl:=by
  rw[←HY.out]
  unfold bod
  rw[HQL.out,List.append_assoc]
 rw[hbod] at hd7
 have HD7:=Bx.mk hd7
 have HO:=Bx.mk (O.out_any bw v7 (bod ds gs tl) w7 hd7.lay (by have:=HF.out.lb tl HT5.out; omega))
 clear h7 hd7 hbod HN6 HD6
 go_wp2_with fail
 refine HO.out.mono ?_
 rintro e w8 ⟨v8,rfl,hf8⟩
 have HF8:Bx (Fresh w v8 (bod ds gs tl) w8):=⟨hf8.1,fun g hg=>Nat.le_trans HD7.out.ch.size (hf8.2.1 g hg),HD7.out.ch.trans hf8.2.2 (fun _ _ h=>h)⟩
 clear hf8 HO
 go_wp2
 go_ret
 exact⟨v8,tl,rfl,HT5.out,HF8.out⟩
end
end
section
open Go.RowKit Go.Oct Go.Su Go.Sg Go.Fr
theorem encode_nil (w:World):Calls Tryz.prog 20 #[.pointer none] w fun e w'=>e = .returned (.slice none 0 0)∧Ch (fun _=>False) w w':=by
 go_enter Tryz.func20,Tryz.ntmps20
 go_wp2_with fail
 refine (keyless_nil w).mono ?_
 rintro e w1 ⟨rfl,hc⟩
 go_wp2
 go_ret
 exact⟨rfl,hc⟩
section
variable {F:Nat→Prop}
theorem enc_any {w:World} {b:Nat} {ds:List Dc} {gs:List Key} (h:Sp w F b ds gs) (hf:Fit ds gs) (ht:O.Tab w) :
  Calls Tryz.prog 20 #[.pointer (some ⟨b,0,none⟩)] w (EncOf ds gs w):=by
 have HK:=Bx.mk (keyless_any h)
 have HH:=Bx.mk h
 have HF:=Bx.mk hf
 have HT:=Bx.mk ht
 clear h hf ht
 go_enter Tryz.func20,Tryz.ntmps20
 go_wp2_with fail
 refine HK.out.mono ?_
 rintro e w1 ⟨rfl,hc⟩
 have HC:=Bx.mk hc
 have HD:=Bx.mk (held_any (HH.out.keep hc) HF.out)
 clear hc HK
 go_wp2_with fail
 refine HD.out.mono ?_
 rintro e w2 ⟨v2,t,rfl,hT,hf2⟩
 obtain⟨N,hN⟩:∃ N,(bod ds gs t).length=N:=⟨_,rfl⟩
 have hNb:N≤1048512:=by have:=HF.out.lb t hT; omega
 obtain⟨A2,c2,rfl,h21,h22⟩:=fr_shape (ys:=bod ds gs t) hf2 hN
 have HTT:=Bx.mk hT
 have HC2:=Bx.mk (HC.out.trans hf2.2.2 (fun _ _ h=>h))
 have hsl:=Fresh.sl hf2 hN.symm
 have HE:=Bx.mk (encode_any [bod ds gs t] (some ⟨w2.heap.size,0,none⟩) 1 1 (w2.alloc (.cells #[.slice A2 N c2] 26)) ((HT.out.ch HC2.out (fun h=>h)).alloc _) (row_one (bod ds gs t) A2 N c2 w2 _ hsl h21 h22) (by omega) (by rw[cat_one]; omega) (by
  intro x hx
  simp at hx
  subst hx
  exact bod_byt ds gs t))
 rw[cat_one] at HE
 have HNN:=Bx.mk hN
 clear hf2 hT hN hsl HD h21 h22
 go_wp2_with fail
 refine HE.out.mono ?_
 rintro e w3 (⟨hbig,_⟩ | ⟨_,v3,rfl,hf3⟩)
 ·rw[HNN.out] at hbig
  omega
 ·have HF3:Bx (Fresh w v3 (frm (bod ds gs t)) w3):=⟨hf3.1,fun g hg=>by
   have h1:=hf3.2.1 g hg
   have h2:=HC2.out.size
   have h3:=World.size_alloc w2 (.cells #[.slice A2 N c2] 26)
   omega,(HC2.out.alloc _).trans hf3.2.2 (fun _ _ h=>h)⟩
  clear hf3 HE
  go_wp2
  go_ret
  exact⟨v3,t,rfl,HTT.out,HF3.out⟩
end
end
section
open Go.RowKit Go.Oct Go.Su Go.Sg Go.Sort
theorem own_at {w:World} {e:TypeId} {s n c:Nat} {A:Option Addr} {us:List Value} (h:w.ownsRow 0 e s (.slice A n c) n us) (hn:0<n):∃ g,A=some ⟨g,0,none⟩∧Own w e s g n c us:=by
 rcases h.2 with ⟨_,h0⟩ | ⟨g,cap,cur,hv,_⟩
 ·omega
 ·injection hv with e1 _ e2
  subst e1 e2
  exact⟨g,rfl,⟨h⟩⟩
theorem own_setCellsS {e:TypeId} {s g n c:Nat}:∀ (vs:List Value) (off:Nat) (w:World) (us:List Value),Own w e s g n c us→off+vs.length≤n*s→Own (w.setCells g off vs) e s g n c (us.take off++(vs++us.drop (off+vs.length)))
 | [],off,w,us,h,_=>by simpa[World.setCells] using h
 | v::vs,off,w,us,h,hl=>by
  have hu:=h.len
  rw[List.length_cons] at hl
  have h1:=own_setCellsS vs (off+1) _ _ (h.stored off v).1 (by omega)
  rw[World.setCells]
  have e1:(us.set off v).take (off+1)=us.take off++[v]:=by
   rw[List.take_add_one,List.take_set_of_le (Nat.le_refl _),List.getElem?_set_self (by omega)]
   rfl
  have e2:(us.set off v).drop (off+1+vs.length)=us.drop (off+(vs.length+1)):=by
   rw[List.drop_set_of_lt (by omega),show off+1+vs.length=off+(vs.length+1) by omega]
  rw[e1,e2,List.append_assoc] at h1
  exact h1
theorem own_laid {e:TypeId} {s g n c:Nat} {vs us:List Value} {w:World} (h:Own w e s g n c us) (hl:vs.length=n*s):Own (w.setCells g 0 vs) e s g n c vs:=by
 have h1:=own_setCellsS vs 0 w us h (by omega)
 rw[List.take_zero,List.nil_append,Nat.zero_add,hl,List.drop_eq_nil_of_le (by rw[h.len]; exact Nat.le_refl _),List.append_nil] at h1
 exact h1
theorem ch_setCells (g:Nat):∀ (vs:List Value) (off:Nat) (w:World),Ch (fun b=>b=g) w (w.setCells g off vs)
 | [],off,w=>by simpa[World.setCells] using Ch.refl _ w
 | v::vs,off,w=>by
  rw[World.setCells]
  exact ((Ch.refl (fun b=>b=g) w).setCell (p:=⟨g,off,none⟩) (.inl rfl) v).trans (ch_setCells g vs _ _) (fun _ _ h=>h)
theorem Gs.over {e:TypeId} {s n c:Nat} {w w1 w2:World} {A:Option Addr} {us vs:List Value} (h:Gs e s w w1 (.slice A n c) n us) (ho:w2.ownsRow 0 e s (.slice A n c) n vs) (hc:Ch (fun b=>(Value.slice A n c).ownBlock=some b) w1 w2):Gs e s w w2 (.slice A n c) n vs :=
 ⟨ho,h.lies,h.ch.trans hc (fun i hi hb=>by have:=h.lies i hb; omega)⟩
/-! ### keys -/
theorem sorted_keys (l:List Key):Srt (l.mergeSort fun x y=>decide (x≤y)) :=
 (List.pairwise_mergeSort (le:=fun x y:Key=>decide (x≤y)) (fun a b c h1 h2=>by
  simp only[decide_eq_true_eq] at *
  exact List.le_trans h1 h2) (fun a b=>by
  simp only[Bool.or_eq_true,decide_eq_true_eq]
  exact List.le_total a b) l).imp fun {x y} h=>by
  simp only[decide_eq_true_eq] at h
  exact List.not_lt.2 h
def SortedOf (l:List Key) (A:Option Addr) (n c:Nat) (w0 w:World) (e:Ending) (w':World):Prop:=e = .returned (.tuple #[])∧∃ m:List Key,Srt m∧m.Perm l∧Gs 9 1 w0 w' (.slice A n c) n (m.map kv)∧Ch (fun b=>(Value.slice A n c).ownBlock=some b) w w'
theorem sortk_any (l:List Key) (A:Option Addr) (n c:Nat) (w0 w:World) (h:Gs 9 1 w0 w (.slice A n c) n (l.map kv)) (hn:n≤1048576) :
  Calls Tryz.prog 44 #[.slice A n c] w (SortedOf l A n c w0 w):=by
 have hl:l.length=n:=by have:=h.own.1; simpa using this
 rcases Nat.eq_zero_or_pos n with h0 | h0
 ·subst h0
  obtain rfl:l=[]:=List.eq_nil_of_length_eq_zero hl
  have hc:=AnyM.slices_Sort_string_none Tryz.sxSort A c w
  refine hc.mono ?_
  rintro e w' ⟨rfl,rfl⟩
  exact⟨rfl,[],List.Pairwise.nil,List.Perm.refl _,h,Ch.refl _ _⟩
 ·obtain⟨g,rfl,hO⟩:=own_at h.own h0
  have hH:Holds encStr w g 0 l.toArray:=by
   intro j hj
   rw[List.size_toArray] at hj
   refine⟨?_,by rw[Nat.zero_add]; exact hO.frozenAt j⟩
   rw[Nat.zero_add]
   refine hO.cellAt ?_
   rw[List.getElem?_map,List.getElem?_eq_getElem hj,getElem!_pos l.toArray j (by rw[List.size_toArray]; exact hj)]
   rfl
  have hc:=AnyM.slices_Sort_string Tryz.sxSort g 0 c l w hH hO.lt (by rw[hl]; omega)
  rw[hl] at hc
  refine hc.mono ?_
  rintro e w' ⟨rfl,m,os,rfl⟩
  have hlen:(l.mergeSort fun x y=>decide (x≤y)).length=n:=by rw[List.length_mergeSort,hl]
  rw[Lib.sorted_world encStr w g 0 m l.toArray _ os hH (by rw[hlen,List.size_toArray,hl])]
  have hOd:Own (w.drewN m) 9 1 g n c (l.map kv):=hO.keep ((Ch.refl (fun _=>False) w).drewN m)
  have h1:=own_laid (vs:=(l.mergeSort fun x y=>decide (x≤y)).map encStr) hOd (by rw[List.length_map,hlen,Nat.mul_one])
  have hcc:Ch (fun b=>b=g) w (grow ((w.drewN m).setCells g 0 ((l.mergeSort fun x y=>decide (x≤y)).map encStr)) os):=ch_grow (((Ch.refl (fun b=>b=g) w).drewN m).trans (ch_setCells g _ 0 _) (fun _ _ h=>h)) os
  have hch:Ch (fun b=>(Value.slice (some ⟨g,0,none⟩) n c).ownBlock=some b) w (grow ((w.drewN m).setCells g 0 ((l.mergeSort fun x y=>decide (x≤y)).map encStr)) os):=hcc.mono fun i _ hi=>by subst hi; rfl
  exact⟨rfl,_,sorted_keys l,List.mergeSort_perm l _,h.over (h1.keep (ch_grow (Ch.refl _ _) os)).own hch,hch⟩
/-! ### documents -/
theorem cmpS_lt (a b:Key):decide (cmpS ⟨a.toArray⟩ ⟨b.toArray⟩<0)=decide (a<b):=by
 unfold cmpS
 rw[Lib.toList_data,Lib.toList_data,less_eq]
 by_cases h1:a<b
 ·simp[h1]
 ·by_cases h2:(a==b)=true <;> simp[h1,h2]
theorem newclosure_any (a b:Key) (u v:Value) (W:World) (_:u.oneCell'=true) (_:v.oneCell'=true) :
  Calls Tryz.prog 42 #[.agg #[kv a,u], .agg #[kv b,v]] W fun e w'=>e = .returned (.int .i64 (cmpS ⟨a.toArray⟩ ⟨b.toArray⟩))∧∃ q os',w'=grow (W.drewN q) os':=by
 obtain⟨S,hS⟩:∃ S:ByteArray,(⟨a.toArray⟩:ByteArray)=S:=⟨_,rfl⟩
 obtain⟨T,hT⟩:∃ T:ByteArray,(⟨b.toArray⟩:ByteArray)=T:=⟨_,rfl⟩
 have ea:kv a = .string S:=by unfold kv; rw[hS]
 have eb:kv b = .string T:=by unfold kv; rw[hT]
 rw[ea,eb,hS,hT]
 clear ea eb hS hT
 go_enter Tryz.func42,Tryz.ntmps42
 go_wp2_with fail
 refine (compare_any S T _).mono ?_
 rintro e w1 ⟨rfl,rfl⟩
 go_wp2
 go_ret
 exact⟨rfl,0,_,by rw[alloc_eq_grow,alloc_eq_grow,grow_grow]; rfl⟩
section
variable {F:Nat→Prop}
theorem ltD (k:Nat→Key) {n:Nat} (x y:Fin n):ltOf (fun x y:Fin n=>cmpS ⟨(k x).toArray⟩ ⟨(k y).toArray⟩) x y=decide (k x<k y):=by
 unfold ltOf
 exact cmpS_lt _ _
theorem swoD (k:Nat→Key) (n:Nat):SWO (ltOf (fun x y:Fin n=>cmpS ⟨(k x).toArray⟩ ⟨(k y).toArray⟩)) where
 irrefl x:=by rw[ltD]; simp[key_irrefl]
 trans x y z h1 h2:=by rw[ltD] at *; simp only[decide_eq_true_eq] at *; exact key_trans h1 h2
 ntrans x y z h1 h2:=by rw[ltD] at *; simp only[decide_eq_false_iff_not] at *; exact key_le_trans h2 h1
def SortedD (F:Nat→Prop) (ds:List Dc) (A:Option Addr) (n c:Nat) (w0 w:World) (e:Ending) (w':World):Prop:=e = .returned (.tuple #[])∧∃ (es:List Dc) (vs:List Value),es.Perm ds∧Srt (ks es)∧vs.length=n∧Oct.Rows w0 F vs (ts es)∧Gs 37 2 w0 w' (.slice A n c) n (dcV (ks es) vs)∧Ch (fun b=>(Value.slice A n c).ownBlock=some b) w w'
theorem sortd_any (ds:List Dc) (vs:List Value) (A:Option Addr) (n c:Nat) (w0 w:World) (h:Gs 37 2 w0 w (.slice A n c) n (dcV (ks ds) vs)) (hl:ds.length=n) (hv:vs.length=n) (hR:Oct.Rows w0 F vs (ts ds)) (hn:n≤1048576) :
  Calls Tryz.prog 41 #[.slice A n c, .func (.func 42) #[] #[]] w (SortedD F ds A n c w0 w):=by
 rcases Nat.eq_zero_or_pos n with h0 | h0
 ·subst h0
  obtain rfl:ds=[]:=List.eq_nil_of_length_eq_zero hl
  obtain rfl:vs=[]:=List.eq_nil_of_length_eq_zero hv
  have hc:=AnyF.slices_SortFunc_none Tryz.sxSortD A c (.func (.func 42) #[] #[]) w
  refine hc.mono ?_
  rintro e w' ⟨rfl,rfl⟩
  exact⟨rfl,[],[],List.Perm.refl _,List.Pairwise.nil,rfl,hR,h,Ch.refl _ _⟩
 ·obtain⟨g,rfl,hO⟩:=own_at h.own h0
  haveI:Inhabited (Fin n):=⟨⟨0,h0⟩⟩
  obtain⟨key,hkey⟩:∃ key:Nat→Key,∀ i (hi:i<n),(ks ds)[i]? = some (key i):=⟨fun i=>(ks ds).getD i [],fun i hi=>by show (ks ds)[i]? = some ((ks ds).getD i []); rw[List.getD_eq_getElem?_getD,List.getElem?_eq_getElem (by rw[ks_len,hl]; exact hi)]; rfl⟩
  obtain⟨val,hval⟩:∃ val:Nat→Value,∀ i (hi:i<n),vs[i]? = some (val i):=⟨fun i=>vs.getD i (.bool false),fun i hi=>by show vs[i]? = some (vs.getD i (.bool false)); rw[List.getD_eq_getElem?_getD,List.getElem?_eq_getElem (by rw[hv]; exact hi)]; rfl⟩
  have hv1:∀ i,i<n→(val i).oneCell'=true:=fun i hi=>(rows_cells hR) _ (List.mem_of_getElem? (hval i hi))
  obtain⟨enc,henc⟩:∃ enc:Fin n→List Value,enc=fun x=>[kv (key x.val),val x.val]:=⟨_,rfl⟩
  have hlk:(ks ds).length=vs.length:=by rw[ks_len,hl,hv]
  have hd:(Array.ofFn (fun i:Fin n=>i)).size=n:=by simp
  have hdj:∀ j (h:j<n),(Array.ofFn (fun i:Fin n=>i))[j]! = ⟨j,h⟩:=fun j h=>by
   rw[getElem!_pos _ j (by rw[hd]; exact h)]
   simp
  have hflat:∀ (d:Array (Fin n)) (l:List Key) (us:List Value),d.size=n→l.length=us.length→l.length=n→(∀ i (hi:i<n),l[i]? = some (key (d[i]!).val)∧us[i]? = some (val (d[i]!).val))→∀ j,j<n*2→(dcV l us)[j]? = some (flatK enc 2 d)[j]! := by
   intro d l us hds hlu hln hiu j hj
   rw[get_flatK _ _ _ _ (by rw[hds]; exact hj),henc]
   obtain⟨k1,k2⟩:=hiu (j/2) (by omega)
   obtain⟨c1,c2⟩:=dcV_at l us (j/2) _ _ k1 k2
   rcases Nat.mod_two_eq_zero_or_one j with hm | hm
   ·rw[show j/2*2=j by omega] at c1
    rw[c1,hm]
    rfl
   ·rw[show j/2*2+1=j by omega] at c2
    rw[c2,hm]
    rfl
  have hHolds:HoldsK enc 2 w g 0 (Array.ofFn (fun i:Fin n=>i)):=by
   intro j hj
   rw[size_flatK,hd] at hj
   refine⟨?_,by rw[Nat.zero_add]; exact hO.frozenAt j⟩
   rw[Nat.zero_add]
   exact hO.cellAt (hflat _ _ _ hd hlk (by rw[ks_len,hl]) (fun i hi=>by rw[hdj i hi]; exact⟨hkey i hi,hval i hi⟩) j hj)
  have eg:∀ args w,(callFunc 42 args).run Tryz.prog w = .ok (.enter 42 args) w:=enters_of Tryz.func42 (by kernel_rfl) rfl
  have hcmp:CmpLays Tryz.prog 42 #[] enc 2 (fun x y:Fin n=>cmpS ⟨(key x.val).toArray⟩ ⟨(key y.val).toArray⟩) g 0 (Array.ofFn (fun i:Fin n=>i)).size w:=by
   intro m os dk _ x y
   have:=newclosure_any (key x.val) (key y.val) (val x.val) (val y.val) (sortWorldK enc 2 w g 0 m dk os) (hv1 _ x.isLt) (hv1 _ y.isLt)
   rw[henc] at this ⊢
   exact this
  have hcon:=AnyQ.slices_SortFunc Tryz.sxSortD 2 Tryz.isAgg37 Tryz.sizeOf37 enc (fun x=>by rw[henc]; rfl) (fun x v hx=>by
   rw[henc] at hx
   simp at hx
   rcases hx with rfl | rfl
   ·rfl
   ·exact hv1 _ x.isLt) (fun x y:Fin n=>cmpS ⟨(key x.val).toArray⟩ ⟨(key y.val).toArray⟩) (swoD (fun i=>key i) n) 42 #[] g 0 c (Array.ofFn (fun i:Fin n=>i)) w eg hcmp hHolds hO.lt (by rw[hd]; omega)
  change Calls Tryz.prog 41 _ _ _ at hcon
  rw[hd] at hcon
  refine hcon.mono ?_
  rintro e w' ⟨rfl,d',k,os,hp,hsrt,rfl⟩
  have hds:d'.size=n:=by rw[hp.1,hd]
  have hperm:d'.toList.Perm (Array.ofFn (fun i:Fin n=>i)).toList:=by
   have:=hp.2.2
   have e1:d'.extract 0 n=d':=by
    apply Array.ext
    ·simp[hds]
    ·intro i h1 h2
     simp
   have e2:(Array.ofFn (fun i:Fin n=>i)).extract 0 n=Array.ofFn (fun i:Fin n=>i):=by
    apply Array.ext
    ·simp
    ·intro i h1 h2
     simp
   rwa[e1,e2] at this
  obtain⟨f,hf⟩:∃ f:Fin n→Dc,∀ i:Fin n,ds[i.val]? = some (f i):=⟨fun i=>ds.getD i.val ([],[]),fun i=>by show ds[i.val]? = some (ds.getD i.val ([],[])); rw[List.getD_eq_getElem?_getD,List.getElem?_eq_getElem (by rw[hl]; exact i.isLt)]; rfl⟩
  have hfk:∀ i:Fin n,(f i).1=key i.val:=fun i=>by
   have h1:=ks_get (hf i)
   rw[hkey i.val i.isLt] at h1
   injection h1 with h1
   exact h1.symm
  have hdsf:ds=(Array.ofFn (fun i:Fin n=>i)).toList.map f:=by
   refine List.ext_getElem? fun i=>?_
   by_cases hi:i<n
   ·rw[List.getElem?_map,hf ⟨i,hi⟩,List.getElem?_eq_getElem (by simpa using hi)]
    simp
   ·rw[List.getElem?_eq_none (by omega),List.getElem?_eq_none (by simp; omega)]
  have hat:∀ i (hi:i<n),d'.toList[i]? = some (d'[i]!):=fun i hi=>by
   rw[getElem!_pos d' i (by omega),List.getElem?_eq_getElem (by simpa[hds] using hi)]
   simp
  have hke:∀ i (hi:i<n),(ks (d'.toList.map f))[i]? = some (key (d'[i]!).val):=fun i hi=>by
   unfold ks
   rw[List.getElem?_map,List.getElem?_map,hat i hi]
   simp only[Option.map_some,hfk]
  have hve:∀ i (hi:i<n),(d'.toList.map fun x:Fin n=>val x.val)[i]? = some (val (d'[i]!).val):=fun i hi=>by
   rw[List.getElem?_map,hat i hi]
   rfl
  have hlen':d'.toList.length=n:=by simpa using hds
  refine⟨rfl,d'.toList.map f,d'.toList.map fun x=>val x.val,?_,?_,by simpa using hds,?_,?_⟩
  ·rw[hdsf]
   exact hperm.map f
  ·refine List.pairwise_iff_getElem.2 fun i j hi hj hij=>?_
   rw[ks_len,List.length_map,hlen'] at hi hj
   have h1:=hsrt i j (Nat.zero_le _) hij (by exact hj)
   rw[ltD (fun i=>key i)] at h1
   have e1:=hke i hi
   have e2:=hke j hj
   rw[List.getElem?_eq_getElem (by rw[ks_len,List.length_map,hlen']; exact hi)] at e1
   rw[List.getElem?_eq_getElem (by rw[ks_len,List.length_map,hlen']; exact hj)] at e2
   injection e1 with e1
   injection e2 with e2
   rw[e1,e2]
   simpa using h1
  ·refine⟨by simp[ts],fun i u xs hu hx=>?_⟩
   have hi:i<n:=by
    have:=(List.getElem?_eq_some_iff.1 hu).1
    rw[List.length_map,hlen'] at this
    exact this
   rw[hve i hi] at hu
   unfold ts at hx
   rw[List.getElem?_map,List.getElem?_map,hat i hi] at hx
   refine hR.2 (d'[i]!).val u xs ?_ ?_
   ·rw[hval _ (d'[i]!).isLt]
    exact hu
   ·unfold ts
    rw[List.getElem?_map,hf]
    exact hx
  ·have hfl:(flatK enc 2 d').toList=dcV (ks (d'.toList.map f)) (d'.toList.map fun x=>val x.val):=by
    have hl2:(ks (d'.toList.map f)).length=(d'.toList.map fun x:Fin n=>val x.val).length:=by rw[ks_len,List.length_map,List.length_map]
    refine List.ext_getElem? fun j=>?_
    by_cases hj:j<n*2
    ·rw[hflat d' _ _ hds hl2 (by rw[ks_len,List.length_map,hlen']) (fun i hi=>⟨hke i hi,hve i hi⟩) j hj,List.getElem?_eq_getElem (by simp[hds]; exact hj),getElem!_pos (flatK enc 2 d') j (by rw[size_flatK,hds]; exact hj)]
     simp
    ·rw[List.getElem?_eq_none (by simp[hds]; omega),List.getElem?_eq_none (by rw[dcV_len _ _ hl2,ks_len,List.length_map,hlen']; omega)]
   have hw:sortWorldK enc 2 w g 0 k d' os=grow ((w.drewN k).setCells g 0 ((flatK enc 2 d').toList)) os:=by
    unfold sortWorldK putRowK
    have:=Lib.sorted_world id w g 0 k _ (flatK enc 2 d').toList os hHolds (by rw[Array.length_toList,size_flatK,size_flatK,hds,hd])
    rw[Array.toArray_toList,List.map_id] at this
    exact this
   rw[hw,hfl]
   have hOd:Own (w.drewN k) 37 2 g n c (dcV (ks ds) vs):=hO.keep ((Ch.refl (fun _=>False) w).drewN k)
   have h1:=own_laid (vs:=dcV (ks (d'.toList.map f)) (d'.toList.map fun x=>val x.val)) hOd (by rw[dcV_len _ _ (by rw[ks_len,List.length_map,List.length_map]),ks_len,List.length_map,hlen'])
   have hcc:Ch (fun b=>b=g) w (grow ((w.drewN k).setCells g 0 (dcV (ks (d'.toList.map f)) (d'.toList.map fun x=>val x.val))) os):=ch_grow (((Ch.refl (fun b=>b=g) w).drewN k).trans (ch_setCells g _ 0 _) (fun _ _ h=>h)) os
   have hch:=hcc.mono (T:=fun b=>b=g) (S:=fun b=>(Value.slice (some ⟨g,0,none⟩) n c).ownBlock=some b) fun i _ hi=>by subst hi; rfl
   exact⟨h.over (h1.keep (ch_grow (Ch.refl _ _) os)).own hch,hch⟩
end
end
section
open Go.RowKit Go.Oct Go.Su Go.Sg
theorem growk_any (n:Nat) (w:World) (hn:n≤1048576):Calls Tryz.prog 155 #[.slice none 0 0, .int .i64 n] w fun e w'=>∃ v,e = .returned v∧Gs 9 1 w w' v 0 []:=by
 rcases Nat.eq_zero_or_pos n with h0 | h0
 ·subst h0
  have hc:=Any8.slices_Grow_room Tryz.sxGrow none 0 0 0 w (Nat.le_refl _) (by omega) (by omega) (by omega)
  refine hc.mono ?_
  rintro e w' ⟨rfl,rfl⟩
  exact⟨_,rfl,Gs.nil _ _ _⟩
 ·obtain⟨i,hi,hz,hs,hby⟩:=info_parts elemS.info
  have hc:=Any8.slices_Grow_grow Tryz.sxGrow i (.string ByteArray.empty) hi hz (by omega) none 0 0 n [] w (Nat.le_refl _) (by omega) (by rw[hby]; omega) (by omega) (by simp) (fun _=>rfl) (fun a ha=>by cases ha)
  refine hc.mono ?_
  rintro e w' ⟨rfl,rfl⟩
  refine⟨_,rfl,?_,fun g hg=>?_,((Ch.refl _ w).drew).alloc _⟩
  ·exact World.ownsRow_made w.drew _ _ (Nat.zero_le _) (grownCap_le_maxLen _ _ _ _ (by unfold maxLen; omega)) (by
    have h1:=grownCap_ge w n 0 (Tryz.sxGrow_ren.t 25)
    have h2:(Value.string ByteArray.empty).cells.size=1:=elemS.z
    simp[Builtin.zeroCells,h2]
    omega)
  ·simp[Value.ownBlock] at hg
   omega
section
variable {F G:Nat→Prop}
theorem concat_any (a b:List Key) (A B:Option Addr) (n c m d q:Nat) (w:World) (ha:Kss w F A n a) (hb:Kss w G B m b) (hn:n≤100000) (hm:m≤100000) (h0:w.cell? ⟨q,0,none⟩=some (.slice A n c)) (h1:w.cell? ⟨q,1,none⟩=some (.slice B m d)) :
  Calls Tryz.prog 94 #[.slice (some ⟨q,0,none⟩) 2 2] w (KeysOf (a++b) (n+m) w):=by
 have HA:=Bx.mk ha
 have HB:=Bx.mk hb
 have HLA:=Bx.mk ha.len
 have HLB:=Bx.mk hb.len
 have H0:=Bx.mk h0
 have H1:=Bx.mk h1
 clear ha hb
 go_enter Tryz.func94,Tryz.ntmps94
 go_wp2_with fail
 go_loop [3,5,11] (fun s _ i=>∃ k z:Nat,k≤2∧i = .int .i64 k∧s = .int .i64 z∧Bx ((k=0→z=0)∧(k=1→z=n)∧(k=2→z=n+m))) (fun _ _ i=>2-(intOf i).toNat)
 case atStart=>exact⟨0,0,Nat.zero_le _,rfl,rfl,⟨fun _=>rfl,fun h=>by omega,fun h=>by omega⟩⟩
 case round =>
  obtain⟨k,z,hk,rfl,rfl,hz⟩:=hrel
  by_cases hk0:k=0
  ·subst hk0
   obtain rfl:z=0:=hz.out.1 rfl
   have HZ:Bx ((1=0→n=0)∧(1=1→n=n)∧(1=2→n=n+m)):=⟨⟨fun h=>by omega,fun _=>rfl,fun h=>by omega⟩⟩
   have dz:decide ((n:Int)<0)=false:=decide_eq_false (by omega)
   clear hz
   go_wp2
   go_round
   case rel=>exact⟨1,n,by omega,by go_num,by go_num,HZ⟩
   case measure=>simp[intOf]
  ·by_cases hk1:k=1
   ·subst hk1
    obtain rfl:z=n:=hz.out.2.1 rfl
    have HZ:Bx ((2=0→z+m=0)∧(2=1→z+m=z)∧(2=2→z+m=z+m)):=⟨⟨fun h=>by omega,fun h=>by omega,fun _=>rfl⟩⟩
    have dz:decide ((z:Int)+(m:Int)<0)=false:=decide_eq_false (by omega)
    clear hz
    go_wp2
    go_round
    case rel=>exact⟨2,z+m,by omega,by go_num,by go_num,HZ⟩
    case measure=>simp[intOf]
   ·obtain rfl:k=2:=by omega
    obtain rfl:z=n+m:=hz.out.2.2 rfl
    have HGR:=Bx.mk (growk_any (n+m) w (by omega))
    clear hz
    go_wp2_with fail
    refine HGR.out.mono ?_
    rintro e w1 ⟨v1,rfl,hg1⟩
    clear HGR
    go_wp2_with fail
    go_loopw [6,8,27] (fun v _ i wr=>∃ (k:Nat) (l:List Key),k≤2∧i = .int .i64 k∧Gs 9 1 w wr v l.length (l.map kv)∧Bx ((k=0→l=[])∧(k=1→l=a)∧(k=2→l=a++b))) (fun _ _ i _=>2-(intOf i).toNat)
    case atStart=>exact⟨0,[],Nat.zero_le _,rfl,hg1,⟨fun _=>rfl,fun h=>by omega,fun h=>by omega⟩⟩
    case round =>
     obtain⟨k,l,hk,rfl,hG,hl⟩:=hrel
     by_cases hk0:k=0
     ·subst hk0
      obtain rfl:l=[]:=hl.out.1 rfl
      have hc:=hG.ch.cell (p:=⟨q,0,none⟩) (fun h=>h) H0.out
      have HS:=Bx.mk (HA.out.ch hG.ch (fun _ _ _ h=>h))
      have HG:=Bx.mk hG
      obtain⟨A5,c5,rfl,_,_⟩:=hG.shape
      clear hG hl
      go_wp2_with (at_builtin; refine wp_app rfl (.tmp 31) (.tmp 32) elemS rfl rfl HG.out.own rfl HS.out ?c1 ?c2 ?c3 ?_)
      case c1=>exact kv_cells _
      case c2=>simp only[List.length_nil]; omega
      case c3=>simp only[List.length_nil]; omega
      intro v6 w6 ho6 hg6 hb6
      have HG6:=Bx.mk (Gs.app0 (v := .slice A5 0 c5) HG.out ho6 hg6 hb6)
      clear ho6 hg6 hb6 HG HS hc
      go_wp2
      go_roundw
      case rel=>exact⟨1,a,by omega,by go_num,by
       rw[HLA.out]
       exact HG6.out,⟨fun h=>by omega,fun _=>rfl,fun h=>by omega⟩⟩
      case measure=>simp[intOf]
     ·by_cases hk1:k=1
      ·subst hk1
       obtain rfl:l=a:=hl.out.2.1 rfl
       have hc:=hG.ch.cell (p:=⟨q,1,none⟩) (fun h=>h) H1.out
       have HS:=Bx.mk (HB.out.ch hG.ch (fun _ _ _ h=>h))
       have HG:=Bx.mk hG
       obtain⟨A5,c5,rfl,_,_⟩:=hG.shape
       clear hG hl
       go_wp2_with (at_builtin; refine wp_app rfl (.tmp 31) (.tmp 32) elemS rfl rfl HG.out.own rfl HS.out ?c1 ?c2 ?c3 ?_)
       case c1=>exact kv_cells _
       case c2=>rw[HLA.out]; omega
       case c3=>rw[HLA.out]; omega
       intro v6 w6 ho6 hg6 hb6
       have HG6:=Bx.mk (HG.out.app (Ch.refl _ _) ho6 hg6 hb6)
       clear ho6 hg6 hb6 HG HS hc
       go_wp2
       go_roundw
       case rel=>exact⟨2,l++b,by omega,by go_num,by
        have h:=HG6.out
        rw[List.length_append,HLB.out,List.map_append]
        exact h,⟨fun h=>by omega,fun h=>by omega,fun _=>rfl⟩⟩
       case measure=>simp[intOf]
      ·obtain rfl:k=2:=by omega
       obtain rfl:l=a++b:=hl.out.2.2 rfl
       have HG:=Bx.mk hG
       have HL:Bx ((a++b).length=n+m):=⟨by rw[List.length_append,HLA.out,HLB.out]⟩
       obtain⟨A5,c5,rfl,h5,h6⟩:=hG.shape
       clear hG hl
       go_wp2
       go_ret
       have h:=HG.out
       rw[HL.out] at h h5
       exact⟨A5,c5,by rw[HL.out]; rfl,h,h5,h6⟩
end
end
section
open Go.RowKit Go.Oct Go.Su Go.Sg
theorem cells_two (w:World) (u v:Value) (T:TypeId):(w.alloc (.cells #[u,v] T)).cell? ⟨w.heap.size,0,none⟩=some u∧(w.alloc (.cells #[u,v] T)).cell? ⟨w.heap.size,1,none⟩=some v:=by
 constructor <;> (rw[World.cell?_alloc_at _ _ _ _ rfl]; rfl)
section
variable {F G:Nat→Prop}
theorem sound_any (ds:List Dc) (gs:List Key) (A B:Option Addr) (n c m d bs:Nat) (w:World) (hc1:w.cell? ⟨bs,1,none⟩=some (.slice A n c)) (hc2:w.cell? ⟨bs,2,none⟩=some (.slice B m d)) (ha:Kss w F A n (ks ds)) (hb:Kss w G B m gs) (hn:n≤100000) (hm:m≤100000) (o:Bool) (ho:o=true↔ArgOk ds gs) :
  Calls Tryz.prog 45 #[.pointer (some ⟨bs,0,none⟩)] w fun e w'=>e = .returned (.bool o)∧Ch (fun _=>False) w w':=by
 have HA:=Bx.mk ha
 have HB:=Bx.mk hb
 have HO:=Bx.mk ho
 have HLA:=Bx.mk ha.len
 have HLB:=Bx.mk hb.len
 clear ha hb ho
 go_enter Tryz.func45,Tryz.ntmps45
 go_wp2_with fail
 have HK:Bx (Calls Tryz.prog 94 #[.slice (some ⟨w.heap.size,0,none⟩) 2 2] (w.alloc (.cells #[.slice A n c, .slice B m d] 23)).drew (KeysOf (ks ds++gs) (n+m) (w.alloc (.cells #[.slice A n c, .slice B m d] 23)).drew)) :=
  ⟨concat_any (ks ds) gs A B n c m d w.heap.size _ (HA.out.alloc _) (HB.out.alloc _) hn hm (cells_two w _ _ _).1 (cells_two w _ _ _).2⟩
 go_region_held3 (fun w'=>w'.cell? ⟨bs,1,none⟩=some (.slice A n c)∧w'.cell? ⟨bs,2,none⟩=some (.slice B m d)) (first | go_keep | exact s2 | exact⟨hc1,hc2⟩) ((go_at_call 94; refine HK.out.mono ?_; rintro e w1 ⟨A1,c1,rfl,hG1,h1,h2⟩; have hC1:Ch (fun _=>False) w w1:=(((Ch.refl _ w).alloc _).drew).trans hG1.ch (fun _ _ h=>h); have s2:w1.cell? ⟨bs,1,none⟩=some (.slice A n c)∧w1.cell? ⟨bs,2,none⟩=some (.slice B m d):=⟨hC1.cell (fun h=>h) hc1,hC1.cell (fun h=>h) hc2⟩))
 all_goals
  have HG1:Bx (Gs 9 1 w w1 (.slice A1 (n+m) c1) (n+m) ((ks ds++gs).map kv)):=⟨⟨hG1.own,fun g hg=>by have h3:=hG1.lies g hg; have h4:=World.size_alloc w (.cells #[.slice A n c, .slice B m d] 23); have h5:(w.alloc (.cells #[.slice A n c, .slice B m d] 23)).heap.size≤g:=h3; omega,(((Ch.refl _ w).alloc _).drew).trans hG1.ch (fun _ _ h=>h)⟩⟩
  clear hG1 HK hc1 hc2 s2 hC1
  have HS:=Bx.mk (sortk_any (ks ds++gs) A1 (n+m) c1 w w1 HG1.out (by omega))
  go_wp2_with fail
  refine HS.out.mono ?_
  rintro e w2 ⟨rfl,m3,hs3,hp3,hG3,_⟩
  have HM3:=Bx.mk hs3
  have HP3:=Bx.mk hp3
  have HG3:=Bx.mk hG3
  have HL3:Bx (m3.length=n+m):=⟨by rw[hp3.length_eq,List.length_append,HLA.out,HLB.out]⟩
  obtain⟨N,hN⟩:∃ N,n+m=N:=⟨_,rfl⟩
  have hNb:N≤200000:=by omega
  rw[hN] at HG3 HL3 ⊢
  have HV:Bx (Kss w2 (fun b=>w.heap.size≤b) A1 N m3):=⟨by have h:=HG3.out.vs; exact h⟩
  have HOK:Bx (o=true↔CkTo m3 m3.length):=⟨HO.out.trans (argok_iff (List.Perm.refl _) (List.Perm.refl _) HP3.out HM3.out)⟩
  have HCH:=Bx.mk HG3.out.ch
  clear hs3 hp3 hG3 HS HG1 hN h1 h2
  go_wp2_with fail
  go_loop [4,5,20] (fun _ _ i=>∃ k:Nat,k≤N∧i = .int .i64 k∧Bx (CkTo m3 k)) (fun _ _ i=>N-(intOf i).toNat)
  case atStart=>exact⟨0,Nat.zero_le _,rfl,⟨CkTo.zero _⟩⟩
  case round =>
   obtain⟨k,hk,rfl,hck⟩:=hrel
   by_cases hlt:k<N
   ·have dk:decide ((k:Int)<(N:Int))=true:=decide_eq_true (by omega)
    obtain⟨bd,od,key,rfl,_,hkey,hcell⟩:=HV.out.at_ hlt
    have i2:(k:Int)<(N:Int):=by omega
    have HKY:=Bx.mk hkey.out
    obtain⟨SK,hSK,hz⟩:∃ S:ByteArray,kv key = .string S∧S.size=key.length:=⟨_,rfl,kv_size key⟩
    rw[hSK] at hcell
    have hSb:(⟨key.toArray⟩:ByteArray)=SK:=by unfold kv at hSK; injection hSK
    have HE:Bx (SK.toList.isEmpty=decide (key=[])):=⟨by rw[←hSb,Lib.toList_data]; cases key <;> simp⟩
    have HBQ:Bx (∀ b:Key,((SK.toList==(⟨b.toArray⟩:ByteArray).toList)=decide (key=b))):=⟨fun b=>by rw[←hSb]; exact str_beq key b⟩
    have HOKK:Bx (okK key↔1≤key.length∧key.length≤64):=⟨Iff.rfl⟩
    obtain⟨z,hzz⟩:∃ z,SK.size=z:=⟨_,rfl⟩
    have HZ:Bx (z=key.length):=⟨by rw[←hzz,hz]⟩
    clear hkey hSK hSb hz
    by_cases he:key=[]
    ·have e0:SK.toList.isEmpty=true:=by rw[HE.out]; exact decide_eq_true he
     have HF:Bx (false=o):=⟨by
      cases o with
      | false=>rfl
      | true=>exact absurd (HOK.out.1 rfl) (ck_bad HKY.out (fun h=>by have:=h.1; rw[he] at this; simp at this))⟩
     clear he hck
     go_wp2
     go_ret
     exact⟨ret_bool HF.out,HCH.out⟩
    ·have e0:SK.toList.isEmpty=false:=by rw[HE.out]; exact decide_eq_false he
     have h1z:1≤z:=by
      rw[HZ.out]
      cases key with
      | nil=>exact absurd rfl he
      | cons _ _=>simp
     clear he
     by_cases h64:64<z
     ·have e1:decide ((64:Int)<(z:Int))=true:=decide_eq_true (by omega)
      have e2:decide (64<z)=true:=decide_eq_true h64
      have HF:Bx (false=o):=⟨by
       cases o with
       | false=>rfl
       | true=>exact absurd (HOK.out.1 rfl) (ck_bad HKY.out (fun h=>by have:=h.2; rw[←HZ.out] at this; omega))⟩
      clear hck h64
      go_wp2
      go_ret
      exact⟨ret_bool HF.out,HCH.out⟩
     ·have e1:decide ((64:Int)<(z:Int))=false:=decide_eq_false (by omega)
      have e2:decide (64<z)=false:=decide_eq_false h64
      have HOKY:Bx (okK key):=⟨HOKK.out.2 ⟨by rw[←HZ.out]; exact h1z,by rw[←HZ.out]; omega⟩⟩
      clear h64
      rcases Nat.eq_zero_or_pos k with h0 | h0
      ·subst h0
       rw[Nat.add_zero] at hcell
       have HN:Bx (CkTo m3 1):=⟨hck.out.next HKY.out HOKY.out (fun b h=>by omega)⟩
       clear hck
       go_wp2
       go_round
       case rel=>exact⟨1,by omega,by go_num,HN⟩
       case measure=>simp[intOf]; omega
      ·obtain⟨j,hj⟩:∃ j,k=j+1:=⟨k-1,by omega⟩
       have hjn:j<N:=by omega
       obtain⟨b7,o7,b,hb7,_,hb,hcb⟩:=HV.out.at_ hjn
       obtain⟨rfl,rfl⟩:bd=b7∧od=o7:=by
        injection hb7 with h
        injection h with h1 h2
        exact⟨h1,h2⟩
       obtain⟨SB,hSB⟩:∃ S:ByteArray,(⟨b.toArray⟩:ByteArray)=S:=⟨_,rfl⟩
       have hkb:kv b = .string SB:=by unfold kv; rw[hSB]
       rw[hkb] at hcb
       have HSQ:Bx ((SK.toList==SB.toList)=decide (key=b)):=⟨by rw[←hSB]; exact HBQ.out b⟩
       have HB2:=Bx.mk hb.out
       have HJ:=Bx.mk hj
       have g0:decide ((0:Int)<(k:Int))=true:=decide_eq_true (by omega)
       have g1:IntKind.i64.wrap ((k:Int)-1)=(j:Int):=by rw[IntWalk.i64_in _ (by omega)]; omega
       have g1':(k:Int)-1=(j:Int):=by omega
       have g2:(j:Int)<(N:Int):=by omega
       clear hb7 hb hSB hkb hj
       by_cases hq:key=b
       ·have e3:(SK.toList==SB.toList)=true:=by rw[HSQ.out]; exact decide_eq_true hq
        have HF:Bx (false=o):=⟨by
         cases o with
         | false=>rfl
         | true=>exact absurd (HOK.out.1 rfl) (ck_twice HKY.out (by rw[show k-1=j by have:=HJ.out; omega,hq]; exact HB2.out) h0)⟩
        clear hck hq
        go_wp2
        go_ret
        exact⟨ret_bool HF.out,HCH.out⟩
       ·have e3:(SK.toList==SB.toList)=false:=by rw[HSQ.out]; exact decide_eq_false hq
        have HN:Bx (CkTo m3 (k+1)):=⟨hck.out.next HKY.out HOKY.out (fun x _ hx=>by
         rw[show k-1=j by have:=HJ.out; omega,HB2.out] at hx
         injection hx with hx
         rw[←hx]
         exact fun h=>hq h.symm)⟩
        clear hck hq
        go_wp2
        go_round
        case rel=>exact⟨k+1,by omega,by go_num,HN⟩
        case measure=>simp[intOf]; omega
   ·obtain rfl:N=k:=by omega
    have dk:decide ((N:Int)<(N:Int))=false:=decide_eq_false (by omega)
    have HT:Bx (true=o):=⟨(HOK.out.2 (by rw[HL3.out]; exact hck.out)).symm⟩
    clear hck
    go_wp2
    go_ret
    exact⟨ret_bool HT.out,HCH.out⟩
end
end
end Go.Proofs.YtambgjpfoceieaaGreatDoor
