/- Lemmas and contracts of this proof. Conditions: said at each. -/
import Derived.Test.YtambgjpfoceieaaGreatDoorGBwCounts
import Derived.Test.YtambgjpfoceieaaGreatDoorGSgSort
import Derived.Laws.IdiomStrings
set_option maxHeartbeats 4000000
namespace Go.Proofs.YtambgjpfoceieaaGreatDoor
section
open Go.RowKit Go.Oct Go.Su Go.Sg Go.Fr
theorem wp_bytes {P:Program} {w:World} {ops:Array Oper} {rest:List Oper} {o:Oper} {a:Act} {Q:Exit→Act→World→Prop} (hg:o.guard=none) (x:Operand) {src dst e:TypeId} (hop:o.op=Op.convert src dst x) (hs:P.underlying src=some .string) (hd:P.underlying dst=some (.slice e)) (he:P.underlying e=some (.int .u8))
  {k:Key} (hkm:k.length≤maxLen) (hx:a.eval x=kv k) (h:∀ c w',k.length≤c→c≤maxLen→Sl w' (fun b=>b=w.heap.size) .u8 (some ⟨w.heap.size,0,none⟩) k.length (kI k)→Ch (fun _=>False) w w'→wpList P ops Q rest (a.put o.dst (.slice (some ⟨w.heap.size,0,none⟩) k.length c)) w'):wpList P ops Q (o::rest) a w :=
 wpList_plain hg fun K' hK'=>by
  have hrun:=run_bytes_of_string (P:=P) w src dst e ⟨k.toArray⟩ hs hd he
  have hsz:(⟨k.toArray⟩:ByteArray).size=k.length:=kv_size k
  rw[hsz] at hrun
  have hx':a.eval x = .string ⟨k.toArray⟩:=hx
  unfold Oper.wp
  simp only[execOp,hop,hx',Sem.run_bind,Sem.run_pure,hrun,Result.andThen_ok]
  refine hK' _ _ (h _ _ (grownCap_ge _ _ _ _) (grownCap_le_maxLen _ _ _ _ hkm) ?_ ?_)
  ·refine⟨by simp[kI],fun _=>⟨w.heap.size,0,rfl,rfl,fun j u hu=>?_⟩⟩
   have hb:(w.drew.alloc (.cells (bytesRow ⟨k.toArray⟩ (grownCap w k.length 0 e)) e ((bytesRow ⟨k.toArray⟩ (grownCap w k.length 0 e)).size,(bytesRow ⟨k.toArray⟩ (grownCap w k.length 0 e)).size+1))).heap[w.heap.size]? = some (.cells (bytesRow ⟨k.toArray⟩ (grownCap w k.length 0 e)) e ((bytesRow ⟨k.toArray⟩ (grownCap w k.length 0 e)).size,(bytesRow ⟨k.toArray⟩ (grownCap w k.length 0 e)).size+1)):=heap_alloc_new w.drew _
   unfold World.cell?
   rw[hb]
   obtain⟨hj,hju⟩:=List.getElem?_eq_some_iff.1 hu
   simp only[kI,List.map_map,List.length_map] at hj
   simp only[kI,List.map_map,List.getElem_map] at hju
   subst hju
   simp only[Nat.zero_add]
   unfold bytesRow
   rw[Array.getElem?_append_left (by simpa using hj)]
   simp[hj]
  ·exact (Ch.refl _ w).drew.alloc _
theorem Fresh.rw {w wr:World} {v:Value} {xs:List Int} (h:O.Fresh w v xs wr):Fresh w v xs wr:=h
theorem Fresh.sl {w wr:World} {A:Option Addr} {n c:Nat} {xs:List Int} (h:Fresh w (.slice A n c) xs wr) (hn:n=xs.length):Sl wr (fun b=>w.heap.size≤b) .u8 A n xs:=by
 subst hn
 exact (Sl.of_own h.1).mono (fun b _ hb=>h.2.1 b hb)
theorem Rw8.lit2 (w:World):Rw8 w (w.alloc (.cells #[.int .u8 83, .int .u8 1] 5)) (.slice (some ⟨w.heap.size,0,none⟩) 2 2) 2 [83,1] :=
 ⟨World.ownsRow_lit (base:=0) (e := 5) (size:=1) w #[.int .u8 83, .int .u8 1] 2 (Nat.zero_le _) (by unfold maxLen; omega) rfl,fun g hg=>by simp[Value.ownBlock] at hg; omega,(Ch.refl _ _).alloc _⟩
def kB (k:Key):List Int:=rowB (kI k)
theorem keysB_eq (l:List Key):keysB l=encN l.length++l.flatMap kB:=rfl
theorem enc_len {n:Nat} (h:n≤1000000000):encI (n:Int)=encN n∧(encN n).length≤9:=by
 have e:encI (n:Int)=encN n:=by unfold encI; rw[clampI_nat (by omega)]
 exact⟨e,by rw[←e]; exact encI_len _⟩
theorem kB_len (k:Key):k.length≤(kB k).length:=by unfold kB rowB; rw[List.length_append,kI_len]; omega
theorem flat_kB_le {l:List Key} {k:Key} (h:k∈l):(kB k).length≤(l.flatMap kB).length:=by
 induction l with
 | nil=>simp at h
 | cons a l ih =>
  rw[List.flatMap_cons,List.length_append]
  rcases List.mem_cons.1 h with rfl | h
  ·omega
  ·have:=ih h; omega
theorem ks_get {ds:List Dc} {k:Nat} {d:Dc} (h:ds[k]? = some d):(ks ds)[k]? = some d.1:=by unfold ks; rw[List.getElem?_map,h]; rfl
theorem src_of {w w1:World} {A:Option Addr} {c n:Nat} {ys:List Int} (h:O.Fresh w (.slice A n c) ys w1) (hn:n=ys.length):Sl w1 (fun _=>True) .u8 A n ys:=(Fresh.sl (Fresh.rw h) hn).mono (fun _ _ _=>trivial)
theorem fr_shape {w w1:World} {v:Value} {ys:List Int} (h:O.Fresh w v ys w1) {n:Nat} (hn:ys.length=n):∃ A c,v = .slice A n c∧n≤c∧c≤maxLen:=by
 subst hn
 exact own_shape h.1
def BodyOf (ds:List Dc) (gs:List Key) (w:World) (e:Ending) (w':World):Prop:=∃ v t,e = .returned v∧Turned (txt (ts ds)) t∧Fresh w v (bod ds gs t) w'
section
variable {F:Nat→Prop}
theorem rbody_any {w:World} {b:Nat} {ds:List Dc} {gs:List Key} (h:Rs w F b ds gs) (hby:Byts (ts ds)) (hN:(txt (ts ds)).length≤65536) (hD:ds.length≤1000000) (hG:gs.length≤1000000) (hK:((ks ds).flatMap kB).length≤10000000) (hL:(gs.flatMap kB).length≤10000000) :
  Calls Tryz.prog 53 #[.pointer (some ⟨b,0,none⟩)] w (BodyOf ds gs w):=by
 have HTX:=Bx.mk (fun (W:World) (hc:Ch (fun _=>False) w W)=>texts_any (h.keep hc) (by omega))
 obtain⟨A,c,B,d,h1,h2,h3,h4,h5,h6,h7,h8,_⟩:=h
 obtain⟨n,hnn⟩:∃ n,ds.length=n:=⟨_,rfl⟩
 obtain⟨m,hmm⟩:∃ m,gs.length=m:=⟨_,rfl⟩
 have HLD:=Bx.mk hnn
 have HLG:=Bx.mk hmm
 rw[hnn] at h1 h3 h5 hD
 rw[hmm] at h2 h4 h7 hG
 have HC1:=Bx.mk h1
 have HC2:=Bx.mk h2
 have HDC:=Bx.mk h3
 have HKS:=Bx.mk h4
 have HBY:=Bx.mk hby
 have HN:=Bx.mk hN
 have HK:=Bx.mk hK
 have HL:=Bx.mk hL
 have HE1:=Bx.mk (enc_len (n:=n) (by omega))
 have HE2:=Bx.mk (enc_len (n:=m) (by omega))
 have g0:=((Ch.refl (fun _=>False) w).alloc (.cells #[.int .u8 83, .int .u8 1] 5)).cell (p:=⟨b,0,none⟩) (fun h=>h) h1
 have HR0:=Bx.mk (Rw8.lit2 w)
 clear h1 h2 h3 h4 hby hN hK hL hnn hmm
 go_enter Tryz.func53,Tryz.ntmps53
 go_wp2_with fail
 refine (O.refnum_any (n:Int) _).mono ?_
 rintro e w1 ⟨v1,rfl,hf1⟩
 rw[HE1.out.1] at hf1
 obtain⟨q1,hq1⟩:∃ q,(encN n).length=q:=⟨_,rfl⟩
 have hq19:q1≤9:=by rw[←hq1]; exact HE1.out.2
 obtain⟨A1,c1,rfl,_,_⟩:=fr_shape hf1 hq1
 have HR1:=Bx.mk (HR0.out.keep hf1.2.2)
 have HS1:=Bx.mk (src_of hf1 hq1.symm)
 have HQ1:=Bx.mk hq1
 clear hf1 hq1 HR0 g0
 go_wp2_with (at_builtin; refine wp_app rfl (.tmp 7) (.tmp 13) Tb rfl rfl HR1.out.own rfl HS1.out ?c1 ?c2 ?c3 ?_)
 case c1=>exact ints_cells _ _
 case c2=>omega
 case c3=>omega
 intro v2 w2 ho hg hb
 have HR2:=Bx.mk (HR1.out.app (m:=q1) (ys:=encN n) ho hg hb)
 clear ho hg hb HR1 HS1
 go_wp2_with fail
 go_loopw [3,4] (fun v i wr=>∃ (k r:Nat) (X:List Int),k≤n∧i = .int .i64 k∧Rw8 w wr v r X∧Bx (X=[83,1]++encN n++((ks ds).take k).flatMap kB)∧Bx (r=2+q1+(((ks ds).take k).flatMap kB).length)) (fun _ i _=>n-(intOf i).toNat)
 case atStart=>exact⟨0,2+q1,_,Nat.zero_le _,rfl,HR2.out,⟨by simp⟩,⟨by simp⟩⟩
 case round =>
  obtain⟨k,r,X,hk,rfl,hR,HX,hr⟩:=hrel
  have hcb:=hR.ch.cell (p:=⟨b,0,none⟩) (fun h=>h) HC1.out
  by_cases hlt:k<n
  ·have dk:decide ((k:Int)<(n:Int))=true:=decide_eq_true (by omega)
   obtain⟨bd,od,dc,Bt,ct,rfl,_,hd,hck,_,_,_,_⟩:=HDC.out.get hlt
   have hck2:=hR.ch.cell (p:=⟨bd,od+k*2,none⟩) (fun h=>h) hck
   have hkg:=ks_get hd.out
   have hmore:=flat_more kB hkg
   have hroom:=flat_room kB hkg
   have hkl:dc.1.length≤(kB dc.1).length:=kB_len _
   obtain⟨z,hz⟩:∃ z,(kB dc.1).length=z:=⟨_,rfl⟩
   have hz2:r+z≤10000100∧dc.1.length≤10000000∧z≤10000000:=by
    have h1:=hr.out
    have h2:=HK.out
    have h3:=hq19
    omega
   have HZ:=Bx.mk hz
   have HM:Bx (X++kB dc.1=[83,1]++encN n++((ks ds).take (k+1)).flatMap kB):=⟨by rw[hmore,HX.out,List.append_assoc ([83,1]++encN n)]⟩
   have HRN:Bx (r+z=2+q1+(((ks ds).take (k+1)).flatMap kB).length):=⟨by rw[hmore,List.length_append,hz,hr.out]; omega⟩
   have i2:(k:Int)<(n:Int):=by omega
   obtain⟨A2,c2,rfl,_,_⟩:=own_shape hR.own
   have HR:=Bx.mk hR
   obtain⟨hz3,hz4,hz5⟩:=hz2
   clear hR hr hd hck hkg hmore hroom hz
   go_wp2_with (refine wp_bytes rfl (.tmp 32) rfl Tryz.underlying9 Tryz.underlying26 Tryz.underlying5 (k:=dc.1) (by unfold maxLen; omega) rfl ?_)
   intro c3 w3 _ _ hs3 hC3
   obtain⟨Y,hY⟩:∃ Y,kB dc.1=Y:=⟨_,rfl⟩
   have hb3:=O.refbytes_any (kI dc.1) (some ⟨wr.heap.size,0,none⟩) dc.1.length c3 w3 _ (by omega) hs3
   rw[show rowB (kI dc.1)=Y from hY] at hb3
   have HYZ:Bx (Y.length=z):=⟨by rw[←hY]; exact HZ.out⟩
   have HM2:Bx (X++Y=[83,1]++encN n++((ks ds).take (k+1)).flatMap kB):=⟨by rw[←hY]; exact HM.out⟩
   have HB3:=Bx.mk hb3
   have HR3:=Bx.mk (HR.out.keep hC3)
   clear hs3 hC3 hb3 HR hY
   go_wp2_with fail
   refine HB3.out.mono ?_
   rintro e w4 ⟨v4,rfl,hf4⟩
   obtain⟨A4,c4,rfl,_,_⟩:=fr_shape hf4 (n:=z) HYZ.out
   have HR4:=Bx.mk (HR3.out.keep hf4.2.2)
   have HS4:=Bx.mk (src_of hf4 HYZ.out.symm)
   clear hf4 HB3 HR3
   go_wp2_with (at_builtin; refine wp_app rfl (.tmp 24) (.tmp 34) Tb rfl rfl HR4.out.own rfl HS4.out ?c1 ?c2 ?c3 ?_)
   case c1=>exact ints_cells _ _
   case c2=>omega
   case c3=>omega
   intro v5 w5 ho hg hb
   have HR5:=Bx.mk (HR4.out.app (m:=z) (ys:=Y) ho hg hb)
   clear ho hg hb HR4 HS4
   go_wp2
   go_roundw
   case rel=>exact⟨k+1,r+z,_,by omega,by go_num,HR5.out,HM2,HRN⟩
   case measure=>simp[intOf]; omega
  ·obtain rfl:n=k:=by omega
   have dk:decide ((n:Int)<(n:Int))=false:=decide_eq_false (by omega)
   have hall:(ks ds).take n=ks ds:=List.take_of_length_le (by rw[ks_len,HLD.out]; exact Nat.le_refl _)
   have hX:=HX.out
   have hr2:=hr.out
   rw[hall] at hX hr2
   have hrb:r≤10000020:=by have:=HK.out; omega
   have HX1:Bx (X=[83,1]++keysB (ks ds)):=⟨by rw[hX,keysB_eq,ks_len,HLD.out,List.append_assoc]⟩
   have hcg:=hR.ch.cell (p:=⟨b,1,none⟩) (fun h=>h) HC2.out
   obtain⟨A2,c2,rfl,_,_⟩:=own_shape hR.own
   have HR:=Bx.mk hR
   clear hall hX hr2 hR hr HX
   go_wp2_with fail
   refine (O.refnum_any (m:Int) _).mono ?_
   rintro e w3 ⟨v3,rfl,hf3⟩
   rw[HE2.out.1] at hf3
   obtain⟨q2,hq2⟩:∃ q,(encN m).length=q:=⟨_,rfl⟩
   have hq29:q2≤9:=by rw[←hq2]; exact HE2.out.2
   obtain⟨A3,c3,rfl,_,_⟩:=fr_shape hf3 hq2
   have HR3:=Bx.mk (HR.out.keep hf3.2.2)
   have HS3:=Bx.mk (src_of hf3 hq2.symm)
   clear hf3 hq2 HR hcg
   go_wp2_with (at_builtin; refine wp_app rfl (.tmp 36) (.tmp 42) Tb rfl rfl HR3.out.own rfl HS3.out ?c1 ?c2 ?c3 ?_)
   case c1=>exact ints_cells _ _
   case c2=>omega
   case c3=>omega
   intro v4 w4 ho hg hb
   have hr4:=HR3.out.app (m:=q2) (ys:=encN m) ho hg hb
   obtain⟨X2,hX2⟩:∃ X2,X++encN m=X2:=⟨_,rfl⟩
   rw[hX2] at hr4
   have HX2:=Bx.mk hX2
   have HR4:=Bx.mk hr4
   obtain⟨r2,hrr⟩:∃ r2,r+q2=r2:=⟨_,rfl⟩
   rw[hrr] at HR4
   have hr2b:r2≤10000040:=by omega
   clear ho hg hb HR3 HS3 hr4 hX2 hrr
   go_wp2_with fail
   go_loopw [3,5] (fun v i wr=>∃ (k r:Nat) (Z:List Int),k≤m∧i = .int .i64 k∧Rw8 w wr v r Z∧Bx (Z=X2++(gs.take k).flatMap kB)∧Bx (r=r2+((gs.take k).flatMap kB).length)) (fun _ i _=>m-(intOf i).toNat)
   case atStart=>exact⟨0,r2,_,Nat.zero_le _,rfl,HR4.out,⟨by simp⟩,⟨by simp⟩⟩
   case round =>
    obtain⟨k,r,Z,hk,rfl,hR,HZ,hr⟩:=hrel
    have hcb:=hR.ch.cell (p:=⟨b,1,none⟩) (fun h=>h) HC2.out
    by_cases hlt:k<m
    ·have dk:decide ((k:Int)<(m:Int))=true:=decide_eq_true (by omega)
     obtain⟨bd,od,x,rfl,_,hx,hck⟩:=HKS.out.at_ hlt
     have hck2:=hR.ch.cell (p:=⟨bd,od+k,none⟩) (fun h=>h) hck
     have hmore:=flat_more kB hx.out
     have hroom:=flat_room kB hx.out
     have hkl:x.length≤(kB x).length:=kB_len _
     obtain⟨z,hz⟩:∃ z,(kB x).length=z:=⟨_,rfl⟩
     have hz2:r+z≤20000100∧x.length≤10000000∧z≤10000000:=by
      have h1:=hr.out
      have h2:=HL.out
      omega
     have HRN:Bx (r+z=r2+((gs.take (k+1)).flatMap kB).length):=⟨by rw[hmore,List.length_append,hz,hr.out]; omega⟩
     have i2:(k:Int)<(m:Int):=by omega
     obtain⟨A5,c5,rfl,_,_⟩:=own_shape hR.own
     have HR:=Bx.mk hR
     obtain⟨hz3,hz4,hz5⟩:=hz2
     obtain⟨Y,hY⟩:∃ Y,kB x=Y:=⟨_,rfl⟩
     have HYZ:Bx (Y.length=z):=⟨by rw[←hY]; exact hz⟩
     have HM2:Bx (Z++Y=X2++(gs.take (k+1)).flatMap kB):=⟨by rw[hmore,HZ.out,List.append_assoc,hY]⟩
     have HYB:Bx (rowB (kI x)=Y):=⟨hY⟩
     clear hR hr hx hck hmore hroom hz hY
     go_wp2_with (refine wp_bytes rfl (.tmp 60) rfl Tryz.underlying9 Tryz.underlying26 Tryz.underlying5 (k:=x) (by unfold maxLen; omega) rfl ?_)
     intro c6 w6 _ _ hs6 hC6
     have hb6:=O.refbytes_any (kI x) (some ⟨wr.heap.size,0,none⟩) x.length c6 w6 _ (by omega) hs6
     rw[HYB.out] at hb6
     have HB6:=Bx.mk hb6
     have HR6:=Bx.mk (HR.out.keep hC6)
     clear hs6 hC6 hb6 HR
     go_wp2_with fail
     refine HB6.out.mono ?_
     rintro e w7 ⟨v7,rfl,hf7⟩
     obtain⟨A7,c7,rfl,_,_⟩:=fr_shape hf7 (n:=z) HYZ.out
     have HR7:=Bx.mk (HR6.out.keep hf7.2.2)
     have HS7:=Bx.mk (src_of hf7 HYZ.out.symm)
     clear hf7 HB6 HR6
     go_wp2_with (at_builtin; refine wp_app rfl (.tmp 53) (.tmp 62) Tb rfl rfl HR7.out.own rfl HS7.out ?c1 ?c2 ?c3 ?_)
     case c1=>exact ints_cells _ _
     case c2=>omega
     case c3=>omega
     intro v8 w8 ho hg hb
     have HR8:=Bx.mk (HR7.out.app (m:=z) (ys:=Y) ho hg hb)
     clear ho hg hb HR7 HS7
     go_wp2
     go_roundw
     case rel=>exact⟨k+1,r+z,_,by omega,by go_num,HR8.out,HM2,HRN⟩
     case measure=>simp[intOf]; omega
    ·obtain rfl:m=k:=by omega
     have dk2:decide ((m:Int)<(m:Int))=false:=decide_eq_false (by omega)
     have hall:gs.take m=gs:=List.take_of_length_le (by rw[HLG.out]; exact Nat.le_refl _)
     have hZ:=HZ.out
     have hr3:=hr.out
     rw[hall] at hZ hr3
     have hrb3:r≤20000100:=by have:=HL.out; omega
     have HZ1:Bx (Z=[83,1]++keysB (ks ds)++keysB gs):=⟨by rw[hZ,←HX2.out,HX1.out,keysB_eq gs,HLG.out]; simp only[List.append_assoc]⟩
     obtain⟨A5,c5,rfl,_,_⟩:=own_shape hR.own
     have HTXw:=HTX.out wr hR.ch
     have HR:=Bx.mk hR
     have HTXB:=Bx.mk HTXw
     clear hall hZ hr3 hR hr HZ HTXw
     go_wp2_with fail
     refine HTXB.out.mono ?_
     rintro e w6 ⟨A6,c6,rfl,hs6,hc6,hd6,hC6⟩
     rw[HLD.out] at hs6 hc6 ⊢
     have HTU:=Bx.mk (refturned_any (ts ds) A6 n c6 w6 hs6 HBY.out HN.out)
     have HR6:=Bx.mk (HR.out.keep hC6)
     have HLT:Bx (∀ g,(Value.slice A5 r c5).ownBlock=some g→g<w6.heap.size):=⟨own_lt HR6.out.own⟩
     clear hs6 hC6 HR HTXB
     go_wp2_with fail
     refine HTU.out.mono ?_
     rintro e w7 ⟨A7,c7,t,rfl,hs7,ht,hC7⟩
     obtain⟨T,hT⟩:∃ T,(txt (ts ds)).length=T:=⟨_,rfl⟩
     have hTb:T≤65536:=by rw[←hT]; exact HN.out
     rw[hT] at hs7 ⊢
     have htl:t.length=T:=hs7.len
     have HTL:=Bx.mk htl
     have HT:=Bx.mk ht
     have HS7:=Bx.mk hs7
     have HR7:=Bx.mk (HR6.out.keep hC7)
     clear hs7 ht hC7 HTU HR6 hT htl
     go_wp2_with fail
     refine (O.refnum_any (T:Int) _).mono ?_
     rintro e w8 ⟨v8,rfl,hf8⟩
     rw[(enc_len (n:=T) (by omega)).1] at hf8
     obtain⟨q3,hq3⟩:∃ q,(encN T).length=q:=⟨_,rfl⟩
     have hq39:q3≤9:=by rw[←hq3]; exact (enc_len (n:=T) (by omega)).2
     obtain⟨A8,c8,rfl,_,_⟩:=fr_shape hf8 hq3
     have HR8:=Bx.mk (HR7.out.keep hf8.2.2)
     have HS8:=Bx.mk (src_of hf8 hq3.symm)
     have HS78:=Bx.mk (HS7.out.ch hf8.2.2 (fun _ _ _ h=>h))
     clear hf8 hq3 HR7 HS7
     go_wp2_with (at_builtin; refine wp_app rfl (.tmp 67) (.tmp 70) Tb rfl rfl HR8.out.own rfl HS8.out ?c1 ?c2 ?c3 ?_)
     case c1=>exact ints_cells _ _
     case c2=>omega
     case c3=>omega
     intro v9 w9 ho hg hb
     have hr9:=HR8.out.app (m:=q3) (ys:=encN T) ho hg hb
     have hC89:Ch (fun k=>(Value.slice A5 r c5).ownBlock=some k) w8 w9:=(Ch.refl _ w8).grown hg (fun k hk => .inl hk)
     have HS9:Bx (Sl w9 (fun _=>True) .i64 A7 T t):=⟨(HS78.out.ch hC89 (fun b hb _ h2=>by have:=HLT.out b h2; omega)).mono (fun _ _ _=>trivial)⟩
     have HR9:=Bx.mk hr9
     obtain⟨A9,c9,rfl,_,_⟩:=own_shape hr9.own
     have HNS:=Bx.mk (O.refnums_any t A7 T c7 w9 _ (by omega) HS9.out)
     obtain⟨N,hN⟩:∃ N,(t.flatMap encI).length=N:=⟨_,rfl⟩
     have hNb:N≤600000:=by
      have:=flat_len t T
      rw[List.take_of_length_le (by rw[HTL.out]; exact Nat.le_refl _),hN] at this
      omega
     have HNN:=Bx.mk hN
     clear ho hg hb HR8 HS8 hC89 hr9 HS78 hN HS9
     go_wp2_with fail
     refine HNS.out.mono ?_
     rintro e w10 ⟨v10,rfl,hf10⟩
     obtain⟨A10,c10,rfl,_,_⟩:=fr_shape hf10 HNN.out
     have HR10:=Bx.mk (HR9.out.keep hf10.2.2)
     have HS10:=Bx.mk (src_of hf10 HNN.out.symm)
     clear hf10 HR9 HNS
     obtain⟨Y10,hY10⟩:∃ Y,t.flatMap encI=Y:=⟨_,rfl⟩
     obtain⟨Z10,hZ10⟩:∃ Y,Z++encN T=Y:=⟨_,rfl⟩
     have HYY:=Bx.mk hY10
     have HZZ:=Bx.mk hZ10
     rw[hY10] at HS10
     rw[hZ10] at HR10
     clear hY10 hZ10
     go_wp2_with (at_builtin; refine wp_app rfl (.tmp 72) (.tmp 74) Tb rfl rfl HR10.out.own rfl HS10.out ?c1 ?c2 ?c3 ?_)
     case c1=>exact ints_cells _ _
     case c2=>omega
     case c3=>omega
     intro v11 w11 ho hg hb
     have hr11:=HR10.out.app (m:=N) (ys:=Y10) ho hg hb
     have HF:Bx (Fresh w v11 (bod ds gs t) w11):=⟨by
      have e:Z10++Y10=bod ds gs t:=by
       rw[←HZZ.out,←HYY.out,HZ1.out]
       unfold bod
       rw[HTL.out]
       simp only[List.append_assoc]
      have hl:r+q3+N=(bod ds gs t).length:=by
       have:=hr11.own.1
       simp only[Nat.mul_one,List.length_map] at this
       rw[←e]; exact this.symm
      rw[e,hl] at hr11
      exact hr11.fresh⟩
     clear ho hg hb hr11 HR10 HS10
     go_wp2
     go_ret
     exact⟨v11,t,rfl,HT.out,HF.out⟩
end
end
section
open Go.RowKit Go.Oct Go.Su Go.Sg Go.Fr
theorem byt_app {a b:List Int} (ha:Byt a) (hb:Byt b):Byt (a++b):=fun x hx=>by
 rcases List.mem_append.1 hx with h | h
 ·exact ha x h
 ·exact hb x h
theorem byt_flat {α:Type} {f:α→List Int} {l:List α} (h:∀ a∈l,Byt (f a)):Byt (l.flatMap f):=fun x hx=>by
 obtain⟨a,ha,hxa⟩:=List.mem_flatMap.1 hx
 exact h a ha x hxa
theorem kB_byt (k:Key):Byt (kB k):=byt_app (encN_byte _) (kI_byte k)
theorem keysB_byt (l:List Key):Byt (keysB l):=byt_app (encN_byte _) (byt_flat fun k _=>kB_byt k)
theorem bod_byt (ds:List Dc) (gs:List Key) (t:List Int):Byt (bod ds gs t):=by
 unfold bod
 exact byt_app (byt_app (byt_app (fun x hx=>by simp at hx; omega) (keysB_byt _)) (keysB_byt _)) (byt_app (encN_byte _) (byt_flat fun a _=>encN_byte _))
def EncOf (ds:List Dc) (gs:List Key) (w:World) (e:Ending) (w':World):Prop:=∃ v t,e = .returned v∧Turned (txt (ts ds)) t∧Fresh w v (frm (bod ds gs t)) w'
structure Fit (ds:List Dc) (gs:List Key):Prop where
 ln:ds.length≤1000000
 lm:gs.length≤1000000
 lk:((ks ds).flatMap kB).length≤10000000
 lg:(gs.flatMap kB).length≤10000000
 lt:(txt (ts ds)).length≤65536
 lb:∀ t,Turned (txt (ts ds)) t→(bod ds gs t).length≤1048512
theorem renc_any {F:Nat→Prop} {w:World} {b:Nat} {ds:List Dc} {gs:List Key} (h:Rs w F b ds gs) (hby:Byts (ts ds)) (hf:Fit ds gs) :
  Calls Tryz.prog 58 #[.pointer (some ⟨b,0,none⟩)] w (EncOf ds gs w):=by
 have HB:=Bx.mk (rbody_any h hby hf.lt hf.ln hf.lm hf.lk hf.lg)
 have HF:=Bx.mk hf
 clear h hby hf
 go_enter Tryz.func58,Tryz.ntmps58
 go_wp2_with fail
 refine HB.out.mono ?_
 rintro e w1 ⟨v1,t,rfl,ht,hf1⟩
 obtain⟨N,hN⟩:∃ N,(bod ds gs t).length=N:=⟨_,rfl⟩
 have hNb:N≤1048576:=by have:=HF.out.lb t ht; omega
 obtain⟨A1,c1,rfl,_,_⟩:=fr_shape (ys:=bod ds gs t) hf1 hN
 have HE:=Bx.mk (rencode_any (bod ds gs t) A1 N c1 w1 (Fresh.sl hf1 hN.symm) hNb (bod_byt ds gs t))
 have HT:=Bx.mk ht
 have HC:=Bx.mk hf1.2.2
 clear hf1 ht HB hN
 go_wp2_with fail
 refine HE.out.mono ?_
 rintro e w2 ⟨v2,rfl,hf2⟩
 have HF2:Bx (Fresh w v2 (frm (bod ds gs t)) w2):=⟨hf2.1,fun g hg=>Nat.le_trans HC.out.size (hf2.2.1 g hg),HC.out.trans hf2.2.2 (fun _ _ h=>h)⟩
 clear hf2 HE HC
 go_wp2
 go_ret
 exact⟨v2,t,rfl,HT.out,HF2.out⟩
end
section
open Go.RowKit Go.Oct Go.Su Go.Sg
theorem str_beq (a b:Key):((⟨a.toArray⟩:ByteArray).toList==(⟨b.toArray⟩:ByteArray).toList)=decide (a=b):=by
 rw[Lib.toList_data,Lib.toList_data]
 rw[Bool.eq_iff_iff]
 simp
theorem at_first {ds:List Dc} {k:Key} {j:Nat} {d:Dc} (h:∀ i d,i<j→ds[i]? = some d→d.1≠k) (hd:ds[j]? = some d) (e:d.1=k):at_ ds k=some d.2:=by
 unfold at_
 have:ds.find? (fun d=>decide (d.1=k))=some d:=by
  rw[List.find?_eq_some_iff_getElem]
  obtain⟨hj,hjd⟩:=List.getElem?_eq_some_iff.1 hd
  refine⟨by simpa using e,j,hj,hjd,fun i hi=>?_⟩
  simpa using h i _ hi (List.getElem?_eq_getElem (by omega))
 rw[this]
 rfl
theorem at_no {ds:List Dc} {k:Key} (h:∀ i d,i<ds.length→ds[i]? = some d→d.1≠k):at_ ds k=none:=by
 rw[at_none]
 intro hm
 obtain⟨d,hd,e⟩:=List.mem_map.1 hm
 obtain⟨i,hi⟩:=List.getElem?_of_mem hd
 exact h i d (List.getElem?_eq_some_iff.1 hi).1 hi e
def GR (ds:List Dc) (gs:List Key) (k:Key) (t:List Int) (hs kn:Bool):Prop :=
 match at_ ds k with
 | some u=>t=u∧hs=true∧kn=true
 | none=>t=[]∧hs=false∧kn=decide (k∈gs)
def GetOf (ds:List Dc) (gs:List Key) (k:Key) (w:World) (e:Ending) (w':World):Prop:=∃ v t hs kn,e = .returned (.tuple #[v, .bool hs, .bool kn])∧Fresh w v t w'∧GR ds gs k t hs kn
theorem GR.some {ds:List Dc} {gs:List Key} {k:Key} {t:List Int} (h:at_ ds k=some t):GR ds gs k t true true:=by unfold GR; rw[h]; exact⟨rfl,rfl,rfl⟩
theorem GR.none {ds:List Dc} {gs:List Key} {k:Key} {o:Bool} (h:at_ ds k=none) (ho:decide (k∈gs)=o):GR ds gs k [] false o:=by unfold GR; rw[h]; exact⟨rfl,rfl,ho.symm⟩
section
variable {F:Nat→Prop}
theorem rget_any {w:World} {b:Nat} {ds:List Dc} {gs:List Key} (h:Rs w F b ds gs) (hn:ds.length≤1048576) (hm:gs.length≤1048576) (hbig:∀ d∈ds,d.2.length≤1048576) (k:Key) :
  Calls Tryz.prog 38 #[.pointer (some ⟨b,0,none⟩),kv k] w (GetOf ds gs k w):=by
 obtain⟨A,c,B,d,h1,h2,h3,h4,h5,h6,h7,h8,_⟩:=h
 obtain⟨n,hnn⟩:∃ n,ds.length=n:=⟨_,rfl⟩
 obtain⟨m,hmm⟩:∃ m,gs.length=m:=⟨_,rfl⟩
 have HL:=Bx.mk hnn
 have HM:=Bx.mk hmm
 rw[hnn] at h1 h3 h5 hn
 rw[hmm] at h2 h4 h7 hm
 have HD:=Bx.mk h3
 have HK:=Bx.mk h4
 have HB:=Bx.mk hbig
 have HSB:=Bx.mk (fun j=>str_beq j k)
 obtain⟨SK,hSK⟩:∃ S:ByteArray,(⟨k.toArray⟩:ByteArray)=S:=⟨_,rfl⟩
 have HSB2:Bx (∀ j,((⟨j.toArray⟩:ByteArray).toList==SK.toList)=decide (j=k)):=⟨fun j=>by rw[←hSK]; exact HSB.out j⟩
 have hkv:kv k = .string SK:=by unfold kv; rw[hSK]
 rw[hkv]
 clear h3 h4 hnn hmm hbig HSB hSK hkv
 go_enter Tryz.func38,Tryz.ntmps38
 go_wp2_with fail
 go_loop [7] (fun i=>∃ q:Nat,q≤n∧i = .int .i64 q∧Bx (∀ i d,i<q→ds[i]? = some d→d.1≠k)) (fun i=>n-(intOf i).toNat)
 case atStart=>exact⟨0,Nat.zero_le _,rfl,⟨fun i d hi=>absurd hi (by omega)⟩⟩
 case round =>
  obtain⟨q,hq,rfl,hno⟩:=hrel
  by_cases hlt:q<n
  ·have dk:decide ((q:Int)<(n:Int))=true:=decide_eq_true (by omega)
   obtain⟨bd,od,dc,Bt,ct,rfl,_,hd,hck,hct,hst,hlt2,hcm⟩:=HD.out.get hlt
   have i2:(q:Int)<(n:Int):=by omega
   have hsb:=HSB2.out dc.1
   have hck2:w.cell? ⟨bd,od+q*2,none⟩=some (.string ⟨dc.1.toArray⟩):=hck
   obtain⟨SD,hSD⟩:∃ S:ByteArray,(⟨dc.1.toArray⟩:ByteArray)=S:=⟨_,rfl⟩
   rw[hSD] at hsb hck2
   clear hSD hck
   by_cases he:dc.1=k
   ·have hsb2:(SD.toList==SK.toList)=true:=by rw[hsb]; simpa using he
    have HAT:=Bx.mk (at_first hno.out hd.out he)
    have hbl:dc.2.length≤1048576:=HB.out dc (List.mem_of_getElem? hd.out)
    obtain⟨tl,htl⟩:∃ tl,dc.2.length=tl:=⟨_,rfl⟩
    have HTL:=Bx.mk htl
    rw[htl] at hct hst hbl
    have HST:=Bx.mk (hst.alloc (.cells #[] 5))
    have HON:=Bx.mk (own_none8 w)
    have g1:=((Ch.refl (fun _=>False) w).alloc (.cells #[] 5)).cell (p:=⟨b,0,none⟩) (fun h=>h) h1
    have g2:=((Ch.refl (fun _=>False) w).alloc (.cells #[] 5)).cell (p:=⟨bd,od+q*2+1,none⟩) (fun h=>h) hct
    clear hsb he hd hst hlt2 hcm hno htl
    go_wp2_with (at_builtin; refine wp_app rfl (.tmp 28) (.tmp 36) Tb rfl rfl HON.out rfl HST.out ?c1 ?c2 ?c3 ?_)
    case c1=>intro a _; rfl
    case c2=>omega
    case c3=>omega
    intro v5 w5 ho5 hg5 hb5
    have HF:Bx (Fresh w v5 dc.2 w5):=⟨(fresh_none8 w).app8 (by rw[HTL.out]; exact ho5) hg5 (by rw[World.size_alloc]; exact hb5)⟩
    clear ho5 hg5 hb5
    go_wp2
    go_ret3
    exact⟨v5,dc.2,true,true,rfl,HF.out,GR.some HAT.out⟩
   ·have hsb2:(SD.toList==SK.toList)=false:=by rw[hsb]; simpa using he
    have HNO:Bx (∀ i d,i<q+1→ds[i]? = some d→d.1≠k):=⟨fun i d hi hdi=>by
     rcases Nat.lt_or_ge i q with h | h
     ·exact hno.out i d h hdi
     ·obtain rfl:i=q:=by omega
      rw[hd.out] at hdi
      injection hdi with hdi
      rw[←hdi]; exact he⟩
    clear hsb he hd hst hlt2 hcm hno hct
    go_wp2
    go_round
    case rel=>exact⟨q+1,by omega,by go_num,HNO⟩
    case measure=>simp[intOf]; omega
  ·obtain rfl:n=q:=by omega
   have dk:decide ((n:Int)<(n:Int))=false:=decide_eq_false (by omega)
   have HAT:=Bx.mk (at_no (by rw[HL.out]; exact hno.out))
   clear hno
   go_wp2_with fail
   go_loop [8] (fun i=>∃ q:Nat,q≤m∧i = .int .i64 q∧Bx (∀ i x,i<q→gs[i]? = some x→x≠k)) (fun i=>m-(intOf i).toNat)
   case atStart=>exact⟨0,Nat.zero_le _,rfl,⟨fun i d hi=>absurd hi (by omega)⟩⟩
   case round =>
    obtain⟨q,hq,rfl,hno⟩:=hrel
    by_cases hlt:q<m
    ·have dk2:decide ((q:Int)<(m:Int))=true:=decide_eq_true (by omega)
     obtain⟨bd,od,x,rfl,_,hx,hck⟩:=HK.out.at_ hlt
     have i2:(q:Int)<(m:Int):=by omega
     have hsb:=HSB2.out x
     have hck2:w.cell? ⟨bd,od+q,none⟩=some (.string ⟨x.toArray⟩):=hck
     obtain⟨SD,hSD⟩:∃ S:ByteArray,(⟨x.toArray⟩:ByteArray)=S:=⟨_,rfl⟩
     rw[hSD] at hsb hck2
     clear hSD hck
     by_cases he:x=k
     ·have hsb2:(SD.toList==SK.toList)=true:=by rw[hsb]; simpa using he
      have HI:Bx (decide (k∈gs)=true):=⟨decide_eq_true (he ▸ List.mem_of_getElem? hx.out)⟩
      clear hsb he hx hno
      go_wp2
      go_ret3
      exact⟨_,[],false,true,rfl,fresh_none (Ch.refl _ _),GR.none HAT.out HI.out⟩
     ·have hsb2:(SD.toList==SK.toList)=false:=by rw[hsb]; simpa using he
      have HNO:Bx (∀ i d,i<q+1→gs[i]? = some d→d≠k):=⟨fun i d hi hdi=>by
       rcases Nat.lt_or_ge i q with h | h
       ·exact hno.out i d h hdi
       ·obtain rfl:i=q:=by omega
        rw[hx.out] at hdi
        injection hdi with hdi
        rw[←hdi]; exact he⟩
      clear hsb he hx hno
      go_wp2
      go_round
      case rel=>exact⟨q+1,by omega,by go_num,HNO⟩
      case measure=>simp[intOf]; omega
    ·obtain rfl:m=q:=by omega
     have dk2:decide ((m:Int)<(m:Int))=false:=decide_eq_false (by omega)
     have HI:Bx (decide (k∈gs)=false):=⟨decide_eq_false (fun hm=>by
      obtain⟨i,hi⟩:=List.getElem?_of_mem hm
      exact hno.out i k (by rw[←HM.out]; exact (List.getElem?_eq_some_iff.1 hi).1) hi rfl)⟩
     clear hno
     go_wp2
     go_ret3
     exact⟨_,[],false,false,rfl,fresh_none (Ch.refl _ _),GR.none HAT.out HI.out⟩
end
end
section
open Go.RowKit Go.Oct Go.Su Go.Sg
section
variable {F G:Nat→Prop}
theorem lawmatches_any (a b:List (Key×Nat)) (A B:Option Addr) (n m c d:Nat) (w:World) (hz:Mts w F A n a) (hy:Mts w G B m b) (hn:n≤9223372036854775806) (o:Bool) (ho:decide (a=b)=o) :
  Calls Tryz.prog 57 #[.slice A n c, .slice B m d] w fun e w'=>e = .returned (.bool o)∧∃ q,w'=w.drewN q:=by
 have HL:Bx (a.length=n):=⟨Ro.len hz⟩
 have HM:Bx (b.length=m):=⟨Ro.len hy⟩
 have HZ:=Bx.mk hz
 have HY:=Bx.mk hy
 have HO:=Bx.mk ho
 clear hz hy ho
 by_cases hnm:n=m
 ·subst hnm
  have e0:((n:Int) != (n:Int))=false:=by simp
  go_enter Tryz.func57,Tryz.ntmps57
  go_wp2_with fail
  go_loopw [5] (fun i wr=>∃ k q:Nat,k≤n∧i = .int .i64 k∧wr=w.drewN q∧Bx (a.take k=b.take k)) (fun i _=>n-(intOf i).toNat)
  case atStart=>exact⟨0,0,Nat.zero_le _,rfl,rfl,⟨rfl⟩⟩
  case round =>
   obtain⟨k,q,hk,rfl,rfl,hT⟩:=hrel
   by_cases hkn:k<n
   ·have dk:decide ((k:Int)<(n:Int))=true:=decide_eq_true (by omega)
    have i1:(k:Int)<(n:Int):=by omega
    obtain⟨b1,o1,x,rfl,_,hx,hcx,hcx2⟩:=HZ.out.get hkn
    obtain⟨b2,o2,y,rfl,_,hy,hcy,hcy2⟩:=HY.out.get hkn
    obtain⟨SX,hSX⟩:∃ S:ByteArray,(⟨x.1.toArray⟩:ByteArray)=S:=⟨_,rfl⟩
    obtain⟨SY,hSY⟩:∃ S:ByteArray,(⟨y.1.toArray⟩:ByteArray)=S:=⟨_,rfl⟩
    have hkx:kv x.1 = .string SX:=by unfold kv; rw[hSX]
    have hky:kv y.1 = .string SY:=by unfold kv; rw[hSY]
    have hsq:(SX.toList==SY.toList)=decide (x.1=y.1):=by rw[←hSX,←hSY]; exact str_beq x.1 y.1
    rw[hkx] at hcx
    rw[hky] at hcy
    have HX:=Bx.mk hx.out
    have HYY:=Bx.mk hy.out
    have HTX:=Bx.mk (Oct.take_more hx.out)
    have HTY:=Bx.mk (Oct.take_more hy.out)
    obtain⟨px,hpx⟩:∃ p,x.2=p:=⟨_,rfl⟩
    obtain⟨py,hpy⟩:∃ p,y.2=p:=⟨_,rfl⟩
    rw[hpx] at hcx2
    rw[hpy] at hcy2
    have HPX:=Bx.mk hpx
    have HPY:=Bx.mk hpy
    clear hx hy hkx hky hSX hSY hpx hpy
    by_cases hxy:x=y
    ·have e1:(SX.toList==SY.toList)=true:=by rw[hsq,hxy]; simp
     have e2:((px:Int)==(py:Int))=true:=by rw[←HPX.out,←HPY.out,hxy]; simp
     have HN:Bx (a.take (k+1)=b.take (k+1)):=⟨by rw[HTX.out,HTY.out,hT.out,hxy]⟩
     clear hsq hxy
     go_wp2_with fail
     go_quiet (fail)
     go_wp2_with fail
     go_roundw
     case rel=>exact⟨k+1,q+nq,by omega,by go_num,rfl,HN⟩
     case measure=>simp[intOf]; omega
    ·have HN:Bx (false=o):=⟨by
      rw[←HO.out]
      symm
      refine decide_eq_false fun h=>hxy ?_
      have h1:=HX.out
      rw[h,HYY.out] at h1
      injection h1 with h1
      exact h1.symm⟩
     have e3:x.1=y.1→((px:Int)==(py:Int))=false:=fun h=>beq_false_of_ne fun e=>hxy (Prod.ext h (by rw[HPX.out,HPY.out]; omega))
     by_cases h1:x.1=y.1
     ·have e1:(SX.toList==SY.toList)=true:=by rw[hsq]; simpa using h1
      have e2:=e3 h1
      clear hsq hxy e3 h1
      go_wp2_with fail
      go_quiet (fail)
      go_wp2_with fail
      go_ret
      exact⟨ret_bool HN.out,q+nq,by rw[World.drewN_drewN]⟩
     ·have e1:(SX.toList==SY.toList)=false:=by rw[hsq]; simpa using h1
      clear hsq hxy e3 h1
      go_wp2_with fail
      go_quiet (fail)
      go_wp2_with fail
      go_ret
      exact⟨ret_bool HN.out,q+nq,by rw[World.drewN_drewN]⟩
   ·obtain rfl:n=k:=by omega
    have dk:decide ((n:Int)<(n:Int))=false:=decide_eq_false (by omega)
    have HN:Bx (true=o):=⟨by
     rw[←HO.out]
     symm
     refine decide_eq_true ?_
     have h:=hT.out
     rwa[List.take_of_length_le (Nat.le_of_eq HL.out),List.take_of_length_le (Nat.le_of_eq HM.out)] at h⟩
    clear hT
    go_wp2_with fail
    go_ret
    exact⟨ret_bool HN.out,q,rfl⟩
 ·have e0:((n:Int) != (m:Int))=true:=by simp; omega
  have HN:Bx (false=o):=⟨by
   rw[←HO.out]
   symm
   exact decide_eq_false fun h=>hnm (by rw[←HL.out,←HM.out,h])⟩
  go_enter Tryz.func57,Tryz.ntmps57
  go_wp2_with fail
  go_ret
  exact⟨ret_bool HN.out,0,rfl⟩
end
end
section
open Go.RowKit Go.Oct Go.Su Go.Sg
section
variable {F G:Nat→Prop}
theorem lawtexts_any (a b:List Key) (A B:Option Addr) (n m c d:Nat) (w:World) (hz:Kss w F A n a) (hy:Kss w G B m b) (hn:n≤9223372036854775806) (o:Bool) (ho:decide (a=b)=o) :
  Calls Tryz.prog 54 #[.slice A n c, .slice B m d] w fun e w'=>e = .returned (.bool o)∧∃ q,w'=w.drewN q:=by
 have HL:=Bx.mk hz.len
 have HM:=Bx.mk hy.len
 have HZ:=Bx.mk hz
 have HY:=Bx.mk hy
 have HO:=Bx.mk ho
 clear hz hy ho
 by_cases hnm:n=m
 ·subst hnm
  have e0:((n:Int) != (n:Int))=false:=by simp
  go_enter Tryz.func54,Tryz.ntmps54
  go_wp2_with fail
  go_loopw [5] (fun i wr=>∃ k q:Nat,k≤n∧i = .int .i64 k∧wr=w.drewN q∧Bx (a.take k=b.take k)) (fun i _=>n-(intOf i).toNat)
  case atStart=>exact⟨0,0,Nat.zero_le _,rfl,rfl,⟨rfl⟩⟩
  case round =>
   obtain⟨k,q,hk,rfl,rfl,hT⟩:=hrel
   by_cases hkn:k<n
   ·have dk:decide ((k:Int)<(n:Int))=true:=decide_eq_true (by omega)
    have i1:(k:Int)<(n:Int):=by omega
    obtain⟨b1,o1,x,rfl,_,hx,hcx⟩:=HZ.out.at_ hkn
    obtain⟨b2,o2,y,rfl,_,hy,hcy⟩:=HY.out.at_ hkn
    obtain⟨SX,hSX⟩:∃ S:ByteArray,(⟨x.toArray⟩:ByteArray)=S:=⟨_,rfl⟩
    obtain⟨SY,hSY⟩:∃ S:ByteArray,(⟨y.toArray⟩:ByteArray)=S:=⟨_,rfl⟩
    have hkx:kv x = .string SX:=by unfold kv; rw[hSX]
    have hky:kv y = .string SY:=by unfold kv; rw[hSY]
    have hsq:(SX.toList==SY.toList)=decide (x=y):=by rw[←hSX,←hSY]; exact str_beq x y
    rw[hkx] at hcx
    rw[hky] at hcy
    have HX:=Bx.mk hx.out
    have HYY:=Bx.mk hy.out
    have HTX:=Bx.mk (Oct.take_more hx.out)
    have HTY:=Bx.mk (Oct.take_more hy.out)
    clear hx hy hkx hky hSX hSY
    by_cases hxy:x=y
    ·have e1:(SX.toList==SY.toList)=true:=by rw[hsq]; simpa using hxy
     have HN:Bx (a.take (k+1)=b.take (k+1)):=⟨by rw[HTX.out,HTY.out,hT.out,hxy]⟩
     clear hsq hxy
     go_wp2_with fail
     go_quiet (fail)
     go_wp2_with fail
     go_roundw
     case rel=>exact⟨k+1,q+nq,by omega,by go_num,rfl,HN⟩
     case measure=>simp[intOf]; omega
    ·have e1:(SX.toList==SY.toList)=false:=by rw[hsq]; simpa using hxy
     have HN:Bx (false=o):=⟨by
      rw[←HO.out]
      symm
      refine decide_eq_false fun h=>hxy ?_
      have h1:=HX.out
      rw[h,HYY.out] at h1
      injection h1 with h1
      exact h1.symm⟩
     clear hsq hxy
     go_wp2_with fail
     go_quiet (fail)
     go_wp2_with fail
     go_ret
     exact⟨ret_bool HN.out,q+nq,by rw[World.drewN_drewN]⟩
   ·obtain rfl:n=k:=by omega
    have dk:decide ((n:Int)<(n:Int))=false:=decide_eq_false (by omega)
    have HN:Bx (true=o):=⟨by
     rw[←HO.out]
     symm
     refine decide_eq_true ?_
     have h:=hT.out
     rwa[List.take_of_length_le (Nat.le_of_eq HL.out),List.take_of_length_le (Nat.le_of_eq HM.out)] at h⟩
    clear hT
    go_wp2_with fail
    go_ret
    exact⟨ret_bool HN.out,q,rfl⟩
 ·have e0:((n:Int) != (m:Int))=true:=by simp; omega
  have HN:Bx (false=o):=⟨by
   rw[←HO.out]
   symm
   exact decide_eq_false fun h=>hnm (by rw[←HL.out,←HM.out,h])⟩
  go_enter Tryz.func54,Tryz.ntmps54
  go_wp2_with fail
  go_ret
  exact⟨ret_bool HN.out,0,rfl⟩
end
end
section
open Go.RowKit Go.Oct Go.Su Go.Sg Go.Fr
theorem le_begS {xss:List (List Int)}:∀ {n:Nat},n≤xss.length→n≤beg xss n:=by
 intro n
 induction n with
 | zero=>intro _; exact Nat.zero_le _
 | succ k ih =>
  intro hk
  have:=ih (by omega)
  rw[beg_next xss k (by omega)]
  omega
theorem rlong_no {F:Nat→Prop} (xss:List (List Int)) (A:Option Addr) (n c:Nat) (w:World) (hz:Sls w F A n xss) (hN:(txt xss).length≤65536) :
  Calls Tryz.prog 52 #[.slice A n c] w fun e w'=>e = .returned (.bool false)∧w=w':=by
 have hl:=hz.len
 have HL:=Bx.mk hl
 have HZ:=Bx.mk hz
 have HN:Bx (∀ k,k≤n→1+beg xss k≤65536):=⟨fun k hk=>by
  have:=beg_mono xss hk (by rw[hl]; exact Nat.le_refl _)
  rw[txt_len,hl] at hN
  omega⟩
 have HNX:Bx (∀ k,k<n→beg xss (k+1)=beg xss k+((xss.getD k []).length+1)):=⟨fun k hk=>beg_next xss k (by rw[hl]; exact hk)⟩
 have hnm:n≤65536:=by
  have h1:=HN.out n (Nat.le_refl _)
  have h2:=le_begS (xss:=xss) (n:=n) (by rw[hl]; exact Nat.le_refl _)
  omega
 clear hz hN hl
 go_enter Tryz.func52,Tryz.ntmps52
 go_wp2_with fail
 go_loop [3,4] (fun t i=>∃ k q:Nat,k≤n∧i = .int .i64 k∧t = .int .i64 q∧Bx (q=1+beg xss k)) (fun _ i=>n-(intOf i).toNat)
 case atStart=>exact⟨0,1,Nat.zero_le _,rfl,rfl,⟨rfl⟩⟩
 case round =>
  obtain⟨k,q,hk,rfl,rfl,hq⟩:=hrel
  have hqb:q≤65536:=by rw[hq.out]; exact HN.out k hk
  have d1:decide ((q:Int)≤65536)=true:=decide_eq_true (by omega)
  have d2:decide (q≤65536)=true:=decide_eq_true hqb
  by_cases hlt:k<n
  ·have dk:decide ((k:Int)<(n:Int))=true:=decide_eq_true (by omega)
   obtain⟨b,off,A',c',t,rfl,_,ex,hc,_,_,_⟩:=HZ.out.at_ hlt
   have hnx:=HNX.out k hlt
   rw[List.getD_eq_getElem?_getD,ex.out] at hnx
   simp only[Option.getD_some] at hnx
   obtain⟨tl,htl⟩:∃ tl,t.length=tl:=⟨_,rfl⟩
   rw[htl] at hc hnx
   have hqn:=HN.out (k+1) hlt
   have HQ:Bx (q+1+tl=1+beg xss (k+1)):=⟨by rw[hnx,hq.out]; omega⟩
   have hb:q+1+tl≤65536:=by rw[HQ.out]; exact hqn
   have i2:(k:Int)<(n:Int):=by omega
   clear hnx ex htl hq hqn
   go_wp2
   go_round
   case rel=>exact⟨k+1,q+1+tl,by omega,by go_num,by go_num,HQ⟩
   case measure=>simp[intOf]; omega
  ·obtain rfl:n=k:=by omega
   have dk:decide ((n:Int)<(n:Int))=false:=decide_eq_false (by omega)
   have d3:decide ((65536:Int)<(q:Int))=false:=decide_eq_false (by omega)
   clear hq
   go_wp2
   go_ret
   exact⟨rfl,rfl⟩
/-! ### a segment under way: texts,documents,the segment's own block -/
theorem elemD:ElemK Tryz.prog 22 37 (.agg #[.string ByteArray.empty, .slice none 0 0]) 2 40:=⟨Tryz.underlying22,by kernel_rfl,rfl,by decide⟩
def dcV:List Key→List Value→List Value
 | k::l,u::us=>kv k::u::dcV l us
 | _,_=>[]
theorem dcV_snoc:∀ (l:List Key) (us:List Value) (k:Key) (u:Value),l.length=us.length→dcV (l++[k]) (us++[u])=dcV l us++[kv k,u]
 | [],[],_,_,_=>rfl
 | [],_::_,_,_,h=>by simp at h
 | _::_,[],_,_,h=>by simp at h
 | a::l,v::us,k,u,h=>by
  simp only[List.cons_append,dcV]
  rw[dcV_snoc l us k u (by simpa using h)]
theorem dcV_at:∀ (l:List Key) (us:List Value) (j:Nat) (k:Key) (u:Value),l[j]? = some k→us[j]? = some u→(dcV l us)[j*2]? = some (kv k)∧(dcV l us)[j*2+1]? = some u
 | [],_,_,_,_,h,_=>by simp at h
 | _::_,[],_,_,_,_,h=>by simp at h
 | a::l,v::us,0,k,u,h1,h2=>by
  simp at h1 h2
  subst h1 h2
  exact⟨rfl,rfl⟩
 | a::l,v::us,j+1,k,u,h1,h2=>by
  have:=dcV_at l us j k u (by simpa using h1) (by simpa using h2)
  rw[show (j+1)*2=j*2+2 by omega]
  exact this
structure Nw (w3 wr:World) (bs:Nat) (gv tv vd:Value) (k j:Nat) (us vs:List Value) (xss yss:List (List Int)) (ks:List Key):Prop where
 seg:wr.heap[bs]? = some (.cells #[vd,gv] 78 (0,0))
 bsl:bs<w3.heap.size
 tw:wr.ownsRow 0 26 1 tv k us
 tl:∀ g,tv.ownBlock=some g→w3.heap.size≤g
 dw:wr.ownsRow 0 37 2 vd j (dcV ks vs)
 dl:∀ g,vd.ownBlock=some g→w3.heap.size≤g
 ne:∀ g,tv.ownBlock=some g→vd.ownBlock≠some g
 rt:Oct.Rows wr (fun b=>w3.heap.size≤b∧tv.ownBlock≠some b∧vd.ownBlock≠some b) us xss
 rd:Oct.Rows wr (fun b=>w3.heap.size≤b∧tv.ownBlock≠some b∧vd.ownBlock≠some b) vs yss
 kl:ks.length=vs.length
 ch:Ch (fun b=>b=bs) w3 wr
theorem lt_blk {w:World} {e:TypeId} {s n:Nat} {v:Value} {us:List Value} (h:w.ownsRow 0 e s v n us) {g:Nat} (hg:v.ownBlock=some g):g<w.heap.size:=(h.lt g hg).2
theorem own_shape' {w:World} {base s n:Nat} {e:TypeId} {v:Value} {xs:List Value} (h:w.ownsRow base e s v n xs):∃ A c,v = .slice A n c∧n≤c∧c≤maxLen:=by
 rcases h.2 with ⟨rfl,rfl⟩ | ⟨g,cap,cur,rfl,_,_,h1,h2,_⟩
 ·exact⟨_,_,rfl,Nat.le_refl _,Nat.zero_le _⟩
 ·exact⟨_,_,rfl,h1,h2⟩
theorem Nw.start (w:World) (gv:Value):Nw (w.alloc (.cells #[.slice none 0 0,gv] 78)) (w.alloc (.cells #[.slice none 0 0,gv] 78)) w.heap.size gv (.slice none 0 0) (.slice none 0 0) 0 0 [] [] [] [] [] :=
 ⟨heap_alloc_new w _,by rw[World.size_alloc]; omega,World.ownsRow_nil _ _ _ _,fun g hg=>by simp[Value.ownBlock] at hg,World.ownsRow_nil _ _ _ _,fun g hg=>by simp[Value.ownBlock] at hg,fun g hg=>by simp[Value.ownBlock] at hg,Oct.Rows.nil_ _ _,Oct.Rows.nil_ _ _,rfl,Ch.refl _ _⟩
section
variable {w3 wr w1 w2:World} {bs k j:Nat} {gv tv vd tv' vd':Value} {us vs:List Value} {xss yss:List (List Int)} {ks:List Key}
theorem Nw.keep (h:Nw w3 wr bs gv tv vd k j us vs xss yss ks) (hc:Ch (fun _=>False) wr w1):Nw w3 w1 bs gv tv vd k j us vs xss yss ks :=
 ⟨(hc.block bs (Array.getElem?_eq_some_iff.1 h.seg).1 (fun h=>h)).trans h.seg,h.bsl,hc.own h.tw (fun _ _ h=>h),h.tl,hc.own h.dw (fun _ _ h=>h),h.dl,h.ne,h.rt.ch hc (fun _ _ _ h=>h),h.rd.ch hc (fun _ _ _ h=>h),h.kl,h.ch.trans hc (fun _ _ h=>h.elim)⟩
theorem Nw.text (h:Nw w3 wr bs gv tv vd k j us vs xss yss ks) {A:Option Addr} {c:Nat} {t:List Int} (hs:Sl wr (fun b=>w3.heap.size≤b∧tv.ownBlock≠some b∧vd.ownBlock≠some b) .u8 A t.length t) (h1:t.length≤c) (h2:c≤maxLen)
  (hc:Ch (fun _=>False) wr w1) (ho:w2.ownsRow 0 26 1 tv' (k+1) (us++[.slice A t.length c])) (hg:w1.grownBy w2 tv.ownBlock) (hb:tv'.ownBlock=tv.ownBlock∨tv'.ownBlock=some w1.heap.size) :
  Nw w3 w2 bs gv tv' vd (k+1) j (us++[.slice A t.length c]) vs (xss++[t]) yss ks:=by
 have hC:Ch (fun b=>tv.ownBlock=some b) wr w2:=((Ch.refl _ wr).trans hc (fun _ _ h=>h.elim)).grown hg (fun _ h => .inl h)
 have hs1:=h.ch.size
 have hs2:=hc.size
 have nw:∀ b,b<wr.heap.size→vd.ownBlock≠some b→tv.ownBlock≠some b→tv'.ownBlock≠some b:=fun b hb1 _ h4 h3=>by
  rcases hb with e | e
  ·exact h4 (e ▸ h3)
  ·rw[e] at h3
   injection h3 with h3
   omega
 have mo:∀ {vs:List Value} {yss:List (List Int)},Oct.Rows wr (fun b=>w3.heap.size≤b∧tv.ownBlock≠some b∧vd.ownBlock≠some b) vs yss→Oct.Rows w2 (fun b=>w3.heap.size≤b∧tv'.ownBlock≠some b∧vd.ownBlock≠some b) vs yss:=fun {vs yss} hr =>
  (hr.mono (G:=fun b=>(w3.heap.size≤b∧tv'.ownBlock≠some b∧vd.ownBlock≠some b)∧tv.ownBlock≠some b) (fun b hb1 hb2=>⟨⟨hb2.1,nw b hb1 hb2.2.2 hb2.2.1,hb2.2.2⟩,hb2.2.1⟩)).ch hC (fun b hb _ h=>hb.2 h) |>.mono (fun _ _ h=>h.1)
 refine⟨?_,h.bsl,ho,fun g hgv=>?_,hC.own h.dw (fun g hgv h2=>h.ne g h2 hgv),h.dl,fun g hgv=>?_,mo (rows_one h.rt hs h1 h2),mo h.rd,h.kl,h.ch.trans hC (fun i hi h2=>by have:=h.tl i h2; omega)⟩
 ·exact (hC.block bs (Array.getElem?_eq_some_iff.1 h.seg).1 (fun h2=>by have:=h.tl bs h2; have:=h.bsl; omega)).trans h.seg
 ·rcases hb with e | e
  ·exact h.tl g (e ▸ hgv)
  ·rw[e] at hgv
   injection hgv with hgv
   omega
 ·rcases hb with e | e
  ·exact h.ne g (e ▸ hgv)
  ·rw[e] at hgv
   injection hgv with hgv
   intro h3
   have:=lt_blk h.dw h3
   omega
theorem Nw.doc (h:Nw w3 wr bs gv tv vd k j us vs xss yss ks) {A:Option Addr} {c:Nat} {t:List Int} {key:Key} (hs:Sl wr (fun b=>w3.heap.size≤b∧tv.ownBlock≠some b∧vd.ownBlock≠some b) .u8 A t.length t) (h1:t.length≤c) (h2:c≤maxLen)
  (hc:Ch (fun _=>False) wr w1) (ho:w2.ownsRow 0 37 2 vd' (j+1) (dcV ks vs++[kv key, .slice A t.length c])) (hg:w1.grownBy w2 vd.ownBlock) (hb:vd'.ownBlock=vd.ownBlock∨vd'.ownBlock=some w1.heap.size) :
  Nw w3 (w2.setCell ⟨bs,0,none⟩ vd') bs gv tv vd' k (j+1) us (vs++[.slice A t.length c]) xss (yss++[t]) (ks++[key]):=by
 have hC:Ch (fun b=>vd.ownBlock=some b) wr w2:=((Ch.refl _ wr).trans hc (fun _ _ h=>h.elim)).grown hg (fun _ h => .inl h)
 have hC2:Ch (fun b=>vd.ownBlock=some b∨b=bs) wr (w2.setCell ⟨bs,0,none⟩ vd'):=(hC.mono (fun _ _ h => .inl h)).setCell (p:=⟨bs,0,none⟩) (.inl (.inr rfl)) _
 have hs1:=h.ch.size
 have hs2:=hc.size
 have hbl:=h.bsl
 have hseg2:w2.heap[bs]? = some (.cells #[vd,gv] 78 (0,0)):=(hC.block bs (Array.getElem?_eq_some_iff.1 h.seg).1 (fun h2=>by have:=h.dl bs h2; omega)).trans h.seg
 have nw:∀ b,b<wr.heap.size→vd.ownBlock≠some b→vd'.ownBlock≠some b:=fun b hb1 h4 h3=>by
  rcases hb with e | e
  ·exact h4 (e ▸ h3)
  ·rw[e] at h3
   injection h3 with h3
   omega
 have mo:∀ {vs:List Value} {yss:List (List Int)},Oct.Rows wr (fun b=>w3.heap.size≤b∧tv.ownBlock≠some b∧vd.ownBlock≠some b) vs yss→Oct.Rows (w2.setCell ⟨bs,0,none⟩ vd') (fun b=>w3.heap.size≤b∧tv.ownBlock≠some b∧vd'.ownBlock≠some b) vs yss:=fun {vs yss} hr =>
  (hr.mono (G:=fun b=>(w3.heap.size≤b∧tv.ownBlock≠some b∧vd'.ownBlock≠some b)∧vd.ownBlock≠some b) (fun b hb1 hb2=>⟨⟨hb2.1,hb2.2.1,nw b hb1 hb2.2.2⟩,hb2.2.2⟩)).ch hC2 (fun b hb _ h=>by
   rcases h with h | h
   ·exact hb.2 h
   ·have:=hb.1.1; omega) |>.mono (fun _ _ h=>h.1)
 have hvl:∀ g,vd'.ownBlock=some g→w3.heap.size≤g:=fun g hgv=>by
  rcases hb with e | e
  ·exact h.dl g (e ▸ hgv)
  ·rw[e] at hgv
   injection hgv with hgv
   omega
 have hsc:Ch (fun b=>b=bs) w2 (w2.setCell ⟨bs,0,none⟩ vd'):=Ch.setCell (S:=fun b=>b=bs) (Ch.refl _ w2) (p:=⟨bs,0,none⟩) (.inl rfl) _
 refine⟨?_,hbl,hC2.own h.tw (fun g hgv h2=>?_),h.tl,?_,hvl,fun g hgv=>?_,mo h.rt,mo (rows_one h.rd hs h1 h2),by simp[h.kl],h.ch.trans hC2 (fun i hi h2=>?_)⟩
 ·simp[World.setCell,Array.getElem?_modify,hseg2]
 ·rcases h2 with h2 | h2
  ·exact h.ne g hgv h2
  ·have:=h.tl g hgv; omega
 ·rw[dcV_snoc _ _ _ _ h.kl]
  exact hsc.own ho (fun g hgv h2=>by have:=hvl g hgv; omega)
 ·rcases hb with e | e
  ·rw[e]; exact h.ne g hgv
  ·rw[e]
   intro h3
   injection h3 with h3
   have:=lt_blk h.tw hgv
   omega
 ·rcases h2 with h2 | h2
  ·have:=h.dl i h2; omega
  ·exact h2
theorem Nw.dcs (h:Nw w3 wr bs gv tv vd k j us vs xss yss ks) {ds:List Dc} (hk:ks=Go.Sg.ks ds) (ht:yss=ts ds):∃ A c,vd = .slice A ds.length c∧j=ds.length∧Dcs wr (fun b=>w3.heap.size≤b) A ds.length ds∧ds.length≤c∧c≤maxLen:=by
 obtain⟨A,c,ev,h1,h2⟩:=own_shape' h.dw
 have hj:j=ds.length:=by
  have e1:=h.dw.1
  have e2:∀ (l:List Key) (us:List Value),l.length=us.length→(dcV l us).length=l.length*2:=fun l=>by
   induction l with
   | nil=>intro us _; cases us <;> rfl
   | cons a l ih =>
    intro us hl
    cases us with
    | nil=>simp at hl
    | cons u us =>
     simp only[dcV,List.length_cons]
     rw[ih us (by simpa using hl)]
     omega
  rw[e2 _ _ h.kl,hk,ks_len] at e1
  omega
 subst hj
 refine⟨A,c,ev,rfl,⟨rfl,fun hn=>?_⟩,h1,h2⟩
 rcases h.dw.2 with ⟨_,h0⟩ | ⟨g,cap,cur,hv,_,_,_⟩
 ·omega
 ·rw[ev] at hv
  injection hv with hA
  subst hA
  have how:=h.dw
  rw[ev] at how
  refine⟨g,0,rfl,h.dl g (by rw[ev]; rfl),fun i d hd=>?_⟩
  obtain⟨hi,_⟩:=List.getElem?_eq_some_iff.1 hd
  have hki:ks[i]? = some d.1:=by rw[hk]; unfold Go.Sg.ks; rw[List.getElem?_map,hd]; rfl
  have hyi:yss[i]? = some d.2:=by rw[ht]; unfold ts; rw[List.getElem?_map,hd]; rfl
  have hvi:i<vs.length:=by rw[←h.kl,hk,ks_len]; exact hi
  obtain⟨B,cB,eu,hsl,q1,q2⟩:=h.rd.2 i _ _ (List.getElem?_eq_getElem hvi) hyi
  obtain⟨c1,c2⟩:=dcV_at ks vs i d.1 _ hki (List.getElem?_eq_getElem hvi)
  rw[eu] at c2
  have k1:=how.cellAt (i*2) (by omega)
  have k2:=how.cellAt (i*2+1) (by omega)
  rw[c1] at k1
  rw[c2] at k2
  refine⟨[kv d.1, .slice B d.2.length cB],rfl,⟨B,cB,rfl,hsl.mono (fun _ _ h=>h.1),q1,q2⟩,fun z u hu=>?_⟩
  rw[Nat.zero_add]
  match z,hu with
  | 0,hu=>simp at hu; subst hu; exact k1
  | 1,hu=>simp at hu; subst hu; exact k2
end
end
section
open Go.RowKit Go.Oct Go.Su Go.Sg Go.Fr
theorem docs_of:∀ (m:List Key) (docs:List Dc),m.Perm (ks docs)→∃ ds:List Dc,ds.Perm docs∧ks ds=m:=by
 intro m
 induction m with
 | nil =>
  intro docs h
  have:(ks docs).length=0:=by rw[←h.length_eq]; rfl
  rw[ks_len] at this
  exact⟨[],by rw[List.eq_nil_of_length_eq_zero this],rfl⟩
 | cons a m ih =>
  intro docs h
  obtain⟨d,hd,rfl⟩:=List.mem_map.1 (h.mem_iff.1 (List.mem_cons_self))
  have hp:=List.perm_cons_erase hd
  have h2:(d.1::m).Perm (d.1::ks (docs.erase d)):=h.trans (hp.map _)
  obtain⟨ds,h3,h4⟩:=ih (docs.erase d) ((List.perm_cons _).1 h2)
  exact⟨d::ds,(h3.cons d).trans hp.symm,by rw[←h4]; rfl⟩
theorem key_one {docs:List Dc} (h:(ks docs).Nodup) {d e:Dc} (hd:d∈docs) (he:e∈docs) (hk:d.1=e.1):d=e:=by
 obtain⟨i,hi,rfl⟩:=List.mem_iff_getElem.1 hd
 obtain⟨j,hj,rfl⟩:=List.mem_iff_getElem.1 he
 have:i=j:=(List.getElem_inj (xs:=ks docs) (h₀:=by rw[ks_len]; exact hi) (h₁:=by rw[ks_len]; exact hj) h).1 (by simpa[ks] using hk)
 subst this
 rfl
theorem beg_all (xss:List (List Int)):beg xss xss.length=(xss.map fun t=>t.length+1).sum:=by
 unfold beg
 rw[List.take_of_length_le (Nat.le_refl _)]
theorem beg_perm {xss yss:List (List Int)} (h:xss.Perm yss):beg xss xss.length=beg yss yss.length:=by
 rw[beg_all,beg_all]
 exact (h.map _).sum_nat
theorem flat_perm {a b:List Key} (h:a.Perm b):(a.flatMap kB).length=(b.flatMap kB).length:=by
 rw[List.length_flatMap,List.length_flatMap]
 exact (h.map _).sum_nat
theorem encs_len:∀ t:List Int,(t.flatMap encI).length≤t.length*9
 | []=>by simp
 | x::t=>by
  have h1:=encs_len t
  have h2:=encI_len x
  rw[List.flatMap_cons,List.length_append,List.length_cons]
  omega
theorem bod_len {ds:List Dc} {gs:List Key} {t:List Int} (hd:ds.length≤1000000) (hg:gs.length≤1000000) (hk:((ks ds).flatMap kB).length≤100000) (hl:(gs.flatMap kB).length≤100000) (ht:t.length≤65536):(bod ds gs t).length≤1000000:=by
 have h1:=(enc_len (n:=ds.length) (by omega)).2
 have h2:=(enc_len (n:=gs.length) (by omega)).2
 have h3:=(enc_len (n:=t.length) (by omega)).2
 have h4:=encs_len t
 unfold bod
 rw[keysB_eq,keysB_eq]
 simp only[List.length_append,List.length_cons,List.length_nil,ks_len]
 omega
end
end Go.Proofs.YtambgjpfoceieaaGreatDoor
