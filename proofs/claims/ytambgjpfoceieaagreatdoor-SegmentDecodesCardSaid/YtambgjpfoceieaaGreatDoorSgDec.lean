/- Lemmas and contracts of this proof. Conditions: said at each. -/
import Derived.Test.YtambgjpfoceieaaGreatDoorGSxNewW
import Derived.Test.YtambgjpfoceieaaGreatDoorSxTake
set_option maxHeartbeats 16000000
set_option maxRecDepth 100000
namespace Go.Proofs.YtambgjpfoceieaaGreatDoor
open Go.RowKit Go.Oct Go.Su Go.Sg Go.Fr
def RDecOf (xs:List Int) (w:World) (e:Ending) (w':World):Prop :=
 (NoGood xs∧e = .returned (.tuple #[.pointer none, .int .i64 3])∧Ch (fun _=>False) w w') ∨
 (∃ (b:Nat) (ds:List Dc) (gs:List Key),Good xs ds gs∧e = .returned (.tuple #[.pointer (some ⟨b,0,none⟩), .int .i64 0])∧Rs w' (fun k=>w.heap.size≤k) b ds gs∧Ch (fun _=>False) w w')
structure KUf (Q:Nat→Prop) (xs:List Int) (w wr:World) (bf:Nat) (v:Value) (i:Nat):Prop where
 tk:Tk 9 w wr bf v i (((kvs (nb xs,nr xs) i).map keyI).map kv)
 rd:O.Rf Q wr bf (kst (nb xs,nr xs) i).1 (kst (nb xs,nr xs) i).2
 room:(kst (nb xs,nr xs) i).1=false→i+(kst (nb xs,nr xs) i).2.length≤xs.length
structure NUf (Q:Nat→Prop) (xs:List Int) (w wr:World) (bf:Nat) (v:Value) (i:Nat):Prop where
 tk:Tk 3 w wr bf v i (valN (nvs (nb xs,nr xs) i))
 rd:O.Rf Q wr bf (nst (nb xs,nr xs) i).1 (nst (nb xs,nr xs) i).2
 room:(nst (nb xs,nr xs) i).1=false→i+(nst (nb xs,nr xs) i).2.length≤xs.length
theorem KUf.start {Q:Nat→Prop} {xs:List Int} {w wr:World} {bf:Nat} (hr:O.Rf Q wr bf (nb xs) (nr xs)) (hc:Ch (O.RS bf) w wr):KUf Q xs w wr bf (.slice none 0 0) 0 :=
 ⟨⟨World.ownsRow_nil _ _ _ _,fun g hg=>by simp[Value.ownBlock] at hg,hc⟩,hr,fun h=>by
  have h':nb xs=false:=h
  have:=nr_lt h'
  show 0+(nr xs).length≤xs.length
  omega⟩
theorem NUf.start {Q:Nat→Prop} {xs:List Int} {w wr:World} {bf:Nat} (hr:O.Rf Q wr bf (nb xs) (nr xs)) (hc:Ch (O.RS bf) w wr):NUf Q xs w wr bf (.slice none 0 0) 0 :=
 ⟨⟨World.ownsRow_nil _ _ _ _,fun g hg=>by simp[Value.ownBlock] at hg,hc⟩,hr,fun h=>by
  have h':nb xs=false:=h
  have:=nr_lt h'
  show 0+(nr xs).length≤xs.length
  omega⟩
theorem KUf.next {Q:Nat→Prop} {xs:List Int} {w wr w3 w5:World} {bf i:Nat} {v v':Value} (h:KUf Q xs w wr bf v i) (hbf:bf<w.heap.size) (hQ:∀ b,Q b→b<w.heap.size) {o:Obj} {key:Key} (hk:keyI (bv (kst (nb xs,nr xs) i).2)=key) (hg0:(kst (nb xs,nr xs) i).1=false)
  (hr3:O.Rf Q w3 bf (bb (kst (nb xs,nr xs) i).2) (br_ (kst (nb xs,nr xs) i).2)) (hc3:Ch (O.RS bf) wr w3)
  (ho:w5.ownsRow 0 9 1 v' (i+1) ((((kvs (nb xs,nr xs) i).map keyI).map kv)++[kv key])) (hg:(w3.alloc o).grownBy w5 v.ownBlock) (hb:v'.ownBlock=v.ownBlock∨v'.ownBlock=some (w3.heap.size+1)):KUf Q xs w w5 bf v' (i+1):=by
 have h3:=h.tk.keep hbf hc3
 have hC:Ch (fun b=>v.ownBlock=some b) w3 w5:=((Ch.refl (fun b=>v.ownBlock=some b) w3).alloc o).grown hg (fun _ h => .inl h)
 refine⟨?_,?_,fun hh=>?_⟩
 ·rw[kvs_more,List.map_append,List.map_append,List.map_singleton,List.map_singleton,hk]
  exact h3.app ho hg (by rw[World.size_alloc]; exact hb)
 ·exact O.Rf.ch hr3 hC (fun e=>by have:=h3.lies bf e; omega) (fun b hq _ e=>by have:=h3.lies b e; have:=hQ b hq; omega)
 ·have h1:=h.room hg0
  have h2:bb (kst (nb xs,nr xs) i).2=false:=hh
  have h3:=br_lt h2
  show i+1+(br_ (kst (nb xs,nr xs) i).2).length≤xs.length
  omega
theorem NUf.next {Q:Nat→Prop} {xs:List Int} {w wr w3 w5:World} {bf i:Nat} {v v':Value} (h:NUf Q xs w wr bf v i) (hbf:bf<w.heap.size) (hQ:∀ b,Q b→b<w.heap.size) {o:Obj} {key:Nat} (hk:nv (nst (nb xs,nr xs) i).2=key) (hg0:(nst (nb xs,nr xs) i).1=false)
  (hr3:O.Rf Q w3 bf (nb (nst (nb xs,nr xs) i).2) (nr (nst (nb xs,nr xs) i).2)) (hc3:Ch (O.RS bf) wr w3)
  (ho:w5.ownsRow 0 3 1 v' (i+1) (valN (nvs (nb xs,nr xs) i)++[.int .i64 (key:Nat)])) (hg:(w3.alloc o).grownBy w5 v.ownBlock) (hb:v'.ownBlock=v.ownBlock∨v'.ownBlock=some (w3.heap.size+1)):NUf Q xs w w5 bf v' (i+1):=by
 have h3:=h.tk.keep hbf hc3
 have hC:Ch (fun b=>v.ownBlock=some b) w3 w5:=((Ch.refl (fun b=>v.ownBlock=some b) w3).alloc o).grown hg (fun _ h => .inl h)
 refine⟨?_,?_,fun hh=>?_⟩
 ·rw[nvs_more,valN_app,hk]
  exact h3.app ho hg (by rw[World.size_alloc]; exact hb)
 ·exact O.Rf.ch hr3 hC (fun e=>by have:=h3.lies bf e; omega) (fun b hq _ e=>by have:=h3.lies b e; have:=hQ b hq; omega)
 ·have h1:=h.room hg0
  have h2:nb (nst (nb xs,nr xs) i).2=false:=hh
  have h3:=nr_lt h2
  show i+1+(nr (nst (nb xs,nr xs) i).2).length≤xs.length
  omega
theorem nst_room {s:Bool×List Int} (hs:Sane s):∀ i,(nst s i).1=false→i+(nst s i).2.length≤s.2.length:=by
 intro i
 induction i with
 | zero=>intro _; show 0+s.2.length≤_; omega
 | succ i ih =>
  intro h
  have h0:(nst s i).1=false:=by
   cases hc:(nst s i).1 with
   | false=>rfl
   | true=>rw[nst_bad hs hc] at h; simp at h
  have h1:=ih h0
  have h2:=nr_lt (xs:=(nst s i).2) h
  show i+1+(nr (nst s i).2).length≤_
  omega
theorem took_big {xs:List Int} {M:Nat} (hM:nv xs=M) (hb:xs.length<M):TookN xs true [] []:=by
 refine⟨fun h=>by simp at h,fun _=>?_,fun _=>rfl⟩
 cases hn:nb xs with
 | true=>exact .inl rfl
 | false =>
  right
  cases hc:(nst (false,nr xs) (nv xs)).1 with
  | true=>rfl
  | false =>
   have h1:=nst_room (s:=(false,nr xs)) (fun h=>by simp at h) _ hc
   have h2:=nr_len xs
   rw[hM] at h1
   simp only at h1
   omega
section
variable {F:Nat→Prop}
theorem str_bytes {a b:List Int} (ha:Byt a) (hb:Byt b):((⟨(keyI a).toArray⟩:ByteArray).toList==(⟨(keyI b).toArray⟩:ByteArray).toList)=decide (a=b):=by
 rw[str_beq]
 refine decide_eq_decide.2 ⟨fun h=>?_,fun h=>by rw[h]⟩
 rw[←kI_keyI ha,←kI_keyI hb,h]
theorem str_kv {a b:List Int} {SV SX:ByteArray} {o:Bool} (h1:kv (keyI a) = .string SV) (h2:strOfNums b=SX) (ha:Byt a) (hb:Byt b) (ho:decide (a=b)=o):(SV.toList==SX.toList)=o:=by
 unfold kv at h1
 injection h1 with h1
 rw[←h1,←h2,←ho]
 exact str_bytes ha hb
theorem rdec_any (xs:List Int) (A:Option Addr) (n c:Nat) (w:World) (hs:Sl w F .u8 A n xs) (hc:n≤c) (hcm:c≤maxLen) (hn:n≤6000) (hby:Byt xs) :
  Calls Tryz.prog 23 #[.slice A n c] w (RDecOf xs w):=by
 have HONE:=Bx.mk (rone_any xs A n c w hs hc hcm (by omega) hby)
 have HSL:=Bx.mk hs
 have HLN:=Bx.mk hs.len
 have HBY:=Bx.mk hby
 have hnc:=hc
 have hcm2:c≤9223372036854775807:=by unfold maxLen at hcm; omega
 clear hs hby hc hcm
 go_enter Tryz.func23,Tryz.ntmps23
 go_wp2_with fail
 refine HONE.out.mono ?_
 rintro e w1 ⟨v,rfl,hf⟩
 obtain⟨p,ec,hone⟩:∃ p ec,oneF xs=(p,ec):=⟨_,_,rfl⟩
 have HO1:=Bx.mk hone
 rw[hone] at hf ⊢
 have HF:=Bx.mk hf
 clear HONE hf hone
 by_cases hec:ec=0
 ·subst hec
  obtain⟨m,hm⟩:∃ m,p.length=m:=⟨_,rfl⟩
  have hmb:m≤6000:=by
   obtain⟨e1,_⟩:=oneF_ok HBY.out HO1.out
   have h1:=frm_len p
   rw[←e1,HLN.out,hm] at h1
   omega
  have hbp:Byt p:=fun x hx=>by
   obtain⟨e1,_⟩:=oneF_ok HBY.out HO1.out
   refine HBY.out x ?_
   rw[e1]
   unfold frm
   exact List.mem_append_left _ (List.mem_append_right _ hx)
  obtain⟨A1,c1,rfl,h11,h12⟩:=fr_shape (ys:=p) HF.out hm
  obtain⟨bf,hbf⟩:∃ bf,w1.heap.size=bf:=⟨_,rfl⟩
  obtain⟨w2,hw2⟩:∃ w2,w1.alloc (.cells #[.slice A1 m c1, .bool false] 113)=w2:=⟨_,rfl⟩
  have HC1:=Bx.mk HF.out.2.2
  obtain⟨Q,hQd⟩:∃ Q:Nat→Prop,Q=fun b=>b<bf:=⟨_,rfl⟩
  have HQ:Bx (∀ b,Q b→b<w2.heap.size):=⟨fun b hb=>by
   rw[hQd] at hb
   have h1:b<bf:=hb
   rw[←hw2,World.size_alloc]
   omega⟩
  have HBF:Bx (bf<w2.heap.size):=⟨by rw[←hw2,World.size_alloc]; omega⟩
  have HR0:Bx (O.Rf Q w2 bf false p):=⟨by
   have hb1:=heap_alloc_new w1 (.cells #[.slice A1 m c1, .bool false] 113)
   rw[hw2,hbf] at hb1
   refine⟨A1,m,c1,hb1,?_,h11,by unfold maxLen at h12; omega,hbp,fun h=>by simp at h⟩
   rw[←hw2]
   refine Sl.alloc ((Sl.of_own (by have:=HF.out.1; rw[hm] at this; exact this)).mono fun b hb _=>?_) _
   rw[hQd,hbf] at *
   exact⟨by omega,hb⟩⟩
  have HWB:Bx (w.heap.size≤bf):=⟨by rw[←hbf]; exact HC1.out.size⟩
  have HC2:Bx (Ch (fun _=>False) w w2):=⟨by rw[←hw2]; exact HC1.out.alloc _⟩
  have HM:=Bx.mk hm
  have HBP:=Bx.mk hbp
  have HW2:=Bx.mk hw2
  have HBFS:=Bx.mk hbf
  have HP6:Bx (p.length≤6000):=⟨by rw[hm]; exact hmb⟩
  clear hm hbp h11 h12 hw2 hbf hQd
  go_wp2_with fail
  rw[HW2.out,HBFS.out]
  have HRAW:=Bx.mk (O.rfraw_step bf false p 2 w2 (by have:=HP6.out; omega) HR0.out)
  refine HRAW.out.mono ?_
  rintro e w3 ⟨v3,rfl,hrow,hR3,hC3⟩
  obtain⟨n3,hn3⟩:∃ n3,(rv p 2).length=n3:=⟨_,rfl⟩
  obtain⟨A3,c3,rfl,_,_⟩:=own_shape hrow.1
  rw[hn3]
  have HROW:=Bx.mk hrow
  have HN3:=Bx.mk hn3
  have HC23:=Bx.mk hC3
  obtain⟨x0,hx0⟩:∃ x,rr p 2=x:=⟨_,rfl⟩
  have HX0E:=Bx.mk hx0
  have HX0:Bx (x0.length≤6000):=⟨by rw[←hx0]; exact Nat.le_trans (rr_len p 2) HP6.out⟩
  rw[hx0] at hR3
  have HN0:=Bx.mk (O.rfnum_step bf (rb false p 2) x0 w3 (by have:=HX0.out; omega) hR3)
  have HBF1:=Bx.mk HBF.out
  have HBF:Bx (bf<w3.heap.size):=⟨Nat.lt_of_lt_of_le HBF1.out hC3.size⟩
  have HQ:Bx (∀ b,Q b→b<w3.heap.size):=⟨fun b hb=>Nat.lt_of_lt_of_le (HQ.out b hb) hC3.size⟩
  have HC3:Bx (Ch (fun _=>False) w w3):=⟨HC2.out.trans hC3 (fun i hi (e:i=bf)=>by have:=HWB.out; omega)⟩
  clear hrow hR3 hC3 hn3 HRAW hx0
  go_wp2_with fail
  refine HN0.out.mono ?_
  rintro e w4 ⟨rfl,hR4,hC4⟩
  obtain⟨M0,hM0⟩:∃ M,nv x0=M:=⟨_,rfl⟩
  rw[hM0]
  have HM0:=Bx.mk hM0
  have HS0:Bx (KUf Q x0 w3 w4 bf (.slice none 0 0) 0):=⟨KUf.start hR4 hC4⟩
  clear hR4 hC4 hM0 HN0
  go_wp2_with fail
  go_loopw [8,11] (fun v i wr=>∃ k1:Nat,k1≤M0∧i = .int .i64 k1∧k1≤10000∧Bx (KUf Q x0 w3 wr bf v k1)) (fun _ i _=>M0-(intOf i).toNat)
  case atStart=>exact⟨0,Nat.zero_le _,rfl,Nat.zero_le _,HS0⟩
  case round =>
   obtain⟨k1,hk,rfl,hk91,hK⟩:=hrel
   obtain⟨Ak1,ck1,rfl,hkc1,hkm1⟩:=own_shape' hK.out.tk.own
   have hcell:=O.rf_cell hK.out.rd
   obtain⟨bd1,hbd⟩:∃ bd1,(kst (nb x0,nr x0) k1).1=bd1:=⟨_,rfl⟩
   rw[hbd] at hcell
   have HBD:=Bx.mk hbd
   obtain⟨go,hgo⟩:∃ go,(decide (k1<M0)&&!bd1)=go:=⟨_,rfl⟩
   have HGO:=Bx.mk hgo
   clear hbd hgo
   obtain⟨wo1,rfl⟩:∃ wo1:World,wo1=wr:=⟨_,rfl⟩
   go_upto_region 9 with fail
   go_cut [42] from 33 to 42 (fun sc wx=>sc = .bool go∧wo1=wx)
   case first =>
    by_cases hlt:k1<M0
    ·have dk:decide ((k1:Int)<(M0:Int))=true:=decide_eq_true (by omega)
     have dk2:decide (k1<M0)=true:=decide_eq_true hlt
     have e1:(!bd1)=go:=by rw[←HGO.out,dk2]; rfl
     go_wp2_with fail
     all_goals
      go_meet
      first | exact⟨rfl,rfl⟩ | exact⟨congrArg Value.bool e1,rfl⟩
    ·have dk:decide ((k1:Int)<(M0:Int))=false:=decide_eq_false (by omega)
     have dk2:decide (k1<M0)=false:=decide_eq_false hlt
     have e1:go=false:=by rw[←HGO.out,dk2]; rfl
     subst e1
     go_wp2_with fail
     all_goals
      go_meet
      exact⟨rfl,rfl⟩
   case rest =>
   obtain⟨rfl,rfl⟩:=hcut
   cases go with
   | true =>
    obtain⟨hlt,rfl⟩:k1<M0∧bd1=false:=by
     have:=HGO.out
     simpa using this
    have hroom:=hK.out.room HBD.out
    have hyl:(kst (nb x0,nr x0) k1).2.length≤100000:=by have:=HX0.out; omega
    have HBY':=Bx.mk (O.rfbytes_step bf false (kst (nb x0,nr x0) k1).2 wo1 hyl (by have h:=hK.out.rd; rw[HBD.out] at h; exact h))
    obtain⟨key,hkey⟩:∃ q,keyI (bv (kst (nb x0,nr x0) k1).2)=q:=⟨_,rfl⟩
    have HKEY:=Bx.mk hkey
    have hk2:k1≤9000:=by have:=HX0.out; omega
    have i2:(k1:Int)<(M0:Int):=by omega
    clear hroom hyl
    go_wp2_with fail
    refine HBY'.out.mono ?_
    rintro e wk ⟨vk,rfl,hrowk,hrk,hck⟩
    obtain⟨nk,hnk⟩:∃ nk,(bv (kst (nb x0,nr x0) k1).2).length=nk:=⟨_,rfl⟩
    obtain⟨Av,cv,rfl,_,_⟩:=own_shape hrowk.1
    have hcv:=conv_row hrowk.1
    obtain⟨SV,hSV⟩:∃ S:ByteArray,kv key = .string S:=⟨_,rfl⟩
    have HSV:=Bx.mk hSV
    rw[hkey,hSV,hnk] at hcv
    rw[hnk]
    have htk:=hK.out.tk.keep HBF.out hck
    obtain⟨US,hUS⟩:∃ US,((kvs (nb x0,nr x0) k1).map keyI).map kv=US:=⟨_,rfl⟩
    have HUS:=Bx.mk hUS
    rw[hUS] at htk
    have HTK:=Bx.mk htk
    have HRK:=Bx.mk hrk
    have HCK:=Bx.mk hck
    clear hrowk hrk hck htk hUS hSV hkey hnk HBY' hcell
    go_wp2_with (at_builtin; refine wp_app rfl (.tmp 45) (.tmp 49) elemS rfl rfl (HTK.out.own.alloc _) rfl (Vs.one _ _ _) ?c1 ?c2 ?c3 ?_)
    case c1=>intro x hx; simp at hx; subst hx; rfl
    case c2=>omega
    case c3=>omega
    intro v5 w5 ho hg hb
    have HK5:Bx (KUf Q x0 w3 w5 bf v5 (k1+1)):=⟨hK.out.next HBF.out HQ.out HKEY.out HBD.out HRK.out HCK.out (by rw[HUS.out,HSV.out]; exact ho) hg hb⟩
    clear ho hg hb hcv
    go_wp2
    go_roundw
    case rel=>exact⟨k1+1,by omega,by go_num,by omega,HK5⟩
    case measure=>simp[intOf]; omega
   | false =>
    have hT:=took_k HM0.out hk (by
     have:=HGO.out
     rw[HBD.out]
     cases bd1 with
     | true=>exact .inr rfl
     | false =>
      left
      simp at this
      omega)
    rw[HBD.out] at hT
    have hrd:=hK.out.rd
    rw[HBD.out] at hrd
    obtain⟨y1,hY⟩:∃ y,(kst (nb x0,nr x0) k1).2=y:=⟨_,rfl⟩
    have HY1:Bx (y1.length≤6000):=⟨by rw[←hY]; exact Nat.le_trans (kst_len _ _) (Nat.le_trans (nr_len _) HX0.out)⟩
    rw[hY] at hT hrd
    obtain⟨kl1,hL⟩:∃ l,(kvs (nb x0,nr x0) k1).map keyI=l:=⟨_,rfl⟩
    have htk:=hK.out.tk
    rw[hL] at hT htk
    have HL1:Bx (kl1.length=k1):=⟨by rw[←hL,List.length_map,kvs_len]⟩
    have HT1:=Bx.mk hT
    have HTK1:=Bx.mk htk
    have HRD1:=Bx.mk hrd
    clear hT hrd hY hL htk hcell hK HGO HBD
    have HN1:=Bx.mk (O.rfnum_step bf bd1 y1 wo1 (by have:=HY1.out; omega) HRD1.out)
    clear hk
    go_wp2_with fail
    refine HN1.out.mono ?_
    rintro e w6 ⟨rfl,hR6,hC6⟩
    obtain⟨M1,hM1⟩:∃ M,nv y1=M:=⟨_,rfl⟩
    rw[hM1]
    have HM1:=Bx.mk hM1
    have HS1:Bx (KUf Q y1 wo1 w6 bf (.slice none 0 0) 0):=⟨KUf.start hR6 hC6⟩
    have HSZ1:=Bx.mk HTK1.out.ch.size
    have HBF2:=Bx.mk HBF.out
    have HQ2:=Bx.mk HQ.out
    have HBF:Bx (bf<wo1.heap.size):=⟨Nat.lt_of_lt_of_le HBF2.out HSZ1.out⟩
    have HQ:Bx (∀ b,Q b→b<wo1.heap.size):=⟨fun b hb=>Nat.lt_of_lt_of_le (HQ2.out b hb) HSZ1.out⟩
    clear hR6 hC6 hM1 HN1 HRD1
    go_wp2_with fail
    go_loopw [9,12] (fun v i wr=>∃ k2:Nat,k2≤M1∧i = .int .i64 k2∧k2≤10000∧Bx (KUf Q y1 wo1 wr bf v k2)) (fun _ i _=>M1-(intOf i).toNat)
    case atStart=>exact⟨0,Nat.zero_le _,rfl,Nat.zero_le _,HS1⟩
    case round =>
     obtain⟨k2,hk,rfl,hk92,hK⟩:=hrel
     obtain⟨Ak2,ck2,rfl,hkc2,hkm2⟩:=own_shape' hK.out.tk.own
     have hcell:=O.rf_cell hK.out.rd
     obtain⟨bd2,hbd⟩:∃ bd2,(kst (nb y1,nr y1) k2).1=bd2:=⟨_,rfl⟩
     rw[hbd] at hcell
     have HBD:=Bx.mk hbd
     obtain⟨go,hgo⟩:∃ go,(decide (k2<M1)&&!bd2)=go:=⟨_,rfl⟩
     have HGO:=Bx.mk hgo
     clear hbd hgo
     obtain⟨wo2,rfl⟩:∃ wo2:World,wo2=wr:=⟨_,rfl⟩
     go_upto_region 14 with fail
     go_cut [62] from 53 to 62 (fun sc wx=>sc = .bool go∧wo2=wx)
     case first =>
      by_cases hlt:k2<M1
      ·have dk:decide ((k2:Int)<(M1:Int))=true:=decide_eq_true (by omega)
       have dk2:decide (k2<M1)=true:=decide_eq_true hlt
       have e1:(!bd2)=go:=by rw[←HGO.out,dk2]; rfl
       go_wp2_with fail
       all_goals
        go_meet
        first | exact⟨rfl,rfl⟩ | exact⟨congrArg Value.bool e1,rfl⟩
      ·have dk:decide ((k2:Int)<(M1:Int))=false:=decide_eq_false (by omega)
       have dk2:decide (k2<M1)=false:=decide_eq_false hlt
       have e1:go=false:=by rw[←HGO.out,dk2]; rfl
       subst e1
       go_wp2_with fail
       all_goals
        go_meet
        exact⟨rfl,rfl⟩
     case rest =>
     obtain⟨rfl,rfl⟩:=hcut
     cases go with
     | true =>
      obtain⟨hlt,rfl⟩:k2<M1∧bd2=false:=by
       have:=HGO.out
       simpa using this
      have hroom:=hK.out.room HBD.out
      have hyl:(kst (nb y1,nr y1) k2).2.length≤100000:=by have:=HY1.out; omega
      have HBY':=Bx.mk (O.rfbytes_step bf false (kst (nb y1,nr y1) k2).2 wo2 hyl (by have h:=hK.out.rd; rw[HBD.out] at h; exact h))
      obtain⟨key,hkey⟩:∃ q,keyI (bv (kst (nb y1,nr y1) k2).2)=q:=⟨_,rfl⟩
      have HKEY:=Bx.mk hkey
      have hk2:k2≤9000:=by have:=HY1.out; omega
      have i2:(k2:Int)<(M1:Int):=by omega
      clear hroom hyl
      go_wp2_with fail
      refine HBY'.out.mono ?_
      rintro e wk ⟨vk,rfl,hrowk,hrk,hck⟩
      obtain⟨nk,hnk⟩:∃ nk,(bv (kst (nb y1,nr y1) k2).2).length=nk:=⟨_,rfl⟩
      obtain⟨Av,cv,rfl,_,_⟩:=own_shape hrowk.1
      have hcv:=conv_row hrowk.1
      obtain⟨SV,hSV⟩:∃ S:ByteArray,kv key = .string S:=⟨_,rfl⟩
      have HSV:=Bx.mk hSV
      rw[hkey,hSV,hnk] at hcv
      rw[hnk]
      have htk:=hK.out.tk.keep HBF.out hck
      obtain⟨US,hUS⟩:∃ US,((kvs (nb y1,nr y1) k2).map keyI).map kv=US:=⟨_,rfl⟩
      have HUS:=Bx.mk hUS
      rw[hUS] at htk
      have HTK:=Bx.mk htk
      have HRK:=Bx.mk hrk
      have HCK:=Bx.mk hck
      clear hrowk hrk hck htk hUS hSV hkey hnk HBY' hcell
      go_wp2_with (at_builtin; refine wp_app rfl (.tmp 65) (.tmp 69) elemS rfl rfl (HTK.out.own.alloc _) rfl (Vs.one _ _ _) ?c1 ?c2 ?c3 ?_)
      case c1=>intro x hx; simp at hx; subst hx; rfl
      case c2=>omega
      case c3=>omega
      intro v5 w5 ho hg hb
      have HK5:Bx (KUf Q y1 wo1 w5 bf v5 (k2+1)):=⟨hK.out.next HBF.out HQ.out HKEY.out HBD.out HRK.out HCK.out (by rw[HUS.out,HSV.out]; exact ho) hg hb⟩
      clear ho hg hb hcv
      go_wp2
      go_roundw
      case rel=>exact⟨k2+1,by omega,by go_num,by omega,HK5⟩
      case measure=>simp[intOf]; omega
     | false =>
      have hT:=took_k HM1.out hk (by
       have:=HGO.out
       rw[HBD.out]
       cases bd2 with
       | true=>exact .inr rfl
       | false =>
        left
        simp at this
        omega)
      rw[HBD.out] at hT
      have hrd:=hK.out.rd
      rw[HBD.out] at hrd
      obtain⟨y2,hY⟩:∃ y,(kst (nb y1,nr y1) k2).2=y:=⟨_,rfl⟩
      have HY2:Bx (y2.length≤6000):=⟨by rw[←hY]; exact Nat.le_trans (kst_len _ _) (Nat.le_trans (nr_len _) HY1.out)⟩
      rw[hY] at hT hrd
      obtain⟨kl2,hL⟩:∃ l,(kvs (nb y1,nr y1) k2).map keyI=l:=⟨_,rfl⟩
      have htk:=hK.out.tk
      rw[hL] at hT htk
      have HL2:Bx (kl2.length=k2):=⟨by rw[←hL,List.length_map,kvs_len]⟩
      have HT2:=Bx.mk hT
      have HTK2:=Bx.mk htk
      have HRD2:=Bx.mk hrd
      clear hT hrd hY hL htk hcell hK HGO HBD
      have HN2:=Bx.mk (O.rfnum_step bf bd2 y2 wo2 (by have:=HY2.out; omega) HRD2.out)
      clear hk
      go_wp2_with fail
      refine HN2.out.mono ?_
      rintro e w7 ⟨rfl,hR7,hC7⟩
      obtain⟨M2,hM2⟩:∃ M,nv y2=M:=⟨_,rfl⟩
      rw[hM2]
      have HM2:=Bx.mk hM2
      have HSZ2:=Bx.mk HTK2.out.ch.size
      have HBF3:=Bx.mk HBF.out
      have HQ3:=Bx.mk HQ.out
      have HBF:Bx (bf<wo2.heap.size):=⟨Nat.lt_of_lt_of_le HBF3.out HSZ2.out⟩
      have HQ:Bx (∀ b,Q b→b<wo2.heap.size):=⟨fun b hb=>Nat.lt_of_lt_of_le (HQ3.out b hb) HSZ2.out⟩
      have HTK12:=Bx.mk (HTK1.out.keep HBF2.out HTK2.out.ch)
      have HR7:=Bx.mk hR7
      have HC7:=Bx.mk hC7
      have HCW2:Bx (Ch (fun _=>False) w wo2):=⟨(HC3.out.trans HTK12.out.ch (fun i hi (e:i=bf)=>by have:=HWB.out; omega))⟩
      clear hR7 hC7 hM2 HN2 HRD2
      by_cases hbig:65536<M2
      ·have d1:decide ((65536:Int)<(M2:Int))=true:=decide_eq_true (by omega)
       have d2:decide (65536<M2)=true:=decide_eq_true hbig
       have d3:decide ((0:Int)<(M2:Int))=true:=decide_eq_true (by omega)
       have d4:decide (0<M2)=true:=decide_eq_true (by omega)
       have HNG:Bx (NoGood xs):=⟨no_parse HO1.out fun kl gl tl hp=>by
        have hrv:=rv_two (rv_of hp.len hp.head)
        have h1:=HT1.out
        rw[←HX0E.out,hrv.2.2.1] at h1
        exact not_parsed h1 HT2.out (took_big HM2.out (by have:=HY2.out; omega)) (.inl rfl) kl gl tl hp⟩
       have HBAD:=Bx.mk (O.rfbad_any bf (nb y2) (nr y2) w7 HR7.out)
       clear hbig
       go_wp2_with fail
       refine HBAD.out.mono ?_
       rintro e w8 ⟨rfl,hR8,hC8⟩
       have hE:=O.rf_cell hR8
       have HWHO:=Bx.mk (O.rfwhole_any bf true [] w8 hR8)
       have HC8:Bx (Ch (fun _=>False) w w8):=⟨HCW2.out.trans (HC7.out.trans hC8 (fun _ _ h=>h)) (fun i hi (e:i=bf)=>by have:=HWB.out; omega)⟩
       clear hR8 hC8 HBAD
       go_wp2_with fail
       refine wp_loop_rounds 1 ?_
       rw[rounds_succ]
       go_wp2_with fail
       refine HWHO.out.mono ?_
       rintro e w9 ⟨rfl,rfl⟩
       go_wp2
       go_ret2
       exact .inl ⟨HNG.out,rfl,HC8.out⟩
      ·have d1:decide ((65536:Int)<(M2:Int))=false:=decide_eq_false (by omega)
       have d2:decide (65536<M2)=false:=decide_eq_false hbig
       have HS2:Bx (NUf Q y2 wo2 w7 bf (.slice none 0 0) 0):=⟨NUf.start HR7.out HC7.out⟩
       clear hbig
       go_wp2_with fail
       go_loopw [13,14] (fun v i wr=>∃ k3:Nat,k3≤M2∧i = .int .i64 k3∧k3≤10000∧Bx (NUf Q y2 wo2 wr bf v k3)) (fun _ i _=>M2-(intOf i).toNat)
       case atStart=>exact⟨0,Nat.zero_le _,rfl,Nat.zero_le _,HS2⟩
       case round =>
        obtain⟨k3,hk,rfl,hk93,hK⟩:=hrel
        obtain⟨Ak3,ck3,rfl,hkc3,hkm3⟩:=own_shape' hK.out.tk.own
        have hcell:=O.rf_cell hK.out.rd
        obtain⟨bd3,hbd⟩:∃ bd3,(nst (nb y2,nr y2) k3).1=bd3:=⟨_,rfl⟩
        rw[hbd] at hcell
        have HBD:=Bx.mk hbd
        obtain⟨go,hgo⟩:∃ go,(decide (k3<M2)&&!bd3)=go:=⟨_,rfl⟩
        have HGO:=Bx.mk hgo
        clear hbd hgo
        obtain⟨wo3,rfl⟩:∃ wo3:World,wo3=wr:=⟨_,rfl⟩
        go_upto_region 22 with fail
        go_cut [86] from 77 to 86 (fun sc wx=>sc = .bool go∧wo3=wx)
        case first =>
         by_cases hlt:k3<M2
         ·have dk:decide ((k3:Int)<(M2:Int))=true:=decide_eq_true (by omega)
          have dk2:decide (k3<M2)=true:=decide_eq_true hlt
          have e1:(!bd3)=go:=by rw[←HGO.out,dk2]; rfl
          go_wp2_with fail
          all_goals
           go_meet
           first | exact⟨rfl,rfl⟩ | exact⟨congrArg Value.bool e1,rfl⟩
         ·have dk:decide ((k3:Int)<(M2:Int))=false:=decide_eq_false (by omega)
          have dk2:decide (k3<M2)=false:=decide_eq_false hlt
          have e1:go=false:=by rw[←HGO.out,dk2]; rfl
          subst e1
          go_wp2_with fail
          all_goals
           go_meet
           exact⟨rfl,rfl⟩
        case rest =>
        obtain⟨rfl,rfl⟩:=hcut
        cases go with
        | true =>
         obtain⟨hlt,rfl⟩:k3<M2∧bd3=false:=by
          have:=HGO.out
          simpa using this
         have hroom:=hK.out.room HBD.out
         have hyl:(nst (nb y2,nr y2) k3).2.length≤100000:=by have:=HY2.out; omega
         have HBY':=Bx.mk (O.rfnum_step bf false (nst (nb y2,nr y2) k3).2 wo3 hyl (by have h:=hK.out.rd; rw[HBD.out] at h; exact h))
         obtain⟨key,hkey⟩:∃ q,nv (nst (nb y2,nr y2) k3).2=q:=⟨_,rfl⟩
         have HKEY:=Bx.mk hkey
         have hk2:k3≤9000:=by have:=HY2.out; omega
         have i2:(k3:Int)<(M2:Int):=by omega
         clear hroom hyl
         go_wp2_with fail
         refine HBY'.out.mono ?_
         rintro e wk ⟨rfl,hrk,hck⟩
         rw[hkey]
         have htk:=hK.out.tk.keep HBF.out hck
         obtain⟨US,hUS⟩:∃ US,valN (nvs (nb y2,nr y2) k3)=US:=⟨_,rfl⟩
         have HUS:=Bx.mk hUS
         rw[hUS] at htk
         have HTK:=Bx.mk htk
         have HRK:=Bx.mk hrk
         have HCK:=Bx.mk hck
         clear hrk hck htk hUS hkey HBY' hcell
         go_wp2_with (at_builtin; refine wp_app rfl (.tmp 89) (.tmp 92) elemI rfl rfl (HTK.out.own.alloc _) rfl (Vs.one _ _ _) ?c1 ?c2 ?c3 ?_)
         case c1=>intro x hx; simp at hx; subst hx; rfl
         case c2=>omega
         case c3=>omega
         intro v5 w5 ho hg hb
         have HK5:Bx (NUf Q y2 wo2 w5 bf v5 (k3+1)):=⟨hK.out.next HBF.out HQ.out HKEY.out HBD.out HRK.out HCK.out (by rw[HUS.out]; exact ho) hg hb⟩
         clear ho hg hb
         go_wp2
         go_roundw
         case rel=>exact⟨k3+1,by omega,by go_num,by omega,HK5⟩
         case measure=>simp[intOf]; omega
        | false =>
         have hT:=took_n HM2.out hk (by
          have:=HGO.out
          rw[HBD.out]
          cases bd3 with
          | true=>exact .inr rfl
          | false =>
           left
           simp at this
           omega)
         rw[HBD.out] at hT
         have hrd:=hK.out.rd
         rw[HBD.out] at hrd
         obtain⟨y3,hY⟩:∃ y,(nst (nb y2,nr y2) k3).2=y:=⟨_,rfl⟩
         have HY3:Bx (y3.length≤6000):=⟨by rw[←hY]; exact Nat.le_trans (nst_len _ _) (Nat.le_trans (nr_len _) HY2.out)⟩
         rw[hY] at hT hrd
         obtain⟨nl3,hL⟩:∃ l,nvs (nb y2,nr y2) k3=l:=⟨_,rfl⟩
         have htk:=hK.out.tk
         rw[hL] at hT htk
         have HL3:Bx (nl3.length=k3):=⟨by rw[←hL,nvs_len]⟩
         have HT3:=Bx.mk hT
         have HTK3:=Bx.mk htk
         have HRD3:=Bx.mk hrd
         clear hT hrd hY hL htk hcell hK HGO HBD
         obtain⟨wh,hwh⟩:∃ wh,(!bd3&&y3.isEmpty)=wh:=⟨_,rfl⟩
         have HWHO:=Bx.mk (O.rfwhole_any bf bd3 y3 wo3 HRD3.out)
         rw[hwh] at HWHO
         have HWW:=Bx.mk hwh
         have HCW3:Bx (Ch (fun _=>False) w wo3):=⟨HCW2.out.trans HTK3.out.ch (fun i hi (e:i=bf)=>by have:=HWB.out; omega)⟩
         have HTK13:=Bx.mk (HTK12.out.keep HBF2.out HTK3.out.ch)
         have HTK23:=Bx.mk (HTK2.out.keep HBF3.out HTK3.out.ch)
         have HHEAD:Bx (wo3.ownsRow 0 5 1 (.slice A3 n3 c3) n3 ((rv p 2).map (Value.int .u8))):=⟨by
          have h1:=HROW.out.1
          rw[HN3.out] at h1
          exact HTK13.out.ch.own h1 (fun g hg (e:g=bf)=>by have h2:=HROW.out.2 g (by rw[HN3.out]; exact hg); have h3:=HBF1.out; omega)⟩
         clear hk hwh HTK12 HTK1
         cases wh with
         | false =>
          have HNG:Bx (NoGood xs):=⟨no_parse HO1.out fun kl gl tl hp=>by
           have hrv:=rv_two (rv_of hp.len hp.head)
           have h1:=HT1.out
           rw[←HX0E.out,hrv.2.2.1] at h1
           refine not_parsed h1 HT2.out HT3.out ?_ kl gl tl hp
           have:=HWW.out
           cases bd3 with
           | true=>exact .inl rfl
           | false =>
            refine .inr fun h=>?_
            rw[h] at this
            simp at this⟩
          go_wp2_with fail
          refine HWHO.out.mono ?_
          rintro e w9 ⟨rfl,rfl⟩
          go_wp2
          go_ret2
          exact .inl ⟨HNG.out,rfl,HCW3.out⟩
         | true =>
          obtain⟨rfl,rfl⟩:bd3=false∧y3=[]:=by
           have:=HWW.out
           cases bd3 with
           | true=>simp at this
           | false=>exact⟨rfl,by simpa using this⟩
          have HP2:Bx (2≤p.length):=⟨by
           have h1:=HT1.out
           rw[←HX0E.out] at h1
           exact took_two h1 HT2.out HT3.out⟩
          have HT1':Bx (TookK (p.drop 2) bd1 y1 kl1):=⟨by rw[←(rv_take HP2.out).2,HX0E.out]; exact HT1.out⟩
          obtain⟨x,y,hxy⟩:=take_two HP2.out
          have HXY:=Bx.mk hxy
          have hn2:n3=2:=by rw[←HN3.out,(rv_take HP2.out).1,hxy]; rfl
          subst hn2
          have hhd:=HHEAD.out
          rw[(rv_take HP2.out).1,hxy] at hhd
          obtain⟨g3,rfl⟩:=own_some hhd (by omega)
          have hcx:=hhd.cellAt 0 (by omega)
          have hcy:=hhd.cellAt 1 (by omega)
          rw[show ([x,y].map (Value.int .u8))[0]? = some (.int .u8 x) from rfl] at hcx
          rw[show ([x,y].map (Value.int .u8))[1]? = some (.int .u8 y) from rfl] at hcy
          clear hhd hxy HHEAD HN3 HROW
          by_cases hhead:x=83∧y=1
          ·obtain⟨rfl,rfl⟩:=hhead
           obtain⟨klr,glr,hpar,hk1e,hk2e⟩:=parsed_of HP2.out HXY.out HT1'.out HT2.out HT3.out
           have HPAR:=Bx.mk hpar
           have HKE:=Bx.mk hk1e
           have HGE:=Bx.mk hk2e
           have hnl:nl3.length≤6000:=by
            have h1:=(bod0_le klr glr nl3).2.2
            rw[←parsed_inv HBP.out hpar] at h1
            exact Nat.le_trans h1 HP6.out
           have hk3:k3≤6000:=by rw[←HL3.out]; exact hnl
           have hsl:Sl wo3 (fun b=>(Value.slice Ak3 k3 ck3).ownBlock=some b) .i64 Ak3 k3 (asI nl3):=by
            refine Sl.of_own (base:=0) (e := 3) (c:=ck3) ?_
            rw[valN_asI]
            exact HTK3.out.own
           have HFR:=Bx.mk (reffrom_any (asI nl3) Ak3 k3 ck3 wo3 hsl (by omega))
           clear hpar hk1e hk2e hnl hsl
           go_wp2_with fail
           refine HWHO.out.mono ?_
           rintro e w9 ⟨rfl,rfl⟩
           clear HWHO
           go_wp2_with fail
           refine HFR.out.mono ?_
           rintro e w9 ⟨A9,c9,m9,ec,xss,rfl,hS9,hres,hC9⟩
           have HC9:=Bx.mk (HCW3.out.trans hC9 (fun _ _ h=>h))
           have HC39:=Bx.mk hC9
           clear hcx hcy HFR
           rcases hres with ⟨h1,_⟩ | ⟨_,hno,rfl,rfl,rfl⟩ | ⟨_,rfl,hbyt,htu,hm9⟩
           ·omega
           ·have HNG:Bx (NoGood xs):=⟨no_from HO1.out HPAR.out hno⟩
            clear hno hC9 hS9
            go_wp2_with fail
            go_ret2
            exact .inl ⟨HNG.out,rfl,HC9.out⟩
           ·have HBT:=Bx.mk hbyt
            have HTU:=Bx.mk htu
            have HM9:=Bx.mk hm9
            have HS9:=Bx.mk hS9
            clear hbyt htu hm9 hS9 hC9
            by_cases hne:m9=k1
            ·subst hne
             have e1:((m9:Int) != (m9:Int))=false:=by simp
             have hlen:xss.length=kl1.length:=by rw[HL1.out,HM9.out]
             obtain⟨ds,hds⟩:∃ ds,zipD kl1 xss=ds:=⟨_,rfl⟩
             have hks:=zip_ks hlen
             have hts:=zip_ts hlen
             rw[hds] at hks hts
             have HKS:=Bx.mk hks
             have HTS:=Bx.mk hts
             have HDL:Bx (ds.length=m9):=⟨by rw[←ks_len,hks,HL1.out]⟩
             have HKV:Bx (Kss w9 (fun _=>True) Ak1 m9 kl1):=⟨Kss.mono (Vs.of_own (HC39.out.own HTK13.out.own (fun _ _ h=>h))) (fun _ _ _=>trivial)⟩
             have HGV:Bx (Kss w9 (fun _=>True) Ak2 k2 kl2):=⟨Kss.mono (Vs.of_own (HC39.out.own HTK23.out.own (fun _ _ h=>h))) (fun _ _ _=>trivial)⟩
             have hpl:m9≤6000∧k2≤6000∧(txt xss).length≤6000∧((ks ds).flatMap kB).length≤6000∧(kl2.flatMap kB).length≤6000:=by
              have h1:=parsed_inv HBP.out HPAR.out
              have h2:=bod0_le klr glr nl3
              have h6:=HP6.out
              have h3:(klr.flatMap rowB).length≤(bod0 klr glr nl3).length∧(glr.flatMap rowB).length≤(bod0 klr glr nl3).length:=by
               unfold bod0 rowsB
               simp only[List.length_append]
               omega
              rw[←h1] at h2 h3
              have hbk:(∀ x∈klr,Byt x)∧∀ x∈glr,Byt x:=by
               constructor
               ·intro x hx y hy
                refine HBP.out y ?_
                rw[h1]
                unfold bod0 rowsB rowB
                simp only[List.mem_append,List.mem_flatMap]
                exact .inr (.inl (.inr ⟨x,hx, .inr hy⟩))
               ·intro x hx y hy
                refine HBP.out y ?_
                rw[h1]
                unfold bod0 rowsB rowB
                simp only[List.mem_append,List.mem_flatMap]
                exact .inr (.inr (.inl (.inr ⟨x,hx, .inr hy⟩)))
              have hfl:∀ l:List (List Int),(∀ x∈l,Byt x)→(l.map keyI).flatMap kB=l.flatMap rowB:=by
               intro l
               induction l with
               | nil=>intro _; rfl
               | cons a l ih =>
                intro hb
                rw[List.map_cons,List.flatMap_cons,List.flatMap_cons,ih (fun x hx=>hb x (by simp[hx]))]
                congr 1
                unfold kB
                rw[kI_keyI (hb a (by simp))]
              have hl1:m9=klr.length:=by rw[←HL1.out,HKE.out,List.length_map]
              have hl2:k2=glr.length:=by rw[←HL2.out,HGE.out,List.length_map]
              have ht:(txt xss).length=nl3.length:=by rw[←HTU.out.len,asI_len]
              rw[hks,HKE.out,HGE.out,hfl _ hbk.1,hfl _ hbk.2]
              omega
             have HLT:Bx (Lite ds kl2):=⟨by
              obtain⟨p1,p2,p3,p4,p5⟩:=hpl
              have h1:=txt_len xss
              refine⟨by rw[HDL.out]; omega,by rw[HL2.out]; omega,?_,by omega,by omega⟩
              rw[hts,HDL.out,HM9.out]
              omega⟩
             have hm9b:m9≤6000:=hpl.1
             have HTXT:=Bx.mk hpl.2.2.1
             clear hlen hks hts hds hpl
             go_wp2_with fail
             go_loopw [16,17] (fun v i wr=>∃ (k:Nat) (vs:List Value),k≤m9∧i = .int .i64 k∧Bx (Dr w9 wr (fun b=>wo3.heap.size≤b) v k (ds.take k) vs)) (fun _ i _=>m9-(intOf i).toNat)
             case atStart=>exact⟨0,[],Nat.zero_le _,rfl,⟨Dr.start _ _⟩⟩
             case round =>
              obtain⟨k,vs,hk,rfl,hD⟩:=hrel
              obtain⟨A10,c10,rfl,_,_⟩:=own_shape' hD.out.dg.own
              by_cases hlt:k<m9
              ·have dk:decide ((k:Int)<(m9:Int))=true:=decide_eq_true (by omega)
               obtain⟨bk,ok,key,rfl,_,hkk,hck0⟩:=HKV.out.at_ hlt
               obtain⟨bt,ot,At,ct,tx,rfl,_,htx,hct0,hst,hl1,hl2⟩:=HS9.out.at_ hlt
               have hck:=hD.out.dg.ch.cell (p:=⟨bk,ok+k,none⟩) (fun h=>h) hck0
               have hct:=hD.out.dg.ch.cell (p:=⟨bt,ot+k,none⟩) (fun h=>h) hct0
               have HDC:Bx (ds[k]? = some (key,tx)):=⟨by
                have hkl:k<ds.length:=by rw[HDL.out]; exact hlt
                rw[List.getElem?_eq_getElem hkl]
                congr 1
                have e1:(ks ds)[k]? = some key:=by rw[HKS.out]; exact hkk.out
                have e2:(ts ds)[k]? = some tx:=by rw[HTS.out]; exact htx.out
                unfold ks at e1
                unfold ts at e2
                rw[List.getElem?_map,List.getElem?_eq_getElem hkl] at e1 e2
                simp only[Option.map_some,Option.some.injEq] at e1 e2
                exact Prod.ext e1 e2⟩
               obtain⟨tl,htl⟩:∃ tl,tx.length=tl:=⟨_,rfl⟩
               have HTL:=Bx.mk htl
               rw[htl] at hct hst hl1
               obtain⟨SK,hSK⟩:∃ S:ByteArray,kv key = .string S:=⟨_,rfl⟩
               have HSK:=Bx.mk hSK
               rw[hSK] at hck
               have HST:=Bx.mk hst
               have i2:(k:Int)<(m9:Int):=by omega
               have hct2:ct≤9223372036854775807:=by unfold maxLen at hl2; omega
               have HAP:Bx (∀ v7 w7,w7.ownsRow 0 37 2 v7 (k+1) (dcV (ks (ds.take k)) vs++[Value.string SK, .slice At tl ct])→(wr.alloc (.cells #[.string SK, .slice At tl ct] 37)).drew.grownBy w7 (Value.slice A10 k c10).ownBlock→(v7.ownBlock=(Value.slice A10 k c10).ownBlock∨v7.ownBlock=some (wr.alloc (.cells #[.string SK, .slice At tl ct] 37)).drew.heap.size)→Dr w9 w7 (fun b=>wo3.heap.size≤b) v7 (k+1) (ds.take (k+1)) (vs++[.slice At tx.length ct])):=⟨fun v7 w7 ho7 hg7 hb7=>by
                rw[Oct.take_more HDC.out]
                exact hD.out.doc (d:=(key,tx)) (by show Sl _ _ _ _ tx.length _; rw[HTL.out]; exact HST.out) (by show tx.length≤_; rw[HTL.out]; exact hl1) hl2 (((Ch.refl (fun _=>False) wr).alloc _).drew) (by show World.ownsRow _ _ _ _ _ _ (_++[kv key, .slice At tx.length ct]); rw[HSK.out,HTL.out]; exact ho7) hg7 hb7⟩
               clear hst htl hSK hkk htx hck0 hct0
               go_wp2_with fail
               go_region_law ((refine step_appK rfl (.tmp 129) (.tmp 139) elemD rfl rfl (hD.out.dg.own.alloc _) rfl (m:=1) rfl (doc_cells wr SK _ _ rfl) (by intro u hu; simp at hu; rcases hu with hu | hu <;> (subst hu; rfl)) (by omega) (by omega) ?_; intro v7 w7 ho7 hg7 hb7; have HD7:=Bx.mk (HAP.out v7 w7 ho7 hg7 hb7); clear ho7 hg7 hb7))
               all_goals
                go_wp2
                go_roundw
                case rel=>exact⟨k+1,_,by omega,by go_num,HD7⟩
                case measure=>simp[intOf]; omega
              ·obtain rfl:m9=k:=by omega
               have dk:decide ((m9:Int)<(m9:Int))=false:=decide_eq_false (by omega)
               have hall:ds.take m9=ds:=List.take_of_length_le (Nat.le_of_eq HDL.out)
               rw[hall] at hD
               have HCR:=Bx.mk (HC9.out.trans hD.out.dg.ch (fun _ _ h=>h))
               have HDY:Bx (∀ d∈ds,∀ x∈d.2,0≤x∧x<256):=⟨fun d hd=>HBT.out d.2 (by rw[←HTS.out]; exact List.mem_map.2 ⟨d,hd,rfl⟩)⟩
               have HNEW:=Bx.mk (rnew_any ds kl2 A10 Ak2 m9 c10 k2 ck2 wr hD.out.dcs (HGV.out.ch hD.out.dg.ch (fun _ _ _ h=>h)) HLT.out hkc2 hkm2 HDY.out)
               clear hall
               go_wp2_with fail
               refine HNEW.out.mono ?_
               rintro e w10 ⟨ec,es,hs,hres,hC10,⟨h0,rfl⟩ | ⟨rfl,bs,rfl,hRs⟩⟩
               ·have e2:((ec:Int) != 0)=true:=by simpa using h0
                have HC10:=Bx.mk (HCR.out.trans hC10 (fun _ _ h=>h))
                have HNG:Bx (NoGood xs):=⟨fun ds' gs' hg=>by
                 obtain⟨g1,g2,g3⟩:=hg.keys HO1.out HPAR.out HTU.out HBT.out
                 have q1:ds=ds':=docs_ext (by rw[HKS.out,HKE.out,g1]) (by rw[HTS.out,g3])
                 have q2:kl2=gs':=by rw[HGE.out,g2]
                 rw[q1,q2] at hres
                 exact h0 (hg.1.new hres).1⟩
                clear hres hC10 HNEW h0
                go_wp2_with fail
                go_quiet (fail)
                go_wp2_with fail
                go_ret2
                exact .inl ⟨HNG.out,rfl,HC10.out.drewN _⟩
               ·rcases hres with ⟨_,h1⟩ | ⟨_,_,h1⟩ | ⟨hok,hbig,_,hmade⟩
                ·omega
                ·omega
                have hseg:Seg es hs:=hmade.seg hok hbig HDY.out
                have hfit:Fit es hs:=fit_of (HLT.out.perm hmade.pd hmade.pg)
                have HMADE:=Bx.mk hmade
                have HSEG:=Bx.mk hseg
                have HFIT:=Bx.mk hfit
                have HC10:=Bx.mk (HCR.out.trans hC10 (fun _ _ h=>h))
                have hn0:0<n:=by
                 obtain⟨e1,_⟩:=oneF_ok HBY.out HO1.out
                 have h1:=frm_len p
                 rw[←e1,HLN.out] at h1
                 omega
                obtain⟨bx,ox,rfl⟩:∃ bx ox,A=some ⟨bx,ox,none⟩:=by
                 obtain⟨b,o,_,e,_⟩:=HSL.out.at_ (k:=0) hn0
                 exact⟨b,o,e⟩
                have HSX:Bx (∀ W,Ch (fun _=>False) w W→(convert 26 9 (.slice (some ⟨bx,ox,none⟩) n c)).run Tryz.prog W = .ok (.string (strOfNums xs)) W):=⟨fun W hc=>conv_sl (HSL.out.ch hc (fun _ _ _ h=>h))⟩
                obtain⟨SX,hSX⟩:∃ S,strOfNums xs=S:=⟨_,rfl⟩
                have HSXE:=Bx.mk hSX
                have HSX2:Bx (∀ W,Ch (fun _=>False) w W→(convert 26 9 (.slice (some ⟨bx,ox,none⟩) n c)).run Tryz.prog W = .ok (.string SX) W):=⟨fun W hc=>by rw[←hSX]; exact HSX.out W hc⟩
                have HE:=Bx.mk (renc_any (hRs.keep ((Ch.refl (fun _=>False) w10).drew)) (seg_bytsT hseg) hfit)
                have HRS:=Bx.mk hRs
                have hcx:=HSX2.out w10.drew HC10.out.drew
                have HSZ10:=Bx.mk (HCR.out.size)
                clear hok hbig hmade hseg hfit hC10 hRs HNEW hSX HSX hn0
                go_wp2_with fail
                go_region_with ((refine HE.out.mono ?_; rintro e w11 ⟨v11,t,rfl,hT,hF11⟩; obtain⟨N,hN⟩:∃ N,(frm (bod es hs t)).length=N:=⟨_,rfl⟩; obtain⟨A11,c11,rfl,_,_⟩:=fr_shape hF11 hN; have hcv:=conv_row (n:=N) (by have h:=hF11.1; rw[hN] at h; exact h); obtain⟨SV,hSV⟩:∃ S:ByteArray,kv (keyI (frm (bod es hs t))) = .string S:=⟨_,rfl⟩; rw[hSV] at hcv; have hcx2:=HSX2.out w11 (HC10.out.drew.trans hF11.2.2 (fun _ _ h=>h)); obtain⟨o,ho⟩:∃ o,decide (frm (bod es hs t)=xs)=o:=⟨_,rfl⟩; have hsq:(SV.toList==SX.toList)=o:=str_kv hSV HSXE.out (frm_byt (bod_byt es hs t)) HBY.out ho))
                all_goals
                 have HT:=Bx.mk hT
                 have HO:=Bx.mk ho
                 have HC11:=Bx.mk (HC10.out.drew.trans hF11.2.2 (fun _ _ h=>h))
                 have HRS11:Bx (Rs w11 (fun k=>w.heap.size≤k) bs es hs):=⟨(HRS.out.keep ((Ch.refl (fun _=>False) w10).drew.trans hF11.2.2 (fun _ _ h=>h))).mono (fun b _ hb=>Nat.le_trans HSZ10.out hb)⟩
                 clear hT hF11 hN hSV hcv hcx hcx2 ho HE
                 cases o with
                 | true =>
                  have HGOOD:Bx (Good xs es hs):=⟨⟨HSEG.out,t,HT.out,(of_decide_eq_true HO.out).symm,HFIT.out.lb t HT.out⟩⟩
                  go_wp2_with fail
                  go_ret2
                  exact .inr ⟨bs,es,hs,HGOOD.out,rfl,HRS11.out,HC11.out⟩
                 | false =>
                  have HNG:Bx (NoGood xs):=⟨fun ds' gs' hg=>by
                   obtain⟨g1,g2,g3⟩:=hg.keys HO1.out HPAR.out HTU.out HBT.out
                   have q1:ds=ds':=docs_ext (by rw[HKS.out,HKE.out,g1]) (by rw[HTS.out,g3])
                   have q2:kl2=gs':=by rw[HGE.out,g2]
                   have hm:=HMADE.out
                   rw[q1,q2] at hm
                   obtain⟨r1,r2⟩:=hm.uniq hg.1.made
                   obtain⟨_,t',ht',hx',_⟩:=hg
                   refine of_decide_eq_false HO.out ?_
                   have h2:=HT.out
                   rw[r1] at h2 ⊢
                   rw[r2,h2.det ht',hx']⟩
                  go_wp2_with fail
                  go_ret2
                  exact .inl ⟨HNG.out,rfl,HC11.out⟩
            ·have e1:((m9:Int) != (k1:Int))=true:=by simp; omega
             have HNG:Bx (NoGood xs):=⟨fun ds' gs' hg=>by
              obtain⟨g1,g2,g3⟩:=hg.keys HO1.out HPAR.out HTU.out HBT.out
              have h1:ds'.length=m9:=by rw[←ts_len,←g3,HM9.out]
              have h2:ds'.length=k1:=by rw[←ks_len,←g1,←HKE.out,HL1.out]
              omega⟩
             clear hne
             go_wp2_with fail
             go_ret2
             exact .inl ⟨HNG.out,rfl,HC9.out⟩
          ·have HNG:Bx (NoGood xs):=⟨no_parse HO1.out fun kl gl tl hp=>by
            have h1:=hp.head
            rw[HXY.out] at h1
            injection h1 with h2 h3
            injection h3 with h4 _
            exact hhead ⟨h2,h4⟩⟩
           by_cases hx:x=83
           ·subst hx
            have e3:((y:Int) != 1)=true:=by
             simp only[bne_iff_ne,ne_eq]
             exact fun h=>hhead ⟨rfl,h⟩
            clear hhead
            go_wp2_with fail
            refine HWHO.out.mono ?_
            rintro e w9 ⟨rfl,rfl⟩
            go_wp2
            go_ret2
            exact .inl ⟨HNG.out,rfl,HCW3.out⟩
           ·have e3:((x:Int) != 83)=true:=by simpa using hx
            clear hhead hx
            go_wp2_with fail
            refine HWHO.out.mono ?_
            rintro e w9 ⟨rfl,rfl⟩
            go_wp2
            go_ret2
            exact .inl ⟨HNG.out,rfl,HCW3.out⟩
 ·have e1:((ec:Int) != 0)=true:=by simpa using hec
  have HNG:Bx (NoGood xs):=⟨no_one HO1.out hec⟩
  have HC1:=Bx.mk HF.out.2.2
  clear hec
  go_wp2_with fail
  go_ret2
  exact .inl ⟨HNG.out,rfl,HC1.out⟩
end
end Go.Proofs.YtambgjpfoceieaaGreatDoor
