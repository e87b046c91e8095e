/- Lemmas and contracts of this proof. Conditions: said at each. -/
import Derived.Test.YtambgjpfoceieaaGreatDoorGBwSymRow
import Derived.Test.YtambgjpfoceieaaGreatDoorSgLawB
import Derived.Shelf.Abstract
set_option maxHeartbeats 2000000
set_option maxRecDepth 100000
namespace Go.Proofs.YtambgjpfoceieaaGreatDoor
open Go.RowKit Go.Oct Go.Su Go.Sg Go.Fr Go.Shelf
theorem conv_row {w:World} {A:Option Addr} {n c:Nat} {xs:List Int} (h:w.ownsRow 0 5 1 (.slice A n c) n (xs.map (Value.int .u8))):(convert 26 9 (.slice A n c)).run Tryz.prog w = .ok (kv (keyI xs)) w:=by
 have hs:=Sl.of_own h
 have hl:=hs.len
 obtain⟨_,⟨e,h0⟩ | ⟨g,cap,cur,e,_⟩⟩:=h
 ·injection e with e1 e2 e3
  subst e1 e2
  obtain rfl:xs=[]:=List.eq_nil_of_length_eq_zero hl
  exact run_convert_bytes_nil (P := Tryz.prog) w 26 5 Tryz.underlying26 Tryz.underlying5 _ _ 9 Tryz.underlying9
 ·injection e with e1 e2 e3
  subst e1
  exact run_convert_bytes_arg (P := Tryz.prog) w 26 5 Tryz.underlying26 Tryz.underlying5 g 0 n c xs hl (fun _ hi=>sl_cells hs hi) 9 Tryz.underlying9
theorem conv_sl {w:World} {F:Nat→Prop} {b off m c:Nat} {xs:List Int} (h:Sl w F .u8 (some ⟨b,off,none⟩) m xs):(convert 26 9 (.slice (some ⟨b,off,none⟩) m c)).run Tryz.prog w = .ok (.string (strOfNums xs)) w :=
 run_convert_bytes_arg (P := Tryz.prog) w 26 5 Tryz.underlying26 Tryz.underlying5 b off m c xs h.len (fun _ hi=>sl_cells h hi) 9 Tryz.underlying9
structure Tk (e:TypeId) (w wr:World) (br:Nat) (v:Value) (n:Nat) (us:List Value):Prop where
 own:wr.ownsRow 0 e 1 v n us
 lies:∀ g,v.ownBlock=some g→w.heap.size≤g
 ch:Ch (O.RS br) w wr
section
variable {e:TypeId} {w wr w1 w2:World} {br n:Nat} {v v':Value} {us:List Value}
theorem Tk.keep (h:Tk e w wr br v n us) (hbr:br<w.heap.size) (hc:Ch (O.RS br) wr w2):Tk e w w2 br v n us :=
 ⟨hc.own h.own (fun g hg (e:g=br)=>by have:=h.lies g hg; omega),h.lies,h.ch.trans hc (fun _ _ h=>h)⟩
theorem Tk.app (h:Tk e w wr br v n us) {o:Obj} {u:Value} (ho:w2.ownsRow 0 e 1 v' (n+1) (us++[u])) (hg:(wr.alloc o).grownBy w2 v.ownBlock) (hb:v'.ownBlock=v.ownBlock∨v'.ownBlock=some (wr.alloc o).heap.size):Tk e w w2 br v' (n+1) (us++[u]):=by
 refine⟨ho,fun g hgv=>?_,?_⟩
 ·rcases hb with hb | hb
  ·exact h.lies g (hb ▸ hgv)
  ·rw[hb] at hgv
   injection hgv with hgv
   have h1:=h.ch.size
   have h2:=World.size_alloc wr o
   omega
 ·have hC:Ch (fun b=>v.ownBlock=some b) wr w2:=((Ch.refl (fun b=>v.ownBlock=some b) wr).alloc o).grown hg (fun _ h => .inl h)
  exact h.ch.trans hC (fun i hi (e:v.ownBlock=some i)=>by have:=h.lies i e; omega)
end
theorem nr_lt {xs:List Int} (h:nb xs=false):(nr xs).length<xs.length:=by
 unfold nb at h
 unfold nr
 cases ht:takeN 0 0 xs with
 | none=>rw[ht] at h; simp at h
 | some y=>exact O.takeN_len _ _ _ _ _ ht
theorem br_lt {xs:List Int} (h:bb xs=false):(br_ xs).length<xs.length:=by
 unfold bb at h
 unfold br_
 cases ht:takeN 0 0 xs with
 | none=>rw[ht] at h; simp at h
 | some y =>
  obtain⟨m,r⟩:=y
  have:=O.takeN_len _ _ _ _ _ ht
  simp only
  split
  ·simp; omega
  ·rw[List.length_drop]; omega
theorem kst_len (s:Bool×List Int):∀ i,(kst s i).2.length≤s.2.length
 | 0=>Nat.le_refl _
 | i+1=>Nat.le_trans (br_len _) (kst_len s i)
theorem nst_len (s:Bool×List Int):∀ i,(nst s i).2.length≤s.2.length
 | 0=>Nat.le_refl _
 | i+1=>Nat.le_trans (nr_len _) (nst_len s i)
theorem rdq_ch {Q S:Nat→Prop} {w w':World} {br:Nat} {bad:Bool} {xs:List Int} (h:O.RdQ Q w br bad xs) (hc:Ch S w w') (h0:¬ S br) (hS:∀ b,Q b→b<w.heap.size→¬ S b):O.RdQ Q w' br bad xs:=by
 have hlt:=O.RdQ.lt h
 obtain⟨A,n,c,hblk,hsl,rest⟩:=h
 exact⟨A,n,c,(hc.block br hlt h0).trans hblk,hsl.ch hc (fun b hq hb=>hS b hq.2 hb),rest⟩
section
variable {Q:Nat→Prop}
theorem takekey_any (br:Nat) (bad:Bool) (xs:List Int) (w:World) (hr:O.RdQ Q w br bad xs) (hm:xs.length≤100000) :
  Calls Tryz.prog 65 #[.pointer (some ⟨br,0,none⟩)] w fun e w'=>e = .returned (kv (keyI (bv xs)))∧O.RdQ Q w' br (bb xs) (br_ xs)∧Ch (O.RS br) w w':=by
 have HB:=Bx.mk (O.bytes_step br bad xs w hm hr)
 clear hr
 go_enter Tryz.func65,Tryz.ntmps65
 go_wp2_with fail
 refine HB.out.mono ?_
 rintro e w1 ⟨v,rfl,hrow,hr1,hc1⟩
 obtain⟨n,hn⟩:∃ n,(bv xs).length=n:=⟨_,rfl⟩
 obtain⟨A,c,rfl,_,_⟩:=own_shape hrow.1
 have hcv:=conv_row hrow.1
 obtain⟨SK,hSK⟩:∃ S:ByteArray,kv (keyI (bv xs)) = .string S:=⟨_,rfl⟩
 have HSK:=Bx.mk hSK
 rw[hSK] at hcv
 have HR:=Bx.mk hr1
 have HC:=Bx.mk hc1
 rw[hn] at hcv
 rw[hn]
 clear hrow hr1 hc1 HB hSK hn
 go_wp2
 go_ret
 exact⟨by rw[HSK.out]; rfl,HR.out,HC.out⟩
def TakeKOf (Q:Nat→Prop) (br:Nat) (xs:List Int) (w:World) (e:Ending) (w':World):Prop:=∃ (A:Option Addr) (n c:Nat) (l:List Key) (bad:Bool) (ys:List Int),
 e = .returned (.slice A n c)∧Tk 9 w w' br (.slice A n c) n (l.map kv)∧O.RdQ Q w' br bad ys∧TookK xs bad ys l∧l.length=n∧n≤xs.length+1∧ys.length≤xs.length∧n≤c∧c≤maxLen
def TakeNOf (Q:Nat→Prop) (br:Nat) (xs:List Int) (w:World) (e:Ending) (w':World):Prop:=∃ (A:Option Addr) (n c:Nat) (l:List Nat) (bad:Bool) (ys:List Int),
 e = .returned (.slice A n c)∧Tk 3 w w' br (.slice A n c) n (valN l)∧O.RdQ Q w' br bad ys∧TookN xs bad ys l∧l.length=n∧n≤xs.length+1∧ys.length≤xs.length∧n≤c∧c≤maxLen
theorem valN_app (a b:List Nat):valN (a++b)=valN a++valN b:=by unfold valN; simp
theorem valN_asI (l:List Nat):(asI l).map (Value.int .i64)=valN l:=by
 unfold asI valN
 rw[List.map_map]
 rfl
structure NUp (Q:Nat→Prop) (xs:List Int) (M:Nat) (w w1 wr:World) (br:Nat) (v:Value) (i:Nat):Prop where
 tk:Tk 3 w wr br v i (valN (nvs (nb xs,nr xs) i))
 rd:O.RdQ Q wr br (nst (nb xs,nr xs) i).1 (nst (nb xs,nr xs) i).2
 room:(nst (nb xs,nr xs) i).1=false→i+(nst (nb xs,nr xs) i).2.length≤xs.length
structure KUp (Q:Nat→Prop) (xs:List Int) (M:Nat) (w w1 wr:World) (br:Nat) (v:Value) (i:Nat):Prop where
 tk:Tk 9 w wr br v i (((kvs (nb xs,nr xs) i).map keyI).map kv)
 rd:O.RdQ Q wr br (kst (nb xs,nr xs) i).1 (kst (nb xs,nr xs) i).2
 room:(kst (nb xs,nr xs) i).1=false→i+(kst (nb xs,nr xs) i).2.length≤xs.length
theorem took_k {xs:List Int} {M i:Nat} (hM:nv xs=M) (hi:i≤M) (h:i=M∨(kst (nb xs,nr xs) i).1=true):TookK xs (kst (nb xs,nr xs) i).1 (kst (nb xs,nr xs) i).2 ((kvs (nb xs,nr xs) i).map keyI):=by
 have hsane:Sane (nb xs,nr xs):=fun hb=>(nb_nil hb).1
 cases hb:nb xs with
 | true =>
  have h0:nv xs=0:=(nb_nil hb).2
  obtain rfl:i=0:=by omega
  refine⟨fun h=>by simp[kst] at h,fun _ => .inl hb,fun _=>?_⟩
  have:=(nb_nil hb).1
  simpa[kst] using this
 | false =>
  rw[hb] at h hsane
  rcases h with rfl | h
  ·subst hM
   refine⟨fun h=>⟨hb,h,rfl,rfl⟩,fun h => .inr h,fun h=>kst_sane hsane _ h⟩
  ·refine⟨fun h'=>(by rw[h] at h'; simp at h'),fun _ => .inr (by rw[hM]; exact kst_bad_le hsane h hi),fun h=>kst_sane hsane _ h⟩
theorem took_n {xs:List Int} {M i:Nat} (hM:nv xs=M) (hi:i≤M) (h:i=M∨(nst (nb xs,nr xs) i).1=true):TookN xs (nst (nb xs,nr xs) i).1 (nst (nb xs,nr xs) i).2 (nvs (nb xs,nr xs) i):=by
 have hsane:Sane (nb xs,nr xs):=fun hb=>(nb_nil hb).1
 cases hb:nb xs with
 | true =>
  have h0:nv xs=0:=(nb_nil hb).2
  obtain rfl:i=0:=by omega
  refine⟨fun h=>by simp[nst] at h,fun _ => .inl hb,fun _=>?_⟩
  have:=(nb_nil hb).1
  simpa[nst] using this
 | false =>
  rw[hb] at h hsane
  rcases h with rfl | h
  ·subst hM
   refine⟨fun h=>⟨hb,h,rfl,rfl⟩,fun h => .inr h,fun h=>nst_sane hsane _ h⟩
  ·refine⟨fun h'=>(by rw[h] at h'; simp at h'),fun _ => .inr (by rw[hM]; exact nst_bad_le hsane h hi),fun h=>nst_sane hsane _ h⟩
theorem takes_any (br:Nat) (bad:Bool) (xs:List Int) (w:World) (hr:O.RdQ Q w br bad xs) (hm:xs.length≤90000) (hQ:∀ b,Q b→b<w.heap.size) :
  Calls Tryz.prog 64 #[.pointer (some ⟨br,0,none⟩), .func (.func 65) #[] #[]] w (TakeKOf Q br xs w):=by
 have eg:∀ args w,(callFunc 65 args).run Tryz.prog w = .ok (.enter 65 args) w:=enters_of Tryz.func65 (by kernel_rfl) rfl
 have HR:=Bx.mk hr
 obtain⟨M,hM⟩:∃ M,nv xs=M:=⟨_,rfl⟩
 have HM:=Bx.mk hM
 have HNB:=Bx.mk (O.num_step br bad xs w hr)
 have hbr:=O.RdQ.lt hr
 have HBR:=Bx.mk hbr
 have HQ:=Bx.mk hQ
 clear hr hM hbr hQ
 go_enter Tryz.func64,Tryz.ntmps64
 go_wp2_with fail
 refine HNB.out.mono ?_
 rintro e w1 ⟨rfl,hr1,hc1⟩
 rw[HM.out]
 have HK0:Bx (KUp Q xs M w w1 w1 br (.slice none 0 0) 0):=⟨⟨⟨World.ownsRow_nil _ _ _ _,fun g hg=>by simp[Value.ownBlock] at hg,hc1⟩,hr1,fun h=>by
  have h':nb xs=false:=h
  have:=nr_lt h'
  show 0+(nr xs).length≤xs.length
  omega⟩⟩
 clear hr1 hc1 HNB
 go_wp2_with fail
 go_loopw [5] (fun v wr=>∃ i:Nat,i≤M∧i≤xs.length+1∧Bx (KUp Q xs M w w1 wr br v i)) (fun v _=>M-slen v)
 case atStart=>exact⟨0,Nat.zero_le _,Nat.zero_le _,HK0⟩
 case round =>
  obtain⟨i,hi,hix,hK⟩:=hrel
  obtain⟨A,c,rfl,hac,hcm⟩:=own_shape' hK.out.tk.own
  by_cases hlt:i<M
  ·have dk:decide ((i:Int)<(M:Int))=true:=decide_eq_true (by omega)
   have dk2:decide (i<M)=true:=decide_eq_true hlt
   obtain⟨s,hs⟩:∃ s,kst (nb xs,nr xs) i=s:=⟨_,rfl⟩
   have HS:=Bx.mk hs
   cases hbd:s.1 with
   | true =>
    have HG:=Bx.mk (O.good_any br true (kst (nb xs,nr xs) i).2 wr (by have:=hK.out.rd; rw[hs,hbd] at this; rw[hs]; exact this))
    have HT:=Bx.mk (took_k HM.out hi (.inr (by rw[hs]; exact hbd)))
    have hlen:((kvs (nb xs,nr xs) i).map keyI).length=i:=by rw[List.length_map,kvs_len]
    have HLN:=Bx.mk hlen
    have HYL:Bx ((kst (nb xs,nr xs) i).2.length≤xs.length):=⟨Nat.le_trans (kst_len _ _) (nr_len _)⟩
    clear hs hbd hlen
    go_wp2_with fail
    refine HG.out.mono ?_
    rintro e w2 ⟨rfl,rfl⟩
    go_wp2
    go_ret
    exact⟨A,i,c,_,_,_,rfl,hK.out.tk,hK.out.rd,HT.out,HLN.out,hix,HYL.out,hac,hcm⟩
   | false =>
    have HG:=Bx.mk (O.good_any br false (kst (nb xs,nr xs) i).2 wr (by have:=hK.out.rd; rw[hs,hbd] at this; rw[hs]; exact this))
    have hgood:(kst (nb xs,nr xs) i).1=false:=by rw[hs]; exact hbd
    have hroom:=hK.out.room hgood
    have HROOM:=Bx.mk hroom
    have hyl:(kst (nb xs,nr xs) i).2.length≤100000:=by omega
    have HTK:=Bx.mk (takekey_any br (kst (nb xs,nr xs) i).1 (kst (nb xs,nr xs) i).2 wr hK.out.rd hyl)
    obtain⟨key,hkey⟩:∃ k,keyI (bv (kst (nb xs,nr xs) i).2)=k:=⟨_,rfl⟩
    have HKEY:=Bx.mk hkey
    rw[hkey] at HTK
    obtain⟨SK,hSK⟩:∃ S:ByteArray,kv key = .string S:=⟨_,rfl⟩
    have HSK:=Bx.mk hSK
    rw[hSK] at HTK
    have HMORE:Bx (((kvs (nb xs,nr xs) (i+1)).map keyI).map kv=((kvs (nb xs,nr xs) i).map keyI).map kv++[.string SK]):=⟨by rw[kvs_more,List.map_append,List.map_append,List.map_singleton,List.map_singleton,hkey,hSK]⟩
    have hi2:i≤90000:=by omega
    have i2:(i:Int)<(M:Int):=by omega
    clear hs hbd hgood hroom hyl hkey hSK
    go_wp2_with fail
    refine HG.out.mono ?_
    rintro e w2 ⟨rfl,rfl⟩
    go_wp2_with fail
    refine HTK.out.mono ?_
    rintro e w3 ⟨rfl,hr3,hc3⟩
    have htk3:=hK.out.tk.keep HBR.out hc3
    obtain⟨US,hUS⟩:∃ US,((kvs (nb xs,nr xs) i).map keyI).map kv=US:=⟨_,rfl⟩
    rw[hUS] at htk3
    have HTK3:=Bx.mk htk3
    have HMORE2:Bx (((kvs (nb xs,nr xs) (i+1)).map keyI).map kv=US++[.string SK]):=⟨by rw[HMORE.out,hUS]⟩
    have HR3:=Bx.mk hr3
    clear hr3 hc3 HTK HG htk3 hUS
    go_wp2_with (at_builtin; refine wp_app rfl (.tmp 17) (.tmp 21) elemS rfl rfl (HTK3.out.own.alloc _) rfl (Vs.one _ _ _) ?c1 ?c2 ?c3 ?_)
    case c1=>intro x hx; simp at hx; subst hx; rfl
    case c2=>omega
    case c3=>omega
    intro v5 w5 ho hg hb
    have HK5:Bx (KUp Q xs M w w1 w5 br v5 (i+1)):=⟨⟨by rw[HMORE2.out]; exact HTK3.out.app ho hg (by rw[World.size_alloc]; exact hb),?hrd,fun h=>?hrm⟩⟩
    case hrd =>
     have hC:Ch (fun b=>(Value.slice A i c).ownBlock=some b) w3 w5:=((Ch.refl (fun b=>(Value.slice A i c).ownBlock=some b) w3).alloc _).grown hg (fun _ h => .inl h)
     exact rdq_ch HR3.out hC (fun e=>by have:=HTK3.out.lies br e; have:=HBR.out; omega) (fun b hq _ e=>by have:=HTK3.out.lies b e; have:=HQ.out b hq; omega)
    case hrm =>
     have h1:=HROOM.out
     have h2:bb (kst (nb xs,nr xs) i).2=false:=h
     have h3:=br_lt h2
     show i+1+(br_ (kst (nb xs,nr xs) i).2).length≤xs.length
     omega
    obtain⟨A5,c5,rfl,_,_⟩:=own_shape' HK5.out.tk.own
    clear ho hg hb
    go_wp2
    go_roundw
    case rel=>exact⟨i+1,by omega,by have:=HROOM.out; omega,HK5⟩
    case measure=>simp[slen]; omega
  ·obtain rfl:i=M:=by omega
   have dk:decide ((i:Int)<(i:Int))=false:=decide_eq_false (by omega)
   have dk2:decide (i<i)=false:=decide_eq_false (by omega)
   have HT:=Bx.mk (took_k HM.out hi (.inl rfl))
   have hlen:((kvs (nb xs,nr xs) i).map keyI).length=i:=by rw[List.length_map,kvs_len]
   have HLN:=Bx.mk hlen
   have HYL:Bx ((kst (nb xs,nr xs) i).2.length≤xs.length):=⟨Nat.le_trans (kst_len _ _) (nr_len _)⟩
   clear hlen
   go_wp2
   go_ret
   exact⟨A,i,c,_,_,_,rfl,hK.out.tk,hK.out.rd,HT.out,HLN.out,hix,HYL.out,hac,hcm⟩
theorem taken_any (br:Nat) (bad:Bool) (xs:List Int) (w:World) (hr:O.RdQ Q w br bad xs) (hm:xs.length≤90000) (hQ:∀ b,Q b→b<w.heap.size) :
  Calls Tryz.prog 66 #[.pointer (some ⟨br,0,none⟩), .func (.func 67) #[] #[]] w (TakeNOf Q br xs w):=by
 have eg:∀ args w,(callFunc 67 args).run Tryz.prog w = .ok (.enter 67 args) w:=enters_of Tryz.func67 (by kernel_rfl) rfl
 have HR:=Bx.mk hr
 obtain⟨M,hM⟩:∃ M,nv xs=M:=⟨_,rfl⟩
 have HM:=Bx.mk hM
 have HNB:=Bx.mk (O.num_step br bad xs w hr)
 have hbr:=O.RdQ.lt hr
 have HBR:=Bx.mk hbr
 have HQ:=Bx.mk hQ
 clear hr hM hbr hQ
 go_enter Tryz.func66,Tryz.ntmps66
 go_wp2_with fail
 refine HNB.out.mono ?_
 rintro e w1 ⟨rfl,hr1,hc1⟩
 rw[HM.out]
 have HK0:Bx (NUp Q xs M w w1 w1 br (.slice none 0 0) 0):=⟨⟨⟨World.ownsRow_nil _ _ _ _,fun g hg=>by simp[Value.ownBlock] at hg,hc1⟩,hr1,fun h=>by
  have h':nb xs=false:=h
  have:=nr_lt h'
  show 0+(nr xs).length≤xs.length
  omega⟩⟩
 clear hr1 hc1 HNB
 go_wp2_with fail
 go_loopw [5] (fun v wr=>∃ i:Nat,i≤M∧i≤xs.length+1∧Bx (NUp Q xs M w w1 wr br v i)) (fun v _=>M-slen v)
 case atStart=>exact⟨0,Nat.zero_le _,Nat.zero_le _,HK0⟩
 case round =>
  obtain⟨i,hi,hix,hK⟩:=hrel
  obtain⟨A,c,rfl,hac,hcm⟩:=own_shape' hK.out.tk.own
  by_cases hlt:i<M
  ·have dk:decide ((i:Int)<(M:Int))=true:=decide_eq_true (by omega)
   have dk2:decide (i<M)=true:=decide_eq_true hlt
   obtain⟨s,hs⟩:∃ s,nst (nb xs,nr xs) i=s:=⟨_,rfl⟩
   have HS:=Bx.mk hs
   cases hbd:s.1 with
   | true =>
    have HG:=Bx.mk (O.good_any br true (nst (nb xs,nr xs) i).2 wr (by have:=hK.out.rd; rw[hs,hbd] at this; rw[hs]; exact this))
    have HT:=Bx.mk (took_n HM.out hi (.inr (by rw[hs]; exact hbd)))
    have hlen:(nvs (nb xs,nr xs) i).length=i:=by rw[nvs_len]
    have HLN:=Bx.mk hlen
    have HYL:Bx ((nst (nb xs,nr xs) i).2.length≤xs.length):=⟨Nat.le_trans (nst_len _ _) (nr_len _)⟩
    clear hs hbd hlen
    go_wp2_with fail
    refine HG.out.mono ?_
    rintro e w2 ⟨rfl,rfl⟩
    go_wp2
    go_ret
    exact⟨A,i,c,_,_,_,rfl,hK.out.tk,hK.out.rd,HT.out,HLN.out,hix,HYL.out,hac,hcm⟩
   | false =>
    have HG:=Bx.mk (O.good_any br false (nst (nb xs,nr xs) i).2 wr (by have:=hK.out.rd; rw[hs,hbd] at this; rw[hs]; exact this))
    have hgood:(nst (nb xs,nr xs) i).1=false:=by rw[hs]; exact hbd
    have hroom:=hK.out.room hgood
    have HROOM:=Bx.mk hroom
    have hyl:(nst (nb xs,nr xs) i).2.length≤100000:=by omega
    have HTK:=Bx.mk (O.num_step br (nst (nb xs,nr xs) i).1 (nst (nb xs,nr xs) i).2 wr hK.out.rd)
    obtain⟨key,hkey⟩:∃ k,nv (nst (nb xs,nr xs) i).2=k:=⟨_,rfl⟩
    have HKEY:=Bx.mk hkey
    rw[hkey] at HTK
    have HMORE:Bx (valN (nvs (nb xs,nr xs) (i+1))=valN (nvs (nb xs,nr xs) i)++[.int .i64 (key:Nat)]):=⟨by rw[nvs_more,valN_app,hkey]; rfl⟩
    have hi2:i≤90000:=by omega
    have i2:(i:Int)<(M:Int):=by omega
    clear hs hbd hgood hroom hyl hkey
    go_wp2_with fail
    refine HG.out.mono ?_
    rintro e w2 ⟨rfl,rfl⟩
    go_wp2_with fail
    refine HTK.out.mono ?_
    rintro e w3 ⟨rfl,hr3,hc3⟩
    have htk3:=hK.out.tk.keep HBR.out hc3
    obtain⟨US,hUS⟩:∃ US,valN (nvs (nb xs,nr xs) i)=US:=⟨_,rfl⟩
    rw[hUS] at htk3
    have HTK3:=Bx.mk htk3
    have HMORE2:Bx (valN (nvs (nb xs,nr xs) (i+1))=US++[.int .i64 (key:Nat)]):=⟨by rw[HMORE.out,hUS]⟩
    have HR3:=Bx.mk hr3
    clear hr3 hc3 HTK HG htk3 hUS
    go_wp2_with (at_builtin; refine wp_app rfl (.tmp 17) (.tmp 21) elemI rfl rfl (HTK3.out.own.alloc _) rfl (Vs.one _ _ _) ?c1 ?c2 ?c3 ?_)
    case c1=>intro x hx; simp at hx; subst hx; rfl
    case c2=>omega
    case c3=>omega
    intro v5 w5 ho hg hb
    have HK5:Bx (NUp Q xs M w w1 w5 br v5 (i+1)):=⟨⟨by rw[HMORE2.out]; exact HTK3.out.app ho hg (by rw[World.size_alloc]; exact hb),?hrd,fun h=>?hrm⟩⟩
    case hrd =>
     have hC:Ch (fun b=>(Value.slice A i c).ownBlock=some b) w3 w5:=((Ch.refl (fun b=>(Value.slice A i c).ownBlock=some b) w3).alloc _).grown hg (fun _ h => .inl h)
     exact rdq_ch HR3.out hC (fun e=>by have:=HTK3.out.lies br e; have:=HBR.out; omega) (fun b hq _ e=>by have:=HTK3.out.lies b e; have:=HQ.out b hq; omega)
    case hrm =>
     have h1:=HROOM.out
     have h2:nb (nst (nb xs,nr xs) i).2=false:=h
     have h3:=nr_lt h2
     show i+1+(nr (nst (nb xs,nr xs) i).2).length≤xs.length
     omega
    obtain⟨A5,c5,rfl,_,_⟩:=own_shape' HK5.out.tk.own
    clear ho hg hb
    go_wp2
    go_roundw
    case rel=>exact⟨i+1,by omega,by have:=HROOM.out; omega,HK5⟩
    case measure=>simp[slen]; omega
  ·obtain rfl:i=M:=by omega
   have dk:decide ((i:Int)<(i:Int))=false:=decide_eq_false (by omega)
   have dk2:decide (i<i)=false:=decide_eq_false (by omega)
   have HT:=Bx.mk (took_n HM.out hi (.inl rfl))
   have hlen:(nvs (nb xs,nr xs) i).length=i:=by rw[nvs_len]
   have HLN:=Bx.mk hlen
   have HYL:Bx ((nst (nb xs,nr xs) i).2.length≤xs.length):=⟨Nat.le_trans (nst_len _ _) (nr_len _)⟩
   clear hlen
   go_wp2
   go_ret
   exact⟨A,i,c,_,_,_,rfl,hK.out.tk,hK.out.rd,HT.out,HLN.out,hix,HYL.out,hac,hcm⟩
end
end Go.Proofs.YtambgjpfoceieaaGreatDoor
