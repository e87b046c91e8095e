/- Lemmas and contracts of this proof. Conditions: said at each. -/
import Derived.Test.YtambgjpfoceieaaGreatDoorGOcWords
import Derived.Shelf.Spec.TrailingZeros
import Derived.Deep.QuietTactic
import Derived.BigQuiet
import Derived.Outline
import Derived.IntWalk
set_option maxHeartbeats 1000000
set_option maxRecDepth 100000
namespace Go.Proofs.YtambgjpfoceieaaGreatDoor.W
section
open Go.RowKit Go.Oct Go.Bi
structure Bx (p:Prop):Prop where
 out:p
theorem ret_int {k:IntKind} {a b:Int} (h:a=b):Ending.returned (.int k a) = .returned (.int k b):=by rw[h]
theorem ret_bool {a b:Bool} (h:a=b):Ending.returned (.bool a) = .returned (.bool b):=by rw[h]
theorem and_nat {a b c:Nat} (h:a &&& b=c) (ha:a<18446744073709551616) (hb:b<18446744073709551616):bits .and .u64 (a:Int) (b:Int)=(c:Int):=by rw[bits_and_u64_nat a b ha hb,h]
theorem and127 (a:Nat) (ha:a<9223372036854775808):bits .and .i64 (a:Int) 127=((a%128:Nat):Int):=by
 have hx:a &&& 127=a%128:=Nat.and_two_pow_sub_one_eq_mod a 7
 have h1:(BitVec.ofInt 64 (a:Int)).toNat=a:=by
  rw[BitVec.ofInt_natCast,BitVec.toNat_ofNat]; exact Nat.mod_eq_of_lt (by omega)
 have h2:(BitVec.ofInt 64 (127:Int)).toNat=127:=by decide
 show IntKind.i64.wrap ((BitVec.ofInt 64 (a:Int) &&& BitVec.ofInt 64 (127:Int)).toNat:Int)=_
 rw[BitVec.toNat_and,h1,h2,hx]
 simp[IntKind.wrap,IntKind.signed,IntKind.bits]
 omega
theorem ones_word (x:Nat) (w:World) (hx:x<18446744073709551616) :
  Calls Tryz.prog 132 #[.int .u64 x] w fun e w'=>e = .returned (.int .i64 (pop 64 x:Nat))∧w=w':=by
 obtain⟨a1,b1,a2,b2,z,h1,h2,h3,h4,h5,l1,l2,l3,l4,l5,hp⟩:=swar x
 have HP:=Lib.hid hp
 have e1:bits .and .u64 ((x:Int)/2) 6148914691236517205=(a1:Int):=and_nat (a:=x/2) (b:=6148914691236517205) h1 (by omega) (by omega)
 have e2:bits .and .u64 (x:Int) 6148914691236517205=(b1:Int):=and_nat (a:=x) (b:=6148914691236517205) h2 (by omega) (by omega)
 have e3:bits .and .u64 (((a1:Int)+(b1:Int))/4) 3689348814741910323=(a2:Int):=and_nat (a:=(a1+b1)/4) (b:=3689348814741910323) h3 (by omega) (by omega)
 have e4:bits .and .u64 ((a1:Int)+(b1:Int)) 3689348814741910323=(b2:Int):=and_nat (a:=a1+b1) (b:=3689348814741910323) h4 (by omega) (by omega)
 have e5:bits .and .u64 (((a2:Int)+(b2:Int))/16+((a2:Int)+(b2:Int))) 1085102592571150095=(z:Int):=and_nat (a:=(a2+b2)/16+(a2+b2)) (b:=1085102592571150095) h5 (by omega) (by omega)
 clear h1 h2 h3 h4 h5 hp
 go_enter Tryz.func132,Tryz.ntmps132
 go_wp2
 go_ret
 refine⟨ret_int ?_,rfl⟩
 exact (and127 (z+z/256+(z+z/256)/65536+(z+z/256+(z+z/256)/65536)/4294967296) (by omega)).trans (congrArg Int.ofNat HP.out)
theorem ones_is (x p:Nat) (w:World) (hx:x<18446744073709551616) (hp:pop 64 x=p) :
  Calls Tryz.prog 132 #[.int .u64 x] w fun e w'=>e = .returned (.int .i64 p)∧w=w':=by
 subst hp
 exact ones_word x w hx
abbrev Tab (w:World):Prop:=TabAt 1 Lib.deBruijn64tab w
theorem tz_core (x k idx:Nat) (w:World) (hx0:((x:Int)==0)=false)
  (key:IntKind.u64.wrap (bits BinOp.and IntKind.u64 (x:Int) (IntKind.u64.wrap (-(x:Int)))*285870213051353865)/288230376151711744=(idx:Int))
  (hi:idx<64) (hk:k<64) (hcell:w.cell? ⟨1,idx,none⟩=some (.int .u8 k)) :
  Calls Tryz.prog 218 #[.int .u64 x] w fun e w'=>e = .returned (.int .i64 k)∧w=w':=by
 go_enter Tryz.func218,Tryz.ntmps218
 go_wp2_with (simp only[key])
 go_ret
 exact⟨rfl,rfl⟩
theorem tz_any (x:Nat) (w:World) (hx0:x≠0) (hx:x<18446744073709551616) (hT:Tab w) :
  Calls Tryz.prog 218 #[.int .u64 x] w fun e w'=>e = .returned (.int .i64 (Lib.ctz 64 x))∧w=w':=by
 obtain⟨hlow,hk⟩:=Lib.lowest_bit 64 x hx0 hx
 obtain⟨hi,htab⟩:=Lib.deBruijn64_at _ hk
 have hcell:=hT _ hi
 rw[htab] at hcell
 exact tz_core x _ _ w (by simp; omega) (tz64_key x _ hx hx0 hlow) hi hk hcell
def PlacePost (x k:Nat) (w:World) (e:Ending) (w':World):Prop:=∃ i:Nat,e = .returned (.int .i64 i)∧At1 x k i∧i<64∧w=w'
def Gone (x y j:Nat):Prop:=y<18446744073709551616∧pop 64 x=pop 64 y+j∧∀ m i,At1 y m i→At1 x (m+j) i
theorem gone_zero {x:Nat} (h:x<18446744073709551616):Gone x x 0:=⟨h,(Nat.add_zero _).symm,fun _ _ h=>h⟩
theorem gone_next {x y j:Nat} (h:Gone x y j) (h0:y≠0):Gone x (y &&& (y-1)) (j+1):=by
 obtain⟨h1,h2,h3⟩:=h
 obtain⟨g1,g2⟩:=clear_low 64 y h1 h0
 exact⟨Nat.lt_of_le_of_lt Nat.and_le_left h1,by omega,fun m i hi=>by
  have:=h3 _ _ (g2 _ _ hi)
  rwa[show m+(j+1)=m+1+j by omega]⟩
theorem place_any (x k:Nat) (w:World) (hx:x<18446744073709551616) (hk:k<pop 64 x) (hT:Tab w) :
  Calls Tryz.prog 169 #[.int .u64 x, .int .i64 k] w (PlacePost x k w):=by
 have HT:=Lib.hid hT
 have h64:=pop_le 64 x
 have HK:=Lib.hid hk
 have hk64:k<64:=by omega
 clear hT hk h64
 go_enter Tryz.func169,Tryz.ntmps169
 go_wp2
 go_loop [0,6] (fun y i=>∃ j z:Nat,j≤k∧i = .int .i64 j∧y = .int .u64 z∧Gone x z j) (fun _ i=>k-(intOf i).toNat)
 case atStart=>exact⟨0,x,Nat.zero_le _,rfl,rfl,gone_zero hx⟩
 case round =>
  obtain⟨j,z,hj,rfl,rfl,hg⟩:=hrel
  have hz0:z≠0:=by
   rintro rfl
   have:=hg.2.1
   have:=HK.out
   rw[pop_zero] at *
   omega
  have hz64:=hg.1
  by_cases hlt:j<k
  ·have hg2:=gone_next hg hz0
   have HG:=Lib.hid hg2
   obtain⟨y,hy⟩:∃ y,y=z &&& (z-1):=⟨_,rfl⟩
   rw[←hy] at HG
   have e:bits .and .u64 (z:Int) ((z:Int)-1)=(y:Int):=by
    have:=and_nat (a:=z) (b:=z-1) hy.symm hz64 (by omega)
    rwa[show ((z-1:Nat):Int)=(z:Int)-1 by omega] at this
   clear hg hg2 hy
   have hz1:1≤z:=by omega
   go_wp2
   go_round
   case rel=>exact⟨j+1,y,by omega,by go_num,rfl,HG.out⟩
   case measure=>simp[intOf]; omega
  ·obtain rfl:j=k:=by omega
   obtain⟨h1,h2⟩:=ctz_at64 hz0 hz64
   have h3:=hg.2.2 _ _ h1
   rw[Nat.zero_add] at h3
   have HA:=Lib.hid h3
   clear h1 h3 hg
   go_wp2_with fail
   refine (tz_any z _ hz0 hz64 HT.out).mono ?_
   rintro e w' ⟨rfl,rfl⟩
   go_wp2
   go_ret
   exact⟨_,rfl,HA.out,h2,rfl⟩
theorem at1_uniq {x k i j:Nat} (h:At1 x k i) (g:At1 x k j):i=j:=by
 have key:∀ i j,At1 x k i→At1 x k j→¬ i<j:=fun i j h g hlt=>by
  have:=pop_mono x (a:=i+1) (b:=j) (by omega)
  rw[pop_succ,h.1,h.2,g.2] at this
  simp at this
  omega
 have:=key i j h g
 have:=key j i g h
 omega
theorem at1_ex (x k:Nat):∀ n,k<pop n x→∃ i,At1 x k i∧i<n
 | 0,h=>by simp[pop] at h
 | n+1,h=>by
  rw[pop_succ] at h
  by_cases hk:k<pop n x
  ·obtain⟨i,h1,h2⟩:=at1_ex x k n hk
   exact⟨i,h1,by omega⟩
  ·cases hb:x.testBit n
   ·rw[hb] at h
    simp at h
    omega
   ·rw[hb] at h
    simp at h
    exact⟨n,⟨hb,by omega⟩,by omega⟩
noncomputable def plN (x k:Nat):Nat := @dite _ (∃ i,At1 x k i∧i<64) (Classical.propDecidable _) (fun h=>Classical.choose h) (fun _=>0)
theorem plN_spec {x k:Nat} (hk:k<pop 64 x):At1 x k (plN x k)∧plN x k<64:=by
 have h:=at1_ex x k 64 hk
 unfold plN
 rw[dif_pos h]
 exact Classical.choose_spec h
theorem place_quiet (x k:Nat) (w:World) (n:Nat) (hx:x<18446744073709551616) (hk:k<pop 64 x) (hT:Tab (w.drewN n)) :
  Calls Tryz.prog 169 #[.int .u64 x, .int .i64 k] (w.drewN n) fun e w'=>e = .returned (.int .i64 (plN x k))∧∃ m,w'=w.drewN m :=
 Calls.quiet_of_same ((place_any x k (w.drewN n) hx hk hT).mono fun _ _ h=>by
  obtain⟨i,h1,h2,_,h4⟩:=h
  rw[h1,at1_uniq h2 (plN_spec hk).1]
  exact⟨rfl,h4.symm⟩)
end
section
open Go.RowKit Go.Oct Go.Bi
abbrev Sn (w:World) (F:Nat→Prop) (K:IntKind) (A:Option Addr) (xs:List Nat):Prop:=Sl w F K A xs.length (xs.map fun x:Nat=>(x:Int))
theorem Sn.at_ {w:World} {F:Nat→Prop} {K:IntKind} {A:Option Addr} {xs:List Nat} (h:Sn w F K A xs) {k:Nat} (hk:k<xs.length):∃ b off,A=some ⟨b,off,none⟩∧F b∧w.cell? ⟨b,off+k,none⟩=some (.int K (xs.getD k 0:Nat)):=by
 obtain⟨b,off,x,e,hb,hx,hc⟩:=Sl.at_ h hk
 refine⟨b,off,e,hb,?_⟩
 have:=hx.out
 rw[List.getElem?_map,List.getElem?_eq_getElem hk] at this
 rw[hc,List.getD_eq_getElem?_getD,List.getElem?_eq_getElem hk]
 simp at this
 simp[this]
def Vec (w:World) (F:Nat→Prop) (b:Nat) (l:List Bool):Prop :=
 ∃ (Aw Aa:Option Addr) (cw ca:Nat) (ws us:List Nat),w.cell? ⟨b,0,none⟩=some (.int .i64 l.length)∧w.cell? ⟨b,1,none⟩=some (.slice Aw ws.length cw)∧w.cell? ⟨b,2,none⟩=some (.slice Aa us.length ca) ∧
  F b∧Sn w F .u64 Aw ws∧Sn w F .i64 Aa us∧l.length≤1048576∧Wd ws l∧Ah us l
theorem Vec.ch {w w':World} {F S:Nat→Prop} {b:Nat} {l:List Bool} (h:Vec w F b l) (hc:Ch S w w') (hF:∀ k,F k→k<w.heap.size→¬ S k):Vec w' F b l:=by
 obtain⟨Aw,Aa,cw,ca,ws,us,h0,h1,h2,hb,hw,ha,hl,hW,hA⟩:=h
 have hn:=hF b hb (lt_of_cell h0)
 exact⟨Aw,Aa,cw,ca,ws,us,hc.cell hn h0,hc.cell hn h1,hc.cell hn h2,hb,hw.ch hc hF,ha.ch hc hF,hl,hW,hA⟩
theorem Vec.keep {w w':World} {F:Nat→Prop} {b:Nat} {l:List Bool} (h:Vec w F b l) (hc:Ch (fun _=>False) w w'):Vec w' F b l:=h.ch hc (fun _ _ _ h=>h)
theorem Vec.mono {w:World} {F G:Nat→Prop} {b:Nat} {l:List Bool} (h:Vec w F b l) (hF:∀ b,b<w.heap.size→F b→G b):Vec w G b l:=by
 obtain⟨Aw,Aa,cw,ca,ws,us,h0,h1,h2,hb,hw,ha,hl,hW,hA⟩:=h
 exact⟨Aw,Aa,cw,ca,ws,us,h0,h1,h2,hF b (lt_of_cell h0) hb,hw.mono hF,ha.mono hF,hl,hW,hA⟩
theorem Vec.short {w:World} {F:Nat→Prop} {b:Nat} {l:List Bool} (h:Vec w F b l):l.length≤1048576:=by
 obtain⟨_,_,_,_,_,_,_,_,_,_,_,_,hl,_⟩:=h
 exact hl
theorem Vec.cell0 {w:World} {F:Nat→Prop} {b:Nat} {l:List Bool} (h:Vec w F b l):w.cell? ⟨b,0,none⟩=some (.int .i64 l.length):=by
 obtain⟨_,_,_,_,_,_,h0,_⟩:=h
 exact h0
section
variable {F:Nat→Prop}
theorem len_any (b:Nat) (l:List Bool) (w:World) (h:Vec w F b l):Calls Tryz.prog 131 #[.pointer (some ⟨b,0,none⟩)] w fun e w'=>e = .returned (.int .i64 l.length)∧w=w':=by
 have h0:=h.cell0
 go_enter Tryz.func131,Tryz.ntmps131
 go_wp2
 go_ret
 exact⟨rfl,rfl⟩
theorem has_in (b:Nat) (l:List Bool) (i:Nat) (w:World) (h:Vec w F b l) (hi:i<l.length):Calls Tryz.prog 182 #[.pointer (some ⟨b,0,none⟩), .int .i64 i] w fun e w'=>e = .returned (.bool true)∧w=w':=by
 have H:=Lib.hid h
 clear h
 go_enter Tryz.func182,Tryz.ntmps182
 go_wp2_with (go_at_call 131; refine (len_any b l _ H.out).mono ?_; rintro e w' ⟨rfl,rfl⟩)
 go_ret
 exact⟨rfl,rfl⟩
theorem has_out (b:Nat) (l:List Bool) (i:Int) (w:World) (h:Vec w F b l) (hi:i<0∨(l.length:Int)≤i):Calls Tryz.prog 182 #[.pointer (some ⟨b,0,none⟩), .int .i64 i] w fun e w'=>e = .returned (.bool false)∧w=w':=by
 have H:=Lib.hid h
 clear h
 rcases hi with hi | hi
 ·go_enter Tryz.func182,Tryz.ntmps182
  go_wp2_with (go_at_call 131; refine (len_any b l _ H.out).mono ?_; rintro e w' ⟨rfl,rfl⟩)
  go_ret
  exact⟨rfl,rfl⟩
 ·have hi0:0≤i:=by omega
  go_enter Tryz.func182,Tryz.ntmps182
  go_wp2_with (go_at_call 131; refine (len_any b l _ H.out).mono ?_; rintro e w' ⟨rfl,rfl⟩)
  go_ret
  exact⟨ret_bool (by simp; omega),rfl⟩
theorem shl_word {x r:Nat} (hr:r<64):pop 64 (x*2^(64-r)%18446744073709551616)=pop r x:=by
 have e:x*2^(64-r)%18446744073709551616=(x%2^r)*2^(64-r):=by
  rw[show (18446744073709551616:Nat)=2^r*2^(64-r) by rw[←Nat.pow_add,show r+(64-r)=64 by omega],Nat.mul_mod_mul_right]
 have hz:∀ m y,pop (m+r) (y*2^m)=pop r y:=by
  intro m y
  rw[pop_add,Nat.mul_div_cancel _ (Nat.pow_pos (by omega))]
  have:pop m (y*2^m)=pop m 0:=by rw[←pop_mod m,Nat.mul_mod_left]
  rw[this,pop_zero,Nat.zero_add]
 have h:=hz (64-r) (x%2^r)
 rw[show 64-r+r=64 by omega] at h
 rw[e,h,pop_mod]
theorem wrap_nat (a:Nat):IntKind.u64.wrap (a:Int)=((a%18446744073709551616:Nat):Int):=by rw[IntKind.wrap_u64]; omega
theorem shl_facts (x r:Nat) (hr:r<64):∃ y q:Nat,IntKind.u64.wrap ((x:Int)*2^(64-r))=(y:Int)∧y<18446744073709551616∧pop 64 y=q∧q=pop r x∧q≤64 :=
 ⟨x*2^(64-r)%18446744073709551616,_,(congrArg IntKind.u64.wrap (by push_cast; rfl)).trans (wrap_nat _),Nat.mod_lt _ (by decide),rfl,shl_word hr,pop_le 64 _⟩
theorem rank_in (b:Nat) (l:List Bool) (o:Bool) (i:Nat) (j:Int) (w:World) (h:Vec w F b l) (h0:0<i) (hi:i≤l.length) (hj:j=i∨((l.length:Int)<j∧i=l.length)) :
  Calls Tryz.prog 83 #[.pointer (some ⟨b,0,none⟩), .bool o, .int .i64 j] w fun e w'=>e = .returned (.int .i64 ((l.take i).count o:Nat))∧w=w':=by
 have H:=Lib.hid h
 have hl:=h.short
 obtain⟨Aw,Aa,cw,ca,ws,us,hc0,hc1,hc2,hb,hw,ha,_,hW,hA⟩:=h
 have hR:=rank_words hW hA hi
 have hF:=false_count l i hi
 have hlw:=hW.len
 have hla:=hA.len
 have hlw1:i/64<us.length:=by omega
 obtain⟨ba,oa,rfl,_,hca⟩:=ha.at_ (k:=i/64) (by omega)
 have HR:=Lib.hid hR
 have HF:=Lib.hid hF
 have hal:=hA.le (i/64)
 have HCT:=Lib.hid (count_take_le true l i)
 by_cases hr:0<i%64
 ·have hlw2:i/64<ws.length:=by omega
  obtain⟨bw,ow,rfl,_,hcw⟩:=hw.at_ (k:=i/64) (by omega)
  have hx:=hW.lt (i/64)
  generalize ws.getD (i/64) 0=x at *
  generalize us.getD (i/64) 0=u at *
  obtain⟨y,q,hwr,hy,hq,hqx,hp⟩:=shl_facts x (i%64) (Nat.mod_lt i (by decide:0<64))
  rw[←hqx] at HR
  have HQ:=Bx.mk hq
  have HWR:=Bx.mk hwr
  clear hW hA ha hw hR hF hlw hla hq hwr hqx
  rcases hj with rfl | ⟨hj,rfl⟩ <;> cases o
  all_goals
   go_enter Tryz.func83,Tryz.ntmps83
   go_wp2_with (first | (go_at_call 131; refine (len_any b l _ H.out).mono ?_; rintro e w' ⟨rfl,rfl⟩) | (go_at_call 132; rw[HWR.out]; refine (ones_is y q _ hy HQ.out).mono ?_; rintro e w' ⟨rfl,rfl⟩))
   go_ret
   first
   | exact⟨ret_int (by rw[HF.out,←HR.out]; have hct:=HCT.out; rw[←HR.out] at hct; omega),rfl⟩
   | exact⟨ret_int (by rw[←HR.out]; omega),rfl⟩
 ·have hr0:i%64=0:=by omega
  rw[hr0] at HR
  generalize us.getD (i/64) 0=u at *
  generalize ws.getD (i/64) 0=x at *
  have hu:u=(l.take i).count true:=HR.out
  have HU:=Lib.hid hu
  have hul:u≤i:=by have:=HCT.out; omega
  clear hW hA ha hw hR hF hlw hla hu hr0
  rcases hj with rfl | ⟨hj,rfl⟩ <;> cases o
  all_goals
   go_enter Tryz.func83,Tryz.ntmps83
   go_wp2_with (first | (go_at_call 131; refine (len_any b l _ H.out).mono ?_; rintro e w' ⟨rfl,rfl⟩))
   go_ret
   first
   | exact⟨ret_int (by rw[HF.out,←HU.out]; omega),rfl⟩
   | exact⟨ret_int (by rw[←HU.out]),rfl⟩
theorem rank_low (b:Nat) (l:List Bool) (o:Bool) (i:Int) (w:World) (h:Vec w F b l) (h0:i≤0∨l=[]) :
  Calls Tryz.prog 83 #[.pointer (some ⟨b,0,none⟩), .bool o, .int .i64 i] w fun e w'=>e = .returned (.int .i64 0)∧w=w':=by
 have H:=Lib.hid h
 clear h
 by_cases h1:i<0
 ·clear h0
  go_enter Tryz.func83,Tryz.ntmps83
  go_wp2_with (first | (go_at_call 131; refine (len_any b l _ H.out).mono ?_; rintro e w' ⟨rfl,rfl⟩))
  go_ret
  exact⟨rfl,rfl⟩
 ·by_cases h2:i=0
  ·subst h2
   clear h0
   go_enter Tryz.func83,Tryz.ntmps83
   go_wp2_with (first | (go_at_call 131; refine (len_any b l _ H.out).mono ?_; rintro e w' ⟨rfl,rfl⟩))
   go_ret
   exact⟨rfl,rfl⟩
  ·obtain rfl:l=[]:=by rcases h0 with h0 | h0 <;> first | exact h0 | omega
   have h3:0<i:=by omega
   clear h0 h1 h2
   go_enter Tryz.func83,Tryz.ntmps83
   go_wp2_with (first | (go_at_call 131; refine (len_any b [] _ H.out).mono ?_; rintro e w' ⟨rfl,rfl⟩))
   go_ret
   exact⟨rfl,rfl⟩
theorem rank_any (b:Nat) (l:List Bool) (o:Bool) (i:Int) (w:World) (h:Vec w F b l) :
  Calls Tryz.prog 83 #[.pointer (some ⟨b,0,none⟩), .bool o, .int .i64 i] w fun e w'=>e = .returned (.int .i64 (rk l o i:Nat))∧w=w':=by
 by_cases h0:i≤0
 ·rw[rk_neg h0]
  exact rank_low b l o i w h (.inl h0)
 ·by_cases h1:i≤l.length
  ·obtain⟨k,rfl⟩:∃ k:Nat,i=k:=⟨i.toNat,by omega⟩
   exact rank_in b l o k k w h (by omega) (by omega) (.inl rfl)
  ·rw[rk_all (by omega)]
   by_cases h2:l=[]
   ·subst h2
    exact rank_low b [] o i w h (.inr rfl)
   ·have h3:=rank_in b l o l.length i w h (List.length_pos_iff.2 h2) (Nat.le_refl _) (.inr ⟨by omega,rfl⟩)
    rwa[List.take_length] at h3
theorem ones_any (b:Nat) (l:List Bool) (w:World) (h:Vec w F b l) :
  Calls Tryz.prog 86 #[.pointer (some ⟨b,0,none⟩)] w fun e w'=>e = .returned (.int .i64 (l.count true:Nat))∧w=w':=by
 have H:=Lib.hid h
 have hk:rk l true (l.length:Nat)=l.count true:=rk_all (Int.le_refl _)
 rw[←hk]
 clear h hk
 go_enter Tryz.func86,Tryz.ntmps86
 go_wp2_with (first | (go_at_call 131; refine (len_any b l _ H.out).mono ?_; rintro e w' ⟨rfl,rfl⟩) | (go_at_call 83; refine (rank_any b l _ _ _ H.out).mono ?_; rintro e w' ⟨rfl,rfl⟩))
 go_ret
 exact⟨rfl,rfl⟩
def bitAt (l:List Bool) (i:Int):Bool:=if 0≤i then l.getD i.toNat false else false
theorem bitAt_in {l:List Bool} {i:Nat} {c:Bool} (h:l[i]? = some c):bitAt l i=c:=by
 unfold bitAt
 rw[if_pos (by omega),List.getD_eq_getElem?_getD,Int.toNat_natCast,h]
 rfl
theorem bitAt_out {l:List Bool} {i:Int} (h:i<0∨(l.length:Int)≤i):bitAt l i=false:=by
 unfold bitAt
 split
 ·rw[List.getD_eq_getElem?_getD,List.getElem?_eq_none (by omega)]
  rfl
 ·rfl
theorem bit_word {x j:Nat} (hx:x<18446744073709551616):bits .and .u64 ((x:Int)/2^j) 1=(((x.testBit j).toNat:Nat):Int):=by
 have h:x/2^j &&& 1=(x.testBit j).toNat:=by
  rw[Nat.testBit_eq_decide_div_mod_eq,Nat.and_one_is_mod]
  rcases Nat.mod_two_eq_zero_or_one (x/2^j) with h | h <;> simp[h]
 have:=and_nat (a:=x/2^j) (b:=1) h (Nat.lt_of_le_of_lt (Nat.div_le_self _ _) hx) (by omega)
 rw[←this]
 push_cast
 rfl
theorem get_in (b:Nat) (l:List Bool) (i:Nat) (w:World) (h:Vec w F b l) (hi:i<l.length) :
  Calls Tryz.prog 128 #[.pointer (some ⟨b,0,none⟩), .int .i64 i] w fun e w'=>e = .returned (.bool (bitAt l i))∧w=w':=by
 have H:=Lib.hid h
 have hl:=h.short
 obtain⟨Aw,Aa,cw,ca,ws,us,hc0,hc1,hc2,hb,hw,ha,_,hW,hA⟩:=h
 have hlw:=hW.len
 have hlw2:i/64<ws.length:=by omega
 have hbit:=hW.bit (i/64) (i%64) (by omega) (by omega)
 rw[show 64*(i/64)+i%64=i by omega] at hbit
 have hB:=bitAt_in hbit
 obtain⟨bw,ow,rfl,_,hcw⟩:=hw.at_ hlw2
 have hx:=hW.lt (i/64)
 generalize ws.getD (i/64) 0=x at *
 have hand:=bit_word (j:=i%64) hx
 rw[hB]
 have HA:=Bx.mk hand
 clear hlw hbit hB hW hA ha hw hand
 cases hc:x.testBit (i%64)
 all_goals
  rw[hc] at HA
  have HC:=Bx.mk hc
  clear hc
  go_enter Tryz.func128,Tryz.ntmps128
  go_wp2_with (go_at_call 182; refine (has_in b l i _ H.out hi).mono ?_; rintro e w' ⟨rfl,rfl⟩)
  go_ret
  exact⟨ret_bool (by rw[HA.out]; rfl),rfl⟩
theorem get_any (b:Nat) (l:List Bool) (i:Int) (w:World) (h:Vec w F b l) :
  Calls Tryz.prog 128 #[.pointer (some ⟨b,0,none⟩), .int .i64 i] w fun e w'=>e = .returned (.bool (bitAt l i))∧w=w':=by
 by_cases h0:i<0∨(l.length:Int)≤i
 ·have H:=Lib.hid h
  rw[bitAt_out h0]
  clear h
  go_enter Tryz.func128,Tryz.ntmps128
  go_wp2_with (go_at_call 182; refine (has_out b l i _ H.out h0).mono ?_; rintro e w' ⟨rfl,rfl⟩)
  go_ret
  exact⟨rfl,rfl⟩
 ·obtain⟨k,rfl⟩:∃ k:Nat,i=k:=⟨i.toNat,by omega⟩
  exact get_in b l k w h (by omega)
end
end
section
open Go.RowKit Go.Oct Go.Bi
section
variable {F:Nat→Prop}
theorem Vec.drewN {w:World} {b:Nat} {l:List Bool} (h:Vec w F b l) (n:Nat):Vec (w.drewN n) F b l:=h.keep ((Ch.refl _ _).drewN n)
theorem Vec.alloc {w:World} {b:Nat} {l:List Bool} (h:Vec w F b l) (o:Obj):Vec (w.alloc o) F b l:=h.keep ((Ch.refl _ _).alloc o)
theorem rank_quiet (b:Nat) (l:List Bool) (o:Bool) (i:Int) (w:World) (n:Nat) (h:Vec w F b l) :
  Calls Tryz.prog 83 #[.pointer (some ⟨b,0,none⟩), .bool o, .int .i64 i] (w.drewN n) fun e w'=>e = .returned (.int .i64 (rk l o i:Nat))∧∃ m,w'=w.drewN m :=
 Calls.quiet_of_same ((rank_any b l o i (w.drewN n) (h.drewN n)).mono fun _ _ h=>⟨h.1,h.2.symm⟩)
theorem len_quiet (b:Nat) (l:List Bool) (w:World) (n:Nat) (h:Vec w F b l) :
  Calls Tryz.prog 131 #[.pointer (some ⟨b,0,none⟩)] (w.drewN n) fun e w'=>e = .returned (.int .i64 l.length)∧∃ m,w'=w.drewN m :=
 Calls.quiet_of_same ((len_any b l (w.drewN n) (h.drewN n)).mono fun _ _ h=>⟨h.1,h.2.symm⟩)
def moreB (l:List Bool) (o:Bool) (k:Nat) (i:Nat):Bool:=decide (k<rk l o (((i:Int)+1)*64))
theorem clos_any (b b3 b4 b5:Nat) (l:List Bool) (o:Bool) (k i:Nat) (w:World) (h:Vec w F b l) (hi:i≤1048576)
  (c3:w.cell? ⟨b3,0,none⟩=some (.pointer (some ⟨b,0,none⟩))) (c4:w.cell? ⟨b4,0,none⟩=some (.bool o)) (c5:w.cell? ⟨b5,0,none⟩=some (.int .i64 k)) :
  Calls Tryz.prog 168 #[.int .i64 i, .pointer (some ⟨b3,0,none⟩), .pointer (some ⟨b4,0,none⟩), .pointer (some ⟨b5,0,none⟩)] w fun e w'=>e = .returned (.bool (moreB l o k i))∧∃ n,w'=w.drewN n:=by
 have H:=Bx.mk h
 clear h
 go_enter Tryz.func168,Tryz.ntmps168
 go_wp2
 go_quiet ((go_at_call 83; exact rank_quiet b l o _ _ _ H.out))
 go_wp2
 go_ret
 exact⟨rfl,_,rfl⟩
def Found (p:Nat→Bool) (m lo hi:Nat):Prop:=lo≤hi∧hi≤m∧(∀ x,lo=x+1→p x=false)∧(hi<m→p hi=true)
def SearchPost (p:Nat→Bool) (m:Nat) (w:World) (e:Ending) (w':World):Prop:=∃ a:Nat,e = .returned (.int .i64 a)∧Found p m a a∧∃ n,w'=w.drewN n
theorem search_any (b b3 b4 b5:Nat) (l:List Bool) (o:Bool) (k m:Nat) (w:World) (h:Vec w F b l) (hm:m≤1048576)
  (c3:w.cell? ⟨b3,0,none⟩=some (.pointer (some ⟨b,0,none⟩))) (c4:w.cell? ⟨b4,0,none⟩=some (.bool o)) (c5:w.cell? ⟨b5,0,none⟩=some (.int .i64 k)) :
  Calls Tryz.prog 167 #[.int .i64 m, .func (.func 168) #[] #[.pointer (some ⟨b3,0,none⟩), .pointer (some ⟨b4,0,none⟩), .pointer (some ⟨b5,0,none⟩)]] w (SearchPost (moreB l o k) m w):=by
 have H:=Bx.mk h
 have H3:=Bx.mk c3
 have H4:=Bx.mk c4
 have H5:=Bx.mk c5
 clear h c3 c4 c5
 go_enter Tryz.func167,Tryz.ntmps167
 go_wp2
 go_loopw [5,6] (fun x y wr=>∃ lo hi n:Nat,x = .int .i64 lo∧y = .int .i64 hi∧wr=w.drewN n∧Found (moreB l o k) m lo hi) (fun x y _=>(intOf y).toNat-(intOf x).toNat)
 case atStart=>exact⟨0,m,0,rfl,rfl,rfl,Nat.zero_le _,Nat.le_refl _,fun x hx=>by omega,fun h=>by omega⟩
 case round =>
  obtain⟨lo,hi,n,rfl,rfl,rfl,hf⟩:=hrel
  obtain⟨hlh,hhm,hf1,hf2⟩:=hf
  have HF1:=Bx.mk hf1
  have HF2:=Bx.mk hf2
  clear hf1 hf2
  by_cases hlt:lo<hi
  ·have hc:=clos_any (F:=F) b b3 b4 b5 l o k ((lo+hi)/2) (w.drewN n) (H.out.drewN n) (by omega) H3.out H4.out H5.out
   rw[show (((lo+hi)/2:Nat):Int)=((lo:Int)+(hi:Int))/2 by omega] at hc
   have HC:=Bx.mk hc
   clear hc
   cases hp:moreB l o k ((lo+hi)/2)
   ·rw[hp] at HC
    have HP:=Bx.mk hp
    clear hp
    go_wp2_with fail
    refine HC.out.mono ?_
    rintro e w' ⟨rfl,nq,rfl⟩
    go_wp2
    go_roundw
    case rel=>exact⟨(lo+hi)/2+1,hi,n+nq,by rw[show ((lo:Int)+(hi:Int))/2+1=(((lo+hi)/2+1:Nat):Int) by omega],rfl,rfl,by omega,hhm,fun x hx=>by rw[show x=(lo+hi)/2 by omega]; exact HP.out,HF2.out⟩
    case measure=>simp[intOf]; omega
   ·rw[hp] at HC
    have HP:=Bx.mk hp
    clear hp
    go_wp2_with fail
    refine HC.out.mono ?_
    rintro e w' ⟨rfl,nq,rfl⟩
    go_wp2
    go_roundw
    case rel=>exact⟨lo,(lo+hi)/2,n+nq,rfl,by rw[show ((lo:Int)+(hi:Int))/2=(((lo+hi)/2:Nat):Int) by omega],rfl,by omega,by omega,HF1.out,fun _=>HP.out⟩
    case measure=>simp[intOf]; omega
  ·obtain rfl:lo=hi:=by omega
   go_wp2
   go_ret
   exact⟨lo,rfl,⟨Nat.le_refl _,hhm,HF1.out,HF2.out⟩,n,rfl⟩
theorem rk_end {l:List Bool} {o:Bool} {a:Nat} (h:l.length≤64*(a+1)):(l.take (64*(a+1))).count o=l.count o:=by rw[List.take_of_length_le h]
theorem found_at {ws:List Nat} {l:List Bool} {o:Bool} {k a:Nat} (hW:Wd ws l) (hf:Found (moreB l o k) ws.length a a) (hk:k<l.count o) :
  a<ws.length∧64*a<l.length∧(l.take (64*a)).count o≤k∧k<(l.take (64*(a+1))).count o:=by
 obtain⟨_,h1,h2,h3⟩:=hf
 have hl:=hW.len
 have hr:∀ i:Nat,rk l o (((i:Int)+1)*64)=(l.take (64*(i+1))).count o:=fun i=>by
  rw[show ((i:Int)+1)*64=((64*(i+1):Nat):Int) by omega]
  rfl
 have hlow:∀ x,a=x+1→(l.take (64*a)).count o≤k:=fun x hx=>by
  have:=h2 x hx
  unfold moreB at this
  rw[hr x] at this
  subst hx
  have:=of_decide_eq_false this
  omega
 have ha:a<ws.length:=by
  rcases Nat.lt_or_ge a ws.length with h | h
  ·exact h
  ·exfalso
   cases a with
   | zero =>
    have:l.length=0:=by omega
    have:=List.length_eq_zero_iff.1 this
    subst this
    simp at hk
   | succ x =>
    have h4:=hlow x rfl
    rw[rk_end (by omega)] at h4
    omega
 have h4:k<(l.take (64*(a+1))).count o:=by
  have:=h3 ha
  unfold moreB at this
  rw[hr a] at this
  exact of_decide_eq_true this
 refine⟨ha,by omega,?_,h4⟩
 cases a with
 | zero=>simp
 | succ x=>exact hlow x rfl
theorem xor_all (x:Nat) (h:x<18446744073709551616):bits .xor .u64 IntKind.u64.max (x:Int)=((flip64 x:Nat):Int):=by
 have e:IntKind.u64.max=((18446744073709551615:Nat):Int):=by decide
 rw[e,bits_xor_u64_nat _ _ (by omega) h]
 congr 1
 apply Nat.eq_of_testBit_eq
 intro j
 rw[Nat.testBit_xor,show (18446744073709551615:Nat)=2^64-1 from rfl,Nat.testBit_two_pow_sub_one]
 rcases Nat.lt_or_ge j 64 with hj | hj
 ·rw[flip_bit h hj]
  simp[hj]
 ·have h1:x.testBit j=false:=Nat.testBit_lt_two_pow (Nat.lt_of_lt_of_le (show x<2^64 from h) (Nat.pow_le_pow_right (by omega) hj))
  have h2:(flip64 x).testBit j=false:=Nat.testBit_lt_two_pow (Nat.lt_of_lt_of_le (show flip64 x<2^64 by unfold flip64; omega) (Nat.pow_le_pow_right (by omega) hj))
  rw[h1,h2]
  simp[show ¬j<64 by omega]
theorem TabAt.keep {w w':World} {S:Nat→Prop} (hc:Ch S w w') {g:Nat} {tab:List Nat} (h:TabAt g tab w) (hS:¬ S g:=by exact fun h=>h):TabAt g tab w':=fun j hj=>hc.cell hS (h j hj)
theorem cell_new (w:World) (u:Value) (e:TypeId):(w.alloc (.cells #[u] e)).cell? ⟨w.heap.size,0,none⟩=some u:=by
 rw[World.cell?_alloc_at _ _ _ _ rfl]
 rfl
theorem cell_new_at {w:World} {u:Value} {e:TypeId} {n:Nat} (h:w.heap.size=n):(w.alloc (.cells #[u] e)).cell? ⟨n,0,none⟩=some u:=by
 subst h
 exact cell_new w u e
theorem select_in (b:Nat) (l:List Bool) (o:Bool) (k:Nat) (w:World) (h:Vec w F b l) (hT:Tab w) (hk:k<l.count o) :
  Calls Tryz.prog 109 #[.pointer (some ⟨b,0,none⟩), .bool o, .int .i64 k] w fun e w'=>e = .returned (.int .i64 (sel l o k))∧Ch (fun _=>False) w w':=by
 have H:=Bx.mk h
 have HT:=Bx.mk hT
 have HK:=Bx.mk hk
 have hl:=h.short
 have hkl:k<l.length:=Nat.lt_of_lt_of_le hk List.count_le_length
 have hra:rk l o (l.length:Nat)=l.count o:=rk_all (Int.le_refl _)
 have hd1:decide ((k:Int)<0)=false:=by simp
 have hd2:decide (rk l o (l.length:Nat)≤k)=false:=by rw[hra]; simp; omega
 obtain⟨Aw,Aa,cw,ca,ws,us,hc0,hc1,hc2,hb,hw,ha,_,hW,hA⟩:=h
 have HW:=Bx.mk hW
 have HWS:=Bx.mk hw
 have hlw:=hW.len
 have hlm:ws.length≤1048576:=by omega
 clear hT hk hra hW hw ha hA hc2 hlw
 have hb0:=lt_of_cell hc0
 go_enter Tryz.func109,Tryz.ntmps109
 go_wp2
 go_quiet ((first | (go_at_call 83; exact rank_quiet b l _ _ _ _ (((H.out.alloc _).alloc _).alloc _)) | (go_at_call 131; exact len_quiet b l _ _ (((H.out.alloc _).alloc _).alloc _))))
 generalize hw1:World.drewN (World.alloc (World.alloc (World.alloc w _) _) _) nq=w1
 have hC:Ch (fun _=>False) w w1:=by
  rw[←hw1]
  exact (((Ch.refl _ w).alloc _).alloc _).alloc _ |>.drewN _
 have c3:w1.cell? ⟨w.heap.size,0,none⟩=some (.pointer (some ⟨b,0,none⟩)):=by
  rw[←hw1]
  exact ((((Ch.refl (fun _=>False) _).alloc _).alloc _).drewN nq).cell (fun h=>h) (cell_new w _ _)
 have c4:w1.cell? ⟨w.heap.size+1,0,none⟩=some (.bool o):=by
  rw[←hw1]
  exact (((Ch.refl (fun _=>False) _).alloc _).drewN nq).cell (fun h=>h) (cell_new_at (by simp))
 have c5:w1.cell? ⟨w.heap.size+1+1,0,none⟩=some (.int .i64 k):=by
  rw[←hw1]
  exact ((Ch.refl (fun _=>False) _).drewN nq).cell (fun h=>h) (cell_new_at (by simp))
 clear hw1
 have HC:=Bx.mk hC
 have hc1':=hC.cell (fun h=>h) hc1
 clear hC hc1 hc0
 go_wp2_with fail
 refine (search_any (F:=F) b w.heap.size (w.heap.size+1) (w.heap.size+1+1) l o k ws.length _ (H.out.keep HC.out) hlm c3 c4 c5).mono ?_
 rintro e w2 ⟨a,rfl,hf,nq2,hw2⟩
 have hC2:Ch (fun _=>False) w w2:=by rw[hw2]; exact HC.out.drewN _
 replace c3:w2.cell? ⟨w.heap.size,0,none⟩=some (.pointer (some ⟨b,0,none⟩)):=by rw[hw2]; exact c3
 replace c4:w2.cell? ⟨w.heap.size+1,0,none⟩=some (.bool o):=by rw[hw2]; exact c4
 replace c5:w2.cell? ⟨w.heap.size+1+1,0,none⟩=some (.int .i64 k):=by rw[hw2]; exact c5
 replace hc1':=(show w2.cell? ⟨b,1,none⟩=some (.slice Aw ws.length cw) by rw[hw2]; exact hc1')
 clear hw2
 clear HC
 have HC:=Bx.mk hC2
 clear hC2
 obtain⟨ha,ha2,hk1,hk2⟩:=found_at HW.out hf HK.out
 have hrk:rk l o (((a:Int))*64)=(l.take (64*a)).count o:=by
  rw[show (a:Int)*64=((64*a:Nat):Int) by omega]
  rfl
 have HR:=Bx.mk hrk
 obtain⟨bw,ow,rfl,_,hcw0⟩:=HWS.out.at_ ha
 have hx:=HW.out.lt a
 have hcw:=HC.out.cell (fun h=>h) hcw0
 have hsp:=select_pop HW.out ha2 hk1 hk2
 have hsa:=fun i=>select_at HW.out (i:=i) ha2 hk1 hk2
 generalize ws.getD a 0=x at *
 obtain⟨d,hd⟩:∃ d,d=k-(l.take (64*a)).count o:=⟨_,rfl⟩
 rw[←hd] at hsp hsa
 have HSA:=Bx.mk hsa
 have HSP:=Bx.mk hsp
 have HD:=Bx.mk hd
 have HK1:=Bx.mk hk1
 clear hf hrk hcw0 hsp hsa hk1 hk2 hd
 have hTT:=HT.out
 have HTT:=Bx.mk (fun n=>(TabAt.keep (HC.out.drewN n) hTT:Tab (w2.drewN n)))
 have hpl:=plN_spec HSP.out
 have HPL:=Bx.mk hpl
 have hp64:=hpl.2
 have hse:=sel_eq (HSA.out _ hpl.1 hpl.2)
 have HSE:=Bx.mk hse
 have hkd0:(k:Int)-(rk l o ((a:Int)*64):Nat)=(d:Int):=by rw[HR.out]; have:=HD.out; have:=HK1.out; omega
 have hdl:(d:Int)≤1048576:=by omega
 have hke:IntKind.i64.wrap ((k:Int)-(rk l o ((a:Int)*64):Nat))=(d:Int):=by rw[hkd0]; exact IntWalk.i64_in _ (by omega)
 have hkd:wrap64 ((k:Int)-(rk l o ((a:Int)*64):Nat))=(d:Int):=by rw[hkd0]; unfold wrap64; omega
 have HKD:=Bx.mk hkd
 have HKE:=Bx.mk hke
 clear hTT hpl hse hkd hke hkd0
 cases o
 ·have hxx:=xor_all x hx
  rw[show flip64 x=selW false x from rfl] at hxx
  have hy:selW false x<18446744073709551616:=selW_lt hx
  generalize selW false x=y at *
  go_wp2_with fail
  clear hxx
  go_quiet ((first | (go_at_call 83; exact rank_quiet b l _ _ _ _ (H.out.keep HC.out)) | (go_at_call 169; rw[HKD.out]; exact place_quiet y d _ _ hy HSP.out (HTT.out _)) | (go_at_call 169; rw[HKE.out]; exact place_quiet y d _ _ hy HSP.out (HTT.out _))))
  go_wp2
  go_ret
  exact⟨ret_int (by rw[HSE.out]; omega),HC.out.drewN _⟩
 ·have hy:selW true x<18446744073709551616:=selW_lt hx
  have hsx:selW true x=x:=rfl
  generalize selW true x=y at *
  subst hsx
  go_wp2_with fail
  go_quiet ((first | (go_at_call 83; exact rank_quiet b l _ _ _ _ (H.out.keep HC.out)) | (go_at_call 169; rw[HKD.out]; exact place_quiet _ d _ _ hy HSP.out (HTT.out _)) | (go_at_call 169; rw[HKE.out]; exact place_quiet _ d _ _ hy HSP.out (HTT.out _))))
  go_wp2
  go_ret
  exact⟨ret_int (by rw[HSE.out]; omega),HC.out.drewN _⟩
theorem select_out (b:Nat) (l:List Bool) (o:Bool) (k:Int) (w:World) (h:Vec w F b l) (hk:k<0∨(l.count o:Int)≤k) :
  Calls Tryz.prog 109 #[.pointer (some ⟨b,0,none⟩), .bool o, .int .i64 k] w fun e w'=>e = .returned (.int .i64 (-1))∧Ch (fun _=>False) w w':=by
 have H:=Bx.mk h
 have hl:=h.short
 clear h
 by_cases hk0:k<0
 ·have hk':decide (k<0)=true:=by simpa using hk0
  clear hk
  go_enter Tryz.func109,Tryz.ntmps109
  go_wp2
  go_quiet (fail)
  go_wp2
  go_ret
  exact⟨rfl,((((Ch.refl _ w).alloc _).alloc _).alloc _).drewN _⟩
 ·have hd1:decide (k<0)=false:=by simpa using hk0
  have hra:rk l o (l.length:Nat)=l.count o:=rk_all (Int.le_refl _)
  have hd2:decide (((rk l o (l.length:Nat):Nat):Int)≤k)=true:=by rw[hra]; simp; omega
  have hk1:0≤k:=by omega
  clear hk hk0 hra
  go_enter Tryz.func109,Tryz.ntmps109
  go_wp2
  go_quiet ((first | (go_at_call 83; exact rank_quiet b l _ _ _ _ (((H.out.alloc _).alloc _).alloc _)) | (go_at_call 131; exact len_quiet b l _ _ (((H.out.alloc _).alloc _).alloc _))))
  go_wp2
  go_ret
  exact⟨rfl,((((Ch.refl _ w).alloc _).alloc _).alloc _).drewN _⟩
theorem select_any (b:Nat) (l:List Bool) (o:Bool) (k:Int) (w:World) (h:Vec w F b l) (hT:Tab w) :
  Calls Tryz.prog 109 #[.pointer (some ⟨b,0,none⟩), .bool o, .int .i64 k] w fun e w'=>e = .returned (.int .i64 (sel l o k))∧Ch (fun _=>False) w w':=by
 by_cases hk:k<0∨(l.count o:Int)≤k
 ·rw[sel_eq (.inr ⟨rfl,hk⟩:SelIs l o k (-1))]
  exact select_out b l o k w h hk
 ·obtain⟨m,rfl⟩:∃ m:Nat,k=m:=⟨k.toNat,by omega⟩
  exact select_in b l o m w h hT (by omega)
end
end
section
open Go.RowKit Go.Oct Go.Bi Go.Wa
structure Tr (w:World) (F:Nat→Prop) (b W:Nat) (l:List Nat):Prop where
 lo:1≤W
 hi:W≤16
 short:l.length≤131072
 lt:∀ x∈l,x<2^W
 at_:∃ g:Nat,w.cell? ⟨b,0,none⟩=some (.slice (some ⟨g,0,none⟩) W W)∧F b∧F g ∧
  ∀ d,d<W→∃ v:Nat,w.cell? ⟨g,d*2,none⟩=some (.pointer (some ⟨v,0,none⟩))∧w.cell? ⟨g,d*2+1,none⟩=some (.int .i64 ((bt W l d).count false:Nat))∧Vec w F v (bt W l d)
theorem Tr.ch {w w':World} {F S:Nat→Prop} {b W:Nat} {l:List Nat} (h:Tr w F b W l) (hc:Ch S w w') (hF:∀ k,F k→k<w.heap.size→¬ S k):Tr w' F b W l:=by
 obtain⟨h1,h2,h3,h4,g,h5,h6,h7,h8⟩:=h
 refine⟨h1,h2,h3,h4,g,hc.cell (hF b h6 (lt_of_cell h5)) h5,h6,h7,fun d hd=>?_⟩
 obtain⟨v,k1,k2,k3⟩:=h8 d hd
 exact⟨v,hc.cell (hF g h7 (lt_of_cell k1)) k1,hc.cell (hF g h7 (lt_of_cell k2)) k2,k3.ch hc hF⟩
theorem Tr.keep {w w':World} {F:Nat→Prop} {b W:Nat} {l:List Nat} (h:Tr w F b W l) (hc:Ch (fun _=>False) w w'):Tr w' F b W l:=h.ch hc (fun _ _ _ h=>h)
theorem Tr.mono {w:World} {F G:Nat→Prop} {b W:Nat} {l:List Nat} (h:Tr w F b W l) (hF:∀ k,k<w.heap.size→F k→G k):Tr w G b W l:=by
 obtain⟨h1,h2,h3,h4,g,h5,h6,h7,h8⟩:=h
 refine⟨h1,h2,h3,h4,g,h5,hF b (lt_of_cell h5) h6,hF g ?_ h7,fun d hd=>?_⟩
 ·obtain⟨v,k1,_⟩:=h8 0 h1
  exact lt_of_cell k1
 ·obtain⟨v,k1,k2,k3⟩:=h8 d hd
  exact⟨v,k1,k2,k3.mono hF⟩
theorem Tr.row {w:World} {F:Nat→Prop} {b W:Nat} {l:List Nat} (h:Tr w F b W l):∃ g:Nat,w.cell? ⟨b,0,none⟩=some (.slice (some ⟨g,0,none⟩) W W):=by
 obtain⟨_,_,_,_,g,h5,_⟩:=h
 exact⟨g,h5⟩
section
variable {F:Nat→Prop}
theorem width_cell (b W c:Nat) (A:Option Addr) (w:World) (h:w.cell? ⟨b,0,none⟩=some (.slice A W c)) :
  Calls Tryz.prog 180 #[.pointer (some ⟨b,0,none⟩)] w fun e w'=>e = .returned (.int .i64 W)∧w=w':=by
 go_enter Tryz.func180,Tryz.ntmps180
 go_wp2
 go_ret
 exact⟨rfl,rfl⟩
theorem tlen_any (b W n:Nat) (l:List Nat) (w:World) (h:Tr w F b W l) (hn:l.length=n) :
  Calls Tryz.prog 125 #[.pointer (some ⟨b,0,none⟩)] w fun e w'=>e = .returned (.int .i64 n)∧w=w':=by
 obtain⟨h1,h2,h3,h4,g,h5,h6,h7,h8⟩:=h
 obtain⟨v,k1,k2,k3⟩:=h8 0 h1
 have K1:w.cell? ⟨g,0,none⟩=some (.pointer (some ⟨v,0,none⟩)):=by simpa using k1
 have K3:=Bx.mk k3
 have hb:(bt W l 0).length=n:=(bt_len W l 0).trans hn
 clear h8 k1 k2 k3 h4 hn
 generalize bt W l 0=r at *
 subst hb
 go_enter Tryz.func125,Tryz.ntmps125
 go_wp2_with fail
 refine (width_cell b W W _ _ h5).mono ?_
 rintro e w' ⟨rfl,rfl⟩
 go_wp2_with fail
 refine (len_any v r _ K3.out).mono ?_
 rintro e w' ⟨rfl,rfl⟩
 go_wp2
 go_ret
 exact⟨rfl,rfl⟩
def clip (n:Nat) (i:Int):Nat:=min i.toNat n
theorem within_any (b W n:Nat) (l:List Nat) (i:Int) (w:World) (h:Tr w F b W l) (hn:l.length=n) :
  Calls Tryz.prog 224 #[.pointer (some ⟨b,0,none⟩), .int .i64 i] w fun e w'=>e = .returned (.int .i64 (clip n i:Nat))∧w=w':=by
 have H:=Bx.mk h
 clear h
 by_cases h1:i≤0
 ·have hm:max i 0=0:=by omega
  have hm2:min (0:Int) (n:Int)=0:=by omega
  go_enter Tryz.func224,Tryz.ntmps224
  go_wp2_with (go_at_call 125; refine (tlen_any b W n l _ H.out hn).mono ?_; rintro e w' ⟨rfl,rfl⟩)
  all_goals
   go_ret
   exact⟨ret_int (by unfold clip; omega),rfl⟩
 ·by_cases h2:i≤n
  ·go_enter Tryz.func224,Tryz.ntmps224
   go_wp2_with (go_at_call 125; refine (tlen_any b W n l _ H.out hn).mono ?_; rintro e w' ⟨rfl,rfl⟩)
   go_ret
   exact⟨ret_int (by unfold clip; omega),rfl⟩
  ·go_enter Tryz.func224,Tryz.ntmps224
   go_wp2_with (go_at_call 125; refine (tlen_any b W n l _ H.out hn).mono ?_; rintro e w' ⟨rfl,rfl⟩)
   go_ret
   exact⟨ret_int (by unfold clip; omega),rfl⟩
def fitB (W:Nat) (c:Int):Bool:=decide (0<W)&&(decide (0≤c)&&decide (c<(2^W:Nat)))
theorem pow16 {W:Nat} (h:W≤16):2^W≤65536:=Nat.pow_le_pow_right (by decide) h
theorem fits_any (W:Nat) (c:Int) (r:Bool) (w:World) (h:W≤16) (hr:fitB W c=r) :
  Calls Tryz.prog 222 #[.int .i64 W, .int .i64 c] w fun e w'=>e = .returned (.bool r)∧w=w':=by
 subst hr
 have h16:=pow16 h
 have h0:0<2^W:=Nat.pow_pos (by decide)
 have hs:IntKind.i64.wrap (2^W)=((2^W:Nat):Int):=by
  have e:(2:Int)^W=((2^W:Nat):Int):=by push_cast; rfl
  rw[e,IntWalk.i64_in _ (by omega)]
 unfold fitB
 generalize 2^W=p at *
 by_cases hW:W=0
 ·subst hW
  go_enter Tryz.func222,Tryz.ntmps222
  go_wp2
  go_ret
  exact⟨ret_bool (by simp),rfl⟩
 ·have hW0:0<W:=by omega
  by_cases hc:c<0
  ·go_enter Tryz.func222,Tryz.ntmps222
   go_wp2
   go_ret
   exact⟨ret_bool (by simp; omega),rfl⟩
  ·have hc0:0≤c:=by omega
   by_cases hcp:c<p
   ·go_enter Tryz.func222,Tryz.ntmps222
    go_wp2
    go_ret
    exact⟨ret_bool (by simp),rfl⟩
   ·go_enter Tryz.func222,Tryz.ntmps222
    go_wp2
    go_ret
    exact⟨ret_bool (by simp; omega),rfl⟩
theorem and1 (a:Nat) (ha:a<9223372036854775808):bits .and .i64 (a:Int) 1=((a%2:Nat):Int):=by
 have hx:a &&& 1=a%2:=Nat.and_two_pow_sub_one_eq_mod a 1
 have h1:(BitVec.ofInt 64 (a:Int)).toNat=a:=by
  rw[BitVec.ofInt_natCast,BitVec.toNat_ofNat]; exact Nat.mod_eq_of_lt (by omega)
 have h2:(BitVec.ofInt 64 (1:Int)).toNat=1:=by decide
 show IntKind.i64.wrap ((BitVec.ofInt 64 (a:Int) &&& BitVec.ofInt 64 (1:Int)).toNat:Int)=_
 rw[BitVec.toNat_and,h1,h2,hx]
 simp[IntKind.wrap,IntKind.signed,IntKind.bits]
 omega
theorem digit_any (b W cp c d:Nat) (A:Option Addr) (r:Bool) (w:World) (h:w.cell? ⟨b,0,none⟩=some (.slice A W cp)) (hW:W≤16) (hd:d<W) (hc:c<2^W) (hr:dgt W d c=r) :
  Calls Tryz.prog 209 #[.pointer (some ⟨b,0,none⟩), .int .i64 c, .int .i64 d] w fun e w'=>e = .returned (.bool r)∧w=w':=by
 have h16:=pow16 hW
 unfold dgt at hr
 have h1:IntKind.i64.wrap ((W:Int)-1)=((W-1:Nat):Int):=by rw[IntWalk.i64_in _ (by omega)]; omega
 have h2:IntKind.i64.wrap (((W-1:Nat):Int)-(d:Int))=((W-1-d:Nat):Int):=by rw[IntWalk.i64_in _ (by omega)]; omega
 have h3:bits .and .i64 ((c:Int)/2^(W-1-d)) 1=((c/2^(W-1-d)%2:Nat):Int):=by
  have:=and1 (c/2^(W-1-d)) (Nat.lt_of_le_of_lt (Nat.div_le_self _ _) (Nat.lt_of_lt_of_le hc (Nat.le_trans h16 (by decide))))
  rw[←this]
  push_cast
  rfl
 have HR:Bx ((((c/2^(W-1-d)%2:Nat):Int)==1)=r):=⟨by
  rw[←hr,Nat.testBit_eq_decide_div_mod_eq,Bool.eq_iff_iff,beq_iff_eq,decide_eq_true_eq]
  constructor
  ·intro h
   exact Int.ofNat_inj.1 h
  ·intro h
   rw[h]
   rfl⟩
 have H3:=Bx.mk h3
 clear hr h3
 go_enter Tryz.func209,Tryz.ntmps209
 go_wp2_with fail
 refine (width_cell b W cp A _ h).mono ?_
 rintro e w' ⟨rfl,rfl⟩
 go_wp2
 go_ret
 exact⟨ret_bool (by rw[H3.out,HR.out]),rfl⟩
theorem rankq_val (b:Nat) (l:List Bool) (o:Bool) (i r:Int) (w:World) (n:Nat) (h:Vec w F b l) (hr:((rk l o i:Nat):Int)=r) :
  Calls Tryz.prog 83 #[.pointer (some ⟨b,0,none⟩), .bool o, .int .i64 i] (w.drewN n) fun e w'=>e = .returned (.int .i64 r)∧∃ m,w'=w.drewN m:=by
 subst hr
 exact rank_quiet b l o i w n h
theorem cells2 (w:World) (u v:Value) (t:TypeId):(w.alloc (.cells #[u,v] t)).cell? ⟨w.heap.size,0,none⟩=some u∧(w.alloc (.cells #[u,v] t)).cell? ⟨w.heap.size,1,none⟩=some v:=by
 have h:(w.alloc (.cells #[u,v] t)).heap[w.heap.size]? = some (.cells #[u,v] t):=heap_alloc_new w _
 unfold World.cell?
 rw[h]
 exact⟨rfl,rfl⟩
theorem down_any (v i r:Nat) (l:List Bool) (o:Bool) (z:Int) (w:World) (h:Vec w F v l) (hz:z=(l.count false:Nat)) (hr:dn l o i=r) :
  Calls Tryz.prog 195 #[.agg #[.pointer (some ⟨v,0,none⟩), .int .i64 z], .bool o, .int .i64 i] w fun e w'=>e = .returned (.int .i64 r)∧Ch (fun _=>False) w w':=by
 have hl:=h.short
 have hcf:l.count false≤l.length:=List.count_le_length
 have hrk:∀ c,rk l c (i:Nat)≤l.length:=fun c=>rk_le l c _
 obtain⟨q,hq⟩:∃ q,l.count false=q:=⟨_,rfl⟩
 rw[hq] at hz hcf
 subst hz
 have HV:=Bx.mk h
 have hr':r=if o=true then q+rk l true (i:Nat) else rk l false (i:Nat):=by rw[←hr,←hq]; rfl
 obtain⟨x,hx⟩:∃ x,rk l o (i:Nat)=x:=⟨_,rfl⟩
 have hxl:=hrk o
 rw[hx] at hxl
 have HX:Bx (((rk l o (i:Nat):Nat):Int)=x):=⟨by rw[hx]⟩
 clear hr hq hrk h
 cases o
 ·have HR:Bx ((x:Int)=r):=⟨by rw[hr',←hx]; rfl⟩
  clear hr' hx
  go_enter Tryz.func195,Tryz.ntmps195
  go_wp2_with fail
  refine (rank_any v l false i _ (HV.out.alloc _)).mono ?_
  rintro e w' ⟨rfl,rfl⟩
  go_wp2
  go_ret
  exact⟨ret_int (by rw[HX.out,HR.out]),(Ch.refl _ w).alloc _⟩
 ·have HR:Bx (((q+x:Nat):Int)=r):=⟨by rw[hr',←hx]; rfl⟩
  clear hr' hx
  have hw1:IntKind.i64.wrap ((q:Int)+(x:Int))=((q+x:Nat):Int):=by rw[IntWalk.i64_in _ (by omega)]; omega
  have hw2:wrap64 ((q:Int)+(x:Int))=((q+x:Nat):Int):=by unfold wrap64; omega
  go_enter Tryz.func195,Tryz.ntmps195
  go_wp2_with fail
  obtain⟨c0,c1⟩:=cells2 w (.pointer (some ⟨v,0,none⟩)) (.int .i64 q) 208
  have HC:=Bx.mk ((Ch.refl (fun _=>False) w).alloc (.cells #[.pointer (some ⟨v,0,none⟩), .int .i64 q] 208))
  generalize World.alloc w _=w1 at *
  go_quiet ((go_at_call 83; exact rankq_val v l true i x w1 _ (HV.out.keep HC.out) HX.out))
  go_wp2
  go_ret
  exact⟨ret_int (by have:=HR.out; omega),HC.out.drewN _⟩
theorem Tab.keep {w w':World} (h:Tab w) (hc:Ch (fun _=>False) w w'):Tab w':=TabAt.keep hc h (fun h=>h)
end
end
end Go.Proofs.YtambgjpfoceieaaGreatDoor.W
