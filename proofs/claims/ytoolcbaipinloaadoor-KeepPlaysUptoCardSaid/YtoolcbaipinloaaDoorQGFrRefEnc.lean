/- Lemmas and contracts of this proof. Conditions: said at each. -/
import Derived.Test.YtoolcbaipinloaaDoorQGSuRow
import Derived.Laws.OwnMore
set_option maxHeartbeats 2000000
namespace Go.Proofs.YtoolcbaipinloaaDoor
section
open Go.RowKit Go.Oct Go.Su Go.Fr
theorem Rw8.keep {w wr w2:World} {v:Value} {n:Nat} {xs:List Int} (h:Rw8 w wr v n xs) (hc:Ch (fun _=>False) wr w2):Rw8 w w2 v n xs:=⟨hc.own h.own (fun _ _ h=>h),h.lies,h.ch.trans hc (fun _ _ h=>h)⟩
theorem Rw8.sl {w wr:World} {A:Option Addr} {c n:Nat} {xs:List Int} (h:Rw8 w wr (.slice A n c) n xs):Sl wr (fun b=>w.heap.size≤b) .u8 A n xs:=(Sl.of_own h.own).mono (fun b _ hb=>h.lies b hb)
def four4 (k:Nat):Obj := .cells #[.int .u8 ((k:Int)%256), .int .u8 ((k:Int)/256%256), .int .u8 ((k:Int)/65536%256), .int .u8 ((k:Int)/16777216)] 5
theorem four_blk (k:Nat) (w:World) (hk:k<4294967296) :
  Calls Tryd.prog 57 #[.int .u32 (k:Nat)] w fun e w'=>e = .returned (.slice (some ⟨w.heap.size,0,none⟩) 4 4)∧w'=w.alloc (four4 k):=four_any k w hk
theorem Rw8.four (w:World) (k:Nat) (hk:k<4294967296):Rw8 w (w.alloc (four4 k)) (.slice (some ⟨w.heap.size,0,none⟩) 4 4) 4 (four k):=by
 refine⟨?_,fun g hg=>by simp[Value.ownBlock] at hg; omega,(Ch.refl _ _).alloc _⟩
 rw[←fourV_eq hk]
 exact World.ownsRow_lit (base:=0) (e := 5) (size:=1) w (fourV k).toArray 4 (Nat.zero_le _) (by unfold maxLen; omega) rfl
theorem four4_sl (k:Nat) (w:World) (hk:k<4294967296):Sl (w.alloc (four4 k)) (fun _=>True) .u8 (some ⟨w.heap.size,0,none⟩) 4 (four k):=(four_sl k w hk 5).mono fun _ _ _=>trivial
theorem rencode_any {F:Nat→Prop} (xs:List Int) (A:Option Addr) (n c:Nat) (w:World) (hs:Sl w F .u8 A n xs) (hn:n≤1048576) (hby:Byt xs) :
  Calls Tryd.prog 31 #[.slice A n c] w fun e w'=>∃ v,e = .returned (.tuple #[v, .int .i64 0])∧Fresh w v (frm xs) w':=by
 have hl:=hs.len
 have HL:=Bx.mk hl
 have HS:=Bx.mk hs
 have HB:=Bx.mk hby
 clear hs hby hl
 have d1:decide ((1048576:Int)<(n:Int))=false:=decide_eq_false (by omega)
 go_enter Tryd.func31,Tryd.ntmps31
 go_wp2_with fail
 refine (four_blk n w (by omega)).mono ?_
 rintro e w1 ⟨rfl,hw1⟩
 have HR1:Bx (Rw8 w w1 (.slice (some ⟨w.heap.size,0,none⟩) 4 4) 4 (four n)):=⟨by rw[hw1]; exact Rw8.four w n (by omega)⟩
 clear hw1
 go_wp2_with fail
 refine (O.refsum_any (four n) _ 4 4 w1 _ (by omega) HR1.out.sl (four_byt n)).mono ?_
 rintro e w2 ⟨rfl,rfl⟩
 obtain⟨s1,hs1⟩:∃ s,sumN (four n)=s:=⟨_,rfl⟩
 have hsl1:s1<4294967296:=by rw[←hs1]; exact sumN_lt
 have HS1:=Bx.mk hs1
 rw[hs1]
 clear hs1
 go_wp2_with fail
 refine (four_blk s1 w1 hsl1).mono ?_
 rintro e w2 ⟨rfl,hw2⟩
 have HR2:Bx (Rw8 w w2 (.slice (some ⟨w.heap.size,0,none⟩) 4 4) 4 (four n)):=⟨by rw[hw2]; exact HR1.out.keep ((Ch.refl _ _).alloc _)⟩
 have HF2:Bx (Sl w2 (fun _=>True) .u8 (some ⟨w1.heap.size,0,none⟩) 4 (four s1)):=⟨by rw[hw2]; exact four4_sl s1 w1 hsl1⟩
 clear hw2 HR1
 go_wp2_with (at_builtin; refine wp_app rfl (.tmp 12) (.tmp 15) Tb rfl rfl HR2.out.own rfl HF2.out ?c1 ?c2 ?c3 ?_)
 case c1=>exact ints_cells _ _
 case c2=>omega
 case c3=>omega
 intro v3 w3 ho hg hb
 have HR3:Bx (Rw8 w w3 v3 8 (hd n)):=⟨by have:=HR2.out.app (m:=4) (ys:=four s1) ho hg hb; rw[←HS1.out] at this; exact this⟩
 clear ho hg hb HR2 HF2
 obtain⟨A3,c3,rfl,_,_⟩:=own_shape HR3.out.own
 have HP:=Bx.mk (HS.out.ch HR3.out.ch (fun _ _ _ h=>h))
 go_wp2_with (at_builtin; refine wp_app rfl (.tmp 17) (.tmp 18) Tb rfl rfl HR3.out.own rfl HP.out ?c1 ?c2 ?c3 ?_)
 case c1=>exact ints_cells _ _
 case c2=>omega
 case c3=>omega
 intro v4 w4 ho hg hb
 have HR4:=Bx.mk (HR3.out.app (m:=n) (ys:=xs) ho hg hb)
 clear ho hg hb HR3 HP
 obtain⟨A4,c4,rfl,_,_⟩:=own_shape HR4.out.own
 have HBY:Bx (Byt (hd n++xs)):=⟨fun x hx=>by
  rcases List.mem_append.1 hx with h | h
  ·exact hd_byt _ x h
  ·exact HB.out x h⟩
 go_wp2_with fail
 refine (O.refsum_any (hd n++xs) _ (8+n) c4 w4 _ (by omega) HR4.out.sl HBY.out).mono ?_
 rintro e w5 ⟨rfl,rfl⟩
 obtain⟨s2,hs2⟩:∃ s,sumN (hd n++xs)=s:=⟨_,rfl⟩
 have hsl2:s2<4294967296:=by rw[←hs2]; exact sumN_lt
 have HS2:=Bx.mk hs2
 rw[hs2]
 clear hs2
 go_wp2_with fail
 refine (four_blk s2 w4 hsl2).mono ?_
 rintro e w5 ⟨rfl,hw5⟩
 have HR5:Bx (Rw8 w w5 (.slice A4 (8+n) c4) (8+n) (hd n++xs)):=⟨by rw[hw5]; exact HR4.out.keep ((Ch.refl _ _).alloc _)⟩
 have HF5:Bx (Sl w5 (fun _=>True) .u8 (some ⟨w4.heap.size,0,none⟩) 4 (four s2)):=⟨by rw[hw5]; exact four4_sl s2 w4 hsl2⟩
 clear hw5 HR4
 go_wp2_with (at_builtin; refine wp_app rfl (.tmp 20) (.tmp 23) Tb rfl rfl HR5.out.own rfl HF5.out ?c1 ?c2 ?c3 ?_)
 case c1=>exact ints_cells _ _
 case c2=>omega
 case c3=>omega
 intro v6 w6 ho hg hb
 have hr6:=HR5.out.app (m:=4) (ys:=four s2) ho hg hb
 have HF6:Bx (Fresh w v6 (frm xs) w6):=⟨by
  rw[←HS2.out] at hr6
  have e:hd n++xs++four (sumN (hd n++xs))=frm xs:=by unfold frm; rw[HL.out]
  rw[e] at hr6
  have hlen:8+n+4=(frm xs).length:=by rw[frm_len,HL.out]; omega
  rw[hlen] at hr6
  exact hr6.fresh⟩
 clear ho hg hb HR5 HF5 hr6
 go_wp2
 go_ret2
 exact⟨v6,rfl,HF6.out⟩
end
section
open Go.RowKit Go.Oct Go.Su Go.Fr
theorem encode_long {F:Nat→Prop} (xss:List (List Int)) (A:Option Addr) (n c:Nat) (w:World) (hz:Sls w F A n xss) (hn:n≤9223372036854775806) (hL:1048576<(cat xss).length) (hU:(cat xss).length≤281474976710656) :
  Calls Tryd.prog 29 #[.slice A n c] w fun e w'=>e = .returned (.tuple #[.slice none 0 0, .int .i64 5])∧w'=w:=by
 have HL:=Bx.mk hz.len
 have HZ:=Bx.mk hz
 have HT:=Bx.mk hL
 have HU:=Bx.mk hU
 clear hz hL hU
 go_enter Tryd.func29,Tryd.ntmps29
 go_wp2_with fail
 go_loop [4,12] (fun t i=>∃ k m:Nat,k≤n∧i = .int .i64 k∧t = .int .i64 m∧m≤1048576∧Bx (m=(cat (xss.take k)).length)) (fun _ i=>n-(intOf i).toNat)
 case atStart=>exact⟨0,0,Nat.zero_le _,rfl,rfl,Nat.zero_le _,⟨rfl⟩⟩
 case round =>
  obtain⟨k,m,hk,rfl,rfl,hm1,hm⟩:=hrel
  by_cases hlt:k<n
  ·obtain⟨b,off,A',c',t,rfl,_,ex,hcell,hsl,hlc,hcm⟩:=HZ.out.at_ hlt
   have hroom:=cat_room ex.out
   have hmore:=cat_more ex.out
   obtain⟨tl,htl⟩:∃ tl,t.length=tl:=⟨_,rfl⟩
   have hmt:m+tl≤281474976710656:=by have:=hm.out; have:=HU.out; omega
   have HM:Bx (m+tl=(cat (xss.take (k+1))).length):=⟨by rw[hmore,List.length_append,hm.out,htl]⟩
   have htl2:tl≤9223372036854775807:=by omega
   rw[htl] at hcell
   clear hroom hmore htl hsl ex hm hcm hlc
   by_cases hb:1048576<m+tl
   ·have d1:decide ((1048576:Int)<(m:Int)+(tl:Int))=true:=decide_eq_true (by omega)
    go_wp2
    go_ret2
    exact⟨rfl,rfl⟩
   ·have d1:decide ((1048576:Int)<(m:Int)+(tl:Int))=false:=decide_eq_false (by omega)
    go_wp2
    go_round
    case rel=>exact⟨k+1,m+tl,by omega,by go_num,by go_num,by omega,HM⟩
    case measure=>simp[intOf]; omega
  ·obtain rfl:n=k:=by omega
   have hmN:=hm.out
   rw[List.take_of_length_le (by have:=HL.out; omega)] at hmN
   have:=HT.out
   omega
end
end Go.Proofs.YtoolcbaipinloaaDoor
