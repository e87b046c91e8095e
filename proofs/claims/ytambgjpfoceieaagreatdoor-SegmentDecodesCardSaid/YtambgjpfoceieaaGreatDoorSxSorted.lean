/- Lemmas and contracts of this proof. Conditions: said at each. -/
import Derived.Test.YtambgjpfoceieaaGreatDoorGSxLib
set_option maxHeartbeats 2000000
set_option maxRecDepth 100000
namespace Go.Proofs.YtambgjpfoceieaaGreatDoor
open Go.RowKit Go.Oct Go.Su Go.Sg
theorem srt_of_adj:∀ {l:List Key},(∀ p a b,l[p]? = some a→l[p+1]? = some b→¬ b<a)→Srt l
 | [],_=>List.Pairwise.nil
 | [a],_=>List.pairwise_singleton _ _
 | a::b::l,h=>by
  have hs:Srt (b::l):=srt_of_adj fun p x y hx hy=>h (p+1) x y (by simpa using hx) (by simpa using hy)
  have hab:¬ b<a:=h 0 a b rfl rfl
  refine List.pairwise_cons.2 ⟨fun c hc=>?_,hs⟩
  rcases List.mem_cons.1 hc with rfl | hc
  ·exact hab
  ·exact key_le_trans hab ((List.pairwise_cons.1 hs).1 c hc)
theorem adj_of_srt {l:List Key} (h:Srt l) {p:Nat} {a b:Key} (ha:l[p]? = some a) (hb:l[p+1]? = some b):¬ b<a:=by
 obtain⟨h1,e1⟩:=List.getElem?_eq_some_iff.1 ha
 obtain⟨h2,e2⟩:=List.getElem?_eq_some_iff.1 hb
 have:=List.pairwise_iff_getElem.1 h p (p+1) h1 h2 (by omega)
 rw[e1,e2] at this
 exact this
theorem drewn_more {w wr:World} (h:∃ q:Nat,wr=w.drewN q) (n:Nat):∃ q:Nat,wr.drewN n=w.drewN q:=by
 obtain⟨q,rfl⟩:=h
 exact⟨_,World.drewN_drewN ..⟩
section
variable {F:Nat→Prop}
theorem issorted_any (l:List Key) (A:Option Addr) (n c:Nat) (w:World) (hz:Kss w F A n l) (hn:n≤1048576) (o:Bool) (ho:o=true↔Srt l) :
  Calls Tryz.prog 121 #[.slice A n c] w fun e w'=>e = .returned (.bool o)∧∃ q:Nat,w'=w.drewN q:=by
 have HL:=Bx.mk hz.len
 have HZ:=Bx.mk hz
 have HO:=Bx.mk ho
 clear hz ho
 rcases Nat.eq_zero_or_pos n with h0 | h0
 ·subst h0
  have HT:Bx (true=o):=⟨(HO.out.2 (by rw[List.eq_nil_of_length_eq_zero HL.out]; exact List.Pairwise.nil)).symm⟩
  have d1:decide ((0:Int) < -1)=false:=by decide
  go_enter Tryz.func121,Tryz.ntmps121
  go_wp2_with fail
  go_loopw [3] (fun i wr=>i = .int .i64 (-1)∧Bx (∃ q:Nat,wr=w.drewN q)) (fun _ _=>0)
  case atStart=>exact⟨rfl,⟨0,rfl⟩⟩
  case round =>
   obtain⟨rfl,HC⟩:=hrel
   go_wp2
   go_ret
   exact⟨ret_bool HT.out,HC.out⟩
 ·obtain⟨m,hm⟩:∃ m,n=m+1:=⟨n-1,by omega⟩
  have g0:IntKind.i64.wrap ((n:Int)-1)=(m:Int):=by rw[IntWalk.i64_in _ (by omega)]; omega
  have g0':(n:Int)-1=(m:Int):=by omega
  have HMN:=Bx.mk hm
  have hmb:m≤1048576:=by omega
  clear hm
  go_enter Tryz.func121,Tryz.ntmps121
  go_wp2_with fail
  clear g0 g0'
  go_loopw [3] (fun i wr=>∃ k:Nat,k≤m∧i = .int .i64 k∧Bx (∃ q:Nat,wr=w.drewN q)∧Bx (∀ p a b,k≤p→l[p]? = some a→l[p+1]? = some b→¬ b<a)) (fun i _=>(intOf i).toNat)
  case atStart=>exact⟨m,Nat.le_refl _,rfl,⟨0,rfl⟩,⟨fun p a b hp ha hb=>by have:=(List.getElem?_eq_some_iff.1 hb).1; have h1:=HL.out; have h2:=HMN.out; omega⟩⟩
  case round =>
   obtain⟨k,hk,rfl,HC,hadj⟩:=hrel
   have hch:Ch (fun _=>False) w wr:=by
    obtain⟨q,e⟩:=HC.out
    rw[e]
    exact (Ch.refl _ w).drewN q
   rcases Nat.eq_zero_or_pos k with hk0 | hk0
   ·subst hk0
    have HT:Bx (true=o):=⟨(HO.out.2 (srt_of_adj fun p a b ha hb=>hadj.out p a b (Nat.zero_le _) ha hb)).symm⟩
    clear hadj hch
    go_wp2
    go_ret
    exact⟨ret_bool HT.out,HC.out⟩
   ·obtain⟨j,hj⟩:∃ j,k=j+1:=⟨k-1,by omega⟩
    have hkn:k<n:=by have:=HMN.out; omega
    have d1:decide ((0:Int)<(k:Int))=true:=decide_eq_true (by omega)
    obtain⟨bd,od,a,rfl,_,ha,hca0⟩:=HZ.out.at_ hkn
    obtain⟨b7,o7,b,hb7,_,hb,hcb0⟩:=HZ.out.at_ (show j<n by omega)
    obtain⟨rfl,rfl⟩:bd=b7∧od=o7:=by
     injection hb7 with h
     injection h with h1 h2
     exact⟨h1,h2⟩
    have hca:=hch.cell (fun h=>h) hca0
    have hcb:=hch.cell (fun h=>h) hcb0
    have hle:∀ x y:Key,Op.bytesLess (⟨x.toArray⟩:ByteArray).toList (⟨y.toArray⟩:ByteArray).toList=decide (x<y):=fun x y=>by rw[Lib.toList_data,Lib.toList_data,less_eq]
    have hab:=hle a b
    obtain⟨SA,hSA⟩:∃ S:ByteArray,(⟨a.toArray⟩:ByteArray)=S:=⟨_,rfl⟩
    obtain⟨SB,hSB⟩:∃ S:ByteArray,(⟨b.toArray⟩:ByteArray)=S:=⟨_,rfl⟩
    have hka:kv a = .string SA:=by unfold kv; rw[hSA]
    have hkb:kv b = .string SB:=by unfold kv; rw[hSB]
    rw[hka] at hca
    rw[hkb] at hcb
    rw[hSA,hSB] at hab
    have HAB:=Bx.mk hab
    have HA:=Bx.mk ha.out
    have HB:=Bx.mk hb.out
    have HJ:=Bx.mk hj
    have g1:IntKind.i64.wrap ((k:Int)-1)=(j:Int):=by rw[IntWalk.i64_in _ (by omega)]; omega
    have g1':(k:Int)-1=(j:Int):=by omega
    have g2:(j:Int)<(n:Int):=by omega
    have g3:(k:Int)<(n:Int):=by omega
    have hjm:j≤m:=by omega
    clear hch hb7 ha hb hSA hSB hka hkb hca0 hcb0 hle hab hj
    by_cases hl:a<b
    ·have HQ:Bx (∀ q:Nat,Calls Tryz.prog 135 #[.string SA, .string SB] (wr.drewN q) fun e w'=>e = .returned (.bool true)∧∃ q,w'=wr.drewN q):=⟨fun q=>(lessk_any SA SB (wr.drewN q) true (by rw[HAB.out]; exact decide_eq_true hl)).mono fun e w' hh=>⟨hh.1,q,hh.2.symm⟩⟩
     have HF:Bx (false=o):=⟨by
      cases o with
      | false=>rfl
      | true=>exact absurd hl (adj_of_srt (HO.out.1 rfl) HB.out (by rw[←HJ.out]; exact HA.out))⟩
     clear hl hadj
     go_wp2_with fail
     go_quiet ((go_at_call 135; exact HQ.out _))
     go_wp2
     go_ret
     exact⟨ret_bool HF.out,drewn_more HC.out _⟩
    ·have HQ:Bx (∀ q:Nat,Calls Tryz.prog 135 #[.string SA, .string SB] (wr.drewN q) fun e w'=>e = .returned (.bool false)∧∃ q,w'=wr.drewN q):=⟨fun q=>(lessk_any SA SB (wr.drewN q) false (by rw[HAB.out]; exact decide_eq_false hl)).mono fun e w' hh=>⟨hh.1,q,hh.2.symm⟩⟩
     have HN:Bx (∀ p x y,j≤p→l[p]? = some x→l[p+1]? = some y→¬ y<x):=⟨fun p x y hp hx hy=>by
      rcases Nat.lt_or_ge j p with h1 | h1
      ·exact hadj.out p x y (by have:=HJ.out; omega) hx hy
      ·obtain rfl:p=j:=by omega
       rw[HB.out] at hx
       rw[←HJ.out,HA.out] at hy
       injection hx with hx
       injection hy with hy
       rw[←hx,←hy]
       exact hl⟩
     clear hl hadj
     go_wp2_with fail
     go_quiet ((go_at_call 135; exact HQ.out _))
     have HCN:=Bx.mk (drewn_more HC.out nq)
     go_wp2_with fail
     go_roundw
     case rel=>exact⟨j,hjm,rfl,HCN,HN⟩
     case measure=>simp[intOf]; omega
end
end Go.Proofs.YtambgjpfoceieaaGreatDoor
