/- Lemmas and contracts of this proof. Conditions: said at each. -/
import Derived.Test.YtambgjpfoceieaaGreatDoorGBwSymb
import Derived.Test.YtambgjpfoceieaaGreatDoorGFxIndex
set_option maxHeartbeats 1000000
namespace Go.Proofs.YtambgjpfoceieaaGreatDoor.X
open Go.RowKit Go.Oct Go.Su
def Most (s:List Int) (w:World) (e:Ending) (w':World):Prop:=∃ v:Int,e = .returned (.int .i64 v)∧(∃ p,p<s.length∧gs s p=v)∧(∀ p,p<s.length→gs s p≤v)∧w=w'
section
variable {F:Nat→Prop}
theorem max_any (s:List Int) (A:Option Addr) (n c:Nat) (w:World) (hs:Sl w F .i64 A n s) (hn:n≤1048576) (h0:0<n) :
  Calls Tryz.prog 177 #[.slice A n c] w (Most s w):=by
 have HS:=Bx.mk hs
 have HL:=Bx.mk hs.len
 obtain⟨b,off,x0,rfl,_,hx,hcx⟩:=hs.at_ h0
 have hg:=gs_at hx.out
 have HG:=Bx.mk hg
 have HST:Bx ((∃ p,p<n∧gs s p=x0)∧∀ p,p<1→gs s p≤x0):=⟨⟨0,h0,hg⟩,fun p hp=>by
  obtain rfl:p=0:=by omega
  rw[hg]
  exact Int.le_refl _⟩
 rw[Nat.add_zero] at hcx
 have d1:decide ((n:Int)<1)=false:=by simp; omega
 have i0:(0:Int)<(n:Int):=by omega
 clear hs hx hg
 go_enter Tryz.func177,Tryz.ntmps177
 go_wp2_with fail
 go_loop [3,4] (fun m i=>∃ (k:Nat) (v:Int),1≤k∧k≤n∧i = .int .i64 k∧m = .int .i64 v∧Bx ((∃ p,p<n∧gs s p=v)∧∀ p,p<k→gs s p≤v)) (fun _ i=>n-(intOf i).toNat)
 case atStart=>exact⟨1,x0,Nat.le_refl _,h0,rfl,rfl,HST⟩
 case round =>
  obtain⟨k,v,hk1,hk,rfl,rfl,hM⟩:=hrel
  by_cases hlt:k<n
  ·have dk:decide ((k:Int)<(n:Int))=true:=by simp; omega
   obtain⟨b',off',y,hA,_,hy,hcy⟩:=HS.out.at_ hlt
   injection hA with hA
   injection hA with e1 e2
   subst e1 e2
   have hgy:=gs_at hy.out
   have HGY:=Bx.mk hgy
   have i1:(k:Int)<(n:Int):=by omega
   clear hy hgy
   by_cases hv:v<y
   ·have HN:Bx ((∃ p,p<n∧gs s p=y)∧∀ p,p<k+1→gs s p≤y):=⟨⟨k,hlt,HGY.out⟩,fun p hp=>by
     by_cases e:p=k
     ·rw[e,HGY.out]
      exact Int.le_refl _
     ·have:=hM.out.2 p (by omega)
      omega⟩
    clear hM
    go_wp2
    go_round
    case rel=>exact⟨k+1,y,by omega,by omega,by go_num,congrArg (Value.int .i64) (by omega),HN⟩
    case measure=>simp[intOf]; omega
   ·have HN:Bx ((∃ p,p<n∧gs s p=v)∧∀ p,p<k+1→gs s p≤v):=⟨hM.out.1,fun p hp=>by
     by_cases e:p=k
     ·rw[e,HGY.out]
      omega
     ·exact hM.out.2 p (by omega)⟩
    clear hM
    go_wp2
    go_round
    case rel=>exact⟨k+1,v,by omega,by omega,by go_num,congrArg (Value.int .i64) (by omega),HN⟩
    case measure=>simp[intOf]; omega
  ·have dk:decide ((k:Int)<(n:Int))=false:=by simp; omega
   have HN:Bx ((∃ p,p<s.length∧gs s p=v)∧∀ p,p<s.length→gs s p≤v):=⟨by
    rw[HL.out]
    exact⟨hM.out.1,fun p hp=>hM.out.2 p (by omega)⟩⟩
   clear hM
   go_wp2
   go_ret
   exact⟨v,rfl,HN.out.1,HN.out.2,rfl⟩
theorem most_le {s:List Int} {v:Int} (h1:∃ p,p<s.length∧gs s p=v) (h2:∀ p,p<s.length→gs s p≤v):(∀ x∈s,x≤257)↔v≤257:=by
 constructor
 ·intro h
  obtain⟨p,hp,rfl⟩:=h1
  exact h _ (List.mem_of_getElem? (gs_some hp))
 ·intro h x hx
  obtain⟨i,hi⟩:=List.getElem?_of_mem hx
  obtain⟨h3,_⟩:=List.getElem?_eq_some_iff.1 hi
  have:=h2 i h3
  rw[gs_at hi] at this
  omega
theorem oftexts_any (s:List Int) (A:Option Addr) (n c:Nat) (o:Bool) (w:World) (hs:Sl w F .i64 A n s) (hn:n≤1048576) (h0:0<n) (ho:o=true↔OfTxt s) :
  Calls Tryz.prog 120 #[.slice A n c] w fun e w'=>e = .returned (.bool o)∧w=w':=by
 have hmx:=max_any s A n c w hs hn h0
 have HL:=Bx.mk hs.len
 have HO:=Bx.mk ho
 have HS:=Bx.mk hs
 clear hs ho
 go_enter Tryz.func120,Tryz.ntmps120
 go_wp2_with fail
 refine hmx.mono ?_
 rintro e w' ⟨v,rfl,hv1,hv2,rfl⟩
 have HV:=Bx.mk (most_le hv1 hv2)
 clear hv1 hv2 hmx
 by_cases h257:v≤257
 ·have d1:decide (v≤257)=true:=by simpa using h257
  by_cases h1:n=1
  ·subst h1
   obtain rfl:o=true:=HO.out.2 ⟨HV.out.2 h257,by rw[HL.out]; exact .inl rfl⟩
   go_wp2
   go_ret
   exact⟨rfl,rfl⟩
  ·obtain⟨b,off,x,rfl,_,hx,hcx⟩:=HS.out.at_ (show n-2<n by omega)
   have hg:=gs_at hx.out
   have e1:((n:Int)-1==0)=false:=by simp; omega
   have e1':¬ (n:Int)-1=0:=by omega
   have e2:((n:Int)-1-1)=((n-2:Nat):Int):=by omega
   have HO2:Bx (o=(x==1)):=⟨by
    have hb:Bord s (s.length-1)↔x=1:=by
     unfold Bord
     rw[HL.out,show n-1-1=n-2 by omega,hg]
     omega
    rw[Bool.eq_iff_iff,HO.out]
    simp only[beq_iff_eq]
    exact⟨fun h=>hb.1 h.2,fun h=>⟨HV.out.2 h257,hb.2 h⟩⟩⟩
   have i0:(0:Int)≤(n:Int)-1-1:=by omega
   have i1:(n:Int)-1-1<(n:Int):=by omega
   clear hx hg
   go_wp2
   go_ret
   exact⟨ret_bool (by rw[HO2.out]),rfl⟩
 ·have d1:decide (v≤257)=false:=by simpa using h257
  have HO2:Bx (o=false):=⟨by
   cases o with
   | false=>rfl
   | true=>exact absurd (HV.out.1 (HO.out.1 rfl).1) h257⟩
  go_wp2
  go_ret
  exact⟨ret_bool HO2.out.symm,rfl⟩
def FromPost (l:List Int) (n:Nat) (w:World) (e:Ending) (w':World):Prop:=(∃ (b:Nat) (xss:List (List Int)),e = .returned (.tuple #[.pointer (some ⟨b,0,none⟩), .int .i64 0])∧n≤65536∧Turned (txt xss) l∧Ix w' (fun k=>w.heap.size≤k) b xss∧Ch (fun _=>False) w w')∨(∃ ec:Int,e = .returned (.tuple #[.pointer none, .int .i64 ec])∧((65536<n∧ec=5)∨(n≤65536∧NoTxt l∧ec=3))∧Ch (fun _=>False) w w')
theorem from_any (l:List Int) (A:Option Addr) (n c:Nat) (w:World) (hs:Sl w F .i64 A n l) (hn:n≤65536) (hc:n≤c) (hcm:c≤maxLen) (htab:W.Tab w) :
  Calls Tryz.prog 69 #[.slice A n c] w (FromPost l n w):=by
 have hbk:=back_any l A n c w hs hn
 have HS:=Bx.mk hs
 have HT:=Bx.mk htab
 clear hs htab
 go_enter Tryz.func69,Tryz.ntmps69
 go_wp2_with fail
 refine hbk.mono ?_
 rintro e w1 ⟨A1,c1,m,ec,s,rfl,hsl,hres,hC1⟩
 rcases hres with ⟨h1,_⟩ | ⟨_,h1,rfl,rfl,rfl⟩ | ⟨_,rfl,rfl,hT⟩
 ·omega
 ·have HNO:Bx (NoTxt l):=⟨fun xss _ ht=>h1 _ ht⟩
  have HC1:=Bx.mk hC1
  clear hsl hC1 hbk h1
  go_wp2
  go_returns
  exact .inr ⟨3,rfl, .inr ⟨hn,HNO.out,rfl⟩,HC1.out⟩
 ·have h0:0<m:=by rw[←hsl.len]; exact hT.closed.full
  by_cases hof:OfTxt s
  ·have hot:=oftexts_any s A1 m c1 true w1 hsl (by omega) h0 ⟨fun _=>hof,fun _=>rfl⟩
   obtain⟨xss,hb,hx⟩:=oftxt_yes hT hof
   subst hx
   obtain⟨l,rfl,hlt⟩:=turned_nats hT (txt_sym hb)
   have hix:=index_is xss (txt xss) l A1 A m c1 c w1 hsl (HS.out.ch hC1 (fun _ _ _ h=>h)) rfl hb hn hT hc hcm hlt (HT.out.keep hC1)
   have HTT:=Bx.mk hT
   have HC1:=Bx.mk hC1
   clear hsl hC1 hbk hof hb hlt hT
   go_wp2_with fail
   refine hot.mono ?_
   rintro e w' ⟨rfl,rfl⟩
   clear hot
   go_wp2_with fail
   refine hix.mono ?_
   rintro e w3 ⟨b,rfl,hI,hC3⟩
   have HI:=Bx.mk (hI.mono (G:=fun k=>w.heap.size≤k) (fun k _ (h:w1.heap.size≤k)=>by have:=HC1.out.size; omega))
   have HC3:=Bx.mk (HC1.out.trans hC3 (fun _ _ h=>h))
   clear hI hC3 hix
   go_wp2
   go_returns
   exact .inl ⟨b,xss,rfl,hn,HTT.out,HI.out,HC3.out⟩
  ·have hot:=oftexts_any s A1 m c1 false w1 hsl (by omega) h0 ⟨fun h=>(by cases h),fun h=>absurd h hof⟩
   have HNO:=Bx.mk (oftxt_no hT hof)
   have HC1:=Bx.mk hC1
   clear hsl hC1 hbk hof hT
   go_wp2_with fail
   refine hot.mono ?_
   rintro e w' ⟨rfl,rfl⟩
   clear hot
   go_wp2
   go_returns
   exact .inr ⟨3,rfl, .inr ⟨hn,HNO.out,rfl⟩,HC1.out⟩
end
end Go.Proofs.YtambgjpfoceieaaGreatDoor.X
