/- Lemmas and contracts of this proof. Conditions: said at each. -/
import Derived.Test.YtambgjpfoceieaaGreatDoorGFmFrom
import Derived.Test.YtambgjpfoceieaaGreatDoorGSgWords
import Derived.WalkLawsBesides
import Derived.Lib.Strings
import Derived.Deep.RegionLaw
set_option maxHeartbeats 4000000
set_option maxRecDepth 100000
namespace Go.Proofs.YtambgjpfoceieaaGreatDoor
section
open Go.RowKit Go.Oct Go.Su Go.Sg
theorem elemS:Elem Tryz.prog 23 9 (.string ByteArray.empty) 16:=⟨Tryz.underlying23,by kernel_rfl,rfl⟩
theorem own_s0 (w:World) (e:TypeId):(w.alloc (.cells #[] e)).ownsRow 0 e 1 (.slice (some ⟨w.heap.size,0,none⟩) 0 0) 0 []:=World.ownsRow_made w #[] 0 (Nat.zero_le _) (by unfold maxLen; omega) rfl
theorem gs_s0 (w:World) (e:TypeId):Gs e 1 w (w.alloc (.cells #[] e)) (.slice (some ⟨w.heap.size,0,none⟩) 0 0) 0 []:=⟨own_s0 w _,fun g hg=>by simp[Value.ownBlock] at hg; omega,(Ch.refl _ _).alloc _⟩
theorem Gs.app0 {e:TypeId} {s m:Nat} {w wm w2:World} {v v':Value} {news:List Value} (h:Gs e s w wm v 0 []) (ho:w2.ownsRow 0 e s v' m news) (hg:wm.grownBy w2 v.ownBlock) (hb:v'.ownBlock=v.ownBlock∨v'.ownBlock=some wm.heap.size):Gs e s w w2 v' m news:=by
 have:=h.app (m:=m) (news:=news) (Ch.refl _ _) (by simpa using ho) hg hb
 simpa using this
def SortedK (l:List Key) (n:Nat) (w:World) (e:Ending) (w':World):Prop:=∃ (A:Option Addr) (c:Nat) (m:List Key),e = .returned (.slice A n c)∧Srt m∧m.Perm l∧Gs 9 1 w w' (.slice A n c) n (m.map kv)∧n≤c∧c≤maxLen
theorem srt_small {l:List Key} (h:l.length<2):Srt l:=by
 match l,h with
 | [],_=>exact List.Pairwise.nil
 | [x],_=>exact List.pairwise_singleton _ _
theorem less_eq (x:List UInt8):∀ y:List UInt8,Op.bytesLess x y=decide (x<y):=by
 induction x with
 | nil=>intro y; cases y <;> simp[Op.bytesLess]
 | cons a x ih =>
  intro y
  cases y with
  | nil=>simp[Op.bytesLess]
  | cons b y =>
   unfold Op.bytesLess
   rw[ih y,Bool.eq_iff_iff]
   simp only[List.cons_lt_cons_iff,Bool.or_eq_true,Bool.and_eq_true,decide_eq_true_eq,beq_iff_eq]
theorem leq_iff (a b:Key):(Op.bytesLess (⟨a.toArray⟩:ByteArray).toList (⟨b.toArray⟩:ByteArray).toList||(⟨a.toArray⟩:ByteArray).toList==(⟨b.toArray⟩:ByteArray).toList)=decide (¬b<a):=by
 rw[less_eq,Lib.toList_data,Lib.toList_data]
 rw[Bool.eq_iff_iff]
 simp only[Bool.or_eq_true,decide_eq_true_eq,beq_iff_eq]
 constructor
 ·rintro (h | h)
  ·exact key_le_of_lt h
  ·rw[h]; exact key_irrefl _
 ·intro h
  rcases key_tri a b with h1 | h1 | h1
  ·exact .inl h1
  ·exact .inr h1
  ·exact absurd h1 h
def slen:Value→Nat
 | .slice _ n _=>n
 | _=>0
structure Mr (l:List Key) (n:Nat) (w3 wr:World) (x y o:Value) (n1 c1 n2 c2 q:Nat) (A1 A2:Option Addr) (X Y out:List Key):Prop where
 ex:x = .slice A1 n1 c1
 ey:y = .slice A2 n2 c2
 kx:Kss w3 (fun _=>True) A1 n1 X
 ky:Kss w3 (fun _=>True) A2 n2 Y
 l1:n1≤c1
 m1:c1≤9223372036854775807
 l2:n2≤c2
 m2:c2≤9223372036854775807
 sum:q+n1+n2=n
 gs:Gs 9 1 w3 wr o q (out.map kv)
 mg:Mrg l out X Y
theorem Mr.left {l:List Key} {n n1 c1 n2 c2 q:Nat} {w3 wr wq w5:World} {x y o o':Value} {A1 A2 A1':Option Addr} {X Y out:List Key} {a:Key} {c1':Nat} (h:Mr l n w3 wr x y o (n1+1) c1 n2 c2 q A1 A2 (a::X) Y out) (hY:∀ b∈Y,¬b<a)
  (hq:Ch (fun _=>False) wr wq) (ho:w5.ownsRow 0 9 1 o' (q+1) (out.map kv++[kv a])) (hg:wq.grownBy w5 o.ownBlock) (hb:o'.ownBlock=o.ownBlock∨o'.ownBlock=some wq.heap.size)
  (hA:∃ b f,A1=some ⟨b,f,none⟩∧(A1'=some ⟨b,f+1,none⟩∨n1=0)) (hc:n1≤c1') (hcm:c1'≤9223372036854775807):Mr l n w3 w5 (.slice A1' n1 c1') y o' n1 c1' n2 c2 (q+1) A1' A2 X Y (out++[a]):=by
 have hk:Kss w3 (fun _=>True) A1' n1 X:=by
  obtain⟨b,f,rfl,h1⟩:=hA
  rcases h1 with rfl | rfl
  ·simpa using h.kx.drop (k:=1) (by omega)
  ·obtain rfl:X=[]:=by have:=h.kx.len; simpa using this
   exact Kss.nil _ _ _
 exact⟨rfl,h.ey,hk,h.ky,hc,hcm,h.l2,h.m2,by have:=h.sum; omega,by rw[List.map_append]; exact h.gs.app hq ho hg hb,h.mg.left hY⟩
theorem Mr.right {l:List Key} {n n1 c1 n2 c2 q:Nat} {w3 wr wq w5:World} {x y o o':Value} {A1 A2 A2':Option Addr} {X Y out:List Key} {a:Key} {c2':Nat} (h:Mr l n w3 wr x y o n1 c1 (n2+1) c2 q A1 A2 X (a::Y) out) (hX:∀ b∈X,¬b<a)
  (hq:Ch (fun _=>False) wr wq) (ho:w5.ownsRow 0 9 1 o' (q+1) (out.map kv++[kv a])) (hg:wq.grownBy w5 o.ownBlock) (hb:o'.ownBlock=o.ownBlock∨o'.ownBlock=some wq.heap.size)
  (hA:∃ b f,A2=some ⟨b,f,none⟩∧(A2'=some ⟨b,f+1,none⟩∨n2=0)) (hc:n2≤c2') (hcm:c2'≤9223372036854775807):Mr l n w3 w5 x (.slice A2' n2 c2') o' n1 c1 n2 c2' (q+1) A1 A2' X Y (out++[a]):=by
 have hk:Kss w3 (fun _=>True) A2' n2 Y:=by
  obtain⟨b,f,rfl,h1⟩:=hA
  rcases h1 with rfl | rfl
  ·simpa using h.ky.drop (k:=1) (by omega)
  ·obtain rfl:Y=[]:=by have:=h.ky.len; simpa using this
   exact Kss.nil _ _ _
 exact⟨h.ex,rfl,h.kx,hk,h.l1,h.m1,hc,hcm,by have:=h.sum; omega,by rw[List.map_append]; exact h.gs.app hq ho hg hb,h.mg.right hX⟩
theorem Mr.hx {l:List Key} {n n1 c1 n2 c2 q:Nat} {w3 wr:World} {x y o:Value} {A1 A2:Option Addr} {X Y out:List Key} (h:Mr l n w3 wr x y o (n1+1) c1 n2 c2 q A1 A2 X Y out):∃ b f a X',A1=some ⟨b,f,none⟩∧X=a::X'∧wr.cell? ⟨b,f,none⟩=some (kv a):=by
 obtain⟨b,f,k,e,_,hk,hc⟩:=(h.kx.ch h.gs.ch (fun _ _ _ h=>h)).at_ (j:=0) (by omega)
 have hk:=hk.out
 cases X with
 | nil=>simp at hk
 | cons a X =>
  simp at hk
  subst hk
  exact⟨b,f,a,X,e,rfl,by simpa using hc⟩
theorem Mr.hy {l:List Key} {n n1 c1 n2 c2 q:Nat} {w3 wr:World} {x y o:Value} {A1 A2:Option Addr} {X Y out:List Key} (h:Mr l n w3 wr x y o n1 c1 (n2+1) c2 q A1 A2 X Y out):∃ b f a Y',A2=some ⟨b,f,none⟩∧Y=a::Y'∧wr.cell? ⟨b,f,none⟩=some (kv a):=by
 obtain⟨b,f,k,e,_,hk,hc⟩:=(h.ky.ch h.gs.ch (fun _ _ _ h=>h)).at_ (j:=0) (by omega)
 have hk:=hk.out
 cases Y with
 | nil=>simp at hk
 | cons a Y =>
  simp at hk
  subst hk
  exact⟨b,f,a,Y,e,rfl,by simpa using hc⟩
section
variable {F:Nat→Prop}
theorem refsorted_any:∀ (f:Nat) (l:List Key) (A:Option Addr) (n c:Nat) (w:World) (F:Nat→Prop),l.length≤f→Kss w F A n l→n≤c→c≤maxLen→n≤1048576 →
  Calls Tryz.prog 50 #[.slice A n c] w (SortedK l n w):=by
 intro f
 induction f with
 | zero =>
  intro l A n c w F hf hs hc hcm hn
  obtain rfl:l=[]:=List.eq_nil_of_length_eq_zero (by omega)
  have hn0:n=0:=hs.len.symm
  subst hn0
  have HS:=Bx.mk (hs.alloc (.cells #[] 9))
  have HG:=Bx.mk (gs_s0 w 9)
  clear hs hcm
  go_enter Tryz.func50,Tryz.ntmps50
  go_wp2_with (at_builtin; refine wp_app rfl (.tmp 9) (.tmp 10) elemS rfl rfl HG.out.own rfl HS.out ?c1 ?c2 ?c3 ?_)
  case c1=>exact kv_cells _
  case c2=>omega
  case c3=>omega
  intro v1 w1 ho1 hg1 hb1
  have hG1:=HG.out.app0 ho1 hg1 (by rw[World.size_alloc]; exact hb1)
  obtain⟨A1,c1,rfl,h1,h2⟩:=hG1.shape
  have HG1:=Bx.mk hG1
  clear ho1 hg1 hb1 hG1
  go_wp2
  go_ret
  exact⟨A1,c1,[],rfl,List.Pairwise.nil,List.Perm.refl _,HG1.out,h1,h2⟩
 | succ f ih =>
  intro l A n c w F hf hs hc hcm hn
  have hl:l.length=n:=hs.len
  have HIH:=Bx.mk ih
  have HCM:=Bx.mk hcm
  have HF:=Bx.mk hf
  have HL:=Bx.mk hl
  clear ih hcm hf
  by_cases h2:n<2
  ·have HS:=Bx.mk (hs.alloc (.cells #[] 9))
   have HG:=Bx.mk (gs_s0 w 9)
   clear hs hl
   go_enter Tryz.func50,Tryz.ntmps50
   go_wp2_with (at_builtin; refine wp_app rfl (.tmp 9) (.tmp 10) elemS rfl rfl HG.out.own rfl HS.out ?c1 ?c2 ?c3 ?_)
   case c1=>exact kv_cells _
   case c2=>omega
   case c3=>omega
   intro v1 w1 ho1 hg1 hb1
   have hG1:=HG.out.app0 ho1 hg1 (by rw[World.size_alloc]; exact hb1)
   obtain⟨A1,c1,rfl,h1,h3⟩:=hG1.shape
   have HG1:=Bx.mk hG1
   clear ho1 hg1 hb1 hG1
   go_wp2
   go_ret
   exact⟨A1,c1,l,rfl,srt_small (by have:=HL.out; omega),List.Perm.refl _,HG1.out,h1,h3⟩
  ·obtain⟨b0,o0,x0,rfl,_,_,_⟩:=hs.at_ (j:=0) (by omega)
   obtain⟨k,hk⟩:∃ k,n/2=k:=⟨_,rfl⟩
   obtain⟨m,hm⟩:∃ m,n-k=m:=⟨_,rfl⟩
   have hkn:k+m=n:=by omega
   have hk1:1≤k∧1≤m∧k≤f∧m≤f:=by have:=HF.out; omega
   have HS1:=Bx.mk (hs.take (k:=k) (by omega))
   have hs2:=hs.drop (k:=k) (by omega)
   rw[hm] at hs2
   have HS2:=Bx.mk hs2
   have hlen1:(l.take k).length=k:=by rw[List.length_take]; omega
   have hlen2:(l.drop k).length=m:=by rw[List.length_drop]; omega
   have HPL:Bx ((l.take k++l.drop k)=l):=⟨List.take_append_drop _ _⟩
   generalize l.take k=L1 at *
   generalize l.drop k=L2 at *
   have HF1:Bx (L1.length≤f):=⟨by omega⟩
   have HF2:Bx (L2.length≤f):=⟨by omega⟩
   have HL1:=Bx.mk hlen1
   have HL2:=Bx.mk hlen2
   have hq2:(n:Int)/2=(k:Int):=by omega
   have hcn:(c:Int)-(k:Int)=((c-k:Nat):Int):=by omega
   clear hs hs2 hlen1 hlen2 hl hk hm
   go_enter Tryz.func50,Tryz.ntmps50
   have hk1c:k≤c:=by omega
   have hmc:m≤c-k:=by omega
   have hcm2:c-k≤maxLen:=by have:=HCM.out; omega
   have hA:=HIH.out L1 (some ⟨b0,o0,none⟩) k c w.drew F HF1.out HS1.out hk1c HCM.out (by omega)
   have hB:=fun (w2:World) (h2:Ch (fun _=>False) w w2)=>HIH.out L2 (some ⟨b0,o0+k,none⟩) m (c-k) w2 F HF2.out (HS2.out.ch h2 (fun _ _ _ h=>h)) hmc hcm2 (by omega)
   have HA:=Bx.mk hA
   have HB:=Bx.mk hB
   clear hA hB
   have g1:Int.tdiv (n:Int) 2=(k:Int):=by rw[Int.tdiv_eq_ediv_of_nonneg (by omega)]; omega
   have g1':IntKind.i64.wrap (k:Int)=(k:Int):=IntWalk.i64_in _ (by omega)
   have g2:(0:Int)≤(k:Int):=by omega
   have g3:(k:Int)≤(n:Int):=by omega
   have g4:(k:Int)≤(c:Int):=by omega
   have g5:(n:Int)≤(c:Int):=by omega
   have g6:n-k=m:=by omega
   have g7:¬ c=k:=by omega
   have g8:¬ (c:Int)=(k:Int):=by omega
   go_wp2_with fail
   go_region_held3 (fun w'=>True) (first | go_keep | trivial) (first | (go_at_call 50; (with_reducible refine HA.out.mono ?_); rintro e w2 ⟨A1,c1,m1,rfl,hm1,hp1,hG1,hc1,hd1⟩; have hcc:Ch (fun _=>False) w w2:=((Ch.refl _ w).drew).trans hG1.ch (fun _ _ h=>h)) | (go_at_call 50; (with_reducible refine (HB.out _ hcc).mono ?_); rintro e w3 ⟨A2,c2,m2,rfl,hm2,hp2,hG2,hc2,hd2⟩))
   have hp12:(m1++m2).Perm l:=(hp1.append hp2).trans (by rw[HPL.out])
   have HM:=Bx.mk (Mrg.start hm1 hm2 hp12)
   have HK1:Bx (Kss w3 (fun _=>True) A1 k m1):=⟨(Kss.mono hG1.vs (fun _ _ _=>trivial)).ch hG2.ch (fun _ _ _ h=>h)⟩
   have HK2:Bx (Kss w3 (fun _=>True) A2 m m2):=⟨Kss.mono hG2.vs (fun _ _ _=>trivial)⟩
   have HC3:=Bx.mk (hcc.trans hG2.ch (fun _ _ h=>h))
   have hd1':c1≤9223372036854775807:=by unfold maxLen at hd1; omega
   have hd2':c2≤9223372036854775807:=by unfold maxLen at hd2; omega
   clear hG1 hG2 hcc hp1 hp2 hp12 hm1 hm2 g1 g1' hd1 hd2 g2 g3 g4 g5 g6 g7 g8 HA HB hq2 hcn
   go_wp2_with fail
   go_loopw [3,4,5] (fun x y o wr=>∃ (n1 c1 n2 c2 q:Nat) (A1 A2:Option Addr) (X Y out:List Key),Mr l n w3 wr x y o n1 c1 n2 c2 q A1 A2 X Y out) (fun x y _ _=>slen x+slen y)
   case atStart=>exact⟨k,c1,m,c2,0,A1,A2,m1,m2,[],rfl,rfl,HK1.out,HK2.out,by omega,by omega,by omega,by omega,by omega,Gs.nil _ _ _,HM.out⟩
   case round =>
    obtain⟨n1,d1,n2,d2,q,B1,B2,X,Y,out,hM⟩:=hrel
    obtain rfl:=hM.ex
    obtain rfl:=hM.ey
    by_cases h1:0<n1
    ·obtain⟨n1,rfl⟩:∃ k,n1=k+1:=⟨n1-1,by omega⟩
     obtain⟨b1,f1,a,X,rfl,rfl,hcx⟩:=hM.hx
     by_cases h3:0<n2
     ·obtain⟨n2,rfl⟩:∃ k,n2=k+1:=⟨n2-1,by omega⟩
      obtain⟨b2,f2,b,Y,rfl,rfl,hcy⟩:=hM.hy
      have hl1:=hM.l1
      have hm1:=hM.m1
      have hl2:=hM.l2
      have hm2:=hM.m2
      have hsum:q+1≤1048576:=by have:=hM.sum; omega
      have HMM:=Bx.mk hM
      have HCX:=Bx.mk hcx
      have HCY:=Bx.mk hcy
      have hle:=leq_iff a b
      obtain⟨S1,hS1⟩:∃ S,kv a = .string S:=⟨_,rfl⟩
      obtain⟨S2,hS2⟩:∃ S,kv b = .string S:=⟨_,rfl⟩
      obtain rfl:(⟨a.toArray⟩:ByteArray)=S1:=by unfold kv at hS1; injection hS1
      obtain rfl:(⟨b.toArray⟩:ByteArray)=S2:=by unfold kv at hS2; injection hS2
      obtain⟨S1,e1⟩:∃ S:ByteArray,(⟨a.toArray⟩:ByteArray)=S:=⟨_,rfl⟩
      obtain⟨S2,e2⟩:∃ S:ByteArray,(⟨b.toArray⟩:ByteArray)=S:=⟨_,rfl⟩
      rw[e1] at hle hS1
      rw[e2] at hle hS2
      have g1:wr.cell? ⟨b1,f1,none⟩=some (.string S1):=by rw[←hS1]; exact hcx
      have g2:wr.cell? ⟨b2,f2,none⟩=some (.string S2):=by rw[←hS2]; exact hcy
      clear hM hcx hcy e1 e2
      have e1:decide ((0:Int)<((n1+1:Nat):Int))=true:=decide_eq_true (by omega)
      have e2:decide ((0:Int)<((n2+1:Nat):Int))=true:=decide_eq_true (by omega)
      have e3:decide (0<n1+1)=true:=by simp
      have e4:decide (0<n2+1)=true:=by simp
      have e5:(((n2+1:Nat):Int)==0)=false:=beq_false_of_ne (by omega)
      by_cases hab:b<a
      ·have hle2:(Op.bytesLess S1.toList S2.toList||S1.toList==S2.toList)=false:=by rw[hle]; simp[hab]
       clear hle
       have HAB:=Bx.mk hab
       clear hab
       go_wp2_with fail
       go_quiet (fail)
       generalize hwq:World.drewN wr nq=wq
       have HQ:Bx (Ch (fun _=>False) wr wq):=⟨by rw[←hwq]; exact (Ch.refl _ _).drewN nq⟩
       have hcq:wq.cell? ⟨b2,f2,none⟩=some (kv b):=by rw[←hwq]; exact HCY.out
       have HO:=Bx.mk (HQ.out.own HMM.out.gs.own (fun _ _ h=>h))
       have HKV:kv b = .string S2:=hS2
       rw[HKV] at hcq
       clear hwq
       go_wp2_with (at_builtin; refine wp_app rfl (.tmp 57) (.tmp 61) elemS rfl rfl (HO.out.alloc _) rfl (Vs.one _ _ _) ?c1 ?c2 ?c3 ?_)
       case c1=>intro u hu; simp at hu; subst hu; rfl
       case c2=>omega
       case c3=>omega
       intro v5 w5 ho1 hg1 hb1
       have HN:Bx (∀ (A':Option Addr) (c':Nat),(A'=some ⟨b2,f2+1,none⟩∨n2=0)→n2≤c'→c'≤9223372036854775807→Mr l n w3 w5 (.slice (some ⟨b1,f1,none⟩) (n1+1) d1) (.slice A' n2 c') v5 (n1+1) d1 n2 c' (q+1) (some ⟨b1,f1,none⟩) A' (a::X) Y (out++[b])):=⟨fun A' c' hA h1 h2=>HMM.out.right (srt_head HMM.out.mg.sx (key_le_of_lt HAB.out)) (HQ.out.alloc _) (by rw[HKV]; exact ho1) hg1 (by rw[World.size_alloc]; exact hb1) ⟨b2,f2,rfl,hA⟩ h1 h2⟩
       clear ho1 hg1 hb1
       by_cases hcap:d2=1
       ·subst hcap
        obtain rfl:n2=0:=by omega
        have HN2:=Bx.mk (HN.out (some ⟨b2,f2,none⟩) 0 (.inr rfl) (Nat.le_refl _) (by omega))
        clear HN
        go_wp2
        go_roundw
        case rel=>exact⟨_,_,_,_,_,_,_,_,_,_,HN2.out⟩
        case measure=>simp[slen]
       ·have HN2:=Bx.mk (HN.out (some ⟨b2,f2+1,none⟩) (d2-1) (.inl rfl) (by omega) (by omega))
        clear HN
        go_wp2
        go_roundw
        case rel=>exact⟨_,_,_,_,_,_,_,_,_,_,HN2.out⟩
        case measure=>simp[slen]
      ·have hle2:(Op.bytesLess S1.toList S2.toList||S1.toList==S2.toList)=true:=by rw[hle]; simp[hab]
       clear hle
       have HAB:=Bx.mk hab
       clear hab
       go_wp2_with fail
       go_quiet (fail)
       generalize hwq:World.drewN wr nq=wq
       have HQ:Bx (Ch (fun _=>False) wr wq):=⟨by rw[←hwq]; exact (Ch.refl _ _).drewN nq⟩
       have hcq:wq.cell? ⟨b1,f1,none⟩=some (kv a):=by rw[←hwq]; exact HCX.out
       have HO:=Bx.mk (HQ.out.own HMM.out.gs.own (fun _ _ h=>h))
       have HKV:kv a = .string S1:=hS1
       rw[HKV] at hcq
       clear hwq
       go_wp2_with (at_builtin; refine wp_app rfl (.tmp 49) (.tmp 53) elemS rfl rfl (HO.out.alloc _) rfl (Vs.one _ _ _) ?c1 ?c2 ?c3 ?_)
       case c1=>intro u hu; simp at hu; subst hu; rfl
       case c2=>omega
       case c3=>omega
       intro v5 w5 ho1 hg1 hb1
       have HN:Bx (∀ (A':Option Addr) (c':Nat),(A'=some ⟨b1,f1+1,none⟩∨n1=0)→n1≤c'→c'≤9223372036854775807→Mr l n w3 w5 (.slice A' n1 c') (.slice (some ⟨b2,f2,none⟩) (n2+1) d2) v5 n1 c' (n2+1) d2 (q+1) A' (some ⟨b2,f2,none⟩) X (b::Y) (out++[a])):=⟨fun A' c' hA h1 h2=>HMM.out.left (srt_head HMM.out.mg.sy HAB.out) (HQ.out.alloc _) (by rw[HKV]; exact ho1) hg1 (by rw[World.size_alloc]; exact hb1) ⟨b1,f1,rfl,hA⟩ h1 h2⟩
       clear ho1 hg1 hb1
       by_cases hcap:d1=1
       ·subst hcap
        obtain rfl:n1=0:=by omega
        have HN2:=Bx.mk (HN.out (some ⟨b1,f1,none⟩) 0 (.inr rfl) (Nat.le_refl _) (by omega))
        clear HN
        go_wp2
        go_roundw
        case rel=>exact⟨_,_,_,_,_,_,_,_,_,_,HN2.out⟩
        case measure=>simp[slen]
       ·have HN2:=Bx.mk (HN.out (some ⟨b1,f1+1,none⟩) (d1-1) (.inl rfl) (by omega) (by omega))
        clear HN
        go_wp2
        go_roundw
        case rel=>exact⟨_,_,_,_,_,_,_,_,_,_,HN2.out⟩
        case measure=>simp[slen]
     ·have hl2:=hM.l2
      have hm2:=hM.m2
      have hl1:=hM.l1
      have hm1:=hM.m1
      have hsum:q+1≤1048576:=by have:=hM.sum; omega
      have hY:Y=[]:=List.eq_nil_of_length_eq_zero (by rw[hM.ky.len]; omega)
      subst hY
      have q1:decide ((0:Int)<(n2:Int))=false:=decide_eq_false (by omega)
      have q2:decide (0<n2)=false:=decide_eq_false (by omega)
      have q3:((n2:Int)==0)=true:=by simp; omega
      have HMM:=Bx.mk hM
      have HCX:=Bx.mk hcx
      obtain⟨S1,hS1⟩:∃ S,kv a = .string S:=⟨_,rfl⟩
      clear hM hcx h1 h3
      have e1:decide ((0:Int)<((n1+1:Nat):Int))=true:=decide_eq_true (by omega)
      have e3:decide (0<n1+1)=true:=by simp
      go_wp2_with fail
      go_quiet (fail)
      generalize hwq:World.drewN wr nq=wq
      have HQ:Bx (Ch (fun _=>False) wr wq):=⟨by rw[←hwq]; exact (Ch.refl _ _).drewN nq⟩
      have hcq:wq.cell? ⟨b1,f1,none⟩=some (kv a):=by rw[←hwq]; exact HCX.out
      have HO:=Bx.mk (HQ.out.own HMM.out.gs.own (fun _ _ h=>h))
      have HKV:kv a = .string S1:=hS1
      rw[HKV] at hcq
      clear hwq
      go_wp2_with (at_builtin; refine wp_app rfl (.tmp 49) (.tmp 53) elemS rfl rfl (HO.out.alloc _) rfl (Vs.one _ _ _) ?c1 ?c2 ?c3 ?_)
      case c1=>intro u hu; simp at hu; subst hu; rfl
      case c2=>omega
      case c3=>omega
      intro v5 w5 ho1 hg1 hb1
      have HN:Bx (∀ (A':Option Addr) (c':Nat),(A'=some ⟨b1,f1+1,none⟩∨n1=0)→n1≤c'→c'≤9223372036854775807→Mr l n w3 w5 (.slice A' n1 c') (.slice B2 n2 d2) v5 n1 c' n2 d2 (q+1) A' B2 X [] (out++[a])):=⟨fun A' c' hA h1 h2=>HMM.out.left (fun b hb=>by simp at hb) (HQ.out.alloc _) (by rw[HKV]; exact ho1) hg1 (by rw[World.size_alloc]; exact hb1) ⟨b1,f1,rfl,hA⟩ h1 h2⟩
      clear ho1 hg1 hb1
      by_cases hcap:d1=1
      ·subst hcap
       obtain rfl:n1=0:=by omega
       have HN2:=Bx.mk (HN.out (some ⟨b1,f1,none⟩) 0 (.inr rfl) (Nat.le_refl _) (by omega))
       clear HN
       go_wp2
       go_roundw
       case rel=>exact⟨_,_,_,_,_,_,_,_,_,_,HN2.out⟩
       case measure=>simp[slen]
      ·have HN2:=Bx.mk (HN.out (some ⟨b1,f1+1,none⟩) (d1-1) (.inl rfl) (by omega) (by omega))
       clear HN
       go_wp2
       go_roundw
       case rel=>exact⟨_,_,_,_,_,_,_,_,_,_,HN2.out⟩
       case measure=>simp[slen]
    ·by_cases h3:0<n2
     ·obtain⟨n2,rfl⟩:∃ k,n2=k+1:=⟨n2-1,by omega⟩
      obtain⟨b2,f2,b,Y,rfl,rfl,hcy⟩:=hM.hy
      have hl2:=hM.l2
      have hm2:=hM.m2
      have hsum:q+1≤1048576:=by have:=hM.sum; omega
      have hX:X=[]:=List.eq_nil_of_length_eq_zero (by rw[hM.kx.len]; omega)
      subst hX
      have q1:decide ((0:Int)<(n1:Int))=false:=decide_eq_false (by omega)
      have q2:decide (0<n1)=false:=decide_eq_false (by omega)
      have HMM:=Bx.mk hM
      have HCY:=Bx.mk hcy
      clear h1 h3
      obtain⟨S2,hS2⟩:∃ S,kv b = .string S:=⟨_,rfl⟩
      clear hM hcy
      obtain⟨N2,hN2⟩:∃ N,N=n2+1:=⟨_,rfl⟩
      rw[←hN2]
      have e2:decide ((0:Int)<(N2:Int))=true:=decide_eq_true (by omega)
      have e4:decide (0<N2)=true:=decide_eq_true (by omega)
      have e5:((N2:Int)==0)=false:=beq_false_of_ne (by omega)
      have HSB:Bx (N2-1=n2):=⟨by omega⟩
      have e6:1≤N2∧N2≤d2:=by omega
      have e7:(1:Int)≤(N2:Int):=by omega
      clear hN2
      go_wp2_with fail
      go_quiet (fail)
      generalize hwq:World.drewN wr nq=wq
      have HQ:Bx (Ch (fun _=>False) wr wq):=⟨by rw[←hwq]; exact (Ch.refl _ _).drewN nq⟩
      have hcq:wq.cell? ⟨b2,f2,none⟩=some (kv b):=by rw[←hwq]; exact HCY.out
      have HO:=Bx.mk (HQ.out.own HMM.out.gs.own (fun _ _ h=>h))
      have HKV:kv b = .string S2:=hS2
      rw[HKV] at hcq
      clear hwq
      go_wp2_with (at_builtin; refine wp_app rfl (.tmp 57) (.tmp 61) elemS rfl rfl (HO.out.alloc _) rfl (Vs.one _ _ _) ?c1 ?c2 ?c3 ?_)
      case c1=>intro u hu; simp at hu; subst hu; rfl
      case c2=>omega
      case c3=>omega
      intro v5 w5 ho1 hg1 hb1
      have HN:Bx (∀ (A':Option Addr) (c':Nat),(A'=some ⟨b2,f2+1,none⟩∨n2=0)→n2≤c'→c'≤9223372036854775807→Mr l n w3 w5 (.slice B1 n1 d1) (.slice A' n2 c') v5 n1 d1 n2 c' (q+1) B1 A' [] Y (out++[b])):=⟨fun A' c' hA h1 h2=>HMM.out.right (fun b hb=>by simp at hb) (HQ.out.alloc _) (by rw[HKV]; exact ho1) hg1 (by rw[World.size_alloc]; exact hb1) ⟨b2,f2,rfl,hA⟩ h1 h2⟩
      clear ho1 hg1 hb1
      have hsb:=HSB.out
      by_cases hcap:d2=1
      ·subst hcap
       obtain rfl:n2=0:=by omega
       have HN2:=Bx.mk (HN.out (some ⟨b2,f2,none⟩) 0 (.inr rfl) (Nat.le_refl _) (by omega))
       clear HN
       go_wp2
       go_roundw
       case rel=>exact⟨_,_,_,_,_,_,_,_,_,_,HN2.out⟩
       case measure=>simp[slen]; omega
      ·have HN2:=Bx.mk (HN.out (some ⟨b2,f2+1,none⟩) (d2-1) (.inl rfl) (by omega) (by omega))
       clear HN
       go_wp2
       go_roundw
       case rel=>exact⟨_,_,_,_,_,_,_,_,_,_,HN2.out⟩
       case measure=>simp[slen]; omega
     ·obtain rfl:n1=0:=by omega
      obtain rfl:n2=0:=by omega
      have hl1:=hM.l1
      have hm1:=hM.m1
      have hl2:=hM.l2
      have hm2:=hM.m2
      have hX:X=[]:=List.eq_nil_of_length_eq_zero hM.kx.len
      have hY:Y=[]:=List.eq_nil_of_length_eq_zero hM.ky.len
      subst hX hY
      obtain⟨d1,d2⟩:=hM.mg.done
      obtain⟨A5,c5,rfl,d3,d4⟩:=hM.gs.shape
      obtain rfl:q=n:=by have:=hM.sum; omega
      have HG:=Bx.mk hM.gs
      clear hM
      go_wp2
      go_ret
      exact⟨A5,c5,out,rfl,d1,d2,⟨HG.out.own,fun g hg=>Nat.le_trans HC3.out.size (HG.out.lies g hg),HC3.out.trans HG.out.ch (fun _ _ h=>h)⟩,d3,d4⟩
end
end
section
open Go.RowKit Go.Oct Go.Su Go.Sg
def Rs (w:World) (F:Nat→Prop) (b:Nat) (ds:List Dc) (gs:List Key):Prop:=∃ A c B d,w.cell? ⟨b,0,none⟩=some (.slice A ds.length c)∧w.cell? ⟨b,1,none⟩=some (.slice B gs.length d)∧Dcs w F A ds.length ds∧Kss w F B gs.length gs∧ds.length≤c∧c≤9223372036854775807∧gs.length≤d∧d≤9223372036854775807∧F b
section
variable {w w':World} {F G S:Nat→Prop} {b:Nat} {ds:List Dc} {gs:List Key}
theorem Rs.ch (h:Rs w F b ds gs) (hc:Ch S w w') (hF:∀ b,F b→b<w.heap.size→¬ S b):Rs w' F b ds gs:=by
 obtain⟨A,c,B,d,h1,h2,h3,h4,h5,h6,h7,h8,h9⟩:=h
 have hb:=hF b h9 (lt_of_cell h1)
 exact⟨A,c,B,d,hc.cell hb h1,hc.cell hb h2,h3.ch hc hF,h4.ch hc hF,h5,h6,h7,h8,h9⟩
theorem Rs.mono (h:Rs w F b ds gs) (hF:∀ b,b<w.heap.size→F b→G b):Rs w G b ds gs:=by
 obtain⟨A,c,B,d,h1,h2,h3,h4,h5,h6,h7,h8,h9⟩:=h
 exact⟨A,c,B,d,h1,h2,h3.mono hF,h4.mono hF,h5,h6,h7,h8,hF b (lt_of_cell h1) h9⟩
theorem Rs.keep (h:Rs w F b ds gs) (hc:Ch (fun _=>False) w w'):Rs w' F b ds gs:=h.ch hc (fun _ _ _ h=>h)
end
theorem key_any (k:Key) (w:World) (hk:k.length≤9223372036854775807) (o:Bool) (ho:decide (okK k)=o):Calls Tryz.prog 51 #[kv k] w fun e w'=>e = .returned (.bool o)∧w=w':=by
 obtain⟨S,hS,hz⟩:∃ S:ByteArray,kv k = .string S∧S.size=k.length:=⟨_,rfl,kv_size k⟩
 have HO:=Bx.mk ho
 rw[hS]
 have HOK:Bx (okK k↔1≤k.length∧k.length≤64):=⟨Iff.rfl⟩
 clear hS ho
 generalize k.length=n at *
 by_cases h1:1≤n
 ·have e1:decide ((1:Int)≤(n:Int))=true:=decide_eq_true (by omega)
  by_cases h2:n≤64
  ·have e2:decide ((n:Int)≤64)=true:=decide_eq_true (by omega)
   have HB:Bx (true=o):=⟨by rw[←HO.out]; exact (decide_eq_true (HOK.out.2 ⟨h1,h2⟩)).symm⟩
   go_enter Tryz.func51,Tryz.ntmps51
   go_wp2
   go_ret
   exact⟨ret_bool HB.out,rfl⟩
  ·have e2:decide ((n:Int)≤64)=false:=decide_eq_false (by omega)
   have HB:Bx (false=o):=⟨by rw[←HO.out]; exact (decide_eq_false (fun h=>h2 (HOK.out.1 h).2)).symm⟩
   go_enter Tryz.func51,Tryz.ntmps51
   go_wp2
   go_ret
   exact⟨ret_bool HB.out,rfl⟩
 ·have e1:decide ((1:Int)≤(n:Int))=false:=decide_eq_false (by omega)
  have HB:Bx (false=o):=⟨by rw[←HO.out]; exact (decide_eq_false (fun h=>h1 (HOK.out.1 h).1)).symm⟩
  go_enter Tryz.func51,Tryz.ntmps51
  go_wp2
  go_ret
  exact⟨ret_bool HB.out,rfl⟩
section
variable {F:Nat→Prop}
theorem rows_one {w:World} {G:Nat→Prop} {us:List Value} {xss:List (List Int)} {A:Option Addr} {c:Nat} {t:List Int} (h:Oct.Rows w G us xss) (hs:Sl w G .u8 A t.length t) (h1:t.length≤c) (h2:c≤maxLen):Oct.Rows w G (us++[.slice A t.length c]) (xss++[t]) :=
 Oct.Rows.app h (Oct.Rows.cons_ hs h1 h2 (Oct.Rows.nil_ _ _))
theorem ts_take {ds:List Dc} {k:Nat} {d:Dc} (h:ds[k]? = some d):ts (ds.take (k+1))=ts (ds.take k)++[d.2]:=by
 rw[Oct.take_more h,ts_app]
 rfl
theorem ks_take {ds:List Dc} {k:Nat} {d:Dc} (h:ds[k]? = some d):ks (ds.take (k+1))=ks (ds.take k)++[d.1]:=by
 rw[Oct.take_more h,ks_app]
 rfl
def TextsOf (F:Nat→Prop) (ds:List Dc) (w:World) (e:Ending) (w':World):Prop:=∃ (A:Option Addr) (c:Nat),e = .returned (.slice A ds.length c)∧Sls w' (fun b=>F b∨w.heap.size≤b) A ds.length (ts ds)∧ds.length≤c∧c≤maxLen∧Ch (fun _=>False) w w'
theorem texts_any {w:World} {b:Nat} {ds:List Dc} {gs:List Key} (h:Rs w F b ds gs) (hn:ds.length≤1048576) :
  Calls Tryz.prog 27 #[.pointer (some ⟨b,0,none⟩)] w (TextsOf F ds w):=by
 obtain⟨A,c,B,d,h1,h2,h3,h4,h5,h6,_,_,_⟩:=h
 obtain⟨n,hnn⟩:∃ n,ds.length=n:=⟨_,rfl⟩
 have HL:=Bx.mk hnn
 rw[hnn] at h1 h3 h5 hn
 have HC:=Bx.mk h1
 have HD:=Bx.mk h3
 have HPO:Bx (TextsOf F ds w=fun e w'=>∃ (A:Option Addr) (c:Nat),e = .returned (.slice A n c)∧Sls w' (fun b=>F b∨w.heap.size≤b) A n (ts ds)∧n≤c∧c≤maxLen∧Ch (fun _=>False) w w'):=⟨by unfold TextsOf; rw[hnn]⟩
 rw[HPO.out]
 clear h1 h2 h3 h4 hnn
 go_enter Tryz.func27,Tryz.ntmps27
 go_wp2_with fail
 go_loopw [3,4] (fun v i wr=>∃ (k:Nat) (us:List Value),k≤n∧i = .int .i64 k∧Gs 26 1 w wr v k us∧Bx (Oct.Rows w F us (ts (ds.take k)))) (fun _ i _=>n-(intOf i).toNat)
 case atStart=>exact⟨0,[],Nat.zero_le _,rfl,Gs.nil _ _ _,⟨by simpa[ts] using Oct.Rows.nil_ w F⟩⟩
 case round =>
  obtain⟨k,us,hk,rfl,hG,hR⟩:=hrel
  have hc:=hG.ch.cell (p:=⟨b,0,none⟩) (fun h=>h) HC.out
  by_cases hlt:k<n
  ·have dk:decide ((k:Int)<(n:Int))=true:=decide_eq_true (by omega)
   obtain⟨bd,od,d,Bt,ct,rfl,_,hd,_,hct,hst,hlt2,hcm⟩:=HD.out.get hlt
   have HN:=Bx.mk (by rw[ts_take hd.out]; exact rows_one hR.out hst hlt2 hcm:Oct.Rows w F (us++[.slice Bt d.2.length ct]) (ts (ds.take (k+1))))
   have hc2:=hG.ch.cell (p:=⟨bd,od+k*2+1,none⟩) (fun h=>h) hct
   obtain⟨tl,htl⟩:∃ tl,d.2.length=tl:=⟨_,rfl⟩
   rw[htl] at hc2 HN
   have i2:(k:Int)<(n:Int):=by omega
   have HG:=Bx.mk hG
   obtain⟨A1,c1,rfl,_,_⟩:=hG.shape
   clear hG hd hct hst hlt2 hcm htl hR
   go_wp2_with (at_builtin; refine wp_app rfl (.tmp 14) (.tmp 23) elemT rfl rfl (HG.out.own.alloc _) rfl (Vs.one _ _ _) ?c1 ?c2 ?c3 ?_)
   case c1=>intro x hx; simp at hx; subst hx; rfl
   case c2=>omega
   case c3=>omega
   intro v5 w5 ho1 hg1 hb1
   have HG5:=Bx.mk (HG.out.app ((Ch.refl (fun _=>False) wr).alloc _) ho1 hg1 (by rw[World.size_alloc]; exact hb1))
   clear ho1 hg1 hb1
   go_wp2
   go_roundw
   case rel=>exact⟨k+1,_,by omega,by go_num,HG5.out,HN⟩
   case measure=>simp[intOf]; omega
  ·obtain rfl:n=k:=by omega
   have dk:decide ((n:Int)<(n:Int))=false:=decide_eq_false (by omega)
   obtain⟨A1,c1,rfl,e1,e2⟩:=hG.shape
   have hall:ds.take n=ds:=List.take_of_length_le (by have:=HL.out; omega)
   rw[hall] at hR
   have HF:Bx (Sls wr (fun b=>F b∨w.heap.size≤b) A1 n (ts ds)):=⟨⟨us,hG.vs.mono (fun _ _ h => .inr h),(hR.out.ch hG.ch (fun _ _ _ h=>h)).mono (fun _ _ h => .inl h)⟩⟩
   have HCH:=Bx.mk hG.ch
   clear hG hR hall
   go_wp2
   go_ret
   exact⟨A1,c1,rfl,HF.out,e1,e2,HCH.out⟩
end
end
section
open Go.RowKit Go.Oct Go.Su Go.Sg
theorem elemM:ElemK Tryz.prog 72 97 (.agg #[.string ByteArray.empty, .int .i64 0]) 2 24:=⟨Tryz.underlying72,by kernel_rfl,rfl,by decide⟩
def valM (l:List (Key×Nat)):List Value:=l.flatMap fun h=>[kv h.1,Value.int .i64 (h.2:Int)]
theorem valM_app (a b:List (Key×Nat)):valM (a++b)=valM a++valM b:=by unfold valM; simp
def MatE (cs:List Value) (m:Key×Nat):Prop:=cs=[kv m.1, .int .i64 (m.2:Nat)]
def Mts (w:World) (F:Nat→Prop) (A:Option Addr) (n:Nat) (l:List (Key×Nat)):Prop:=Ro w F 2 MatE A n l
theorem Mts.ch {w w':World} {F S:Nat→Prop} {A:Option Addr} {n:Nat} {l:List (Key×Nat)} (h:Mts w F A n l) (hc:Ch S w w') (hF:∀ b,F b→b<w.heap.size→¬ S b):Mts w' F A n l:=Ro.ch h (by omega) hc hF fun _ _ _ he=>he
theorem Mts.get {w:World} {F:Nat→Prop} {A:Option Addr} {n:Nat} {l:List (Key×Nat)} (h:Mts w F A n l) {j:Nat} (hj:j<n):∃ b off m,A=some ⟨b,off,none⟩∧F b∧Hid (l[j]? = some m)∧w.cell? ⟨b,off+j*2,none⟩=some (kv m.1)∧w.cell? ⟨b,off+j*2+1,none⟩=some (.int .i64 (m.2:Nat)):=by
 obtain⟨b,off,d,cs,e,hb,hd,hl,rfl,hi⟩:=Ro.get h hj
 exact⟨b,off,d,e,hb,hd,hi 0 _ rfl,hi 1 _ rfl⟩
theorem valM_at {hs:List (Key×Nat)} {j:Nat} {h:Key×Nat} (hj:hs[j]? = some h):(valM hs)[j*2]? = some (kv h.1)∧(valM hs)[j*2+1]? = some (.int .i64 (h.2:Int)):=by
 induction hs generalizing j with
 | nil=>simp at hj
 | cons a l ih =>
  have e:valM (a::l)=kv a.1::Value.int .i64 (a.2:Int)::valM l:=rfl
  rw[e]
  cases j with
  | zero =>
   obtain rfl:a=h:=by simpa using hj
   exact⟨rfl,rfl⟩
  | succ j =>
   have:=ih (j:=j) (by simpa using hj)
   rw[show (j+1)*2=j*2+2 by omega]
   exact this
theorem Gs.mts {w wr:World} {A:Option Addr} {n c:Nat} {hs:List (Key×Nat)} (h:Gs 97 2 w wr (.slice A n c) n (valM hs)) (hl:hs.length=n):Mts wr (fun b=>w.heap.size≤b) A n hs:=by
 refine⟨hl,fun hn=>?_⟩
 rcases own_form h.own with ⟨e1,e2⟩ | ⟨g,c1,e1,g2,g3⟩
 ·omega
 ·injection e1 with e3 _ e4
  subst e3 e4
  have ho:=h.own
  refine⟨g,0,rfl,h.lies g rfl,fun j x hx=>?_⟩
  obtain⟨hj,_⟩:=List.getElem?_eq_some_iff.1 hx
  obtain⟨k1,k2⟩:=valM_at hx
  have c1:=ho.cellAt (j*2) (by omega)
  have c2:=ho.cellAt (j*2+1) (by omega)
  rw[k1] at c1
  rw[k2] at c2
  refine⟨_,rfl,rfl,fun i u hu=>?_⟩
  rw[Nat.zero_add]
  match i,hu with
  | 0,hu=>simp at hu; subst hu; exact c1
  | 1,hu=>simp at hu; subst hu; exact c2
theorem mat_cells (w:World) (S:ByteArray) (a:Int):∀ j u,[Value.string S,Value.int .i64 a][j]? = some u→(w.alloc (.cells #[.string S, .int .i64 a] 97)).cell? ((⟨w.heap.size,0,none⟩:Addr).add j)=some u:=by
 intro j u hu
 match j,hu with
 | 0,hu =>
  simp at hu
  subst hu
  rw[show (⟨w.heap.size,0,none⟩:Addr).add 0=⟨w.heap.size,0,none⟩ by simp[Addr.add],World.cell?_alloc_at _ _ _ _ rfl]
  rfl
 | 1,hu =>
  simp at hu
  subst hu
  rw[show (⟨w.heap.size,0,none⟩:Addr).add 1=⟨w.heap.size,1,none⟩ by simp[Addr.add],World.cell?_alloc_at _ _ _ _ rfl]
  rfl
 | j+2,hu=>simp at hu
theorem run_appK {P:Program} {t e:TypeId} {z:Value} {size bytes:Nat} (w:World) (ty:TypeId) (T:ElemK P t e z size bytes) {v:Value} {n:Nat} {xs:List Value} (hown:w.ownsRow 0 e size v n xs)
  {ad:Addr} {m c:Nat} {news:List Value} (hl:news.length=m*size) (hr:∀ j u,news[j]? = some u→w.cell? (ad.add j)=some u) (h1:∀ u∈news,u.oneCell'=true) (hb:(n+m)*bytes≤140737488355328) (h63:n+m≤140737488355328) :
  ∃ v' w',(Builtin.append_ #[t,t] ty #[v, .slice (some ad) m c]).run P w = .ok v' w'∧w'.ownsRow 0 e size v' (n+m) (xs++news)∧w.grownBy w' v.ownBlock∧(v'.ownBlock=v.ownBlock∨v'.ownBlock=some w.heap.size):=by
 obtain⟨i,hi,hz,hsz,hby⟩:=infoK T.info
 obtain⟨v',w',hrun,h2,h3,_,h5⟩:=run_append_own_at (P:=P) w 0 t ty e i z size bytes T.t hi hz hsz hby T.z T.pos v n xs hown ad m c news hl hr h1 (by unfold maxLen; omega) hb (Nat.zero_le _)
 exact⟨v',w',hrun,h2,h3,h5⟩
theorem step_appK {P:Program} {t e:TypeId} {z:Value} {size bytes:Nat} {ops:Array Oper} {o:Oper} {a:Act} {w:World} {K:Act→World→Prop} {Q:Exit→Act→World→Prop} {E:Prop} (hg:o.guard=none) (s x:Operand) (T:ElemK P t e z size bytes)
  (hop:o.op=Op.call { callee:=Callee.builtin Builtin.append,args:=#[s,x],argTypes:=#[t,t] }) {v:Value} {n:Nat} {xs:List Value} (hs:a.eval s=v) (hown:w.ownsRow 0 e size v n xs)
  {ad:Addr} {m c:Nat} {news:List Value} (hx:a.eval x = .slice (some ad) m c) (hl:news.length=m*size) (hr:∀ j u,news[j]? = some u→w.cell? (ad.add j)=some u) (h1:∀ u∈news,u.oneCell'=true) (hb:(n+m)*bytes≤140737488355328) (h63:n+m≤140737488355328)
  (h:∀ v' w',w'.ownsRow 0 e size v' (n+m) (xs++news)→w.grownBy w' v.ownBlock→(v'.ownBlock=v.ownBlock∨v'.ownBlock=some w.heap.size)→K (a.put o.dst v') w') :
  if Region.wanted o (yielded ops a.tmps)=true then Oper.wp P o a w K Q else E:=by
 have hw:Region.wanted o (yielded ops a.tmps)=true:=by simp[Region.wanted,hg]
 rw[if_pos hw]
 obtain⟨v',w',hrun,h2,h3,h4⟩:=run_appK w o.type T hown (c:=c) hl hr h1 hb h63
 unfold Oper.wp execOp
 simp only[hop,resolve,invoke,builtin,Sem.run_bind,Sem.run_pure,Result.andThen_ok,List.map_toArray,List.map_cons,List.map_nil,hs,hx,hrun]
 exact h v' w' h2 h3 h4
def matTo (ds:List Dc) (p:List Int) (k:Nat) (key:Key) (l:List Nat) (j:Nat):List (Key×Nat):=finds (ds.take k) p++(l.take j).map fun a=>(key,a)
theorem matTo_zero (ds:List Dc) (p:List Int) (k:Nat) (key:Key) (l:List Nat):matTo ds p k key l 0=finds (ds.take k) p:=by unfold matTo; simp
theorem matTo_next {ds:List Dc} {p:List Int} {k j a:Nat} {key:Key} {l:List Nat} (h:l[j]? = some a):matTo ds p k key l j++[(key,a)]=matTo ds p k key l (j+1):=by
 unfold matTo
 rw[List.take_add_one,h,Option.toList_some]
 simp
theorem finds_take {ds:List Dc} {p:List Int} {k:Nat} {d:Dc} (h:ds[k]? = some d):finds (ds.take (k+1)) p=finds (ds.take k) p++(ats d.2 p).map fun a=>(d.1,a):=by
 rw[Oct.take_more h]
 unfold finds
 simp
theorem matTo_all {ds:List Dc} {p:List Int} {k:Nat} {d:Dc} (h:ds[k]? = some d):matTo ds p k d.1 (ats d.2 p) (ats d.2 p).length=finds (ds.take (k+1)) p:=by
 rw[finds_take h]
 unfold matTo
 simp
def FindsOf (l:List (Key×Nat)) (w:World) (e:Ending) (w':World):Prop:=∃ (A:Option Addr) (n c:Nat),e = .returned (.slice A n c)∧Mts w' (fun b=>w.heap.size≤b) A n l∧n≤c∧c≤maxLen∧Ch (fun _=>False) w w'
theorem finds_le (p:List Int):∀ (ds:List Dc),(finds ds p).length≤beg (ts ds) ds.length:=by
 intro ds
 have h:=congrArg List.length (finds_all ds p)
 rw[List.length_map] at h
 rw[←h]
 have:=locs_len (xss:=ts ds) (p:=p) ds.length (by rw[ts_len]; exact Nat.le_refl _)
 rwa[List.take_of_length_le (by rw[ts_len]; exact Nat.le_refl _)] at this
section
variable {F G:Nat→Prop}
theorem rfind_any (ds:List Dc) (p:List Int) (A B:Option Addr) (n c m d:Nat) (w:World) (hz:Dcs w F A n ds) (hp:Sl w G .u8 B m p) (hb:∀ d∈ds,∀ x∈d.2,0≤x∧x<256) (hbp:∀ x∈p,0≤x∧x<256) (hN:beg (ts ds) n≤1048576) (hn:n≤1048576) (hm:m≤1048576) :
  Calls Tryz.prog 56 #[.slice A n c, .slice B m d] w (FindsOf (finds ds p) w):=by
 have HL:=Bx.mk hz.len
 have HZ:=Bx.mk hz
 have HP:=Bx.mk hp
 have HB:=Bx.mk hb
 have HBP:=Bx.mk hbp
 have HLN:Bx (∀ k,k≤n→(finds (ds.take k) p).length≤1048576):=⟨fun k hk=>by
  have h1:=finds_le p (ds.take k)
  have h2:beg (ts (ds.take k)) (ds.take k).length=beg (ts ds) k:=by
   unfold beg
   have e:(ds.take k).length=k:=by rw[List.length_take,HL.out]; omega
   rw[e]
   simp[ts,List.map_take,List.take_take]
  rw[h2] at h1
  have:=beg_mono (ts ds) hk (by rw[ts_len,HL.out]; exact Nat.le_refl _)
  omega⟩
 have HTL:Bx (∀ d∈ds,d.2.length≤1048576):=⟨fun d hd=>by
  obtain⟨i,hi⟩:=List.getElem?_of_mem hd
  have hil:i<n:=by rw[←HL.out]; exact (List.getElem?_eq_some_iff.1 hi).1
  have h1:=beg_next (ts ds) i (by rw[ts_len,HL.out]; exact hil)
  have h2:=beg_mono (ts ds) (show i+1≤n by omega) (by rw[ts_len,HL.out]; exact Nat.le_refl _)
  have h3:(ts ds).getD i []=d.2:=by unfold ts; rw[List.getD_eq_getElem?_getD,List.getElem?_map,hi]; rfl
  rw[h3] at h1
  omega⟩
 clear hz hp hb hbp hN
 go_enter Tryz.func56,Tryz.ntmps56
 go_wp2_with fail
 go_loopw [5,6,7,8] (fun v i _ _ wr=>∃ k q:Nat,k≤n∧i = .int .i64 k∧Bx ((finds (ds.take k) p).length=q)∧Gs 97 2 w wr v q (valM (finds (ds.take k) p))) (fun _ i _ _ _=>n-(intOf i).toNat)
 case atStart=>exact⟨0,0,Nat.zero_le _,rfl,⟨rfl⟩,Gs.nil _ _ _⟩
 case round =>
  obtain⟨k,q,hk,rfl,hq,hG⟩:=hrel
  by_cases hlt:k<n
  ·have dk:decide ((k:Int)<(n:Int))=true:=decide_eq_true (by omega)
   obtain⟨bd,od,dc,A',c',rfl,_,ex,hck0,hct0,hsl0,hlc,hcm⟩:=HZ.out.get hlt
   have hct:=hG.ch.cell (p:=⟨bd,od+k*2+1,none⟩) (fun h=>h) hct0
   have hsl:=hsl0.ch hG.ch (fun _ _ _ h=>h)
   have hdm:=List.mem_of_getElem? ex.out
   have hat:=refat_any dc.2 p A' B dc.2.length c' m d wr hsl (HP.out.ch hG.ch (fun _ _ _ h=>h)) (HB.out dc hdm) HBP.out (HTL.out dc hdm) hm hlc hcm
   have HAT:=Bx.mk hat
   have HG:=Bx.mk hG
   have hq2:q+(ats dc.2 p).length≤1048576:=by
    have h1:=HLN.out (k+1) (by omega)
    rw[finds_take ex.out,List.length_append,List.length_map,hq.out] at h1
    omega
   have HALL:=Bx.mk (matTo_all (p:=p) ex.out)
   have HQN:Bx ((finds (ds.take (k+1)) p).length=q+(ats dc.2 p).length):=⟨by rw[finds_take ex.out,List.length_append,List.length_map,hq.out]⟩
   have i2:(k:Int)<(n:Int):=by omega
   obtain⟨l,hl⟩:∃ l,ats dc.2 p=l:=⟨_,rfl⟩
   rw[hl] at hq2 HAT HALL HQN
   obtain⟨tl,htl⟩:∃ tl,dc.2.length=tl:=⟨_,rfl⟩
   rw[htl] at HAT hct hlc
   obtain⟨SD,hSD⟩:∃ S:ByteArray,kv dc.1 = .string S:=⟨_,rfl⟩
   have HSD:=Bx.mk hSD
   rw[hSD] at hck0
   have htc:c'≤9223372036854775807:=by unfold maxLen at hcm; omega
   have HCK:=Bx.mk hck0
   clear hG hsl hat hl ex hdm htl hSD hcm hck0 hct0 hsl0
   go_wp2_with fail
   refine HAT.out.mono ?_
   rintro e w1 ⟨v1,rfl,hG1⟩
   obtain⟨A1,c1,rfl,_,hc1m⟩:=hG1.shape
   have htwo:=two_start HG.out hG1 (own_lt HG.out.own)
   have hl1:l.length≤1048576:=by omega
   obtain⟨ll,hll⟩:∃ ll,l.length=ll:=⟨_,rfl⟩
   rw[hll] at htwo hq2 hl1 HALL HQN
   rw[hll]
   rw[←matTo_zero ds p k dc.1 l] at htwo
   have HTW:=Bx.mk htwo
   clear hG1 HAT hct hll htwo
   go_wp2_with fail
   go_loopw [5,8] (fun v i wx=>∃ j:Nat,j≤ll∧i = .int .i64 j∧Two 97 2 w wx v (q+j) (valM (matTo ds p k dc.1 l j)) (.slice A1 ll c1) A1 ll (valN l)) (fun _ i _=>ll-(intOf i).toNat)
   case atStart=>exact⟨0,Nat.zero_le _,rfl,HTW.out⟩
   case round =>
    obtain⟨j,hj,rfl,hT⟩:=hrel
    have HT:=Bx.mk hT
    have hcd:=hT.gs.ch.cell (p:=⟨bd,od+k*2,none⟩) (fun h=>h) HCK.out
    by_cases hjl:j<ll
    ·have dj:decide ((j:Int)<(ll:Int))=true:=decide_eq_true (by omega)
     obtain⟨b2,o2,u,rfl,_,hu,hcu⟩:=hT.vs.at_ hjl
     obtain⟨a,ha,rfl⟩:=valN_at hu.out
     have HNX:=Bx.mk (matTo_next (ds:=ds) (p:=p) (k:=k) (key:=dc.1) ha)
     obtain⟨A2,c2,rfl,_,_⟩:=hT.gs.shape
     have i4:(j:Int)<(ll:Int):=by omega
     clear hT hu ha
     have HAP:Bx (∀ v5 w5,w5.ownsRow 0 97 2 v5 (q+j+1) (valM (matTo ds p k dc.1 l j)++[Value.string SD,Value.int .i64 (a:Int)])→(wr.alloc (.cells #[.string SD, .int .i64 a] 97)).drew.grownBy w5 (Value.slice A2 (q+j) c2).ownBlock→(v5.ownBlock=(Value.slice A2 (q+j) c2).ownBlock∨v5.ownBlock=some (wr.alloc (.cells #[.string SD, .int .i64 a] 97)).drew.heap.size)→Two 97 2 w w5 v5 (q+j+1) (valM (matTo ds p k dc.1 l (j+1))) (.slice (some ⟨b2,o2,none⟩) ll c1) (some ⟨b2,o2,none⟩) ll (valN l)):=⟨fun v5 w5 ho1 hg1 hb1=>by
      have h:=HT.out.app ((Ch.refl (fun _=>False) wr).alloc (.cells #[.string SD, .int .i64 a] 97)).drew ho1 hg1 hb1
      rw[←HNX.out,valM_app]
      show Two _ _ _ _ _ _ (_++[kv dc.1,Value.int .i64 (a:Int)]) _ _ _ _
      rw[HSD.out]
      exact h⟩
     go_wp2_with fail
     go_region_law ((refine step_appK rfl (.tmp 28) (.tmp 39) elemM rfl rfl (HT.out.gs.own.alloc _) rfl (m:=1) rfl (mat_cells wr SD a) (by intro u hu; simp at hu; rcases hu with hu | hu <;> (subst hu; rfl)) (by omega) (by omega) ?_; intro v5 w5 ho1 hg1 hb1; have HT5:=Bx.mk (HAP.out v5 w5 ho1 hg1 hb1); clear ho1 hg1 hb1))
     all_goals
      go_wp2
      go_roundw
      case rel=>exact⟨j+1,by omega,by go_num,HT5.out⟩
      case measure=>simp[intOf]; omega
    ·have hjl2:j=ll:=by omega
     have dj:decide ((j:Int)<(ll:Int))=false:=decide_eq_false (by omega)
     have HFN:Bx (Gs 97 2 w wr u5 (q+ll) (valM (finds (ds.take (k+1)) p))):=⟨by
      have:=hT.gs
      rw[hjl2,HALL.out] at this
      exact this⟩
     clear hT hjl2
     go_wp2
     go_roundw
     case rel=>exact⟨k+1,q+ll,by omega,by go_num,HQN,HFN.out⟩
     case measure=>simp[intOf]; omega
  ·have hkn:n=k:=by omega
   have dk:decide ((k:Int)<(n:Int))=false:=decide_eq_false (by omega)
   obtain⟨A1,c1,rfl,e1,e2⟩:=hG.shape
   have hall:ds.take k=ds:=List.take_of_length_le (by have:=HL.out; omega)
   rw[hall] at hG hq
   have HF:Bx (Mts wr (fun b=>w.heap.size≤b) A1 q (finds ds p)):=⟨hG.mts hq.out⟩
   have HCH:=Bx.mk hG.ch
   clear hG hkn hall
   go_wp2
   go_ret
   exact⟨A1,q,c1,rfl,HF.out,e1,e2,HCH.out⟩
end
end
end Go.Proofs.YtambgjpfoceieaaGreatDoor
