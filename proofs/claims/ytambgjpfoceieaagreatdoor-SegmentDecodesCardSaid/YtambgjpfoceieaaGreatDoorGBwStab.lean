/- Lemmas and contracts of this proof. Conditions: said at each. -/
import Derived.Test.YtambgjpfoceieaaGreatDoorGSuSort
import Derived.Deep.DeepCutAuto
set_option maxHeartbeats 8000000
set_option maxRecDepth 100000
namespace Go.Proofs.YtambgjpfoceieaaGreatDoor
section
open Go.RowKit Go.Oct Go.Su
def Stab (l:List Int) (n:Nat) (w:World) (e:Ending) (w':World):Prop:=∃ (A:Option Addr) (c:Nat) (P:List Nat),e = .returned (.slice A n c)∧Sl w' (fun b=>w.heap.size≤b) .i64 A n (asI P)∧Srt l P∧Ch (fun _=>False) w w'
theorem range_srt {l:List Int} (h:l.length<2):Srt l (List.range l.length) :=
 (wd_start l).srt (by simp) (by omega)
section
variable {F:Nat→Prop}
theorem stable_few (l:List Int) (A:Option Addr) (n c:Nat) (w:World) (hl:l.length=n) (hn:n<2) :
  Calls Tryz.prog 179 #[.slice A n c] w (Stab l n w):=by
 have hmk:=mkI w n (by omega)
 have hO:Own (w.alloc (.cells (madeCells #[.int .i64 0] n) 3)) 3 1 w.heap.size n n (vals (List.range n)):=by
  have h:=own_made1 w 3 (.int .i64 0) n (by omega)
  have e:List.replicate n (Value.int .i64 0)=vals (List.range n):=by
   rcases Nat.eq_zero_or_pos n with h0 | h0
   ·subst h0
    rfl
   ·obtain rfl:n=1:=by omega
    rfl
  rw[e] at h
  exact h
 have hS:Sl (w.alloc (.cells (madeCells #[.int .i64 0] n) 3)) (fun b=>w.heap.size≤b) .i64 (some ⟨w.heap.size,0,none⟩) n (asI (List.range n)):=by
  rw[←vals_asI] at hO
  exact hO.sl.mono (fun b _ hb=>by omega)
 have hsrt:=range_srt (l:=l) (by omega)
 rw[hl] at hsrt
 have HS:=Bx.mk hS
 have HT:=Bx.mk hsrt
 have d1:decide ((n:Int)<2)=true:=by simp; omega
 clear hO hS hsrt hl
 go_enter Tryz.func179,Tryz.ntmps179
 go_wp2
 go_ret
 exact⟨_,n,_,rfl,HS.out,HT.out,(Ch.refl _ _).alloc _⟩
theorem stable_many (l:List Int) (A:Option Addr) (n c:Nat) (w:World) (hs:Sl w F .i64 A n l) (hn:n≤65536) (hn2:2≤n) :
  Calls Tryz.prog 179 #[.slice A n c] w (Stab l n w):=by
 have HL:=Bx.mk hs.len
 have HS:=Bx.mk (hs.mono (G:=fun b=>b<w.heap.size) (fun b h _=>h))
 have hmk:=mkI w n (by omega)
 have d1:decide ((n:Int)<2)=false:=by simp; omega
 clear hs
 go_enter Tryz.func179,Tryz.ntmps179
 go_wp2_with fail
 go_loopw [4] (fun i wr=>∃ k:Nat,k≤n∧i = .int .i64 k∧Own wr 3 1 w.heap.size n n ((upZ (rng n) k).map (Value.int .i64))∧Ch (fun _=>False) w wr) (fun i _=>n-(intOf i).toNat)
 case atStart =>
  refine⟨0,Nat.zero_le _,rfl,?_,(Ch.refl _ _).alloc _⟩
  have:=own_made1 w 3 (.int .i64 0) n (by omega)
  rw[upZ_zero,rng_len,List.map_replicate]
  exact this
 case round =>
  obtain⟨k,hk,rfl,hO,hC⟩:=hrel
  by_cases hlt:k<n
  ·have hcell:=hO.cellI hlt
   have hfz:=hO.frozenAt k
   have hst:=hO.storedI k (k:Int)
   rw[upZ_next (rng_at hlt)] at hst
   have HST:=Bx.mk hst
   have HC:=Bx.mk hC
   have dk:decide ((k:Int)<(n:Int))=true:=by simp; omega
   generalize (upZ (rng n) k).getD k 0=old at *
   clear hC hst hO
   go_wp2
   go_roundw
   case rel=>exact⟨k+1,by omega,by go_num,HST.out.1,HC.out.trans HST.out.2 (fun i hi (e:i=w.heap.size)=>by omega)⟩
   case measure=>simp[intOf]; omega
  ·have hkn:k=n:=by omega
   have dk:decide ((k:Int)<(n:Int))=false:=by simp; omega
   have hu:=upZ_all (rng n)
   rw[rng_len] at hu
   rw[hkn,hu] at hO
   have hP0:Sl wr (fun b=>w.heap.size≤b) .i64 (some ⟨w.heap.size,0,none⟩) n (asI (List.range n)):=hO.sl.mono (fun b _ hb=>by omega)
   have hwd:=wd_start l
   rw[HL.out] at hwd
   have HP0:=Bx.mk hP0
   have HWD:=Bx.mk hwd
   have HC:=Bx.mk hC
   obtain⟨w1,rfl⟩:∃ w1:World,w1=wr:=⟨_,rfl⟩
   clear hO hC hP0 hwd hkn hu hmk
   go_wp2_with fail
   go_loopw [3,5,6,7,8,9,10,11] (fun v x _ _ _ _ _ _ wr=>∃ (W:Nat) (A':Option Addr) (c':Nat) (p:List Nat),x = .int .i64 W∧1≤W∧W≤131072∧v = .slice A' n c'∧Sl wr (fun b=>w.heap.size≤b) .i64 A' n (asI p)∧Wd l W p∧Ch (fun _=>False) w wr) (fun _ x _ _ _ _ _ _ _=>n-(intOf x).toNat)
   case atStart=>exact⟨1,_,n,_,rfl,Nat.le_refl _,by omega,rfl,HP0.out,HWD.out,HC.out⟩
   case round =>
    obtain⟨W,A',c',p,rfl,hW1,hW2,rfl,hSp,hWd,hC⟩:=hrel
    have hpl:p.length=n:=by have:=hSp.len; rwa[asI_len] at this
    by_cases hWn:W<n
    ·have dW:decide ((W:Int)<(n:Int))=true:=by simp; omega
     have hmk:=run_mkI0 n (by omega) wr
     have hG0:=gr_made wr n (by omega)
     have HG0:=Bx.mk hG0
     have HSp:=Bx.mk hSp
     have HWd:=Bx.mk hWd
     have HPl:=Bx.mk hpl
     have HC:=Bx.mk hC
     obtain⟨wo,rfl⟩:∃ wo:World,wo=wr:=⟨_,rfl⟩
     clear hG0 hSp hWd hpl hC
     go_wp2_with fail
     generalize hw0:wo.alloc (.cells (madeCells #[.int .i64 0] n) 3)=w2 at *
     go_loopw [6,7,8,9,10,11] (fun v x _ _ _ _ wr=>∃ (a:Nat) (q:List Nat),x = .int .i64 a∧2*W∣a∧a≤262144∧Gr wo wr v q∧Wd l (2*W) q∧q.length=min a n) (fun _ x _ _ _ _ _=>n-(intOf x).toNat)
     case atStart=>exact⟨0,[],rfl,Nat.dvd_zero _,by omega,HG0.out,wd_nil l _,by simp⟩
     case round =>
      obtain⟨a,q,rfl,hda,ha2,hG,hWq,hql⟩:=hrel
      by_cases han:a<n
      ·have da:decide ((a:Int)<(n:Int))=true:=by simp; omega
       obtain⟨m,hm⟩:∃ m,m=min (a+W) n:=⟨_,rfl⟩
       obtain⟨z,hz⟩:∃ z,z=min (a+2*W) n:=⟨_,rfl⟩
       have hMg:=mg_start (m:=m) (z:=z) (p:=p) hWq (show q.length=a by omega) (by omega) (by omega)
       have HMg:=Bx.mk hMg
       have HG:=Bx.mk hG
       have HDA:=Bx.mk hda
       obtain⟨w3,rfl⟩:∃ w3:World,w3=wr:=⟨_,rfl⟩
       have HM:=Bx.mk hm
       have HZ:=Bx.mk hz
       clear hda hG hWq hql hMg hm hz
       go_upto_region 15 with fail
       go_cut [8,9] (fun s8 s9 wx=>s8 = .int .i64 (m:Int)∧s9 = .int .i64 (z:Int)∧wx=w3)
       case first =>
        have hm:=HM.out
        have hz:=HZ.out
        have hWa:(a:Int)+(W:Int)≤400000:=by omega
        rcases Nat.le_total (a+2*W) n with h2 | h2
        ·have e1:(m:Int)=(a:Int)+(W:Int):=by omega
         have e2:(z:Int)=(a:Int)+2*(W:Int):=by omega
         have f1:¬ (n:Int)<(a:Int)+(W:Int):=by omega
         have f2:¬ (n:Int)<(a:Int)+2*(W:Int):=by omega
         have E1:=Bx.mk e1
         have E2:=Bx.mk e2
         clear e1 e2 hm hz
         go_wp2_with fail
         all_goals
          go_meet
          first | exact⟨by rw[E1.out],by rw[E2.out],rfl⟩ | (refine⟨.int .i64 (m:Int), .int .i64 (z:Int),⟨rfl,rfl,rfl⟩,?_⟩; rw[E1.out,E2.out])
        ·rcases Nat.lt_or_ge n (a+W) with h1 | h1
         ·have e1:m=n:=by omega
          have e2:z=n:=by omega
          have f1:(n:Int)<(a:Int)+(W:Int):=by omega
          have E1:=Bx.mk e1
          have E2:=Bx.mk e2
          clear e1 e2 hm hz
          by_cases f3:(n:Int)<(a:Int)+2*(W:Int)
          ·go_wp2_with fail
           all_goals
            go_meet
            first | exact⟨by rw[E1.out],by rw[E2.out],rfl⟩ | (refine⟨.int .i64 (m:Int), .int .i64 (z:Int),⟨rfl,rfl,rfl⟩,?_⟩; rw[E1.out,E2.out])
          ·omega
         ·have e1:(m:Int)=(a:Int)+(W:Int):=by omega
          have e2:z=n:=by omega
          have f1:¬ (n:Int)<(a:Int)+(W:Int):=by omega
          have E1:=Bx.mk e1
          have E2:=Bx.mk e2
          clear e1 e2 hm hz
          by_cases f3:(n:Int)<(a:Int)+2*(W:Int)
          ·go_wp2_with fail
           all_goals
            go_meet
            first | exact⟨by rw[E1.out],by rw[E2.out],rfl⟩ | (refine⟨.int .i64 (m:Int), .int .i64 (z:Int),⟨rfl,rfl,rfl⟩,?_⟩; rw[E1.out,E2.out])
          ·have f4:(a:Int)+2*(W:Int)=(n:Int):=by omega
           have F4:=Bx.mk f4
           clear f4
           go_wp2_with fail
           all_goals
            go_meet
            first | exact⟨by rw[E1.out],by rw[E2.out]; first | rfl | rw[F4.out],rfl⟩ | (refine⟨.int .i64 (m:Int), .int .i64 (z:Int),⟨rfl,rfl,rfl⟩,?_⟩; rw[E1.out,E2.out]; first | done | rw[F4.out])
       case rest =>
        obtain⟨rfl,rfl,rfl⟩:=hcut
        go_wp2_with fail
        go_loopw [6,10,11] (fun v x y wr=>∃ (i k':Nat) (q:List Nat),x = .int .i64 i∧y = .int .i64 k'∧Mg l W p a m z i k' q∧Gr wo wr v q) (fun _ x y _=>(m-(intOf x).toNat)+(z-(intOf y).toNat))
        case atStart=>exact⟨a,m,q,rfl,rfl,HMg.out,HG.out⟩
        case round =>
         obtain⟨i,k',q,rfl,rfl,hMg,hG⟩:=hrel
         have hm:=HM.out
         have hz:=HZ.out
         have hmz:(m=a+W∨m=n)∧(z=a+2*W∨z=n)∧m≤n∧z≤n∧m≤a+W∧z≤a+2*W:=by omega
         clear hm hz
         have hai:=hMg.ai
         have him:=hMg.im
         have hmk2:=hMg.mk2
         have hkz:=hMg.kz
         have hlen:=hMg.len
         have hSpr:=HSp.out.ch hG.ch (fun _ _ _ h=>h)
         have hql:q.length≤65536:=by omega
         have HMr:=Bx.mk hMg
         have HGr:=Bx.mk hG
         have hpn:p.length=n:=HPl.out
         have cellp:∀ j,j<n→∃ (b o x:Nat),A'=some ⟨b,o,none⟩∧p[j]? = some x∧x<n∧wr.cell? ⟨b,o+j,none⟩=some (.int .i64 (x:Int)):=fun j hj=>by
          obtain⟨b,o,x0,hA,_,hx0,hc⟩:=hSpr.at_ hj
          obtain⟨x,rfl,hx⟩:=asI_at hx0.out
          exact⟨b,o,x,hA,hx,by rw[←HL.out]; exact HWd.out.lt x (List.mem_of_getElem? hx),hc⟩
         have cells:∀ x,x<n→∃ (b o:Nat),A=some ⟨b,o,none⟩∧wr.cell? ⟨b,o+x,none⟩=some (.int .i64 (gs l x)):=fun x hx=>by
          obtain⟨b,o,hA,_,hc⟩:=Sl.gsAt (HS.out.ch (HC.out.trans hG.ch (fun _ _ h=>h)) (fun _ _ _ h=>h)) hx
          exact⟨b,o,hA,hc⟩
         clear hMg hG hSpr
         rcases Nat.lt_or_ge k' z with hk1 | hk1
         ·obtain⟨bp,op,y,rfl,hy,hyn,hcy⟩:=cellp k' (by omega)
          have HMA:Bx (m=a+W):=⟨by omega⟩
          have s1:decide ((z:Int)≤(k':Int))=false:=by simp; omega
          have s2:decide (z≤k')=false:=by simp; omega
          have s3:decide ((k':Int)<(z:Int))=true:=by simp; omega
          have i3:(0:Int)≤(k':Int):=by omega
          have i4:(k':Int)<(n:Int):=by omega
          rcases Nat.lt_or_ge i m with hi1 | hi1
          ·obtain⟨bp',op',x,hA',hx,hxn,hcx⟩:=cellp i (by omega)
           injection hA' with hA'
           injection hA' with f1 f2
           subst f1 f2
           obtain⟨bl,ol,rfl,hlx⟩:=cells x hxn
           obtain⟨bl',ol',hA',hly⟩:=cells y hyn
           injection hA' with hA'
           injection hA' with f1 f2
           subst f1 f2
           have r1:decide ((i:Int)<(m:Int))=true:=by simp; omega
           have i1:(0:Int)≤(i:Int):=by omega
           have i2:(i:Int)<(n:Int):=by omega
           have i5:(0:Int)≤(x:Int):=by omega
           have i6:(x:Int)<(n:Int):=by omega
           have i7:(0:Int)≤(y:Int):=by omega
           have i8:(y:Int)<(n:Int):=by omega
           by_cases hle:gs l x≤gs l y
           ·have HMN:=Bx.mk (HMr.out.takeLeft HWd.out HDA.out (by omega) (.inl HMA.out) (by omega) hi1 hx (.inr fun y' hy'=>by rw[hy] at hy'; obtain rfl:=Option.some.inj hy'; exact hle))
            have c1:decide (gs l x≤gs l y)=true:=by simpa using hle
            generalize gs l x=vx at *
            generalize gs l y=vy at *
            clear hx hy cellp cells
            go_wp2_with fail
            go_quiet (fail)
            generalize hwq:World.drewN wr nq=wq
            have HGQ:Bx (Gr wo wq _ q):=⟨by rw[←hwq]; exact HGr.out.keep ((Ch.refl _ _).drewN nq)⟩
            have hcx2:wq.cell? ⟨bp,op+i,none⟩=some (.int .i64 (x:Int)):=by rw[←hwq]; exact hcx
            clear hwq
            go_wp2_with (at_builtin; refine wp_app rfl (.tmp 96) (.tmp 101) elemI rfl rfl (HGQ.out.own.alloc _) rfl (Vs.one _ _ _) ?c1 ?c2 ?c3 ?_)
            case c1=>intro u hu; simp at hu; subst hu; rfl
            case c2=>omega
            case c3=>omega
            intro v5 w5 ho1 hg1 hb1
            have HG5:=Bx.mk (HGQ.out.one ho1 hg1 hb1)
            clear ho1 hg1 hb1
            go_wp2
            go_roundw
            case rel=>exact⟨i+1,k',_,by go_num,rfl,HMN.out,HG5.out⟩
            case measure=>simp[intOf]; omega
           ·have HMN:=Bx.mk (HMr.out.takeRight HWd.out HDA.out HMA.out (by omega) hk1 hy (.inr fun x' hx'=>by rw[hx] at hx'; obtain rfl:=Option.some.inj hx'; omega))
            have c1:decide (gs l x≤gs l y)=false:=by simp; omega
            generalize gs l x=vx at *
            generalize gs l y=vy at *
            clear hx hy cellp cells
            go_wp2_with fail
            go_quiet (fail)
            generalize hwq:World.drewN wr nq=wq
            have HGQ:Bx (Gr wo wq _ q):=⟨by rw[←hwq]; exact HGr.out.keep ((Ch.refl _ _).drewN nq)⟩
            have hcy2:wq.cell? ⟨bp,op+k',none⟩=some (.int .i64 (y:Int)):=by rw[←hwq]; exact hcy
            clear hwq
            go_wp2_with (at_builtin; refine wp_app rfl (.tmp 105) (.tmp 110) elemI rfl rfl (HGQ.out.own.alloc _) rfl (Vs.one _ _ _) ?c1 ?c2 ?c3 ?_)
            case c1=>intro u hu; simp at hu; subst hu; rfl
            case c2=>omega
            case c3=>omega
            intro v5 w5 ho1 hg1 hb1
            have HG5:=Bx.mk (HGQ.out.one ho1 hg1 hb1)
            clear ho1 hg1 hb1
            go_wp2
            go_roundw
            case rel=>exact⟨i,k'+1,_,rfl,by go_num,HMN.out,HG5.out⟩
            case measure=>simp[intOf]; omega
          ·have HMN:=Bx.mk (HMr.out.takeRight HWd.out HDA.out HMA.out (by omega) hk1 hy (.inl hi1))
           have r1:decide ((i:Int)<(m:Int))=false:=by simp; omega
           have r2:decide (i<m)=false:=by simp; omega
           clear hy cellp cells
           go_wp2_with fail
           go_quiet (fail)
           generalize hwq:World.drewN wr nq=wq
           have HGQ:Bx (Gr wo wq _ q):=⟨by rw[←hwq]; exact HGr.out.keep ((Ch.refl _ _).drewN nq)⟩
           have hcy2:wq.cell? ⟨bp,op+k',none⟩=some (.int .i64 (y:Int)):=by rw[←hwq]; exact hcy
           clear hwq
           go_wp2_with (at_builtin; refine wp_app rfl (.tmp 105) (.tmp 110) elemI rfl rfl (HGQ.out.own.alloc _) rfl (Vs.one _ _ _) ?c1 ?c2 ?c3 ?_)
           case c1=>intro u hu; simp at hu; subst hu; rfl
           case c2=>omega
           case c3=>omega
           intro v5 w5 ho1 hg1 hb1
           have HG5:=Bx.mk (HGQ.out.one ho1 hg1 hb1)
           clear ho1 hg1 hb1
           go_wp2
           go_roundw
           case rel=>exact⟨i,k'+1,_,rfl,by go_num,HMN.out,HG5.out⟩
           case measure=>simp[intOf]; omega
         ·have s1:decide ((z:Int)≤(k':Int))=true:=by simp; omega
          have s3:decide ((k':Int)<(z:Int))=false:=by simp; omega
          have s4:decide (k'<z)=false:=by simp; omega
          rcases Nat.lt_or_ge i m with hi1 | hi1
          ·obtain⟨bp,op,x,rfl,hx,hxn,hcx⟩:=cellp i (by omega)
           have HMN:=Bx.mk (HMr.out.takeLeft HWd.out HDA.out (by omega) (by omega) (by omega) hi1 hx (.inl hk1))
           have r1:decide ((i:Int)<(m:Int))=true:=by simp; omega
           have i1:(0:Int)≤(i:Int):=by omega
           have i2:(i:Int)<(n:Int):=by omega
           clear hx cellp cells
           go_wp2_with fail
           go_quiet (fail)
           generalize hwq:World.drewN wr nq=wq
           have HGQ:Bx (Gr wo wq _ q):=⟨by rw[←hwq]; exact HGr.out.keep ((Ch.refl _ _).drewN nq)⟩
           have hcx2:wq.cell? ⟨bp,op+i,none⟩=some (.int .i64 (x:Int)):=by rw[←hwq]; exact hcx
           clear hwq
           go_wp2_with (at_builtin; refine wp_app rfl (.tmp 96) (.tmp 101) elemI rfl rfl (HGQ.out.own.alloc _) rfl (Vs.one _ _ _) ?c1 ?c2 ?c3 ?_)
           case c1=>intro u hu; simp at hu; subst hu; rfl
           case c2=>omega
           case c3=>omega
           intro v5 w5 ho1 hg1 hb1
           have HG5:=Bx.mk (HGQ.out.one ho1 hg1 hb1)
           clear ho1 hg1 hb1
           go_wp2
           go_roundw
           case rel=>exact⟨i+1,k',_,by go_num,rfl,HMN.out,HG5.out⟩
           case measure=>simp[intOf]; omega
          ·have r1:decide ((i:Int)<(m:Int))=false:=by simp; omega
           have r2:decide (i<m)=false:=by simp; omega
           have HWq:=Bx.mk HMr.out.wd
           have hqe:q.length=min (a+2*W) n:=by have:=HZ.out; omega
           have HQE:=Bx.mk hqe
           have hda:=Nat.dvd_add HDA.out (Nat.dvd_refl (2*W))
           have HDN:=Bx.mk hda
           clear hqe hda cellp cells
           go_wp2_with fail
           go_roundw
           case rel=>exact⟨a+2*W,q,by go_num,HDN.out,by omega,HGr.out,HWq.out,HQE.out⟩
           case measure=>simp[intOf]; omega
      ·have da:decide ((a:Int)<(n:Int))=false:=by simp; omega
       obtain⟨A2,c2,rfl,hS2,_,_⟩:=hG.shape
       have hqn:q.length=n:=by omega
       rw[hqn] at hS2 ⊢
       have HS2:Bx (Sl wr (fun b=>w.heap.size≤b) .i64 A2 n (asI q)):=⟨hS2.mono (fun b _ hb=>Nat.le_trans HC.out.size hb)⟩
       have HWq:=Bx.mk hWq
       have HCC:=Bx.mk (HC.out.trans hG.ch (fun _ _ h=>h))
       clear hG hS2 hWq hql hqn
       go_wp2
       go_roundw
       case rel=>exact⟨2*W,A2,c2,q,by go_num,by omega,by omega,rfl,HS2.out,HWq.out,HCC.out⟩
       case measure=>simp[intOf]; omega
    ·have dW:decide ((W:Int)<(n:Int))=false:=by simp; omega
     have HT:=Bx.mk (hWd.srt (by rw[HL.out,hpl]) (by rw[HL.out]; omega))
     have HSp:=Bx.mk hSp
     have HCC:=Bx.mk hC
     clear hSp hWd hC
     go_wp2
     go_ret
     exact⟨A',c',p,rfl,HSp.out,HT.out,HCC.out⟩
end
end
section
open Go.RowKit Go.Oct Go.Su
def BRes (l:List Int) (n:Nat) (ec:Int) (m:Nat) (s:List Int):Prop:=(65536<n∧ec=5∧m=0∧s=[])∨(n≤65536∧(∀ s,¬Turned s l)∧ec=3∧m=0∧s=[])∨(n≤65536∧ec=0∧m=n∧Turned s l)
def BackAny (l:List Int) (n:Nat) (w:World) (e:Ending) (w':World):Prop:=∃ (A:Option Addr) (c m:Nat) (ec:Int) (s:List Int),e = .returned (.tuple #[.slice A m c, .int .i64 ec])∧Sl w' (fun b=>w.heap.size≤b) .i64 A m s∧BRes l n ec m s∧Ch (fun _=>False) w w'
theorem back_no {l:List Int} {n:Nat} {w w':World} (hn:n≤65536) (h:∀ s,¬Turned s l) (hc:Ch (fun _=>False) w w'):BackAny l n w (.returned (.tuple #[.slice none 0 0, .int .i64 3])) w' :=
 ⟨none,0,0,3,[],rfl,Sl.nil _ _ _ _, .inr (.inl ⟨hn,h,rfl,rfl,rfl⟩),hc⟩
structure Goes (l:List Int) (P:List Nat) (i:Nat) (G:List Nat):Prop where
 len:G.length=l.length
 at_:∀ j x,j<i→P[j]? = some x→G[x]? = some j
theorem goes_start (l:List Int) (P:List Nat):Goes l P 0 (List.replicate l.length 0):=⟨List.length_replicate ..,fun _ _ h=>absurd h (by omega)⟩
theorem Goes.next {l:List Int} {P G:List Nat} {i x:Nat} (h:Goes l P i G) (s:Srt l P) (hx:P[i]? = some x):Goes l P (i+1) (G.set x i):=by
 refine⟨by rw[List.length_set]; exact h.len,fun j y hj hy=>?_⟩
 by_cases e:j=i
 ·subst e
  obtain rfl:y=x:=Option.some.inj (hy.symm.trans hx)
  rw[List.getElem?_set_self (by rw[h.len]; exact s.lt y (List.mem_of_getElem? hx))]
 ·rw[List.getElem?_set_ne (fun e2=>e (by subst e2; exact at_one s.nodup hy hx))]
  exact h.at_ j y (by omega) hy
theorem Goes.all {l:List Int} {P G:List Nat} (h:Goes l P l.length G) (s:Srt l P) {x:Nat} (hx:x<l.length):G[x]? = some (lf l x):=by
 obtain⟨i,hi⟩:=s.find hx
 rw[s.lf hi]
 obtain⟨h1,_⟩:=List.getElem?_eq_some_iff.1 hi
 exact h.at_ i x (by rw[←s.len]; exact h1) hi
structure Bk (l:List Int) (j:Nat) (S:List Int):Prop where
 len:S.length=l.length
 at_:∀ p,l.length≤p+j+1→p<l.length→gs S p=gs (bck l) p
theorem bk_start (l:List Int):Bk l 0 (List.replicate l.length 0):=by
 refine⟨List.length_replicate ..,fun p h1 h2=>?_⟩
 rw[bck_at h2,if_pos (by omega)]
 exact gs_at (by rw[List.getElem?_replicate,if_pos h2])
theorem Bk.next {l:List Int} {j:Nat} {S:List Int} (h:Bk l j S) (hj:j+2≤l.length):Bk l (j+1) (S.set (l.length-2-j) (gs l (way l j))):=by
 refine⟨by rw[List.length_set]; exact h.len,fun p h1 h2=>?_⟩
 rw[gs_set (by rw[h.len]; omega)]
 by_cases e:l.length-2-j=p
 ·rw[if_pos e,bck_at h2,if_neg (by omega),show l.length-2-p=j by omega]
 ·rw[if_neg e]
  exact h.at_ p (by omega) h2
theorem Bk.all {l:List Int} {j:Nat} {S:List Int} (h:Bk l j S) (hj:l.length≤j+1):S=bck l :=
 gs_ext (by rw[h.len,bck_len]) fun p hp=>h.at_ p (by omega) (by rw[←h.len]; exact hp)
section
variable {F:Nat→Prop}
theorem refback_any (l:List Int) (A:Option Addr) (n c:Nat) (w:World) (hs:Sl w F .i64 A n l) (hn:n≤65536) :
  Calls Tryz.prog 123 #[.slice A n c] w (BackAny l n w):=by
 have HL:=Bx.mk hs.len
 have HS:=Bx.mk (hs.mono (G:=fun b=>b<w.heap.size) (fun b h _=>h))
 have d1:decide (65536<(n:Int))=false:=by simp; omega
 clear hs
 go_enter Tryz.func123,Tryz.ntmps123
 go_wp2_with fail
 go_loop [5,6] (fun x i=>∃ k:Nat,k≤n∧i = .int .i64 k∧x = .int .i64 (noughts l k:Nat)∧Bx (∀ p,p<k→0≤gs l p)) (fun _ i=>n-(intOf i).toNat)
 case atStart=>exact⟨0,Nat.zero_le _,rfl,rfl,⟨fun _ h=>absurd h (by omega)⟩⟩
 case round =>
  obtain⟨k,hk,rfl,rfl,hA⟩:=hrel
  by_cases hlt:k<n
  ·obtain⟨b,off,x,rfl,_,hx,hcx⟩:=HS.out.at_ hlt
   have hgx:=gs_at hx.out
   have hnn:=noughts_next hx.out
   have hle:=noughts_le l k
   have dk:decide ((k:Int)<(n:Int))=true:=by simp; omega
   by_cases h0:x<0
   ·have HN:Bx (∀ s,¬Turned s l):=⟨fun s t=>by
     have:=gs_pos t.rnd.pos (p:=k) (by rw[HL.out]; exact hlt)
     omega⟩
    have dx:decide (x<0)=true:=by simpa using h0
    clear hx hgx hnn
    go_wp2
    go_returns
    exact back_no hn HN.out (Ch.refl _ _)
   ·have dx:decide (x<0)=false:=by simpa using h0
    have HAN:Bx (∀ p,p<k+1→0≤gs l p):=⟨fun p hp=>by
     by_cases e:p=k
     ·subst e
      omega
     ·exact hA.out p (by omega)⟩
    have HNN:=Bx.mk hnn
    by_cases hx0:x=0
    ·have b1:(x==0)=true:=by simpa using hx0
     have HX0:=Bx.mk hx0
     obtain⟨y,hy⟩:∃ y,noughts l k=y:=⟨_,rfl⟩
     have HY:=Bx.mk hy
     rw[hy] at hle ⊢
     clear hx hgx hnn hx0 h0 hy hA
     go_wp2
     go_round
     case rel=>exact⟨k+1,by omega,by go_num,by rw[HNN.out,HY.out,if_pos HX0.out]; go_num,HAN⟩
     case measure=>simp[intOf]; omega
    ·have b1:(x==0)=false:=by simpa using hx0
     have HX0:=Bx.mk hx0
     clear hx hgx hnn hx0 h0 hA
     go_wp2
     go_round
     case rel=>exact⟨k+1,by omega,by go_num,by rw[HNN.out,if_neg HX0.out,Nat.add_zero],HAN⟩
     case measure=>simp[intOf]; omega
  ·have hkn:k=n:=by omega
   have dk:decide ((k:Int)<(n:Int))=false:=by simp; omega
   by_cases h1:noughts l n=1
   ·have hn0:0<n:=by
     rcases Nat.eq_zero_or_pos n with h | h
     ·subst h
      unfold noughts at h1
      simp at h1
     ·exact h
    have HN1:=Bx.mk h1
    have b1:(((noughts l k:Nat):Int) != 1)=false:=by rw[hkn,h1]; rfl
    have hst:Calls Tryz.prog 179 #[.slice A n c] w (Stab l n w):=by
     rcases Nat.lt_or_ge n 2 with h2 | h2
     ·exact stable_few l A n c w HL.out h2
     ·exact stable_many l A n c w HS.out hn h2
    clear hA hkn h1
    go_wp2_with fail
    refine hst.mono ?_
    rintro e w1 ⟨A1,c1,P,rfl,hSP,hT,hC1⟩
    have hmk:=mkI w1 n (by omega)
    have HT:=Bx.mk hT
    have HPl:Bx (P.length=n):=⟨by rw[hT.len,HL.out]⟩
    have HSP:Bx (Sl w1 (fun b=>b<w1.heap.size) .i64 A1 n (asI P)):=⟨hSP.mono (fun b h _=>h)⟩
    have HS1:Bx (Sl w1 (fun b=>b<w1.heap.size) .i64 A n l):=⟨(HS.out.ch hC1 (fun _ _ _ h=>h)).mono (fun b h _=>h)⟩
    have HC1:=Bx.mk hC1
    clear hSP hT hC1 hst
    go_wp2_with fail
    obtain⟨H,hH⟩:∃ H,w1.heap.size=H:=⟨_,rfl⟩
    obtain⟨w2,hw2⟩:∃ w2,w1.alloc (.cells (madeCells #[.int .i64 0] n) 3)=w2:=⟨_,rfl⟩
    have hC2:Ch (fun _=>False) w1 w2:=by rw[←hw2]; exact (Ch.refl (fun _=>False) w1).alloc _
    have hO2:Own w2 3 1 H n n (vals (List.replicate l.length 0)):=by
     unfold vals
     rw[HL.out,List.map_replicate,←hw2,←hH]
     exact own_made1 w1 3 (.int .i64 0) n (by omega)
    rw[hH] at HSP HS1
    have HSP2:Bx (Sl w2 (fun b=>b<H) .i64 A1 n (asI P)):=⟨HSP.out.ch hC2 (fun _ _ _ h=>h)⟩
    have HS2:Bx (Sl w2 (fun b=>b<H) .i64 A n l):=⟨HS1.out.ch hC2 (fun _ _ _ h=>h)⟩
    have HO2:=Bx.mk hO2
    have HHW:Bx (w.heap.size≤H):=⟨by rw[←hH]; exact HC1.out.size⟩
    have HC2:=Bx.mk (HC1.out.trans hC2 (fun _ _ h=>h))
    rw[hw2,hH]
    clear hw2 hH hC2 hO2 HSP HS1 HC1 hmk
    go_loopw [9] (fun i wr=>∃ (j:Nat) (G:List Nat),j≤n∧i = .int .i64 j∧Own wr 3 1 H n n (vals G)∧Goes l P j G∧Ch (fun b=>b=H) w2 wr) (fun i _=>n-(intOf i).toNat)
    case atStart=>exact⟨0,_,Nat.zero_le _,rfl,HO2.out,goes_start l P,Ch.refl _ _⟩
    case round =>
     obtain⟨j,G,hj,rfl,hO,hG,hC⟩:=hrel
     by_cases hjn:j<n
     ·have dj:decide ((j:Int)<(n:Int))=true:=by simp; omega
      obtain⟨b1,o1,x0,rfl,_,hx0,hcx⟩:=(HSP2.out.ch hC (fun b hb _ (e:b=H)=>by omega)).at_ hjn
      obtain⟨x,rfl,hx⟩:=asI_at hx0.out
      have hxn:x<n:=by rw[←HL.out]; exact HT.out.lt x (List.mem_of_getElem? hx)
      have hco:=hO.cellN hxn
      have hfo:=hO.frozenAt x
      have hst:=hO.storedN x j
      generalize gn G x=old at *
      have HGN:=Bx.mk (hG.next HT.out hx)
      have HST:=Bx.mk hst
      have HCC:=Bx.mk (hC.trans hst.2 (fun _ _ h=>h))
      have i1:(0:Int)≤(x:Int):=by omega
      have i2:(x:Int)<(n:Int):=by omega
      clear hO hG hC hx0 hx hst
      go_wp2
      go_roundw
      case rel=>exact⟨j+1,_,by omega,by go_num,HST.out.1,HGN.out,HCC.out⟩
      case measure=>simp[intOf]; omega
     ·have hjn':j=n:=by omega
      have dj:decide ((j:Int)<(n:Int))=false:=by simp; omega
      have HGA:Bx (∀ x,x<n→G[x]? = some (lf l x)):=⟨fun x hx=>by
       rw[hjn',←HL.out] at hG
       exact hG.all HT.out (by rw[HL.out]; exact hx)⟩
      have hmk:=mkI wr n (by omega)
      have HO:=Bx.mk hO
      have HHr:Bx (H<wr.heap.size):=⟨hO.lt⟩
      have HC3:=Bx.mk (HC2.out.trans hC (S:=fun _=>False) (fun i hi (e:i=H)=>by have:=HHW.out; omega))
      have HS3:Bx (Sl wr (fun b=>b<H) .i64 A n l):=⟨HS2.out.ch hC (fun b hb _ (e:b=H)=>by omega)⟩
      obtain⟨w3,rfl⟩:∃ w3:World,w3=wr:=⟨_,rfl⟩
      clear hO hG hC hjn' HSP2 HS2 HO2 HC2
      go_wp2_with fail
      obtain⟨K,hK⟩:∃ K,w3.heap.size=K:=⟨_,rfl⟩
      obtain⟨w4,hw4⟩:∃ w4,w3.alloc (.cells (madeCells #[.int .i64 0] n) 3)=w4:=⟨_,rfl⟩
      have hC4:Ch (fun _=>False) w3 w4:=by rw[←hw4]; exact (Ch.refl (fun _=>False) w3).alloc _
      have hO4:Own w4 3 1 K n n ((List.replicate l.length 0).map (Value.int .i64)):=by
       rw[HL.out,List.map_replicate,←hw4,←hK]
       exact own_made1 w3 3 (.int .i64 0) n (by omega)
      have HHK:Bx (H<K):=⟨by rw[←hK]; exact HHr.out⟩
      have HO4:=Bx.mk hO4
      have HG4:=Bx.mk (HO.out.keep hC4)
      have HS4:Bx (Sl w4 (fun b=>b<H) .i64 A n l):=⟨HS3.out.ch hC4 (fun _ _ _ h=>h)⟩
      have HC4:=Bx.mk (HC3.out.trans hC4 (fun _ _ h=>h))
      rw[hw4,hK]
      have hj2:(n:Int)-2=(n:Int)-2-((0:Nat):Int):=by omega
      clear hw4 hK hC4 hO4 hmk HO HC3 HS3 HHr
      go_loopw [11,12] (fun x i wr=>∃ (j:Nat) (S:List Int),j+1≤n∧i = .int .i64 ((n:Int)-2-(j:Int))∧x = .int .i64 (way l j:Nat)∧Own wr 3 1 K n n (S.map (Value.int .i64))∧Bk l j S∧Ch (fun b=>b=K) w4 wr) (fun _ i _=>(intOf i+1).toNat)
      case atStart=>exact⟨0,_,by omega,by first | rfl | (congr 1 <;> omega),rfl,HO4.out,bk_start l,Ch.refl _ _⟩
      case round =>
       obtain⟨j,S,hj,rfl,rfl,hO,hB,hC⟩:=hrel
       have hwl:way l j<n:=by rw[←HL.out]; exact way_lt (by rw[HL.out]; exact hn0) j
       by_cases hjn:j+2≤n
       ·obtain⟨p,hp⟩:∃ p:Nat,n-2-j=p:=⟨_,rfl⟩
        have hpi:(n:Int)-2-(j:Int)=(p:Int):=by omega
        have hpn:p<n:=by omega
        have hBn:=hB.next (by rw[HL.out]; exact hjn)
        rw[HL.out,hp] at hBn
        have hway:way l (j+1)=lf l (way l j):=rfl
        obtain⟨y,hy⟩:∃ y,lf l (way l j)=y:=⟨_,rfl⟩
        rw[hy] at hway
        have HWY:=Bx.mk hway
        obtain⟨b2,o2,rfl,_,hcl⟩:=Sl.gsAt (HS4.out.ch hC (fun b hb _ (e:b=K)=>by have:=HHK.out; omega)) hwl
        have hcg:=(HG4.out.ch hC (fun e=>by have e':H=K:=e; have:=HHK.out; omega)).cellN hwl
        rw[gn_at (HGA.out _ hwl),hy] at hcg
        have hco:=hO.cellI hpn
        have hfo:=hO.frozenAt p
        generalize gs l (way l j)=v at *
        generalize way l j=u at *
        have hst:=hO.storedI p v
        have hcg2:=hst.2.cell (p:=⟨H,u,none⟩) (fun e=>by have e':H=K:=e; have:=HHK.out; omega) hcg
        generalize S.getD p 0=old at *
        have HBN:=Bx.mk hBn
        have HST:=Bx.mk hst
        have HCC:=Bx.mk (hC.trans hst.2 (fun _ _ h=>h))
        have i1:(0:Int)≤(p:Int):=by omega
        have i2:(p:Int)<(n:Int):=by omega
        have i3:(0:Int)≤(u:Int):=by omega
        have i4:(u:Int)<(n:Int):=by omega
        have HPI:=Bx.mk hpi
        rw[hpi]
        clear hO hB hC hBn hst hp hpi hway hy hj2
        go_wp2
        go_roundw
        case rel=>exact⟨j+1,_,by omega,by first | (congr 1; have:=HPI.out; omega) | (have:=HPI.out; go_num),by rw[HWY.out],HST.out.1,HBN.out,HCC.out⟩
        case measure=>first | (simp[intOf]; done) | (simp[intOf]; omega)
       ·have hneg:(n:Int)-2-(j:Int) = -1:=by omega
        have hSe:=hB.all (by rw[HL.out]; omega)
        rw[hSe] at hO
        have htu:=refturn_any (bck l) (some ⟨K,0,none⟩) n n wr hO.sl hn
        have HO:=Bx.mk hO
        have HC5:=Bx.mk (HC4.out.trans hC (S:=fun _=>False) (fun i hi (e:i=K)=>by have:=HHK.out; have:=HHW.out; omega))
        have HS5:Bx (Sl wr (fun b=>b<H) .i64 A n l):=⟨HS4.out.ch hC (fun b hb _ (e:b=K)=>by have:=HHK.out; omega)⟩
        rw[hneg]
        clear hO hB hC hSe hneg hj2
        go_wp2_with fail
        refine htu.mono ?_
        rintro e w6 ⟨A6,c6,m6,ec,t,rfl,hS6,hr,hC6⟩
        rcases hr with ⟨h,_⟩ | ⟨_,hnc,rfl,rfl,rfl⟩ | ⟨_,rfl,rfl,ht⟩
        ·omega
        ·have HN:Bx (∀ s,¬Turned s l):=⟨fun s t=>hnc (by rw[t.bck]; exact t.closed)⟩
         have HC6:=Bx.mk (HC5.out.trans hC6 (fun _ _ h=>h))
         clear hS6 hnc hC6 htu
         go_wp2
         go_returns
         exact back_no hn HN.out HC6.out
        ·have HTT:=Bx.mk ht
         have HS6:=Bx.mk hS6
         have HL6:=Bx.mk (HS5.out.ch hC6 (fun _ _ _ h=>h))
         have HO6:=Bx.mk (HO.out.keep hC6)
         have HC6:=Bx.mk (HC5.out.trans hC6 (fun _ _ h=>h))
         have HKW:Bx (w.heap.size≤K):=⟨by have:=HHK.out; have:=HHW.out; omega⟩
         clear hS6 ht hC6 htu HO HC5 HS5
         go_wp2_with fail
         go_loopw [15] (fun i wr=>∃ k d:Nat,k≤m6∧i = .int .i64 k∧Bx (t.take k=l.take k)∧wr=w6.drewN d) (fun i _=>m6-(intOf i).toNat)
         case atStart=>exact⟨0,0,Nat.zero_le _,rfl,⟨rfl⟩,rfl⟩
         case round =>
          obtain⟨k,d,hk,rfl,hT,rfl⟩:=hrel
          by_cases hlt:k<m6
          ·obtain⟨b1,o1,x,rfl,_,ex,hc1⟩:=HS6.out.at_ hlt
           obtain⟨b2,o2,y,rfl,_,ey,hc2⟩:=HL6.out.at_ hlt
           have dk:decide ((k:Int)<(m6:Int))=true:=by simp; omega
           by_cases hxy:x=y
           ·subst hxy
            have hb:(x != x)=false:=by simp
            have HT2:Bx (t.take (k+1)=l.take (k+1)):=⟨by rw[List.take_add_one,List.take_add_one,hT.out,ex.out,ey.out]⟩
            clear ex ey hT
            go_wp2
            go_quiet (fail)
            go_wp2
            go_roundw
            case rel=>exact⟨k+1,_,by omega,by go_num,HT2,by first | rfl | exact World.drewN_drewN ..⟩
            case measure=>simp[intOf]; omega
           ·have hb:(x != y)=true:=by simpa using hxy
            have HN:Bx (∀ s,¬Turned s l):=⟨fun s ts=>by
             have h1:=HTT.out
             rw[ts.bck] at h1
             have h2:=h1.det ts
             rw[h2] at ex
             exact hxy (Option.some.inj (ex.out.symm.trans ey.out))⟩
            clear ex ey hT hxy
            go_wp2
            go_quiet (fail)
            go_wp2
            go_returns
            exact back_no hn HN.out (by first | exact HC6.out.drewN _ | exact (HC6.out.drewN _).drewN _)
          ·have h1:=hT.out
           have dk:decide ((k:Int)<(m6:Int))=false:=by simp; omega
           rw[List.take_of_length_le (by rw[HS6.out.len]; omega),List.take_of_length_le (by rw[HL.out]; omega)] at h1
           have HTF:Bx (Turned (bck l) l):=⟨by
            have h2:=HTT.out
            rw[h1] at h2
            exact h2⟩
           have HOF:Bx (Own (w6.drewN d) 3 1 K m6 m6 ((bck l).map (Value.int .i64))):=⟨HO6.out.keep ((Ch.refl (fun _=>False) w6).drewN d)⟩
           have HCF:=Bx.mk (HC6.out.drewN d)
           clear h1 hT
           go_wp2
           go_returns
           exact⟨_,m6,m6,0,bck l,rfl,HOF.out.sl.mono (fun b _ hb=>by have:=HKW.out; omega), .inr (.inr ⟨hn,rfl,rfl,HTF.out⟩),HCF.out⟩
   ·have HN:Bx (∀ s,¬Turned s l):=⟨fun s t=>h1 (by rw[←HL.out]; exact t.rnd.count)⟩
    have b1:(((noughts l k:Nat):Int) != 1)=true:=by
     rw[hkn]
     simp
     omega
    clear hA h1 hkn
    go_wp2
    go_returns
    exact back_no hn HN.out (Ch.refl _ _)
end
end
section
open Go.RowKit Go.Oct Go.Su
def TurnedOf (xss:List (List Int)) (w:World) (e:Ending) (w':World):Prop:=∃ (A:Option Addr) (c:Nat) (l:List Int),e = .returned (.slice A (txt xss).length c)∧Sl w' (fun b=>w.heap.size≤b) .i64 A (txt xss).length l∧Turned (txt xss) l∧Ch (fun _=>False) w w'
theorem Gs.sl {e:TypeId} {w wr:World} {A:Option Addr} {n c:Nat} {K:IntKind} {xs:List Int} (h:Gs e 1 w wr (.slice A n c) n (xs.map (Value.int K))):Sl wr (fun b=>w.heap.size≤b) K A n xs:=h.vs
section
variable {F:Nat→Prop}
theorem refturned_any (xss:List (List Int)) (A:Option Addr) (n c:Nat) (w:World) (hz:Sls w F A n xss) (hb:Byts xss) (hN:(txt xss).length≤65536) :
  Calls Tryz.prog 107 #[.slice A n c] w (TurnedOf xss w):=by
 have hr:=refrow_any xss A n c w hz hb (by omega)
 have HB:=Bx.mk hb
 clear hz hb
 go_enter Tryz.func107,Tryz.ntmps107
 go_wp2_with fail
 refine hr.mono ?_
 rintro e w1 ⟨v,rfl,hG⟩
 obtain⟨A1,c1,rfl,_,_⟩:=hG.shape
 have ht:=refturn_any (txt xss) A1 (txt xss).length c1 w1 hG.sl hN
 have HC:=Bx.mk hG.ch
 have HT:=Bx.mk ht
 clear hG hr ht
 obtain⟨N,hNe⟩:∃ N,(txt xss).length=N:=⟨_,rfl⟩
 have HNE:=Bx.mk hNe
 rw[hNe] at HT hN
 rw[hNe]
 clear hNe
 go_wp2_with fail
 refine HT.out.mono ?_
 rintro e w2 ⟨A2,c2,m,ec,l,rfl,hS,hR,hC⟩
 have HS:Bx (m=N∧Sl w2 (fun b=>w.heap.size≤b) .i64 A2 m l∧Turned (txt xss) l):=⟨by
  rcases hR with ⟨h1,_⟩ | ⟨_,h1,_⟩ | ⟨_,_,h2,h3⟩
  ·omega
  ·exact absurd (txt_closed HB.out.pos) h1
  ·exact⟨h2,hS.mono (fun b _ hb=>Nat.le_trans HC.out.size hb),h3⟩⟩
 have HC2:=Bx.mk (HC.out.trans hC (fun _ _ h=>h))
 clear hS hR hC HT
 go_wp2
 go_ret
 obtain⟨h1,h2,h3⟩:=HS.out
 subst h1
 rw[←HNE.out] at h2
 exact⟨A2,c2,l,by rw[HNE.out]; rfl,h2,h3,HC2.out⟩
def ext (xss:List (List Int)) (d f k:Int):List Int:=if d<0∨(xss.length:Int)≤d∨f<0∨k<0∨((xss.getD d.toNat []).length:Int)<f then [] else ((xss.getD d.toNat []).drop f.toNat).take k.toNat
def NewBytes (xs:List Int) (w:World) (e:Ending) (w':World):Prop:=∃ v,e = .returned v∧Fresh w v xs w'
theorem newbytes_nil (w:World):NewBytes [] w (.returned (.slice none 0 0)) w:=⟨_,rfl,World.ownsRow_nil _ _ _ _,fun g hg=>by simp[Value.ownBlock] at hg,Ch.refl _ _⟩
theorem own_made0 (w:World) (e:TypeId):(w.alloc (.cells #[] e)).ownsRow 0 e 1 (.slice (some ⟨w.heap.size,0,none⟩) 0 0) 0 []:=World.ownsRow_made w #[] 0 (Nat.zero_le _) (by unfold maxLen; omega) rfl
theorem fresh_made {w w5:World} {v5:Value} {m:Nat} {xs:List Int} (ho:w5.ownsRow 0 5 1 v5 m (xs.map (Value.int .u8))) (hg:(w.alloc (.cells #[] 5)).grownBy w5 (some w.heap.size)) (hb:v5.ownBlock=some w.heap.size∨v5.ownBlock=some (w.heap.size+1)):Fresh w v5 xs w5:=by
 have h0:Fresh w (.slice (some ⟨w.heap.size,0,none⟩) 0 0) [] (w.alloc (.cells #[] 5)):=⟨own_made0 w _,fun g hg=>by simp[Value.ownBlock] at hg; omega,(Ch.refl _ _).alloc _⟩
 have:=h0.app (zs:=xs) (m:=m) hg (by simpa using ho) (by
  rw[World.size_alloc]
  exact hb)
 rwa[List.nil_append] at this
theorem refext_any (xss:List (List Int)) (A:Option Addr) (n c:Nat) (d f k:Int) (w:World) (hz:Sls w F A n xss) (hN:∀ t∈xss,t.length≤1048576) :
  Calls Tryz.prog 33 #[.slice A n c, .int .i64 d, .int .i64 f, .int .i64 k] w (NewBytes (ext xss d f k) w):=by
 have HL:=Bx.mk hz.len
 have HZ:=Bx.mk hz
 obtain⟨r,hr⟩:∃ r,ext xss d f k=r:=⟨_,rfl⟩
 have HR:=Bx.mk hr
 rw[hr]
 clear hr hz
 by_cases h1:d<0
 ·have e1:decide (d<0)=true:=decide_eq_true h1
  obtain rfl:r=[]:=by rw[←HR.out]; unfold ext; rw[if_pos (.inl h1)]
  go_enter Tryz.func33,Tryz.ntmps33
  go_wp2
  go_ret
  exact newbytes_nil w
 ·have e1:decide (d<0)=false:=decide_eq_false h1
  by_cases h2:(n:Int)≤d
  ·have e2:decide ((n:Int)≤d)=true:=decide_eq_true h2
   obtain rfl:r=[]:=by rw[←HR.out]; unfold ext; rw[HL.out,if_pos (.inr (.inl h2))]
   go_enter Tryz.func33,Tryz.ntmps33
   go_wp2
   go_ret
   exact newbytes_nil w
  ·have e2:decide ((n:Int)≤d)=false:=decide_eq_false h2
   by_cases h3:f<0
   ·have e3:decide (f<0)=true:=decide_eq_true h3
    obtain rfl:r=[]:=by rw[←HR.out]; unfold ext; rw[if_pos (.inr (.inr (.inl h3)))]
    go_enter Tryz.func33,Tryz.ntmps33
    go_wp2
    go_ret
    exact newbytes_nil w
   ·have e3:decide (f<0)=false:=decide_eq_false h3
    by_cases h4:k<0
    ·have e4:decide (k<0)=true:=decide_eq_true h4
     obtain rfl:r=[]:=by rw[←HR.out]; unfold ext; rw[if_pos (.inr (.inr (.inr (.inl h4))))]
     go_enter Tryz.func33,Tryz.ntmps33
     go_wp2
     go_ret
     exact newbytes_nil w
    ·have e4:decide (k<0)=false:=decide_eq_false h4
     obtain⟨q,rfl⟩:∃ q:Nat,d=q:=⟨d.toNat,by omega⟩
     obtain⟨b,off,A',c',t,rfl,hFb,ex,hc,hsl,hlc,hcm⟩:=HZ.out.at_ (k:=q) (by omega)
     have hrt:r=if ((t.length:Int)<f) then [] else (t.drop f.toNat).take k.toNat:=by
      rw[←HR.out]
      unfold ext
      rw[HL.out,Int.toNat_natCast,List.getD_eq_getElem?_getD,ex.out]
      simp only[Option.getD_some]
      by_cases h5:(t.length:Int)<f
      ·rw[if_pos (.inr (.inr (.inr (.inr h5)))),if_pos h5]
      ·rw[if_neg (by rintro (g | g | g | g | g) <;> omega),if_neg h5]
     have htl:=hN t (List.mem_of_getElem? ex.out)
     have HSL:=Bx.mk hsl
     obtain⟨tl,htle⟩:∃ tl,t.length=tl:=⟨_,rfl⟩
     rw[htle] at hrt hc HSL hlc htl
     have HTL:=Bx.mk htle
     have HRT:=Bx.mk hrt
     have i1:(q:Int)<(n:Int):=by omega
     have hc63:c'≤9223372036854775807:=by unfold maxLen at hcm; omega
     clear hsl ex hrt htle HR
     by_cases h5:(tl:Int)<f
     ·have e5:decide ((tl:Int)<f)=true:=decide_eq_true h5
      obtain rfl:r=[]:=by rw[HRT.out,if_pos h5]
      go_enter Tryz.func33,Tryz.ntmps33
      go_wp2
      go_ret
      exact newbytes_nil w
     ·have e5:decide ((tl:Int)<f)=false:=decide_eq_false h5
      obtain⟨a,rfl⟩:∃ a:Nat,f=a:=⟨f.toNat,by omega⟩
      obtain⟨m,rfl⟩:∃ m:Nat,k=m:=⟨k.toNat,by omega⟩
      have hre:r=(t.drop a).take m:=by rw[HRT.out,if_neg h5]; rfl
      have HRE:=Bx.mk hre
      have i2:(a:Int)≤(c':Int):=by omega
      have i3:(a:Int)≤(tl:Int):=by omega
      obtain⟨g,hg⟩:∃ g,min m (tl-a)=g:=⟨_,rfl⟩
      have HG:Bx ((t.drop a).take m=(t.drop a).take g):=⟨by
       rw[←hg,←HTL.out,←List.length_drop]
       rcases Nat.le_total m (t.drop a).length with g1 | g1
       ·rw[Nat.min_eq_left g1]
       ·rw[Nat.min_eq_right g1,List.take_of_length_le g1,List.take_of_length_le (Nat.le_refl _)]⟩
      have hga:a+g≤tl:=by omega
      have hcase:((m:Int)<(tl:Int)-(a:Int)∧g=m)∨((g:Int)<(m:Int)∧(tl:Int)-(a:Int)=(g:Int))∨((tl:Int)-(a:Int)=(m:Int)∧g=m):=by omega
      have HCASE:=Bx.mk hcase
      clear hre h1 h2 h3 h4 h5 HRT hg hcase
      by_cases hatl:tl=a
      ·have hg0:g=0:=by omega
       obtain rfl:r=[]:=by rw[HRE.out,HG.out,hg0,List.take_zero]
       subst hatl
       clear HCASE hg0 hga HG HRE i3
       rcases Nat.eq_zero_or_pos m with rfl | hm0
       ·cases A' with
        | none =>
         have ha0:tl=0:=by
          rcases Nat.eq_zero_or_pos tl with g1 | g1
          ·exact g1
          ·obtain⟨_,_,_,e,_⟩:=HSL.out.at_ g1
           cases e
         subst ha0
         go_enter Tryz.func33,Tryz.ntmps33
         go_wp2
         go_ret
         exact⟨_,rfl,own_made0 w _,fun g hg=>by simp[Value.ownBlock] at hg; omega,(Ch.refl _ _).alloc _⟩
        | some ad =>
         rcases Nat.lt_or_ge tl c' with hca | hca
         ·have hca2:¬ c'=tl:=by omega
          go_enter Tryz.func33,Tryz.ntmps33
          go_wp2_with (at_builtin; refine wp_app rfl (.tmp 41) (.tmp 47) Tb rfl rfl (own_made0 w 5) rfl (Vs.nil _ (fun _=>True) _) ?c1 ?c2 ?c3 ?_)
          case c1=>intro u hu; cases hu
          case c2=>omega
          case c3=>omega
          intro v5 w5 ho1 hg1 hb1
          have HF:=Bx.mk (fresh_made (xs:=[]) ho1 hg1 hb1)
          clear ho1 hg1 hb1
          go_wp2
          go_ret
          exact⟨v5,rfl,HF.out⟩
         ·obtain rfl:c'=tl:=by omega
          go_enter Tryz.func33,Tryz.ntmps33
          go_wp2_with (at_builtin; refine wp_app rfl (.tmp 41) (.tmp 47) Tb rfl rfl (own_made0 w 5) rfl (Vs.nil _ (fun _=>True) _) ?c1 ?c2 ?c3 ?_)
          case c1=>intro u hu; cases hu
          case c2=>omega
          case c3=>omega
          intro v5 w5 ho1 hg1 hb1
          have HF:=Bx.mk (fresh_made (xs:=[]) ho1 hg1 hb1)
          clear ho1 hg1 hb1
          go_wp2
          go_ret
          exact⟨v5,rfl,HF.out⟩
       ·have m0:(0:Int)<(m:Int):=by omega
        cases A' with
        | none =>
         have ha0:tl=0:=by
          rcases Nat.eq_zero_or_pos tl with g1 | g1
          ·exact g1
          ·obtain⟨_,_,_,e,_⟩:=HSL.out.at_ g1
           cases e
         subst ha0
         go_enter Tryz.func33,Tryz.ntmps33
         go_wp2
         go_ret
         exact⟨_,rfl,own_made0 w _,fun g hg=>by simp[Value.ownBlock] at hg; omega,(Ch.refl _ _).alloc _⟩
        | some ad =>
         rcases Nat.lt_or_ge tl c' with hca | hca
         ·have hca2:¬ c'=tl:=by omega
          go_enter Tryz.func33,Tryz.ntmps33
          go_wp2_with (at_builtin; refine wp_app rfl (.tmp 41) (.tmp 47) Tb rfl rfl (own_made0 w 5) rfl (Vs.nil _ (fun _=>True) _) ?c1 ?c2 ?c3 ?_)
          case c1=>intro u hu; cases hu
          case c2=>omega
          case c3=>omega
          intro v5 w5 ho1 hg1 hb1
          have HF:=Bx.mk (fresh_made (xs:=[]) ho1 hg1 hb1)
          clear ho1 hg1 hb1
          go_wp2
          go_ret
          exact⟨v5,rfl,HF.out⟩
         ·obtain rfl:c'=tl:=by omega
          go_enter Tryz.func33,Tryz.ntmps33
          go_wp2_with (at_builtin; refine wp_app rfl (.tmp 41) (.tmp 47) Tb rfl rfl (own_made0 w 5) rfl (Vs.nil _ (fun _=>True) _) ?c1 ?c2 ?c3 ?_)
          case c1=>intro u hu; cases hu
          case c2=>omega
          case c3=>omega
          intro v5 w5 ho1 hg1 hb1
          have HF:=Bx.mk (fresh_made (xs:=[]) ho1 hg1 hb1)
          clear ho1 hg1 hb1
          go_wp2
          go_ret
          exact⟨v5,rfl,HF.out⟩
      ·obtain⟨b2,o2,x,rfl,_,_,_⟩:=HSL.out.at_ (show 0<tl by omega)
       have hsub:=(((HSL.out.drop (k:=a) (by omega)).take (k:=g) (by omega)).ch ((Ch.refl (fun _=>False) w).alloc (.cells #[] 5)) (fun _ _ _ h=>h))
       obtain⟨ys,hys⟩:∃ ys,(t.drop a).take g=ys:=⟨_,rfl⟩
       rw[hys] at hsub
       have HRY:Bx (r=ys):=⟨by rw[HRE.out,HG.out,hys]⟩
       have HSUB:=Bx.mk hsub
       have hg1:g≤1048576:=by omega
       have hca:¬ c'=a:=by omega
       have hca2:¬ tl-a=0:=by omega
       have hgc:(g:Int)≤(c':Int)-(a:Int):=by omega
       clear hsub hys
       go_enter Tryz.func33,Tryz.ntmps33
       rcases HCASE.out with ⟨g1,rfl⟩ | ⟨g1,g2⟩ | ⟨g1,rfl⟩
       ·go_wp2_with (at_builtin; refine wp_app rfl (.tmp 41) (.tmp 47) Tb rfl rfl (own_made0 w 5) rfl HSUB.out ?c1 ?c2 ?c3 ?_)
        case c1=>first | exact ints_cells _ _ | (intro u hu; rfl)
        case c2=>omega
        case c3=>omega
        intro v5 w5 ho1 hg1 hb1
        have HF:=Bx.mk (fresh_made ho1 hg1 hb1)
        clear ho1 hg1 hb1
        go_wp2
        go_ret
        exact⟨v5,rfl,by rw[HRY.out]; exact HF.out⟩
       ·obtain rfl:g=tl-a:=by omega
        clear g2
        go_wp2_with (at_builtin; refine wp_app rfl (.tmp 41) (.tmp 47) Tb rfl rfl (own_made0 w 5) rfl HSUB.out ?c1 ?c2 ?c3 ?_)
        case c1=>first | exact ints_cells _ _ | (intro u hu; rfl)
        case c2=>omega
        case c3=>omega
        intro v5 w5 ho1 hg1 hb1
        have HF:=Bx.mk (fresh_made ho1 hg1 hb1)
        clear ho1 hg1 hb1
        go_wp2
        go_ret
        exact⟨v5,rfl,by rw[HRY.out]; exact HF.out⟩
       ·go_wp2_with (at_builtin; refine wp_app rfl (.tmp 41) (.tmp 47) Tb rfl rfl (own_made0 w 5) rfl HSUB.out ?c1 ?c2 ?c3 ?_)
        case c1=>first | exact ints_cells _ _ | (intro u hu; rfl)
        case c2=>omega
        case c3=>omega
        intro v5 w5 ho1 hg1 hb1
        have HF:=Bx.mk (fresh_made ho1 hg1 hb1)
        clear ho1 hg1 hb1
        go_wp2
        go_ret
        exact⟨v5,rfl,by rw[HRY.out]; exact HF.out⟩
end
end
end Go.Proofs.YtambgjpfoceieaaGreatDoor
