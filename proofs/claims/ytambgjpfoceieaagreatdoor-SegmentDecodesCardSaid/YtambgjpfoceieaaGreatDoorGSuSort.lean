/- Lemmas and contracts of this proof. Conditions: said at each. -/
import Derived.Test.YtambgjpfoceieaaGreatDoorGSgLift
set_option maxHeartbeats 8000000
set_option maxRecDepth 100000
namespace Go.Proofs.YtambgjpfoceieaaGreatDoor
section
open Go.RowKit Go.Oct Go.Su
def srt (le:Nat→Nat→Bool):Nat→List Nat→List Nat
 | 0,l=>l
 | f+1,l=>if l.length<2 then l else List.merge (srt le f (l.take (l.length/2))) (srt le f (l.drop (l.length/2))) le
theorem srt_perm (le:Nat→Nat→Bool):∀ (f:Nat) (l:List Nat),(srt le f l).Perm l
 | 0,l=>List.Perm.refl l
 | f+1,l=>by
  unfold srt
  split
  ·exact List.Perm.refl l
  ·refine (List.merge_perm_append le).trans ?_
   have h:=((srt_perm le f (l.take (l.length/2))).append (srt_perm le f (l.drop (l.length/2))))
   rwa[List.take_append_drop] at h
theorem srt_len (le:Nat→Nat→Bool) (f:Nat) (l:List Nat):(srt le f l).length=l.length:=(srt_perm le f l).length_eq
theorem srt_sorted {le:Nat→Nat→Bool} (ht:∀ a b c,le a b=true→le b c=true→le a c=true) (hl:∀ a b,(le a b||le b a)=true):∀ (f:Nat) (l:List Nat),l.length≤f→(srt le f l).Pairwise (fun a b=>le a b=true)
 | 0,l,h=>by
  obtain rfl:l=[]:=List.eq_nil_of_length_eq_zero (by omega)
  exact List.Pairwise.nil
 | f+1,l,h=>by
  unfold srt
  split
  ·rename_i h2
   match l,h2 with
   | [],_=>exact List.Pairwise.nil
   | [x],_=>exact List.pairwise_singleton _ _
  ·exact List.pairwise_merge ht hl _ _ (srt_sorted ht hl f _ (by rw[List.length_take]; omega)) (srt_sorted ht hl f _ (by rw[List.length_drop]; omega))
def leB (rank:List Int) (step:Nat) (x y:Nat):Bool:=!befB rank step y x
theorem befB_iff (rank:List Int) (step a b:Nat):befB rank step a b=true↔gs rank a<gs rank b∨(step≠0∧gs rank a=gs rank b∧gs rank (a+step)<gs rank (b+step)):=by
 unfold befB lessB
 split
 ·rename_i h
  simp[h]
 ·rename_i h
  simp[h]
theorem leB_iff (rank:List Int) (step a b:Nat):leB rank step a b=true↔gs rank a<gs rank b∨(gs rank a=gs rank b∧(step=0∨gs rank (a+step)≤gs rank (b+step))):=by
 unfold leB
 have h:=befB_iff rank step b a
 rw[Bool.not_eq_true',←Bool.not_eq_true,h]
 omega
theorem leB_trans (rank:List Int) (step a b c:Nat) (h1:leB rank step a b=true) (h2:leB rank step b c=true):leB rank step a c=true:=by
 rw[leB_iff] at *
 omega
theorem leB_total (rank:List Int) (step a b:Nat):(leB rank step a b||leB rank step b a)=true:=by
 rw[Bool.or_eq_true,leB_iff,leB_iff]
 omega
theorem merge_x {le:Nat→Nat→Bool} {X Y:List Nat} {i k x:Nat} (hx:X[i]? = some x) (h:Y.length≤k∨∃ y,Y[k]? = some y∧le x y=true):List.merge (X.drop i) (Y.drop k) le=x::List.merge (X.drop (i+1)) (Y.drop k) le:=by
 obtain⟨h1,h2⟩:=List.getElem?_eq_some_iff.1 hx
 rw[List.drop_eq_getElem_cons h1,h2]
 rcases h with h | ⟨y,hy,hle⟩
 ·rw[List.drop_of_length_le h,List.merge_right,List.merge_right]
 ·obtain⟨h3,h4⟩:=List.getElem?_eq_some_iff.1 hy
  rw[List.drop_eq_getElem_cons h3,h4,List.cons_merge_cons_pos _ _ _ hle]
theorem merge_y {le:Nat→Nat→Bool} {X Y:List Nat} {i k y:Nat} (hy:Y[k]? = some y) (h:X.length≤i∨∃ x,X[i]? = some x∧le x y=false):List.merge (X.drop i) (Y.drop k) le=y::List.merge (X.drop i) (Y.drop (k+1)) le:=by
 obtain⟨h1,h2⟩:=List.getElem?_eq_some_iff.1 hy
 rw[List.drop_eq_getElem_cons h1,h2]
 rcases h with h | ⟨x,hx,hle⟩
 ·rw[List.drop_of_length_le h,List.nil_merge,List.nil_merge]
 ·obtain⟨h3,h4⟩:=List.getElem?_eq_some_iff.1 hx
  rw[List.drop_eq_getElem_cons h3,h4,List.cons_merge_cons,if_neg (by rw[hle]; decide)]
theorem own_none (w:World):(w.alloc (.cells #[] 3)).ownsRow 0 3 1 (.slice (some ⟨w.heap.size,0,none⟩) 0 0) 0 []:=World.ownsRow_made w #[] 0 (Nat.zero_le _) (by unfold maxLen; omega) rfl
theorem before_val {F:Nat→Prop} (rank:List Int) (A:Option Addr) (n c step a b:Nat) (r:Bool) (w:World) (m:Nat) (hs:Sl w F .i64 A n rank) (hn:n≤1048576) (hst:step≤1048576) (ha:a<n) (hb:b<n) (hr:befB rank step a b=r) :
  Calls Tryz.prog 242 #[.slice A n c, .int .i64 step, .int .i64 a, .int .i64 b] (w.drewN m) fun e w'=>e = .returned (.bool r)∧∃ k,w'=w.drewN k:=by
 subst hr
 exact before_quiet rank A n c step a b w m hs hn hst ha hb
theorem Gr.app {w wm w2:World} {v v':Value} {ys:List Nat} {n:Nat} (h:Gr w wm v []) (hn:ys.length=n) (ho:w2.ownsRow 0 3 1 v' n (vals ys)) (hg:wm.grownBy w2 v.ownBlock) (hb:v'.ownBlock=v.ownBlock∨v'.ownBlock=some wm.heap.size):Gr w w2 v' ys:=by
 have:=h.moreN (xs:=[]) (ys:=ys) (k:=0) rfl hn (Ch.refl _ _) (by rw[Nat.zero_add]; exact ho) hg hb
 exact this
theorem gr_none (w:World):Gr w (w.alloc (.cells #[] 3)) (.slice (some ⟨w.heap.size,0,none⟩) 0 0) []:=⟨own_none w,fun g hg=>by simp[Value.ownBlock] at hg; omega,(Ch.refl _ _).alloc _⟩
theorem gr_made (w:World) (n:Nat) (hn:n≤1048576):Gr w (w.alloc (.cells (madeCells #[.int .i64 0] n) 3)) (.slice (some ⟨w.heap.size,0,none⟩) 0 n) [] :=
 ⟨World.ownsRow_made (base:=0) (e := 3) (size:=1) w (madeCells #[.int .i64 0] n) n (Nat.zero_le _) (by unfold maxLen; omega) (by simp[madeCells]),fun g hg=>by simp[Value.ownBlock] at hg; omega,(Ch.refl _ _).alloc _⟩
def Sorted (l:List Nat) (n:Nat) (F:Nat→Prop) (w:World) (e:Ending) (w':World):Prop:=∃ (A:Option Addr) (c:Nat),e = .returned (.slice A n c)∧Sl w' (fun b=>F b∨w.heap.size≤b) .i64 A n (asI l)∧n≤c∧c≤maxLen∧Ch (fun _=>False) w w'
theorem sort_any (rank:List Int) (R:Option Addr) (N cr step:Nat) (hN:N≤1048576) (hst:step≤1048576):∀ (f:Nat) (l:List Nat) (A:Option Addr) (n c:Nat) (w:World) (F G:Nat→Prop),l.length≤f→Sl w F .i64 A n (asI l)→Sl w G .i64 R N rank→n≤c→c≤maxLen→n≤1048576→(∀ x∈l,x<N) →
  Calls Tryz.prog 241 #[.slice A n c, .slice R N cr, .int .i64 step] w (Sorted (srt (leB rank step) f l) n F w):=by
 intro f
 induction f with
 | zero => 
  intro l A n c w F G hf hs hr hc hcm hn hm
  obtain rfl:l=[]:=List.eq_nil_of_length_eq_zero (by omega)
  have hn0:n=0:=hs.len.symm
  subst hn0
  have HS:=Bx.mk hs
  have HCM:=Bx.mk hcm
  clear hs hr hcm
  go_enter Tryz.func241,Tryz.ntmps241
  go_wp2
  go_ret
  exact⟨A,c,rfl,HS.out.mono (fun _ _ h => .inl h),Nat.zero_le _,HCM.out,Ch.refl _ _⟩
 | succ f ih =>
  intro l A n c w F G hf hs hr hc hcm hn hm
  have hl:l.length=n:=by rw[←asI_len]; exact hs.len
  have HIH:=Bx.mk ih
  have HM:=Bx.mk hm
  have HS:=Bx.mk hs
  have HR:=Bx.mk hr
  have HCM:=Bx.mk hcm
  have HL:=Bx.mk hl
  have HF:=Bx.mk hf
  clear ih hm hs hr hcm hl hf
  by_cases h2:n<2
  ·have hsrt:srt (leB rank step) (f+1) l=l:=by unfold srt; rw[if_pos (by rw[HL.out]; exact h2)]
   rw[hsrt]
   clear hsrt
   go_enter Tryz.func241,Tryz.ntmps241
   go_wp2
   go_ret
   exact⟨A,c,rfl,HS.out.mono (fun _ _ h => .inl h),hc,HCM.out,Ch.refl _ _⟩
  ·obtain⟨b0,o0,x0,rfl,_,_,_⟩:=HS.out.at_ (k:=0) (by omega)
   obtain⟨k,hk⟩:∃ k,n/2=k:=⟨_,rfl⟩
   obtain⟨m,hm⟩:∃ m,n-k=m:=⟨_,rfl⟩
   have hkn:k+m=n:=by omega
   have hk1:1≤k∧1≤m∧k≤f∧m≤f:=by have:=HF.out; have:=HL.out; omega
   have hsrt:srt (leB rank step) (f+1) l=List.merge (srt (leB rank step) f (l.take k)) (srt (leB rank step) f (l.drop k)) (leB rank step):=by
    have h3:¬ l.length<2:=by rw[HL.out]; exact h2
    rw[show srt (leB rank step) (f+1) l=if l.length<2 then l else List.merge (srt (leB rank step) f (l.take (l.length/2))) (srt (leB rank step) f (l.drop (l.length/2))) (leB rank step) from rfl,if_neg h3,HL.out,hk]
   rw[hsrt]
   have e1:asI (l.take k)=(asI l).take k:=by unfold asI; rw[List.map_take]
   have e2:asI (l.drop k)=(asI l).drop k:=by unfold asI; rw[List.map_drop]
   have hS1:Sl (w.alloc (.cells #[] 3)) F .i64 (some ⟨b0,o0,none⟩) k (asI (l.take k)):=by rw[e1]; exact (HS.out.take (by omega)).alloc _
   have hV1:Vs (w.alloc (.cells #[] 3)) F (some ⟨b0,o0,none⟩) k (vals (l.take k)):=by rw[←vals_asI]; exact hS1
   have hS2:Sl w F .i64 (some ⟨b0,o0+k,none⟩) m (asI (l.drop k)):=by rw[e2,←hm]; exact HS.out.drop (by omega)
   have hG0:Gr w (w.alloc (.cells #[] 3)) (.slice (some ⟨w.heap.size,0,none⟩) 0 0) []:=⟨own_none w,fun g hg=>by simp[Value.ownBlock] at hg; omega,(Ch.refl _ _).alloc _⟩
   have hm1:∀ x∈l.take k,x<N:=fun x hx=>HM.out x (List.mem_of_mem_take hx)
   have hm2:∀ x∈l.drop k,x<N:=fun x hx=>HM.out x (List.mem_of_mem_drop hx)
   have hlen1:(l.take k).length=k:=by rw[List.length_take,HL.out]; omega
   have hlen2:(l.drop k).length=m:=by rw[List.length_drop,HL.out]; omega
   generalize l.take k=L1 at *
   generalize l.drop k=L2 at *
   have HV1:=Bx.mk hV1
   have HS2:=Bx.mk hS2
   have HG0:=Bx.mk hG0
   have HON:=Bx.mk (own_none w)
   have HM1:=Bx.mk hm1
   have HM2:=Bx.mk hm2
   have HL1:=Bx.mk hlen1
   have HL2:=Bx.mk hlen2
   have HK:=Bx.mk hk
   have HMM:=Bx.mk hm
   have hq2:(n:Int)/2=(k:Int):=by omega
   have hcn:(c:Int)-(k:Int)=((c-k:Nat):Int):=by omega
   clear hsrt e1 e2 hS1 hV1 hS2 hG0 hm1 hm2 hlen1 hlen2
   go_enter Tryz.func241,Tryz.ntmps241
   go_wp2_with (at_builtin; refine wp_app rfl (.tmp 16) (.tmp 21) elemI rfl rfl HON.out rfl HV1.out ?c1 ?c2 ?c3 ?_)
   case c1=>exact vals_cells L1
   case c2=>omega
   case c3=>omega
   intro v1 w1 ho1 hg1 hb1
   have hG1:=HG0.out.app HL1.out ho1 hg1 (by rw[World.size_alloc]; exact hb1)
   obtain⟨A1,c1,rfl,hSl1,hcc1,hcm1⟩:=hG1.shape
   rw[HL1.out] at hSl1 hcc1
   have hl1':=HL1.out
   rw[hl1'] at hG1 ⊢
   have HSl1:=Bx.mk hSl1
   have HC1:=Bx.mk hG1.ch
   have HCM1:=Bx.mk hcm1
   have HR1:Bx (Sl w1 G .i64 R N rank):=⟨HR.out.ch hG1.ch (fun _ _ _ h=>h)⟩
   have HS21:Bx (Sl w1 F .i64 (some ⟨b0,o0+k,none⟩) m (asI L2)):=⟨HS2.out.ch hG1.ch (fun _ _ _ h=>h)⟩
   have HF1:Bx (L1.length≤f):=⟨by omega⟩
   have HF2:Bx (L2.length≤f):=⟨by have:=HL2.out; omega⟩
   clear ho1 hg1 hb1 hG1 hSl1 hcm1 hl1'
   go_wp2_with fail
   refine (HIH.out L1 A1 k c1 _ _ _ HF1.out HSl1.out HR1.out hcc1 HCM1.out (by omega) HM1.out).mono ?_
   rintro e w2 ⟨A2,c2,rfl,hX,hcc2,hcm2,hC2⟩
   obtain⟨X,hXd⟩:∃ X,srt (leB rank step) f L1=X:=⟨_,rfl⟩
   have hXl:X.length=k:=by rw[←hXd,srt_len]; exact HL1.out
   rw[hXd] at hX ⊢
   have HXL:=Bx.mk hXl
   have HXD:=Bx.mk hXd
   have HXM:Bx (∀ x∈X,x<N):=⟨fun x hx=>HM1.out x ((srt_perm _ _ _).mem_iff.1 (by rw[hXd]; exact hx))⟩
   have HX:=Bx.mk hX
   have HC2:=Bx.mk (HC1.out.trans hC2 (fun _ _ h=>h))
   have HR2:Bx (Sl w2 G .i64 R N rank):=⟨HR1.out.ch hC2 (fun _ _ _ h=>h)⟩
   have hS22:Sl w2 F .i64 (some ⟨b0,o0+k,none⟩) m (asI L2):=HS21.out.ch hC2 (fun _ _ _ h=>h)
   have hV2:Vs (w2.alloc (.cells #[] 3)) F (some ⟨b0,o0+k,none⟩) m (vals L2):=by rw[←vals_asI]; exact hS22.alloc _
   have HV2:=Bx.mk hV2
   have HON2:=Bx.mk (own_none w2)
   clear hX hC2 hS22 hV2 hXd hXl hcc2 hcm2
   go_wp2_with (at_builtin; refine wp_app rfl (.tmp 26) (.tmp 31) elemI rfl rfl HON2.out rfl HV2.out ?c1 ?c2 ?c3 ?_)
   case c1=>exact vals_cells L2
   case c2=>omega
   case c3=>omega
   intro v3 w3 ho1 hg1 hb1
   have hG3:=(gr_none w2).app HL2.out ho1 hg1 (by rw[World.size_alloc]; exact hb1)
   obtain⟨A3,c3,rfl,hSl3,hcc3,hcm3⟩:=hG3.shape
   rw[HL2.out] at hSl3 hcc3
   have hl2':=HL2.out
   rw[hl2'] at hG3 ⊢
   have HSl3:=Bx.mk hSl3
   have HC3:=Bx.mk (HC2.out.trans hG3.ch (fun _ _ h=>h))
   have HCM3:=Bx.mk hcm3
   have HR3:Bx (Sl w3 G .i64 R N rank):=⟨HR2.out.ch hG3.ch (fun _ _ _ h=>h)⟩
   have HX3:=Bx.mk (HX.out.ch hG3.ch (fun _ _ _ h=>h))
   clear ho1 hg1 hb1 hG3 hSl3 hcm3 hl2'
   go_wp2_with fail
   refine (HIH.out L2 A3 m c3 _ _ _ HF2.out HSl3.out HR3.out hcc3 HCM3.out (by omega) HM2.out).mono ?_
   rintro e w4 ⟨A4,c4,rfl,hY,hcc4,hcm4,hC4⟩
   obtain⟨Y,hYd⟩:∃ Y,srt (leB rank step) f L2=Y:=⟨_,rfl⟩
   have hYl:Y.length=m:=by rw[←hYd,srt_len]; exact HL2.out
   rw[hYd] at hY ⊢
   have HYL:=Bx.mk hYl
   have HYD:=Bx.mk hYd
   have HYM:Bx (∀ x∈Y,x<N):=⟨fun x hx=>HM2.out x ((srt_perm _ _ _).mem_iff.1 (by rw[hYd]; exact hx))⟩
   have HY:=Bx.mk hY
   have HC4:=Bx.mk (HC3.out.trans hC4 (fun _ _ h=>h))
   have HR4:Bx (Sl w4 G .i64 R N rank):=⟨HR3.out.ch hC4 (fun _ _ _ h=>h)⟩
   have HX4:=Bx.mk (HX3.out.ch hC4 (fun _ _ _ h=>h))
   have hmk:=run_mkI0 n hn w4
   have HGM:=Bx.mk (gr_made w4 n hn)
   clear hY hC4 hYd hYl hcc4 hcm4
   go_wp2_with fail
   go_loopw [9,10,11] (fun r i j wr=>∃ (p q:Nat) (done:List Nat),p≤k∧q≤m∧i = .int .i64 p∧j = .int .i64 q∧Gr w4 wr r done∧done.length=p+q∧done++List.merge (X.drop p) (Y.drop q) (leB rank step)=List.merge X Y (leB rank step)) (fun _ i j _=>(k+m)-((intOf i).toNat+(intOf j).toNat))
   case atStart=>exact⟨0,0,[],Nat.zero_le _,Nat.zero_le _,rfl,rfl,HGM.out,rfl,rfl⟩
   case round =>
    obtain⟨p,q,done,hp,hq,rfl,rfl,hG,hdl,hdone⟩:=hrel
    obtain⟨A5,c5,rfl,_,_⟩:=own_shape hG.own
    have HDL:=Bx.mk hdl
    have HDN:=Bx.mk hdone
    have hd20:done.length≤1048576:=by omega
    by_cases hpk:p<k
    ·obtain⟨b1,o1,x0,rfl,_,hx0,hcx⟩:=(HX4.out.ch hG.ch (fun _ _ _ h=>h)).at_ hpk
     obtain⟨x,rfl,hx⟩:=asI_at hx0.out
     have hxN:=HXM.out x (List.mem_of_getElem? hx)
     have d1:decide ((p:Int)<(k:Int))=true:=by simp; omega
     have d1':decide (p<k)=true:=by simp; omega
     by_cases hqm:q<m
     ·obtain⟨b2,o2,y0,rfl,_,hy0,hcy⟩:=(HY.out.ch hG.ch (fun _ _ _ h=>h)).at_ hqm
      obtain⟨y,rfl,hy⟩:=asI_at hy0.out
      have hyN:=HYM.out y (List.mem_of_getElem? hy)
      have hRr:Sl wr G .i64 R N rank:=HR4.out.ch hG.ch (fun _ _ _ h=>h)
      have d2:decide ((m:Int)≤(q:Int))=false:=by simp; omega
      have d2':decide (m≤q)=false:=by simp; omega
      have d3:decide ((q:Int)<(m:Int))=true:=by simp; omega
      have i1:(0:Int)≤(q:Int):=by omega
      have i2:(q:Int)<(m:Int):=by omega
      have i3:(0:Int)≤(p:Int):=by omega
      have i4:(p:Int)<(k:Int):=by omega
      have HRr:=Bx.mk hRr
      have HyN:=Bx.mk hyN
      have HxN:=Bx.mk hxN
      have HX':=Bx.mk hx
      have HY':=Bx.mk hy
      have HGg:=Bx.mk hG
      clear hx0 hx hy0 hy hG hRr hyN hxN hdl hdone
      cases hbf:befB rank step y x
      ·have HST:Bx (List.merge (X.drop p) (Y.drop q) (leB rank step)=x::List.merge (X.drop (p+1)) (Y.drop q) (leB rank step)):=⟨merge_x HX'.out (.inr ⟨y,HY'.out,by unfold leB; rw[hbf]; rfl⟩)⟩
       have HBF:=Bx.mk hbf
       clear hbf
       go_wp2_with fail
       go_quiet ((go_at_call 242; exact before_val rank R N cr step y x false wr _ HRr.out hN hst HyN.out HxN.out HBF.out))
       generalize hwq:World.drewN wr nq=wq
       have HGQ:Bx (Gr w4 wq _ done):=⟨by rw[←hwq]; exact HGg.out.keep ((Ch.refl _ _).drewN nq)⟩
       have hcx2:wq.cell? ⟨b1,o1+p,none⟩=some (.int .i64 (x:Int)):=by rw[←hwq]; exact hcx
       clear hwq
       go_wp2_with (at_builtin; refine wp_app rfl (.tmp 73) (.tmp 78) elemI rfl rfl (HGQ.out.own.alloc _) rfl (Vs.one _ _ _) ?c1 ?c2 ?c3 ?_)
       case c1=>intro u hu; simp at hu; subst hu; rfl
       case c2=>omega
       case c3=>omega
       intro v5 w5 ho1 hg1 hb1
       have HG5:=Bx.mk (HGQ.out.one ho1 hg1 hb1)
       clear ho1 hg1 hb1
       go_wp2
       go_roundw
       case rel=>exact⟨p+1,q,done++[x],by omega,by omega,by go_num,by go_num,HG5.out,by rw[List.length_append,HDL.out]; simp; omega,by rw[List.append_assoc,←HDN.out,HST.out]; rfl⟩
       case measure=>simp[intOf]; omega
      ·have HST:Bx (List.merge (X.drop p) (Y.drop q) (leB rank step)=y::List.merge (X.drop p) (Y.drop (q+1)) (leB rank step)):=⟨merge_y HY'.out (.inr ⟨x,HX'.out,by unfold leB; rw[hbf]; rfl⟩)⟩
       have HBF:=Bx.mk hbf
       clear hbf
       go_wp2_with fail
       go_quiet ((go_at_call 242; exact before_val rank R N cr step y x true wr _ HRr.out hN hst HyN.out HxN.out HBF.out))
       generalize hwq:World.drewN wr nq=wq
       have HGQ:Bx (Gr w4 wq _ done):=⟨by rw[←hwq]; exact HGg.out.keep ((Ch.refl _ _).drewN nq)⟩
       have hcy2:wq.cell? ⟨b2,o2+q,none⟩=some (.int .i64 (y:Int)):=by rw[←hwq]; exact hcy
       clear hwq
       go_wp2_with (at_builtin; refine wp_app rfl (.tmp 82) (.tmp 87) elemI rfl rfl (HGQ.out.own.alloc _) rfl (Vs.one _ _ _) ?c1 ?c2 ?c3 ?_)
       case c1=>intro u hu; simp at hu; subst hu; rfl
       case c2=>omega
       case c3=>omega
       intro v5 w5 ho1 hg1 hb1
       have HG5:=Bx.mk (HGQ.out.one ho1 hg1 hb1)
       clear ho1 hg1 hb1
       go_wp2
       go_roundw
       case rel=>exact⟨p,q+1,done++[y],by omega,by omega,by go_num,by go_num,HG5.out,by rw[List.length_append,HDL.out]; simp; omega,by rw[List.append_assoc,←HDN.out,HST.out]; rfl⟩
       case measure=>simp[intOf]; omega
     ·have d2:decide ((m:Int)≤(q:Int))=true:=by simp; omega
      have d2':decide (m≤q)=true:=by simp; omega
      have d3:decide ((q:Int)<(m:Int))=false:=by simp; omega
      have HST:Bx (List.merge (X.drop p) (Y.drop q) (leB rank step)=x::List.merge (X.drop (p+1)) (Y.drop q) (leB rank step)):=⟨merge_x hx (.inl (by rw[HYL.out]; omega))⟩
      have HGg:=Bx.mk hG
      clear hx0 hx hG hxN hdl hdone
      have hz:True:=trivial
      ·go_wp2_with fail
       go_quiet (fail)
       generalize hwq:World.drewN wr nq=wq
       have HGQ:Bx (Gr w4 wq _ done):=⟨by rw[←hwq]; exact HGg.out.keep ((Ch.refl _ _).drewN nq)⟩
       have hcx2:wq.cell? ⟨b1,o1+p,none⟩=some (.int .i64 (x:Int)):=by rw[←hwq]; exact hcx
       clear hwq
       go_wp2_with (at_builtin; refine wp_app rfl (.tmp 73) (.tmp 78) elemI rfl rfl (HGQ.out.own.alloc _) rfl (Vs.one _ _ _) ?c1 ?c2 ?c3 ?_)
       case c1=>intro u hu; simp at hu; subst hu; rfl
       case c2=>omega
       case c3=>omega
       intro v5 w5 ho1 hg1 hb1
       have HG5:=Bx.mk (HGQ.out.one ho1 hg1 hb1)
       clear ho1 hg1 hb1
       go_wp2
       go_roundw
       case rel=>exact⟨p+1,q,done++[x],by omega,by omega,by go_num,by go_num,HG5.out,by rw[List.length_append,HDL.out]; simp; omega,by rw[List.append_assoc,←HDN.out,HST.out]; rfl⟩
       case measure=>simp[intOf]; omega
    ·have d1:decide ((p:Int)<(k:Int))=false:=by simp; omega
     have d1':decide (p<k)=false:=by simp; omega
     by_cases hqm:q<m
     ·obtain⟨b2,o2,y0,rfl,_,hy0,hcy⟩:=(HY.out.ch hG.ch (fun _ _ _ h=>h)).at_ hqm
      obtain⟨y,rfl,hy⟩:=asI_at hy0.out
      have d2:decide ((m:Int)≤(q:Int))=false:=by simp; omega
      have d2':decide (m≤q)=false:=by simp; omega
      have d3:decide ((q:Int)<(m:Int))=true:=by simp; omega
      have HST:Bx (List.merge (X.drop p) (Y.drop q) (leB rank step)=y::List.merge (X.drop p) (Y.drop (q+1)) (leB rank step)):=⟨merge_y hy (.inl (by rw[HXL.out]; omega))⟩
      have HGg:=Bx.mk hG
      clear hy0 hy hG hdl hdone
      have hz:True:=trivial
      ·go_wp2_with fail
       go_quiet (fail)
       generalize hwq:World.drewN wr nq=wq
       have HGQ:Bx (Gr w4 wq _ done):=⟨by rw[←hwq]; exact HGg.out.keep ((Ch.refl _ _).drewN nq)⟩
       have hcy2:wq.cell? ⟨b2,o2+q,none⟩=some (.int .i64 (y:Int)):=by rw[←hwq]; exact hcy
       clear hwq
       go_wp2_with (at_builtin; refine wp_app rfl (.tmp 82) (.tmp 87) elemI rfl rfl (HGQ.out.own.alloc _) rfl (Vs.one _ _ _) ?c1 ?c2 ?c3 ?_)
       case c1=>intro u hu; simp at hu; subst hu; rfl
       case c2=>omega
       case c3=>omega
       intro v5 w5 ho1 hg1 hb1
       have HG5:=Bx.mk (HGQ.out.one ho1 hg1 hb1)
       clear ho1 hg1 hb1
       go_wp2
       go_roundw
       case rel=>exact⟨p,q+1,done++[y],by omega,by omega,by go_num,by go_num,HG5.out,by rw[List.length_append,HDL.out]; simp; omega,by rw[List.append_assoc,←HDN.out,HST.out]; rfl⟩
       case measure=>simp[intOf]; omega
     ·have hdn:done=List.merge X Y (leB rank step):=by
       rw[←hdone,List.drop_of_length_le (by rw[HXL.out]; omega),List.drop_of_length_le (by rw[HYL.out]; omega)]
       simp
      have hlen:done.length=n:=by omega
      obtain⟨A6,c6,hv,hS6,hc6,hm6⟩:=hG.shape
      injection hv with hv1 _ hv2
      subst hv1 hv2
      rw[hlen] at hS6 hc6 ⊢
      rw[hdn,←HXD.out,←HYD.out] at hS6
      have HS6:=Bx.mk hS6
      have HM6:=Bx.mk hm6
      have hsz4:w.heap.size≤w4.heap.size:=HC4.out.size
      have HC6:=Bx.mk (HC4.out.trans hG.ch (fun _ _ h=>h))
      have d3:decide ((q:Int)<(m:Int))=false:=by simp; omega
      clear hG hdl hdone hdn hS6 hm6 hlen
      go_wp2
      go_ret
      exact⟨_,_,rfl,HS6.out.mono (fun b _ hb=>Or.inr (Nat.le_trans hsz4 hb)),hc6,HM6.out,HC6.out⟩
end
section
open Go.RowKit Go.Oct Go.Su
def upZ (l:List Int) (k:Nat):List Int:=l.take k++List.replicate (l.length-k) 0
theorem upZ_zero (l:List Int):upZ l 0=List.replicate l.length 0:=by simp[upZ]
theorem upZ_all (l:List Int):upZ l l.length=l:=by simp[upZ]
theorem upZ_next {l:List Int} {k:Nat} {x:Int} (h:l[k]? = some x):(upZ l k).set k x=upZ l (k+1):=by
 obtain⟨h1,h2⟩:=List.getElem?_eq_some_iff.1 h
 unfold upZ
 rw[List.take_add_one,h,List.set_append_right _ _ (by rw[List.length_take]; omega),List.length_take,Nat.min_eq_left (by omega),Nat.sub_self]
 obtain⟨m,hm⟩:∃ m,l.length-k=m+1:=⟨l.length-k-1,by omega⟩
 rw[hm,show l.length-(k+1)=m by omega,List.replicate_succ,List.set_cons_zero]
 simp
def rng (n:Nat):List Int:=asI (List.range n)
theorem rng_len (n:Nat):(rng n).length=n:=by unfold rng; rw[asI_len,List.length_range]
theorem rng_at {n k:Nat} (h:k<n):(rng n)[k]? = some (k:Int):=by
 unfold rng asI
 rw[List.getElem?_map,List.getElem?_range h]
 rfl
def ord (t:Nat):Nat:=if t=0 then 1 else t+t
structure Turn (s r:List Int) (L:List Nat) (t:Nat):Prop where
 mem:∀ x,x∈L↔x<s.length
 nodup:L.Nodup
 rk:Rk s r (if t=0 then 1 else t)
 inOrd:1≤t→L.Pairwise fun x y=>¬ LtK (gs s) t y x
theorem Turn.len {s r:List Int} {L:List Nat} {t:Nat} (h:Turn s r L t):L.length=s.length:=by
 have h1:L.Perm (List.range s.length):=by
  rw[List.perm_ext_iff_of_nodup h.nodup List.nodup_range]
  intro a
  rw[h.mem,List.mem_range]
 rw[h1.length_eq,List.length_range]
theorem turn_start {s:List Int} (hs:Pos s):Turn s s (List.range s.length) 0 :=
 ⟨fun x=>List.mem_range,List.nodup_range,by rw[if_pos rfl]; exact rk_first hs,fun h=>absurd h (by omega)⟩
theorem bef_ord {s r:List Int} {L:List Nat} {t:Nat} (hs:Pos s) (h:Turn s r L t) (a b:Nat):befB r t a b=true↔LtK (gs s) (ord t) a b:=by
 rw[befB_iff]
 have hrk:=h.rk
 unfold ord
 by_cases h0:t=0
 ·rw[if_pos h0] at hrk ⊢
  rw[←hrk.all hs (Nat.le_refl _) a b]
  simp[h0]
 ·rw[if_neg h0] at hrk ⊢
  rw[←hrk.twice hs (by omega) a b]
  simp[h0]
theorem Turn.sorted {s r:List Int} {L:List Nat} {t f:Nat} (hs:Pos s) (h:Turn s r L t) (hf:L.length≤f) :
  (∀ x,x∈srt (leB r t) f L↔x<s.length)∧(srt (leB r t) f L).Nodup∧(srt (leB r t) f L).Pairwise fun x y=>¬ LtK (gs s) (ord t) y x:=by
 have hp:=srt_perm (leB r t) f L
 refine⟨fun x=>by rw[hp.mem_iff,h.mem],hp.symm.nodup h.nodup,?_⟩
 refine (srt_sorted (leB_trans r t) (leB_total r t) f L hf).imp fun {x y} hxy=>?_
 unfold leB at hxy
 intro hlt
 rw[(bef_ord hs h y x).2 hlt] at hxy
 exact absurd hxy (by decide)
structure AlongTo (s:List Int) (L:List Nat) (h i:Nat) (r:List Int):Prop where
 len:r.length=s.length
 first:∀ x,L[0]? = some x→gs r x=0
 next:∀ j x y,j+1<i→L[j]? = some x→L[j+1]? = some y→(LtK (gs s) h x y→gs r y=gs r x+1)∧(¬LtK (gs s) h x y→gs r y=gs r x)
 bd:∀ j x,j<i→L[j]? = some x→0≤gs r x∧gs r x≤j
theorem gs_set {r:List Int} {p q:Nat} {v:Int} (hp:p<r.length):gs (r.set p v) q=if p=q then v else gs r q:=by
 unfold gs
 rw[List.getD_eq_getElem?_getD,List.getD_eq_getElem?_getD]
 by_cases h:p=q
 ·subst h
  rw[if_pos rfl,List.getElem?_set_self hp]
  rfl
 ·rw[if_neg h,List.getElem?_set_ne h]
theorem nodup_at {L:List Nat} (hn:L.Nodup) {i j x:Nat} (hi:L[i]? = some x) (hj:L[j]? = some x):i=j:=by
 obtain⟨h1,h2⟩:=List.getElem?_eq_some_iff.1 hi
 obtain⟨h3,h4⟩:=List.getElem?_eq_some_iff.1 hj
 rw[List.Nodup,List.pairwise_iff_getElem] at hn
 rcases Nat.lt_trichotomy i j with h | h | h
 ·exact absurd (h2.trans h4.symm) (hn i j h1 h3 h)
 ·exact h
 ·exact absurd (h4.trans h2.symm) (hn j i h3 h1 h)
theorem along_start {s:List Int} {L:List Nat} {h:Nat} (hL:∀ x∈L,x<s.length):AlongTo s L h 1 (List.replicate s.length 0):=by
 have h0:∀ x,x<s.length→gs (List.replicate s.length 0) x=0:=fun x hx=>gs_at (by rw[List.getElem?_replicate,if_pos hx])
 refine⟨List.length_replicate ..,fun x hx=>h0 x (hL x (List.mem_of_getElem? hx)),fun j _ _ hj=>by omega,fun j x hj hx=>?_⟩
 rw[h0 x (hL x (List.mem_of_getElem? hx))]
 omega
theorem AlongTo.step {s:List Int} {L:List Nat} {h i x y:Nat} {r:List Int} {v:Int} (a:AlongTo s L h i r) (hn:L.Nodup) (hL:∀ x∈L,x<s.length) (hi:1≤i) (hx:L[i-1]? = some x) (hy:L[i]? = some y) (hv1:LtK (gs s) h x y→v=gs r x+1) (hv2:¬ LtK (gs s) h x y→v=gs r x):AlongTo s L h (i+1) (r.set y v):=by
 have hyl:y<r.length:=by rw[a.len]; exact hL y (List.mem_of_getElem? hy)
 have hb:=a.bd (i-1) x (by omega) hx
 have hv:0≤v∧v≤i:=by
  by_cases hlt:LtK (gs s) h x y
  ·have:=hv1 hlt
   omega
  ·have:=hv2 hlt
   omega
 have ne:∀ {j z},j<i→L[j]? = some z→y≠z:=fun {j z} hj hz e=>by
  subst e
  have:=nodup_at hn hy hz
  omega
 refine⟨by rw[List.length_set]; exact a.len,fun z hz=>?_,fun j z u hj hz hu=>?_,fun j z hj hz=>?_⟩
 ·rw[gs_set hyl,if_neg (ne (by omega) hz)]
  exact a.first z hz
 ·rw[gs_set hyl,gs_set hyl,if_neg (ne (by omega) hz)]
  by_cases e:j+1=i
  ·obtain rfl:j=i-1:=by omega
   rw[show i-1+1=i by omega] at hu
   obtain rfl:u=y:=Option.some.inj (hu.symm.trans hy)
   obtain rfl:z=x:=Option.some.inj (hz.symm.trans hx)
   rw[if_pos rfl]
   exact⟨hv1,hv2⟩
  ·rw[if_neg (ne (by omega) hu)]
   exact a.next j z u (by omega) hz hu
 ·rw[gs_set hyl]
  by_cases e:j=i
  ·subst e
   obtain rfl:z=y:=Option.some.inj (hz.symm.trans hy)
   rw[if_pos rfl]
   exact hv
  ·rw[if_neg (ne (by omega) hz)]
   exact a.bd j z (by omega) hz
theorem AlongTo.all {s:List Int} {L:List Nat} {h i:Nat} {r:List Int} (a:AlongTo s L h i r) (hi:L.length≤i):Along s L h r :=
 ⟨a.first,fun j x y hx hy=>a.next j x y (by
  obtain⟨h1,_⟩:=List.getElem?_eq_some_iff.1 hy
  omega) hx hy⟩
def aErr (s:List Int):Int:=if 65536<s.length then 5 else if s.all (fun x=>decide (0≤x))=true then 0 else 1
section
variable {F:Nat→Prop}
def Sufs (s:List Int) (n:Nat) (w:World) (e:Ending) (w':World):Prop:=∃ (A:Option Addr) (c:Nat) (L:List Nat),e = .returned (.tuple #[.slice A n c, .int .i64 0])∧IsSA s L∧Sl w' (fun b=>w.heap.size≤b) .i64 A n (asI L)∧n≤c∧c≤maxLen∧Ch (fun _=>False) w w'
structure Dbl (s:List Int) (n:Nat) (w wr:World) (a r:Value) (t:Nat) (A1 A2:Option Addr) (c1 c2:Nat) (L:List Nat) (rk:List Int):Prop where
 a:a = .slice A1 n c1
 r:r = .slice A2 n c2
 c1:n≤c1∧c1≤maxLen
 s1:Sl wr (fun b=>w.heap.size≤b) .i64 A1 n (asI L)
 s2:Sl wr (fun b=>w.heap.size≤b) .i64 A2 n rk
 turn:Turn s rk L t
 first:t=0→rk=s
 ch:Ch (fun _=>False) w wr
theorem refarr_ok (s:List Int) (A:Option Addr) (n c:Nat) (w:World) (hs:Sl w F .i64 A n s) (hn:n≤65536) (hp:Pos s) :
  Calls Tryz.prog 217 #[.slice A n c] w (Sufs s n w):=by
 have hl:=hs.len
 have HS:=Bx.mk (hs.mono (G:=fun b=>b<w.heap.size) (fun b h _=>h))
 have HP:=Bx.mk hp
 have HL:=Bx.mk hl
 have d1:decide (65536<(n:Int))=false:=by simp; omega
 have hmk1:=mkI w n (by omega)
 have hmk2:=mkI (w.alloc (.cells (madeCells #[.int .i64 0] n) 3)) n (by omega)
 rw[World.size_alloc] at hmk2
 clear hs hp hl
 go_enter Tryz.func217,Tryz.ntmps217
 go_wp2_with fail
 go_loop [4] (fun i=>∃ k:Nat,k≤n∧i = .int .i64 k) (fun i=>n-(intOf i).toNat)
 case atStart=>exact⟨0,Nat.zero_le _,rfl⟩
 case round =>
  obtain⟨k,hk,rfl⟩:=hrel
  by_cases hlt:k<n
  ·obtain⟨b,off,x,rfl,_,hx,hcx⟩:=HS.out.at_ hlt
   have h1:0≤x:=HP.out x (List.mem_of_getElem? hx.out)
   have h0:decide (x<0)=false:=by simp; omega
   clear hx
   go_wp2
   go_round
   case rel=>exact⟨k+1,by omega,by go_num⟩
   case measure=>simp[intOf]; omega
  ·have dk:decide ((k:Int)<(n:Int))=false:=by simp; omega
   go_wp2_with fail
   obtain⟨G,hG⟩:∃ G,w.heap.size=G:=⟨_,rfl⟩
   obtain⟨w0,hw0⟩:∃ w0,((w.alloc (.cells (madeCells #[.int .i64 0] n) 3)).alloc (.cells (madeCells #[.int .i64 0] n) 3))=w0:=⟨_,rfl⟩
   have hC0:Ch (fun _=>False) w w0:=by rw[←hw0]; exact (((Ch.refl (fun _=>False) w).alloc _).alloc _)
   have hO1:Own w0 3 1 G n n ((upZ (rng n) 0).map (Value.int .i64)):=by
    rw[upZ_zero,rng_len,List.map_replicate,←hw0,←hG]
    exact (own_made1 w 3 (.int .i64 0) n (by omega)).keep ((Ch.refl (fun _=>False) _).alloc _)
   have hO2:Own w0 3 1 (G+1) n n ((upZ s 0).map (Value.int .i64)):=by
    rw[upZ_zero,HL.out,List.map_replicate,←hw0,←hG]
    have h:=own_made1 (w.alloc (.cells (madeCells #[.int .i64 0] n) 3)) 3 (.int .i64 0) n (by omega)
    rw[World.size_alloc] at h
    exact h
   have hS0:Sl w0 (fun b=>b<G) .i64 A n s:=by rw[←hG]; exact HS.out.ch hC0 (fun _ _ _ h=>h)
   have hsz0:w0.heap.size=G+2:=by rw[←hw0,World.size_alloc,World.size_alloc,hG]
   rw[hw0,hG]
   have HO1:=Bx.mk hO1
   have HO2:=Bx.mk hO2
   have HS0:=Bx.mk hS0
   have HC0:=Bx.mk hC0
   have HG:=Bx.mk hG
   clear hO1 hO2 hS0 hC0 hw0 hG HS hmk1 hmk2
   go_loopw [8] (fun i wr=>∃ j:Nat,j≤n∧i = .int .i64 j∧Own wr 3 1 G n n ((upZ (rng n) j).map (Value.int .i64))∧Own wr 3 1 (G+1) n n ((upZ s j).map (Value.int .i64))∧Ch (fun b=>G≤b) w0 wr) (fun i _=>n-(intOf i).toNat)
   case atStart=>exact⟨0,Nat.zero_le _,rfl,HO1.out,HO2.out,Ch.refl _ _⟩
   case round =>
    obtain⟨j,hj,rfl,hO1,hO2,hC⟩:=hrel
    by_cases hjn:j<n
    ·obtain⟨b,off,x,rfl,hbG,hx,hcx⟩:=(HS0.out.ch hC (fun b hb _ h=>by omega)).at_ hjn
     have hc1:=hO1.cellI hjn
     have hf1:=hO1.frozenAt j
     have hst1:=hO1.storedI j (j:Int)
     rw[upZ_next (rng_at hjn)] at hst1
     have hO2':=hO2.ch hst1.2 (fun h=>by have h':G+1=G:=h; omega)
     have hcx':=hst1.2.cell (p:=⟨b,off+j,none⟩) (fun h=>by have h':b=G:=h; omega) hcx
     have hc2:=hO2'.cellI hjn
     have hf2:=hO2'.frozenAt j
     have hst2:=hO2'.storedI j x
     rw[upZ_next hx.out] at hst2
     have hO1'':=hst1.1.ch hst2.2 (fun h=>by have h':G=G+1:=h; omega)
     have hCC:Ch (fun b=>G≤b) w0 _:=(hC.trans hst1.2 (fun i _ (h:i=G)=>by omega)).trans hst2.2 (fun i _ (h:i=G+1)=>by omega)
     generalize (upZ (rng n) j).getD j 0=u1 at *
     generalize (upZ s j).getD j 0=u2 at *
     have HA:=Bx.mk hO1''
     have HB:=Bx.mk hst2.1
     have HC:=Bx.mk hCC
     clear hst1 hst2 hO1 hO2 hO2' hO1'' hC hCC hx
     go_wp2
     go_roundw
     case rel=>exact⟨j+1,by omega,by go_num,HA.out,HB.out,HC.out⟩
     case measure=>simp[intOf]; omega
    ·have hjn':j=n:=by omega
     have dj:decide ((j:Int)<(n:Int))=false:=by simp; omega
     have e1:upZ (rng n) n=rng n:=by
      have:=upZ_all (rng n)
      rwa[rng_len] at this
     have e2:upZ s n=s:=by
      have:=upZ_all s
      rwa[HL.out] at this
     rw[hjn',e1] at hO1
     rw[hjn',e2] at hO2
     have hTS:=turn_start HP.out
     rw[HL.out] at hTS
     have hD:Dbl s n w wr (.slice (some ⟨G,0,none⟩) n n) (.slice (some ⟨G+1,0,none⟩) n n) 0 (some ⟨G,0,none⟩) (some ⟨G+1,0,none⟩) n n (List.range n) s :=
      ⟨rfl,rfl,⟨Nat.le_refl _,by unfold maxLen; omega⟩,hO1.sl.mono (fun b _ hb=>by have:=HG.out; omega),hO2.sl.mono (fun b _ hb=>by have:=HG.out; omega),hTS,fun _=>rfl,HC0.out.trans hC (fun i hi h=>by have:=HG.out; omega)⟩
     have HD:=Bx.mk hD
     clear hO1 hO2 hC e1 e2 hTS hD hjn'
     go_wp2_with fail
     go_loopw [6,7,9,10,11] (fun a r i _ _ wr=>∃ (t:Nat) (A1 A2:Option Addr) (c1 c2:Nat) (L:List Nat) (rk:List Int),i = .int .i64 t∧t≤131072∧Dbl s n w wr a r t A1 A2 c1 c2 L rk) (fun _ _ i _ _ _=>n-(intOf i).toNat)
     case atStart=>exact⟨0,_,_,n,n,_,_,rfl,by omega,HD.out⟩
     case round =>
      obtain⟨t,A1,A2,c1,c2,L,rk,rfl,ht,hD⟩:=hrel
      obtain⟨rfl,rfl,⟨hc1,hcm1⟩,hs1,hs2,hturn,hfirst,hC⟩:=hD
      have HTU:=Bx.mk hturn
      have HFI:=Bx.mk hfirst
      have HS1:=Bx.mk hs1
      have HS2:=Bx.mk hs2
      have HCM1:=Bx.mk hcm1
      have HC3:=Bx.mk hC
      clear hs1 hs2 hturn hfirst hC hcm1
      by_cases htn:t<n
      ·have dt:decide ((t:Int)<(n:Int))=true:=by simp; omega
       have hLl:L.length=n:=by rw[HTU.out.len]; exact HL.out
       have hLm:∀ x∈L,x<n:=fun x hx=>by rw[←HL.out]; exact (HTU.out.mem x).1 hx
       obtain⟨hm5,hn5,hp5⟩:=HTU.out.sorted HP.out (f:=n) (by omega)
       obtain⟨wo,rfl⟩:∃ wo:World,wo=wr:=⟨_,rfl⟩
       have HLL:=Bx.mk hLl
       have HLM:=Bx.mk hLm
       have HLE:Bx (L.length≤n):=⟨by omega⟩
       have HBO:Bx (∀ a b,befB rk t a b=true↔LtK (gs s) (ord t) a b):=⟨fun a b=>bef_ord HP.out HTU.out a b⟩
       clear hLl hLm
       go_wp2_with fail
       refine (sort_any rk A2 n c2 t (by omega) (by omega) n L A1 n c1 _ _ _ HLE.out HS1.out HS2.out hc1 HCM1.out (by omega) HLM.out).mono ?_
       rintro e w5 ⟨A5,c5,rfl,hX,hc5,hcm5,hC5⟩
       have hlM:(srt (leB rk t) n L).length=n:=by rw[srt_len]; exact HLL.out
       generalize srt (leB rk t) n L=M at *
       have HM5:=Bx.mk hm5
       have HN5:=Bx.mk hn5
       have HP5:=Bx.mk hp5
       have HML:=Bx.mk hlM
       have HMb:Bx (∀ x∈M,x<s.length):=⟨fun x hx=>(hm5 x).1 hx⟩
       have HX:Bx (Sl w5 (fun b=>w.heap.size≤b∧b<w5.heap.size) .i64 A5 n (asI M)):=⟨hX.mono (fun b hb h=>⟨by rcases h with h | h; exact h; exact Nat.le_trans HC3.out.size h,hb⟩)⟩
       have HR5:Bx (Sl w5 (fun b=>w.heap.size≤b∧b<w5.heap.size) .i64 A2 n rk):=⟨(HS2.out.ch hC5 (fun _ _ _ h=>h)).mono (fun b hb h=>⟨h,hb⟩)⟩
       have HC5:=Bx.mk (HC3.out.trans hC5 (fun _ _ h=>h))
       have HCM5:=Bx.mk hcm5
       have hmk:=mkI w5 n (by omega)
       obtain⟨G3,hG3⟩:∃ G3,w5.heap.size=G3:=⟨_,rfl⟩
       obtain⟨w6,hw6⟩:∃ w6,w5.alloc (.cells (madeCells #[.int .i64 0] n) 3)=w6:=⟨_,rfl⟩
       have hC6:Ch (fun _=>False) w5 w6:=by rw[←hw6]; exact (Ch.refl (fun _=>False) w5).alloc _
       have hO6:Own w6 3 1 G3 n n ((List.replicate s.length 0).map (Value.int .i64)):=by
        rw[HL.out,List.map_replicate,←hw6,←hG3]
        exact own_made1 w5 3 (.int .i64 0) n (by omega)
       have hw3:w.heap.size≤G3:=by rw[←hG3]; exact HC5.out.size
       rw[hG3] at HX HR5 hmk
       have HX6:Bx (Sl w6 (fun b=>w.heap.size≤b∧b<G3) .i64 A5 n (asI M)):=⟨HX.out.ch hC6 (fun _ _ _ h=>h)⟩
       have HR6:Bx (Sl w6 (fun b=>w.heap.size≤b∧b<G3) .i64 A2 n rk):=⟨HR5.out.ch hC6 (fun _ _ _ h=>h)⟩
       have HC6:=Bx.mk (HC5.out.trans hC6 (fun _ _ h=>h))
       have HO6:=Bx.mk hO6
       have HA6:=Bx.mk (along_start (h:=ord t) HMb.out)
       rw[hw6] at hmk
       clear hX hC5 hm5 hn5 hp5 hlM hcm5 hC6 hO6 HX HR5 hw6 HC5
       go_wp2_with fail
       go_loopw [11] (fun i wr=>∃ (k:Nat) (nx:List Int),1≤k∧k≤n∧i = .int .i64 k∧Own wr 3 1 G3 n n (nx.map (Value.int .i64))∧AlongTo s M (ord t) k nx∧Ch (fun b=>b=G3) w6 wr) (fun i _=>n-(intOf i).toNat)
       case atStart=>exact⟨1,_,Nat.le_refl _,by omega,rfl,HO6.out,HA6.out,Ch.refl _ _⟩
       case round =>
        obtain⟨i,nx,hi1,hi,rfl,hO,hA,hC⟩:=hrel
        by_cases hin:i<n
        ·obtain⟨j,rfl⟩:∃ j,i=j+1:=⟨i-1,by omega⟩
         have hXr:=HX6.out.ch hC (fun b hb _ (e:b=G3)=>by omega)
         obtain⟨b5,o5,y0,rfl,_,hy0,hcy⟩:=hXr.at_ hin
         obtain⟨b6,o6,x0,hA6',_,hx0,hcx⟩:=hXr.at_ (k:=j) (by omega)
         injection hA6' with hA6'
         injection hA6' with e1 e2
         subst e1 e2
         obtain⟨y,rfl,hy⟩:=asI_at hy0.out
         obtain⟨x,rfl,hx⟩:=asI_at hx0.out
         have hyn:y<n:=by rw[←HL.out]; exact HMb.out y (List.mem_of_getElem? hy)
         have hxn:x<n:=by rw[←HL.out]; exact HMb.out x (List.mem_of_getElem? hx)
         have hcnx:=hO.cellI hxn
         have hcny:=hO.cellI hyn
         have hfy:=hO.frozenAt y
         have hbd:=hA.bd j x (by omega) hx
         have hgx:nx.getD x 0=gs nx x:=by
          have h3:x<nx.length:=by rw[hA.len,HL.out]; exact hxn
          unfold gs
          rw[List.getD_eq_getElem?_getD,List.getD_eq_getElem?_getD,List.getElem?_eq_getElem h3]
          rfl
         rw[hgx] at hcnx
         have hst1:=hO.storedI y (gs nx x)
         have hstep:=fun v h1 h2=>hA.step (v:=v) HN5.out HMb.out hi1 (x:=x) (y:=y) hx hy h1 h2
         have hns:=nx.length
         generalize hv0:gs nx x=v0 at *
         generalize nx.getD y 0=old at *
         have HSTEP:=Bx.mk hstep
         have HST1:=Bx.mk hst1
         have HCQ:=Bx.mk hC
         have HXr:=Bx.mk hXr
         have HRr:Bx (Sl wr (fun b=>w.heap.size≤b∧b<G3) .i64 A2 n rk):=⟨HR6.out.ch hC (fun b hb _ (e:b=G3)=>by omega)⟩
         have HB5:Bx (b5<G3):=⟨by obtain⟨q1,q2,q3,q4,q5⟩:=hXr.at_ (k:=j) (by omega); injection q4 with q4; injection q4 with q4 _; omega⟩
         have i1:(0:Int)≤(x:Int):=by omega
         have i2:(x:Int)<(n:Int):=by omega
         have i3:(0:Int)≤(y:Int):=by omega
         have i4:(y:Int)<(n:Int):=by omega
         have i5:(0:Int)≤(j:Int):=by omega
         have i6:(j:Int)<(n:Int):=by omega
         have i7:(j:Int)+1<(n:Int):=by omega
         obtain⟨wo2,rfl⟩:∃ wo2:World,wo2=wr:=⟨_,rfl⟩
         clear hXr hy0 hx0 hy hx hO hA hC hgx hst1 hstep hns hv0
         go_wp2_with fail
         go_region
         all_goals
          generalize hws:World.drew (World.setCell wo2 _ _)=ws
          have hOs:Own ws 3 1 G3 n n ((nx.set y v0).map (Value.int .i64))∧Ch (fun b=>b=G3) wo2 ws:=by
           rw[←hws]
           exact⟨HST1.out.1.keep ((Ch.refl (fun _=>False) _).drew),HST1.out.2.drew⟩
          have hcy':=hOs.2.cell (p:=⟨b5,o5+(j+1),none⟩) (fun h=>by have h':b5=G3:=h; have:=HB5.out; omega) hcy
          have hcx':=hOs.2.cell (p:=⟨b5,o5+j,none⟩) (fun h=>by have h':b5=G3:=h; have:=HB5.out; omega) hcx
          have HRs:Bx (Sl ws (fun b=>w.heap.size≤b∧b<G3) .i64 A2 n rk):=⟨HRr.out.ch hOs.2 (fun b hb _ (e:b=G3)=>by omega)⟩
          have hcn':ws.cell? ⟨G3,y,none⟩=some (.int .i64 v0):=by
           rw[←hws]
           exact World.cell?_setCell_same _ _ _ hcny
          have hfy':=hOs.1.frozenAt y
          have HOs:=Bx.mk hOs.1
          have HCs:=Bx.mk (HCQ.out.trans hOs.2 (fun _ _ h=>h))
          clear hws hOs hcy hcx hcnx hcny hfy
          cases hbf:befB rk t x y
          ·have hnl:¬ LtK (gs s) (ord t) x y:=fun h=>by rw[(HBO.out x y).2 h] at hbf; cases hbf
           have HAN:=Bx.mk (HSTEP.out v0 (fun h=>absurd h hnl) (fun _=>rfl))
           have HBF:=Bx.mk hbf
           clear hbf hnl
           go_wp2_with fail
           go_quiet ((go_at_call 242; exact before_val rk A2 n c2 t x y false ws _ HRs.out (by omega) (by omega) (by omega) (by omega) HBF.out))
           go_wp2
           go_roundw
           case rel=>exact⟨j+1+1,_,by omega,by omega,by go_num,HOs.out.keep ((Ch.refl (fun _=>False) _).drewN _),HAN.out,HCs.out.drewN _⟩
           case measure=>simp[intOf]; omega
          ·have hlt':LtK (gs s) (ord t) x y:=(HBO.out x y).1 hbf
           have HAN:=Bx.mk (HSTEP.out (v0+1) (fun _=>rfl) (fun h=>absurd hlt' h))
           have HBF:=Bx.mk hbf
           clear hbf hlt'
           go_wp2_with fail
           go_quiet ((go_at_call 242; exact before_val rk A2 n c2 t x y true ws _ HRs.out (by omega) (by omega) (by omega) (by omega) HBF.out))
           have hOq:Own (ws.drewN nq) 3 1 G3 n n ((nx.set y v0).map (Value.int .i64)):=HOs.out.keep ((Ch.refl (fun _=>False) _).drewN nq)
           have hst2:=hOq.storedI y (v0+1)
           rw[List.set_set] at hst2
           have HST3:=Bx.mk hst2
           clear hOq hst2
           go_wp2
           refine⟨⟨j+1+1,_,by omega,by omega,by go_num,HST3.out.1,HAN.out,(HCs.out.drewN nq).trans HST3.out.2 (fun _ _ h=>h)⟩,?_⟩
           simp[intOf]
           omega
        ·have hin':i=n:=by omega
         have di:decide ((i:Int)<(n:Int))=false:=by simp; omega
         have di2:decide (i<n)=false:=by simp; omega
         have hal:Along s M (ord t) nx:=hA.all (by rw[HML.out]; omega)
         have hrkn:Rk s nx (ord t):=hal.rk HM5.out HP5.out hA.len
         have hXr:=HX6.out.ch hC (fun b hb _ (e:b=G3)=>by omega)
         obtain⟨b5,o5,z0,rfl,_,hz0,hcz⟩:=hXr.at_ (k:=n-1) (by omega)
         obtain⟨z,rfl,hz⟩:=asI_at hz0.out
         have hzn:z<n:=by rw[←HL.out]; exact HMb.out z (List.mem_of_getElem? hz)
         have hcnz:=hO.cellI hzn
         have hgz:nx.getD z 0=gs nx z:=by
          have h3:z<nx.length:=by rw[hA.len,HL.out]; exact hzn
          unfold gs
          rw[List.getD_eq_getElem?_getD,List.getD_eq_getElem?_getD,List.getElem?_eq_getElem h3]
          rfl
         rw[hgz] at hcnz
         have hbd:=hA.bd (n-1) z (by omega) hz
         have hlast:M[M.length-1]? = some z:=by rw[HML.out]; exact hz
         have hst:gs nx z=(n:Int)-1→IsSA s M:=fun he=>⟨by rw[HML.out,HL.out],HM5.out,hal.strict HP5.out hlast (by rw[HML.out]; exact he)⟩
         generalize gs nx z=gz at *
         have hn1:0≤(n:Int)-1:=by omega
         have hn2:(n:Int)-1<(n:Int):=by omega
         have hcz':wr.cell? ⟨b5,o5+((n:Int)-1).toNat,none⟩=some (.int .i64 (z:Int)):=by rw[show ((n:Int)-1).toNat=n-1 by omega]; exact hcz
         have i3:(0:Int)≤(z:Int):=by omega
         have i4:(z:Int)<(n:Int):=by omega
         have i5:(0:Int)<(n:Int):=by omega
         have hS9:Sl wr (fun b=>w.heap.size≤b) .i64 (some ⟨b5,o5,none⟩) n (asI M):=hXr.mono (fun b _ hb=>hb.1)
         have hN9:Sl wr (fun b=>w.heap.size≤b) .i64 (some ⟨G3,0,none⟩) n nx:=hO.sl.mono (fun b _ hb=>by omega)
         have hC9:Ch (fun _=>False) w wr:=HC6.out.trans hC (fun i hi (e:i=G3)=>by omega)
         have HSTR:=Bx.mk hst
         have HRKN:=Bx.mk hrkn
         have HS9:=Bx.mk hS9
         have HN9:=Bx.mk hN9
         have HC9:=Bx.mk hC9
         clear hal hrkn hXr hz0 hz hgz hlast hst hS9 hN9 hC9 hO hA hC
         by_cases hge:gz=(n:Int)-1
         ·have HSA:=Bx.mk (HSTR.out hge)
          have hb:(gz==(n:Int)-1)=true:=by simpa using hge
          go_wp2
          go_returns
          exact⟨_,c5,M,rfl,HSA.out,HS9.out,hc5,HCM5.out,HC9.out⟩
         ·have hb:(gz==(n:Int)-1)=false:=by simpa using hge
          have HGE:=Bx.mk hge
          have hT:Turn s nx M (ord t):=by
           have h1:ord t≠0:=by unfold ord; split <;> omega
           exact⟨HM5.out,HN5.out,by rw[if_neg h1]; exact HRKN.out,fun _=>HP5.out⟩
          have HT:=Bx.mk hT
          clear hge hT
          rcases Nat.eq_zero_or_pos t with h0 | h0
          ·subst h0
           have HD2:Bx (Dbl s n w wr (.slice (some ⟨b5,o5,none⟩) n c5) (.slice (some ⟨G3,0,none⟩) n n) 1 (some ⟨b5,o5,none⟩) (some ⟨G3,0,none⟩) c5 n M nx):=⟨⟨rfl,rfl,⟨hc5,HCM5.out⟩,HS9.out,HN9.out,by have h:=HT.out; rwa[show ord 0=1 from rfl] at h,fun h=>by omega,HC9.out⟩⟩
           go_wp2
           go_roundw
           case rel=>exact⟨1,_,_,c5,n,M,nx,by go_num,by omega,HD2.out⟩
           case measure=>simp[intOf]; omega
          ·have hm:max (1:Int) (2*(t:Int))=2*(t:Int):=by omega
           have htt:2*(t:Int)=((t+t:Nat):Int):=by omega
           have HTT:=Bx.mk htt
           clear htt
           have ho:ord t=t+t:=by unfold ord; rw[if_neg (by omega)]
           have HD2:Bx (Dbl s n w wr (.slice (some ⟨b5,o5,none⟩) n c5) (.slice (some ⟨G3,0,none⟩) n n) (t+t) (some ⟨b5,o5,none⟩) (some ⟨G3,0,none⟩) c5 n M nx):=⟨⟨rfl,rfl,⟨hc5,HCM5.out⟩,HS9.out,HN9.out,by have h:=HT.out; rwa[ho] at h,fun h=>by omega,HC9.out⟩⟩
           go_wp2
           go_roundw
           case rel=>exact⟨t+t,_,_,c5,n,M,nx,by rw[←HTT.out],by omega,HD2.out⟩
           case measure=>simp[intOf]; omega
      ·have dt:decide ((t:Int)<(n:Int))=false:=by simp; omega
       have hSA:IsSA s L:=by
        refine⟨HTU.out.len,HTU.out.mem,?_⟩
        rcases Nat.eq_zero_or_pos t with h0 | h0
        ·have hz:L=[]:=List.eq_nil_of_length_eq_zero (by rw[HTU.out.len,HL.out]; omega)
         rw[hz]
         exact List.Pairwise.nil
        ·exact strict_all HP.out HTU.out.nodup HTU.out.mem (HTU.out.inOrd h0) (by rw[HL.out]; omega)
       have HSA:=Bx.mk hSA
       clear hSA
       go_wp2
       go_returns
       exact⟨A1,c1,L,rfl,HSA.out,HS1.out,hc1,HCM1.out,HC3.out⟩
end
end
section
open Go.RowKit Go.Oct Go.Su
def trn (s:List Int) (L:List Nat):List Int:=L.map fun x=>gs s (prv s.length x)
theorem trn_len (s:List Int) (L:List Nat):(trn s L).length=L.length:=List.length_map ..
theorem trn_at {s:List Int} {L:List Nat} {i x:Nat} (h:L[i]? = some x):(trn s L)[i]? = some (gs s (prv s.length x)):=by
 unfold trn
 rw[List.getElem?_map,h]
 rfl
theorem trn_turned {s:List Int} {L:List Nat} (hc:Closed s) (h:IsSA s L):Turned s (trn s L):=by
 refine⟨hc,by rw[trn_len,h.len],fun L' hL' i x hx=>?_⟩
 obtain rfl:=hL'.uniq h
 exact gs_at (trn_at hx)
def ClosedTo (s:List Int) (k:Nat):Prop:=∀ p,p<k→0≤gs s p∧(gs s p=0↔p=s.length-1)
theorem closed_to {s:List Int} (h:ClosedTo s s.length) (hn:0<s.length):Closed s:=by
 refine⟨fun x hx=>?_,hn,?_,fun p hp=>?_⟩
 ·obtain⟨p,hp,e⟩:=List.getElem_of_mem hx
  have h1:gs s p=x:=gs_at (by rw[List.getElem?_eq_getElem hp,e])
  have:=(h p hp).1
  omega
 ·exact ((h (s.length-1) (by omega)).2).2 rfl
 ·intro e
  have:=((h p (by omega)).2).1 e
  omega
def TellsClosed (s:List Int) (w:World) (e:Ending) (w':World):Prop:=∃ b:Bool,e = .returned (.bool b)∧(b=true↔Closed s)∧w=w'
section
variable {F:Nat→Prop}
theorem refclosed_any (s:List Int) (A:Option Addr) (n c:Nat) (w:World) (hs:Sl w F .i64 A n s) (hn:n≤65536) :
  Calls Tryz.prog 216 #[.slice A n c] w (TellsClosed s w):=by
 have HS:=Bx.mk hs
 have HL:=Bx.mk hs.len
 clear hs
 go_enter Tryz.func216,Tryz.ntmps216
 go_wp2_with fail
 go_loop [3] (fun i=>∃ k:Nat,k≤n∧i = .int .i64 k∧Bx (ClosedTo s k)) (fun i=>n-(intOf i).toNat)
 case atStart=>exact⟨0,Nat.zero_le _,rfl,⟨fun _ h=>absurd h (by omega)⟩⟩
 case round =>
  obtain⟨k,hk,rfl,hA⟩:=hrel
  by_cases hlt:k<n
  ·obtain⟨b,off,x,rfl,_,hx,hcx⟩:=HS.out.at_ hlt
   have hgx:=gs_at hx.out
   have HGX:=Bx.mk hgx
   have dk:decide ((k:Int)<(n:Int))=true:=by simp; omega
   have i1:(0:Int)≤(k:Int):=by omega
   have i2:(k:Int)<(n:Int):=by omega
   by_cases h0:x<0
   ·have HN:Bx (¬Closed s):=⟨fun hc=>by
     have:=gs_pos hc.pos (p:=k) (by rw[HL.out]; exact hlt)
     omega⟩
    have dx:decide (x<0)=true:=by simpa using h0
    clear hx hgx
    go_wp2
    go_ret
    exact⟨false,rfl,⟨fun h=>(by cases h),fun h=>absurd h HN.out⟩,rfl⟩
   ·have dx:decide (x<0)=false:=by simpa using h0
    by_cases hx0:x=0 <;> by_cases hkn:k=n-1
    ·have HAN:Bx (ClosedTo s (k+1)):=⟨fun p hp=>by
      by_cases e:p=k
      ·subst e
       rw[HGX.out,HL.out]
       exact⟨by omega,by omega⟩
      ·exact hA.out p (by omega)⟩
     have b1:(x==0)=true:=by simpa using hx0
     have b2:((k:Int)==(n:Int)-1)=true:=by simp; omega
     clear hx hgx hx0 hkn h0
     go_wp2
     go_round
     case rel=>exact⟨k+1,by omega,by go_num,HAN⟩
     case measure=>simp[intOf]; omega
    ·have HN:Bx (¬Closed s):=⟨fun hc=>hc.only k (by rw[HL.out]; omega) (by rw[HGX.out]; exact hx0)⟩
     have b1:(x==0)=true:=by simpa using hx0
     have b2:((k:Int)==(n:Int)-1)=false:=by simp; omega
     clear hx hgx hx0 hkn h0
     go_wp2
     go_ret
     exact⟨false,rfl,⟨fun h=>(by cases h),fun h=>absurd h HN.out⟩,rfl⟩
    ·have HN:Bx (¬Closed s):=⟨fun hc=>hx0 (by
      have:=hc.last
      rw[HL.out,←hkn,HGX.out] at this
      exact this)⟩
     have b1:(x==0)=false:=by simpa using hx0
     have b2:((k:Int)==(n:Int)-1)=true:=by simp; omega
     clear hx hgx hx0 hkn h0
     go_wp2
     go_ret
     exact⟨false,rfl,⟨fun h=>(by cases h),fun h=>absurd h HN.out⟩,rfl⟩
    ·have HAN:Bx (ClosedTo s (k+1)):=⟨fun p hp=>by
      by_cases e:p=k
      ·subst e
       rw[HGX.out,HL.out]
       exact⟨by omega,by omega⟩
      ·exact hA.out p (by omega)⟩
     have b1:(x==0)=false:=by simpa using hx0
     have b2:((k:Int)==(n:Int)-1)=false:=by simp; omega
     clear hx hgx hx0 hkn h0
     go_wp2
     go_round
     case rel=>exact⟨k+1,by omega,by go_num,HAN⟩
     case measure=>simp[intOf]; omega
  ·have hkn:k=n:=by omega
   have dk:decide ((k:Int)<(n:Int))=false:=by simp; omega
   have HR:Bx (decide ((0:Int)<(n:Int))=true↔Closed s):=⟨by
    constructor
    ·intro h
     have h1:0<n:=by simpa using h
     have h2:=hA.out
     rw[hkn,←HL.out] at h2
     exact closed_to h2 (by rw[HL.out]; exact h1)
    ·intro hc
     have:=hc.full
     rw[HL.out] at this
     simpa using this⟩
   clear hA hkn
   obtain⟨r,hr⟩:∃ r,decide ((0:Int)<(n:Int))=r:=⟨_,rfl⟩
   have hr2:decide (0<n)=r:=by rw[←hr]; by_cases h:0<n <;> simp[h]
   rw[hr] at HR
   go_wp2
   go_ret
   exact⟨r,rfl,HR.out,rfl⟩
def TRes (s:List Int) (n:Nat) (ec:Int) (m:Nat) (l:List Int):Prop:=(65536<n∧ec=5∧m=0∧l=[])∨(n≤65536∧¬ Closed s∧ec=1∧m=0∧l=[])∨(n≤65536∧ec=0∧m=n∧Turned s l)
def TurnAny (s:List Int) (n:Nat) (w:World) (e:Ending) (w':World):Prop:=∃ (A:Option Addr) (c m:Nat) (ec:Int) (l:List Int),e = .returned (.tuple #[.slice A m c, .int .i64 ec])∧Sl w' (fun b=>w.heap.size≤b) .i64 A m l∧TRes s n ec m l∧Ch (fun _=>False) w w'
theorem refturn_any (s:List Int) (A:Option Addr) (n c:Nat) (w:World) (hs:Sl w F .i64 A n s) (hn:n≤65536) :
  Calls Tryz.prog 165 #[.slice A n c] w (TurnAny s n w):=by
 have HS:=Bx.mk hs
 have HL:=Bx.mk hs.len
 have hcl:=refclosed_any s A n c w hs hn
 have d1:decide (65536<(n:Int))=false:=by simp; omega
 clear hs
 go_enter Tryz.func165,Tryz.ntmps165
 go_wp2_with fail
 refine hcl.mono ?_
 rintro e w' ⟨b,rfl,hb,rfl⟩
 cases b with
 | false =>
  have HN:Bx (¬Closed s):=⟨fun h=>by have:=hb.2 h; cases this⟩
  clear hb
  go_wp2
  go_returns
  exact⟨none,0,0,1,[],rfl,Sl.nil _ _ _ _, .inr (.inl ⟨hn,HN.out,rfl,rfl,rfl⟩),Ch.refl _ _⟩
 | true =>
  have HC:=Bx.mk (hb.1 rfl)
  have har:=refarr_ok s A n c w HS.out hn HC.out.pos
  have hn0:0<n:=by rw[←HL.out]; exact HC.out.full
  clear hb hcl
  go_wp2_with fail
  refine har.mono ?_
  rintro e w1 ⟨A1,c1,L,rfl,hSA,hS1,_,_,hC1⟩
  have hmk:=mkI w1 n (by omega)
  have HSA:=Bx.mk hSA
  have HS1:Bx (Sl w1 (fun b=>b<w1.heap.size) .i64 A1 n (asI L)):=⟨hS1.mono (fun b h _=>h)⟩
  have HA1:Bx (Sl w1 (fun b=>b<w1.heap.size) .i64 A n s):=⟨(HS.out.ch hC1 (fun _ _ _ h=>h)).mono (fun b h _=>h)⟩
  have HC1:=Bx.mk hC1
  have HLn:Bx (L.length=n):=⟨by rw[hSA.len,HL.out]⟩
  clear hSA hS1 hC1 har
  go_wp2_with fail
  obtain⟨H,hH⟩:∃ H,w1.heap.size=H:=⟨_,rfl⟩
  obtain⟨w2,hw2⟩:∃ w2,w1.alloc (.cells (madeCells #[.int .i64 0] n) 3)=w2:=⟨_,rfl⟩
  have hC2:Ch (fun _=>False) w1 w2:=by rw[←hw2]; exact (Ch.refl (fun _=>False) w1).alloc _
  have hO2:Own w2 3 1 H n n ((upZ (trn s L) 0).map (Value.int .i64)):=by
   rw[upZ_zero,trn_len,HLn.out,List.map_replicate,←hw2,←hH]
   exact own_made1 w1 3 (.int .i64 0) n (by omega)
  rw[hH] at HS1 HA1
  have HS2:Bx (Sl w2 (fun b=>b<H) .i64 A1 n (asI L)):=⟨HS1.out.ch hC2 (fun _ _ _ h=>h)⟩
  have HA2:Bx (Sl w2 (fun b=>b<H) .i64 A n s):=⟨HA1.out.ch hC2 (fun _ _ _ h=>h)⟩
  have HO2:=Bx.mk hO2
  have HHW:Bx (w.heap.size≤H):=⟨by rw[←hH]; exact HC1.out.size⟩
  have HC2:=Bx.mk (HC1.out.trans hC2 (fun _ _ h=>h))
  rw[hw2,hH]
  clear hw2 hH hC2 hO2 HS1 HA1 HC1 hmk
  go_loopw [7] (fun i wr=>∃ j:Nat,j≤n∧i = .int .i64 j∧Own wr 3 1 H n n ((upZ (trn s L) j).map (Value.int .i64))∧Ch (fun b=>b=H) w2 wr) (fun i _=>n-(intOf i).toNat)
  case atStart=>exact⟨0,Nat.zero_le _,rfl,HO2.out,Ch.refl _ _⟩
  case round =>
   obtain⟨j,hj,rfl,hO,hC⟩:=hrel
   by_cases hjn:j<n
   ·have dj:decide ((j:Int)<(n:Int))=true:=by simp; omega
    obtain⟨b1,o1,x0,rfl,_,hx0,hcx⟩:=(HS2.out.ch hC (fun b hb _ (e:b=H)=>by omega)).at_ hjn
    obtain⟨x,rfl,hx⟩:=asI_at hx0.out
    have hxn:x<n:=by rw[←HL.out]; exact (HSA.out.mem x).1 (List.mem_of_getElem? hx)
    have hpn:prv n x<n:=prv_lt hn0 hxn
    obtain⟨b2,o2,rfl,_,hcy⟩:=Sl.gsAt (HA2.out.ch hC (fun b hb _ (e:b=H)=>by omega)) hpn
    have htr:=trn_at (s:=s) hx
    rw[HL.out] at htr
    have htm:((x:Int)+(n:Int)-1).tmod (n:Int)=((prv n x:Nat):Int):=by
     rw[Int.tmod_eq_emod_of_nonneg (by omega)]
     unfold prv
     by_cases h0:x=0
     ·subst h0
      rw[if_pos rfl,Int.emod_eq_of_lt (by omega) (by omega)]
      omega
     ·rw[if_neg h0,show (x:Int)+(n:Int)-1=((x-1:Nat):Int)+(n:Int) by omega,Int.add_emod_right,Int.emod_eq_of_lt (by omega) (by omega)]
    generalize prv n x=p at *
    generalize gs s p=v at *
    have hco:=hO.cellI hjn
    have hfo:=hO.frozenAt j
    have hst:=hO.storedI j v
    rw[upZ_next htr] at hst
    generalize (upZ (trn s L) j).getD j 0=old at *
    have HST:=Bx.mk hst
    have HCC:=Bx.mk (hC.trans hst.2 (fun _ _ h=>h))
    have i1:(0:Int)≤(j:Int):=by omega
    have i2:(j:Int)<(n:Int):=by omega
    have i3:(0:Int)≤(p:Int):=by omega
    have i4:(p:Int)<(n:Int):=by omega
    have hnz:(n:Int)≠0:=by omega
    clear hO hC hx0 hx htr hst
    go_wp2
    go_roundw
    case rel=>exact⟨j+1,by omega,by go_num,HST.out.1,HCC.out⟩
    case measure=>simp[intOf]; omega
   ·have hjn':j=n:=by omega
    have dj:decide ((j:Int)<(n:Int))=false:=by simp; omega
    have e1:upZ (trn s L) n=trn s L:=by
     have:=upZ_all (trn s L)
     rwa[trn_len,HLn.out] at this
    have HO:Bx (Own wr 3 1 H n n ((trn s L).map (Value.int .i64))):=⟨by rw[hjn',e1] at hO; exact hO⟩
    have HCF:Bx (Ch (fun _=>False) w wr):=⟨HC2.out.trans hC (fun i hi (e:i=H)=>by have:=HHW.out; omega)⟩
    clear hO hC hjn' e1
    go_wp2
    go_returns
    exact⟨_,n,n,0,trn s L,rfl,HO.out.sl.mono (fun b _ hb=>by have:=HHW.out; omega), .inr (.inr ⟨hn,rfl,rfl,trn_turned HC.out HSA.out⟩),HCF.out⟩
end
end
section
open Go.RowKit Go.Oct Go.Su
theorem Own.cellN {w:World} {e:TypeId} {g n c:Nat} {xs:List Nat} (h:Own w e 1 g n c (vals xs)) {j:Nat} (hj:j<n):w.cell? ⟨g,j,none⟩=some (.int .i64 (gn xs j:Nat)):=by
 have hl:=h.len
 have hl2:xs.length=n:=by unfold vals at hl; rw[List.length_map,Nat.mul_one] at hl; exact hl
 refine h.cellAt ?_
 unfold vals
 rw[List.getElem?_map,gn_some (by omega)]
 rfl
theorem Own.storedN {w:World} {e:TypeId} {g n c:Nat} {xs:List Nat} (h:Own w e 1 g n c (vals xs)) (j x:Nat):Own (w.setCell ⟨g,j,none⟩ (.int .i64 (x:Int))) e 1 g n c (vals (xs.set j x))∧Ch (fun k=>k=g) w (w.setCell ⟨g,j,none⟩ (.int .i64 (x:Int))):=by
 have:=h.stored j (.int .i64 (x:Int))
 unfold vals at *
 rwa[←List.map_set] at this
end
end Go.Proofs.YtambgjpfoceieaaGreatDoor
