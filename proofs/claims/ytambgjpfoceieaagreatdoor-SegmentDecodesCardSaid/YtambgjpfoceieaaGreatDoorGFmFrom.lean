/- Lemmas and contracts of this proof. Conditions: said at each. -/
import Derived.Test.YtambgjpfoceieaaGreatDoorGBwStab
import Derived.Test.YtambgjpfoceieaaGreatDoorGOcSteps
set_option maxHeartbeats 4000000
namespace Go.Su
structure Sp (s:List Int) (i:Nat) (xss:List (List Int)) (tb:List Int):Prop where
 take:s.take i=body xss++tb.map fun b=>b+2
 texts:∀ t∈xss,∀ x∈t,0≤x∧x<256
 last:∀ x∈tb,0≤x∧x<256
theorem body_app (a b:List (List Int)):body (a++b)=body a++body b:=by
 induction a with
 | nil=>rfl
 | cons x a ih=>simp only[List.cons_append,body,ih,List.append_assoc]
theorem sp_start (s:List Int):Sp s 0 [] []:=⟨by simp[body],fun t ht=>by simp at ht,fun x hx=>by simp at hx⟩
section
variable {s l tb:List Int} {i:Nat} {xss:List (List Int)}
theorem Sp.close (h:Sp s i xss tb) (hi:s[i]? = some 1):Sp s (i+1) (xss++[tb]) []:=by
 refine⟨?_,fun t ht=>?_,fun x hx=>by simp at hx⟩
 ·rw[List.take_add_one,hi,h.take,body_app]
  simp[body]
 ·rcases List.mem_append.1 ht with h1 | h1
  ·exact h.texts t h1
  ·simp at h1
   subst h1
   exact h.last
theorem Sp.push {c:Int} (h:Sp s i xss tb) (hi:s[i]? = some c) (h1:2≤c) (h2:c≤257):Sp s (i+1) xss (tb++[c-2]):=by
 refine⟨?_,h.texts,fun x hx=>?_⟩
 ·rw[List.take_add_one,hi,h.take,List.map_append]
  simp
 ·rcases List.mem_append.1 hx with h3 | h3
  ·exact h.last x h3
  ·simp at h3
   omega
theorem body_le {xss:List (List Int)} (h:∀ t∈xss,∀ x∈t,0≤x∧x<256):∀ x∈body xss,1≤x∧x≤257:=by
 induction xss with
 | nil=>intro x hx; simp[body] at hx
 | cons t xss ih =>
  intro x hx
  have ih2:=ih (fun u hu=>h u (List.mem_cons_of_mem _ hu))
  simp only[body,List.mem_append,List.mem_map,List.mem_cons] at hx
  rcases hx with ⟨b,hb,rfl⟩ | rfl | hx
  ·have:=h t (List.mem_cons_self ..) b hb
   omega
  ·omega
  ·exact ih2 x hx
theorem body_last:∀ {xss:List (List Int)} {u:List Int} {y:Int},body xss=u++[y]→y=1
 | [],u,y,h=>by simp[body] at h
 | [t],u,y,h=>by
  have e:body [t]=(t.map fun b=>b+2)++[1]:=rfl
  rw[e] at h
  have:=List.append_inj_right' h rfl
  simpa using this.symm
 | t::t2::xss,u,y,h=>by
  have hb:body (t2::xss)≠[]:=by simp[body]
  have e:body (t::t2::xss)=((t.map fun b=>b+2)++[1])++body (t2::xss):=by simp[body]
  obtain⟨v,z,hv⟩:∃ v z,body (t2::xss)=v++[z]:=⟨_,_,(List.dropLast_concat_getLast hb).symm⟩
  have h1:=body_last hv
  rw[e,hv,←List.append_assoc] at h
  have:=List.append_inj_right' h rfl
  simp at this
  omega
def NoTxt (l:List Int):Prop:=∀ xss:List (List Int),(∀ t∈xss,∀ x∈t,0≤x∧x<256)→¬ Turned (txt xss) l
theorem no_big {c:Int} (t:Turned s l) (hi:s[i]? = some c) (hc:257<c):NoTxt l:=fun xss hb ht=>by
 have e:=ht.uniq t
 have hm:=List.mem_of_getElem? hi
 rw[←e] at hm
 unfold txt at hm
 rcases List.mem_append.1 hm with h1 | h1
 ·have:=(body_le hb c h1).2
  omega
 ·simp at h1
  omega
theorem no_tail (t:Turned s l) (h:Sp s (s.length-1) xss tb) (h0:tb≠[]):NoTxt l:=fun yss hb ht=>by
 have e:=ht.uniq t
 have hlen:(txt yss).length=s.length:=by rw[e]
 have e2:body yss=body xss++tb.map fun b=>b+2:=by
  rw[←h.take,←e]
  unfold txt
  rw[List.length_append,List.length_singleton,Nat.add_sub_cancel,List.take_left]
 obtain⟨v,z,hv⟩:∃ v z,tb=v++[z]:=⟨_,_,(List.dropLast_concat_getLast h0).symm⟩
 have hz:=h.last z (by rw[hv]; simp)
 rw[hv,List.map_append,←List.append_assoc] at e2
 have:z+2=1:=body_last e2
 omega
theorem sp_txt (t:Turned s l) (h:Sp s (s.length-1) xss []):txt xss=s:=by
 have hc:=t.closed
 have hn:=hc.full
 have e1:s[s.length-1]? = some 0:=by rw[gs_some (by omega),hc.last]
 have e2:s.take (s.length-1+1)=s:=List.take_of_length_le (by omega)
 rw[List.take_add_one,e1,h.take] at e2
 simpa[txt] using e2
end
end Go.Su
namespace Go.Proofs.YtambgjpfoceieaaGreatDoor
open Go.RowKit Go.Oct Go.Su
theorem elemT:Elem Tryz.prog 57 26 (.slice none 0 0) 24:=⟨Tryz.underlying57,by kernel_rfl,rfl⟩
structure Fr (w wr:World) (v:Value) (us:List Value) (xss:List (List Int)) (u:Value) (tb:List Int):Prop where
 ex:∃ wt:World,wt.ownsRow 0 26 1 v us.length us∧(∀ g,v.ownBlock=some g→w.heap.size≤g)∧Oct.Rows wt (fun b=>w.heap.size≤b∧b<wt.heap.size∧v.ownBlock≠some b) us xss∧Ch (fun _=>False) w wt∧Gs 5 1 wt wr u tb.length (tb.map (Value.int .u8))
section
variable {w w1 wr w2:World} {v v' u:Value} {xss:List (List Int)} {tb:List Int} {us:List Value}
theorem gs_made0 (w:World):Gs 5 1 w (w.alloc (.cells #[] 5)) (.slice (some ⟨w.heap.size,0,none⟩) 0 0) 0 []:=⟨own_made0 w _,fun g hg=>by simp[Value.ownBlock] at hg; omega,(Ch.refl _ _).alloc _⟩
theorem fr_start (hc:Ch (fun _=>False) w w1):Fr w (w1.alloc (.cells #[] 5)) (.slice none 0 0) [] [] (.slice (some ⟨w1.heap.size,0,none⟩) 0 0) [] :=
 ⟨w1,World.ownsRow_nil _ _ _ _,fun g hg=>by simp[Value.ownBlock] at hg,Oct.Rows.nil_ _ _,hc,gs_made0 w1⟩
theorem Fr.push {x:Int} (h:Fr w wr v us xss u tb) (ho:w2.ownsRow 0 5 1 v' (tb.length+1) (tb.map (Value.int .u8)++[Value.int .u8 x])) (hg:(wr.alloc (.cells #[.int .u8 x] 5)).grownBy w2 u.ownBlock) (hb:v'.ownBlock=u.ownBlock∨v'.ownBlock=some (wr.heap.size+1)):Fr w w2 v us xss v' (tb++[x]):=by
 obtain⟨wt,h1,h2,h3,h4,h5⟩:=h.ex
 refine⟨wt,h1,h2,h3,h4,?_⟩
 have:=h5.app ((Ch.refl (fun _=>False) wr).alloc _) ho hg (by rw[World.size_alloc]; exact hb)
 rw[List.length_append,List.map_append]
 exact this
theorem Fr.gs (h:Fr w wr v us xss u tb):∃ A c,u = .slice A tb.length c∧tb.length≤c∧c≤maxLen∧wr.ownsRow 0 5 1 (.slice A tb.length c) tb.length (tb.map (Value.int .u8)):=by
 obtain⟨wt,h1,h2,h3,h4,h5⟩:=h.ex
 obtain⟨A,c,rfl,g1,g2⟩:=h5.shape
 exact⟨A,c,rfl,g1,g2,h5.own⟩
theorem Fr.own (h:Fr w wr v us xss u tb):wr.ownsRow 0 26 1 v us.length us:=by
 obtain⟨wt,h1,h2,h3,h4,h5⟩:=h.ex
 exact h5.ch.own h1 (fun _ _ h=>h)
theorem Fr.ch (h:Fr w wr v us xss u tb):Ch (fun _=>False) w wr:=by
 obtain⟨wt,h1,h2,h3,h4,h5⟩:=h.ex
 exact h4.trans h5.ch (fun _ _ h=>h)
theorem Fr.sls (h:Fr w wr v us xss u tb):∃ A c,v = .slice A us.length c∧us.length=xss.length∧Sls wr (fun b=>w.heap.size≤b) A us.length xss:=by
 obtain⟨wt,h1,h2,h3,h4,h5⟩:=h.ex
 have hown:wr.ownsRow 0 26 1 v us.length us:=h5.ch.own h1 (fun _ _ h=>h)
 obtain⟨A,c,rfl,_,_⟩:=own_shape hown
 exact⟨A,c,rfl,h3.1,us,(Vs.of_own hown).mono (fun b _ hb=>h2 b hb),(h3.ch h5.ch (fun _ _ _ h=>h)).mono (fun b _ hb=>hb.1)⟩
theorem Fr.close (h:Fr w wr v us xss u tb) (ho:w2.ownsRow 0 26 1 v' (us.length+1) (us++[u])) (hg:(wr.alloc (.cells #[u] 26)).grownBy w2 v.ownBlock) (hbv:v'.ownBlock=v.ownBlock∨v'.ownBlock=some (wr.heap.size+1)):Fr w (w2.alloc (.cells #[] 5)) v' (us++[u]) (xss++[tb]) (.slice (some ⟨w2.heap.size,0,none⟩) 0 0) []:=by
 obtain⟨wt,h1,h2,h3,h4,h5⟩:=h.ex
 have hvl:∀ g,v.ownBlock=some g→g<wt.heap.size:=own_lt h1
 have hsz:=h5.ch.size
 have hsz2:=h4.size
 have hC:Ch (fun b=>v.ownBlock=some b) wr w2:=((Ch.refl (fun b=>v.ownBlock=some b) wr).alloc _).grown hg (fun j hj => .inl hj)
 have hCt:Ch (fun b=>v.ownBlock=some b) wt w2:=(h5.ch.mono (fun _ _ h=>h.elim)).trans hC (fun _ _ h=>h)
 have hsz3:=hC.size
 obtain⟨A,c,rfl,g1,g2⟩:=h5.shape
 have hsl:Sl wr (fun b=>wt.heap.size≤b∧b<wr.heap.size) .u8 A tb.length tb:=by
  have h6:Sl wr (fun b=>wt.heap.size≤b) .u8 A tb.length tb:=h5.vs
  exact h6.mono (fun b hlt hb=>⟨hb,hlt⟩)
 refine⟨w2,by rw[List.length_append]; exact ho,fun g hgv=>?_,?_,(h4.trans hCt (fun i hi (e:v.ownBlock=some i)=>by have:=h2 i e; omega)),gs_made0 w2⟩
 ·rcases hbv with hb | hb
  ·exact h2 g (hb ▸ hgv)
  ·rw[hb] at hgv
   injection hgv with hgv
   omega
 ·refine Oct.Rows.app ((h3.ch hCt (fun b hb _ e=>hb.2.2 e)).mono fun b _ hb=>⟨hb.1,by omega,fun e=>?_⟩) (Oct.Rows.cons_ ((hsl.ch hC (fun b hb _ e=>by have:=hvl b e; omega)).mono fun b _ hb=>⟨by omega,by omega,fun e=>?_⟩) g1 g2 (Oct.Rows.nil_ _ _))
  ·rcases hbv with h7 | h7
   ·exact hb.2.2 (h7 ▸ e)
   ·rw[h7] at e
    injection e with e
    omega
  ·rcases hbv with h7 | h7
   ·rw[h7] at e
    have:=hvl b e
    omega
   ·rw[h7] at e
    injection e with e
    omega
def FRes (l:List Int) (n:Nat) (ec:Int) (m:Nat) (xss:List (List Int)):Prop:=(65536<n∧ec=5∧m=0∧xss=[])∨(n≤65536∧NoTxt l∧ec=3∧m=0∧xss=[])∨(n≤65536∧ec=0∧Byts xss∧Turned (txt xss) l∧m=xss.length)
def FromRef (l:List Int) (n:Nat) (w:World) (e:Ending) (w':World):Prop:=∃ (A:Option Addr) (c m:Nat) (ec:Int) (xss:List (List Int)),e = .returned (.tuple #[.slice A m c, .int .i64 ec])∧Sls w' (fun b=>w.heap.size≤b) A m xss∧FRes l n ec m xss∧Ch (fun _=>False) w w'
theorem sls_nil (w:World) (F:Nat→Prop) (A:Option Addr):Sls w F A 0 []:=⟨[],Vs.nil _ _ _,Oct.Rows.nil_ _ _⟩
theorem from_no {l:List Int} {n:Nat} {w w':World} (hn:n≤65536) (h:NoTxt l) (hc:Ch (fun _=>False) w w'):FromRef l n w (.returned (.tuple #[.slice none 0 0, .int .i64 3])) w' :=
 ⟨none,0,0,3,[],rfl,sls_nil _ _ _, .inr (.inl ⟨hn,h,rfl,rfl,rfl⟩),hc⟩
end
section
variable {F:Nat→Prop}
theorem reffrom_any (l:List Int) (A:Option Addr) (n c:Nat) (w:World) (hs:Sl w F .i64 A n l) (hn:n≤65536) :
  Calls Tryz.prog 77 #[.slice A n c] w (FromRef l n w):=by
 have hb:=refback_any l A n c w hs hn
 clear hs
 go_enter Tryz.func77,Tryz.ntmps77
 go_wp2_with fail
 refine hb.mono ?_
 rintro e w1 ⟨A1,c1,m,ec,s,rfl,hS,hR,hC⟩
 have HC:=Bx.mk hC
 clear hb
 by_cases he:ec=0
 ·have HT:Bx (m=n∧Turned s l):=⟨by
   rcases hR with ⟨_,h1,_⟩ | ⟨_,_,h1,_⟩ | ⟨_,_,h2,h3⟩
   ·omega
   ·omega
   ·exact⟨h2,h3⟩⟩
  subst he
  have HS:=Bx.mk (hS.mono (G:=fun b=>b<w1.heap.size) (fun b h _=>h))
  have HL:=Bx.mk hS.len
  have hm0:0<m:=by
   have h1:=HT.out.2.closed.full
   have h2:=HL.out
   omega
  have hm6:m≤65536:=by have:=HT.out.1; omega
  have HF0:=Bx.mk (fr_start (w:=w1) (w1:=w1) (Ch.refl (fun _=>False) w1))
  clear hR hS hC
  go_wp2_with fail
  go_loopw [6,7,8,34,45] (fun v u i _ _ wr=>∃ (k:Nat) (us:List Value) (xss:List (List Int)) (tb:List Int),k+1≤m∧i = .int .i64 k∧Bx (Sp s k xss tb∧us.length≤k∧tb.length≤k∧us.length=xss.length)∧Bx (Fr w1 wr v us xss u tb)) (fun _ _ i _ _ _=>m-(intOf i).toNat)
  case atStart=>exact⟨0,[],[],[],hm0,rfl,⟨sp_start s,Nat.le_refl _,Nat.le_refl _,rfl⟩,HF0⟩
  case round =>
   obtain⟨k,us,xss,tb,hk,rfl,hSp,hFr⟩:=hrel
   obtain⟨ul,hule⟩:∃ ul,us.length=ul:=⟨_,rfl⟩
   obtain⟨tl,htle⟩:∃ tl,tb.length=tl:=⟨_,rfl⟩
   have HUL:=Bx.mk hule
   have HTL:=Bx.mk htle
   obtain⟨A7,c7,rfl,g1,g2,ho7⟩:=hFr.out.gs
   have ho6:=hFr.out.own
   obtain⟨A6,c6,rfl,g3,g4⟩:=own_shape ho6
   have hul:=hSp.out.2.1
   have htl:=hSp.out.2.2.1
   rw[hule] at ho6 hul g3 hFr ⊢
   rw[htle] at ho7 htl g1 hFr ⊢
   have HO7:=Bx.mk ho7
   have HO6:=Bx.mk ho6
   have c7b:c7≤9223372036854775807:=by unfold maxLen at g2; omega
   clear ho7 ho6 hule htle
   by_cases hlt:k+1<m
   ·have dk:decide ((k:Int)+1<(m:Int))=true:=by simp; omega
    have hk1:k<m:=by omega
    obtain⟨b,off,x,rfl,_,hx,hcx⟩:=(HS.out.ch hFr.out.ch (fun _ _ _ h=>h)).at_ hk1
    have hx1:1≤x:=by
     have hc:=HT.out.2.closed
     have h1:=gs_at hx.out
     have h2:=hc.only k (by rw[HL.out]; omega)
     have h3:=gs_pos hc.pos (p:=k) (by rw[HL.out]; omega)
     omega
    have HX:=Bx.mk hx.out
    have i1:(k:Int)<(m:Int):=by omega
    clear hx
    by_cases h1:x=1
    ·subst h1
     have HSN:=Bx.mk (hSp.out.1.close HX.out)
     clear hx1
     go_wp2_with (at_builtin; refine wp_app rfl (.tmp 40) (.tmp 42) elemT rfl rfl (HO6.out.alloc _) rfl (Vs.one _ _ _) ?c1 ?c2 ?c3 ?_)
     case c1=>intro u hu; simp at hu; subst hu; rfl
     case c2=>omega
     case c3=>omega
     intro v5 w5 ho1 hg1 hb1
     have HF:=Bx.mk (hFr.out.close (by rw[HUL.out]; exact ho1) hg1 hb1)
     clear ho1 hg1 hb1 hFr
     go_wp2
     go_roundw
     case rel=>exact⟨k+1,_,_,[],by omega,by go_num,⟨HSN.out,by rw[List.length_append,HUL.out]; simp; omega,by simp,by rw[List.length_append,List.length_append,hSp.out.2.2.2]; simp⟩,HF⟩
     case measure=>simp[intOf]; omega
    ·have b1:(x==1)=false:=by simpa using h1
     by_cases h2:257<x
     ·have d2:decide (257<x)=true:=by simpa using h2
      have HN:=Bx.mk (no_big HT.out.2 HX.out h2)
      have HCR:=Bx.mk (HC.out.trans hFr.out.ch (fun _ _ h=>h))
      clear h1 h2 hx1 hFr
      go_wp2
      go_returns
      exact from_no hn HN.out HCR.out
     ·have d2:decide (257<x)=false:=by simpa using h2
      have hwr:wrap64 (x-2)%256=x-2:=by unfold wrap64; omega
      have HSN:=Bx.mk (hSp.out.1.push HX.out (by omega) (by omega))
      clear h1 h2
      go_wp2_with (at_builtin; refine wp_app rfl (.tmp 25) (.tmp 32) Tb rfl rfl (HO7.out.alloc _) rfl (Vs.one _ _ _) ?c1 ?c2 ?c3 ?_)
      case c1=>intro u hu; simp at hu; subst hu; rfl
      case c2=>omega
      case c3=>omega
      intro v5 w5 ho1 hg1 hb1
      have HF:=Bx.mk (hFr.out.push (by rw[HTL.out]; exact ho1) hg1 hb1)
      clear ho1 hg1 hb1 hFr
      go_wp2
      go_roundw
      case rel=>exact⟨k+1,_,_,_,by omega,by go_num,⟨HSN.out,by rw[HUL.out]; omega,by rw[List.length_append,HTL.out]; simp; omega,hSp.out.2.2.2⟩,HF⟩
      case measure=>simp[intOf]; omega
   ·have dk:decide ((k:Int)+1<(m:Int))=false:=by simp; omega
    have HCR:=Bx.mk (HC.out.trans hFr.out.ch (fun _ _ h=>h))
    have hkm:k=s.length-1:=by rw[HL.out]; omega
    by_cases ht0:tl=0
    ·have HSL:Bx (Sls wr (fun b=>w.heap.size≤b) A6 ul xss∧ul=xss.length):=⟨by
      obtain⟨A,c,e1,e2,e3⟩:=hFr.out.sls
      injection e1 with e4 _ _
      subst e4
      rw[HUL.out] at e2 e3
      exact⟨e3.mono (fun b _ hb=>Nat.le_trans HC.out.size hb),e2⟩⟩
     have HR:Bx (FRes l n 0 ul xss):=⟨by
      have h1:=hSp.out.1
      have h2:tb=[]:=List.eq_nil_of_length_eq_zero (by rw[HTL.out]; exact ht0)
      rw[h2,hkm] at h1
      refine .inr (.inr ⟨hn,rfl,h1.texts,?_,HSL.out.2⟩)
      rw[sp_txt HT.out.2 h1]
      exact HT.out.2⟩
     subst ht0
     clear hFr hkm
     go_wp2
     go_returns
     exact⟨A6,c6,ul,0,xss,rfl,HSL.out.1,HR.out,HCR.out⟩
    ·have d0:decide (0<tl)=true:=by simp; omega
     have d1:decide ((0:Int)<(tl:Int))=true:=by simp; omega
     have HN:Bx (NoTxt l):=⟨by
      have h1:=hSp.out.1
      rw[hkm] at h1
      exact no_tail HT.out.2 h1 (fun e=>ht0 (by rw[←HTL.out,e]; rfl))⟩
     clear hFr hkm
     go_wp2
     go_returns
     exact from_no hn HN.out HCR.out
 ·have HE:Bx (FRes l n ec 0 []):=⟨by
   rcases hR with ⟨h0,h1,_⟩ | ⟨h0,hno,h1,_⟩ | ⟨_,h2,_⟩
   ·exact .inl ⟨h0,h1,rfl,rfl⟩
   ·exact .inr (.inl ⟨h0,fun xss _=>hno _,h1,rfl,rfl⟩)
   ·exact absurd h2 he⟩
  have hb:(ec != 0)=true:=by simpa using he
  clear hR hS hC he
  go_wp2
  go_returns
  exact⟨none,0,0,ec,[],rfl,sls_nil _ _ _,HE.out,HC.out⟩
end
end Go.Proofs.YtambgjpfoceieaaGreatDoor
namespace Go.Proofs.YtambgjpfoceieaaGreatDoor.X
section
open Go.RowKit Go.Oct Go.Su
theorem txt_sym {xss:List (List Int)} (hb:Byts xss):∀ x∈txt xss,0≤x∧x<512:=fun x hx=>by
 unfold txt at hx
 rcases List.mem_append.1 hx with h | h
 ·have:=body_le hb x h
  omega
 ·simp at h
  omega
theorem turned_nats {s t:List Int} (hT:Turned s t) (hs:∀ x∈s,0≤x∧x<512):∃ l:List Nat,t=asI l∧∀ x∈l,x<512:=by
 have hall:∀ x∈t,0≤x∧x<512:=fun x hx=>by
  obtain⟨i,hi⟩:=List.getElem?_of_mem hx
  obtain⟨h1,_⟩:=List.getElem?_eq_some_iff.1 hi
  obtain⟨L,hL⟩:=sa_exists hT.closed.pos
  have hlen:=hT.len
  obtain⟨y,hy,hlt⟩:=hL.has (i:=i) (by omega)
  have h2:=hT.at' hL hy
  rw[gs_at hi] at h2
  rw[h2]
  have hp:=prv_lt hT.closed.full hlt
  exact hs _ (List.mem_of_getElem? (gs_some hp))
 refine⟨t.map Int.toNat,?_,fun x hx=>?_⟩
 ·unfold asI
  rw[List.map_map]
  refine ((List.map_congr_left (g:=id) fun x hx=>?_).trans (List.map_id t)).symm
  have:=hall x hx
  show ((x.toNat:Nat):Int)=x
  omega
 ·obtain⟨y,hy,rfl⟩:=List.mem_map.1 hx
  have:=hall y hy
  omega
end
end Go.Proofs.YtambgjpfoceieaaGreatDoor.X
namespace Go.Su
section
theorem cut_one:∀ {a b r s:List Int},(∀ x∈a,x≠1)→(∀ x∈b,x≠1)→a++1::r=b++1::s→a=b∧r=s
 | [],[],_,_,_,_,h=>by
  simp at h
  exact⟨rfl,h⟩
 | [],y::b,_,_,_,hb,h=>by
  simp at h
  exact absurd h.1.symm (hb y (List.mem_cons_self ..))
 | x::a,[],_,_,ha,_,h=>by
  simp at h
  exact absurd h.1 (ha x (List.mem_cons_self ..))
 | x::a,y::b,_,_,ha,hb,h=>by
  simp at h
  obtain⟨rfl,h⟩:=h
  obtain⟨rfl,h2⟩:=cut_one (fun z hz=>ha z (List.mem_cons_of_mem _ hz)) (fun z hz=>hb z (List.mem_cons_of_mem _ hz)) h
  exact⟨rfl,h2⟩
theorem map2_inj {a b:List Int} (h:a.map (fun b=>b+2)=b.map (fun b=>b+2)):a=b:=by
 refine List.map_inj_right (f:=fun b:Int=>b+2) (fun x y e=>?_) |>.1 h
 have e':x+2=y+2:=e
 omega
theorem not_one {t:List Int} (h:∀ x∈t,0≤x):∀ x∈t.map (fun b=>b+2),x≠1:=fun x hx=>by
 obtain⟨y,hy,rfl⟩:=List.mem_map.1 hx
 have:=h y hy
 omega
theorem body_inj:∀ {xss yss:List (List Int)},PosB xss→PosB yss→body xss=body yss→xss=yss
 | [],[],_,_,_=>rfl
 | [],u::yss,_,_,h=>by simp[body] at h
 | t::xss,[],_,_,h=>by simp[body] at h
 | t::xss,u::yss,hx,hy,h=>by
  obtain⟨h1,h2⟩:=cut_one (not_one (hx t (List.mem_cons_self ..))) (not_one (hy u (List.mem_cons_self ..))) h
  rw[map2_inj h1,body_inj (fun v hv=>hx v (List.mem_cons_of_mem _ hv)) (fun v hv=>hy v (List.mem_cons_of_mem _ hv)) h2]
theorem txt_inj {xss yss:List (List Int)} (hx:PosB xss) (hy:PosB yss) (h:txt xss=txt yss):xss=yss:=by
 unfold txt at h
 exact body_inj hx hy (List.append_cancel_right h)
end
end Go.Su
namespace Go.Proofs.YtambgjpfoceieaaGreatDoor
section
open Go.RowKit Go.Oct Go.Su Go.Sg Go.Fr
def keyI (l:List Int):Key:=l.map fun x=>UInt8.ofNat x.toNat
theorem kI_keyI {l:List Int} (h:Byt l):kI (keyI l)=l:=by
 unfold kI keyI
 rw[List.map_map]
 refine (List.map_congr_left (g:=id) fun x hx=>?_).trans (List.map_id l)
 have:=h x hx
 show ((UInt8.ofNat x.toNat).toNat:Int)=x
 rw[UInt8.toNat_ofNat']
 omega
theorem keyI_kI (k:Key):keyI (kI k)=k:=kI_inj (kI_keyI (kI_byte k))
theorem keyI_map (l:List Key):(l.map kI).map keyI=l:=by
 rw[List.map_map]
 exact (List.map_congr_left (g:=id) fun x _=>keyI_kI x).trans (List.map_id l)
theorem kI_map {l:List (List Int)} (h:∀ x∈l,Byt x):(l.map keyI).map kI=l:=by
 rw[List.map_map]
 exact (List.map_congr_left (g:=id) fun x hx=>kI_keyI (h x hx)).trans (List.map_id l)
def Good (xs:List Int) (ds:List Dc) (gs:List Key):Prop:=Seg ds gs∧∃ t,Turned (txt (ts ds)) t∧xs=frm (bod ds gs t)∧(bod ds gs t).length≤1048512
theorem seg_bytsT {ds:List Dc} {gs:List Key} (h:Seg ds gs):Byts (ts ds):=fun t ht x hx=>by
 obtain⟨d,hd,rfl⟩:=List.mem_map.1 ht
 exact h.byts d hd x hx
theorem seg_keyOk {ds:List Dc} {gs:List Key} (h:Seg ds gs):(∀ k∈ks ds,okK k)∧∀ k∈gs,okK k:=⟨fun k hk=>h.ok.1 k (List.mem_append_left _ hk),fun k hk=>h.ok.1 k (List.mem_append_right _ hk)⟩
theorem rows_le:∀ (l:List (List Int)),l.length≤(l.flatMap rowB).length
 | []=>Nat.zero_le _
 | x::l=>by
  rw[List.flatMap_cons,List.length_append,List.length_cons]
  have:=rows_le l
  have:=rowB_pos x
  omega
theorem nums_le:∀ (l:List Nat),l.length≤(l.flatMap encN).length
 | []=>Nat.zero_le _
 | x::l=>by
  rw[List.flatMap_cons,List.length_append,List.length_cons]
  have:=nums_le l
  have:=encN_pos x
  omega
theorem bod0_le (kl gl:List (List Int)) (tl:List Nat):kl.length≤(bod0 kl gl tl).length∧gl.length≤(bod0 kl gl tl).length∧tl.length≤(bod0 kl gl tl).length:=by
 have h1:=rows_le kl
 have h2:=rows_le gl
 have h3:=nums_le tl
 unfold bod0 rowsB numsB
 simp only[List.length_append]
 omega
theorem Good.parse {xs:List Int} {ds:List Dc} {gs:List Key} (h:Good xs ds gs):∃ p tl,oneF xs=(p,0)∧p.length≤1048512∧Parsed p ((ks ds).map kI) (gs.map kI) tl∧Turned (txt (ts ds)) (asI tl):=by
 obtain⟨hs,t,ht,rfl,hl⟩:=h
 obtain⟨tl,rfl,htl⟩:=X.turned_nats ht (X.txt_sym (seg_bytsT hs))
 have e:bod ds gs (asI tl)=bod0 ((ks ds).map kI) (gs.map kI) tl:=bod_eq ds gs (fun x hx=>by have:=htl x hx; rw[top62_eq]; omega)
 have hb:=bod0_le ((ks ds).map kI) (gs.map kI) tl
 rw[←e] at hb
 refine⟨_,tl,oneF_frm (by omega),hl,?_,ht⟩
 rw[e]
 have hk:∀ {l:List Key},(∀ k∈l,okK k)→∀ x∈l.map kI,x.length≤top62:=fun {l} ho x hx=>by
  obtain⟨k,hk,rfl⟩:=List.mem_map.1 hx
  have:=(ho k hk).2
  rw[kI_len,top62_eq]
  omega
 exact parsed_bod (hk (seg_keyOk hs).1) (hk (seg_keyOk hs).2) (fun x hx=>by have:=htl x hx; rw[top62_eq]; omega) (by rw[top62_eq]; omega) (by rw[top62_eq]; omega) (by rw[top62_eq]; omega)
theorem docs_ext {ds es:List Dc} (h1:ks ds=ks es) (h2:ts ds=ts es):ds=es:=by
 refine List.ext_getElem (by have:=congrArg List.length h1; simpa[ks] using this) fun i hi hj=>?_
 have e1:(ks ds)[i]'(by simpa[ks] using hi)=(ks es)[i]'(by simpa[ks] using hj):=by simp only[h1]
 have e2:(ts ds)[i]'(by simpa[ts] using hi)=(ts es)[i]'(by simpa[ts] using hj):=by simp only[h2]
 simp only[ks,ts,List.getElem_map] at e1 e2
 exact Prod.ext e1 e2
theorem Good.same {xs p:List Int} {ds es:List Dc} {gs hs:List Key} {kl gl:List (List Int)} {tl:List Nat} {xss:List (List Int)} (h:Good xs ds gs) (h1:oneF xs=(p,0)) (h2:Parsed p kl gl tl) (h3:Turned (txt xss) (asI tl)) (h4:Byts xss)
  (hk:ks es=kl.map keyI) (ht:ts es=xss) (hg:hs=gl.map keyI):es=ds∧hs=gs:=by
 obtain⟨p',tl',k1,_,k2,k3⟩:=h.parse
 rw[h1] at k1
 injection k1 with k1 _
 subst k1
 obtain⟨e1,e2,e3⟩:=h2.uniq k2
 subst e1 e2 e3
 rw[keyI_map] at hk hg
 refine⟨docs_ext hk ?_,hg⟩
 rw[ht]
 exact txt_inj h4.pos (seg_bytsT h.1).pos (h3.uniq k3)
theorem Good.uniq {xs:List Int} {ds es:List Dc} {gs hs:List Key} (h:Good xs ds gs) (k:Good xs es hs):ds=es∧gs=hs:=by
 obtain⟨p,tl,k1,_,k2,k3⟩:=k.parse
 obtain⟨e1,e2⟩:=h.same k1 k2 k3 (seg_bytsT k.1) (by rw[keyI_map]) rfl (by rw[keyI_map])
 exact⟨e1.symm,e2.symm⟩
theorem good_of {xs p:List Int} {es:List Dc} {hs:List Key} {kl gl:List (List Int)} {tl:List Nat} {xss:List (List Int)} (hb:Byt xs) (h1:oneF xs=(p,0)) (hp:p.length≤1048512) (h2:Parsed p kl gl tl) (h3:Turned (txt xss) (asI tl)) (h4:Byts xss)
  (hk:ks es=kl.map keyI) (ht:ts es=xss) (hg:hs=gl.map keyI) (hs':Seg es hs):Good xs es hs:=by
 obtain⟨e1,_⟩:=oneF_ok hb h1
 have hbp:Byt p:=fun x hx=>by
  refine hb x ?_
  rw[e1]
  unfold frm
  exact List.mem_append_left _ (List.mem_append_right _ hx)
 have e2:=parsed_inv hbp h2
 have hkl:∀ x∈kl,Byt x:=fun x hx y hy=>by
  refine hbp y ?_
  rw[e2]
  unfold bod0 rowsB rowB
  simp only[List.mem_append,List.mem_flatMap]
  exact .inr (.inl (.inr ⟨x,hx, .inr hy⟩))
 have hgl:∀ x∈gl,Byt x:=fun x hx y hy=>by
  refine hbp y ?_
  rw[e2]
  unfold bod0 rowsB rowB
  simp only[List.mem_append,List.mem_flatMap]
  exact .inr (.inr (.inl (.inr ⟨x,hx, .inr hy⟩)))
 obtain⟨l,hl,hl2⟩:=X.turned_nats h3 (X.txt_sym h4)
 obtain rfl:tl=l:=by
  refine List.map_inj_right (f:=fun x:Nat=>(x:Int)) (fun x y e=>?_) |>.1 hl
  have e':(x:Int)=(y:Int):=e
  omega
 have e3:bod es hs (asI tl)=p:=by
  have:bod es hs (asI tl)=bod0 ((ks es).map kI) (hs.map kI) tl:=bod_eq es hs (fun x hx=>by have:=hl2 x hx; rw[top62_eq]; omega)
  rw[this,hk,hg,kI_map hkl,kI_map hgl,e2]
 exact⟨hs',asI tl,by rw[ht]; exact h3,by rw[e3]; exact e1,by rw[e3]; exact hp⟩
end
section
open Go.RowKit Go.Oct Go.Su
structure Hs (w:World) (F:Nat→Prop) (A:Option Addr) (n:Nat) (hs:List (Nat×Nat)):Prop where
 len:hs.length=n
 at_:0<n→∃ b off,A=some ⟨b,off,none⟩∧F b∧∀ j h,hs[j]? = some h→w.cell? ⟨b,off+j*2,none⟩=some (.int .i64 (h.1:Nat))∧w.cell? ⟨b,off+j*2+1,none⟩=some (.int .i64 (h.2:Nat))
section
variable {w w':World} {F G S:Nat→Prop} {A:Option Addr} {n:Nat} {hs:List (Nat×Nat)}
theorem Hs.ch (h:Hs w F A n hs) (hc:Ch S w w') (hF:∀ b,F b→b<w.heap.size→¬ S b):Hs w' F A n hs :=
 ⟨h.len,fun hn=>by
  obtain⟨b,off,e,hb,hj⟩:=h.at_ hn
  refine⟨b,off,e,hb,fun j s hs=>?_⟩
  obtain⟨h1,h2⟩:=hj j s hs
  exact⟨hc.cell (hF b hb (lt_of_cell h1)) h1,hc.cell (hF b hb (lt_of_cell h2)) h2⟩⟩
theorem Hs.mono (h:Hs w F A n hs) (hF:∀ b,F b→G b):Hs w G A n hs :=
 ⟨h.len,fun hn=>by
  obtain⟨b,off,e,hb,hj⟩:=h.at_ hn
  exact⟨b,off,e,hF b hb,hj⟩⟩
theorem valH_at {hs:List (Nat×Nat)} {j:Nat} {h:Nat×Nat} (hj:hs[j]? = some h):(valH hs)[j*2]? = some (.int .i64 (h.1:Int))∧(valH hs)[j*2+1]? = some (.int .i64 (h.2:Int)):=by
 induction hs generalizing j with
 | nil=>simp at hj
 | cons a l ih =>
  have e:valH (a::l)=Value.int .i64 (a.1:Int)::Value.int .i64 (a.2:Int)::valH l:=rfl
  rw[e]
  cases j with
  | zero =>
   obtain rfl:a=h:=by simpa using hj
   exact⟨rfl,rfl⟩
  | succ j =>
   have:=ih (j:=j) (by simpa using hj)
   rw[show (j+1)*2=j*2+2 by omega]
   exact this
theorem Gs.hits {wr:World} {c:Nat} (h:Gs 65 2 w wr (.slice A n c) n (valH hs)) (hl:hs.length=n):Hs wr (fun b=>w.heap.size≤b) A n hs:=by
 refine⟨hl,fun hn=>?_⟩
 rcases own_form h.own with ⟨e1,e2⟩ | ⟨g,c1,e1,g2,g3⟩
 ·omega
 ·injection e1 with e3 _ e4
  subst e3 e4
  have ho:=h.own
  refine⟨g,0,rfl,h.lies g rfl,fun j x hx=>?_⟩
  obtain⟨hj,_⟩:=List.getElem?_eq_some_iff.1 hx
  obtain⟨k1,k2⟩:=valH_at hx
  have c1:=ho.cellAt (j*2) (by omega)
  have c2:=ho.cellAt (j*2+1) (by omega)
  rw[k1] at c1
  rw[k2] at c2
  rw[Nat.zero_add]
  exact⟨c1,c2⟩
end
end
section
open Go.RowKit Go.Oct Go.Su
def NewRow (n:Nat) (l:List Nat) (w:World) (e:Ending) (w':World):Prop:=∃ g:Nat,e = .returned (.slice (some ⟨g,0,none⟩) n n)∧Own w' 3 1 g n n (vals l)∧w.heap.size≤g∧Ch (fun _=>False) w w'
theorem vals_rng (n:Nat):(rng n).map (Value.int .i64)=vals (List.range n):=by unfold rng; exact vals_asI _
theorem upto_any (n:Nat) (w:World) (hn:n≤1048576):Calls Tryz.prog 245 #[.int .i64 n] w (NewRow n (List.range n) w):=by
 have hmk:=mkI w n hn
 go_enter Tryz.func245,Tryz.ntmps245
 go_wp2_with fail
 go_loopw [4,9] (fun _ i wr=>∃ k:Nat,k≤n∧i = .int .i64 k∧Own wr 3 1 w.heap.size n n ((upZ (rng n) k).map (Value.int .i64))∧Ch (fun _=>False) w wr) (fun _ i _=>n-(intOf i).toNat)
 case atStart =>
  refine⟨0,Nat.zero_le _,rfl,?_,(Ch.refl _ _).alloc _⟩
  have:=own_made1 w 3 (.int .i64 0) n (by omega)
  rw[upZ_zero,rng_len,List.map_replicate]
  exact this
 case round =>
  obtain⟨k,hk,rfl,hO,hC⟩:=hrel
  by_cases hlt:k<n
  ·have hcell:=hO.cellI hlt
   have hfz:=hO.frozenAt k
   have hst:=hO.storedI k (k:Int)
   rw[upZ_next (rng_at hlt)] at hst
   have HST:=Bx.mk hst
   have HC:=Bx.mk hC
   generalize (upZ (rng n) k).getD k 0=old at *
   clear hC hst hO
   go_wp2
   go_roundw
   case rel=>exact⟨k+1,by omega,by go_num,HST.out.1,HC.out.trans HST.out.2 (fun i hi (e:i=w.heap.size)=>by omega)⟩
   case measure=>simp[intOf]; omega
  ·obtain rfl:k=n:=by omega
   have hu:=upZ_all (rng k)
   rw[rng_len] at hu
   rw[hu,vals_rng] at hO
   have HO:=Bx.mk hO
   have HC:=Bx.mk hC
   clear hO hC hu
   go_wp2
   go_ret
   exact⟨_,rfl,HO.out,Nat.le_refl _,HC.out⟩
section
variable {F:Nat→Prop}
theorem rest_any (c:List Int) (A:Option Addr) (n d a k:Nat) (w:World) (hs:Sl w F .i64 A n c) (hn:n≤1048576) (hk:k≤1048576) (ha:a<n) :
  Calls Tryz.prog 237 #[.slice A n d, .int .i64 a, .int .i64 k] w fun e w'=>e = .returned (.int .i64 (gs c (a+k)))∧w=w':=by
 have hl:=hs.len
 have HS:=Bx.mk hs
 clear hs
 rcases Nat.lt_or_ge (a+k) n with h | h
 ·obtain⟨b,off,rfl,_,hc⟩:=Sl.gsAt HS.out h
  generalize gs c (a+k)=x at *
  have i1:(0:Int)≤(a:Int)+(k:Int):=by omega
  have i2:(a:Int)+(k:Int)<(n:Int):=by omega
  have hc':w.cell? ⟨b,off+((a:Int)+(k:Int)).toNat,none⟩=some (.int .i64 x):=by
   rw[show ((a:Int)+(k:Int)).toNat=a+k by omega]
   exact hc
  have d1:decide ((n:Int)≤(a:Int)+(k:Int))=false:=by simp; omega
  go_enter Tryz.func237,Tryz.ntmps237
  go_wp2
  go_ret
  exact⟨rfl,rfl⟩
 ·rw[gs_out (by omega)]
  have d1:decide ((n:Int)≤(a:Int)+(k:Int))=true:=by simp; omega
  go_enter Tryz.func237,Tryz.ntmps237
  go_wp2
  go_ret
  exact⟨rfl,rfl⟩
theorem check_any (s:List Int) (A:Option Addr) (n c:Nat) (w:World) (hs:Sl w F .i64 A n s) (hn:n≤9223372036854775807) :
  Calls Tryz.prog 206 #[.slice A n c] w fun e w'=>e = .returned (.int .i64 (aErr s))∧w=w':=by
 have HS:=Bx.mk hs
 have HL:=Bx.mk hs.len
 clear hs
 obtain⟨v,hv0⟩:∃ v,aErr s=v:=⟨_,rfl⟩
 rw[hv0]
 have HV:=Bx.mk hv0
 clear hv0
 by_cases hlong:65536<n
 ·obtain rfl:5=v:=by rw[←HV.out]; unfold aErr; rw[HL.out,if_pos hlong]
  go_enter Tryz.func206,Tryz.ntmps206
  go_wp2
  go_ret
  exact⟨rfl,rfl⟩
 ·have d1:decide (65536<(n:Int))=false:=by simp; omega
  go_enter Tryz.func206,Tryz.ntmps206
  go_wp2_with fail
  go_loop [4,10] (fun _ i=>∃ k:Nat,k≤n∧i = .int .i64 k∧Bx ((s.take k).all (fun x=>decide (0≤x))=true)) (fun _ i=>n-(intOf i).toNat)
  case atStart=>exact⟨0,Nat.zero_le _,rfl,⟨rfl⟩⟩
  case round =>
   obtain⟨k,hk,rfl,hA⟩:=hrel
   by_cases hlt:k<n
   ·obtain⟨b,off,x,rfl,_,hx,hcx⟩:=HS.out.at_ hlt
    by_cases h0:x<0
    ·obtain rfl:1=v:=by
      rw[←HV.out]
      unfold aErr
      rw[HL.out,if_neg hlong,if_neg]
      intro hall
      have:=List.all_eq_true.1 hall x (List.mem_of_getElem? hx.out)
      simp at this
      omega
     clear hx
     go_wp2
     go_ret
     exact⟨rfl,rfl⟩
    ·have h1:0≤x:=by omega
     have hall:(s.take (k+1)).all (fun x=>decide (0≤x))=true:=by
      rw[List.take_add_one,hx.out,List.all_append,hA.out]
      simpa using h1
     have HAA:=Bx.mk hall
     clear hx hall h0
     go_wp2
     go_round
     case rel=>exact⟨k+1,by omega,by go_num,HAA⟩
     case measure=>simp[intOf]; omega
   ·have h2:=hA.out
    rw[List.take_of_length_le (by rw[HL.out]; omega)] at h2
    obtain rfl:0=v:=by rw[←HV.out]; unfold aErr; rw[HL.out,if_neg hlong,if_pos h2]
    clear h2
    go_wp2
    go_ret
    exact⟨rfl,rfl⟩
end
end
section
open Go.RowKit Go.Oct Go.Su
def Least (s:List Int) (w:World) (e:Ending) (w':World):Prop:=∃ v:Int,e = .returned (.int .i64 v)∧(∃ p,p<s.length∧gs s p=v)∧(∀ p,p<s.length→v≤gs s p)∧w=w'
def IsIdx (s:List Int) (x:Int) (v:Int):Prop:=(∃ k:Nat,v=k∧k<s.length∧gs s k=x∧∀ p,p<k→gs s p≠x)∨(v = -1∧∀ p,p<s.length→gs s p≠x)
def Idx (s:List Int) (x:Int) (w:World) (e:Ending) (w':World):Prop:=∃ v:Int,e = .returned (.int .i64 v)∧IsIdx s x v∧w=w'
section
variable {F:Nat→Prop}
theorem min_any (s:List Int) (A:Option Addr) (n c:Nat) (w:World) (hs:Sl w F .i64 A n s) (hn:n≤1048576) (h0:0<n) :
  Calls Tryz.prog 204 #[.slice A n c] w (Least s w):=by
 have HS:=Bx.mk hs
 have HL:=Bx.mk hs.len
 obtain⟨b,off,x0,rfl,_,hx,hcx⟩:=hs.at_ h0
 have hg:=gs_at hx.out
 have HG:=Bx.mk hg
 have HST:Bx ((∃ p,p<n∧gs s p=x0)∧∀ p,p<1→x0≤gs s p):=⟨⟨0,h0,hg⟩,fun p hp=>by
  obtain rfl:p=0:=by omega
  rw[hg]
  exact Int.le_refl _⟩
 rw[Nat.add_zero] at hcx
 have d1:decide ((n:Int)<1)=false:=by simp; omega
 have i0:(0:Int)<(n:Int):=by omega
 clear hs hx hg
 go_enter Tryz.func204,Tryz.ntmps204
 go_wp2_with fail
 go_loop [3,4] (fun m i=>∃ (k:Nat) (v:Int),1≤k∧k≤n∧i = .int .i64 k∧m = .int .i64 v∧Bx ((∃ p,p<n∧gs s p=v)∧∀ p,p<k→v≤gs s p)) (fun _ i=>n-(intOf i).toNat)
 case atStart=>exact⟨1,x0,Nat.le_refl _,h0,rfl,rfl,HST⟩
 case round =>
  obtain⟨k,v,hk1,hk,rfl,rfl,hM⟩:=hrel
  by_cases hlt:k<n
  ·have dk:decide ((k:Int)<(n:Int))=true:=by simp; omega
   obtain⟨b',off',y,hA,_,hy,hcy⟩:=HS.out.at_ hlt
   injection hA with hA
   injection hA with e1 e2
   subst e1 e2
   have hgy:=gs_at hy.out
   have HGY:=Bx.mk hgy
   have i1:(k:Int)<(n:Int):=by omega
   clear hy hgy
   by_cases hv:y<v
   ·have HN:Bx ((∃ p,p<n∧gs s p=y)∧∀ p,p<k+1→y≤gs s p):=⟨⟨k,hlt,HGY.out⟩,fun p hp=>by
     by_cases e:p=k
     ·rw[e,HGY.out]
      exact Int.le_refl _
     ·have:=hM.out.2 p (by omega)
      omega⟩
    clear hM
    go_wp2
    go_round
    case rel=>exact⟨k+1,y,by omega,by omega,by go_num,rfl,HN⟩
    case measure=>simp[intOf]; omega
   ·have HN:Bx ((∃ p,p<n∧gs s p=v)∧∀ p,p<k+1→v≤gs s p):=⟨hM.out.1,fun p hp=>by
     by_cases e:p=k
     ·rw[e,HGY.out]
      omega
     ·exact hM.out.2 p (by omega)⟩
    clear hM
    go_wp2
    go_round
    case rel=>exact⟨k+1,v,by omega,by omega,by go_num,rfl,HN⟩
    case measure=>simp[intOf]; omega
  ·have dk:decide ((k:Int)<(n:Int))=false:=by simp; omega
   have HN:Bx ((∃ p,p<s.length∧gs s p=v)∧∀ p,p<s.length→v≤gs s p):=⟨by
    rw[HL.out]
    exact⟨hM.out.1,fun p hp=>hM.out.2 p (by omega)⟩⟩
   clear hM
   go_wp2
   go_ret
   exact⟨v,rfl,HN.out.1,HN.out.2,rfl⟩
theorem index_any (s:List Int) (A:Option Addr) (n c:Nat) (x:Int) (w:World) (hs:Sl w F .i64 A n s) (hn:n≤1048576) :
  Calls Tryz.prog 205 #[.slice A n c, .int .i64 x] w (Idx s x w):=by
 have HS:=Bx.mk hs
 have HL:=Bx.mk hs.len
 clear hs
 go_enter Tryz.func205,Tryz.ntmps205
 go_wp2_with fail
 go_loop [5,8] (fun _ i=>∃ k:Nat,k≤n∧i = .int .i64 k∧Bx (∀ p,p<k→gs s p≠x)) (fun _ i=>n-(intOf i).toNat)
 case atStart=>exact⟨0,Nat.zero_le _,rfl,⟨fun p hp=>absurd hp (by omega)⟩⟩
 case round =>
  obtain⟨k,hk,rfl,hM⟩:=hrel
  by_cases hlt:k<n
  ·have dk:decide ((k:Int)<(n:Int))=true:=by simp; omega
   obtain⟨b,off,y,rfl,_,hy,hcy⟩:=HS.out.at_ hlt
   have hgy:=gs_at hy.out
   have HGY:=Bx.mk hgy
   have i1:(k:Int)<(n:Int):=by omega
   clear hy hgy
   by_cases hv:x=y
   ·have HN:Bx (IsIdx s x (k:Int)):=⟨.inl ⟨k,rfl,by rw[HL.out]; exact hlt,by rw[HGY.out]; exact hv.symm,hM.out⟩⟩
    have hb:(x==y)=true:=by simpa using hv
    clear hM hv
    go_wp2
    go_ret
    exact⟨_,rfl,HN.out,rfl⟩
   ·have HN:Bx (∀ p,p<k+1→gs s p≠x):=⟨fun p hp=>by
     by_cases e:p=k
     ·rw[e,HGY.out]
      exact fun e=>hv e.symm
     ·exact hM.out p (by omega)⟩
    have hb:(x==y)=false:=by simpa using hv
    clear hM hv
    go_wp2
    go_round
    case rel=>exact⟨k+1,by omega,by go_num,HN⟩
    case measure=>simp[intOf]; omega
  ·have dk:decide ((k:Int)<(n:Int))=false:=by simp; omega
   have HN:Bx (IsIdx s x (-1)):=⟨.inr ⟨rfl,fun p hp=>hM.out p (by rw[HL.out] at hp; omega)⟩⟩
   clear hM
   go_wp2
   go_ret
   exact⟨_,rfl,HN.out,rfl⟩
theorem closed_iff {s:List Int} {n:Nat} {v i:Int} (hl:s.length=n) (h0:0<n) (hv1:∃ p,p<s.length∧gs s p=v) (hv2:∀ p,p<s.length→v≤gs s p) (hi:IsIdx s 0 i):Closed s↔(v=0∧i=(n:Int)-1):=by
 constructor
 ·intro hc
  have h1:=hv2 (s.length-1) (by omega)
  rw[hc.last] at h1
  obtain⟨p,hp,e⟩:=hv1
  have h2:=gs_pos hc.pos hp
  refine⟨by omega,?_⟩
  rcases hi with ⟨k,rfl,hk,hk0,_⟩ | ⟨_,h3⟩
  ·rcases Nat.lt_or_ge k (s.length-1) with h4 | h4
   ·exact absurd hk0 (hc.only k h4)
   ·omega
  ·exact absurd hc.last (h3 _ (by omega))
 ·rintro ⟨rfl,rfl⟩
  rcases hi with ⟨k,hk1,hk,hk0,hk2⟩ | ⟨h3,_⟩
  ·refine⟨fun x hx=>?_,by omega,by rw[show s.length-1=k by omega]; exact hk0,fun p hp=>hk2 p (by omega)⟩
   obtain⟨p,hp,e⟩:=List.getElem_of_mem hx
   have:=hv2 p hp
   rwa[gs_at (by rw[List.getElem?_eq_getElem hp,e])] at this
  ·omega
theorem closed_any (s:List Int) (A:Option Addr) (n c:Nat) (w:World) (hs:Sl w F .i64 A n s) (hn:n≤1048576) :
  Calls Tryz.prog 156 #[.slice A n c] w (TellsClosed s w):=by
 have hl:=hs.len
 have HL:=Bx.mk hl
 by_cases h0:n=0
 ·have d0:decide ((0:Int)<(n:Int))=false:=by simp; omega
  have d1:decide (0<n)=false:=by simp; omega
  have HN:Bx (¬Closed s):=⟨fun hc=>by have:=hc.full; omega⟩
  clear hs h0 hl
  go_enter Tryz.func156,Tryz.ntmps156
  go_wp2
  go_ret
  exact⟨false,rfl,⟨fun h=>(by cases h),fun h=>absurd h HN.out⟩,rfl⟩
 ·have d0:decide ((0:Int)<(n:Int))=true:=by simp; omega
  have d1:decide (0<n)=true:=by simp; omega
  have H0:Bx (0<n):=⟨by omega⟩
  have hmin:=min_any s A n c w hs hn (by omega)
  have hidx:=index_any s A n c 0 w hs hn
  have HIX:=Bx.mk hidx
  clear hs h0 hidx hl
  go_enter Tryz.func156,Tryz.ntmps156
  go_wp2_with fail
  refine hmin.mono ?_
  rintro e w1 ⟨v,rfl,hv1,hv2,rfl⟩
  have HV:=Bx.mk (And.intro hv1 hv2)
  clear hv1 hv2 hmin
  by_cases hv:v=0
  ·have hb:(v==0)=true:=by simpa using hv
   go_wp2_with fail
   refine HIX.out.mono ?_
   rintro e w2 ⟨i,rfl,hi,rfl⟩
   have HC:=Bx.mk (closed_iff HL.out H0.out HV.out.1 HV.out.2 hi)
   obtain⟨r,hr⟩:∃ r,(i==(n:Int)-1)=r:=⟨_,rfl⟩
   have HR:Bx (r=true↔Closed s):=⟨by
    rw[HC.out,←hr]
    simp[hv]⟩
   clear hi hv
   go_wp2
   go_ret
   exact⟨r,rfl,HR.out,rfl⟩
  ·have hb:(v==0)=false:=by simpa using hv
   have HN:Bx (¬Closed s):=⟨fun hc=>by
    have h1:=HV.out.2 (s.length-1) (by have:=hc.full; omega)
    rw[hc.last] at h1
    obtain⟨p,hp,e⟩:=HV.out.1
    have:=gs_pos hc.pos hp
    omega⟩
   clear hv
   go_wp2
   go_ret
   exact⟨false,rfl,⟨fun h=>(by cases h),fun h=>absurd h HN.out⟩,rfl⟩
theorem ahead_any (s:List Int) (A:Option Addr) (n c x:Nat) (w:World) (hs:Sl w F .i64 A n s) (hn:n≤1048576) (hx:x<n) :
  Calls Tryz.prog 158 #[.slice A n c, .int .i64 x] w fun e w'=>e = .returned (.int .i64 (gs s (prv n x)))∧w=w':=by
 obtain⟨p,hp⟩:∃ p,prv n x=p:=⟨_,rfl⟩
 have hpn:p<n:=by rw[←hp]; exact prv_lt (by omega) hx
 obtain⟨b,off,rfl,_,hc⟩:=Sl.gsAt hs hpn
 rw[hp]
 generalize gs s p=v at *
 have i1:(p:Int)<(n:Int):=by omega
 by_cases h0:x=0
 ·subst h0
  have e1:(n:Int)-1=(p:Int):=by unfold prv at hp; rw[if_pos rfl] at hp; omega
  clear hp hs
  go_enter Tryz.func158,Tryz.ntmps158
  go_wp2
  go_ret
  exact⟨rfl,rfl⟩
 ·have e1:(x:Int)-1=(p:Int):=by unfold prv at hp; rw[if_neg h0] at hp; omega
  have hb:((x:Int)==0)=false:=by simp; omega
  clear hp hs h0
  go_enter Tryz.func158,Tryz.ntmps158
  go_wp2
  go_ret
  exact⟨rfl,rfl⟩
end
end
section
open Go.RowKit Go.Oct Go.Su
def Classes (E:Nat→Nat→Prop) (n:Nat) (L:List Nat) (w:World) (e:Ending) (w':World):Prop:=∃ (g:Nat) (cl:List Nat) (a:Bool),e = .returned (.tuple #[.slice (some ⟨g,0,none⟩) n n, .bool a])∧ClsUp E n L L.length cl a∧Own w' 3 1 g n n (vals cl)∧w.heap.size≤g∧Ch (fun _=>False) w w'
section
variable {F:Nat→Prop}
theorem classify_any (E:Nat→Nat→Prop) (same:Nat→Nat→Bool) (hE:∀ x y,same x y=true↔E x y) (f:Nat) (cb:Array Value) (L:List Nat) (A:Option Addr) (n c:Nat) (w:World) (hs:Sl w F .i64 A n (asI L)) (hn:n≤1048576) (hnd:L.Nodup) (hL:∀ x∈L,x<n) (eg:∀ args w,(callFunc f args).run Tryz.prog w = .ok (.enter f args) w)
  (hf:∀ W,Ch (fun _=>False) w W→∀ x y,x<n→y<n→Calls Tryz.prog f (#[.int .i64 (x:Nat), .int .i64 (y:Nat)]++cb) W fun e w'=>e = .returned (.bool (same x y))∧∃ q,w'=W.drewN q) :
  Calls Tryz.prog 232 #[.slice A n c, .func (.func f) #[] cb] w (Classes E n L w):=by
 have hl:L.length=n:=by have:=hs.len; rwa[asI_len] at this
 have HL:=Bx.mk hl
 have HS:=Bx.mk (hs.mono (G:=fun b=>b<w.heap.size) (fun b h _=>h))
 have HND:=Bx.mk hnd
 have HLT:=Bx.mk hL
 have HF:=Bx.mk hf
 have HE:=Bx.mk hE
 have hmk:=mkI w n hn
 clear hs hnd hL hf hl hE
 go_enter Tryz.func232,Tryz.ntmps232
 go_wp2_with fail
 obtain⟨G,hG⟩:∃ G,w.heap.size=G:=⟨_,rfl⟩
 obtain⟨w0,hw0⟩:∃ w0,w.alloc (.cells (madeCells #[.int .i64 0] n) 3)=w0:=⟨_,rfl⟩
 have hC0:Ch (fun _=>False) w w0:=by rw[←hw0]; exact (Ch.refl (fun _=>False) w).alloc _
 have hO0:Own w0 3 1 G n n (vals (List.replicate n 0)):=by
  unfold vals
  rw[List.map_replicate,←hw0,←hG]
  exact own_made1 w 3 (.int .i64 0) n (by omega)
 rw[hw0,hG]
 have HC0:=Bx.mk hC0
 have HO0:=Bx.mk hO0
 have HG:=Bx.mk hG
 clear hw0 hC0 hO0 hG hmk
 go_loopw [5,6,7,13] (fun a _ _ i wr=>∃ (j:Nat) (cl:List Nat) (b:Bool),j≤n∧i = .int .i64 j∧a = .bool b∧ClsUp E n L j cl b∧Own wr 3 1 G n n (vals cl)∧Ch (fun _=>False) w wr) (fun _ _ _ i _=>n-(intOf i).toNat)
 case atStart=>exact⟨0,_,true,Nat.zero_le _,rfl,rfl,clsUp_start,HO0.out,HC0.out⟩
 case round =>
  obtain⟨j,cl,ab,hj,rfl,rfl,hcl,hO,hC⟩:=hrel
  by_cases hjn:j<n
  ·have hSr:=HS.out.ch hC (fun _ _ _ h=>h)
   obtain⟨b,off,y0,rfl,hbG,hy0,hcy⟩:=hSr.at_ hjn
   obtain⟨y,rfl,hy⟩:=asI_at hy0.out
   have hyn:y<n:=HLT.out y (List.mem_of_getElem? hy)
   have hco:=hO.cellN hyn
   have hfo:=hO.frozenAt y
   have hst:=hO.storedN y j
   generalize gn cl y=old at hco
   have HCL:=Bx.mk hcl
   have HY:=Bx.mk hy
   have i1:(0:Int)≤(j:Int):=by omega
   have i2:(j:Int)<(n:Int):=by omega
   have i3:(0:Int)≤(y:Int):=by omega
   have i4:(y:Int)<(n:Int):=by omega
   cases j with
   | zero =>
    rw[Nat.add_zero] at hcy
    have HCN:=Bx.mk (HCL.out.first HLT.out HY.out)
    have HST:=Bx.mk hst
    have HCC:=Bx.mk (hC.trans hst.2 (fun i hi (e:i=G)=>by have:=HG.out; omega))
    clear hcl hO hC hSr hy0 hy hst
    go_wp2
    go_roundw
    case rel=>exact⟨1,_,ab,by omega,by go_num,rfl,HCN.out,HST.out.1,HCC.out⟩
    case measure=>simp[intOf]; omega
   | succ j =>
    obtain⟨b',off',x0,hA',_,hx0,hcx⟩:=hSr.at_ (k:=j) (by omega)
    injection hA' with hA'
    injection hA' with e1 e2
    subst e1 e2
    obtain⟨x,rfl,hx⟩:=asI_at hx0.out
    have hxn:x<n:=HLT.out x (List.mem_of_getElem? hx)
    have hxy:y≠x:=fun e=>by subst e; have:=at_one HND.out hy hx; omega
    have jc:((j+1:Nat):Int)=(j:Int)+1:=by omega
    rw[jc] at hst i1 i2
    have d0:decide ((0:Int)<(j:Int)+1)=true:=by first | (simp; done) | (simp; omega)
    have j1:(j:Int)+1-1=(j:Int):=by omega
    have i5:(0:Int)≤(x:Int):=by omega
    have i6:(x:Int)<(n:Int):=by omega
    have i7:(0:Int)≤(j:Int):=by omega
    have i8:(j:Int)<(n:Int):=by omega
    have hcx1:=hst.2.cell (p:=⟨b,off+j,none⟩) (fun h=>by have h':b=G:=h; have:=HG.out; have:=hbG; omega) hcx
    have hcy1:=hst.2.cell (p:=⟨b,off+(j+1),none⟩) (fun h=>by have h':b=G:=h; have:=HG.out; have:=hbG; omega) hcy
    have hC1:=hC.trans (S:=fun _=>False) hst.2 (fun i hi (e:i=G)=>by have:=HG.out; omega)
    have hFx:=HF.out _ hC1 x y hxn hyn
    have hcl1:=hst.1.cellN hxn
    have hcy2:=hst.1.cellN hyn
    have hfy:=hst.1.frozenAt y
    have hgx:gn (cl.set y (j+1)) x=gn cl x:=by rw[gn_set (by rw[HCL.out.len]; exact hyn),if_neg hxy]
    rw[hgx] at hcl1
    have hmore:=fun v a'=>HCL.out.more HND.out HLT.out hx HY.out (v:=v) (a':=a')
    generalize gn (cl.set y (j+1)) y=old2 at hcy2
    generalize gn cl x=gx at *
    have HMORE:=Bx.mk hmore
    have HST1:=Bx.mk hst.1
    have HC1:=Bx.mk hC1
    have HHG:=Bx.mk (Nat.le_of_eq HG.out)
    obtain⟨bs,hbs⟩:∃ bs,same x y=bs:=⟨_,rfl⟩
    have HBS:Bx (bs=true↔E x y):=⟨by rw[←hbs]; exact HE.out x y⟩
    rw[hbs] at hFx
    clear hcl hO hC hSr hy0 hy hst hmore hx hx0 hC1 hbs hgx
    go_wp2_with fail
    refine hFx.mono ?_
    rintro e w2 ⟨rfl,q,rfl⟩
    generalize hw1:World.setCell wr _ _=w1 at *
    have HOQ:=Bx.mk (HST1.out.keep ((Ch.refl (fun _=>False) w1).drewN q))
    have HCQ:=Bx.mk (HC1.out.drewN q)
    have hcx2:(w1.drewN q).cell? ⟨b,off+j,none⟩=some (.int .i64 (x:Int)):=hcx1
    have hcl2:(w1.drewN q).cell? ⟨G,x,none⟩=some (.int .i64 (gx:Int)):=hcl1
    have hcy3:(w1.drewN q).cell? ⟨G,y,none⟩=some (.int .i64 (old2:Int)):=hcy2
    have hfy2:(w1.drewN q).frozen? ⟨G,y,none⟩=false:=hfy
    clear hw1 HST1 HC1 hcx1 hcy1 hcl1 hcy2 hfy hFx hcx hcy hco hfo
    cases bs
    ·have HCN:=Bx.mk (HMORE.out (j+1) ab (fun h=>absurd (HBS.out.2 h) (by decide)) (fun _=>⟨rfl,rfl⟩))
     generalize w1.drewN q=w2 at *
     go_wp2
     go_roundw
     case rel=>exact⟨j+1+1,_,ab,by omega,by go_num,rfl,HCN.out,HOQ.out,HCQ.out⟩
     case measure=>simp[intOf]; omega
    ·have HCN:=Bx.mk (HMORE.out gx false (fun _=>⟨rfl,rfl⟩) (fun h=>absurd (HBS.out.1 rfl) h))
     generalize w1.drewN q=w2 at *
     have hst2:=HOQ.out.storedN y gx
     rw[List.set_set] at hst2
     have HST2:=Bx.mk hst2
     clear hst2
     go_wp2
     go_roundw
     case rel=>exact⟨j+1+1,_,false,by omega,by go_num,rfl,HCN.out,HST2.out.1,HCQ.out.trans HST2.out.2 (fun i hi (e:i=G)=>by have:=HHG.out; omega)⟩
     case measure=>simp[intOf]; omega
  ·have hjn':j=n:=by omega
   have dj:decide ((j:Int)<(n:Int))=false:=by simp; omega
   have HCA:Bx (ClsUp E n L L.length cl ab):=⟨by rw[HL.out]; rw[hjn'] at hcl; exact hcl⟩
   have HO:=Bx.mk hO
   have HC:=Bx.mk hC
   clear hcl hO hC hjn'
   go_wp2
   go_returns
   exact⟨G,cl,ab,rfl,HCA.out,HO.out,Nat.le_of_eq HG.out,HC.out⟩
end
end
section
open Go.RowKit Go.Oct Go.Su
def Laid (f:Nat→Nat) (R:List Nat) (n:Nat) (w:World) (e:Ending) (w':World):Prop:=∃ (g:Nat) (M:List Nat),e = .returned (.slice (some ⟨g,0,none⟩) n n)∧Put f R n M∧Own w' 3 1 g n n (vals M)∧w.heap.size≤g∧Ch (fun _=>False) w w'
theorem nxt_zero {f:Nat→Nat} {R:List Nat} (n:Nat):nxt n f R 0=List.range n:=by
 apply List.ext_getElem?
 intro q
 rcases Nat.lt_or_ge q n with h | h
 ·rw[nxt_at h,List.getElem?_range h]
  unfold upTo
  simp
 ·rw[List.getElem?_eq_none (by rw[nxt_len]; exact h),List.getElem?_eq_none (by rw[List.length_range]; exact h)]
section
variable {F G:Nat→Prop}
theorem byclass_any (R cl:List Nat) (A B:Option Addr) (n c d:Nat) (w:World) (hs:Sl w F .i64 A n (asI R)) (hb:Sl w G .i64 B n (asI cl)) (hn:n≤65536) (hR:∀ x∈R,x<n) (hcl:∀ x,x<n→gn cl x<n) (hc:Cnt (gn cl) R) :
  Calls Tryz.prog 234 #[.slice A n c, .slice B n d] w (Laid (gn cl) R n w):=by
 have hl:R.length=n:=by have:=hs.len; rwa[asI_len] at this
 have hl2:cl.length=n:=by have:=hb.len; rwa[asI_len] at this
 have HL:=Bx.mk hl
 have HL2:=Bx.mk hl2
 have HS:=Bx.mk (hs.mono (G:=fun b=>b<w.heap.size) (fun b h _=>h))
 have HB:=Bx.mk (hb.mono (G:=fun b=>b<w.heap.size) (fun b h _=>h))
 have HR:=Bx.mk hR
 have HCL:=Bx.mk hcl
 have HC:=Bx.mk hc
 clear hs hb hR hcl hc hl hl2
 go_enter Tryz.func234,Tryz.ntmps234
 go_wp2_with fail
 refine (upto_any n _ (by omega)).mono ?_
 rintro e w1 ⟨g,rfl,hO1,hg,hC1⟩
 rw[←nxt_zero (f:=gn cl) (R:=R)] at hO1
 have hmk:=mkI w1 n (by omega)
 have HO1:=Bx.mk hO1
 have HG1:=Bx.mk hg
 have HC1:=Bx.mk hC1
 have HGL:=Bx.mk hO1.lt
 clear hO1 hg hC1
 go_wp2_with fail
 obtain⟨H,hH⟩:∃ H,w1.heap.size=H:=⟨_,rfl⟩
 obtain⟨w2,hw2⟩:∃ w2,w1.alloc (.cells (madeCells #[.int .i64 0] n) 3)=w2:=⟨_,rfl⟩
 have hC2:Ch (fun _=>False) w1 w2:=by rw[←hw2]; exact (Ch.refl (fun _=>False) w1).alloc _
 have hO2:Own w2 3 1 H n n (vals (List.replicate R.length 0)):=by
  unfold vals
  rw[HL.out,List.map_replicate,←hw2,←hH]
  exact own_made1 w1 3 (.int .i64 0) n (by omega)
 have HO1':=Bx.mk (HO1.out.keep hC2)
 have HO2:=Bx.mk hO2
 have HC2:=Bx.mk (HC1.out.trans hC2 (fun _ _ h=>h))
 have HHG:Bx (g<H∧w.heap.size≤g∧w.heap.size≤H):=⟨by
  have h1:=HGL.out
  have h2:=HG1.out
  omega⟩
 have HS2:Bx (Sl w2 (fun b=>b<w.heap.size) .i64 A n (asI R)):=⟨HS.out.ch HC2.out (fun _ _ _ h=>h)⟩
 have HB2:Bx (Sl w2 (fun b=>b<w.heap.size) .i64 B n (asI cl)):=⟨HB.out.ch HC2.out (fun _ _ _ h=>h)⟩
 rw[hw2,hH]
 clear hw2 hH hC2 hO2 hmk HO1 HC1 HS HB HGL HG1
 go_loopw [8,9,18] (fun _ _ i wr=>∃ (j:Nat) (M:List Nat),j≤n∧i = .int .i64 j∧Own wr 3 1 g n n (vals (nxt n (gn cl) R j))∧Own wr 3 1 H n n (vals M)∧Put (gn cl) R j M∧Ch (fun b=>b=g∨b=H) w2 wr) (fun _ _ i _=>n-(intOf i).toNat)
 case atStart=>exact⟨0,_,Nat.zero_le _,rfl,HO1'.out,HO2.out,put_start,Ch.refl _ _⟩
 case round =>
  obtain⟨j,M,hj,rfl,hON,hOM,hP,hCr⟩:=hrel
  have hhg:=HHG.out
  by_cases hjn:j<n
  ·have hSr:=HS2.out.ch hCr (fun b hb _ h=>by omega)
   have hBr:=HB2.out.ch hCr (fun b hb _ h=>by omega)
   obtain⟨b,off,x0,rfl,hbG,hx0,hcx⟩:=hSr.at_ hjn
   obtain⟨x,rfl,hx⟩:=asI_at hx0.out
   have hxn:x<n:=HR.out x (List.mem_of_getElem? hx)
   obtain⟨b2,off2,q0,rfl,hb2G,hq0,hcq⟩:=hBr.at_ hxn
   obtain⟨q,rfl,hq⟩:=asI_at hq0.out
   have hqv:=gn_at hq
   have hqn:q<n:=by have:=HCL.out x hxn; omega
   have hcn:=hON.cellN hqn
   have hnq:gn (nxt n (gn cl) R j) q=pos (gn cl) R j x:=by
    rw[gn_at (nxt_at hqn)]
    unfold pos
    rw[hqv]
   have hpl:=pos_lt HC.out hx
   rw[HL.out] at hpl
   have hnn:=nxt_next (n:=n) (f:=gn cl) hx
   have hPn:=hP.next HC.out hx
   have hpe:gn cl x+Go.Su.upTo (gn cl) R j (gn cl x)=pos (gn cl) R j x:=rfl
   rw[hpe,hqv] at hnn
   rw[hnq] at hcn
   generalize pos (gn cl) R j x=p at *
   have hco:=hOM.cellN hpl
   have hfo:=hOM.frozenAt p
   have hst1:=hOM.storedN p x
   have hON1:=hON.ch hst1.2 (fun h=>by have h':g=H:=h; omega)
   have hcn1:=hst1.2.cell (p:=⟨g,q,none⟩) (fun h=>by have h':g=H:=h; omega) hcn
   have hfn:=hON1.frozenAt q
   have hst2:=hON1.storedN q (p+1)
   rw[hnn] at hst2
   have pc:((p+1:Nat):Int)=(p:Int)+1:=by omega
   rw[pc] at hst2
   have hOM2:=hst1.1.ch hst2.2 (fun h=>by have h':H=g:=h; omega)
   have hCn:=(hCr.trans hst1.2 (S:=fun b=>b=g∨b=H) (fun i hi (e:i=H) => .inr e)).trans hst2.2 (S:=fun b=>b=g∨b=H) (fun i hi (e:i=g) => .inl e)
   generalize gn M p=old at *
   have HA:=Bx.mk hst2.1
   have HB':=Bx.mk hOM2
   have HPN:=Bx.mk hPn
   have HCN:=Bx.mk hCn
   have i1:(0:Int)≤(x:Int):=by omega
   have i2:(x:Int)<(n:Int):=by omega
   have i3:(0:Int)≤(q:Int):=by omega
   have i4:(q:Int)<(n:Int):=by omega
   have i5:(0:Int)≤(p:Int):=by omega
   have i6:(p:Int)<(n:Int):=by omega
   clear hON hOM hP hCr hSr hBr hx0 hx hq0 hq hqv hnq hnn hPn hpe hst1 hst2 hON1 hOM2 hCn hhg
   go_wp2
   go_roundw
   case rel=>exact⟨j+1,_,by omega,by go_num,HA.out,HB'.out,HPN.out,HCN.out⟩
   case measure=>simp[intOf]; omega
  ·have hjn':j=n:=by omega
   have dj:decide ((j:Int)<(n:Int))=false:=by simp; omega
   have HPF:Bx (Put (gn cl) R n M):=⟨by rw[hjn'] at hP; exact hP⟩
   have HOM:=Bx.mk hOM
   have HCF:=Bx.mk (HC2.out.trans hCr (S:=fun _=>False) (fun i hi h=>by omega))
   clear hON hOM hP hCr hjn' hhg
   go_wp2
   go_ret
   exact⟨H,M,rfl,HPF.out,HOM.out,HHG.out.2.2,HCF.out⟩
end
end
section
open Go.RowKit Go.Oct Go.Su
def rstUp (n k:Nat) (L:List Nat) (j:Nat):List Nat:=List.range' (n-k) k++((L.take j).filter (fun x=>decide (k≤x))).map (fun x=>x-k)
theorem rstUp_zero (n k:Nat) (L:List Nat):rstUp n k L 0=List.range' (n-k) k:=by unfold rstUp; simp
theorem rstUp_all (n k:Nat) (L:List Nat):rstUp n k L L.length=rst n k L:=by unfold rstUp rst; rw[List.take_length]
theorem rstUp_in {n k:Nat} {L:List Nat} {j x:Nat} (h:L[j]? = some x) (hx:k≤x):rstUp n k L (j+1)=rstUp n k L j++[x-k]:=by
 unfold rstUp
 rw[List.take_add_one,h,Option.toList_some,List.filter_append,List.map_append,←List.append_assoc]
 simp[hx]
theorem rstUp_out {n k:Nat} {L:List Nat} {j x:Nat} (h:L[j]? = some x) (hx:x<k):rstUp n k L (j+1)=rstUp n k L j:=by
 unfold rstUp
 rw[List.take_add_one,h,Option.toList_some,List.filter_append]
 simp
 omega
theorem rstUp_short {n k:Nat} {L:List Nat} (j:Nat):(rstUp n k L j).length≤k+L.length:=by
 unfold rstUp
 rw[List.length_append,List.length_range',List.length_map]
 have h1:=List.length_filter_le (fun x=>decide (k≤x)) (L.take j)
 rw[List.length_take] at h1
 omega
def SomeRow (n:Nat) (l:List Nat) (w:World) (e:Ending) (w':World):Prop:=∃ (A:Option Addr) (c:Nat),e = .returned (.slice A n c)∧Sl w' (fun b=>w.heap.size≤b) .i64 A n (asI l)∧n≤c∧c≤maxLen∧Ch (fun _=>False) w w'
section
variable {F:Nat→Prop}
theorem byrest_any (L:List Nat) (A:Option Addr) (n c k:Nat) (w:World) (hs:Sl w F .i64 A n (asI L)) (hn:n≤65536) (hk:k≤n) (hlen:(rst n k L).length=n) (hL:∀ x∈L,x<n) :
  Calls Tryz.prog 235 #[.slice A n c, .int .i64 k] w (SomeRow n (rst n k L) w):=by
 have hl:L.length=n:=by have:=hs.len; rwa[asI_len] at this
 have HL:=Bx.mk hl
 have HS:=Bx.mk (hs.mono (G:=fun b=>b<w.heap.size) (fun b h _=>h))
 have HLEN:=Bx.mk hlen
 have HLT:=Bx.mk hL
 have hmk:=run_mkI0 n (by omega) w
 have HG0:=Bx.mk (gr_made w n (by omega))
 obtain⟨p0,hp0⟩:∃ p0:Nat,n-k=p0:=⟨_,rfl⟩
 have HP0:=Bx.mk hp0
 have hpk:(n:Int)-(k:Int)=(p0:Int):=by omega
 clear hs hl hlen hp0 hL
 go_enter Tryz.func235,Tryz.ntmps235
 go_wp2_with fail
 generalize hw0:w.alloc (.cells (madeCells #[.int .i64 0] n) 3)=w0 at *
 go_loopw [5,6] (fun v i wr=>∃ j p:Nat,j≤k∧p=p0+j∧i = .int .i64 (p:Int)∧Gr w wr v (List.range' p0 j)) (fun _ i _=>n-(intOf i).toNat)
 case atStart=>exact⟨0,p0,Nat.zero_le _,rfl,rfl,HG0.out⟩
 case round =>
  obtain⟨j,p,hj,hp,rfl,hG⟩:=hrel
  have hpp:=HP0.out
  have HG:=Bx.mk hG
  have HPJ:=Bx.mk hp
  have hpn:j≤n:=by omega
  clear hG hp
  by_cases hlt:p<n
  ·have hx:List.range' p0 (j+1)=List.range' p0 j++[p]:=by rw[List.range'_1_concat,HPJ.out]
   have HX:=Bx.mk hx
   have hlj:(List.range' p0 j).length=j:=List.length_range'
   have hown:=HG.out.own
   rw[hlj] at hown
   clear hx hlj
   go_wp2_with (at_builtin; refine wp_app rfl (.tmp 22) (.tmp 24) elemI rfl rfl (hown.alloc _) rfl (Vs.one _ _ _) ?c1 ?c2 ?c3 ?_)
   case c1=>intro u hu; simp at hu; subst hu; rfl
   case c2=>omega
   case c3=>omega
   intro v5 w5 ho1 hg1 hb1
   have hG5:=HG.out.one (x:=p) (by rw[List.length_range']; exact ho1) hg1 hb1
   rw[←HX.out] at hG5
   have HG5:=Bx.mk hG5
   clear ho1 hg1 hb1 hG5
   go_wp2
   go_roundw
   case rel=>exact⟨j+1,p+1,by have:=HPJ.out; omega,by have:=HPJ.out; omega,by go_num,HG5.out⟩
   case measure=>simp[intOf]; omega
  ·have hjk:j=k:=by have:=HPJ.out; omega
   have hG2:Gr w wr u5 (rstUp n k L 0):=by
    rw[rstUp_zero,hpp,←hjk]
    exact HG.out
   have hkk:(rstUp n k L 0).length=k:=by rw[rstUp_zero,List.length_range']
   have HG2:=Bx.mk hG2
   have dp:decide ((p:Int)<(n:Int))=false:=by simp; omega
   have HS2:Bx (Sl wr (fun b=>b<w.heap.size) .i64 A n (asI L)):=⟨HS.out.ch HG.out.ch (fun _ _ _ h=>h)⟩
   obtain⟨wo,rfl⟩:∃ wo:World,wo=wr:=⟨_,rfl⟩
   clear hG2 hjk hkk
   go_wp2_with fail
   go_loopw [5,8,28] (fun v _ i wr=>∃ j:Nat,j≤n∧i = .int .i64 (j:Int)∧Gr w wr v (rstUp n k L j)) (fun _ _ i _=>n-(intOf i).toNat)
   case atStart=>exact⟨0,Nat.zero_le _,rfl,HG2.out⟩
   case round =>
    obtain⟨j,hj,rfl,hG⟩:=hrel
    have HG:=Bx.mk hG
    by_cases hjn:j<n
    ·obtain⟨b,off,x0,rfl,_,hx0,hcx⟩:=(HS.out.ch hG.ch (fun _ _ _ h=>h)).at_ hjn
     obtain⟨x,rfl,hx⟩:=asI_at hx0.out
     have i1:(0:Int)≤(j:Int):=by omega
     have i2:(j:Int)<(n:Int):=by omega
     by_cases hkx:k≤x
     ·obtain⟨y,hy⟩:∃ y:Nat,x-k=y:=⟨_,rfl⟩
      have hyn:y<n:=by have:=HLT.out x (List.mem_of_getElem? hx); omega
      have hnx:=rstUp_in (n:=n) hx hkx
      rw[hy] at hnx
      have HNX:=Bx.mk hnx
      have hyk:(x:Int)-(k:Int)=(y:Int):=by omega
      have d0:decide ((k:Int)≤(x:Int))=true:=by simp; omega
      have hsh:=rstUp_short (n:=n) (k:=k) (L:=L) j
      rw[HL.out] at hsh
      have hown:=HG.out.own
      obtain⟨q,hq⟩:∃ q,(rstUp n k L j).length=q:=⟨_,rfl⟩
      rw[hq] at hown hsh
      have HQ:=Bx.mk hq
      clear hG hx hx0 hy hnx hq
      go_wp2_with (at_builtin; refine wp_app rfl (.tmp 35) (.tmp 39) elemI rfl rfl (hown.alloc _) rfl (Vs.one _ _ _) ?c1 ?c2 ?c3 ?_)
      case c1=>intro u hu; simp at hu; subst hu; rfl
      case c2=>omega
      case c3=>omega
      intro v5 w5 ho1 hg1 hb1
      clear hyk d0 hown hsh
      have hG5:=HG.out.one (x:=y) (by rw[HQ.out]; exact ho1) hg1 hb1
      rw[←HNX.out] at hG5
      have HG5:=Bx.mk hG5
      clear ho1 hg1 hb1 hG5
      go_wp2
      go_roundw
      case rel=>exact⟨j+1,by omega,by go_num,HG5.out⟩
      case measure=>simp[intOf]; omega
     ·have hnx:=rstUp_out (n:=n) hx (show x<k by omega)
      have d0:decide ((k:Int)≤(x:Int))=false:=by simp; omega
      have HGN:Bx (Gr w wr u5 (rstUp n k L (j+1))):=⟨by rw[hnx]; exact HG.out⟩
      clear hG hx hx0 hnx
      go_wp2
      go_roundw
      case rel=>exact⟨j+1,by omega,by go_num,HGN.out⟩
      case measure=>simp[intOf]; omega
    ·have hjn':j=n:=by omega
     have dj:decide ((j:Int)<(n:Int))=false:=by simp; omega
     have hGF:Gr w wr u5 (rst n k L):=by
      rw[←rstUp_all,HL.out]
      rw[hjn'] at hG
      exact hG
     obtain⟨A5,c5,rfl,hs5,h1,h2⟩:=hGF.shape
     rw[HLEN.out] at hs5 h1 ⊢
     have HS5:=Bx.mk hs5
     have HC5:=Bx.mk hGF.ch
     clear hG hjn' hGF hs5
     go_wp2
     go_ret
     exact⟨A5,c5,rfl,HS5.out,h1,h2,HC5.out⟩
end
end
end Go.Proofs.YtambgjpfoceieaaGreatDoor
