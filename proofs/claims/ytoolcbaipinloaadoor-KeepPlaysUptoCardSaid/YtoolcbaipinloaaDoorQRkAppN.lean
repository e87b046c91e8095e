/- Lemmas and contracts of this proof. Conditions: said at each. -/
import Derived.Test.YtoolcbaipinloaaDoorQGRkRemd
set_option maxHeartbeats 16000000
set_option maxRecDepth 100000
namespace Go.Proofs.YtoolcbaipinloaaDoor
open Go.RowKit Go.Oct Go.Su Go.Dk Go.Maps
section
variable {w w' w2:World} {h h' h2:Nat→Rt} {us vs:List Value} {fs gs:Fs} {S F:Nat→Prop} {x y:Fl} {k:Key} {d:Nat} {s:Ds}
theorem rapp_nil {B:Option Addr} {mb cb:Nat} {bs:List Int} (H:Rdk w h d s) (hk:k.length≤9223372036854775807) (hz:Sl w F .u8 B mb bs) (hm30:mb≤1073741824) (hF:∀ b,F b→h b = .no) (hby:∀ z∈bs,0≤z∧z<256) (hmay:may s k=0) (hf:fnd s.fs k=none) (hroom:used s.fs+bs.length≤s.room) (hl4:s.fs.length<4096) (hrow:w.cell? ⟨d,1,none⟩=some (.slice none 0 0)) (hz0:s.fs.length=0) :
  Calls Tryd.prog 23 #[pv d,kv k, .slice B mb cb] w (PostR (opApp s k bs) d w h):=by
 have hp:pv d = .pointer (some ⟨d,0,none⟩):=rfl
 have HM:=Bx.mk (rmay1_any H hk)
 have HH:=Bx.mk H
 have HMY:=Bx.mk hmay
 have HRM:Bx (Room s k bs.length):=⟨hroom,fun _=>hl4⟩
 have HR:=Bx.mk (app_ok HMY.out HRM.out)
 have HSP:Bx (∀ w1,Ch (fun _=>False) w w1→Calls Tryd.prog 47 #[pv d,kv k] w1 fun e w'=>e = .returned (.tuple #[.int .i64 ((lo s.fs k).length:Int), .bool (fnd s.fs k).isSome])∧Ch (fun _=>False) w1 w'):=⟨fun w1 hc=>spot_any (H.keep hc) k⟩
 have HBL:=Bx.mk hz.len
 have HZ:=Bx.mk hz
 have HBY:=Bx.mk hby
 have HFN:=Bx.mk hF
 have HOKN:=Bx.mk (may_ok hmay).2
 obtain⟨S,hkv⟩:∃ S,kv k = .string S:=⟨_,rfl⟩
 have HKV:=Bx.mk hkv
 obtain⟨i,hi⟩:∃ i,(lo s.fs k).length=i:=⟨_,rfl⟩
 have hil0:=lo_le s.fs k
 have hP0:=put_new (f:=⟨k,[],0⟩) HH.out.ok.fine.rise (show fnd s.fs (Fl.mk k [] 0).nm=none from hf)
 have hP0':put s.fs ⟨k,[],0⟩=s.fs.take i++⟨k,[],0⟩::s.fs.drop i:=by rw[hP0]; show s.fs.take (lo s.fs k).length++_::s.fs.drop (lo s.fs k).length=_; rw[hi]
 rw[hi] at hil0
 have HP0:=Bx.mk hP0'
 have HFNO:=Bx.mk hf
 have HU0:Bx (used (put s.fs ⟨k,[],0⟩)=used s.fs):=⟨by rw[used_put,del_no HH.out.ok.fine.rise (fnd_none hf)]; rfl⟩
 have HOK1:Bx (DsOk ⟨s.room,put s.fs ⟨k,[],0⟩,s.left⟩):=⟨⟨HH.out.ok.fine.put HOKN.out (Nat.le_refl _) (by simp),by show used (put s.fs ⟨k,[],0⟩)≤s.room; rw[HU0.out]; exact HH.out.ok.used,HH.out.ok.room,by
  show (put s.fs ⟨k,[],0⟩).length≤4096
  rw[len_put_new (g:=⟨k,[],0⟩) HH.out.ok.fine.rise (fnd_none hf)]
  omega⟩⟩
 have HRO:=Bx.mk hroom
 rw[hp] at HM HSP ⊢
 rw[hkv] at HM HSP ⊢
 rw[hmay] at HM
 rw[hi,hf] at HSP
 obtain⟨u,hu⟩:∃ u,used s.fs=u:=⟨_,rfl⟩
 obtain⟨r,hr⟩:∃ r,s.room=r:=⟨_,rfl⟩
 have hum:u≤1073741824:=by have:=HH.out.ok.used; have:=HH.out.ok.room; omega
 have hfit:u+mb≤r:=by rw[HBL.out,hu,hr] at hroom; exact hroom
 have HUS:Bx (∀ w1,Ch (fun _=>False) w w1→∀ n,Calls Tryd.prog 48 #[.pointer (some ⟨d,0,none⟩)] (w1.drewN n) fun e w'=>e = .returned (.int .i64 (u:Int))∧∃ m,w'=w1.drewN m):=⟨fun w1 hc n=>by rw[←hu]; exact rused_quiet (H.keep hc) n⟩
 obtain⟨um,hum2⟩:∃ um,u+mb=um:=⟨_,rfl⟩
 have e1:(u:Int)+(mb:Int)=(um:Int):=by omega
 have hum9:um≤2147483648:=by omega
 have i1':decide ((r:Int)<(um:Int))=false:=decide_eq_false (by omega)
 have i1'':decide (r<um)=false:=decide_eq_false (by omega)
 obtain⟨n0,hn0⟩:∃ n,s.fs.length=n:=⟨_,rfl⟩
 have HN0:=Bx.mk hn0
 rw[hn0] at hl4 hil0
 have i4:decide ((4096:Int)≤(n0:Int))=false:=decide_eq_false (by omega)
 have i4':decide (4096≤n0)=false:=decide_eq_false (by omega)
 have c0:=H.c0
 rw[hr] at c0
 have HILO:=Bx.mk hi
 rw[hn0] at hz0
 obtain⟨c00,hc00⟩:∃ c00:Nat,c00=0:=⟨_,rfl⟩
 have HZ0:Bx (n0=0∧i=0∧c00=0):=⟨by omega⟩
 have HROW:Bx (w.cell? ⟨d,1,none⟩=some (.slice none n0 c00)):=⟨by rw[hrow,hz0,hc00]⟩
 have jn1:(i:Int)≤(c00:Int):=by omega
 have jn2:(i:Int)≤(n0:Int):=by omega
 have jn3:(0:Int)≤(i:Int):=by omega
 have jn4:(n0:Int)≤(c00:Int):=by omega
 have jn5:c00≤9223372036854775807:=by omega
 clear hrow hc00 hz0
 clear hp H hk hkv hi hf hmay hroom hz hby hF hu hr hum2 hP0 hP0' hn0
 go_enter Tryd.func23,Tryd.ntmps23
 go_wp2_with fail
 refine HM.out.mono ?_
 rintro e w1 ⟨rfl,hc1⟩
 have HS1:=Bx.mk (HSP.out w1 hc1)
 have HC1:=Bx.mk hc1
 clear hc1 HSP HM
 go_wp2_with fail
 refine HS1.out.mono ?_
 rintro e w2 ⟨rfl,hc2⟩
 have hc12:=HC1.out.trans hc2 (fun _ _ h=>h)
 have HC2:=Bx.mk hc12
 have HUS2:=Bx.mk (HUS.out w2 hc12)
 have c02:w2.cell? ⟨d,0,none⟩=some (.int .i64 (r:Int)):=hc12.cell (p:=⟨d,0,none⟩) (fun h=>h) c0
 have cr2:w2.cell? ⟨d,1,none⟩=some (.slice none n0 c00):=hc12.cell (p:=⟨d,1,none⟩) (fun h=>h) HROW.out
 clear hc12 hc2 HS1 HC1 HUS c0
 go_wp2_with fail
 have e2:IntKind.i64.wrap (um:Int)=(um:Int):=IntWalk.i64_in _ (by omega)
 go_quiet ((go_at_call 48; exact HUS2.out _))
 clear e2
 obtain⟨w3,hw3⟩:∃ w3,w2.drewN nq=w3:=⟨_,rfl⟩
 have hc3:Ch (fun _=>False) w w3:=by rw[←hw3]; exact HC2.out.drewN nq
 rw[hw3]
 have HH3:=Bx.mk (HH.out.keep hc3)
 have HC3:=Bx.mk hc3
 have cr3:w3.cell? ⟨d,1,none⟩=some (.slice none n0 c00):=hc3.cell (p:=⟨d,1,none⟩) (fun h=>h) HROW.out
 clear hw3 hc3 HC2 HUS2 c02 cr2 i1' i1'' e1 i4 i4'
 have HGA:=Bx.mk (gs_fl0 w3 79)
 have HOA:=Bx.mk (fl_set w3 79)
 have cra:=cell_alloc cr3 (.cells #[] 79)
 have HOB1:=Bx.mk (HOA.out.alloc (.cells #[.string S, .slice none 0 0, .int .i64 0] 79))
 have HCB1:=Bx.mk (fl_cells (w3.alloc (.cells #[] 79)) S none 0 0 0)
 rw[World.size_alloc] at HCB1
 go_wp2_with (at_builtin; refine wp_appK rfl (.tmp 56) (.tmp 59) elemFl rfl rfl HOB1.out rfl (m:=1) rfl HCB1.out (fl_one _ _ _ _ _) (by omega) (by omega) ?_)
 all_goals first | (exfalso; have h0:=HZ0.out; omega) | skip
 obtain rfl:i=0:=HZ0.out.2.1
 intro v7 w7 ho6 hg6 hb6
 have hG7:=HGA.out.app (m:=1) (news:=[Value.string S, .slice none 0 0, .int .i64 ((0:Nat):Int)]) ((Ch.refl _ (w3.alloc (.cells #[] 79))).alloc _) ho6 hg6 (by rw[World.size_alloc,World.size_alloc]; exact hb6)
 have cr7:=hG7.ch.cell (p:=⟨d,1,none⟩) (fun h=>h) cr3
 have hG7:Gs 79 3 w3 w7 v7 1 ([]++[Value.string S, .slice none 0 0, .int .i64 ((0:Nat):Int)]):=hG7
 obtain⟨g7,c7,rfl,h71,h72⟩:∃ g c,v7 = .slice (some ⟨g,0,none⟩) 1 c∧1≤c∧c≤9223372036854775807:=by
  rcases own_form hG7.own with ⟨_,e⟩ | ⟨g7,c7,e,h71,h72⟩
  ·omega
  ·exact⟨g7,c7,e,h71,by unfold maxLen at h72; omega⟩
 have h73:1+n0≤c7:=by have:=HZ0.out; omega
 clear ho6 hg6 hb6 cra
 have hfl7:Fls w7 h ([]++[Value.string S, .slice none 0 0, .int .i64 ((0:Nat):Int)]) (s.fs.take 0++⟨k,[],0⟩::s.fs.drop 0):=by
  have e6:s.fs=[]:=List.eq_nil_of_length_eq_zero (by rw[HN0.out]; exact HZ0.out.1)
  rw[e6,←HKV.out,List.take_nil,List.drop_nil]
  exact Fls.one ⟨k,[],0⟩ (Sl.nil _ _ _ _) (Nat.le_refl _) (Nat.zero_le _)
 have hk1:=hG7.ch.cell (p:=⟨d,1,none⟩) (fun h=>h) cr3
 have hz1:=(hG7.ch.frozen (p:=⟨d,1,none⟩) (fun h=>h) HH3.out.lt_d).trans (HH3.out.zf 1)
 obtain⟨s1,hs1⟩:∃ s1:Ds,s1=⟨s.room,put s.fs ⟨k,[],0⟩,s.left⟩:=⟨_,rfl⟩
 obtain⟨x,hx⟩:∃ x:Fl,x=⟨k,[],0⟩:=⟨_,rfl⟩
 have HN7:Bx ((put s.fs ⟨k,[],0⟩).length=1+n0):=⟨by rw[len_put_new (g:=⟨k,[],0⟩) HH3.out.ok.fine.rise (fnd_none HFNO.out),HN0.out]; try first | omega | (have:=HZ0.out; omega)⟩
 have hG7:Gs 79 3 w3 w7 (.slice (some ⟨g7,0,none⟩) (1+n0) c7) (1+n0) ([]++[Value.string S, .slice none 0 0, .int .i64 ((0:Nat):Int)]):=by rw[HZ0.out.1]; exact hG7
 rw[←HN7.out] at hG7
 obtain⟨r1,r2⟩:=HH3.out.rerow hG7 (by rw[HP0.out]; exact hfl7) HOK1.out
 rw[HN7.out] at r1 r2 hG7
 obtain⟨h8,hh8⟩:∃ h8,tagV h (.slice (some ⟨g7,0,none⟩) (1+n0) c7) .row=h8:=⟨_,rfl⟩
 rw[hh8] at r1 r2
 obtain⟨w8,hw8⟩:∃ w8,w7.setCell ⟨d,1,none⟩ (.slice (some ⟨g7,0,none⟩) (1+n0) c7)=w8:=⟨_,rfl⟩
 have r1':Rdk w8 h8 d s1:=by rw[←hw8,hs1]; exact r1
 have hx1:s1.fs[0]? = some x:=by rw[hs1,hx]; show (put s.fs ⟨k,[],0⟩)[0]? = _; rw[HP0.out,List.getElem?_append_right (by rw[List.length_take]; omega),List.length_take,Nat.min_eq_left (by rw[HN0.out]; exact hil0),Nat.sub_self]; rfl
 have HGR:=Bx.mk (r1'.growing hx1 HBY.out (by rw[hs1]; show used (put s.fs ⟨k,[],0⟩)+_≤s.room; rw[HU0.out]; exact HRO.out))
 have HGW:Bx (Rgo w h w8 h8):=⟨(Rgo.quiet HC3.out).trans (hw8 ▸ r2)⟩
 have HSB:Bx (Sl w8 F .u8 B mb bs):=⟨HZ.out.ch HGW.out.ch (fun b hb _ hs=>hs (HFN.out b hb))⟩
 have HLF:Bx (s1.left≠some 0):=⟨by rw[hs1]; exact (may_ok HMY.out).1⟩
 have HPUT:Bx ((⟨s1.room,s1.fs.set 0 (addF x bs),tick s1.left⟩:Ds)=⟨s.room,put s.fs (grow (fnd s.fs k) k bs),tick s.left⟩):=⟨by
  rw[HFNO.out,hs1,hx]
  show Ds.mk s.room ((put s.fs ⟨k,[],0⟩).set 0 ⟨k,[]++bs,0⟩) _=Ds.mk s.room (put s.fs ⟨k,bs,0⟩) _
  have e5:put s.fs ⟨k,bs,0⟩=s.fs.take 0++⟨k,bs,0⟩::s.fs.drop 0:=by
   have h9:=put_new (f:=⟨k,bs,0⟩) HH3.out.ok.fine.rise (show fnd s.fs (Fl.mk k bs 0).nm=none from HFNO.out)
   have h10:=HP0.out
   have h11:=put_new (f:=⟨k,[],0⟩) HH3.out.ok.fine.rise (show fnd s.fs (Fl.mk k [] 0).nm=none from HFNO.out)
   have hli:(lo s.fs k).length=0:=HILO.out
   rw[h9]
   show s.fs.take (lo s.fs k).length++_::s.fs.drop (lo s.fs k).length=_
   rw[hli]
  rw[e5,HP0.out,List.set_append_right _ _ (by rw[List.length_take]; omega),List.length_take,Nat.min_eq_left (by rw[HN0.out]; exact hil0),Nat.sub_self,List.nil_append]
  rfl⟩
 clear hs1 hx HN7 hG7 r1 r2 hh8 r1' hx1 hfl7
 go_wp2_with fail
 try rw[hw8]
 clear hw8 hk1 hz1
 obtain⟨b,c,A,cc,c1,hnc,hcm,hil,k2,hsl,hqb,hfin⟩:=HGR.out
 have HFIN:=Bx.mk hfin
 obtain⟨n,hn⟩:∃ n,s1.fs.length=n:=⟨_,rfl⟩
 obtain⟨q,hq⟩:∃ q,x.bs.length=q:=⟨_,rfl⟩
 rw[hn] at c1 hnc hil
 rw[hq] at k2 hqb
 have HQ:=Bx.mk hq
 have HNN:=Bx.mk hn
 have hc9:c≤9223372036854775807:=by unfold maxLen at hcm; omega
 have i2:(0:Int)<(n:Int):=by omega
 have i0:(0:Int)≤(0:Int):=by omega
 have HKE:Bx (∀ w',Ch (fun _=>False) w8 w'→w'.cell? ⟨d,1,none⟩=some (.slice (some ⟨b,0,none⟩) n c)∧w'.cell? ⟨b,1,none⟩=some (.slice A q cc)):=⟨fun w' hc=>⟨hc.cell (p:=⟨d,1,none⟩) (fun h=>h) c1,hc.cell (p:=⟨b,1,none⟩) (fun h=>h) k2⟩⟩
 have c1a:=cell_alloc c1 (.cells #[] 5)
 have k2a:=cell_alloc k2 (.cells #[] 5)
 have HSA:Bx (Sl (w8.drew.alloc (.cells #[] 5)) (fun b=>h8 b = .by) .u8 A q x.bs):=⟨by rw[←hq]; exact hsl.ch (((Ch.refl (fun _=>False) w8).drew).alloc _) (fun _ _ _ h=>h)⟩
 have HF0:=Bx.mk (fresh_b0 w8.drew)
 have HAP1:Bx (∀ v5 w5,World.ownsRow w5 0 5 1 v5 (0+q) ([]++x.bs.map (Value.int .u8))→(w8.drew.alloc (.cells #[] 5)).grownBy w5 (Value.slice (some ⟨w8.drew.heap.size,0,none⟩) 0 0).ownBlock→(v5.ownBlock=(Value.slice (some ⟨w8.drew.heap.size,0,none⟩) 0 0).ownBlock∨v5.ownBlock=some (w8.drew.alloc (.cells #[] 5)).heap.size) →
   Fresh w8.drew v5 x.bs w5∧w5.cell? ⟨d,1,none⟩=some (.slice (some ⟨b,0,none⟩) n c)∧Sl w5 F .u8 B mb bs):=⟨fun v5 w5 h1 h2 h3=>by
  have hF:=HF0.out.app (m:=q) (zs:=x.bs) h2 h1 h3
  rw[List.nil_append] at hF
  have hcc:=((Ch.refl (fun _=>False) w8).drew).trans hF.2.2 (fun _ _ h=>h)
  exact⟨hF,(HKE.out _ hcc).1,HSB.out.ch hcc (fun _ _ _ h=>h)⟩⟩
 have HAP2:Bx (∀ v5 w5 v6 w6,Fresh w8.drew v5 x.bs w5→World.ownsRow w6 0 5 1 v6 (q+mb) (x.bs.map (Value.int .u8)++bs.map (Value.int .u8))→w5.grownBy w6 v5.ownBlock→(v6.ownBlock=v5.ownBlock∨v6.ownBlock=some w5.heap.size) →
   w6.cell? ⟨d,1,none⟩=some (.slice (some ⟨b,0,none⟩) n c)∧(∃ u,w6.cell? ⟨b,1,none⟩=some u)∧w6.frozen? ⟨b,1,none⟩=false∧∃ h',Rdk (w6.setCell ⟨b,1,none⟩ v6) h' d ⟨s1.room,s1.fs.set 0 (addF x bs),s1.left⟩∧Rgo w8 h8 (w6.setCell ⟨b,1,none⟩ v6) h'):=⟨fun v5 w5 v6 w6 hF h1 h2 h3=>by
  have hF6:=hF.app (m:=mb) (zs:=bs) h2 (by rw[HQ.out]; exact h1) h3
  have:=HFIN.out v6 w6 hF6
  rw[HNN.out] at this
  exact this⟩
 have HPO:Bx (∀ v5 w5,Fresh w8.drew v5 x.bs w5→w5.ownsRow 0 5 1 v5 q (x.bs.map (Value.int .u8))):=⟨fun v5 w5 hF=>by rw[←HQ.out]; exact hF.1⟩
 have HCLX:=Bx.mk (ints_cells .u8 x.bs)
 have HCLB:=Bx.mk (ints_cells .u8 bs)
 have HOB:=Bx.mk (own_b0 w8.drew)
 clear hfin hcm hsl hq hn
 go_wp2_with fail
 go_region_law ((first
  | (refine step_app rfl (.tmp 77) (.tmp 85) Tb rfl rfl HOB.out rfl HSA.out HCLX.out (by omega) (by omega) ?_; intro v5 w5 ho5 hg5 hb5; obtain⟨hF5,c15,hs5⟩:=HAP1.out v5 w5 ho5 hg5 hb5; have HF5:=Bx.mk hF5; have HS5:=Bx.mk hs5; clear hF5 hs5 ho5 hg5 hb5)
  | (refine step_app rfl (.tmp 86) (.tmp 87) Tb rfl rfl (HPO.out v5 w5 HF5.out) rfl HS5.out HCLB.out (by omega) (by omega) ?_; intro v6 w6 ho6 hg6 hb6; obtain⟨c16,⟨u6,k16⟩,z16,hR6⟩:=HAP2.out v5 w5 v6 w6 HF5.out ho6 hg6 hb6; obtain⟨A6,c6,rfl,_,_⟩:=own_shape ho6; have HR6:=Bx.mk hR6; clear hR6 ho6 hg6 hb6)))
 all_goals
  obtain⟨h6,r6,g6⟩:=HR6.out
  have HD:=Bx.mk (rdid_any r6 HLF.out)
  rw[show pv d = .pointer (some ⟨d,0,none⟩) from rfl] at HD
  have HG6:=Bx.mk g6
  have HT6:=Bx.mk r6.tag
  clear r6 g6 HR6
  go_wp2_with fail
  refine HD.out.mono ?_
  rintro e w9 ⟨rfl,hd9,hc9⟩
  go_wp2
  go_ret
  refine⟨by rw[HR.out]; rfl,h6,?_,(HGW.out.trans HG6.out).trans ⟨hc9.mono (fun j' _ hj'=>by rw[hj',HT6.out]; exact fun e=>by cases e),fun b hb => .inl hb⟩⟩
  rw[HR.out]
  have h5:Rdk w9 h6 d ⟨s1.room,s1.fs.set 0 (addF x bs),tick s1.left⟩:=hd9
  rw[HPUT.out] at h5
  exact h5
end
end Go.Proofs.YtoolcbaipinloaaDoor
