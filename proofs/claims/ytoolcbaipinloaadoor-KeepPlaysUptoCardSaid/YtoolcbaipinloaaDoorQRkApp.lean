/- Lemmas and contracts of this proof. Conditions: said at each. -/
import Derived.Test.YtoolcbaipinloaaDoorQGRkRemd
set_option maxHeartbeats 16000000
set_option maxRecDepth 100000
namespace Go.Proofs.YtoolcbaipinloaaDoor
open Go.RowKit Go.Oct Go.Su Go.Dk Go.Maps
section
variable {w w' w2:World} {h h' h2:Nat→Rt} {us vs:List Value} {fs gs:Fs} {S F:Nat→Prop} {x y:Fl} {k:Key} {d:Nat} {s:Ds}
theorem rapp_old {B:Option Addr} {mb cb:Nat} {bs:List Int} (H:Rdk w h d s) (hk:k.length≤9223372036854775807) (hz:Sl w F .u8 B mb bs) (hm30:mb≤1073741824) (hby:∀ z∈bs,0≤z∧z<256) (hmay:may s k=0) (hf:fnd s.fs k=some x) (hroom:used s.fs+bs.length≤s.room) :
  Calls Tryd.prog 23 #[pv d,kv k, .slice B mb cb] w (PostR (opApp s k bs) d w h):=by
 have hp:pv d = .pointer (some ⟨d,0,none⟩):=rfl
 have HM:=Bx.mk (rmay1_any H hk)
 have HH:=Bx.mk H
 have HMY:=Bx.mk hmay
 have HRM:Bx (Room s k bs.length):=⟨hroom,fun e=>by rw[hf] at e; cases e⟩
 have HR:=Bx.mk (app_ok HMY.out HRM.out)
 have HSP:Bx (∀ w1,Ch (fun _=>False) w w1→Calls Tryd.prog 47 #[pv d,kv k] w1 fun e w'=>e = .returned (.tuple #[.int .i64 ((lo s.fs k).length:Int), .bool (fnd s.fs k).isSome])∧Ch (fun _=>False) w1 w'):=⟨fun w1 hc=>spot_any (H.keep hc) k⟩
 have HBL:=Bx.mk hz.len
 have HZ:=Bx.mk hz
 obtain⟨S,hkv⟩:∃ S,kv k = .string S:=⟨_,rfl⟩
 obtain⟨i,hi⟩:∃ i,(lo s.fs k).length=i:=⟨_,rfl⟩
 have hxi:=at_lo HH.out.ok.fine.rise hf
 rw[hi] at hxi
 have HX:=Bx.mk hxi
 have HPUT:Bx ((⟨s.room,s.fs.set i (addF x bs),tick s.left⟩:Ds)=⟨s.room,put s.fs (grow (fnd s.fs k) k bs),tick s.left⟩):=⟨by
  rw[hf,put_at (f:=grow (some x) k bs) HH.out.ok.fine.rise (show fnd s.fs (grow (some x) k bs).nm=some x from hf)]
  show _=Ds.mk s.room (s.fs.set (lo s.fs k).length _) _
  rw[hi]
  unfold grow addF
  rw[(fnd_some hf).2]⟩
 have HGRF:Bx (∀ w1,Ch (fun _=>False) w w1→_):=⟨fun w1 hc=>(H.keep hc).growing hxi hby hroom⟩
 rw[hp] at HM HSP ⊢
 rw[hkv] at HM HSP ⊢
 rw[hmay] at HM
 rw[hi,hf] at HSP
 obtain⟨u,hu⟩:∃ u,used s.fs=u:=⟨_,rfl⟩
 obtain⟨r,hr⟩:∃ r,s.room=r:=⟨_,rfl⟩
 have hum:u≤1073741824:=by have:=HH.out.ok.used; have:=HH.out.ok.room; omega
 have hfit:u+mb≤r:=by rw[HBL.out,hu,hr] at hroom; exact hroom
 have HUS:Bx (∀ w1,Ch (fun _=>False) w w1→∀ n,Calls Tryd.prog 48 #[.pointer (some ⟨d,0,none⟩)] (w1.drewN n) fun e w'=>e = .returned (.int .i64 (u:Int))∧∃ m,w'=w1.drewN m):=⟨fun w1 hc n=>by rw[←hu]; exact rused_quiet (H.keep hc) n⟩
 have i1:decide ((r:Int)<(u:Int)+(mb:Int))=false:=decide_eq_false (by omega)
 obtain⟨um,hum2⟩:∃ um,u+mb=um:=⟨_,rfl⟩
 have e1:(u:Int)+(mb:Int)=(um:Int):=by omega
 have hum9:um≤2147483648:=by omega
 have i1':decide ((r:Int)<(um:Int))=false:=decide_eq_false (by omega)
 have i1'':decide (r<um)=false:=decide_eq_false (by omega)
 have c0:=H.c0
 rw[hr] at c0
 have HRE:=Bx.mk hr
 clear hp H hk hkv hi hf hxi hmay hroom hz hby hu hr hum2
 go_enter Tryd.func23,Tryd.ntmps23
 go_wp2_with fail
 refine HM.out.mono ?_
 rintro e w1 ⟨rfl,hc1⟩
 have HS1:=Bx.mk (HSP.out w1 hc1)
 have HC1:=Bx.mk hc1
 clear hc1 HSP HM
 go_wp2_with fail
 refine HS1.out.mono ?_
 rintro e w2 ⟨rfl,hc2⟩
 have hc12:=HC1.out.trans hc2 (fun _ _ h=>h)
 have HC2:=Bx.mk hc12
 have HUS2:=Bx.mk (HUS.out w2 hc12)
 have c02:w2.cell? ⟨d,0,none⟩=some (.int .i64 (r:Int)):=hc12.cell (p:=⟨d,0,none⟩) (fun h=>h) c0
 clear hc12 hc2 HS1 HC1 HUS c0
 go_wp2_with fail
 have e2:IntKind.i64.wrap (um:Int)=(um:Int):=IntWalk.i64_in _ (by omega)
 go_quiet ((go_at_call 48; exact HUS2.out _))
 clear e2
 go_wp2_with fail
 obtain⟨w3,hw3⟩:∃ w3,w2.drewN nq=w3:=⟨_,rfl⟩
 have hc3:Ch (fun _=>False) w w3:=by rw[←hw3]; exact HC2.out.drewN nq
 rw[hw3]
 have HGR:=Bx.mk (HGRF.out w3 hc3)
 have HGW:Bx (Rgo w h w3 h):=⟨Rgo.quiet hc3⟩
 have HLF:=Bx.mk (may_ok HMY.out).1
 have HSB:=Bx.mk (HZ.out.ch hc3 (fun _ _ _ h=>h))
 clear hw3 hc3 HC2 HUS2 HGRF c02 i1 i1' i1'' e1
 obtain⟨b,c,A,cc,c1,hnc,hcm,hil,k2,hsl,hqb,hfin⟩:=HGR.out
 have HFIN:=Bx.mk hfin
 obtain⟨n,hn⟩:∃ n,s.fs.length=n:=⟨_,rfl⟩
 obtain⟨q,hq⟩:∃ q,x.bs.length=q:=⟨_,rfl⟩
 rw[hn] at c1 hnc hil
 rw[hq] at k2 hqb
 have HQ:=Bx.mk hq
 have HNN:=Bx.mk hn
 have hc9:c≤9223372036854775807:=by unfold maxLen at hcm; omega
 have i2:(i:Int)<(n:Int):=by omega
 have i0:(0:Int)≤(i:Int):=by omega
 have HKE:Bx (∀ w',Ch (fun _=>False) w3 w'→w'.cell? ⟨d,1,none⟩=some (.slice (some ⟨b,0,none⟩) n c)∧w'.cell? ⟨b,i*3+1,none⟩=some (.slice A q cc)):=⟨fun w' hc=>⟨hc.cell (p:=⟨d,1,none⟩) (fun h=>h) c1,hc.cell (p:=⟨b,i*3+1,none⟩) (fun h=>h) k2⟩⟩
 have c1a:=cell_alloc c1 (.cells #[] 5)
 have k2a:=cell_alloc k2 (.cells #[] 5)
 have HSA:Bx (Sl (w3.drew.alloc (.cells #[] 5)) (fun b=>h b = .by) .u8 A q x.bs):=⟨by rw[←hq]; exact hsl.ch (((Ch.refl (fun _=>False) w3).drew).alloc _) (fun _ _ _ h=>h)⟩
 have HF0:=Bx.mk (fresh_b0 w3.drew)
 have HAP1:Bx (∀ v5 w5,World.ownsRow w5 0 5 1 v5 (0+q) ([]++x.bs.map (Value.int .u8))→(w3.drew.alloc (.cells #[] 5)).grownBy w5 (Value.slice (some ⟨w3.drew.heap.size,0,none⟩) 0 0).ownBlock→(v5.ownBlock=(Value.slice (some ⟨w3.drew.heap.size,0,none⟩) 0 0).ownBlock∨v5.ownBlock=some (w3.drew.alloc (.cells #[] 5)).heap.size) →
   Fresh w3.drew v5 x.bs w5∧w5.cell? ⟨d,1,none⟩=some (.slice (some ⟨b,0,none⟩) n c)∧Sl w5 F .u8 B mb bs):=⟨fun v5 w5 h1 h2 h3=>by
  have hF:=HF0.out.app (m:=q) (zs:=x.bs) h2 h1 h3
  rw[List.nil_append] at hF
  have hcc:=((Ch.refl (fun _=>False) w3).drew).trans hF.2.2 (fun _ _ h=>h)
  exact⟨hF,(HKE.out _ hcc).1,HSB.out.ch hcc (fun _ _ _ h=>h)⟩⟩
 have HAP2:Bx (∀ v5 w5 v6 w6,Fresh w3.drew v5 x.bs w5→World.ownsRow w6 0 5 1 v6 (q+mb) (x.bs.map (Value.int .u8)++bs.map (Value.int .u8))→w5.grownBy w6 v5.ownBlock→(v6.ownBlock=v5.ownBlock∨v6.ownBlock=some w5.heap.size) →
   w6.cell? ⟨d,1,none⟩=some (.slice (some ⟨b,0,none⟩) n c)∧(∃ u,w6.cell? ⟨b,i*3+1,none⟩=some u)∧w6.frozen? ⟨b,i*3+1,none⟩=false∧∃ h',Rdk (w6.setCell ⟨b,i*3+1,none⟩ v6) h' d ⟨s.room,s.fs.set i (addF x bs),s.left⟩∧Rgo w3 h (w6.setCell ⟨b,i*3+1,none⟩ v6) h'):=⟨fun v5 w5 v6 w6 hF h1 h2 h3=>by
  have hF6:=hF.app (m:=mb) (zs:=bs) h2 (by rw[HQ.out]; exact h1) h3
  have:=HFIN.out v6 w6 hF6
  rw[HNN.out] at this
  exact this⟩
 have HPO:Bx (∀ v5 w5,Fresh w3.drew v5 x.bs w5→w5.ownsRow 0 5 1 v5 q (x.bs.map (Value.int .u8))):=⟨fun v5 w5 hF=>by rw[←HQ.out]; exact hF.1⟩
 have HCLX:=Bx.mk (ints_cells .u8 x.bs)
 have HCLB:=Bx.mk (ints_cells .u8 bs)
 have HOB:=Bx.mk (own_b0 w3.drew)
 clear hfin hcm hsl hq hn
 go_wp2_with fail
 go_region_law ((first
  | (refine step_app rfl (.tmp 77) (.tmp 85) Tb rfl rfl HOB.out rfl HSA.out HCLX.out (by omega) (by omega) ?_; intro v5 w5 ho5 hg5 hb5; obtain⟨hF5,c15,hs5⟩:=HAP1.out v5 w5 ho5 hg5 hb5; have HF5:=Bx.mk hF5; have HS5:=Bx.mk hs5; clear hF5 hs5 ho5 hg5 hb5)
  | (refine step_app rfl (.tmp 86) (.tmp 87) Tb rfl rfl (HPO.out v5 w5 HF5.out) rfl HS5.out HCLB.out (by omega) (by omega) ?_; intro v6 w6 ho6 hg6 hb6; obtain⟨c16,⟨u6,k16⟩,z16,hR6⟩:=HAP2.out v5 w5 v6 w6 HF5.out ho6 hg6 hb6; obtain⟨A6,c6,rfl,_,_⟩:=own_shape ho6; have HR6:=Bx.mk hR6; clear hR6 ho6 hg6 hb6)))
 all_goals
  obtain⟨h6,r6,g6⟩:=HR6.out
  have HD:=Bx.mk (rdid_any r6 HLF.out)
  rw[show pv d = .pointer (some ⟨d,0,none⟩) from rfl] at HD
  have HG6:=Bx.mk g6
  have HT6:=Bx.mk r6.tag
  clear r6 g6 HR6
  go_wp2_with fail
  refine HD.out.mono ?_
  rintro e w9 ⟨rfl,hd9,hc9⟩
  go_wp2
  go_ret
  refine⟨by rw[HR.out]; rfl,h6,?_,(HGW.out.trans HG6.out).trans ⟨hc9.mono (fun j' _ hj'=>by rw[hj',HT6.out]; exact fun e=>by cases e),fun b hb => .inl hb⟩⟩
  rw[HR.out]
  have h5:Rdk w9 h6 d ⟨s.room,s.fs.set i (addF x bs),tick s.left⟩:=hd9
  rw[HPUT.out] at h5
  exact h5
end
end Go.Proofs.YtoolcbaipinloaaDoor
