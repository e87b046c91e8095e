/- Lemmas and contracts of this proof. Conditions: said at each. -/
import Derived.Test.YtoolcbaipinloaaDoorQRkCrashd
import Derived.Lib.SlBytesConst
import Derived.Lib.SmallJoins
set_option maxHeartbeats 4000000
set_option maxRecDepth 100000
namespace Go.Proofs.YtoolcbaipinloaaDoor
section
open Go.RowKit Go.Oct Go.Su Go.Dk Go.Maps Go.Fr
theorem k_free:Free ⟨1000,[],none⟩ 1000 0 0:=Free.new (by omega)
theorem k_byt:Byt [49,50,51]:=by intro x hx; simp at hx; omega
theorem k_save:(opSaveL ⟨1000,[],none⟩ [97] [49,50,51]).1=0:=by
 rw[saveL_short (by simp)]
 unfold opSave
 rw[if_pos (by decide)]
 exact (k_free.whole (k:=[97]) (bs:=frm [49,50,51]) (by decide) (frm_byt k_byt) (by rw[frm_len]; simp) (by omega)).1
theorem k_held:Held (opSaveL ⟨1000,[],none⟩ [97] [49,50,51]).2 [97] (some [49,50,51]) :=
 Held.saved (o:=none) ⟨k_free.ok,rfl,fun p e=>by cases e⟩ (by simp) k_byt k_save
theorem rem_room (s:Ds) (k:Key):(opRem s k).2.room=s.room:=by
 unfold opRem
 split
 ·rfl
 ·split <;> rfl
theorem app_room (s:Ds) (k:Key) (b:List Int):(opApp s k b).2.room=s.room:=by
 unfold opApp
 split
 ·rfl
 ·split <;> rfl
theorem sync_room (s:Ds) (k:Key):(opSync s k).2.room=s.room:=by
 unfold opSync
 split
 ·rfl
 ·split <;> rfl
theorem ren_room (s:Ds) (a b:Key):(opRen s a b).2.room=s.room:=by
 unfold opRen
 split
 ·rfl
 ·split
  ·rfl
  ·split
   ·rfl
   ·split <;> rfl
theorem wh1_room (s:Ds) (k:Key):(wh1 s k).2.room=s.room:=by
 unfold wh1
 split
 ·exact rem_room _ _
 ·rfl
theorem opSaveL_room (s:Ds) (k:Key) (p:List Int):(opSaveL s k p).2.room=s.room:=by
 unfold opSaveL
 split
 ·rfl
 ·split
  ·rfl
  ·rw[whole_steps]
   split
   ·exact wh1_room _ _
   ·split
    ·rw[app_room,wh1_room]
    ·split
     ·rw[sync_room,app_room,wh1_room]
     ·rw[ren_room,sync_room,app_room,wh1_room]
theorem kknown_any (w:World) (ht:O.Tab w):Calls Tryd.prog 8 #[] w fun e w'=>e = .returned (.bool true)∧Ch (fun _=>False) w w':=by
 have HT:=Bx.mk ht
 clear ht
 go_enter Tryd.func8,Tryd.ntmps8
 go_wp2_with fail
 refine (new_any 1000 w (by omega)).mono ?_
 rintro e w1 (⟨h1,_,_⟩ | ⟨_,_,S,rfl,hpd,hS,hc1⟩)
 ·omega
 ·obtain⟨g,mb,ad,hd,hgS⟩:=hpd.open_
  have HD:=Bx.mk hd
  have HG:Bx (∀ b,g b ≠ .no→w.heap.size≤b):=⟨fun b hb=>hS b (hgS b hb)⟩
  have HC1:=Bx.mk hc1
  obtain⟨d,hdd⟩:∃ d,w.heap.size=d:=⟨_,rfl⟩
  rw[hdd] at HD HG ⊢
  rw[show pv d = .pointer (some ⟨d,0,none⟩) from rfl]
  have HSZ:Bx (d<w1.heap.size):=⟨HD.out.lt d (by rw[HD.out.tag]; exact fun e=>by cases e)⟩
  clear hpd hS hgS hd hc1
  have kc:=fun (w:World) (C:Array Value) (n c:Nat)=>Lib.run_convert_bytes_const (P := Tryd.prog) w 32 5 C n c Tryd.underlying32 Tryd.underlying5
  have kc2:=Joins.run_convert_bytes_const_at (P := Tryd.prog) (w1.alloc (.cells #[.int .u8 49, .int .u8 50] 5 (2,3))) 32 5 #[.int .u8 51] 1 1 (w1.heap.size+1) (by simp) Tryd.underlying32 Tryd.underlying5
  have q1:Sl (w1.alloc (.cells #[.int .u8 49, .int .u8 50] 5 (2,3))) (fun b=>b=w1.heap.size) .u8 (some ⟨w1.heap.size,0,none⟩) 2 [49,50]:=Vs.built w1 5 [.int .u8 49, .int .u8 50] (2,3)
  have q2:Sl ((w1.alloc (.cells #[.int .u8 49, .int .u8 50] 5 (2,3))).alloc (.cells #[.int .u8 51] 5 (1,2))) (fun b=>b=w1.heap.size+1) .u8 (some ⟨w1.heap.size+1,0,none⟩) 1 [51]:=by
   have:=Vs.built (w1.alloc (.cells #[.int .u8 49, .int .u8 50] 5 (2,3))) 5 [.int .u8 51] (1,2)
   simpa[Sl] using this
  have q3:=Sls.two (G:=fun b=>w1.heap.size≤b) (F:=fun b=>w1.heap.size≤b) (c:=2) (d:=1) 32 ((q1.alloc (.cells #[.int .u8 51] 5 (1,2))).mono (fun b _ e=>Nat.le_of_eq e.symm)) (by simp) (by unfold maxLen; decide) (q2.mono (fun b _ e=>by omega)) (by simp) (by unfold maxLen; decide) (fun _ _ h=>h) (by simp; omega)
  have HQ3:=Bx.mk q3
  clear q1 q2 q3
  go_wp2_with fail
  have hc3:Ch (fun _=>False) w1 (((w1.alloc (.cells #[.int .u8 49, .int .u8 50] 5 (2,3))).alloc (.cells #[.int .u8 51] 5 (1,2))).alloc (.cells #[.slice (some ⟨w1.heap.size,0,none⟩) 2 2, .slice (some ⟨w1.heap.size+1,0,none⟩) 1 1] 32)):=(((Ch.refl _ _).alloc _).alloc _).alloc _
  have hq3:Sls (((w1.alloc (.cells #[.int .u8 49, .int .u8 50] 5 (2,3))).alloc (.cells #[.int .u8 51] 5 (1,2))).alloc (.cells #[.slice (some ⟨w1.heap.size,0,none⟩) 2 2, .slice (some ⟨w1.heap.size+1,0,none⟩) 1 1] 32)) (fun b=>w1.heap.size≤b) (some ⟨w1.heap.size+1+1,0,none⟩) 2 [[49,50],[51]]:=by simpa using HQ3.out
  clear HQ3 kc kc2
  generalize ((w1.alloc (.cells #[.int .u8 49, .int .u8 50] 5 (2,3))).alloc (.cells #[.int .u8 51] 5 (1,2))).alloc (.cells #[.slice (some ⟨w1.heap.size,0,none⟩) 2 2, .slice (some ⟨w1.heap.size+1,0,none⟩) 1 1] 32)=w3 at hc3 hq3 ⊢
  have HNO:Bx (∀ b,w1.heap.size≤b→g b = .no):=⟨fun b hb=>by
   rcases hgt:g b with _ | _ | _ | _
   ·rfl
   all_goals
    have h7:=HD.out.lt b (by rw[hgt]; exact fun e=>by cases e)
    omega⟩
  have HT3:=Bx.mk ((HT.out.ch HC1.out (fun h=>h)).ch hc3 (fun h=>h))
  have HSV:=Bx.mk (psave_any (c:=2) (k:=[97]) (HD.out.ch hc3 (fun _ _ h=>h)) HT3.out (by simp) hq3 (by omega) (by simp[cat]) (fun xs hx=>by simp at hx; rcases hx with rfl | rfl <;> (intro x hx; simp at hx; omega)))
  have HC3:=Bx.mk (HC1.out.trans hc3 (fun _ _ h=>h))
  have HD3:=Bx.mk (HD.out.ch hc3 (fun _ _ h=>h))
  rw[show pv d = .pointer (some ⟨d,0,none⟩) from rfl,show kv [97] = .string ⟨#[97]⟩ from rfl,show cat [[49,50],[51]]=[49,50,51] from rfl] at HSV
  clear hq3 hc3
  refine HSV.out.mono ?_
  rintro e w4 ⟨he,g4,mb4,ad4,hd4,hg4⟩
  have hs0:(opSaveL ⟨Int.toNat 1000,[],none⟩ [97] [49,50,51]).1=0:=k_save
  rw[hs0] at he
  subst he
  clear hs0
  have HHE:Bx (Held (opSaveL ⟨Int.toNat 1000,[],none⟩ [97] [49,50,51]).2 [97] (some [49,50,51])):=⟨k_held⟩
  have HRM:Bx ((opSaveL ⟨Int.toNat 1000,[],none⟩ [97] [49,50,51]).2.room=1000):=⟨opSaveL_room _ _ _⟩
  obtain⟨s4,hs4⟩:∃ s4,(opSaveL ⟨Int.toNat 1000,[],none⟩ [97] [49,50,51]).2=s4:=⟨_,rfl⟩
  rw[hs4] at hd4 HHE HRM
  have HD4:=Bx.mk hd4
  have HC4:Bx (Ch (fun b=>d≤b) w w4):=⟨(HC3.out.mono (fun _ _ h=>h.elim)).trans hg4.ch (fun b hb h=>HG.out b h)⟩
  have HG4:Bx (∀ b,g4 b ≠ .no→d≤b):=⟨fun b hb=>by
   rcases hg4.new b hb with h | h
   ·exact HG.out b h
   ·have:=HC3.out.size; omega⟩
  clear hd4 hg4 hs4
  have HCR:=Bx.mk (crash_any HD4.out 0 (by omega))
  rw[show pv d = .pointer (some ⟨d,0,none⟩) from rfl] at HCR
  go_wp2_with fail
  refine HCR.out.mono ?_
  rintro e w5 ⟨rfl,hd5,hc5⟩
  have HC5:Bx (Ch (fun b=>d≤b) w w5):=⟨HC4.out.trans hc5 (fun b _ h=>HG4.out b h)⟩
  have HD5:=Bx.mk hd5
  have HT5:Bx (O.Tab w5):=⟨HT.out.ch (S:=fun b=>d≤b) HC5.out (fun h=>by
   have:=lt_of_cell (HT.out 0 (by omega))
   omega)⟩
  have HLD:=Bx.mk (pload_any HD5.out HT5.out [97] (by show s4.room≤_; rw[HRM.out]; omega))
  rw[show pv d = .pointer (some ⟨d,0,none⟩) from rfl,show kv [97] = .string ⟨#[97]⟩ from rfl] at HLD
  clear hd5 hc5
  go_wp2_with fail
  refine HLD.out.mono ?_
  rintro e w6 ⟨v,he,hf⟩
  rw[(HHE.out.crash 0).load] at he hf
  have hf:Fresh w5 v [49,50,51] w6:=hf
  have he:e = .returned (.tuple #[v, .int .i64 0]):=he
  subst he
  obtain⟨hf1,hf2,hf3⟩:=hf
  obtain⟨A6,c6,rfl,h61,h62⟩:=own_shape hf1
  have kc:=fun (w:World) (C:Array Value) (n c:Nat)=>Lib.run_convert_bytes_const (P := Tryd.prog) w 32 5 C n c Tryd.underlying32 Tryd.underlying5
  have q1:Sl (w6.alloc (.cells #[.int .u8 49, .int .u8 50, .int .u8 51] 5 (3,4))) (fun b=>b=w6.heap.size) .u8 (some ⟨w6.heap.size,0,none⟩) 3 [49,50,51]:=Vs.built w6 5 [.int .u8 49, .int .u8 50, .int .u8 51] (3,4)
  have HSA:=Bx.mk (same_any A6 _ 3 3 c6 3 [49,50,51] [49,50,51] _ _ (w6.alloc (.cells #[.int .u8 49, .int .u8 50, .int .u8 51] 5 (3,4))) (by omega) (by omega) ((Sl.of_own hf1).alloc _) q1)
  have HC6:Bx (Ch (fun b=>d≤b) w (w6.alloc (.cells #[.int .u8 49, .int .u8 50, .int .u8 51] 5 (3,4)))):=⟨((HC5.out.trans hf3 (fun _ _ h=>h.elim))).alloc _⟩
  clear hf1 hf2 hf3 h61 h62 q1
  go_wp2_with fail
  refine HSA.out.mono ?_
  rintro e w7 ⟨rfl,q,rfl⟩
  have hdc:decide (([49,50,51]:List Int)=[49,50,51])=true:=by simp
  have HC7:=Bx.mk (HC6.out.drewN q)
  clear HSA
  go_wp2
  go_ret
  exact⟨rfl,HC7.out.os,HC7.out.tape,HC7.out.output,HC7.out.size,fun b hb _=>HC7.out.block b hb (by omega)⟩
end
section
open Go.RowKit Go.Oct Go.Su Go.Dk Go.Maps Go.Fr
def True_ (w:World) (e:Ending) (w':World):Prop:=e = .returned (.bool true)∧Ch (fun _=>False) w w'
section
variable {F:Nat→Prop}
end
end
section
open Go.RowKit Go.Oct Go.Su Go.Dk Go.Maps Go.Fr
structure Stt (w wr:World) (d:Nat) (g:Nat→Tg) (mb:Option Nat) (ad:Key→Nat) (s:Ds):Prop where
 disk:Dsk wr g d mb ad s
 ch:Ch (fun b=>w.heap.size≤b) w wr
 new:∀ b,g b ≠ .no→w.heap.size≤b
section
variable {w wr w':World} {d:Nat} {g g':Nat→Tg} {mb mb':Option Nat} {ad ad':Key→Nat} {s s':Ds} {e:Ending} {op:Nat×Ds} {k:Key}
theorem Stt.quiet (h:Stt w wr d g mb ad s) (hc:Ch (fun _=>False) wr w'):Stt w w' d g mb ad s:=⟨h.disk.keep hc,h.ch.trans hc (fun _ _ h=>h.elim),h.new⟩
theorem Stt.turn (h:Stt w wr d g mb ad s) (hd:Dsk w' g' d mb' ad' s') (hg:Dgo wr g w' g'):Stt w w' d g' mb' ad' s' :=
 ⟨hd,h.ch.trans hg.ch (fun b _ hb=>h.new b hb),fun b hb=>by
  rcases hg.new b hb with h1 | h1
  ·exact h.new b h1
  ·have:=h.ch.size; omega⟩
theorem Stt.tab (h:Stt w wr d g mb ad s) (ht:O.Tab w):O.Tab wr:=ht.ch h.ch (fun h=>by have:=lt_of_cell (ht 0 (by omega)); omega)
theorem Stt.no (h:Stt w wr d g mb ad s) {b:Nat} (hb:b<w.heap.size):g b = .no:=by
 rcases hgt:g b with _ | _ | _ | _
 ·rfl
 all_goals
  have h7:=h.new b (by rw[hgt]; exact fun e=>by cases e)
  omega
theorem ch_low (h:Ch (fun b=>w.heap.size≤b) w wr):Ch (fun _=>False) w wr:=⟨h.os,h.tape,h.output,h.size,fun b hb _=>h.block b hb (by omega)⟩
theorem Stt.done (h:Stt w wr d g mb ad s):Ch (fun _=>False) w wr:=ch_low h.ch
end
end
section
open Go.RowKit Go.Oct Go.Su Go.Dk Go.Maps Go.Fr
structure Two (w wr:World) (d r:Nat) (g:Nat→Tg) (mb:Option Nat) (ad:Key→Nat) (h:Nat→Rt) (s t:Ds):Prop where
 p:Stt w wr d g mb ad s
 q:Rdk wr h r t
 new:∀ b,h b ≠ .no→w.heap.size≤b
 apart:∀ b,g b ≠ .no→h b = .no
section
variable {w wr w':World} {d r:Nat} {g g':Nat→Tg} {mb mb':Option Nat} {ad ad':Key→Nat} {h h':Nat→Rt} {s s' t t':Ds} {k:Key}
theorem rno_of {b:Nat} (H:¬ h b ≠ .no):h b = .no:=by
 rcases hgt:h b with _ | _ | _ | _
 ·rfl
 all_goals exact absurd (by rw[hgt]; exact fun e=>by cases e) H
theorem Two.quiet (H:Two w wr d r g mb ad h s t) (hc:Ch (fun _=>False) wr w'):Two w w' d r g mb ad h s t:=⟨H.p.quiet hc,H.q.keep hc,H.new,H.apart⟩
theorem Two.left (H:Two w wr d r g mb ad h s t) (hd:Dsk w' g' d mb' ad' s') (hg:Dgo wr g w' g'):Two w w' d r g' mb' ad' h s' t :=
 ⟨H.p.turn hd hg,H.q.ch hg.ch (fun b hb hs=>hb (H.apart b hs)),H.new,fun b hb=>by
  rcases hg.new b hb with h1 | h1
  ·exact H.apart b h1
  ·refine rno_of fun h2=>?_
   have:=H.q.lt b h2
   omega⟩
theorem Two.leftc (H:Two w wr d r g mb ad h s t) (hd:Dsk w' g d mb ad s') (hc:Ch (fun i=>g i ≠ .no) wr w'):Two w w' d r g mb ad h s' t:=H.left hd ⟨hc,fun _ h => .inl h⟩
theorem Two.right (H:Two w wr d r g mb ad h s t) (hd:Rdk w' h' r t') (hg:Rgo wr h w' h'):Two w w' d r g mb ad h' s t' :=
 ⟨⟨H.p.disk.ch hg.ch (fun b hb hs=>hs (H.apart b hb)),H.p.ch.trans hg.ch (fun b _ hb=>H.new b hb),H.p.new⟩,hd,fun b hb=>by
  rcases hg.new b hb with h1 | h1
  ·exact H.new b h1
  ·have:=H.p.ch.size; omega,fun b hb=>by
  refine rno_of fun h2=>?_
  rcases hg.new b h2 with h1 | h1
  ·exact h1 (H.apart b hb)
  ·have:=H.p.disk.lt b hb
   omega⟩
theorem Two.size (H:Two w wr d r g mb ad h s t):w.heap.size≤wr.heap.size:=H.p.ch.size
structure Free1 (wr:World) (g:Nat→Tg) (h:Nat→Rt) (b:Nat):Prop where
 lt:b<wr.heap.size
 g:g b = .no
 h:h b = .no
theorem Two.fresh (H:Two w wr d r g mb ad h s t) (o:Obj):Free1 (wr.alloc o) g h wr.heap.size:=⟨by simp,H.p.disk.fresh _ rfl,rno_of fun h2=>by have:=H.q.lt _ h2; omega⟩
theorem Two.other {S:Nat→Prop} (H:Two w wr d r g mb ad h s t) (hc:Ch S wr w') (hS:∀ b,S b→g b = .no∧h b = .no∧w.heap.size≤b):Two w w' d r g mb ad h s t :=
 ⟨⟨H.p.disk.ch hc (fun b hb hs=>hb (hS b hs).1),H.p.ch.trans hc (fun b _ hb=>(hS b hb).2.2),H.p.new⟩,H.q.ch hc (fun b hb hs=>hb (hS b hs).2.1),H.new,H.apart⟩
structure Bw (w:World) (N:Nat) (wr:World) (g:Nat→Tg) (h:Nat→Rt) (v:Value) (n:Nat) (xs:List Int):Prop where
 own:wr.ownsRow 0 5 1 v n (xs.map (Value.int .u8))
 no:∀ b,v.ownBlock=some b→g b = .no∧h b = .no∧w.heap.size≤b
 lies:∀ b,v.ownBlock=some b→N≤b
theorem Two.noOne (H:Two w wr d r g mb ad h s t) {b:Nat} (hb:wr.heap.size≤b):g b = .no∧h b = .no∧w.heap.size≤b:=⟨by
 rcases hgt:g b with _ | _ | _ | _
 ·rfl
 all_goals
  have h7:=H.p.disk.lt b (by rw[hgt]; exact fun e=>by cases e)
  omega,rno_of fun h2=>by have:=H.q.lt _ h2; omega,Nat.le_trans H.size hb⟩
theorem Two.empty {N:Nat} (H:Two w wr d r g mb ad h s t) (hN:N≤wr.heap.size):Two w (wr.alloc (.cells #[] 5)) d r g mb ad h s t∧Bw w N (wr.alloc (.cells #[] 5)) g h (.slice (some ⟨wr.heap.size,0,none⟩) 0 0) 0 [] :=
 ⟨H.quiet ((Ch.refl _ _).alloc _),own_b0 wr,fun b hb=>by
  have hb:wr.heap.size=b:=by simpa[Value.ownBlock] using hb
  exact H.noOne (by omega),fun b hb=>by
  have hb:wr.heap.size=b:=by simpa[Value.ownBlock] using hb
  omega⟩
theorem Bw.keep {v:Value} {n N:Nat} {xs:List Int} (B:Bw w N wr g h v n xs) (hc:Ch (fun _=>False) wr w'):Bw w N w' g h v n xs:=⟨hc.own B.own (fun _ _ h=>h),B.no,B.lies⟩
theorem Bw.left {v:Value} {n N:Nat} {xs:List Int} (B:Bw w N wr g h v n xs) (hg:Dgo wr g w' g'):Bw w N w' g' h v n xs :=
 ⟨hg.ch.own B.own (fun b hb hs=>hs (B.no b hb).1),fun b hb=>⟨hg.no (own_lt B.own b hb) (B.no b hb).1,(B.no b hb).2⟩,B.lies⟩
theorem Bw.app {v v':Value} {n m N:Nat} {xs ys:List Int} (H:Two w wr d r g mb ad h s t) (B:Bw w N wr g h v n xs) (hN:N≤wr.heap.size) (ho:w'.ownsRow 0 5 1 v' (n+m) (xs.map (Value.int .u8)++ys.map (Value.int .u8))) (hg:wr.grownBy w' v.ownBlock)
  (hb:v'.ownBlock=v.ownBlock∨v'.ownBlock=some wr.heap.size):Two w w' d r g mb ad h s t∧Bw w N w' g h v' (n+m) (xs++ys)∧Ch (fun b=>N≤b) wr w':=by
 have hc:Ch (fun b=>v.ownBlock=some b) wr w':=(Ch.refl _ wr).grown hg (fun k hk => .inl hk)
 refine⟨H.other hc B.no,⟨by rw[List.map_append]; exact ho,fun b hv=>?_,fun b hv=>?_⟩,hc.mono (fun b _ hb=>B.lies b hb)⟩
 ·rcases hb with hb | hb
  ·exact B.no b (hb ▸ hv)
  ·rw[hb] at hv
   injection hv with hv
   exact H.noOne (by omega)
 ·rcases hb with hb | hb
  ·exact B.lies b (hb ▸ hv)
  ·rw[hb] at hv
   injection hv with hv
   omega
theorem ReadOf.fresh {o:Option (List Int)} {e:Ending} (H:ReadOf o w e w'):∃ v ec,e = .returned (.tuple #[v, .int .i64 ec])∧Fresh w v (o.getD []) w':=by
 rcases H with ⟨rfl,rfl,hc⟩ | ⟨bs,v,rfl,rfl,hf⟩
 ·exact⟨_,_,rfl,fresh_nil hc⟩
 ·exact⟨v,_,rfl,hf⟩
theorem read_len (H:DsOk s) (k:Key):((opRead s k).getD []).length≤s.room:=by
 unfold opRead
 cases hf:fnd s.fs k with
 | none=>exact Nat.zero_le _
 | some f =>
  obtain⟨hm,_⟩:=fnd_some hf
  have h2:=used_at H.fine.rise hm
  have h3:=H.used
  show f.bs.length≤_
  omega
theorem nms_len64 (H:DsOk s) {k:Key} (hk:k∈nms s.fs):k.length≤64:=by
 unfold nms at hk
 obtain⟨f,hf,rfl⟩:=List.mem_map.1 hk
 have:=H.fine.ok f hf
 unfold okN at this
 omega
theorem dgo_ch {w0:World} {S:Nat→Prop} (_:Dgo wr g w' g') (hc:Ch S w0 wr):Ch S w0 wr:=hc
theorem oneF_le (b:List Int):(oneF b).1.length≤b.length:=by
 unfold oneF
 split
 ·exact Nat.zero_le _
 ·split
  ·exact Nat.zero_le _
  ·show (decF b).1.length≤_
   unfold decF
   repeat' split
   all_goals first
    | exact Nat.zero_le _
    | (show ((b.drop 8).take _).length≤_; rw[List.length_take,List.length_drop]; omega)
theorem opClear_room (s:Ds) (p:Key) (st:List Key):(opClear s p st).2.room=s.room:=by
 have h:∀ (l:List Key) (s:Ds),(opEach' opRem s l).2.room=s.room:=fun l=>by
  induction l with
  | nil=>intro s; rfl
  | cons k l ih =>
   intro s
   rw[each_cons]
   split
   ·exact rem_room _ _
   ·rw[ih,rem_room]
 exact h _ _
end
end
end Go.Proofs.YtoolcbaipinloaaDoor
