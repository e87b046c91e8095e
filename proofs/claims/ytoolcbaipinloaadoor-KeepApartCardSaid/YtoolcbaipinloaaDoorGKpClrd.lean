/- Lemmas and contracts of this proof. Conditions: said at each. -/
import Derived.Test.YtoolcbaipinloaaDoorGDkList
import Derived.Lib.SlBytesConst
import Derived.Lib.SmallJoins
set_option maxHeartbeats 8000000
set_option maxRecDepth 100000
namespace Go.Proofs.YtoolcbaipinloaaDoor
section
open Go.RowKit Go.Oct Go.Su Go.Dk Go.Maps Go.Fr Go.Sort Go.Shelf
section
variable {F S:Nat→Prop}
theorem ch_putRow {α:Type} [Inhabited α] (enc:α→Value) (w:World) (q blk off:Nat) (d:Array α):Ch (fun k=>k=blk) w (putRow enc (Sort.ahead w q) blk off d) :=
 ⟨rfl,rfl,rfl,by simp[putRow,mapBlock,Sort.ahead],fun k _ hS=>by
  have h:¬ blk=k:=fun e=>hS e.symm
  simp[putRow,mapBlock,Sort.ahead,Array.getElem?_modify,h]⟩
theorem ch_grow (w:World) (os:Array Obj):Ch (fun _=>False) w (grow w os) :=
 ⟨rfl,rfl,rfl,by show w.heap.size≤(w.heap++os).size; rw[Array.size_append]; omega,fun k hk _=>Sort.heap_grow_old w os hk⟩
theorem idx0_any (fv:Value) (w:World):Calls Tryd.prog 68 #[.slice none 0 0,fv] w fun e w'=>e = .returned (.int .i64 (-1))∧w=w':=by
 go_enter Tryd.func68,Tryd.ntmps68
 go_wp2_with fail
 go_loop [5,8] (fun _ i=>i = .int .i64 0) (fun _ _=>0)
 case atStart=>rfl
 case round =>
  obtain rfl:=hrel
  go_wp2
  go_ret
  exact⟨rfl,rfl⟩
theorem del0_any (fv:Value) (w:World):Calls Tryd.prog 39 #[.slice none 0 0,fv] w fun e w'=>e = .returned (.slice none 0 0)∧w=w':=by
 have HI:=Bx.mk (idx0_any fv w)
 go_enter Tryd.func39,Tryd.ntmps39
 go_wp2_with fail
 refine HI.out.mono ?_
 rintro e w1 ⟨rfl,rfl⟩
 go_wp2
 go_ret
 exact⟨rfl,rfl⟩
theorem del_any {l st:List Key} {W0 W:World} {A1 A:Option Addr} {m c1 bp bs n c:Nat} {p:Key} (h:StayC W F bp bs p A n c st) (hn:n≤9223372036854775806) (hg:Gs 9 1 W0 W (.slice A1 m c1) m (l.map kv))
  (hbp:bp<W0.heap.size) (hbs:bs<W0.heap.size) (hF:∀ b,F b→b<W0.heap.size) (hm:m≤4096) :
  Calls Tryd.prog 39 #[.slice A1 m c1, .func (.func 35) #[] #[.pointer (some ⟨bp,0,none⟩), .pointer (some ⟨bs,0,none⟩)]] W (ListOf (gone p st l) W0):=by
 by_cases hv:Value.slice A1 m c1 = .slice none 0 0
 ·injection hv with e1 e2 e3
  subst e1; subst e2; subst e3
  have hl:l=[]:=List.eq_nil_of_length_eq_zero (by simpa using hg.own.1)
  subst hl
  refine (del0_any _ W).mono ?_
  rintro e w' ⟨rfl,rfl⟩
  exact⟨none,0,0,rfl,hg,Nat.le_refl _,Nat.zero_le _⟩
 ·obtain⟨b,cap,e1,_,hlt,hle,hcm,hlen,hH⟩:=Lib.holds_of_ownsRow (enc:=kv) (zs:=l) hg.own hv
  injection e1 with e1 _ e3
  subst e1; subst e3
  have hb0:W0.heap.size≤b:=hg.lies b rfl
  have hst:∀ W',Ch (fun k=>k=b) W W'→StayC W' F bp bs p A n c st:=fun W' hc=>h.ch hc (by omega) (by omega) (fun k hk _ e=>by have:=hF k hk; omega)
  have eg:∀ args w,(callFunc 35 args).run Tryd.prog w = .ok (.enter 35 args) w:=enters_of Tryd.func35 (by kernel_rfl) rfl
  have hp:PredAt Tryd.prog 35 #[.pointer (some ⟨bp,0,none⟩), .pointer (some ⟨bs,0,none⟩)] kv (fun t=>!isGone p st t) W:=fun W' x hb =>
   (stays_any x W' (hst W' (Ch.of_below hb (fun k h1 h2=>absurd h2 (by omega)))) hn).mono fun e w' ⟨h1,h2⟩=>⟨h1,0,h2.symm⟩
  have hpo:PredOver Tryd.prog 35 #[.pointer (some ⟨bp,0,none⟩), .pointer (some ⟨bs,0,none⟩)] kv (fun t=>!isGone p st t) b 0 l.toArray.size W:=fun q os dk x _ =>
   (stays_any x _ (hst _ ((ch_putRow kv W q b 0 dk).trans (ch_grow _ os) (fun _ _ h=>h.elim))) hn).mono fun e w' ⟨h1,h2⟩=>⟨h1,0,h2.symm⟩
  have hcon:=AnyE.slices_DeleteFunc Tryd.kpDel kv (fun _=>rfl) (fun t=>!isGone p st t) 35 #[.pointer (some ⟨bp,0,none⟩), .pointer (some ⟨bs,0,none⟩)] eg [] Tryd.zeroValue9 b 0 c1 l.toArray W hp hpo hH (by simp; omega) (by simp; omega)
  have hfl:(l.toArray.toList.filter fun x=>!(fun t=>!isGone p st t) x)=gone p st l:=by
   simp only[Bool.not_not]
   rfl
  have hgl:(gone p st l).length≤m:=by
   rw[←hlen]
   exact List.length_filter_le _ _
  rw[hfl] at hcon
  have hsz:l.toArray.size=m:=by simpa using hlen
  rw[hsz] at hcon
  refine hcon.mono ?_
  rintro e w' ⟨rfl,q,rfl⟩
  refine⟨_,_,_,rfl,⟨?_,fun k hk=>by
   have hk:b=k:=by simpa[Value.ownBlock] using hk
   omega,hg.ch.trans (ch_putRow kv W q b 0 _) (fun k hk e=>by omega)⟩,by omega,hcm⟩
  have ho:=Lib.ownsRow_putRow (enc:=kv) (q:=q) (k:=(gone p st l).length) (ys:=gone p st l++List.replicate (m-(gone p st l).length) []) hg.own (by simp; omega) hgl
  rw[List.take_left] at ho
  exact ho
theorem each_eq (f:Ds→Key→Nat×Ds):∀ (l:List Key) (s:Ds),opEach f s l=opEach' f s l
 | [],_=>rfl
 | k::l,s=>by
  unfold opEach opEach'
  rw[each_eq f l]
variable {w w':World} {g g':Nat→Tg} {d:Nat} {mb:Option Nat} {ad:Key→Nat} {s s':Ds}
theorem pclear_any {A:Option Addr} {n c:Nat} {st:List Key} (h:Dsk w g d mb ad s) (p:Key) (hz:Kss w F A n st) (hn:n≤140737488351232) :
  Calls Tryd.prog 16 #[pv d,kv p, .slice A n c] w (Post (opClear s p st) d w g):=by
 have hp:pv d = .pointer (some ⟨d,0,none⟩):=rfl
 have hmf := @run_func Tryd.prog
 have hmost:=h.ok.most
 have HKL:Bx (∀ t∈gone p st (nms s.fs),t.length≤9223372036854775807):=⟨fun t ht=>by
  have ht:=(List.mem_filter.1 ht).1
  unfold nms at ht
  obtain⟨f,hf,rfl⟩:=List.mem_map.1 ht
  have:=h.ok.fine.ok f hf
  unfold okN at this
  omega⟩
 have hcA:Ch (fun _=>False) w ((w.alloc (.cells #[kv p] 9)).alloc (.cells #[.slice A n c] 33)):=((Ch.refl _ _).alloc _).alloc _
 have HH:=Bx.mk h
 have HLI:=Bx.mk (list_any (h.keep hcA))
 have HOP:Bx (opClear s p st=opEach opRem s (gone p st (nms s.fs))):=⟨by rw[each_eq]; rfl⟩
 have HDL:Bx (∀ (W:World) (A1:Option Addr) (m c1:Nat),Gs 9 1 ((w.alloc (.cells #[kv p] 9)).alloc (.cells #[.slice A n c] 33)) W (.slice A1 m c1) m ((nms s.fs).map kv)→Calls Tryd.prog 39 #[.slice A1 m c1, .func (.func 35) #[] #[.pointer (some ⟨w.heap.size,0,none⟩), .pointer (some ⟨w.heap.size+1,0,none⟩)]] W (ListOf (gone p st (nms s.fs)) ((w.alloc (.cells #[kv p] 9)).alloc (.cells #[.slice A n c] 33)))):=⟨fun W A1 m c1 hg=>by
  refine del_any (F:=fun b=>F b∧b<w.heap.size) (A:=A) (n:=n) (c:=c) (StayC.ch (S:=fun _=>False) (W:=(w.alloc (.cells #[kv p] 9)).alloc (.cells #[.slice A n c] 33)) ⟨?_,?_,?_⟩ hg.ch (fun h=>h) (fun h=>h) (fun _ _ _ h=>h)) (by omega) hg (by simp; omega) (by simp) (fun b hb=>by have:=hb.2; simp; omega) (by have:=hg.own.1; unfold nms at this; simp at this; omega)
  ·have h1:(w.alloc (.cells #[kv p] 9)).cell? ⟨w.heap.size,0,none⟩=some (kv p):=by simp
   exact ((Ch.refl (fun _=>False) _).alloc _).cell (fun h=>h) h1
  ·simp
  ·exact (hz.mono (G:=fun b=>F b∧b<w.heap.size) (fun b hb hf=>⟨hf,hb⟩)).ch hcA (fun _ _ _ h=>h)⟩
 have HRM:Bx (∀ (W:World) (A1:Option Addr) (m c1:Nat),Gs 9 1 ((w.alloc (.cells #[kv p] 9)).alloc (.cells #[.slice A n c] 33)) W (.slice A1 m c1) m ((gone p st (nms s.fs)).map kv)→Calls Tryd.prog 38 #[pv d, .slice A1 m c1] W (Post (opEach opRem s (gone p st (nms s.fs))) d w g)):=⟨fun W A1 m c1 hg=>by
  have hc:=hcA.trans hg.ch (fun _ _ h=>h)
  have hlen:(gone p st (nms s.fs)).length≤4096:=by
   refine Nat.le_trans (List.length_filter_le _ _) ?_
   unfold nms
   simpa using hmost
  have hml:m=(gone p st (nms s.fs)).length:=by have:=hg.own.1; simp at this; omega
  refine (removed_any (HH.out.keep hc) hg.vs (fun b hb=>?_) (by omega) HKL.out).mono fun e w' ⟨e1,g',mb',ad',e2,e3⟩=>⟨e1,g',mb',ad',e2,(Dgo.quiet hc).trans e3⟩
  have hb2:w.heap.size+1+1≤b:=by simpa using hb
  rcases hgt:g b with _ | _ | _ | _
  ·rfl
  all_goals
   have h7:=HH.out.lt b (by rw[hgt]; exact fun e=>by cases e)
   omega⟩
 obtain⟨S,hkv⟩:∃ S,kv p = .string S:=⟨_,rfl⟩
 rw[hkv] at HLI HDL HRM ⊢
 rw[hp] at HLI HRM ⊢
 rw[HOP.out]
 clear hp h hz hkv hcA hmost
 go_enter Tryd.func16,Tryd.ntmps16
 go_wp2_with fail
 refine HLI.out.mono ?_
 rintro e w3 ⟨A1,m1,c1,rfl,hg,hnc,hcm⟩
 have HD2:=Bx.mk (HDL.out w3 A1 m1 c1 hg)
 clear HDL HLI hg hnc hcm
 go_wp2_with fail
 refine HD2.out.mono ?_
 rintro e w4 ⟨A2,m2,c2,rfl,hg,hnc,hcm⟩
 have HR2:=Bx.mk (HRM.out w4 A2 m2 c2 hg)
 clear HRM HD2 hg hnc hcm
 go_wp2_with fail
 refine HR2.out.mono ?_
 rintro e w5 ⟨rfl,hpo⟩
 go_wp2
 go_ret
 exact⟨rfl,hpo⟩
end
end
section
open Go.RowKit Go.Oct Go.Su Go.Dk Go.Maps
section
variable {F G:Nat→Prop}
theorem lawtexts_any (a b:List Key) (A B:Option Addr) (n m c d:Nat) (w:World) (hz:Kss w F A n a) (hy:Kss w G B m b) (hn:n≤9223372036854775806) (o:Bool) (ho:decide (a=b)=o) :
  Calls Tryd.prog 25 #[.slice A n c, .slice B m d] w fun e w'=>e = .returned (.bool o)∧∃ q,w'=w.drewN q:=by
 have HL:=Bx.mk hz.len
 have HM:=Bx.mk hy.len
 have HZ:=Bx.mk hz
 have HY:=Bx.mk hy
 have HO:=Bx.mk ho
 clear hz hy ho
 by_cases hnm:n=m
 ·subst hnm
  have e0:((n:Int) != (n:Int))=false:=by simp
  go_enter Tryd.func25,Tryd.ntmps25
  go_wp2_with fail
  go_loopw [5] (fun i wr=>∃ k q:Nat,k≤n∧i = .int .i64 k∧wr=w.drewN q∧Bx (a.take k=b.take k)) (fun i _=>n-(intOf i).toNat)
  case atStart=>exact⟨0,0,Nat.zero_le _,rfl,rfl,⟨rfl⟩⟩
  case round =>
   obtain⟨k,q,hk,rfl,rfl,hT⟩:=hrel
   by_cases hkn:k<n
   ·have dk:decide ((k:Int)<(n:Int))=true:=decide_eq_true (by omega)
    have i1:(k:Int)<(n:Int):=by omega
    obtain⟨b1,o1,x,rfl,_,hx,hcx⟩:=HZ.out.at_ hkn
    obtain⟨b2,o2,y,rfl,_,hy,hcy⟩:=HY.out.at_ hkn
    obtain⟨SX,hSX⟩:∃ S:ByteArray,(⟨x.toArray⟩:ByteArray)=S:=⟨_,rfl⟩
    obtain⟨SY,hSY⟩:∃ S:ByteArray,(⟨y.toArray⟩:ByteArray)=S:=⟨_,rfl⟩
    have hkx:kv x = .string SX:=by unfold kv; rw[hSX]
    have hky:kv y = .string SY:=by unfold kv; rw[hSY]
    have hsq:(SX.toList==SY.toList)=decide (x=y):=by rw[←hSX,←hSY]; exact str_ne x y
    rw[hkx] at hcx
    rw[hky] at hcy
    have HX:=Bx.mk hx.out
    have HYY:=Bx.mk hy.out
    have HTX:=Bx.mk (Oct.take_more hx.out)
    have HTY:=Bx.mk (Oct.take_more hy.out)
    clear hx hy hkx hky hSX hSY
    by_cases hxy:x=y
    ·have e1:(SX.toList==SY.toList)=true:=by rw[hsq]; simpa using hxy
     have HN:Bx (a.take (k+1)=b.take (k+1)):=⟨by rw[HTX.out,HTY.out,hT.out,hxy]⟩
     clear hsq hxy
     go_wp2_with fail
     go_quiet (fail)
     go_wp2_with fail
     go_roundw
     case rel=>exact⟨k+1,q+nq,by omega,by go_num,rfl,HN⟩
     case measure=>simp[intOf]; omega
    ·have e1:(SX.toList==SY.toList)=false:=by rw[hsq]; simpa using hxy
     have HN:Bx (false=o):=⟨by
      rw[←HO.out]
      symm
      refine decide_eq_false fun h=>hxy ?_
      have h1:=HX.out
      rw[h,HYY.out] at h1
      injection h1 with h1
      exact h1.symm⟩
     clear hsq hxy
     go_wp2_with fail
     go_quiet (fail)
     go_wp2_with fail
     go_ret
     exact⟨ret_bool HN.out,q+nq,by rw[World.drewN_drewN]⟩
   ·obtain rfl:n=k:=by omega
    have dk:decide ((n:Int)<(n:Int))=false:=decide_eq_false (by omega)
    have HN:Bx (true=o):=⟨by
     rw[←HO.out]
     symm
     refine decide_eq_true ?_
     have h:=hT.out
     rwa[List.take_of_length_le (Nat.le_of_eq HL.out),List.take_of_length_le (Nat.le_of_eq HM.out)] at h⟩
    clear hT
    go_wp2_with fail
    go_ret
    exact⟨ret_bool HN.out,q,rfl⟩
 ·have e0:((n:Int) != (m:Int))=true:=by simp; omega
  have HN:Bx (false=o):=⟨by
   rw[←HO.out]
   symm
   exact decide_eq_false fun h=>hnm (by rw[←HL.out,←HM.out,h])⟩
  go_enter Tryd.func25,Tryd.ntmps25
  go_wp2_with fail
  go_ret
  exact⟨ret_bool HN.out,0,rfl⟩
end
end
section
open Go.RowKit Go.Oct Go.Su Go.Dk Go.Maps
section
variable {w w' w2:World} {h h' h2:Nat→Rt} {us vs:List Value} {fs gs:Fs} {S F:Nat→Prop} {x y:Fl} {k:Key} {d:Nat} {s:Ds}
end
end
section
open Go.RowKit Go.Oct Go.Su Go.Dk Go.Maps
section
variable {w w' w2:World} {h h' h2:Nat→Rt} {us vs:List Value} {fs gs:Fs} {S F:Nat→Prop} {x y:Fl} {k:Key} {d:Nat} {s:Ds}
end
end
end Go.Proofs.YtoolcbaipinloaaDoor
namespace Go.Proofs.YtoolcbaipinloaaDoor
section
open Go.RowKit Go.Oct Go.Su Go.Dk Go.Maps Go.Fr
theorem k_free:Free ⟨1000,[],none⟩ 1000 0 0:=Free.new (by omega)
theorem k_byt:Byt [49,50,51]:=by intro x hx; simp at hx; omega
theorem k_save:(opSaveL ⟨1000,[],none⟩ [97] [49,50,51]).1=0:=by
 rw[saveL_short (by simp)]
 unfold opSave
 rw[if_pos (by decide)]
 exact (k_free.whole (k:=[97]) (bs:=frm [49,50,51]) (by decide) (frm_byt k_byt) (by rw[frm_len]; simp) (by omega)).1
theorem k_held:Held (opSaveL ⟨1000,[],none⟩ [97] [49,50,51]).2 [97] (some [49,50,51]) :=
 Held.saved (o:=none) ⟨k_free.ok,rfl,fun p e=>by cases e⟩ (by simp) k_byt k_save
theorem rem_room (s:Ds) (k:Key):(opRem s k).2.room=s.room:=by
 unfold opRem
 split
 ·rfl
 ·split <;> rfl
theorem app_room (s:Ds) (k:Key) (b:List Int):(opApp s k b).2.room=s.room:=by
 unfold opApp
 split
 ·rfl
 ·split <;> rfl
theorem sync_room (s:Ds) (k:Key):(opSync s k).2.room=s.room:=by
 unfold opSync
 split
 ·rfl
 ·split <;> rfl
theorem ren_room (s:Ds) (a b:Key):(opRen s a b).2.room=s.room:=by
 unfold opRen
 split
 ·rfl
 ·split
  ·rfl
  ·split
   ·rfl
   ·split <;> rfl
theorem wh1_room (s:Ds) (k:Key):(wh1 s k).2.room=s.room:=by
 unfold wh1
 split
 ·exact rem_room _ _
 ·rfl
theorem opSaveL_room (s:Ds) (k:Key) (p:List Int):(opSaveL s k p).2.room=s.room:=by
 unfold opSaveL
 split
 ·rfl
 ·split
  ·rfl
  ·rw[whole_steps]
   split
   ·exact wh1_room _ _
   ·split
    ·rw[app_room,wh1_room]
    ·split
     ·rw[sync_room,app_room,wh1_room]
     ·rw[ren_room,sync_room,app_room,wh1_room]
theorem kknown_any (w:World) (ht:O.Tab w):Calls Tryd.prog 8 #[] w fun e w'=>e = .returned (.bool true)∧Ch (fun _=>False) w w':=by
 have HT:=Bx.mk ht
 clear ht
 go_enter Tryd.func8,Tryd.ntmps8
 go_wp2_with fail
 refine (new_any 1000 w (by omega)).mono ?_
 rintro e w1 (⟨h1,_,_⟩ | ⟨_,_,S,rfl,hpd,hS,hc1⟩)
 ·omega
 ·obtain⟨g,mb,ad,hd,hgS⟩:=hpd.open_
  have HD:=Bx.mk hd
  have HG:Bx (∀ b,g b ≠ .no→w.heap.size≤b):=⟨fun b hb=>hS b (hgS b hb)⟩
  have HC1:=Bx.mk hc1
  obtain⟨d,hdd⟩:∃ d,w.heap.size=d:=⟨_,rfl⟩
  rw[hdd] at HD HG ⊢
  rw[show pv d = .pointer (some ⟨d,0,none⟩) from rfl]
  have HSZ:Bx (d<w1.heap.size):=⟨HD.out.lt d (by rw[HD.out.tag]; exact fun e=>by cases e)⟩
  clear hpd hS hgS hd hc1
  have kc:=fun (w:World) (C:Array Value) (n c:Nat)=>Lib.run_convert_bytes_const (P := Tryd.prog) w 32 5 C n c Tryd.underlying32 Tryd.underlying5
  have kc2:=Joins.run_convert_bytes_const_at (P := Tryd.prog) (w1.alloc (.cells #[.int .u8 49, .int .u8 50] 5 (2,3))) 32 5 #[.int .u8 51] 1 1 (w1.heap.size+1) (by simp) Tryd.underlying32 Tryd.underlying5
  have q1:Sl (w1.alloc (.cells #[.int .u8 49, .int .u8 50] 5 (2,3))) (fun b=>b=w1.heap.size) .u8 (some ⟨w1.heap.size,0,none⟩) 2 [49,50]:=Vs.built w1 5 [.int .u8 49, .int .u8 50] (2,3)
  have q2:Sl ((w1.alloc (.cells #[.int .u8 49, .int .u8 50] 5 (2,3))).alloc (.cells #[.int .u8 51] 5 (1,2))) (fun b=>b=w1.heap.size+1) .u8 (some ⟨w1.heap.size+1,0,none⟩) 1 [51]:=by
   have:=Vs.built (w1.alloc (.cells #[.int .u8 49, .int .u8 50] 5 (2,3))) 5 [.int .u8 51] (1,2)
   simpa[Sl] using this
  have q3:=Sls.two (G:=fun b=>w1.heap.size≤b) (F:=fun b=>w1.heap.size≤b) (c:=2) (d:=1) 32 ((q1.alloc (.cells #[.int .u8 51] 5 (1,2))).mono (fun b _ e=>Nat.le_of_eq e.symm)) (by simp) (by unfold maxLen; decide) (q2.mono (fun b _ e=>by omega)) (by simp) (by unfold maxLen; decide) (fun _ _ h=>h) (by simp; omega)
  have HQ3:=Bx.mk q3
  clear q1 q2 q3
  go_wp2_with fail
  have hc3:Ch (fun _=>False) w1 (((w1.alloc (.cells #[.int .u8 49, .int .u8 50] 5 (2,3))).alloc (.cells #[.int .u8 51] 5 (1,2))).alloc (.cells #[.slice (some ⟨w1.heap.size,0,none⟩) 2 2, .slice (some ⟨w1.heap.size+1,0,none⟩) 1 1] 32)):=(((Ch.refl _ _).alloc _).alloc _).alloc _
  have hq3:Sls (((w1.alloc (.cells #[.int .u8 49, .int .u8 50] 5 (2,3))).alloc (.cells #[.int .u8 51] 5 (1,2))).alloc (.cells #[.slice (some ⟨w1.heap.size,0,none⟩) 2 2, .slice (some ⟨w1.heap.size+1,0,none⟩) 1 1] 32)) (fun b=>w1.heap.size≤b) (some ⟨w1.heap.size+1+1,0,none⟩) 2 [[49,50],[51]]:=by simpa using HQ3.out
  clear HQ3 kc kc2
  generalize ((w1.alloc (.cells #[.int .u8 49, .int .u8 50] 5 (2,3))).alloc (.cells #[.int .u8 51] 5 (1,2))).alloc (.cells #[.slice (some ⟨w1.heap.size,0,none⟩) 2 2, .slice (some ⟨w1.heap.size+1,0,none⟩) 1 1] 32)=w3 at hc3 hq3 ⊢
  have HNO:Bx (∀ b,w1.heap.size≤b→g b = .no):=⟨fun b hb=>by
   rcases hgt:g b with _ | _ | _ | _
   ·rfl
   all_goals
    have h7:=HD.out.lt b (by rw[hgt]; exact fun e=>by cases e)
    omega⟩
  have HT3:=Bx.mk ((HT.out.ch HC1.out (fun h=>h)).ch hc3 (fun h=>h))
  have HSV:=Bx.mk (psave_any (c:=2) (k:=[97]) (HD.out.ch hc3 (fun _ _ h=>h)) HT3.out (by simp) hq3 (by omega) (by simp[cat]) (fun xs hx=>by simp at hx; rcases hx with rfl | rfl <;> (intro x hx; simp at hx; omega)))
  have HC3:=Bx.mk (HC1.out.trans hc3 (fun _ _ h=>h))
  have HD3:=Bx.mk (HD.out.ch hc3 (fun _ _ h=>h))
  rw[show pv d = .pointer (some ⟨d,0,none⟩) from rfl,show kv [97] = .string ⟨#[97]⟩ from rfl,show cat [[49,50],[51]]=[49,50,51] from rfl] at HSV
  clear hq3 hc3
  refine HSV.out.mono ?_
  rintro e w4 ⟨he,g4,mb4,ad4,hd4,hg4⟩
  have hs0:(opSaveL ⟨Int.toNat 1000,[],none⟩ [97] [49,50,51]).1=0:=k_save
  rw[hs0] at he
  subst he
  clear hs0
  have HHE:Bx (Held (opSaveL ⟨Int.toNat 1000,[],none⟩ [97] [49,50,51]).2 [97] (some [49,50,51])):=⟨k_held⟩
  have HRM:Bx ((opSaveL ⟨Int.toNat 1000,[],none⟩ [97] [49,50,51]).2.room=1000):=⟨opSaveL_room _ _ _⟩
  obtain⟨s4,hs4⟩:∃ s4,(opSaveL ⟨Int.toNat 1000,[],none⟩ [97] [49,50,51]).2=s4:=⟨_,rfl⟩
  rw[hs4] at hd4 HHE HRM
  have HD4:=Bx.mk hd4
  have HC4:Bx (Ch (fun b=>d≤b) w w4):=⟨(HC3.out.mono (fun _ _ h=>h.elim)).trans hg4.ch (fun b hb h=>HG.out b h)⟩
  have HG4:Bx (∀ b,g4 b ≠ .no→d≤b):=⟨fun b hb=>by
   rcases hg4.new b hb with h | h
   ·exact HG.out b h
   ·have:=HC3.out.size; omega⟩
  clear hd4 hg4 hs4
  have HCR:=Bx.mk (crash_any HD4.out 0 (by omega))
  rw[show pv d = .pointer (some ⟨d,0,none⟩) from rfl] at HCR
  go_wp2_with fail
  refine HCR.out.mono ?_
  rintro e w5 ⟨rfl,hd5,hc5⟩
  have HC5:Bx (Ch (fun b=>d≤b) w w5):=⟨HC4.out.trans hc5 (fun b _ h=>HG4.out b h)⟩
  have HD5:=Bx.mk hd5
  have HT5:Bx (O.Tab w5):=⟨HT.out.ch (S:=fun b=>d≤b) HC5.out (fun h=>by
   have:=lt_of_cell (HT.out 0 (by omega))
   omega)⟩
  have HLD:=Bx.mk (pload_any HD5.out HT5.out [97] (by show s4.room≤_; rw[HRM.out]; omega))
  rw[show pv d = .pointer (some ⟨d,0,none⟩) from rfl,show kv [97] = .string ⟨#[97]⟩ from rfl] at HLD
  clear hd5 hc5
  go_wp2_with fail
  refine HLD.out.mono ?_
  rintro e w6 ⟨v,he,hf⟩
  rw[(HHE.out.crash 0).load] at he hf
  have hf:Fresh w5 v [49,50,51] w6:=hf
  have he:e = .returned (.tuple #[v, .int .i64 0]):=he
  subst he
  obtain⟨hf1,hf2,hf3⟩:=hf
  obtain⟨A6,c6,rfl,h61,h62⟩:=own_shape hf1
  have kc:=fun (w:World) (C:Array Value) (n c:Nat)=>Lib.run_convert_bytes_const (P := Tryd.prog) w 32 5 C n c Tryd.underlying32 Tryd.underlying5
  have q1:Sl (w6.alloc (.cells #[.int .u8 49, .int .u8 50, .int .u8 51] 5 (3,4))) (fun b=>b=w6.heap.size) .u8 (some ⟨w6.heap.size,0,none⟩) 3 [49,50,51]:=Vs.built w6 5 [.int .u8 49, .int .u8 50, .int .u8 51] (3,4)
  have HSA:=Bx.mk (same_any A6 _ 3 3 c6 3 [49,50,51] [49,50,51] _ _ (w6.alloc (.cells #[.int .u8 49, .int .u8 50, .int .u8 51] 5 (3,4))) (by omega) (by omega) ((Sl.of_own hf1).alloc _) q1)
  have HC6:Bx (Ch (fun b=>d≤b) w (w6.alloc (.cells #[.int .u8 49, .int .u8 50, .int .u8 51] 5 (3,4)))):=⟨((HC5.out.trans hf3 (fun _ _ h=>h.elim))).alloc _⟩
  clear hf1 hf2 hf3 h61 h62 q1
  go_wp2_with fail
  refine HSA.out.mono ?_
  rintro e w7 ⟨rfl,q,rfl⟩
  have hdc:decide (([49,50,51]:List Int)=[49,50,51])=true:=by simp
  have HC7:=Bx.mk (HC6.out.drewN q)
  clear HSA
  go_wp2
  go_ret
  exact⟨rfl,HC7.out.os,HC7.out.tape,HC7.out.output,HC7.out.size,fun b hb _=>HC7.out.block b hb (by omega)⟩
end
section
open Go.RowKit Go.Oct Go.Su Go.Dk Go.Maps Go.Fr
def wR (l:List (List Int)):Nat:=(l.map fun r=>5+r.length).sum
theorem wR_app (a b:List (List Int)):wR (a++b)=wR a+wR b:=by simp[wR]
theorem wR_mem:∀ {l:List (List Int)} {r:List Int},r∈l→5+r.length≤wR l
 | a::l,r,h=>by
  have e:wR (a::l)=5+a.length+wR l:=rfl
  rcases List.mem_cons.1 h with rfl | h
  ·omega
  ·have:=wR_mem h; omega
theorem wR_len:∀ l:List (List Int),l.length*5≤wR l
 | []=>Nat.le_refl _
 | a::l=>by
  have e:wR (a::l)=5+a.length+wR l:=rfl
  have:=wR_len l
  rw[List.length_cons]
  omega
def True_ (w:World) (e:Ending) (w':World):Prop:=e = .returned (.bool true)∧Ch (fun _=>False) w w'
structure LastS (w:World) (xss:List (List Int)) (j:Nat) (wr:World) (d:Nat) (g:Nat→Tg) (mb:Option Nat) (ad:Key→Nat) (s:Ds):Prop where
 disk:Dsk wr g d mb ad s
 held:Held s [102] (if j=0 then none else xss[j-1]?)
 room:s.room=1048576
 ch:Ch (fun b=>w.heap.size≤b) w wr
 new:∀ b,g b ≠ .no→w.heap.size≤b
section
variable {F:Nat→Prop}
theorem keeplast_law (xss:List (List Int)) (A:Option Addr) (n c:Nat) (fz dr:Int) (w:World) (ht:O.Tab w) (hz:Sls w F A n xss) (hn:n≤140737488351232) (hfz : -9223372036854775808≤fz∧fz≤9223372036854775807) (hdr : -9223372036854775808≤dr∧dr≤9223372036854775807) (hby:∀ xs∈xss,Byt xs) (hlen:∀ xs∈xss,xs.length≤140737488351232) :
  Calls Tryd.prog 4 #[.slice A n c, .int .i64 fz, .int .i64 dr] w (True_ w):=by
 have HT:=Bx.mk ht
 have HZ:=Bx.mk hz.lt
 have HL:=Bx.mk hz.len
 have HB:=Bx.mk hby
 have HN:=Bx.mk hlen
 have HK:=Bx.mk (kknown_any w ht)
 have HDR:=Bx.mk hdr
 have HFZ:=Bx.mk hfz
 clear ht hz hby hlen hdr hfz
 go_enter Tryd.func4,Tryd.ntmps4
 go_wp2_with fail
 go_loopw [7,8] (fun q i wr=>∃ k N:Nat,k≤n∧q = .int .i64 N∧i = .int .i64 k∧N≤200000000000000∧Bx (wR (xss.take k)=N)∧wr=w) (fun _ i _=>n-(intOf i).toNat)
 case atStart=>exact⟨0,0,Nat.zero_le _,rfl,rfl,Nat.zero_le _,⟨rfl⟩,rfl⟩
 case round =>
  obtain⟨k,N,hk,rfl,rfl,hN,hW,hwr⟩:=hrel
  obtain rfl:w=wr:=hwr.symm
  clear hwr
  by_cases hbig:5000<N
  ·have e1:decide ((N:Int)≤5000)=false:=decide_eq_false (by omega)
   have e1':decide (N≤5000)=false:=decide_eq_false (by omega)
   have e2:decide ((5000:Int)<(N:Int))=true:=decide_eq_true (by omega)
   have e2':decide (5000<N)=true:=decide_eq_true hbig
   by_cases hkn:k<n
   ·have dk:decide ((k:Int)<(n:Int))=true:=decide_eq_true (by omega)
    have dk':decide (k<n)=true:=decide_eq_true hkn
    go_wp2_with fail
    refine HK.out.mono ?_
    rintro e w1 ⟨rfl,hc⟩
    go_wp2
    go_ret
    exact⟨rfl,hc⟩
   ·have dk:decide ((k:Int)<(n:Int))=false:=decide_eq_false (by omega)
    have dk':decide (k<n)=false:=decide_eq_false hkn
    go_wp2_with fail
    refine HK.out.mono ?_
    rintro e w1 ⟨rfl,hc⟩
    go_wp2
    go_ret
    exact⟨rfl,hc⟩
  ·have e1:decide ((N:Int)≤5000)=true:=decide_eq_true (by omega)
   have e1':decide (N≤5000)=true:=decide_eq_true (by omega)
   by_cases hkn:k<n
   ·have dk:decide ((k:Int)<(n:Int))=true:=decide_eq_true (by omega)
    have dk':decide (k<n)=true:=decide_eq_true hkn
    have i2:(k:Int)<(n:Int):=by omega
    obtain⟨b,off,A1,c1,xs,rfl,_,hx,hcell,_,hc1,hc2⟩:=HZ.out.at_ hkn
    have hxl:=HN.out xs (List.mem_of_getElem? hx.out)
    have HTK:=Bx.mk (Oct.take_more hx.out)
    obtain⟨m,hm⟩:∃ m,xs.length=m:=⟨_,rfl⟩
    rw[hm] at hcell hxl hc1
    have HM:=Bx.mk hm
    have hm9:m≤9223372036854775807:=by omega
    have HW2:Bx (wR (xss.take (k+1))=N+5+m):=⟨by
     rw[HTK.out,wR_app,hW.out]
     have e:wR [xs]=5+xs.length:=rfl
     rw[e,HM.out]
     omega⟩
    clear hx hm hW hc1 hc2
    have hr1:N+5+m≤200000000000000:=by omega
    go_wp2_with fail
    go_roundw
    case rel=>exact⟨k+1,N+5+m,by omega,by go_num,by go_num,hr1,HW2,trivial⟩
    case measure=>simp[intOf]; omega
   ·obtain rfl:k=n:=by omega
    have dk:decide ((k:Int)<(k:Int))=false:=decide_eq_false (by omega)
    have dk':decide (k<k)=false:=decide_eq_false (by omega)
    have e2:decide ((5000:Int)<(N:Int))=false:=decide_eq_false (by omega)
    have e2':decide (5000<N)=false:=decide_eq_false hbig
    have hall:xss.take k=xss:=List.take_of_length_le (by rw[HL.out]; exact Nat.le_refl _)
    rw[hall] at hW
    clear hall
    by_cases f1:fz<0
    ·have f1':decide (fz<0)=true:=decide_eq_true f1
     go_wp2_with fail
     refine HK.out.mono ?_
     rintro e w1 ⟨rfl,hc⟩
     go_wp2
     go_ret
     exact⟨rfl,hc⟩
    ·have f1':decide (fz<0)=false:=decide_eq_false f1
     by_cases f2:1000<fz
     ·have f2':decide (1000<fz)=true:=decide_eq_true f2
      go_wp2_with fail
      refine HK.out.mono ?_
      rintro e w1 ⟨rfl,hc⟩
      go_wp2
      go_ret
      exact⟨rfl,hc⟩
     ·have f2':decide (1000<fz)=false:=decide_eq_false f2
      have HS:Bx (∀ xs∈xss,xs.length≤5000):=⟨fun xs hx=>by have:=wR_mem hx; rw[hW.out] at this; omega⟩
      have hn9:k≤1000:=by have:=wR_len xss; rw[hW.out,HL.out] at this; omega
      go_wp2_with fail
      refine (new_any 1048576 w (by omega)).mono ?_
      rintro e w1 (⟨h1,_,_⟩ | ⟨_,_,S,rfl,hpd,hS,hc1⟩)
      ·omega
      obtain⟨g,mb,ad,hd,hgS⟩:=hpd.open_
      have HD:=Bx.mk hd
      have HG:Bx (∀ b,g b ≠ .no→w.heap.size≤b):=⟨fun b hb=>hS b (hgS b hb)⟩
      have HC1:=Bx.mk hc1
      obtain⟨d,hdd⟩:∃ d,w.heap.size=d:=⟨_,rfl⟩
      rw[hdd] at HD ⊢
      rw[show pv d = .pointer (some ⟨d,0,none⟩) from rfl]
      clear hpd hS hgS hd hc1
      have HFU:=Bx.mk (fuse_any HD.out fz (by omega))
      rw[show pv d = .pointer (some ⟨d,0,none⟩) from rfl] at HFU
      go_wp2_with fail
      refine HFU.out.mono ?_
      rintro e w2 ⟨rfl,hd2,hc2⟩
      have H0:Bx (LastS w xss 0 w2 d g mb ad (opFuse ⟨Int.toNat 1048576,[],none⟩ fz)):=⟨⟨hd2,⟨hd2.ok,rfl,fun p e=>by cases e⟩,rfl,(HC1.out.mono (fun _ _ h=>h.elim)).trans hc2 (fun b _ h=>by omega),HG.out⟩⟩
      clear hd2 hc2 HFU
      go_wp2_with fail
      go_loopw [11,12] (fun lv i wr=>∃ (j:Nat) (lz:Int) (g:Nat→Tg) (mb:Option Nat) (ad:Key→Nat) (s:Ds),j≤k∧lv = .int .i64 lz∧lz=(j:Int)-1∧i = .int .i64 j∧Bx (LastS w xss j wr d g mb ad s)) (fun _ i _=>k-(intOf i).toNat)
      case atStart=>exact⟨0,-1,g,mb,ad,_,Nat.zero_le _,rfl,by omega,rfl,H0⟩
      case round =>
       obtain⟨j,lz,g2,mb2,ad2,s2,hj,rfl,hlz,rfl,hR⟩:=hrel
       by_cases hjk:j<k
       ·have dj:decide ((j:Int)<(k:Int))=true:=decide_eq_true (by omega)
        have dj':decide (j<k)=true:=decide_eq_true hjk
        have i2:(j:Int)<(k:Int):=by omega
        have HZ2:=Bx.mk (HZ.out.ch hR.out.ch (fun b hb _ hs=>by omega))
        obtain⟨bo,off,A1,c1,xs,rfl,_,hx,hcell,hxs,hc1,hc2⟩:=HZ2.out.at_ hjk
        have HX:=Bx.mk hx.out
        have hxl:=HS.out xs (List.mem_of_getElem? hx.out)
        have HXB:=Bx.mk (HB.out xs (List.mem_of_getElem? hx.out))
        have hq3:=Sls.one (F:=fun b=>b<w.heap.size) (G:=fun b=>b<w.heap.size∨b=wr.heap.size) 32 hxs hc1 hc2 (fun _ _ h => .inl h) (.inr rfl)
        have hcA:Ch (fun _=>False) wr (wr.alloc (.cells #[.slice A1 xs.length c1] 32)):=(Ch.refl _ _).alloc _
        have HNO:Bx (∀ b,(b<w.heap.size∨b=wr.heap.size)→g2 b = .no):=⟨fun b hb=>by
         rcases hgt:g2 b with _ | _ | _ | _
         ·rfl
         all_goals
          have h7:=hR.out.disk.lt b (by rw[hgt]; exact fun e=>by cases e)
          have h8:=hR.out.new b (by rw[hgt]; exact fun e=>by cases e)
          omega⟩
        have HCA:Bx (Ch (fun b=>w.heap.size≤b) w (wr.alloc (.cells #[.slice A1 xs.length c1] 32))):=⟨hR.out.ch.trans hcA (fun _ _ h=>h.elim)⟩
        have HSV:=Bx.mk (psave_any (c:=1) (k:=[102]) (hR.out.disk.ch hcA (fun _ _ h=>h)) (HT.out.ch HCA.out (fun h=>by have:=lt_of_cell (HT.out 0 (by omega)); omega)) (by simp) hq3 (by omega) (by simp[cat]; omega) (fun ys hy=>by simp at hy; subst hy; exact HXB.out))
        rw[show pv d = .pointer (some ⟨d,0,none⟩) from rfl,show kv [102] = .string ⟨#[102]⟩ from rfl,show cat [xs]=xs from by simp[cat]] at HSV
        clear hx hxs hc1 hc2 hq3 hcA
        obtain⟨r1,hr1⟩:∃ r1,(opSaveL s2 [102] xs).1=r1:=⟨_,rfl⟩
        have HR1:=Bx.mk hr1
        have hnx:xs.length≤1048576:=by omega
        have HNX:=Bx.mk hnx
        obtain⟨m,hm⟩:∃ m,xs.length=m:=⟨_,rfl⟩
        rw[hm] at hcell HSV hxl HCA
        clear hr1 hnx hm
        by_cases e0:r1=0
        ·subst e0
         go_wp2_with fail
         refine HSV.out.mono ?_
         rintro e w3 ⟨he,g3,mb3,ad3,hd3,hg3⟩
         rw[HR1.out] at he
         subst he
         have HN3:Bx (LastS w xss (j+1) w3 d g3 mb3 ad3 (opSaveL s2 [102] xs).2):=⟨⟨hd3,by
           rw[if_neg (by omega),show j+1-1=j from rfl,HX.out]
           exact hR.out.held.saved HNX.out HXB.out HR1.out,by rw[opSaveL_room]; exact hR.out.room,HCA.out.trans hg3.ch (fun b _ h=>hR.out.new b h),fun b hb=>by
           rcases hg3.new b hb with h | h
           ·exact hR.out.new b h
           ·have:=HCA.out.size; omega⟩⟩
         clear hd3 hg3 HSV
         go_wp2_with fail
         go_roundw
         case rel=>exact⟨j+1,(j:Int),g3,mb3,ad3,_,by omega,rfl,by omega,by go_num,HN3⟩
         case measure=>simp[intOf]; omega
        ·go_wp2_with fail
         refine HSV.out.mono ?_
         rintro e w3 ⟨he,g3,mb3,ad3,hd3,hg3⟩
         rw[HR1.out] at he
         subst he
         have e0':¬ (r1:Int)=0:=by omega
         have e0'':((r1:Int)==0)=false:=by simpa using e0
         obtain⟨s3,hs3⟩:∃ s3,(opSaveL s2 [102] xs).2=s3:=⟨_,rfl⟩
         have HR3:Bx (LastS w xss j w3 d g3 mb3 ad3 s3):=⟨by
          rw[←hs3]
          exact⟨hd3,hR.out.held.failed HXB.out (by rw[HR1.out]; exact e0),by rw[opSaveL_room]; exact hR.out.room,HCA.out.trans hg3.ch (fun b _ h=>hR.out.new b h),fun b hb=>by
           rcases hg3.new b hb with h | h
           ·exact hR.out.new b h
           ·have:=HCA.out.size; omega⟩⟩
         clear hd3 hg3 HSV hs3
         have HCR:=Bx.mk (crash_any HR3.out.disk dr HDR.out)
         rw[show pv d = .pointer (some ⟨d,0,none⟩) from rfl] at HCR
         go_wp2_with fail
         refine HCR.out.mono ?_
         rintro e w5 ⟨rfl,hd5,hc5⟩
         have HC5:Bx (Ch (fun b=>w.heap.size≤b) w w5):=⟨HR3.out.ch.trans hc5 (fun b _ h=>HR3.out.new b h)⟩
         have HT5:Bx (O.Tab w5):=⟨HT.out.ch HC5.out (fun h=>by have:=lt_of_cell (HT.out 0 (by omega)); omega)⟩
         have HLD:=Bx.mk (pload_any hd5 HT5.out [102] (by show s3.room≤_; rw[HR3.out.room]; omega))
         rw[show pv d = .pointer (some ⟨d,0,none⟩) from rfl,show kv [102] = .string ⟨#[102]⟩ from rfl] at HLD
         clear hd5 hc5 HCR
         go_wp2_with fail
         refine HLD.out.mono ?_
         rintro e w6 ⟨v,he,hf⟩
         clear HLD
         by_cases j0:j=0
         ·subst j0
          have hm0:loadF (opRead (opCrash s3 dr) [102])=([],7):=by
           have hh:=HR3.out.held
           rw[if_pos rfl] at hh
           exact (hh.crash dr).load
          rw[hm0] at he hf
          have he:e = .returned (.tuple #[v, .int .i64 7]):=he
          subst he
          have HC6:Bx (Ch (fun b=>w.heap.size≤b) w w6):=⟨HC5.out.trans hf.2.2 (fun _ _ h=>h.elim)⟩
          have HK6:=Bx.mk (kknown_any w6 (HT.out.ch HC6.out (fun h=>by have:=lt_of_cell (HT.out 0 (by omega)); omega)))
          have l1:decide (lz<0)=true:=decide_eq_true (by omega)
          clear hf
          go_wp2_with fail
          refine HK6.out.mono ?_
          rintro e w7 ⟨rfl,hc7⟩
          have HC7:Bx (Ch (fun b=>w.heap.size≤b) w w7):=⟨HC6.out.trans hc7 (fun _ _ h=>h.elim)⟩
          clear hc7
          go_wp2
          go_ret
          exact⟨rfl,HC7.out.os,HC7.out.tape,HC7.out.output,HC7.out.size,fun b hb _=>HC7.out.block b hb (by omega)⟩
         ·obtain⟨q,rfl⟩:∃ q,j=q+1:=⟨j-1,by omega⟩
          have hqk:q<k:=by omega
          have HZ6:=Bx.mk (HZ.out.ch (HC5.out.trans hf.2.2 (fun _ _ h=>h.elim)) (fun b hb _ hs=>by omega))
          obtain⟨b6,o6,A6,c6,ys,hA6,_,hy,hcell6,hys,hc6,hcm6⟩:=HZ6.out.at_ hqk
          cases hA6
          have hyl:=HS.out ys (List.mem_of_getElem? hy.out)
          have hm1:loadF (opRead (opCrash s3 dr) [102])=(ys,0):=by
           have hh:=HR3.out.held
           rw[if_neg (by omega),show q+1-1=q from rfl,hy.out] at hh
           exact (hh.crash dr).load
          rw[hm1] at he hf
          have he:e = .returned (.tuple #[v, .int .i64 0]):=he
          have hf:Fresh w5 v ys w6:=hf
          subst he
          obtain⟨lz',hlz'⟩:∃ z:Int,z=lz:=⟨_,rfl⟩
          obtain rfl:(q:Int)=lz:=by omega
          clear hlz hlz' lz'
          obtain⟨hf1,hf2,hf3⟩:=hf
          obtain⟨A7,c7,rfl,h71,h72⟩:=own_shape hf1
          have HSA:=Bx.mk (same_any A7 A6 ys.length ys.length c7 c6 ys ys _ _ w6 (by omega) (by omega) (Sl.of_own hf1) hys)
          have HC6:Bx (Ch (fun b=>w.heap.size≤b) w w6):=⟨HC5.out.trans hf3 (fun _ _ h=>h.elim)⟩
          have hdc:decide (ys=ys)=true:=by simp
          rw[hdc] at HSA
          have l1:decide ((0:Int)≤(q:Int))=true:=decide_eq_true (by omega)
          have i3:(q:Int)<(k:Int):=by omega
          obtain⟨m6,hm6⟩:∃ m,ys.length=m:=⟨_,rfl⟩
          rw[hm6] at hcell6 HSA ⊢
          clear hf1 hf2 hf3 h71 h72 hy hys hc6 hcm6 hm1 hm6 hdc HZ6
          go_wp2_with fail
          refine HSA.out.mono ?_
          rintro e w7 ⟨rfl,q7,rfl⟩
          have HC7:=Bx.mk (HC6.out.drewN q7)
          have HK7:=Bx.mk (kknown_any (w6.drewN q7) (HT.out.ch HC7.out (fun h=>by have:=lt_of_cell (HT.out 0 (by omega)); omega)))
          clear HSA
          go_wp2_with fail
          refine HK7.out.mono ?_
          rintro e w8 ⟨rfl,hc8⟩
          have HC8:Bx (Ch (fun b=>w.heap.size≤b) w w8):=⟨HC7.out.trans hc8 (fun _ _ h=>h.elim)⟩
          clear hc8
          go_wp2
          go_ret
          exact⟨rfl,HC8.out.os,HC8.out.tape,HC8.out.output,HC8.out.size,fun b hb _=>HC8.out.block b hb (by omega)⟩
       ·have dj:decide ((j:Int)<(k:Int))=false:=decide_eq_false (by omega)
        have dj':decide (j<k)=false:=decide_eq_false hjk
        obtain⟨s3,hs3⟩:∃ s3,s3=s2:=⟨_,rfl⟩
        have HR3:Bx (LastS w xss j wr d g2 mb2 ad2 s3):=⟨by rw[hs3]; exact hR.out⟩
        clear hs3
        have HCR:=Bx.mk (crash_any HR3.out.disk dr HDR.out)
        rw[show pv d = .pointer (some ⟨d,0,none⟩) from rfl] at HCR
        go_wp2_with fail
        refine HCR.out.mono ?_
        rintro e w5 ⟨rfl,hd5,hc5⟩
        have HC5:Bx (Ch (fun b=>w.heap.size≤b) w w5):=⟨HR3.out.ch.trans hc5 (fun b _ h=>HR3.out.new b h)⟩
        have HT5:Bx (O.Tab w5):=⟨HT.out.ch HC5.out (fun h=>by have:=lt_of_cell (HT.out 0 (by omega)); omega)⟩
        have HLD:=Bx.mk (pload_any hd5 HT5.out [102] (by show s3.room≤_; rw[HR3.out.room]; omega))
        rw[show pv d = .pointer (some ⟨d,0,none⟩) from rfl,show kv [102] = .string ⟨#[102]⟩ from rfl] at HLD
        clear hd5 hc5 HCR
        go_wp2_with fail
        refine HLD.out.mono ?_
        rintro e w6 ⟨v,he,hf⟩
        clear HLD
        by_cases j0:j=0
        ·subst j0
         have hm0:loadF (opRead (opCrash s3 dr) [102])=([],7):=by
          have hh:=HR3.out.held
          rw[if_pos rfl] at hh
          exact (hh.crash dr).load
         rw[hm0] at he hf
         have he:e = .returned (.tuple #[v, .int .i64 7]):=he
         subst he
         have HC6:Bx (Ch (fun b=>w.heap.size≤b) w w6):=⟨HC5.out.trans hf.2.2 (fun _ _ h=>h.elim)⟩
         have HK6:=Bx.mk (kknown_any w6 (HT.out.ch HC6.out (fun h=>by have:=lt_of_cell (HT.out 0 (by omega)); omega)))
         have l1:decide (lz<0)=true:=decide_eq_true (by omega)
         clear hf
         go_wp2_with fail
         refine HK6.out.mono ?_
         rintro e w7 ⟨rfl,hc7⟩
         have HC7:Bx (Ch (fun b=>w.heap.size≤b) w w7):=⟨HC6.out.trans hc7 (fun _ _ h=>h.elim)⟩
         clear hc7
         go_wp2
         go_ret
         exact⟨rfl,HC7.out.os,HC7.out.tape,HC7.out.output,HC7.out.size,fun b hb _=>HC7.out.block b hb (by omega)⟩
        ·obtain⟨q,rfl⟩:∃ q,j=q+1:=⟨j-1,by omega⟩
         have hqk:q<k:=by omega
         have HZ6:=Bx.mk (HZ.out.ch (HC5.out.trans hf.2.2 (fun _ _ h=>h.elim)) (fun b hb _ hs=>by omega))
         obtain⟨b6,o6,A6,c6,ys,hA6,_,hy,hcell6,hys,hc6,hcm6⟩:=HZ6.out.at_ hqk
         cases hA6
         have hyl:=HS.out ys (List.mem_of_getElem? hy.out)
         have hm1:loadF (opRead (opCrash s3 dr) [102])=(ys,0):=by
          have hh:=HR3.out.held
          rw[if_neg (by omega),show q+1-1=q from rfl,hy.out] at hh
          exact (hh.crash dr).load
         rw[hm1] at he hf
         have he:e = .returned (.tuple #[v, .int .i64 0]):=he
         have hf:Fresh w5 v ys w6:=hf
         subst he
         obtain⟨lz',hlz'⟩:∃ z:Int,z=lz:=⟨_,rfl⟩
         obtain rfl:(q:Int)=lz:=by omega
         clear hlz hlz' lz'
         obtain⟨hf1,hf2,hf3⟩:=hf
         obtain⟨A7,c7,rfl,h71,h72⟩:=own_shape hf1
         have HSA:=Bx.mk (same_any A7 A6 ys.length ys.length c7 c6 ys ys _ _ w6 (by omega) (by omega) (Sl.of_own hf1) hys)
         have HC6:Bx (Ch (fun b=>w.heap.size≤b) w w6):=⟨HC5.out.trans hf3 (fun _ _ h=>h.elim)⟩
         have hdc:decide (ys=ys)=true:=by simp
         rw[hdc] at HSA
         have l1:decide ((0:Int)≤(q:Int))=true:=decide_eq_true (by omega)
         have i3:(q:Int)<(k:Int):=by omega
         obtain⟨m6,hm6⟩:∃ m,ys.length=m:=⟨_,rfl⟩
         rw[hm6] at hcell6 HSA ⊢
         clear hf1 hf2 hf3 h71 h72 hy hys hc6 hcm6 hm1 hm6 hdc HZ6
         go_wp2_with fail
         refine HSA.out.mono ?_
         rintro e w7 ⟨rfl,q7,rfl⟩
         have HC7:=Bx.mk (HC6.out.drewN q7)
         have HK7:=Bx.mk (kknown_any (w6.drewN q7) (HT.out.ch HC7.out (fun h=>by have:=lt_of_cell (HT.out 0 (by omega)); omega)))
         clear HSA
         go_wp2_with fail
         refine HK7.out.mono ?_
         rintro e w8 ⟨rfl,hc8⟩
         have HC8:Bx (Ch (fun b=>w.heap.size≤b) w w8):=⟨HC7.out.trans hc8 (fun _ _ h=>h.elim)⟩
         clear hc8
         go_wp2
         go_ret
         exact⟨rfl,HC8.out.os,HC8.out.tape,HC8.out.output,HC8.out.size,fun b hb _=>HC8.out.block b hb (by omega)⟩
end
end
end Go.Proofs.YtoolcbaipinloaaDoor
