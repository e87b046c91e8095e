/- Lemmas and contracts of this proof. Conditions: said at each. -/
import Derived.Test.YtoolcbaipinloaaDoorGKpClrd
namespace Go.Proofs.YtoolcbaipinloaaDoor
section
open Go.RowKit Go.Oct Go.Su Go.Dk Go.Maps Go.Fr
section
variable {s:Ds} {k j:Key} {p:List Int} {room u n:Nat} {o1 o2 o3:Option (List Int)}
theorem saveL_free (h:Free s room u n) (hk:okS k) (hb:Byt p) (hl:p.length≤1048576) (h1:u+(p.length+12)≤room) (h2:n<4096) :
  (opSaveL s k p).1=0∧Free (opSaveL s k p).2 room (u+(p.length+12)) (n+1):=by
 rw[saveL_short hl]
 unfold opSave
 rw[if_pos hk]
 have hf:=frm_len p
 have:=h.whole (k:=k) (bs:=frm p) hk (frm_byt hb) (by omega) h2
 rwa[show (frm p).length=p.length+12 by omega] at this
theorem saveL_names (h:DsOk s) (hb:Byt p) (hl:p.length≤1048576) (e:(opSaveL s k p).1=0) (hj:(fnd (opSaveL s k p).2.fs j).isSome=true):j=k∨(fnd s.fs j).isSome=true:=by
 rw[saveL_short hl] at e hj
 unfold opSave at e hj
 split at e
 ·rename_i h1
  rw[if_pos h1] at hj
  by_cases h2:j=k
  ·exact .inl h2
  ·by_cases h3:j=way k
   ·subst h3
    rw[(whole_done h (frm_byt hb) e).2] at hj
    cases hj
   ·rw[whole_other h (frm_byt hb) h2 h3] at hj
    exact .inr hj
 ·cases e
structure Aps (s:Ds) (u n:Nat) (o1 o2 o3:Option (List Int)):Prop where
 free:Free s 1048576 u n
 h1:Held s [112,45,49] o1
 h2:Held s [112,45,50] o2
 h3:Held s [113] o3
 nm:∀ j,(fnd s.fs j).isSome=true→j=[112,45,49]∨j=[112,45,50]∨j=[113]
theorem Aps.new:Aps ⟨1048576,[],none⟩ 0 0 none none none :=
 have h:∀ k,Held ⟨1048576,[],none⟩ k none:=fun _=>⟨(Free.new (room:=1048576) (by omega)).ok,rfl,fun p e=>by cases e⟩
 ⟨Free.new (by omega),h _,h _,h _,fun j hj=>by cases hj⟩
theorem Aps.save1 (h:Aps s u n o1 o2 o3) (hb:Byt p) (hl:p.length≤10000) (h1:u≤1000000) (h2:n<4096):(opSaveL s [112,45,49] p).1=0∧Aps (opSaveL s [112,45,49] p).2 (u+(p.length+12)) (n+1) (some p) o2 o3:=by
 obtain⟨e,f⟩:=saveL_free (k:=[112,45,49]) h.free (by decide) hb (by omega) (by omega) h2
 refine⟨e,f,h.h1.saved (by omega) hb e,h.h2.other hb (by decide) (by decide),h.h3.other hb (by decide) (by decide),fun j hj=>?_⟩
 rcases saveL_names h.free.ok hb (by omega) e hj with h | h'
 ·exact .inl h
 ·exact h.nm j h'
theorem Aps.save2 (h:Aps s u n o1 o2 o3) (hb:Byt p) (hl:p.length≤10000) (h1:u≤1000000) (h2:n<4096):(opSaveL s [112,45,50] p).1=0∧Aps (opSaveL s [112,45,50] p).2 (u+(p.length+12)) (n+1) o1 (some p) o3:=by
 obtain⟨e,f⟩:=saveL_free (k:=[112,45,50]) h.free (by decide) hb (by omega) (by omega) h2
 refine⟨e,f,h.h1.other hb (by decide) (by decide),h.h2.saved (by omega) hb e,h.h3.other hb (by decide) (by decide),fun j hj=>?_⟩
 rcases saveL_names h.free.ok hb (by omega) e hj with h | h'
 ·exact .inr (.inl h)
 ·exact h.nm j h'
theorem Aps.save3 (h:Aps s u n o1 o2 o3) (hb:Byt p) (hl:p.length≤10000) (h1:u≤1000000) (h2:n<4096):(opSaveL s [113] p).1=0∧Aps (opSaveL s [113] p).2 (u+(p.length+12)) (n+1) o1 o2 (some p):=by
 obtain⟨e,f⟩:=saveL_free (k:=[113]) h.free (by decide) hb (by omega) (by omega) h2
 refine⟨e,f,h.h1.other hb (by decide) (by decide),h.h2.other hb (by decide) (by decide),h.h3.saved (by omega) hb e,fun j hj=>?_⟩
 rcases saveL_names h.free.ok hb (by omega) e hj with h | h'
 ·exact .inr (.inr h)
 ·exact h.nm j h'
theorem Aps.crash (h:Aps s u n o1 o2 o3) (d:Int):Aps (opCrash s d) u n o1 o2 o3:=by
 refine⟨h.free.crash d,h.h1.crash d,h.h2.crash d,h.h3.crash d,fun j hj=>h.nm j ?_⟩
 have e:fnd (opCrash s d).fs j=(fnd s.fs j).map (crashF d.toNat):=fnd_crash _ _ _
 rw[e] at hj
 simpa using hj
theorem nms_of {fs:Fs} {l:List Key} (h:Rise (nms fs)) (hl:Rise l) (h1:∀ j,(fnd fs j).isSome=true→j∈l) (h2:∀ j∈l,(fnd fs j).isSome=true):nms fs=l:=by
 refine srt_uniq h.srt hl.srt ((List.perm_ext_iff_of_nodup h.nodup hl.nodup).2 fun j=>⟨fun hj=>?_,fun hj=>?_⟩)
 ·obtain⟨f,hf,rfl⟩:=List.mem_map.1 hj
  exact h1 _ (by rw[fnd_of h hf]; rfl)
 ·obtain⟨f,hf⟩:=Option.isSome_iff_exists.1 (h2 j hj)
  obtain⟨hm,rfl⟩:=fnd_some hf
  exact List.mem_map.2 ⟨f,hm,rfl⟩
theorem Aps.clear {a b c:List Int} (h:Aps s u n (some a) (some b) (some c)):∃ s',opClear s [112,45] [[112,45,50],[113]]=(0,s')∧s'.room=1048576∧loadF (opRead s' [112,45,49])=([],7)∧loadF (opRead s' [113])=(c,0)∧nms s'.fs=[[112,45,50],[113]]:=by
 have f1:=h.h1.file
 have f2:=h.h2.file
 have f3:=h.h3.file
 have hr:=h.free.ok.fine.rise
 have hn:nms s.fs=[[112,45,49],[112,45,50],[113]]:=nms_of hr (by unfold Rise; decide) (fun j hj=>by simpa using h.nm j hj) (fun j hj=>by
  simp only[List.mem_cons,List.not_mem_nil,or_false] at hj
  rcases hj with rfl | rfl | rfl
  ·rw[f1]; rfl
  ·rw[f2]; rfl
  ·rw[f3]; rfl)
 have hg:gone [112,45] [[112,45,50],[113]] [[112,45,49],[112,45,50],[113]]=[[112,45,49]]:=by decide
 have hrm:opRem s [112,45,49]=(0,⟨s.room,del s.fs [112,45,49],tick s.left⟩):=by
  unfold opRem
  rw[may_free h.free.left (by decide),if_neg (by simp),f1]
  rfl
 refine⟨⟨s.room,del s.fs [112,45,49],tick s.left⟩,?_,h.free.room,?_,?_,?_⟩
 ·unfold opClear
  rw[hn,hg]
  show (if (opRem s [112,45,49]).1≠0 then opRem s [112,45,49] else (0,(opRem s [112,45,49]).2))=_
  rw[hrm]
  rfl
 ·unfold opRead
  rw[show fnd (del s.fs [112,45,49]) [112,45,49]=none from fnd_del_same _ _]
  rfl
 ·have hh:Held ⟨s.room,del s.fs [112,45,49],tick s.left⟩ [113] (some c):=⟨h.free.ok.del _ _,by
   show fnd (del s.fs [112,45,49]) [113]=_
   rw[fnd_del_other hr (by decide),f3],h.h3.short⟩
  exact hh.load
 ·show nms (del s.fs [112,45,49])=_
  refine nms_of (rise_del hr _) (by unfold Rise; decide) (fun j hj=>?_) (fun j hj=>?_)
  ·by_cases hk:j=[112,45,49]
   ·subst hk
    rw[fnd_del_same] at hj
    cases hj
   ·rw[fnd_del_other hr hk] at hj
    rcases h.nm j hj with h | h | h
    ·exact absurd h hk
    ·simp[h]
    ·simp[h]
  ·simp only[List.mem_cons,List.not_mem_nil,or_false] at hj
   rcases hj with rfl | rfl
   ·rw[fnd_del_other hr (by decide),f2]; rfl
   ·rw[fnd_del_other hr (by decide),f3]; rfl
end
end
section
open Go.RowKit Go.Oct Go.Su Go.Dk Go.Maps Go.Fr
structure Stt (w wr:World) (d:Nat) (g:Nat→Tg) (mb:Option Nat) (ad:Key→Nat) (s:Ds):Prop where
 disk:Dsk wr g d mb ad s
 ch:Ch (fun b=>w.heap.size≤b) w wr
 new:∀ b,g b ≠ .no→w.heap.size≤b
section
variable {w wr w':World} {d:Nat} {g g':Nat→Tg} {mb mb':Option Nat} {ad ad':Key→Nat} {s s':Ds} {e:Ending} {op:Nat×Ds} {k:Key}
theorem Stt.quiet (h:Stt w wr d g mb ad s) (hc:Ch (fun _=>False) wr w'):Stt w w' d g mb ad s:=⟨h.disk.keep hc,h.ch.trans hc (fun _ _ h=>h.elim),h.new⟩
theorem Stt.turn (h:Stt w wr d g mb ad s) (hd:Dsk w' g' d mb' ad' s') (hg:Dgo wr g w' g'):Stt w w' d g' mb' ad' s' :=
 ⟨hd,h.ch.trans hg.ch (fun b _ hb=>h.new b hb),fun b hb=>by
  rcases hg.new b hb with h1 | h1
  ·exact h.new b h1
  ·have:=h.ch.size; omega⟩
theorem Stt.crash (h:Stt w wr d g mb ad s) (hd:Dsk w' g d mb ad s') (hc:Ch (fun i=>g i ≠ .no) wr w'):Stt w w' d g mb ad s':=⟨hd,h.ch.trans hc (fun b _ hb=>h.new b hb),h.new⟩
theorem Stt.tab (h:Stt w wr d g mb ad s) (ht:O.Tab w):O.Tab wr:=ht.ch h.ch (fun h=>by have:=lt_of_cell (ht 0 (by omega)); omega)
theorem Stt.sl {F:Nat→Prop} {A:Option Addr} {n:Nat} {K:IntKind} {xs:List Int} (h:Stt w wr d g mb ad s) (hz:Sl w F K A n xs):Sl wr F K A n xs:=hz.ch h.ch (fun b hb1 hb hs=>by omega)
theorem ch_low (h:Ch (fun b=>w.heap.size≤b) w wr):Ch (fun _=>False) w wr:=⟨h.os,h.tape,h.output,h.size,fun b hb _=>h.block b hb (by omega)⟩
theorem Stt.done (h:Stt w wr d g mb ad s):Ch (fun _=>False) w wr:=ch_low h.ch
theorem Stt.one {F:Nat→Prop} {A:Option Addr} {c:Nat} {xs:List Int} (h:Stt w wr d g mb ad s) (ht:O.Tab w) (hk:k.length≤9223372036854775807) (hz:Sl wr F .u8 A xs.length xs) (h1:xs.length≤c) (h2:c≤maxLen) (hl:xs.length≤281474976710656) (hb:Byt xs) :
  Calls Tryd.prog 11 #[pv d,kv k, .slice (some ⟨wr.heap.size,0,none⟩) 1 1] (wr.alloc (.cells #[.slice A xs.length c] 32)) fun e w'=>e = .returned (.int .i64 ((opSaveL s k xs).1:Nat))∧∃ g' mb' ad',Stt w w' d g' mb' ad' (opSaveL s k xs).2:=by
 have hq:=Sls.one (F:=F) (G:=fun _=>True) 32 hz h1 h2 (fun _ _ _=>trivial) trivial
 have hc:Ch (fun _=>False) wr (wr.alloc (.cells #[.slice A xs.length c] 32)):=(Ch.refl _ _).alloc _
 have h':=h.quiet hc
 have:=psave_any (c:=1) (k:=k) h'.disk (h'.tab ht) hk hq (by omega) (by simpa[cat] using hl) (fun ys hy=>by simp at hy; subst hy; exact hb)
 rw[show cat [xs]=xs from by simp[cat]] at this
 exact this.mono fun e w' ⟨e1,g',mb',ad',e2,e3⟩=>⟨e1,g',mb',ad',h'.turn e2 e3⟩
theorem Stt.two {F:Nat→Prop} {A B:Option Addr} {c1 c2:Nat} {xs ys:List Int} (h:Stt w wr d g mb ad s) (ht:O.Tab w) (hk:k.length≤9223372036854775807) (hz:Sl wr F .u8 A xs.length xs) (h1:xs.length≤c1) (h2:c1≤maxLen) (hl:xs.length≤140737488355328) (hb:Byt xs)
  (hz':Sl wr F .u8 B ys.length ys) (h1':ys.length≤c2) (h2':c2≤maxLen) (hl':ys.length≤140737488355328) (hb':Byt ys) :
  Calls Tryd.prog 11 #[pv d,kv k, .slice (some ⟨wr.heap.size,0,none⟩) 2 2] (wr.alloc (.cells #[.slice A xs.length c1, .slice B ys.length c2] 32)) fun e w'=>e = .returned (.int .i64 ((opSaveL s k (xs++ys)).1:Nat))∧∃ g' mb' ad',Stt w w' d g' mb' ad' (opSaveL s k (xs++ys)).2:=by
 have hq:=Sls.two (F:=F) (G:=fun _=>True) 32 hz h1 h2 hz' h1' h2' (fun _ _ _=>trivial) trivial
 have hc:Ch (fun _=>False) wr (wr.alloc (.cells #[.slice A xs.length c1, .slice B ys.length c2] 32)):=(Ch.refl _ _).alloc _
 have h':=h.quiet hc
 have:=psave_any (c:=2) (k:=k) h'.disk (h'.tab ht) hk hq (by omega) (by simp[cat]; omega) (fun zs hy=>by
  simp at hy
  rcases hy with rfl | rfl
  ·exact hb
  ·exact hb')
 rw[show cat [xs,ys]=xs++ys from by simp[cat]] at this
 exact this.mono fun e w' ⟨e1,g',mb',ad',e2,e3⟩=>⟨e1,g',mb',ad',h'.turn e2 e3⟩
end
end
end Go.Proofs.YtoolcbaipinloaaDoor
