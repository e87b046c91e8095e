/- Lemmas and contracts of this proof. Conditions: said at each. -/
import Derived.Test.YtoolcbaipinloaaDoorGDkRend
import Derived.Test.YtoolcbaipinloaaDoorDkLaid
import Derived.Deep.RegionLaw
import Derived.Test.YtoolcbaipinloaaDoorKpLaid
import Derived.Lib.OwnBridge
set_option maxHeartbeats 8000000
set_option maxRecDepth 100000
namespace Go.Proofs.YtoolcbaipinloaaDoor
section
open Go.RowKit Go.Oct Go.Su Go.Dk Go.Maps Go.Sort Go.Shelf
section
variable {w w':World} {g g':Nat→Tg} {d:Nat} {mb:Option Nat} {ad:Key→Nat} {s s':Ds} {F S:Nat→Prop} {x y:Fl} {k j:Key}
theorem dkSorts (m:Nat):AnyZ.SortsIn Tryd.prog Tryd.dkSorted_ren Fence.wide m :=
 ⟨fun blk off cap ss W hH hblk hsz=>callsIn_wide.2 (AnyM.slices_Sort_string Tryd.dkSort blk off cap ss W hH hblk hsz),
  fun p cap W=>callsIn_wide.2 (AnyM.slices_Sort_string_none Tryd.dkSort p cap W)⟩
theorem keys_any (mb:Option Nat) (W:World):Calls Tryd.prog 51 #[.map mb] W fun e w'=>e = .returned (.func (.func 74) #[] #[.pointer (some ⟨W.heap.size,0,none⟩)])∧w'=W.alloc (.cells #[.map mb] 57) :=
 callsIn_wide.1 (AnyZ.keys_in Tryd.dkKeys Fence.wide 5 trivial rfl mb W)
theorem merge_uniq {ss l:List Key} (hp:ss.Perm l) (hl:Rise l):ss.mergeSort (fun x y=>decide (x≤y))=l:=by
 refine srt_uniq ?_ hl.srt ((List.mergeSort_perm _ _).trans hp)
 have h:=List.pairwise_mergeSort (le:=fun x y:Key=>decide (x≤y)) (fun a b c h1 h2=>by
  simp only[decide_eq_true_eq] at *
  exact List.le_trans h1 h2) (fun a b=>by
  simp only[Bool.or_eq_true,decide_eq_true_eq]
  exact List.le_total a b) ss
 exact h.imp fun {a b} hab=>by
  simp only[decide_eq_true_eq] at hab
  exact List.not_lt.2 hab
def ListOf (l:List Key) (w:World) (e:Ending) (w':World):Prop:=∃ A n c,e = .returned (.slice A n c)∧Gs 9 1 w w' (.slice A n c) n (l.map kv)∧n≤c∧c≤maxLen
theorem sortedk_any (h:Dsk w g d mb ad s):Calls Tryd.prog 50 #[.func (.func 74) #[] #[.pointer (some ⟨w.heap.size,0,none⟩)]] (w.alloc (.cells #[.map mb] 57)) (ListOf (nms s.fs) w):=by
 have hmost:=h.ok.most
 have hok:∀ {v:Value} {ss:List (List UInt8)} {w':World},ss.Perm (nms s.fs)→w'.ownsRow (w.alloc (.cells #[.map mb] 57)).heap.size 9 1 v ss.length ((ss.mergeSort (fun x y=>decide (x≤y))).map encStr)→Below (w.alloc (.cells #[.map mb] 57)).heap.size (w.alloc (.cells #[.map mb] 57)) w'→ListOf (nms s.fs) w (.returned v) w':=by
  intro v ss w' hp ho hb
  rw[merge_uniq hp h.ok.fine.rise] at ho
  have hl:ss.length=(nms s.fs).length:=hp.length_eq
  have hch:Ch (fun _=>False) w w':=((Ch.refl (fun _=>False) w).alloc _).trans (Ch.of_below hb (fun k h1 h2=>absurd h2 (by omega))) (fun _ _ h=>h)
  obtain⟨A,c,rfl,h1,h2⟩:=own_shape ho
  exact⟨A,ss.length,c,rfl,⟨⟨ho.1,ho.2.imp id (fun ⟨g,cap,cur,e,_,r⟩=>⟨g,cap,cur,e,Nat.zero_le _,r⟩)⟩,fun q hq=>by have:=(ho.lt q hq).1; rw[World.size_alloc] at this; omega,hch⟩,h1,h2⟩
 cases mb with
 | none =>
  have hseq:SeqGives Fence.wide 2 Tryd.prog 74 #[.pointer (some ⟨w.heap.size,0,none⟩)] encStr (fun ss:List (List UInt8)=>ss=[]) 0 (w.alloc (.cells #[.map none] 57)) :=
   AnyZ.keys_gives_nil (ρ := Tryd.dkKeys_ren) { Tryd.dkKeys with } Fence.wide _ trivial rfl w.heap.size _ (by simp) (by simp)
  refine (callsIn_wide.1 (AnyZ.sorted_in Tryd.dkSorted Fence.wide 5 trivial trivial trivial trivial rfl (by omega) (dkSorts _) (enters_of Tryd.func73 (by kernel_rfl) rfl) 74 #[.pointer (some ⟨w.heap.size,0,none⟩)] trivial (enters_of Tryd.func74 (by kernel_rfl) rfl) _ 0 (Nat.zero_le _) (by omega) _ hseq)).mono ?_
  rintro e w' ⟨v,ss,rfl,rfl,ho,_,hb⟩
  exact hok (by rw[h.none_ rfl]; exact List.Perm.refl _) ho hb
 | some b =>
  have hown:=(h.some_ b rfl).2
  have hbl:=hown.lt
  have hsz:Maps.size (mapD s.fs ad)=s.fs.length:=size_mapD _ _
  have hseq:SeqGives Fence.wide 2 Tryd.prog 74 #[.pointer (some ⟨w.heap.size,0,none⟩)] encStr (fun ss=>ss.Perm (strKeys (mapD s.fs ad))) (Maps.size (mapD s.fs ad)) (w.alloc (.cells #[.map (some b)] 57)) :=
   AnyZ.keys_gives (ρ := Tryd.dkKeys_ren) { Tryd.dkKeys with } Fence.wide _ trivial rfl (by omega) w.heap.size b s.fs.length (mapD s.fs ad) _ (by simp) (by simp) (by
    obtain⟨es,clock,hb,Ft,hs,hD⟩:=hown
    exact⟨es,clock,(Below.heap_alloc _ _ b hbl).trans hb,Ft,hs,hD⟩)
  refine (callsIn_wide.1 (AnyZ.sorted_in Tryd.dkSorted Fence.wide 5 trivial trivial trivial trivial rfl (by omega) (dkSorts _) (enters_of Tryd.func73 (by kernel_rfl) rfl) 74 #[.pointer (some ⟨w.heap.size,0,none⟩)] trivial (enters_of Tryd.func74 (by kernel_rfl) rfl) _ _ (by rw[hsz]; unfold maxLen; omega) (by rw[hsz]; omega) _ hseq)).mono ?_
  rintro e w' ⟨v,ss,rfl,hS,ho,_,hb⟩
  exact hok (by rw[←strKeys_mapD s.fs ad]; exact hS) ho hb
theorem list_any (h:Dsk w g d mb ad s):Calls Tryd.prog 26 #[pv d] w (ListOf (nms s.fs) w):=by
 have hp:pv d = .pointer (some ⟨d,0,none⟩):=rfl
 have HK:=Bx.mk (keys_any mb w)
 have HS:=Bx.mk (sortedk_any h)
 have c0:=h.c0
 rw[hp]
 clear hp h
 go_enter Tryd.func26,Tryd.ntmps26
 go_wp2_with fail
 refine HK.out.mono ?_
 rintro e w1 ⟨rfl,rfl⟩
 go_wp2_with fail
 refine HS.out.mono ?_
 rintro e w2 ⟨A,n,c,rfl,hr⟩
 go_wp2
 go_ret
 exact⟨A,n,c,rfl,hr⟩
end
end
section
open Go.RowKit Go.Oct Go.Su Go.Dk Go.Maps
section
variable {w w' w2:World} {h h' h2:Nat→Rt} {us vs:List Value} {fs gs:Fs} {S F:Nat→Prop} {x y:Fl} {k:Key} {d:Nat} {s:Ds}
theorem fresh_b0 (w:World):Fresh w (.slice (some ⟨w.heap.size,0,none⟩) 0 0) [] (w.alloc (.cells #[] 5)):=⟨own_b0 w,fun g hg=>by simp[Value.ownBlock] at hg; omega,(Ch.refl _ _).alloc _⟩
end
end
section
open Go.RowKit Go.Oct Go.Su Go.Dk Go.Maps
section
variable {w w' w2:World} {h h' h2:Nat→Rt} {us vs:List Value} {fs gs:Fs} {S F:Nat→Prop} {x y:Fl} {k:Key} {d:Nat} {s:Ds}
end
end
section
open Go.RowKit Go.Oct Go.Su Go.Dk Go.Maps
section
variable {w w' w2:World} {h h' h2:Nat→Rt} {us vs:List Value} {fs gs:Fs} {S F:Nat→Prop} {x y:Fl} {k:Key} {d:Nat} {s:Ds}
end
end
section
open Go.RowKit Go.Oct Go.Su Go.Dk Go.Maps
section
variable {w w' w2:World} {h h' h2:Nat→Rt} {us vs:List Value} {fs gs:Fs} {S F:Nat→Prop} {x y:Fl} {k:Key} {d:Nat} {s:Ds}
end
end
section
open Go.RowKit Go.Oct Go.Su Go.Dk Go.Maps
section
variable {P:Program} {t e:TypeId} {z:Value} {size bytes:Nat}
end
section
variable {w w' w2:World} {h h' h2:Nat→Rt} {us vs:List Value} {fs gs:Fs} {S F:Nat→Prop} {x y:Fl} {k:Key} {d:Nat} {s:Ds}
end
end
section
open Go.RowKit Go.Oct Go.Su Go.Dk Go.Maps
section
variable {w w' w2:World} {h h' h2:Nat→Rt} {us vs:List Value} {fs gs:Fs} {S F:Nat→Prop} {x y:Fl} {k:Key} {d:Nat} {s:Ds}
end
end
section
open Go.RowKit Go.Oct Go.Su Go.Dk Go.Maps
section
variable {w w' w2:World} {h h' h2:Nat→Rt} {us vs:List Value} {fs gs:Fs} {S F:Nat→Prop} {x y:Fl} {k:Key} {d:Nat} {s:Ds}
end
end
section
open Go.RowKit Go.Oct Go.Su Go.Dk Go.Maps
section
variable {w w' w2:World} {h h' h2:Nat→Rt} {us vs:List Value} {fs gs:Fs} {S F:Nat→Prop} {x y:Fl} {k:Key} {d:Nat} {s:Ds}
end
end
section
open Go.RowKit Go.Oct Go.Su Go.Dk Go.Maps
section
variable {w w' w2:World} {h h' h2:Nat→Rt} {us vs:List Value} {fs gs:Fs} {S F:Nat→Prop} {x y:Fl} {k:Key} {d:Nat} {s:Ds}
end
end
section
open Go.RowKit Go.Oct Go.Su Go.Dk Go.Maps
section
variable {w w' w2:World} {h h' h2:Nat→Rt} {us vs:List Value} {fs gs:Fs} {S F:Nat→Prop} {x y:Fl} {k:Key} {d:Nat} {s:Ds}
end
end
section
open Go.RowKit Go.Oct Go.Su Go.Dk Go.Maps
section
variable {w w' w2:World} {h h' h2:Nat→Rt} {us vs:List Value} {fs gs:Fs} {S F:Nat→Prop} {x y:Fl} {k j:Key} {d:Nat} {s:Ds}
end
end
section
open Go.RowKit Go.Oct Go.Su Go.Dk Go.Maps
section
variable {w w' w2:World} {h h' h2:Nat→Rt} {us vs:List Value} {fs gs:Fs} {S F:Nat→Prop} {x y:Fl} {k j:Key} {d:Nat} {s:Ds}
end
end
section
open Go.RowKit Go.Oct Go.Su Go.Dk Go.Maps Go.Fr
section
variable {w w' w2:World} {h h' h2:Nat→Rt} {us vs:List Value} {fs gs:Fs} {S F:Nat→Prop} {x y:Fl} {k j:Key} {d:Nat} {s:Ds}
end
end
section
open Go.RowKit Go.Oct Go.Su Go.Dk Go.Maps Go.Fr
section
variable {w w' w2:World} {h h' h2:Nat→Rt} {us vs:List Value} {fs gs:Fs} {S F:Nat→Prop} {x y:Fl} {k j:Key} {d:Nat} {s:Ds}
def loadF:Option (List Int)→List Int×Int
 | none=>([],7)
 | some b=>if (oneF b).2≠0 then ([],3) else ((oneF b).1,0)
def LoadP (o:Option (List Int)) (w:World) (e:Ending) (w':World):Prop:=∃ v,e = .returned (.tuple #[v, .int .i64 (loadF o).2])∧Fresh w v (loadF o).1 w'
theorem fresh_nil {w w':World} (hc:Ch (fun _=>False) w w'):Fresh w (.slice none 0 0) [] w':=⟨World.ownsRow_nil _ _ _ _,fun g hg=>by simp[Value.ownBlock] at hg,hc⟩
end
end
section
open Go.RowKit Go.Oct Go.Su Go.Dk Go.Maps Go.Fr
def opSaveL (s:Ds) (k:Key) (p:List Int):Nat×Ds:=if ¬okS k then (1,s) else if 1048576<p.length then (5,s) else opWhole s k (frm p)
theorem saveL_short {s:Ds} {k:Key} {p:List Int} (h:p.length≤1048576):opSaveL s k p=opSave s k (frm p):=by
 unfold opSaveL opSave
 by_cases h1:okS k
 ·rw[if_neg (by simpa using h1),if_neg (by omega),if_pos h1]
 ·rw[if_pos h1,if_neg h1]
section
variable {w w' w2:World} {h h' h2:Nat→Rt} {us vs:List Value} {fs gs:Fs} {S F:Nat→Prop} {x y:Fl} {k j:Key} {d:Nat} {s:Ds}
end
end
section
open Go.RowKit Go.Oct Go.Su Go.Dk Go.Maps Go.Fr
structure Held (s:Ds) (k:Key) (o:Option (List Int)):Prop where
 ok:DsOk s
 file:fnd s.fs k=o.map fun p=>⟨k,frm p,(frm p).length⟩
 short:∀ p,o=some p→p.length≤1048576∧Byt p
section
variable {s:Ds} {k j:Key} {o:Option (List Int)} {p:List Int}
theorem Held.saved (h:Held s k o) (hl:p.length≤1048576) (hb:Byt p) (e:(opSaveL s k p).1=0):Held (opSaveL s k p).2 k (some p):=by
 rw[saveL_short hl] at e ⊢
 unfold opSave at e ⊢
 split at e
 ·rename_i h1
  rw[if_pos h1]
  exact⟨h.ok.whole (frm_byt hb),(whole_done h.ok (frm_byt hb) e).1,fun q hq=>by injection hq with hq; subst hq; exact⟨hl,hb⟩⟩
 ·cases e
theorem Held.failed (h:Held s k o) (hb:Byt p) (e:(opSaveL s k p).1≠0):Held (opSaveL s k p).2 k o:=by
 unfold opSaveL at e ⊢
 split
 ·exact h
 ·rename_i h1
  rw[if_neg h1] at e
  split
  ·exact h
  ·rename_i h2
   rw[if_neg h2] at e
   exact⟨h.ok.whole (frm_byt hb),by rw[whole_err h.ok (frm_byt hb) e]; exact h.file,h.short⟩
theorem Held.other (h:Held s k o) (hb:Byt p) (h1:k≠j) (h2:k≠way j):Held (opSaveL s j p).2 k o:=by
 unfold opSaveL
 split
 ·exact h
 ·split
  ·exact h
  ·exact⟨h.ok.whole (frm_byt hb),by rw[whole_other h.ok (frm_byt hb) h1 h2]; exact h.file,h.short⟩
theorem Held.crash (h:Held s k o) (n:Int):Held (opCrash s n) k o:=by
 refine⟨h.ok.crash n,?_,h.short⟩
 show fnd (s.fs.map (crashF n.toNat)) k=_
 rw[fnd_crash,h.file]
 cases o with
 | none=>rfl
 | some p=>exact congrArg some (crash_whole _ _ _)
theorem Held.load (h:Held s k o):loadF (opRead s k)=match o with | none=>([],7) | some p=>(p,0):=by
 unfold opRead
 rw[h.file]
 cases o with
 | none=>rfl
 | some p =>
  obtain⟨h1,h2⟩:=h.short p rfl
  show loadF (some (frm p))=_
  unfold loadF
  simp[oneF_frm h1]
end
end
section
open Go.RowKit Go.Oct Go.Su Go.Dk Go.Maps
section
variable {w w':World} {g g':Nat→Tg} {d:Nat} {mb:Option Nat} {ad:Key→Nat} {s s':Ds} {F S:Nat→Prop} {x y:Fl} {k j:Key}
def crL (left:Lit→Bool) (D:Nat) (fs:Fs):Fs:=fs.map fun x=>if left (.string x.nm) then x else crashF D x
theorem nms_crL (left:Lit→Bool) (D:Nat) (fs:Fs):nms (crL left D fs)=nms fs:=by
 unfold nms crL
 rw[List.map_map]
 refine List.map_congr_left fun x _=>?_
 show (if left (.string x.nm)=true then x else crashF D x).nm=x.nm
 split <;> rfl
theorem crL_start {left:Lit→Bool} {fs:Fs} (h:∀ x∈fs,left (.string x.nm)=true) (D:Nat):crL left D fs=fs:=by
 unfold crL
 rw[List.map_congr_left (g:=id) (fun x hx=>by simp[h x hx]),List.map_id]
theorem crL_end {left:Lit→Bool} (h:∀ kl,left kl=false) (D:Nat) (fs:Fs):crL left D fs=fs.map (crashF D):=by
 unfold crL
 exact List.map_congr_left fun x _=>by simp[h]
theorem mem_crL {left:Lit→Bool} {D:Nat} {fs:Fs} {z:Fl}:z∈crL left D fs↔∃ x∈fs,z=if left (.string x.nm) then x else crashF D x:=by
 unfold crL
 rw[List.mem_map]
 exact⟨fun ⟨x,h,e⟩=>⟨x,h,e.symm⟩,fun ⟨x,h,e⟩=>⟨x,h,e.symm⟩⟩
theorem crL_step {left:Lit→Bool} {D:Nat} {fs:Fs} (h:Rise (nms fs)) (hx:x∈fs):crL (fun z=>left z&&!z.sameKey (.string x.nm)) D fs=put (crL left D fs) (crashF D x):=by
 refine fs_ext (by rw[nms_crL]; exact h) (rise_put (by rw[nms_crL]; exact h) _) fun z=>?_
 rw[mem_put,mem_crL,mem_crL]
 have hnm:∀ (l:Lit→Bool) (y:Fl),(if l (.string y.nm)=true then y else crashF D y).nm=y.nm:=fun l y=>by split <;> rfl
 constructor
 ·rintro ⟨y,hy,rfl⟩
  by_cases e:y.nm=x.nm
  ·left
   rw[uniq h hy hx e]
   have:(Lit.string x.nm).sameKey (.string x.nm)=true:=WideAt.sameKey_self (lit_key _)
   simp[this]
  ·right
   have h1:(Lit.string y.nm).sameKey (.string x.nm)=false:=sameKey_ne (fun e2=>e (by injection e2))
   refine⟨⟨y,hy,by simp[h1]⟩,?_⟩
   simp only[h1,Bool.not_false,Bool.and_true]
   rw[hnm left]
   exact e
 ·rintro (rfl | ⟨⟨y,hy,rfl⟩,hne⟩)
  ·refine⟨x,hx,?_⟩
   have:(Lit.string x.nm).sameKey (.string x.nm)=true:=WideAt.sameKey_self (lit_key _)
   simp[this]
  ·rw[hnm left] at hne
   have h1:(Lit.string y.nm).sameKey (.string x.nm)=false:=sameKey_ne (fun e2=>hne (by rw[show y.nm=x.nm by injection e2]; rfl))
   exact⟨y,hy,by simp[h1]⟩
theorem crL_mem {left:Lit→Bool} {D:Nat} {fs:Fs} (hx:x∈fs) (hl:left (.string x.nm)=true):x∈crL left D fs:=mem_crL.2 ⟨x,hx,by rw[if_pos hl]⟩
theorem crash_put {fs:Fs} {D:Nat} (hla:x.la≤x.bs.length):put (put fs (cutF x (stays D x))) ⟨(cutF x (stays D x)).nm,(cutF x (stays D x)).bs,(cutF x (stays D x)).bs.length⟩=put fs (crashF D x):=by
 rw[put_put _ (by rfl)]
 congr 1
 unfold crashF cutF
 have:=stays_le (d:=D) hla
 simp only[Fl.mk.injEq,true_and,List.length_take]
 omega
end
end
section
open Go.RowKit Go.Oct Go.Su Go.Dk Go.Maps
section
variable {w w':World} {g g':Nat→Tg} {d:Nat} {mb:Option Nat} {ad:Key→Nat} {s s':Ds} {F S:Nat→Prop} {x y:Fl} {k j:Key}
theorem key_str {P:Program} {kt:TypeId} (hk:P.underlying kt=some .string) {key:Value} {kl:Lit} (h:keyOf P kt key=some kl):∃ S:ByteArray,key = .string S∧kl = .string S.data.toList:=by
 cases key <;> simp[keyOf,hk,mapKey] at h
 obtain⟨_,rfl⟩:=h
 exact⟨_,rfl,rfl⟩
theorem ranges_ch {P:Program} {kt:TypeId} {R:Value→Option (DataW Value×List MemPlace)} {w w':World} {b r n:Nat} {D:DataW Value} {left:Lit→Bool} {cnt:Nat} (h:w.ranges P kt R b r n D left cnt) (hc:Ch S w w') (hb':¬ S b) (hr':¬ S r):w'.ranges P kt R b r n D left cnt:=by
 have h1:=h.owns.lt
 have h2:=h.lt
 obtain⟨es,clock,since,seen,c0,hb,F,hs,hD,hr,rest⟩:=h
 exact⟨es,clock,since,seen,c0,(hc.block b h1 hb').trans hb,F,hs,hD,(hc.block r h2 hr').trans hr,rest⟩
structure CrLoop (w:World) (g:Nat→Tg) (s:Ds) (D:Nat) (d b r:Nat) (ad:Key→Nat) (wr:World) (left:Lit→Bool) (cnt:Nat):Prop where
 rg:wr.ranges Tryd.prog 9 heldR b r s.fs.length (mapD s.fs ad) left cnt
 dsk:Dsk wr g d (some b) ad ⟨s.room,crL left D s.fs,s.left⟩
 ch:Ch (fun i=>g i ≠ .no) w wr
 new:g r = .no
 base:w.heap.size≤r
 ok:DsOk s
theorem CrLoop.entry {w wr w1:World} {g:Nat→Tg} {s:Ds} {D d b r cnt cnt1:Nat} {ad:Key→Nat} {left:Lit→Bool} {c:Value} {S:ByteArray} {kl:Lit} {y:DataW Value×List MemPlace} (h:CrLoop w g s D d b r ad wr left cnt) (hkey:keyOf Tryd.prog 9 (.string S)=some kl) (hl:left kl=true) (hc:heldR c=some y) (hat:∀ zd,(mapD s.fs ad).atKey kl zd=y.1)
  (hr:w1.ranges Tryd.prog 9 heldR b r s.fs.length (mapD s.fs ad) (fun z=>left z&&!z.sameKey kl) cnt1) (hg:wr.grownBy w1 (some r)):∃ x a A q cc,x∈s.fs∧x∈crL left D s.fs∧kl = .string x.nm∧ad x.nm=a∧c = .pointer (some ⟨a,0,none⟩)∧x.bs.length=q∧x.la≤q∧q≤1073741824∧w1.cell? ⟨a,0,none⟩=some (.slice A q cc)∧w1.cell? ⟨a,1,none⟩=some (.int .i64 (x.la:Int))∧Dsk w1 g d (some b) ad ⟨s.room,crL left D s.fs,s.left⟩∧Ch (fun i=>i=r) wr w1:=by
 obtain⟨S',e1,rfl⟩:=key_str Tryd.underlying9 hkey
 have hh:=has_true_of_atKey hat
 rw[has_mapD] at hh
 obtain⟨x,hx⟩:=Option.isSome_iff_exists.1 hh
 have h1:=hat .nil
 rw[at_mapD h.ok.fine.rise hx] at h1
 obtain⟨hxm,hxn⟩:=fnd_some hx
 have hy:y=(.held c,[]):=(Option.some.inj hc).symm
 rw[hy] at h1
 have hcv:pv (ad S'.data.toList)=c:=DataW.held.inj h1
 have hch:Ch (fun i=>i=r) wr w1:=⟨hg.os,hg.tape,hg.output,hg.size,fun i hi hn=>hg.block i hi (fun e=>hn (by injection e))⟩
 have hd1:=h.dsk.ch hch (fun i hi e=>hi (by rw[e]; exact h.new))
 have hxc:=crL_mem (left:=left) (D:=D) hxm (by rw[hxn]; exact hl)
 have hF:=hd1.files x hxc
 obtain⟨v,b0,b1,ho,_⟩:=hF.row
 obtain⟨A,cc,rfl,_,_⟩:=own_shape ho
 have hq:x.bs.length≤1073741824:=by have:=used_at h.ok.fine.rise hxm; have:=h.ok.used; have:=h.ok.room; omega
 exact⟨x,ad x.nm,A,x.bs.length,cc,hxm,hxc,by rw[hxn],rfl,by rw[←hcv,hxn]; rfl,rfl,h.ok.fine.la x hxm,hq,b0,b1,hd1,hch⟩
theorem crash_any (h:Dsk w g d mb ad s) (n:Int) (hn : -9223372036854775808≤n∧n≤9223372036854775807):Calls Tryd.prog 18 #[pv d, .int .i64 n] w fun e w'=>e = .returned (.tuple #[])∧Dsk w' g d mb ad (opCrash s n)∧Ch (fun i=>g i ≠ .no) w w':=by
 have hp:pv d = .pointer (some ⟨d,0,none⟩):=rfl
 have H:=Bx.mk h
 have c0:=h.c0
 obtain⟨D,hD⟩:∃ D:Nat,n.toNat=D:=⟨_,rfl⟩
 have hD9:D≤9223372036854775807:=by omega
 have HOP:Bx (∀ o,(opFuse ⟨s.room,s.fs.map (crashF D),o⟩ (-1):Ds)=opCrash s n):=⟨fun o=>by unfold opCrash opFuse; rw[hD]; rfl⟩
 have HFU:Bx (∀ (w1:World) (s1:Ds),Dsk w1 g d mb ad s1→Calls Tryd.prog 20 #[pv d, .int .i64 (-1)] w1 fun e w'=>e = .returned (.tuple #[])∧Dsk w' g d mb ad (opFuse s1 (-1))∧Ch (fun b=>b=d) w1 w'):=⟨fun w1 s1 h1=>fuse_any h1 (-1) (by omega)⟩
 have hmx:(max n 0=(D:Int)):=by omega
 rw[hp] at HFU ⊢
 clear hp h
 cases mb with
 | none =>
  have hrg:=run_range_nilMap (P := Tryd.prog) w 57 _ _ mapT
  have hnx:∀ ty,(Instr.next (.pointer (some ⟨w.heap.size,0,none⟩)) false ty).run Tryd.prog (w.alloc (.mapIter none 0 #[] 0)) = .ok (.tuple #[.bool false]) (w.alloc (.mapIter none 0 #[] 0)):=fun ty=>run_next_nilMap _ ty 0 0 #[]
  have HF:=Bx.mk (HFU.out (w.alloc (.mapIter none 0 #[] 0)) s (H.out.keep ((Ch.refl (fun _=>False) w).alloc _)))
  have HS:Bx (s=⟨s.room,s.fs.map (crashF D),s.left⟩):=⟨by
   have:=H.out.none_ rfl
   obtain⟨a,b,c⟩:=s
   obtain rfl:b=[]:=this
   rfl⟩
  clear HFU hn hD hD9 hmx
  go_enter Tryd.func18,Tryd.ntmps18
  go_wp2
  refine wp_loop_rounds 1 ?_
  rw[rounds_succ]
  go_wp2_with fail
  refine HF.out.mono ?_
  rintro e w2 ⟨rfl,hd2,hc2⟩
  go_wp2
  go_returns
  refine⟨rfl,by rw[HS.out,HOP.out] at hd2; exact hd2,((Ch.refl _ w).alloc _).trans hc2 (fun i _ hi=>by rw[hi,H.out.tag]; exact fun e=>by cases e)⟩
 | some b =>
  have hown:=(H.out.some_ b rfl).2
  have hbl:=hown.lt
  go_enter Tryd.func18,Tryd.ntmps18
  go_wp2_with (first
   | (at_range; refine wpList_range_own _ rfl _ 57 rfl 9 73 mapLaw mapT _ b _ _ rfl hown ?_; intro w0 hrg0 hg0 hs0)
   | go_in)
  go_frame
  have HB:Bx (CrLoop w g s D d b w.heap.size ad w0 (has (mapD s.fs ad)) (Maps.size (mapD s.fs ad))):=⟨by
   have hc0:Ch (fun _=>False) w w0:=⟨hg0.os,hg0.tape,hg0.output,hg0.size,fun i hi _=>hg0.block i hi (fun e=>by cases e)⟩
   refine⟨hrg0,?_,hc0.mono (fun _ _ h=>h.elim),?_,Nat.le_refl _,H.out.ok⟩
   ·rw[crL_start (fun x hx=>by rw[has_mapD,fnd_of H.out.ok.fine.rise hx]; rfl)]
    exact H.out.keep hc0
   ·rcases hgt:g w.heap.size with _ | _ | _ | k | k
    ·rfl
    all_goals exact absurd (H.out.lt w.heap.size (by rw[hgt]; exact fun e=>by cases e)) (Nat.lt_irrefl _)⟩
  obtain⟨r,hr⟩:∃ r,w.heap.size=r:=⟨_,rfl⟩
  rw[hr] at HB ⊢
  clear hrg0 hg0 hs0 hown hbl hr c0
  go_loopw [5,6] (fun _ _ wr=>∃ (left:Lit→Bool) (cnt:Nat),Bx (CrLoop w g s D d b r ad wr left cnt)) (fun _ _ wr=>wr.rangeLeft b r)
  case atStart=>exact⟨_,_,HB⟩
  case round =>
   obtain⟨left,cnt,hR⟩:=hrel
   have hrg:=hR.out.rg
   obtain⟨wo,rfl⟩:∃ wo:World,wo=wr:=⟨_,rfl⟩
   go_wp2_with (first
    | (at_next; refine wpList_next_ranges _ rfl _ rfl 9 mapLaw heldR Value.string id (fun key kl h=>(by obtain⟨S,e,_⟩:=key_str Tryd.underlying9 h; exact⟨S,e⟩)) (fun v y _=>⟨v,rfl⟩) b r s.fs.length _ _ _ rfl hrg ?_ ?_)
    | go_in)
   ·intro hc0 hl0
    have hd:=hR.out.dsk
    rw[crL_end hl0] at hd
    have HF:=Bx.mk (HFU.out wo _ hd)
    have HC:=Bx.mk hR.out.ch
    clear hrg hd
    go_wp2_with fail
    refine HF.out.mono ?_
    rintro e w2 ⟨rfl,hd2,hc2⟩
    go_wp2
    go_returns
    exact⟨rfl,by rw[HOP.out] at hd2; exact hd2,HC.out.trans hc2 (fun i _ hi=>by rw[hi,H.out.tag]; exact fun e=>by cases e)⟩
   ·intro S c kl y ps w1 cnt1 hkey hlk hc hat hrg1 hlt hg1 hs1 hen
    obtain⟨x,a,A,q,cc,hxm,hxc,hkl,ha,rfl,hq,hla,hq9,b0,b1,hd1,hc1⟩:=hR.out.entry (y:=(y,ps)) hkey hlk hc hat hrg1 hg1
    have HLT:=Bx.mk hlt
    have HRG1:=Bx.mk hrg1
    have HXM:=Bx.mk hxm
    have HXC:=Bx.mk hxc
    have HKL:=Bx.mk hkl
    have HA:=Bx.mk ha
    have HD1:=Bx.mk hd1
    have HC1:=Bx.mk hc1
    have HQ:=Bx.mk hq
    obtain⟨la,hla2⟩:∃ la,x.la=la:=⟨_,rfl⟩
    rw[hla2] at hla b1
    have HLA:=Bx.mk hla2
    clear hrg hrg1 hlt hg1 hs1 hxm hxc hkl ha hd1 hc1 hq hla2 hc hat hlk hkey
    obtain⟨o,ho⟩:∃ o,q-la=o:=⟨_,rfl⟩
    obtain⟨o1,ho1⟩:∃ o1,o+1=o1:=⟨_,rfl⟩
    obtain⟨m,hm⟩:∃ m,D%o1=m:=⟨_,rfl⟩
    obtain⟨z,hz⟩:∃ z,la+m=z:=⟨_,rfl⟩
    have hmo:m<o1:=by rw[←hm]; exact Nat.mod_lt _ (by omega)
    have hzq:z≤q:=by omega
    have i1:(q:Int)-(la:Int)=(o:Int):=by omega
    have i3:(o:Int)+1=(o1:Int):=by omega
    have i5:Int.tmod (D:Int) (o1:Int)=(m:Int):=by rw[Int.tmod_eq_emod_of_nonneg (by omega)]; omega
    have i6:(la:Int)+(m:Int)=(z:Int):=by omega
    have i7:¬ (o1:Int)=0:=by omega
    have i8:((o1:Int)==0)=false:=beq_false_of_ne i7
    have HZ:Bx (stays D x=z):=⟨by unfold stays; rw[HQ.out,HLA.out,ho,ho1,hm,hz]⟩
    go_wp2_with fail
    have j1:IntKind.i64.wrap (o:Int)=(o:Int):=IntWalk.i64_in _ (by omega)
    go_quiet (fail)
    clear j1
    have hb9:o1≤1073741825∧m≤1073741825∧z≤1073741824:=by omega
    have HCUT:Bx (∀ w2:World,Dsk w2 g d (some b) ad ⟨s.room,crL left D s.fs,s.left⟩→Calls Tryd.prog 41 #[.pointer (some ⟨d,0,none⟩), .pointer (some ⟨a,0,none⟩), .int .i64 (z:Int)] w2 fun e w'=>e = .returned (.tuple #[])∧Dsk w' g d (some b) ad ⟨s.room,put (crL left D s.fs) (cutF x z),s.left⟩∧Ch (fun b=>b=d∨b=a) w2 w'):=⟨fun w2 h2=>by
     have:=cut_any h2 HXC.out (n:=z) (by rw[HQ.out]; exact hzq)
     rw[HA.out] at this
     exact this⟩
    go_wp2_with fail
    obtain⟨w2,hw2⟩:∃ w2,w1.drewN nq=w2:=⟨_,rfl⟩
    have HC2:Bx (Ch (fun i=>i=r) wo w2):=⟨by rw[←hw2]; exact HC1.out.drewN nq⟩
    have hc12:Ch (fun _=>False) w1 w2:=by rw[←hw2]; exact (Ch.refl _ w1).drewN nq
    have HRG2:Bx (w2.ranges Tryd.prog 9 heldR b r s.fs.length (mapD s.fs ad) (fun z=>left z&&!z.sameKey kl) cnt1):=⟨by rw[←hw2]; exact HRG1.out⟩
    have k1:w2.cell? ⟨a,1,none⟩=some (.int .i64 (la:Int)):=by rw[←hw2]; exact b1
    have HD2:=Bx.mk (HD1.out.keep (hc12.trans ((Ch.refl (fun _=>False) w2).drew) (fun _ _ h=>h)))
    have HCUT2:=Bx.mk (HCUT.out w2.drew HD2.out)
    rw[hw2]
    clear hw2 b0 b1 hen hc12 HRG1 HC1 HD1 HCUT i1
    have j3:IntKind.i64.wrap (o1:Int)=(o1:Int):=IntWalk.i64_in _ (by omega)
    have j6:IntKind.i64.wrap (z:Int)=(z:Int):=IntWalk.i64_in _ (by omega)
    have j4:IntKind.i64.wrap (m:Int)=(m:Int):=IntWalk.i64_in _ (by omega)
    have j7:¬ o1=0:=by omega
    have j8:(D:Int)%(o1:Int)=(m:Int):=by omega
    have j9:((o1:Nat):Int)≠0:=i7
    refine wp_region_still_tail 12 (by kernel_rfl) (by kernel_rfl) ?_
    simp only[List.take_succ_cons,List.take_zero,List.drop_succ_cons,List.drop_zero]
    repeat still_step
    refine wpStill_nil ?_
    clear j3 j6 j4 j7 j8 j9
    change wpList _ _ _ _ _ w2.drew
    go_wp2_with fail
    refine HCUT2.out.mono ?_
    rintro e w3 ⟨rfl,hd3,hc3⟩
    have hym:cutF x z∈put (crL left D s.fs) (cutF x z):=mem_put.2 (.inl rfl)
    have hF3:=hd3.files _ hym
    have hbl:(cutF x z).bs.length=z:=by show (x.bs.take z).length=z; rw[List.length_take,HQ.out]; omega
    rw[show ad (cutF x z).nm=a from HA.out] at hF3
    obtain⟨v3,b30,b31,ho3,_⟩:=hF3.row
    rw[hbl] at ho3
    obtain⟨A3,c3,rfl,_,_⟩:=own_shape ho3
    have z31:=hF3.zf 1
    have HD4:Bx (Dsk (w3.setCell ⟨a,1,none⟩ (.int .i64 (z:Int))) g d (some b) ad ⟨s.room,crL (fun z=>left z&&!z.sameKey kl) D s.fs,s.left⟩):=⟨by
     have h5:=hd3.last hym
     rw[show ad (cutF x z).nm=a from HA.out,hbl] at h5
     have e1:=crL_step (left:=left) (D:=D) hR.out.ok.fine.rise HXM.out
     have e2:=crash_put (fs:=crL left D s.fs) (D:=D) (x:=x) (hR.out.ok.fine.la x HXM.out)
     rw[HZ.out,hbl] at e2
     rw[←HKL.out] at e1
     rw[e1,←e2]
     exact h5⟩
    have hga:g a = .fl (cutF x z).nm:=hF3.tag
    have HC4:Bx (Ch (fun b=>b=d∨b=a) w2 (w3.setCell ⟨a,1,none⟩ (.int .i64 (z:Int)))):=⟨(((Ch.refl (fun b=>b=d∨b=a) w2).drew).trans hc3 (fun _ _ h=>h)).setCell (p:=⟨a,1,none⟩) (.inl (.inr rfl)) _⟩
    have hgb:g b = .mp:=(hd3.some_ b rfl).1
    have HNB:Bx ((¬(b=d∨b=a))∧¬ (r=d∨r=a)):=⟨by
     constructor
     ·rintro (e | e)
      ·rw[e,H.out.tag] at hgb; cases hgb
      ·rw[e,hga] at hgb; cases hgb
     ·have h7:=hR.out.new
      rintro (e | e)
      ·rw[e,H.out.tag] at h7; cases h7
      ·rw[e,hga] at h7; cases h7⟩
    have HCR:Bx (CrLoop w g s D d b r ad (w3.setCell ⟨a,1,none⟩ (.int .i64 (z:Int))) (fun z=>left z&&!z.sameKey kl) cnt1):=⟨⟨ranges_ch HRG2.out HC4.out HNB.out.1 HNB.out.2,HD4.out,(hR.out.ch.trans HC2.out (fun i hi e=>absurd hi (by have:=hR.out.base; omega))).trans HC4.out (fun i _ hi=>by
     rcases hi with hi | hi
     ·rw[hi,H.out.tag]; exact fun e=>by cases e
     ·rw[hi,hga]; exact fun e=>by cases e),hR.out.new,hR.out.base,hR.out.ok⟩⟩
    have HLQ:=Bx.mk (HCR.out.rg.left_eq)
    have HLO:=Bx.mk (hR.out.rg.left_eq)
    clear hd3 hc3 hym hF3 ho3 hbl hga hgb i3 i5 i6 i7 i8 hmx
    go_wp2
    go_roundw
    case rel=>exact⟨_,cnt1,HCR⟩
    case measure=>rw[HLQ.out,HLO.out]; exact HLT.out
end
end
section
open Go.RowKit Go.Oct Go.Su Go.Dk Go.Maps Go.Fr
section
variable {w w' w2:World} {h h' h2:Nat→Rt} {us vs:List Value} {fs gs:Fs} {S F:Nat→Prop} {x y:Fl} {k j:Key} {d:Nat} {s:Ds}
end
end
section
open Go.RowKit Go.Oct Go.Su Go.Dk Go.Maps Go.Fr
section
variable {w w':World} {g g':Nat→Tg} {d:Nat} {mb:Option Nat} {ad:Key→Nat} {s s':Ds} {F S:Nat→Prop} {k:Key}
theorem may_val (s:Ds) (k:Key):may s k=0∨may s k=1∨may s k=9:=by
 unfold may
 split
 ·exact .inr (.inr rfl)
 ·split
  ·exact .inl rfl
  ·exact .inr (.inl rfl)
theorem whole_prog (s:Ds) (k:Key) (b:List Int):opWhole s k b =
  if (opRem s (way k)).1≠0∧(opRem s (way k)).1≠7 then opRem s (way k) else
  if (opApp (opRem s (way k)).2 (way k) b).1≠0 then opApp (opRem s (way k)).2 (way k) b else
  if (opSync (opApp (opRem s (way k)).2 (way k) b).2 (way k)).1≠0 then opSync (opApp (opRem s (way k)).2 (way k) b).2 (way k) else
  opRen (opSync (opApp (opRem s (way k)).2 (way k) b).2 (way k)).2 (way k) k:=by
 have hv:=may_val s (way k)
 rw[whole_steps]
 unfold wh1
 cases hf:fnd s.fs (way k) with
 | some f =>
  have h7:(opRem s (way k)).1≠7:=by
   unfold opRem
   split
   ·show may s (way k)≠7
    omega
   ·rw[hf]
    simp
  simp only[Option.isSome_some,if_true]
  by_cases h0:(opRem s (way k)).1=0
  ·rw[if_neg (show ¬(opRem s (way k)).1≠0 by simp[h0]),if_neg (show ¬((opRem s (way k)).1≠0∧(opRem s (way k)).1≠7) by simp[h0])]
  ·rw[if_pos h0,if_pos ⟨h0,h7⟩]
 | none =>
  simp only[Option.isSome_none,Bool.false_eq_true,if_false]
  by_cases hm:may s (way k)=0
  ·have e:opRem s (way k)=(7,s):=by
    unfold opRem
    rw[if_neg (by simp[hm]),hf]
   rw[e]
   simp
  ·have e:opRem s (way k)=(may s (way k),s):=by
    unfold opRem
    rw[if_pos hm]
   have e2:opApp s (way k) b=(may s (way k),s):=by
    unfold opApp
    rw[if_pos hm]
   have e7:may s (way k)≠7:=by omega
   rw[e]
   simp[hm,e7,e2]
theorem Dgo.no (h:Dgo w g w' g') {b:Nat} (hb:b<w.heap.size) (hn:g b = .no):g' b = .no:=by
 rcases hgt:g' b with _ | _ | _ | _
 ·rfl
 all_goals
  rcases h.new b (by rw[hgt]; exact fun e=>by cases e) with h7 | h7
  ·exact absurd hn h7
  ·omega
theorem Dsk.fresh (h:Dsk w g d mb ad s):∀ b,b=w.heap.size→g b = .no:=fun b hb=>by
 rcases hgt:g b with _ | _ | _ | _
 ·rfl
 all_goals
  have h7:=h.lt b (by rw[hgt]; exact fun e=>by cases e)
  omega
theorem removed1_any (h:Dsk w g d mb ad s) (hk:k.length≤9223372036854775807) :
  Calls Tryd.prog 38 #[pv d, .slice (some ⟨w.heap.size,0,none⟩) 1 1] (w.alloc (.cells #[kv k] 9)) (Post (opRem s k) d w g) :=
 (removed_any (c:=1) (l:=[k]) (h.keep ((Ch.refl (fun _=>False) w).alloc (.cells #[kv k] 9))) (Kss.one w 9 k) h.fresh (by omega) (fun j hj=>by simp at hj; subst hj; exact hk)).mono fun e w' ⟨h1,g',mb',ad',h2,h3⟩=>⟨by rw[h1,opEach_one],g',mb',ad',by rw[opEach_one] at h2; exact h2,(Dgo.quiet ((Ch.refl (fun _=>False) w).alloc (.cells #[kv k] 9))).trans h3⟩
theorem synced1_any (h:Dsk w g d mb ad s) (hk:k.length≤9223372036854775807) :
  Calls Tryd.prog 55 #[pv d, .slice (some ⟨w.heap.size,0,none⟩) 1 1] (w.alloc (.cells #[kv k] 9)) (Post (opSync s k) d w g) :=
 (synced_any (c:=1) (l:=[k]) (h.keep ((Ch.refl (fun _=>False) w).alloc (.cells #[kv k] 9))) (Kss.one w 9 k) h.fresh (by omega) (fun j hj=>by simp at hj; subst hj; exact hk)).mono fun e w' ⟨h1,g',mb',ad',h2,h3⟩=>⟨by rw[h1,opEach_one],g',mb',ad',by rw[opEach_one] at h2; exact h2,(Dgo.quiet ((Ch.refl (fun _=>False) w).alloc (.cells #[kv k] 9))).trans h3⟩
theorem append1_any {B:Option Addr} {cb:Nat} {bs:List Int} (h:Dsk w g d mb ad s) (hk:k.length≤9223372036854775807) (hz:Sl w F .u8 B bs.length bs) (h1:bs.length≤cb) (h2:cb≤maxLen) (hF:∀ b,b<w.heap.size→F b→g b = .no) (hby:Byt bs) :
  Calls Tryd.prog 22 #[pv d,kv k, .slice (some ⟨w.heap.size,0,none⟩) 1 1] (w.alloc (.cells #[.slice B bs.length cb] 32)) (Post (opApp s k bs) d w g):=by
 have hcA:Ch (fun _=>False) w (w.alloc (.cells #[.slice B bs.length cb] 32)):=(Ch.refl _ _).alloc _
 have hq:=Sls.one (F:=F) (G:=fun b=>(b<w.heap.size∧F b)∨b=w.heap.size) 32 hz h1 h2 (fun _ h h' => .inl ⟨h,h'⟩) (.inr rfl)
 refine (append_any (c:=1) (h.keep hcA) hk hq (fun b hb=>?_) (by omega) (fun xs hx=>by simp at hx; subst hx; exact hby)).mono fun e w' ⟨e1,g',mb',ad',e2,e3⟩=>?_
 ·rcases hb with hb | hb
  ·exact hF b hb.1 hb.2
  ·exact h.fresh b hb
 ·rw[show cat [bs]=bs from by simp[cat]] at e1 e2
  exact⟨e1,g',mb',ad',e2,(Dgo.quiet hcA).trans e3⟩
theorem pwrite_any {B:Option Addr} {m cb:Nat} {bs:List Int} (H:Dsk w g d mb ad s) (hk:k.length≤1000000) (hz:Sl w F .u8 B m bs) (hc1:m≤cb) (hc2:cb≤maxLen) (hF:∀ b,F b→g b = .no∧b<w.heap.size) (hby:Byt bs) :
  Calls Tryd.prog 30 #[pv d,kv k, .slice B m cb] w (Post (opWhole s k bs) d w g):=by
 obtain rfl:=hz.len
 have hp:pv d = .pointer (some ⟨d,0,none⟩):=rfl
 have HH:=Bx.mk H
 have HKL:Bx (k.length≤9223372036854775807):=⟨by omega⟩
 have HTL:Bx ((way k).length≤9223372036854775807):=⟨by rw[way_len]; omega⟩
 have HZ:=Bx.mk hz
 have HFN:Bx (∀ b,F b→g b = .no):=⟨fun b hb=>(hF b hb).1⟩
 have HFL:Bx (∀ b,F b→b<w.heap.size):=⟨fun b hb=>(hF b hb).2⟩
 have HBY:=Bx.mk hby
 have HC1:=Bx.mk hc1
 have HC2:=Bx.mk hc2
 have HRM:=Bx.mk (removed1_any H HTL.out)
 have HWP:=Bx.mk (whole_prog s k bs)
 have hadd:=str_add k
 obtain⟨S,hkv⟩:∃ S,(⟨k.toArray⟩:ByteArray)=S:=⟨_,rfl⟩
 obtain⟨T,htv⟩:∃ T,(⟨(way k).toArray⟩:ByteArray)=T:=⟨_,rfl⟩
 rw[hkv,htv] at hadd
 have HKV:Bx (kv k = .string S):=⟨by unfold kv; rw[hkv]⟩
 have HTV:Bx (kv (way k) = .string T):=⟨by unfold kv; rw[htv]⟩
 have hadd':S++(⟨#[126]⟩:ByteArray)=T:=hadd.symm
 have hs1:S.size≤1000000:=by rw[←hkv,key_size]; exact hk
 have hs2:(S.size:Int)+((⟨#[126]⟩:ByteArray).size:Int)≤9223372036854775807:=by have h1:(⟨#[126]⟩:ByteArray).size=1:=rfl; rw[h1]; omega
 have hs3:(S.size:Int)+1≤9223372036854775807:=by omega
 rw[hp,HTV.out] at HRM
 rw[hp,HKV.out]
 obtain⟨m,hm⟩:∃ m,bs.length=m:=⟨_,rfl⟩
 have HM:=Bx.mk hm
 rw[hm]
 clear hp H hk hz hF hby hkv htv hadd hc1 hc2 hm
 go_enter Tryd.func30,Tryd.ntmps30
 go_wp2_with fail
 refine HRM.out.mono ?_
 rintro e w1 ⟨rfl,g1,mb1,ad1,hd1,hg1⟩
 obtain⟨m1,hm1⟩:∃ m,(opRem s (way k)).1=m:=⟨_,rfl⟩
 obtain⟨s1,hs1'⟩:∃ s1,(opRem s (way k)).2=s1:=⟨_,rfl⟩
 have HR1:Bx (opRem s (way k)=(m1,s1)):=⟨by rw[←hm1,←hs1']⟩
 rw[hm1]
 rw[hs1'] at hd1
 have HD1:=Bx.mk hd1
 have HG1:=Bx.mk hg1
 clear hd1 hg1 hs1' hm1 HRM hs2 hs3 hadd' hs1
 by_cases hx:m1≠0∧m1≠7
 ·have e1:((m1:Int) != 0)=true:=by simp; omega
  have e2:((m1:Int) != 7)=true:=by simp; omega
  have HEQ:Bx (opWhole s k bs=(m1,s1)):=⟨by rw[HWP.out,HR1.out,if_pos hx]⟩
  go_wp2
  go_ret
  exact⟨by rw[HEQ.out]; rfl,g1,mb1,ad1,by rw[HEQ.out]; exact HD1.out,HG1.out⟩
 ·have HWH:Bx (opWhole s k bs=if (opApp s1 (way k) bs).1≠0 then opApp s1 (way k) bs else if (opSync (opApp s1 (way k) bs).2 (way k)).1≠0 then opSync (opApp s1 (way k) bs).2 (way k) else opRen (opSync (opApp s1 (way k) bs).2 (way k)).2 (way k) k):=⟨by rw[HWP.out,HR1.out,if_neg hx]⟩
  have hx':m1=0∨m1=7:=by omega
  have HZ1:=Bx.mk ((HZ.out.mono (G:=fun b=>F b∧b<w.heap.size) (fun b _ hb=>⟨hb,HFL.out b hb⟩)).ch HG1.out.ch (fun b hb _ hs=>hs (HFN.out b hb.1)))
  have HAP:=Bx.mk (append1_any (k:=way k) HD1.out HTL.out HZ1.out HC1.out HC2.out (fun b _ hb=>HG1.out.no hb.2 (HFN.out b hb.1)) HBY.out)
  rw[show pv d = .pointer (some ⟨d,0,none⟩) from rfl,HTV.out,HM.out] at HAP
  clear hx HR1
  rcases hx' with rfl | rfl
  all_goals
   go_wp2_with fail
   refine HAP.out.mono ?_
   rintro e w2 ⟨rfl,g2,mb2,ad2,hd2,hg2⟩
   obtain⟨m2,hm2⟩:∃ m,(opApp s1 (way k) bs).1=m:=⟨_,rfl⟩
   rw[hm2]
   have HG2:Bx (Dgo w g w2 g2):=⟨HG1.out.trans hg2⟩
   have HD2:=Bx.mk hd2
   obtain⟨s2,hs2⟩:∃ s2,(opApp s1 (way k) bs).2=s2:=⟨_,rfl⟩
   rw[hs2] at HD2
   have HM2:=Bx.mk hm2
   have HS2:=Bx.mk hs2
   clear hd2 hg2 hm2 hs2 HAP
   by_cases e2:m2=0
   ·subst e2
    have HSY:=Bx.mk (synced1_any HD2.out HTL.out)
    rw[show pv d = .pointer (some ⟨d,0,none⟩) from rfl,HTV.out] at HSY
    go_wp2_with fail
    refine HSY.out.mono ?_
    rintro e w3 ⟨rfl,g3,mb3,ad3,hd3,hg3⟩
    obtain⟨m3,hm3⟩:∃ m,(opSync s2 (way k)).1=m:=⟨_,rfl⟩
    rw[hm3]
    have HG3:Bx (Dgo w g w3 g3):=⟨HG2.out.trans hg3⟩
    have HD3:=Bx.mk hd3
    obtain⟨s3,hs3⟩:∃ s3,(opSync s2 (way k)).2=s3:=⟨_,rfl⟩
    rw[hs3] at HD3
    have HM3:=Bx.mk hm3
    have HS3:=Bx.mk hs3
    clear hd3 hg3 hm3 hs3 HSY
    by_cases e3:m3=0
    ·subst e3
     have HRE:=Bx.mk (rename_any HD3.out HTL.out HKL.out)
     rw[show pv d = .pointer (some ⟨d,0,none⟩) from rfl,HTV.out,HKV.out] at HRE
     have HEQ:Bx (opWhole s k bs=opRen s3 (way k) k):=⟨by rw[HWH.out,HM2.out,if_neg (by simp),HS2.out,HM3.out,if_neg (by simp),HS3.out]⟩
     go_wp2_with fail
     refine HRE.out.mono ?_
     rintro e w4 ⟨rfl,g4,mb4,ad4,hd4,hg4⟩
     go_wp2
     go_ret
     exact⟨by rw[HEQ.out]; rfl,g4,mb4,ad4,by rw[HEQ.out]; exact hd4,HG3.out.trans hg4⟩
    ·have e3':¬ (m3:Int)=0:=by omega
     have HEQ:Bx (opWhole s k bs=(m3,s3)):=⟨by rw[HWH.out,HM2.out,if_neg (by simp),HS2.out,HM3.out,if_pos e3,←HM3.out,←HS3.out]⟩
     go_wp2
     go_ret
     exact⟨by rw[HEQ.out]; rfl,g3,mb3,ad3,by rw[HEQ.out]; exact HD3.out,HG3.out⟩
   ·have e2':¬ (m2:Int)=0:=by omega
    have HEQ:Bx (opWhole s k bs=(m2,s2)):=⟨by rw[HWH.out,HM2.out,if_pos e2,←HM2.out,←HS2.out]⟩
    go_wp2
    go_ret
    exact⟨by rw[HEQ.out]; rfl,g2,mb2,ad2,by rw[HEQ.out]; exact HD2.out,HG2.out⟩
theorem psave_any {A:Option Addr} {n c:Nat} {xss:List (List Int)} (h:Dsk w g d mb ad s) (ht:O.Tab w) (hk:k.length≤9223372036854775807) (hz:Sls w F A n xss) (hn:n≤1000000) (hl:(cat xss).length≤281474976710656) (hby:∀ xs∈xss,Byt xs) :
  Calls Tryd.prog 11 #[pv d,kv k, .slice A n c] w (Post (opSaveL s k (cat xss)) d w g):=by
 have hp:pv d = .pointer (some ⟨d,0,none⟩):=rfl
 have HH:=Bx.mk h
 have hsz:=key_size k
 have HBY:Bx (Byt (cat xss)):=⟨fun x hx=>by
  obtain⟨y,hy,hxy⟩:=List.mem_flatten.1 hx
  exact hby y hy x hxy⟩
 obtain⟨S,hkv⟩:∃ S,(⟨k.toArray⟩:ByteArray)=S:=⟨_,rfl⟩
 obtain⟨kl,hkl⟩:∃ kl,k.length=kl:=⟨_,rfl⟩
 have HKL:=Bx.mk hkl
 rw[hkv,hkl] at hsz
 rw[hkl] at hk
 have HKV:Bx (kv k = .string S):=⟨by unfold kv; rw[hkv]⟩
 rw[hp,HKV.out]
 have HSHORT:Bx ((cat xss).length≤1048576→Calls Tryd.prog 29 #[.slice A n c] w (Encoded (cat xss) w)):=⟨fun h=>encode_any xss A n c w ht hz hn h hby⟩
 have HLONG:Bx (1048576<(cat xss).length→Calls Tryd.prog 29 #[.slice A n c] w fun e w'=>e = .returned (.tuple #[.slice none 0 0, .int .i64 5])∧w'=w):=⟨fun h=>encode_long xss A n c w hz (by omega) h hl⟩
 have hem:=str_empty k
 rw[hkv,hkl] at hem
 have HW:Bx (okS k→∀ (B:Option Addr) (cb:Nat) (w1:World),Fresh w (.slice B (frm (cat xss)).length cb) (frm (cat xss)) w1→Calls Tryd.prog 30 #[pv d,kv k, .slice B (frm (cat xss)).length cb] w1 (Post (opWhole s k (frm (cat xss))) d w g)):=⟨fun hok B cb w1 hf=>by
  obtain⟨hf1,hf2,hf3⟩:=hf
  obtain⟨A',c',e1,h1,h2⟩:=own_shape hf1
  cases e1
  refine (pwrite_any (HH.out.keep hf3) (by unfold okS at hok; omega) (Sl.of_own hf1) h1 h2 (fun b hb=>⟨?_,own_lt hf1 b hb⟩) (frm_byt HBY.out)).mono fun e w' ⟨e1,g',mb',ad',e2,e3⟩=>⟨e1,g',mb',ad',e2,(Dgo.quiet hf3).trans e3⟩
  rcases hgt:g b with _ | _ | _ | _
  ·rfl
  all_goals
   have h7:=HH.out.lt b (by rw[hgt]; exact fun e=>by cases e)
   have h8:=hf2 b hb
   omega⟩
 rw[hp,HKV.out] at HW
 clear hp h hz ht hby hkv hkl hl
 by_cases h1:kl=0
 ·have he':(S.toList==([]:List UInt8))=true:=by rw[hem]; simp[h1]
  have HR:Bx (opSaveL s k (cat xss)=(1,s)):=⟨by unfold opSaveL; rw[if_pos (fun e=>by unfold okS at e; rw[HKL.out] at e; omega)]⟩
  clear hem HW HSHORT HLONG
  go_enter Tryd.func11,Tryd.ntmps11
  go_wp2
  go_ret
  exact⟨by rw[HR.out]; rfl,g,mb,ad,by rw[HR.out]; exact HH.out,Dgo.refl _ _⟩
 ·have he':(S.toList==([]:List UInt8))=false:=by rw[hem]; simp[h1]
  clear hem
  by_cases h2:60<kl
  ·have HR:Bx (opSaveL s k (cat xss)=(1,s)):=⟨by unfold opSaveL; rw[if_pos (fun e=>by unfold okS at e; rw[HKL.out] at e; omega)]⟩
   have i2:decide ((60:Int)<(kl:Int))=true:=decide_eq_true (by omega)
   have i2':decide (60<kl)=true:=decide_eq_true h2
   clear HW HSHORT HLONG
   go_enter Tryd.func11,Tryd.ntmps11
   go_wp2
   go_ret
   exact⟨by rw[HR.out]; rfl,g,mb,ad,by rw[HR.out]; exact HH.out,Dgo.refl _ _⟩
  ·have i2:decide ((60:Int)<(kl:Int))=false:=decide_eq_false (by omega)
   have i2':decide (60<kl)=false:=decide_eq_false h2
   have hok:okS k:=by unfold okS; rw[HKL.out]; omega
   by_cases h3:1048576<(cat xss).length
   ·have HR:Bx (opSaveL s k (cat xss)=(5,s)):=⟨by unfold opSaveL; rw[if_neg (fun h=>h hok),if_pos h3]⟩
    have HEN:=Bx.mk (HLONG.out h3)
    clear HW HSHORT HLONG hok h3
    go_enter Tryd.func11,Tryd.ntmps11
    go_wp2_with fail
    refine HEN.out.mono ?_
    rintro e w1 ⟨rfl,rfl⟩
    go_wp2
    go_ret
    exact⟨by rw[HR.out]; rfl,g,mb,ad,by rw[HR.out]; exact HH.out,Dgo.refl _ _⟩
   ·have HR:Bx (opSaveL s k (cat xss)=opWhole s k (frm (cat xss))):=⟨by unfold opSaveL; rw[if_neg (fun h=>h hok),if_neg h3]⟩
    have HEN:=Bx.mk (HSHORT.out (by omega))
    have HWW:=Bx.mk (HW.out hok)
    have HLE:Bx (¬1048576<(cat xss).length):=⟨h3⟩
    clear HW HSHORT HLONG hok h3
    go_enter Tryd.func11,Tryd.ntmps11
    go_wp2_with fail
    refine HEN.out.mono ?_
    rintro e w1 (⟨hbig,_⟩ | ⟨_,v,rfl,hf⟩)
    ·exact absurd hbig HLE.out
    obtain⟨A1,c1,rfl,_,_⟩:=own_shape hf.1
    have HWC:=Bx.mk (HWW.out A1 c1 w1 hf)
    clear hf HWW HEN
    obtain⟨q,hq⟩:∃ q,(frm (cat xss)).length=q:=⟨_,rfl⟩
    rw[hq] at HWC ⊢
    clear hq
    go_wp2_with fail
    refine HWC.out.mono ?_
    rintro e w2 ⟨rfl,hpo⟩
    go_wp2
    go_ret
    exact⟨by rw[HR.out]; rfl,by rw[HR.out]; exact hpo⟩
theorem pload_any (h:Dsk w g d mb ad s) (ht:O.Tab w) (k:Key) (hroom:s.room≤1048576) (hk:k.length≤9223372036854775807:=by simp):Calls Tryd.prog 13 #[pv d,kv k] w (LoadP (opRead s k) w):=by
 have hp:pv d = .pointer (some ⟨d,0,none⟩):=rfl
 have HC:=Bx.mk (read_any h hk)
 have HT:=Bx.mk ht
 have HBB:Bx (∀ b,opRead s k=some b→b.length≤1048576∧Byt b):=⟨fun b e=>by
  unfold opRead at e
  cases hf:fnd s.fs k with
  | none=>rw[hf] at e; cases e
  | some x =>
   rw[hf] at e
   simp only[Option.map_some,Option.some.injEq] at e
   subst e
   obtain⟨hm,_⟩:=fnd_some hf
   have:=used_at h.ok.fine.rise hm
   have:=h.ok.used
   exact⟨by omega,h.ok.fine.byte x hm⟩⟩
 obtain⟨S,hkv⟩:∃ S,kv k = .string S:=⟨_,rfl⟩
 obtain⟨o,ho⟩:∃ o,opRead s k=o:=⟨_,rfl⟩
 rw[hp] at HC ⊢
 rw[hkv] at HC ⊢
 rw[ho] at HC HBB ⊢
 clear hp h hkv ho hroom hk ht
 go_enter Tryd.func13,Tryd.ntmps13
 go_wp2_with fail
 refine HC.out.mono ?_
 rintro e w1 (⟨rfl,rfl,hc⟩ | ⟨bs,v,rfl,rfl,hf⟩)
 ·go_wp2
  go_ret2
  exact⟨_,rfl,fresh_nil hc⟩
 ·obtain⟨hl,hb⟩:=HBB.out bs rfl
  obtain⟨hf1,hf2,hf3⟩:=hf
  obtain⟨A,c,rfl,hc1,hc2⟩:=own_shape hf1
  have HO:=Bx.mk (fone_any bs A bs.length c w1 (HT.out.ch hf3 (fun h=>h)) (Sl.of_own hf1) hc1 hc2 (by omega) hb)
  obtain⟨q,hq⟩:∃ q,bs.length=q:=⟨_,rfl⟩
  rw[hq] at HO ⊢
  have HC1:=Bx.mk hf3
  clear hf1 hf2 hf3 hc1 hc2 hl hb hq HBB HC
  go_wp2_with fail
  refine HO.out.mono ?_
  rintro e w2 ⟨v2,rfl,hfr⟩
  obtain⟨ec,hec⟩:∃ ec,(oneF bs).2=ec:=⟨_,rfl⟩
  have HEC:=Bx.mk hec
  have HFR:=Bx.mk hfr
  rw[hec]
  clear hec hfr
  by_cases e0:ec=0
  ·subst e0
   have HL:Bx (loadF (some bs)=((oneF bs).1,0)):=⟨by show (if (oneF bs).2≠0 then (([]:List Int),(3:Int)) else ((oneF bs).1,0))=_; rw[if_neg (by simp[HEC.out])]⟩
   go_wp2
   go_ret2
   exact⟨v2,by rw[HL.out]; rfl,by rw[HL.out]; exact HFR.out.after HC1.out⟩
  ·have HL:Bx (loadF (some bs)=([],3)):=⟨by show (if (oneF bs).2≠0 then (([]:List Int),(3:Int)) else ((oneF bs).1,0))=_; rw[if_pos (by rw[HEC.out]; exact e0)]⟩
   go_wp2
   go_ret2
   exact⟨_,by rw[HL.out]; rfl,by rw[HL.out]; exact fresh_nil (HC1.out.trans HFR.out.2.2 (fun _ _ h=>h))⟩
end
end
section
open Go.RowKit Go.Oct Go.Su Go.Dk Go.Maps Go.Fr Go.Sort Go.Shelf
section
variable {F S:Nat→Prop}
def Beg (p t:Key):Prop:=t.take p.length=p∧p.length≤t.length
instance (p t:Key):Decidable (Beg p t):=by unfold Beg; exact inferInstance
theorem prefixl_any (t p:Key) (w:World) :
  Calls Tryd.prog 64 #[kv t,kv p] w fun e w'=>e = .returned (.bool (decide (Beg p t)))∧w=w':=by
 have htz:=key_size t
 have hpz:=key_size p
 have hxq:∀ pl,pl=p.length→(((⟨t.toArray⟩:ByteArray).extract 0 pl).toList==(⟨p.toArray⟩:ByteArray).toList)=decide (t.take pl=p):=fun pl _=>by
  rw[←str_ne]
  congr 1
  rw[Lib.toList_data,Lib.toList_data]
  simp
 obtain⟨TB,htb⟩:∃ S,(⟨t.toArray⟩:ByteArray)=S:=⟨_,rfl⟩
 obtain⟨PB,hpb⟩:∃ S,(⟨p.toArray⟩:ByteArray)=S:=⟨_,rfl⟩
 obtain⟨tl,htl⟩:∃ tl,t.length=tl:=⟨_,rfl⟩
 obtain⟨pl,hpl⟩:∃ pl,p.length=pl:=⟨_,rfl⟩
 have HB:Bx (∀ o:Bool,(o=true↔t.take pl=p∧pl≤tl)→o=decide (Beg p t)):=⟨fun o ho=>by
  rw[Bool.eq_iff_iff,ho]
  unfold Beg
  simp only[hpl,htl,decide_eq_true_eq]⟩
 have hx:=hxq pl hpl.symm
 rw[htb,hpb] at hx
 rw[htb,htl] at htz
 rw[hpb,hpl] at hpz
 have HTV:kv t = .string TB:=by unfold kv; rw[htb]
 have HPV:kv p = .string PB:=by unfold kv; rw[hpb]
 rw[HTV,HPV]
 clear htb hpb htl hpl hxq HTV HPV
 by_cases h1:pl≤tl
 ·have e1:decide ((pl:Int)≤(tl:Int))=true:=decide_eq_true (by omega)
  have e1':decide (pl≤tl)=true:=decide_eq_true h1
  by_cases h2:t.take pl=p
  ·have e2:((TB.extract 0 pl).toList==PB.toList)=true:=by rw[hx]; exact decide_eq_true h2
   have HN:Bx (true=decide (Beg p t)):=⟨HB.out true (by simp[h2,h1])⟩
   clear hx h2 HB
   go_enter Tryd.func64,Tryd.ntmps64
   go_wp2
   go_ret
   exact⟨ret_bool HN.out,rfl⟩
  ·have e2:((TB.extract 0 pl).toList==PB.toList)=false:=by rw[hx]; exact decide_eq_false h2
   have HN:Bx (false=decide (Beg p t)):=⟨HB.out false (by simp[h2])⟩
   clear hx h2 HB
   go_enter Tryd.func64,Tryd.ntmps64
   go_wp2
   go_ret
   exact⟨ret_bool HN.out,rfl⟩
 ·have e1:decide ((pl:Int)≤(tl:Int))=false:=decide_eq_false (by omega)
  have e1':decide (pl≤tl)=false:=decide_eq_false h1
  have HN:Bx (false=decide (Beg p t)):=⟨HB.out false (by simp[h1])⟩
  clear hx HB
  go_enter Tryd.func64,Tryd.ntmps64
  go_wp2
  go_ret
  exact⟨ret_bool HN.out,rfl⟩
theorem prefix_any (t p:Key) (w:World) :
  Calls Tryd.prog 36 #[kv t,kv p] w fun e w'=>e = .returned (.bool (decide (Beg p t)))∧w=w':=by
 have HC:=Bx.mk (prefixl_any t p w)
 obtain⟨tv,htv⟩:∃ v,kv t=v:=⟨_,rfl⟩
 obtain⟨pv,hpv⟩:∃ v,kv p=v:=⟨_,rfl⟩
 rw[htv,hpv] at HC ⊢
 obtain⟨o,ho⟩:∃ o,decide (Beg p t)=o:=⟨_,rfl⟩
 rw[ho] at HC ⊢
 clear ho htv hpv
 go_enter Tryd.func36,Tryd.ntmps36
 go_wp2_with fail
 refine HC.out.mono ?_
 rintro e w1 ⟨rfl,rfl⟩
 go_wp2
 go_ret
 exact⟨rfl,rfl⟩
theorem indexs_any (l:List Key) (v:Key) (A:Option Addr) (n c:Nat) (w:World) (hz:Kss w F A n l) (hn:n≤9223372036854775806) :
  Calls Tryd.prog 65 #[.slice A n c,kv v] w fun e w'=>∃ z:Int,e = .returned (.int .i64 z)∧(0≤z↔v∈l)∧w=w':=by
 have HL:=Bx.mk hz.len
 have HZ:=Bx.mk hz
 have HSE:Bx (∀ t:Key,((⟨v.toArray⟩:ByteArray).toList==(⟨t.toArray⟩:ByteArray).toList)=decide (v=t)):=⟨fun t=>str_ne v t⟩
 obtain⟨VB,hvb⟩:∃ S,(⟨v.toArray⟩:ByteArray)=S:=⟨_,rfl⟩
 have HVV:kv v = .string VB:=by unfold kv; rw[hvb]
 rw[hvb] at HSE
 rw[HVV]
 clear hz HVV hvb
 go_enter Tryd.func65,Tryd.ntmps65
 go_wp2_with fail
 go_loop [5,8] (fun _ i=>∃ k:Nat,k≤n∧i = .int .i64 k∧Bx (v∉l.take k)) (fun _ i=>n-(intOf i).toNat)
 case atStart=>exact⟨0,Nat.zero_le _,rfl,⟨by simp⟩⟩
 case round =>
  obtain⟨k,hk,rfl,hno⟩:=hrel
  by_cases hlt:k<n
  ·have dk:decide ((k:Int)<(n:Int))=true:=decide_eq_true (by omega)
   obtain⟨bt,ot,t,rfl,_,ht,hcell⟩:=HZ.out.at_ hlt
   have HTM:=Bx.mk (Oct.take_more ht.out)
   have HMEM:=Bx.mk (List.mem_of_getElem? ht.out)
   have i2:(k:Int)<(n:Int):=by omega
   have hse:=HSE.out t
   obtain⟨TB,htb⟩:∃ S,(⟨t.toArray⟩:ByteArray)=S:=⟨_,rfl⟩
   have htv:kv t = .string TB:=by unfold kv; rw[htb]
   rw[htb] at hse
   rw[htv] at hcell
   clear ht htb htv
   by_cases hvt:v=t
   ·have e2:(VB.toList==TB.toList)=true:=by rw[hse]; exact decide_eq_true hvt
    have HM:Bx (v∈l):=⟨by rw[hvt]; exact HMEM.out⟩
    clear hse hno hvt HSE
    go_wp2
    go_ret
    exact⟨(k:Int),rfl,⟨fun _=>HM.out,fun _=>by omega⟩,rfl⟩
   ·have e2:(VB.toList==TB.toList)=false:=by rw[hse]; exact decide_eq_false hvt
    have HN:Bx (v∉l.take (k+1)):=⟨by rw[HTM.out]; simp[hno.out,hvt]⟩
    clear hse hno hvt
    go_wp2
    go_round
    case rel=>exact⟨k+1,by omega,by go_num,HN⟩
    case measure=>simp[intOf]; omega
  ·obtain rfl:n=k:=by omega
   have dk:decide ((n:Int)<(n:Int))=false:=decide_eq_false (by omega)
   have HE:Bx (v∉l):=⟨by
    have h:=hno.out
    rwa[List.take_of_length_le (Nat.le_of_eq HL.out)] at h⟩
   clear hno
   go_wp2
   go_ret
   exact⟨-1,rfl,⟨fun h=>by omega,fun h=>absurd h HE.out⟩,rfl⟩
theorem contains_any (l:List Key) (v:Key) (A:Option Addr) (n c:Nat) (w:World) (hz:Kss w F A n l) (hn:n≤9223372036854775806) :
  Calls Tryd.prog 37 #[.slice A n c,kv v] w fun e w'=>e = .returned (.bool (decide (v∈l)))∧w=w':=by
 have HC:=Bx.mk (indexs_any l v A n c w hz hn)
 obtain⟨vv,hvv⟩:∃ u,kv v=u:=⟨_,rfl⟩
 rw[hvv] at HC ⊢
 clear hz hvv
 go_enter Tryd.func37,Tryd.ntmps37
 go_wp2_with fail
 refine HC.out.mono ?_
 rintro e w1 ⟨z,rfl,hz,rfl⟩
 have HB:Bx (decide (0≤z)=decide (v∈l)):=⟨by rw[decide_eq_decide]; exact hz⟩
 clear hz HC
 go_wp2
 go_ret
 exact⟨ret_bool HB.out,rfl⟩
structure StayC (W:World) (F:Nat→Prop) (bp bs:Nat) (p:Key) (A:Option Addr) (n c:Nat) (st:List Key):Prop where
 cp:W.cell? ⟨bp,0,none⟩=some (kv p)
 cs:W.cell? ⟨bs,0,none⟩=some (.slice A n c)
 ks:Kss W F A n st
theorem StayC.ch {W W':World} {bp bs n c:Nat} {p:Key} {A:Option Addr} {st:List Key} (h:StayC W F bp bs p A n c st) (hc:Ch S W W') (h1:¬ S bp) (h2:¬ S bs) (h3:∀ b,F b→b<W.heap.size→¬ S b):StayC W' F bp bs p A n c st :=
 ⟨hc.cell h1 h.cp,hc.cell h2 h.cs,h.ks.ch hc h3⟩
def isGone (p:Key) (st:List Key) (t:Key):Bool:=decide (t.take p.length=p∧p.length≤t.length∧t∉st)
theorem stays_any {bp bs n c:Nat} {p:Key} {A:Option Addr} {st:List Key} (t:Key) (W:World) (h:StayC W F bp bs p A n c st) (hn:n≤9223372036854775806) :
  Calls Tryd.prog 35 #[kv t, .pointer (some ⟨bp,0,none⟩), .pointer (some ⟨bs,0,none⟩)] W fun e w'=>e = .returned (.bool (!isGone p st t))∧W=w':=by
 have HP:=Bx.mk (prefix_any t p W)
 have HC:=Bx.mk (contains_any st t A n c W h.ks hn)
 have cp:=h.cp
 have cs:=h.cs
 have HG:Bx (∀ o:Bool,(o=true↔¬ (Beg p t∧t∉st))→o=!isGone p st t):=⟨fun o ho=>by
  rw[Bool.eq_iff_iff,ho]
  unfold isGone Beg
  simp only[Bool.not_eq_true',decide_eq_false_iff_not,and_assoc]⟩
 obtain⟨tv,htv⟩:∃ v,kv t=v:=⟨_,rfl⟩
 obtain⟨pv,hpv⟩:∃ v,kv p=v:=⟨_,rfl⟩
 rw[htv] at HP HC ⊢
 rw[hpv] at HP cp
 clear h htv hpv hn
 by_cases h1:Beg p t
 ·rw[show decide (Beg p t)=true from decide_eq_true h1] at HP
  by_cases h2:t∈st
  ·rw[show decide (t∈st)=true from decide_eq_true h2] at HC
   have HN:Bx (true=!isGone p st t):=⟨HG.out true (by simp[h2])⟩
   clear HG h1 h2
   go_enter Tryd.func35,Tryd.ntmps35
   go_wp2_with fail
   refine HP.out.mono ?_
   rintro e w1 ⟨rfl,rfl⟩
   go_wp2_with fail
   refine HC.out.mono ?_
   rintro e w1 ⟨rfl,rfl⟩
   go_wp2
   go_ret
   exact⟨ret_bool HN.out,rfl⟩
  ·rw[show decide (t∈st)=false from decide_eq_false h2] at HC
   have HN:Bx (false=!isGone p st t):=⟨HG.out false (by simp[h1,h2])⟩
   clear HG h1 h2
   go_enter Tryd.func35,Tryd.ntmps35
   go_wp2_with fail
   refine HP.out.mono ?_
   rintro e w1 ⟨rfl,rfl⟩
   go_wp2_with fail
   refine HC.out.mono ?_
   rintro e w1 ⟨rfl,rfl⟩
   go_wp2
   go_ret
   exact⟨ret_bool HN.out,rfl⟩
 ·rw[show decide (Beg p t)=false from decide_eq_false h1] at HP
  have HN:Bx (true=!isGone p st t):=⟨HG.out true (by simp[h1])⟩
  clear HG h1 HC
  go_enter Tryd.func35,Tryd.ntmps35
  go_wp2_with fail
  refine HP.out.mono ?_
  rintro e w1 ⟨rfl,rfl⟩
  go_wp2
  go_ret
  exact⟨ret_bool HN.out,rfl⟩
end
end
end Go.Proofs.YtoolcbaipinloaaDoor
