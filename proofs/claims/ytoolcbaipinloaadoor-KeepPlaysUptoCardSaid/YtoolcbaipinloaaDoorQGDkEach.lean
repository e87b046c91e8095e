/- Lemmas and contracts of this proof. Conditions: said at each. -/
import Derived.Test.YtoolcbaipinloaaDoorQGDkMem
import Derived.Lib.SliceRun
set_option maxHeartbeats 8000000
set_option maxRecDepth 100000
namespace Go.Proofs.YtoolcbaipinloaaDoor
section
open Go.RowKit Go.Oct Go.Su Go.Dk Go.Maps
def opEach (f:Ds→Key→Nat×Ds):Ds→List Key→Nat×Ds
 | s,[]=>(0,s)
 | s,k::l=>if (f s k).1≠0 then f s k else opEach f (f s k).2 l
theorem opEach_one (f:Ds→Key→Nat×Ds) (s:Ds) (k:Key):opEach f s [k]=f s k:=by
 unfold opEach
 split
 ·rfl
 ·rename_i h
  unfold opEach
  have:(f s k).1=0:=by omega
  rw[←this]
theorem run_func (P:Program) (fn:Fn) (first cap:Array Value) (w:World):(Instr.makeFunc fn first cap).run P w = .ok (.func fn first cap) w:=rfl
section
variable {w w':World} {g g':Nat→Tg} {d:Nat} {mb:Option Nat} {ad:Key→Nat} {s s':Ds} {F S:Nat→Prop} {x y:Fl} {k:Key}
theorem each_any {fc:FuncId} (op:Ds→Key→Nat×Ds) (eg:∀ args w,(callFunc fc args).run Tryd.prog w = .ok (.enter fc args) w)
  (hone:∀ (w:World) (g:Nat→Tg) (mb:Option Nat) (ad:Key→Nat) (s:Ds) (k:Key),Dsk w g d mb ad s→k.length≤9223372036854775807→Calls Tryd.prog fc #[pv d,kv k] w (Post (op s k) d w g))
  {A:Option Addr} {n c:Nat} {l:List Key} (h:Dsk w g d mb ad s) (hz:Kss w F A n l) (hF:∀ b,F b→g b = .no) (hn:n≤1048576) (hk:∀ k∈l,k.length≤9223372036854775807) :
  Calls Tryd.prog 66 #[pv d, .func (.func fc) #[pv d] #[], .slice A n c] w (Post (opEach op s l) d w g):=by
 have hp:pv d = .pointer (some ⟨d,0,none⟩):=rfl
 have H:=Bx.mk h
 have HZ:=Bx.mk hz
 have HL:=Bx.mk hz.len
 have HK:=Bx.mk hk
 have HF:=Bx.mk hF
 have HO:=Bx.mk hone
 rw[hp] at HO ⊢
 clear h hz hk hF hone hp
 go_enter Tryd.func66,Tryd.ntmps66
 go_wp2_with fail
 go_loopw [8,9,14] (fun _ _ i wr=>∃ (k:Nat) (g':Nat→Tg) (mb':Option Nat) (ad':Key→Nat) (s':Ds),k≤n∧i = .int .i64 k∧Bx (Dsk wr g' d mb' ad' s'∧Dgo w g wr g'∧opEach op s l=opEach op s' (l.drop k))) (fun _ _ i _=>n-(intOf i).toNat)
 case atStart=>exact⟨0,g,mb,ad,s,Nat.zero_le _,rfl,⟨H.out,Dgo.refl _ _,rfl⟩⟩
 case round =>
  obtain⟨k,g',mb',ad',s',hk,rfl,hR⟩:=hrel
  by_cases hlt:k<n
  ·have dk:decide ((k:Int)<(n:Int))=true:=decide_eq_true (by omega)
   have hz:=HZ.out.ch hR.out.2.1.ch (fun b hb _ hs=>hs (HF.out b hb))
   obtain⟨bt,ot,t,rfl,_,ht,hcell⟩:=hz.at_ hlt
   have HTX:=Bx.mk ht.out
   have HLN:=HK.out t (List.mem_of_getElem? ht.out)
   have i2:(k:Int)<(n:Int):=by omega
   have HC:=Bx.mk (HO.out wr g' mb' ad' s' t hR.out.1 HLN)
   obtain⟨m,hm⟩:∃ m,(op s' t).1=m:=⟨_,rfl⟩
   have HE:Bx (opEach op s (l)=if m≠0 then op s' t else opEach op (op s' t).2 (l.drop (k+1))):=⟨by
    rw[hR.out.2.2,List.drop_eq_getElem_cons (by rw[HL.out]; exact hlt)]
    have:l[k]'(by rw[HL.out]; exact hlt)=t:=by
     have:=HTX.out
     rw[List.getElem?_eq_getElem (by rw[HL.out]; exact hlt)] at this
     injection this
    rw[this]
    show (if (op s' t).1≠0 then op s' t else opEach op (op s' t).2 (l.drop (k+1)))=_
    rw[hm]⟩
   have HM:=Bx.mk hm
   obtain⟨tv,htv⟩:∃ S,kv t = .string S:=⟨_,rfl⟩
   rw[htv] at hcell HC
   clear ht hz HLN hm htv
   obtain⟨wo,rfl⟩:∃ wo,wo=wr:=⟨_,rfl⟩
   by_cases h0:m=0
   ·subst h0
    clear HO
    go_wp2_with fail
    refine HC.out.mono ?_
    rintro e w1 ⟨rfl,g1,mb1,ad1,hd1,hg1⟩
    have hm0:((op s' t).1:Int)=0:=by rw[HM.out]; rfl
    have H1:Bx (Dsk w1 g1 d mb1 ad1 (op s' t).2∧Dgo w g w1 g1∧opEach op s l=opEach op (op s' t).2 (l.drop (k+1))):=⟨hd1,hR.out.2.1.trans hg1,by rw[HE.out,if_neg (by simp)]⟩
    clear hd1 hg1 hR HC
    go_wp2
    go_roundw
    case rel=>exact⟨k+1,g1,mb1,ad1,(op s' t).2,by omega,by go_num,H1⟩
    case measure=>simp[intOf]; omega
   ·clear HO
    go_wp2_with fail
    refine HC.out.mono ?_
    rintro e w1 ⟨rfl,g1,mb1,ad1,hd1,hg1⟩
    have hm0:¬ ((op s' t).1:Int)=0:=by rw[HM.out]; omega
    have H1:Bx (Dsk w1 g1 d mb1 ad1 (op s' t).2∧Dgo w g w1 g1∧opEach op s l=op s' t):=⟨hd1,hR.out.2.1.trans hg1,by rw[HE.out,if_pos h0]⟩
    clear hd1 hg1 hR HC
    go_wp2
    go_ret
    refine⟨by rw[H1.out.2.2]; rfl,g1,mb1,ad1,by rw[H1.out.2.2]; exact H1.out.1,H1.out.2.1⟩
  ·obtain rfl:n=k:=by omega
   have dk:decide ((n:Int)<(n:Int))=false:=decide_eq_false (by omega)
   have HE:Bx (opEach op s l=(0,s')):=⟨by rw[hR.out.2.2,List.drop_of_length_le (by rw[HL.out]; exact Nat.le_refl _)]; rfl⟩
   clear HO
   go_wp2
   go_ret
   exact⟨by rw[HE.out]; rfl,g',mb',ad',by rw[HE.out]; exact hR.out.1,hR.out.2.1⟩
theorem synced_any {A:Option Addr} {n c:Nat} {l:List Key} (h:Dsk w g d mb ad s) (hz:Kss w F A n l) (hF:∀ b,F b→g b = .no) (hn:n≤1048576) (hk:∀ k∈l,k.length≤9223372036854775807) :
  Calls Tryd.prog 55 #[pv d, .slice A n c] w (Post (opEach opSync s l) d w g):=by
 have eg:∀ args w,(callFunc 76 args).run Tryd.prog w = .ok (.enter 76 args) w:=enters_of Tryd.func76 (by kernel_rfl) rfl
 have HC:=Bx.mk (each_any (c:=c) opSync eg (fun w g mb ad s k h hk=>sync_any h hk) h hz hF hn hk)
 have hmf := @run_func Tryd.prog
 have hp:pv d = .pointer (some ⟨d,0,none⟩):=rfl
 rw[hp] at HC ⊢
 clear h hz hF hk hp eg
 go_enter Tryd.func55,Tryd.ntmps55
 go_wp2_with fail
 refine HC.out.mono ?_
 rintro e w1 ⟨rfl,hr⟩
 go_wp2
 go_ret
 exact⟨rfl,hr⟩
theorem removed_any {A:Option Addr} {n c:Nat} {l:List Key} (h:Dsk w g d mb ad s) (hz:Kss w F A n l) (hF:∀ b,F b→g b = .no) (hn:n≤1048576) (hk:∀ k∈l,k.length≤9223372036854775807) :
  Calls Tryd.prog 38 #[pv d, .slice A n c] w (Post (opEach opRem s l) d w g):=by
 have eg:∀ args w,(callFunc 67 args).run Tryd.prog w = .ok (.enter 67 args) w:=enters_of Tryd.func67 (by kernel_rfl) rfl
 have HC:=Bx.mk (each_any (c:=c) opRem eg (fun w g mb ad s k h hk=>remove_any h hk) h hz hF hn hk)
 have hmf := @run_func Tryd.prog
 have hp:pv d = .pointer (some ⟨d,0,none⟩):=rfl
 rw[hp] at HC ⊢
 clear h hz hF hk hp eg
 go_enter Tryd.func38,Tryd.ntmps38
 go_wp2_with fail
 refine HC.out.mono ?_
 rintro e w1 ⟨rfl,hr⟩
 go_wp2
 go_ret
 exact⟨rfl,hr⟩
end
end
section
open Go.RowKit Go.Oct Go.Su Go.Dk Go.Maps
section
variable {w w':World} {g g':Nat→Tg} {d:Nat} {mb:Option Nat} {ad:Key→Nat} {s s':Ds} {F S:Nat→Prop} {x y:Fl} {k:Key}
theorem own_b0 (w:World):(w.alloc (.cells #[] 5)).ownsRow 0 5 1 (.slice (some ⟨w.heap.size,0,none⟩) 0 0) 0 []:=World.ownsRow_made w #[] 0 (Nat.zero_le _) (by unfold maxLen; omega) rfl
theorem cloneb_any (xs:List Int) (A:Option Addr) (n c:Nat) (w:World) (hz:Sl w F .u8 A n xs) (hn:n≤1073741824) :
  Calls Tryd.prog 52 #[.slice A n c] w fun e w'=>∃ v,e = .returned v∧Fresh w v xs w':=by
 have q22:∀ (w:World) (a:Option Addr) (n c n' c':Nat),(binOp .eql 32 (.slice a n c) (.slice none n' c')).run Tryd.prog w = .ok (.bool a.isNone) w:=fun w a n c n' c'=>Lib.run_eql_slice_nil w _ _ a n c n' c' Tryd.underlying32
 have HZ:=Bx.mk hz
 have HL:=Bx.mk hz.len
 rcases A with _ | p
 ·have h0:n=0:=by
   rcases Nat.eq_zero_or_pos n with h | h
   ·exact h
   ·obtain⟨_,_,e,_⟩:=hz.2 h
    cases e
  subst h0
  obtain rfl:xs=[]:=List.eq_nil_of_length_eq_zero hz.len
  clear hz HZ
  go_enter Tryd.func52,Tryd.ntmps52
  go_wp2
  go_ret
  exact⟨_,rfl,World.ownsRow_nil _ _ _ _,fun g hg=>by simp[Value.ownBlock] at hg,Ch.refl _ _⟩
 ·have HF:Bx (Fresh w (.slice (some ⟨w.heap.size,0,none⟩) 0 0) [] (w.alloc (.cells #[] 5))):=⟨own_b0 w,fun g hg=>by simp[Value.ownBlock] at hg; omega,(Ch.refl _ _).alloc _⟩
  have HO:=Bx.mk (own_b0 w)
  have HZA:=Bx.mk (HZ.out.alloc (.cells #[] 5))
  clear hz
  go_enter Tryd.func52,Tryd.ntmps52
  go_wp2_with (at_builtin; refine wp_app rfl (.tmp 5) (.tmp 6) Tb rfl rfl HO.out rfl HZA.out ?c1 ?c2 ?c3 ?_)
  case c1=>exact ints_cells _ _
  case c2=>omega
  case c3=>omega
  intro v5 w5 ho hg hb
  have HF5:=Bx.mk (HF.out.app (m:=n) (zs:=xs) hg (by simpa using ho) (by rw[World.size_alloc]; exact hb))
  clear ho hg hb
  go_wp2
  go_ret
  exact⟨v5,rfl,HF5.out⟩
def NewOf (room:Int) (w:World) (e:Ending) (w':World):Prop :=
 ((room<0∨1073741824<room)∧e = .returned (.tuple #[.pointer none, .int .i64 1])∧Ch (fun _=>False) w w') ∨
 (0≤room∧room≤1073741824∧∃ S,e = .returned (.tuple #[pv w.heap.size, .int .i64 0])∧Pd w' S w.heap.size ⟨room.toNat,[],none⟩∧(∀ b,S b→w.heap.size≤b)∧Ch (fun _=>False) w w')
theorem fresh_disk (w:World) (n:Nat) (hn:n≤1073741824):Dsk (w.alloc (.cells #[.map none, .int .i64 (n:Int), .int .i64 0, .bool false, .int .i64 0] 59)) (fun b=>if b=w.heap.size then .dk else .no) w.heap.size none (fun _=>0) ⟨n,[],none⟩:=by
 have hb:(w.alloc (.cells #[.map none, .int .i64 (n:Int), .int .i64 0, .bool false, .int .i64 0] 59)).heap[w.heap.size]? = some (.cells #[.map none, .int .i64 (n:Int), .int .i64 0, .bool false, .int .i64 0] 59):=heap_alloc_new w _
 have hc:∀ j u,#[Value.map none, .int .i64 (n:Int), .int .i64 0, .bool false, .int .i64 0][j]? = some u→(w.alloc (.cells #[.map none, .int .i64 (n:Int), .int .i64 0, .bool false, .int .i64 0] 59)).cell? ⟨w.heap.size,j,none⟩=some u:=fun j u hu=>by
  unfold World.cell?
  rw[hb]
  exact hu
 refine⟨⟨Fine.nil,Nat.zero_le _,hn,Nat.zero_le _⟩,fun b hb=>?_,if_pos rfl,fun j=>?_,hc 0 _ rfl,hc 1 _ rfl,hc 2 _ rfl,⟨false,0,hc 3 _ rfl,hc 4 _ rfl,rfl⟩,fun _=>rfl,fun b hb=>(by cases hb),fun x hx=>(by simp at hx)⟩
 ·rw[World.size_alloc]
  by_cases h:b=w.heap.size
  ·omega
  ·simp[h] at hb
 ·unfold World.frozen?
  rw[hb]
  simp
theorem new_any (room:Int) (w:World) (hr : -9223372036854775808≤room∧room≤9223372036854775807):Calls Tryd.prog 9 #[.int .i64 room] w (NewOf room w):=by
 by_cases h0:room<0
 ·have HA:Bx (room<0∨1073741824<room):=⟨.inl h0⟩
  clear hr
  go_enter Tryd.func9,Tryd.ntmps9
  go_wp2
  go_ret2
  exact .inl ⟨HA.out,rfl,Ch.refl _ _⟩
 ·by_cases h1:1073741824<room
  ·have HA:Bx (room<0∨1073741824<room):=⟨.inr h1⟩
   clear hr
   go_enter Tryd.func9,Tryd.ntmps9
   go_wp2
   go_ret2
   exact .inl ⟨HA.out,rfl,Ch.refl _ _⟩
  ·obtain⟨n,rfl⟩:∃ n:Nat,room=(n:Int):=⟨room.toNat,by omega⟩
   have HF:=Bx.mk (fresh_disk w n (by omega))
   have HN:Bx (0≤(n:Int)∧(n:Int)≤1073741824):=⟨by omega⟩
   clear hr
   go_enter Tryd.func9,Tryd.ntmps9
   go_wp2
   go_ret2
   refine .inr ⟨HN.out.1,HN.out.2,_,rfl,HF.out.pd,fun b hb=>?_,(Ch.refl _ _).alloc _⟩
   by_cases h:b=w.heap.size
   ·omega
   ·exact absurd (if_neg h) hb
theorem Dsk.fused (h:Dsk w g d mb ad s) (n:Int) (hn:n≤9223372036854775807):Dsk ((w.setCell ⟨d,3,none⟩ (.bool (decide (0≤n)))).setCell ⟨d,4,none⟩ (.int .i64 n)) g d mb ad (opFuse s n)∧Ch (fun b=>b=d) w ((w.setCell ⟨d,3,none⟩ (.bool (decide (0≤n)))).setCell ⟨d,4,none⟩ (.int .i64 n)):=by
 have hc:=((Ch.refl (fun b=>b=d) w).setCell (p:=⟨d,3,none⟩) (.inl rfl) (.bool (decide (0≤n)))).setCell (p:=⟨d,4,none⟩) (.inl rfl) (.int .i64 n)
 obtain⟨fz,lf,c3,c4,hf⟩:=h.fuse
 refine⟨h.head hc rfl (h.ok.fuse n) (((set_off (by decide)).trans (set_off (by decide))).trans h.c0) (((set_off (by decide)).trans (set_off (by decide))).trans h.c1) (((set_off (by decide)).trans (set_off (by decide))).trans h.c2) (fun j=>(World.frozen?_setCell _ _ _ _).trans ((World.frozen?_setCell _ _ _ _).trans (h.zf j)))
  ((set_off (by decide)).trans (set_same c3)) (set_same ((set_off (by decide)).trans c4)) ?_,hc⟩
 show FuseIs (if n<0 then none else some n.toNat) _ _
 by_cases h0:n<0
 ·rw[if_pos h0]
  exact decide_eq_false (by omega)
 ·rw[if_neg h0]
  exact⟨decide_eq_true (by omega),by omega,by omega⟩
theorem fuse_any (h:Dsk w g d mb ad s) (n:Int) (hn:n≤9223372036854775807):Calls Tryd.prog 20 #[pv d, .int .i64 n] w fun e w'=>e = .returned (.tuple #[])∧Dsk w' g d mb ad (opFuse s n)∧Ch (fun b=>b=d) w w':=by
 have hp:pv d = .pointer (some ⟨d,0,none⟩):=rfl
 have HF:=Bx.mk (h.fused n hn)
 obtain⟨fz,lf,c3,c4,hf⟩:=h.fuse
 have z3:=h.zf 3
 have z4:=h.zf 4
 rw[hp]
 clear h hp hf hn
 go_enter Tryd.func20,Tryd.ntmps20
 go_wp2
 go_returns
 exact⟨rfl,HF.out.1,HF.out.2⟩
def ReadOf (o:Option (List Int)) (w:World) (e:Ending) (w':World):Prop :=
 (o=none∧e = .returned (.tuple #[.slice none 0 0, .int .i64 7])∧Ch (fun _=>False) w w')∨∃ bs v,o=some bs∧e = .returned (.tuple #[v, .int .i64 0])∧Fresh w v bs w'
theorem read_any (h:Dsk w g d mb ad s) (hk:k.length≤9223372036854775807):Calls Tryd.prog 27 #[pv d,kv k] w (ReadOf (opRead s k) w):=by
 have hp:pv d = .pointer (some ⟨d,0,none⟩):=rfl
 have H:=Bx.mk h
 have HKL:=Bx.mk hk
 obtain⟨S,hkv⟩:∃ S,kv k = .string S:=⟨_,rfl⟩
 have HKV:=Bx.mk hkv
 have c0:=h.c0
 rw[hp]
 rw[hkv]
 clear hp h hk hkv
 cases hf:fnd s.fs k with
 | none =>
  have hlk:=H.out.look_no hf (by unfold maxLen; exact HKL.out)
  rw[HKV.out] at hlk
  have HR:Bx (opRead s k=none):=⟨by unfold opRead; rw[hf]; rfl⟩
  clear hf
  go_enter Tryd.func27,Tryd.ntmps27
  go_wp2
  go_ret2
  exact .inl ⟨HR.out,rfl,Ch.refl _ _⟩
 | some x =>
  have HR:Bx (opRead s k=some x.bs):=⟨by unfold opRead; rw[hf]; rfl⟩
  obtain⟨hxm,hxn⟩:=fnd_some hf
  have hlk:=H.out.look_yes hf (by unfold maxLen; exact HKL.out)
  rw[HKV.out] at hlk
  have hF:=H.out.files x hxm
  rw[hxn] at hF
  obtain⟨v,b0,b1,ho,hr⟩:=hF.row
  obtain⟨A,c,rfl,h1,h2⟩:=own_shape ho
  have hq:x.bs.length≤1073741824:=by have:=used_at H.out.ok.fine.rise hxm; have:=H.out.ok.used; have:=H.out.ok.room; omega
  have HC:=Bx.mk (cloneb_any x.bs A x.bs.length c w (Sl.of_own ho) hq)
  obtain⟨q,hq2⟩:∃ q,x.bs.length=q:=⟨_,rfl⟩
  rw[hq2] at b0 HC
  obtain⟨a,ha⟩:∃ a,ad k=a:=⟨_,rfl⟩
  rw[ha] at b0 hlk
  clear hf hxm hxn hF ho hr h1 h2 hq hq2 b1 ha
  go_enter Tryd.func27,Tryd.ntmps27
  go_wp2_with fail
  refine HC.out.mono ?_
  rintro e w1 ⟨v,rfl,hv⟩
  go_wp2
  go_ret2
  exact .inr ⟨x.bs,v,HR.out,rfl,hv⟩
end
end
section
open Go.RowKit Go.Oct Go.Su Go.Dk Go.Maps
section
variable {w w':World} {g g':Nat→Tg} {d:Nat} {mb:Option Nat} {ad:Key→Nat} {s s':Ds} {F S:Nat→Prop} {x y:Fl} {k:Key}
def tag1 (g:Nat→Tg) (b:Nat) (t:Tg):Nat→Tg:=fun i=>if i=b then t else g i
theorem tag1_same (g:Nat→Tg) (b:Nat) (t:Tg):tag1 g b t b=t:=if_pos rfl
theorem tag1_other {g:Nat→Tg} {b i:Nat} {t:Tg} (h:i≠b):tag1 g b t i=g i:=if_neg h
theorem cell_alloc {w:World} {p:Addr} {u:Value} (h:w.cell? p=some u) (o:Obj):(w.alloc o).cell? p=some u:=((Ch.refl (fun _=>False) w).alloc o).cell (fun h=>h) h
theorem cells_at {w:World} {cs:Array Value} {e:TypeId} {j:Nat} {u:Value} (hu:cs[j]? = some u):(w.alloc (.cells cs e)).cell? ⟨w.heap.size,j,none⟩=some u:=by
 unfold World.cell?
 rw[heap_alloc_new]
 exact hu
theorem frozen_new {w:World} {cs:Array Value} {e:TypeId} (j:Nat):(w.alloc (.cells cs e)).frozen? ⟨w.heap.size,j,none⟩=false:=by
 unfold World.frozen?
 rw[heap_alloc_new]
 simp
theorem Dsk.mapped (h:Dsk w g d none ad s):Dsk ((w.alloc (.map #[] 0)).setCell ⟨d,0,none⟩ (.map (some w.heap.size))) (tag1 g w.heap.size .mp) d (some w.heap.size) ad s∧Dgo w g ((w.alloc (.map #[] 0)).setCell ⟨d,0,none⟩ (.map (some w.heap.size))) (tag1 g w.heap.size .mp):=by
 have hd:=h.lt_d
 have hfs:=h.none_ rfl
 have hne:d≠w.heap.size:=by omega
 have hca:=(Ch.refl (fun b=>b=d) w).alloc (.map #[] 0)
 have hc:=hca.setCell (p:=⟨d,0,none⟩) (.inl rfl) (.map (some w.heap.size))
 have ha:=h.keep ((Ch.refl (fun _=>False) w).alloc (.map #[] 0))
 have hsz:((w.alloc (.map #[] 0)).setCell ⟨d,0,none⟩ (.map (some w.heap.size))).heap.size=w.heap.size+1:=by simp[World.setCell]
 obtain⟨fz,lf,c3,c4,hf⟩:=ha.fuse
 refine⟨⟨h.ok,fun b hb=>?_,by rw[tag1_other hne]; exact h.tag,fun j=>(World.frozen?_setCell _ _ _ _).trans (ha.zf j),set_same ha.c0,(set_off (by decide)).trans ha.c1,(set_off (by decide)).trans ha.c2,⟨fz,lf,(set_off (by decide)).trans c3,(set_off (by decide)).trans c4,hf⟩,(fun e=>by cases e),fun b hb=>?_,fun x hx=>by rw[hfs] at hx; simp at hx⟩,hc.mono (fun i _ hi=>by rw[hi,h.tag]; exact fun e=>by cases e),fun b hb=>?_⟩
 ·rw[hsz]
  by_cases e:b=w.heap.size
  ·omega
  ·rw[tag1_other e] at hb
   have:=h.lt b hb
   omega
 ·injection hb with hb
  subst hb
  refine⟨tag1_same _ _ _,?_⟩
  rw[hfs]
  exact (World.ownsMap_made w _ _ heldR).setCell (a:=⟨d,0,none⟩) (by simpa using hne.symm) _
 ·by_cases e:b=w.heap.size
  ·exact .inr (by omega)
  ·rw[tag1_other e] at hb; exact .inl hb
theorem Dsk.added {b n:Nat} (h:Dsk w g d (some b) ad s) (hf:fnd s.fs k=none) (hk:okN k) (hl:s.fs.length<4096) (hc:Ch (fun i=>i=b) (w.alloc (.cells #[.slice none 0 0, .int .i64 0] 75)) w')
  (hm:w'.ownsMap Tryd.prog 9 heldR b n ((mapD s.fs ad).put (.string k) (.held (pv w.heap.size)))) :
  Dsk w' (tag1 g w.heap.size (.fl k)) d (some b) (at1 ad k w.heap.size) ⟨s.room,put s.fs ⟨k,[],0⟩,s.left⟩∧Dgo w g w' (tag1 g w.heap.size (.fl k)):=by
 obtain⟨hb,ho⟩:=h.some_ b rfl
 have hd:=h.lt_d
 have hbl:=ho.lt
 have hdb:d≠b:=fun e=>by have:=h.tag; rw[e,hb] at this; cases this
 have hne:d≠w.heap.size:=by omega
 have hbn:b≠w.heap.size:=by omega
 have ha:=h.keep ((Ch.refl (fun _=>False) w).alloc (.cells #[.slice none 0 0, .int .i64 0] 75))
 obtain⟨fz,lf,c3,c4,hfu⟩:=ha.fuse
 have hsz:w.heap.size+1≤w'.heap.size:=by have:=hc.size; rw[World.size_alloc] at this; exact this
 have hno:=fnd_none hf
 have hcell:∀ {i j:Nat} {u:Value},i≠b→(w.alloc (.cells #[.slice none 0 0, .int .i64 0] 75)).cell? ⟨i,j,none⟩=some u→w'.cell? ⟨i,j,none⟩=some u:=fun hi hu=>hc.cell (p:=⟨_,_,none⟩) hi hu
 have hfz:∀ {i:Nat} (j:Nat),i≠b→i<w.heap.size+1→w'.frozen? ⟨i,j,none⟩=(w.alloc (.cells #[.slice none 0 0, .int .i64 0] 75)).frozen? ⟨i,j,none⟩:=fun j hi hl=>hc.frozen (p:=⟨_,j,none⟩) hi (by rw[World.size_alloc]; exact hl)
 refine⟨⟨⟨h.ok.fine.put hk (Nat.le_refl _) (by simp),?_,h.ok.room,?_⟩,fun i hi=>?_,by rw[tag1_other hne]; exact h.tag,fun j=>?_,hcell hdb ha.c0,hcell hdb ha.c1,?_,⟨fz,lf,hcell hdb c3,hcell hdb c4,hfu⟩,(fun e=>by cases e),fun i hi=>?_,fun z hz=>?_⟩,?_,fun i hi=>?_⟩
 ·show used (put s.fs ⟨k,[],0⟩)≤s.room
  rw[used_put,del_no h.ok.fine.rise hno]
  exact h.ok.used
 ·show (put s.fs ⟨k,[],0⟩).length≤4096
  rw[len_put_new (g:=⟨k,[],0⟩) h.ok.fine.rise hno]
  omega
 ·by_cases e:i=w.heap.size
  ·omega
  ·rw[tag1_other e] at hi
   have:=h.lt i hi
   omega
 ·rw[hfz j hdb (by omega)]
  exact ha.zf j
 ·rw[hcell hdb ha.c2]
  show _=some (Value.int .i64 (used (put s.fs ⟨k,[],0⟩):Int))
  rw[used_put,del_no h.ok.fine.rise hno]
  rfl
 ·injection hi with hi
  subst hi
  refine⟨by rw[tag1_other hbn]; exact hb,?_⟩
  have h1:=own_tight hm
  have h2:=put_canon (f:=⟨k,[],0⟩) mapLaw h.ok.fine.rise hm
  have h3:((mapD s.fs ad).put (.string k) (.held (pv w.heap.size)))=mapD (put s.fs ⟨k,[],0⟩) (at1 ad k w.heap.size):=h2
  rw[h3,size_mapD] at h1
  exact h1
 ·rcases mem_put.1 hz with rfl | ⟨hz,hzn⟩
  ·have hat:at1 ad k w.heap.size k=w.heap.size:=if_pos rfl
   show Fil w' _ (at1 ad k w.heap.size k) _
   rw[hat]
   refine⟨tag1_same _ _ _,fun j=>?_, .slice none 0 0,hcell hbn.symm (cells_at (j:=0) rfl),hcell hbn.symm (cells_at (j:=1) rfl),World.ownsRow_nil _ _ _ _,fun r hr=>by simp[Value.ownBlock] at hr⟩
   rw[hfz j hbn.symm (by omega)]
   exact frozen_new j
  ·have hat:at1 ad k w.heap.size z.nm=ad z.nm:=if_neg hzn
   rw[hat]
   have hF:=h.files z hz
   refine (((hF.ch ((Ch.refl (fun _=>False) w).alloc (.cells #[.slice none 0 0, .int .i64 0] 75)) (fun _ _ h=>h)).ch hc fun i hi e=>?_).tags fun i hi=>?_)
   ·subst e
    rw[hb] at hi
    rcases hi with hi | hi <;> cases hi
   ·refine tag1_other fun e=>?_
    have:i<w.heap.size:=h.lt i (by rcases hi with e | e <;> rw[e] <;> exact fun e=>by cases e)
    omega
 ·refine ((Ch.refl (fun b=>g b ≠ .no) w).alloc _).trans hc fun i _ hi=>?_
  rw[hi,hb]
  exact fun e=>by cases e
 ·by_cases e:i=w.heap.size
  ·exact .inr (by omega)
  ·rw[tag1_other e] at hi; exact .inl hi
theorem run_eqlIn_map (d:Nat) (t k e:TypeId) (P:Program) (w:World) (m:Option Nat) (h:P.underlying t=some (.map k e)):(Op.equalIn (d+1) t (.map m) (.map none)).run P w = .ok m.isNone w:=by
 cases m <;> simp[Op.equalIn,run_underlying h]
theorem eql_map (w:World) (m:Option Nat):(binOp .eql 57 (.map m) (.map none)).run Tryd.prog w = .ok (.bool m.isNone) w:=by
 simp only[binOp]
 simp[Op.equal,Op.maxDepth,run_eqlIn_map 9999 _ _ _ _ w m mapT]
def AddOf (s:Ds) (k:Key) (d:Nat) (w:World) (g:Nat→Tg) (e:Ending) (w':World):Prop:=∃ g' b ad',e = .returned (pv (ad' k))∧Dsk w' g' d (some b) ad' ⟨s.room,put s.fs ⟨k,[],0⟩,s.left⟩∧Dgo w g w' g'
theorem add_any (h:Dsk w g d mb ad s) (hf:fnd s.fs k=none) (hk:okN k) (hl:s.fs.length<4096):Calls Tryd.prog 44 #[pv d,kv k] w (AddOf s k d w g):=by
 have hmm := @run_makeMap Tryd.prog
 have hp:pv d = .pointer (some ⟨d,0,none⟩):=rfl
 have H:=Bx.mk h
 have HK:=Bx.mk hk
 have HF:=Bx.mk hf
 have HL:=Bx.mk hl
 have hkey:keyOf Tryd.prog 9 (kv k)=some (.string k):=key_of (by unfold maxLen; have:=hk.2; omega)
 obtain⟨S,hkv⟩:∃ S,kv k = .string S:=⟨_,rfl⟩
 have c0:=h.c0
 have z0:=h.zf 0
 rw[hp]
 rw[hkv] at hkey ⊢
 have HKEY:=Bx.mk hkey
 clear hp h hk hkv hf hl hkey
 cases mb with
 | some b =>
  have ho:=(H.out.some_ b rfl).2
  have ho1:=ho.alloc (.cells #[.slice none 0 0, .int .i64 0] 75)
  obtain⟨w2,hup,ho2,hg2⟩:=ho1.update (val:=pv w.heap.size) (d := .held (pv w.heap.size)) (ps:=[]) mapLaw mapT (by have:=HL.out; unfold maxLen; omega) HKEY.out rfl
  have hem:=eql_map
  have hup':(Instr.mapUpdate 57 (.map (some b)) (.string S) (.pointer (some ⟨w.heap.size,0,none⟩))).run Tryd.prog (w.alloc (.cells #[.slice none 0 0, .int .i64 0] 75)) = .ok () w2:=hup
  have HC:Bx (Ch (fun i=>i=b) (w.alloc (.cells #[.slice none 0 0, .int .i64 0] 75)) w2):=⟨⟨hg2.os,hg2.tape,hg2.output,hg2.size,fun i hi hn=>hg2.block i hi (fun e=>hn (by injection e))⟩⟩
  have HA:=Bx.mk (H.out.added HF.out HK.out HL.out HC.out ho2)
  have c0a:=cell_alloc c0 (.cells #[.slice none 0 0, .int .i64 0] 75)
  clear ho ho1 hup ho2 hg2 HC
  go_enter Tryd.func44,Tryd.ntmps44
  go_wp2
  go_ret
  exact⟨_,b,at1 ad k w.heap.size,by rw[show at1 ad k w.heap.size k=w.heap.size from if_pos rfl]; rfl,HA.out.1,HA.out.2⟩
 | none =>
  obtain⟨hm,hgm⟩:=H.out.mapped
  obtain⟨w1,hw1⟩:∃ w1,(w.alloc (.map #[] 0)).setCell ⟨d,0,none⟩ (.map (some w.heap.size))=w1:=⟨_,rfl⟩
  rw[hw1] at hm hgm
  have ho:=(hm.some_ _ rfl).2
  have ho1:=ho.alloc (.cells #[.slice none 0 0, .int .i64 0] 75)
  obtain⟨w2,hup,ho2,hg2⟩:=ho1.update (val:=pv w1.heap.size) (d := .held (pv w1.heap.size)) (ps:=[]) mapLaw mapT (by have:=HL.out; unfold maxLen; omega) HKEY.out rfl
  have hem:=eql_map
  have hup':(Instr.mapUpdate 57 (.map (some w.heap.size)) (.string S) (.pointer (some ⟨w1.heap.size,0,none⟩))).run Tryd.prog (w1.alloc (.cells #[.slice none 0 0, .int .i64 0] 75)) = .ok () w2:=hup
  have HC:Bx (Ch (fun i=>i=w.heap.size) (w1.alloc (.cells #[.slice none 0 0, .int .i64 0] 75)) w2):=⟨⟨hg2.os,hg2.tape,hg2.output,hg2.size,fun i hi hn=>hg2.block i hi (fun e=>hn (by injection e))⟩⟩
  have HA:=Bx.mk (hm.added HF.out HK.out HL.out HC.out ho2)
  have HGM:=Bx.mk hgm
  have hs1:w1.heap.size=w.heap.size+1:=by rw[←hw1]; simp[World.setCell]
  rw[hs1] at hup' HA
  clear hs1
  have c0b:=cell_alloc hm.c0 (.cells #[.slice none 0 0, .int .i64 0] 75)
  have hzz:(w.alloc (.map #[] 0)).frozen? ⟨d,0,none⟩=false:=by rw[((Ch.refl (fun _=>False) w).alloc (.map #[] 0)).frozen (p:=⟨d,0,none⟩) (fun h=>h) H.out.lt_d]; exact z0
  have c00:=cell_alloc c0 (.map #[] 0)
  subst hw1
  clear ho ho1 hup ho2 hg2 HC hm hgm
  go_enter Tryd.func44,Tryd.ntmps44
  go_wp2
  go_ret
  exact⟨_,w.heap.size,at1 ad k (w.heap.size+1),by rw[show at1 ad k (w.heap.size+1) k=w.heap.size+1 from if_pos rfl]; rfl,HA.out.1,HGM.out.trans HA.out.2⟩
end
end
section
open Go.RowKit Go.Oct Go.Su Go.Dk Go.Maps
section
variable {w w':World} {g g':Nat→Tg} {d:Nat} {mb:Option Nat} {ad:Key→Nat} {s s':Ds} {F S:Nat→Prop} {x y:Fl} {k:Key}
theorem fits_any (xss:List (List Int)) (A:Option Addr) (n c:Nat) (h:Dsk w g d mb ad s) (hz:Sls w F A n xss) (hn:n≤140737488355328) :
  Calls Tryd.prog 43 #[pv d, .slice A n c] w fun e w'=>e = .returned (.bool (decide (used s.fs+(cat xss).length≤s.room)))∧Ch (fun _=>False) w w':=by
 have hp:pv d = .pointer (some ⟨d,0,none⟩):=rfl
 have c1:=h.c1
 have c2:=h.c2
 have hu:=h.ok.used
 have hr:=h.ok.room
 obtain⟨u,hue⟩:∃ u,used s.fs=u:=⟨_,rfl⟩
 obtain⟨r,hre⟩:∃ r,s.room=r:=⟨_,rfl⟩
 rw[hue] at c2 hu ⊢
 rw[hre] at c1 hu hr ⊢
 obtain⟨q,hq⟩:∃ q,r-u=q:=⟨_,rfl⟩
 have i1:(r:Int)-(u:Int)=(q:Int):=by omega
 have hq2:q≤1073741824:=by omega
 have HQ:Bx (∀ m,decide (u+m≤r)=decide (m≤q)):=⟨fun m=>by rw[decide_eq_decide]; omega⟩
 have HZ:=Bx.mk hz
 have HL:=Bx.mk hz.len
 rw[HQ.out,hp]
 clear hz hp hue hre h hu hr hq
 go_enter Tryd.func43,Tryd.ntmps43
 go_wp2_with fail
 have i2:IntKind.i64.wrap (q:Int)=(q:Int):=IntWalk.i64_in _ (by omega)
 go_quiet (fail)
 clear i2
 go_wp2_with fail
 go_loopw [5,7,19] (fun f _ i wr=>∃ k m:Nat,k≤n∧i = .int .i64 k∧m≤q∧f = .int .i64 ((q-m:Nat):Int)∧Bx ((cat (xss.take k)).length=m)∧Ch (fun _=>False) w wr) (fun _ _ i _=>n-(intOf i).toNat)
 case atStart=>exact⟨0,0,Nat.zero_le _,rfl,Nat.zero_le _,rfl,⟨rfl⟩,⟨rfl,rfl,rfl,Nat.le_refl _,fun _ _ _=>rfl⟩⟩
 case round =>
  obtain⟨k,m,hk,rfl,hm,rfl,hT,hC⟩:=hrel
  obtain⟨f,hf⟩:∃ f,q-m=f:=⟨_,rfl⟩
  rw[hf]
  obtain⟨wo,rfl⟩:∃ wo:World,wo=wr:=⟨_,rfl⟩
  by_cases hlt:k<n
  ·have dk:decide ((k:Int)<(n:Int))=true:=decide_eq_true (by omega)
   have i3:(k:Int)<(n:Int):=by omega
   obtain⟨bt,ot,A',c',t,rfl,_,ht,hcell,_,htc,htm⟩:=(HZ.out.ch hC (fun _ _ _ h=>h)).at_ hlt
   have HTX:=Bx.mk ht.out
   have HCM:=Bx.mk (cat_more ht.out)
   have HRM:=Bx.mk (cat_room ht.out)
   obtain⟨tl,htl⟩:∃ tl,t.length=tl:=⟨_,rfl⟩
   have HTL:=Bx.mk htl
   have htl9:tl≤9223372036854775807:=by unfold maxLen at htm; omega
   rw[htl] at hcell
   have HC:=Bx.mk hC
   clear ht htl htc htm hC
   by_cases hbig:f<tl
   ·have i4:decide ((f:Int)<(tl:Int))=true:=decide_eq_true (by omega)
    have i4':decide (f<tl)=true:=decide_eq_true hbig
    have HV:Bx (decide ((cat xss).length≤q)=false):=⟨decide_eq_false (by have:=HRM.out; have:=hT.out; have:=HTL.out; omega)⟩
    clear hbig hf
    go_wp2
    go_ret
    exact⟨ret_bool HV.out.symm,HC.out⟩
   ·have i4:decide ((f:Int)<(tl:Int))=false:=decide_eq_false (by omega)
    have i4':decide (f<tl)=false:=decide_eq_false hbig
    obtain⟨f2,hf2⟩:∃ f2,f-tl=f2:=⟨_,rfl⟩
    have i5:(f:Int)-(tl:Int)=(f2:Int):=by omega
    have hfb:f2≤1073741824:=by omega
    have HR:Bx (m+tl≤q∧q-(m+tl)=f2∧(cat (xss.take (k+1))).length=m+tl):=⟨by omega,by omega,by rw[HCM.out,List.length_append,hT.out,HTL.out]⟩
    clear hbig hf hf2
    have i6:wrap64 ((f:Int)-(tl:Int))=(f2:Int):=by rw[i5]; exact w64_of (by omega)
    go_wp2
    clear i6
    go_roundw
    case rel=>exact⟨k+1,m+tl,by omega,by go_num,HR.out.1,by rw[HR.out.2.1],⟨HR.out.2.2⟩,HC.out⟩
    case measure=>simp[intOf]; omega
  ·obtain rfl:n=k:=by omega
   have dk:decide ((n:Int)<(n:Int))=false:=decide_eq_false (by omega)
   have HV:Bx (decide ((cat xss).length≤q)=true):=⟨decide_eq_true (by have:=hT.out; rw[List.take_of_length_le (by rw[HL.out]; exact Nat.le_refl _)] at this; omega)⟩
   have HC:=Bx.mk hC
   clear hC hf
   go_wp2
   go_ret
   exact⟨ret_bool HV.out.symm,HC.out⟩
end
end
section
open Go.RowKit Go.Oct Go.Su Go.Dk Go.Maps
section
variable {w w':World} {g g':Nat→Tg} {d:Nat} {mb:Option Nat} {ad:Key→Nat} {s s':Ds} {F S:Nat→Prop} {x y:Fl} {k:Key}
theorem lo_put (fs:Fs) (f:Fl):lo (put fs f) f.nm=lo fs f.nm:=by
 show (lo fs f.nm++f::hi fs f.nm).filter _=lo fs f.nm
 rw[List.filter_append,List.filter_cons_of_neg (by simp[key_irrefl]),List.filter_eq_self.2 (fun z hz=>by simpa using (mem_lo.1 hz).2),List.filter_eq_nil_iff.2 (fun z hz=>by simpa using key_le_of_lt (mem_hi.1 hz).2),List.append_nil]
theorem hi_put (fs:Fs) (f:Fl):hi (put fs f) f.nm=hi fs f.nm:=by
 show (lo fs f.nm++f::hi fs f.nm).filter _=hi fs f.nm
 rw[List.filter_append,List.filter_cons_of_neg (by simp[key_irrefl]),List.filter_eq_nil_iff.2 (fun z hz=>by simpa using key_le_of_lt (mem_lo.1 hz).2),List.filter_eq_self.2 (fun z hz=>by simpa using (mem_hi.1 hz).2),List.nil_append]
theorem put_put (fs:Fs) {f h:Fl} (e:h.nm=f.nm):put (put fs f) h=put fs h:=by
 show lo (put fs f) h.nm++h::hi (put fs f) h.nm=lo fs h.nm++h::hi fs h.nm
 rw[e,lo_put,hi_put]
theorem put_self {fs:Fs} (h:Rise (nms fs)) (hx:x∈fs):put fs x=fs:=(split_at h hx).symm
def addF (x:Fl) (b:List Int):Fl:=⟨x.nm,x.bs++b,x.la⟩
theorem used_add {fs:Fs} (h:Rise (nms fs)) (hx:x∈fs) (b:List Int):used (put fs (addF x b))=used fs+b.length:=by
 have e1:=used_put fs (addF x b)
 have e2:=used_at h hx
 have e3:(addF x b).bs.length=x.bs.length+b.length:=List.length_append
 have e4:del fs (addF x b).nm=del fs x.nm:=rfl
 rw[e1,e3,e4]
 omega
theorem Dsk.more {w1:World} {v v':Value} {b:List Int} (h:Dsk w g d mb ad s) (hx:x∈s.fs) (hroom:used s.fs+b.length≤s.room) (hb:∀ z∈b,0≤z∧z<256) (c0:w.cell? ⟨ad x.nm,0,none⟩=some v) (ho:w1.ownsRow 0 5 1 v' (x.bs.length+b.length) (x.bs.map (Value.int .u8)++b.map (Value.int .u8)))
  (hg:w.grownBy w1 v.ownBlock) (hv:v'.ownBlock=v.ownBlock∨v'.ownBlock=some w.heap.size) :
  ∃ g',Dsk ((w1.setCell ⟨ad x.nm,0,none⟩ v').setCell ⟨d,2,none⟩ (.int .i64 ((used s.fs+b.length:Nat):Int))) g' d mb ad ⟨s.room,put s.fs (addF x b),s.left⟩∧Dgo w g ((w1.setCell ⟨ad x.nm,0,none⟩ v').setCell ⟨d,2,none⟩ (.int .i64 ((used s.fs+b.length:Nat):Int))) g':=by
 have hF:=h.files x hx
 obtain⟨v0,b0,b1,ho0,hr⟩:=hF.row
 obtain rfl:v=v0:=by rw[b0] at c0; injection c0 with c0; exact c0.symm
 obtain⟨fz,lf,c3,c4,hf⟩:=h.fuse
 have hne:ad x.nm≠d:=fun e=>by have:=hF.tag; rw[e,h.tag] at this; cases this
 have hva:v.ownBlock≠some (ad x.nm):=fun e=>by have:=hr _ e; rw[hF.tag] at this; cases this
 have hvd:v.ownBlock≠some d:=fun e=>by have:=hr _ e; rw[h.tag] at this; cases this
 have hvl:∀ r,v.ownBlock=some r→r<w.heap.size:=fun r e=>h.lt r (by rw[hr r e]; exact fun e=>by cases e)
 have hc1:Ch (fun i=>v.ownBlock=some i) w w1:=(Ch.refl _ w).grown hg (fun i hi => .inl hi)
 have hlt1:∀ r,v'.ownBlock=some r→r<w1.heap.size:=fun r e=>own_lt ho r e
 have hv2:∀ r,v'.ownBlock=some r→r≠ad x.nm∧r≠d:=fun r e=>by
  rcases hv with hv | hv
  ·rw[hv] at e
   exact⟨fun e2=>hva (e2 ▸ e),fun e2=>hvd (e2 ▸ e)⟩
  ·rw[hv] at e
   injection e with e
   have h1:=hF.lt
   have h2:=h.lt_d
   exact⟨by omega,by omega⟩
 have hc2:=((Ch.refl (fun i=>i=d∨i=ad x.nm) w1).setCell (p:=⟨ad x.nm,0,none⟩) (.inl (.inr rfl)) v').setCell (p:=⟨d,2,none⟩) (.inl (.inl rfl)) (.int .i64 ((used s.fs+b.length:Nat):Int))
 have hc:Ch (fun i=>i=d∨g i = .fl x.nm∨g i = .rw x.nm) w ((w1.setCell ⟨ad x.nm,0,none⟩ v').setCell ⟨d,2,none⟩ (.int .i64 ((used s.fs+b.length:Nat):Int))):=by
  refine (hc1.mono fun i _ hi => .inr (.inr (hr i hi))).trans hc2 fun i _ hi=>?_
  rcases hi with hi | hi
  ·exact .inl hi
  ·rw[hi]; exact .inr (.inl hF.tag)
 have hsz:((w1.setCell ⟨ad x.nm,0,none⟩ v').setCell ⟨d,2,none⟩ (.int .i64 ((used s.fs+b.length:Nat):Int))).heap.size=w1.heap.size:=by simp[World.setCell]
 refine⟨fun i=>if v'.ownBlock=some i then .rw x.nm else g i,h.turn hx (y:=addF x b) rfl (fun i=>?_) hc (fun i hi=>?_) ⟨?_,fun j=>?_,v',?_,?_,?_,fun r hr2=>if_pos hr2⟩ rfl ⟨h.ok.fine.put (h.ok.fine.ok x hx) ?_ ?_,?_,h.ok.room,?_⟩ ?_ ?_ ?_ (fun j=>?_) (fz:=fz) (lf:=lf) ?_ ?_ hf,⟨hc.mono fun i _ hi=>?_,fun i hi=>?_⟩⟩
 ·by_cases e:v'.ownBlock=some i
  ·refine .inr ⟨?_, .inr (if_pos e)⟩
   rcases hv with hv | hv
   ·rw[hv] at e; exact .inl (hr i e)
   ·rw[hv] at e; injection e with e; exact .inr (by omega)
  ·exact .inl (if_neg e)
 ·rw[hsz]
  by_cases e:v'.ownBlock=some i
  ·exact hlt1 i e
  ·have hi2:g i ≠ .no:=fun e2=>hi ((if_neg e).trans e2)
   exact Nat.lt_of_lt_of_le (h.lt i hi2) hc1.size
 ·exact (if_neg (fun e=>(hv2 _ e).1 rfl)).trans hF.tag
 ·exact (World.frozen?_setCell _ _ _ _).trans ((World.frozen?_setCell _ _ _ _).trans ((hc1.frozen (p:=⟨ad x.nm,j,none⟩) hva hF.lt).trans (hF.zf j)))
 ·exact (set_far hne.symm).trans (set_same (hc1.cell (p:=⟨ad x.nm,0,none⟩) hva b0))
 ·exact (set_far hne.symm).trans ((set_off (by decide)).trans (hc1.cell (p:=⟨ad x.nm,1,none⟩) hva b1))
 ·rw[show (addF x b).bs=x.bs++b from rfl,List.map_append,List.length_append]
  exact hc2.own ho (fun r e hi=>by
   obtain⟨e1,e2⟩:=hv2 r e
   rcases hi with hi | hi
   ·exact e2 hi
   ·exact e1 hi)
 ·show x.la≤(x.bs++b).length
  rw[List.length_append]
  have:=h.ok.fine.la x hx
  omega
 ·intro z hz
  rcases List.mem_append.1 hz with hz | hz
  ·exact h.ok.fine.byte x hx z hz
  ·exact hb z hz
 ·show used (put s.fs (addF x b))≤s.room
  rw[used_add h.ok.fine.rise hx]
  exact hroom
 ·show (put s.fs (addF x b)).length≤4096
  rw[len_put_old (g:=addF x b) h.ok.fine.rise hx rfl]
  exact h.ok.most
 ·exact (set_off (by decide)).trans ((set_far hne).trans (hc1.cell (p:=⟨d,0,none⟩) hvd h.c0))
 ·exact (set_off (by decide)).trans ((set_far hne).trans (hc1.cell (p:=⟨d,1,none⟩) hvd h.c1))
 ·rw[show (Ds.mk s.room (put s.fs (addF x b)) s.left).fs=put s.fs (addF x b) from rfl,used_add h.ok.fine.rise hx]
  exact set_same ((set_far hne).trans (hc1.cell (p:=⟨d,2,none⟩) hvd h.c2))
 ·exact (World.frozen?_setCell _ _ _ _).trans ((World.frozen?_setCell _ _ _ _).trans ((hc1.frozen (p:=⟨d,j,none⟩) hvd h.lt_d).trans (h.zf j)))
 ·exact (set_off (by decide)).trans ((set_far hne).trans (hc1.cell (p:=⟨d,3,none⟩) hvd c3))
 ·exact (set_off (by decide)).trans ((set_far hne).trans (hc1.cell (p:=⟨d,4,none⟩) hvd c4))
 ·rcases hi with hi | hi | hi
  ·rw[hi,h.tag]; exact fun e=>by cases e
  ·rw[hi]; exact fun e=>by cases e
  ·rw[hi]; exact fun e=>by cases e
 ·by_cases e:v'.ownBlock=some i
  ·rcases hv with hv | hv
   ·rw[hv] at e; exact .inl (by rw[hr i e]; exact fun e=>by cases e)
   ·rw[hv] at e; injection e with e; exact .inr (by omega)
  ·exact .inl (fun e2=>hi ((if_neg e).trans e2))
structure AppLoop (w:World) (g:Nat→Tg) (s:Ds) (d:Nat) (mb:Option Nat) (ad:Key→Nat) (s1:Ds) (x:Fl) (xss:List (List Int)) (j:Nat) (wr:World) (g':Nat→Tg):Prop where
 dsk:Dsk wr g' d mb ad ⟨s1.room,put s1.fs (addF x (cat (xss.take j))),s1.left⟩
 go:Dgo w g wr g'
 mem:x∈s1.fs
 ok:DsOk s1
 room:used s1.fs+(cat xss).length≤s1.room
theorem AppLoop.start {w w1:World} {g g1:Nat→Tg} {s s1:Ds} {d:Nat} {mb:Option Nat} {ad:Key→Nat} {x:Fl} {xss:List (List Int)} (h:Dsk w1 g1 d mb ad s1) (hg:Dgo w g w1 g1) (hx:x∈s1.fs) (hr:used s1.fs+(cat xss).length≤s1.room):AppLoop w g s d mb ad s1 x xss 0 w1 g1:=by
 have e:addF x (cat (xss.take 0))=x:=by unfold addF; simp[cat]
 refine⟨?_,hg,hx,h.ok,hr⟩
 rw[e,put_self h.ok.fine.rise hx]
 exact h
theorem AppLoop.step {w wr:World} {g g':Nat→Tg} {s s1:Ds} {d a:Nat} {mb:Option Nat} {ad:Key→Nat} {x:Fl} {xss:List (List Int)} {j:Nat} {t:List Int} (h:AppLoop w g s d mb ad s1 x xss j wr g') (ht:xss[j]? = some t) (hby:∀ z∈t,0≤z∧z<256) (ha:ad x.nm=a) :
  (∃ A c q u,wr.cell? ⟨a,0,none⟩=some (.slice A q c)∧wr.ownsRow 0 5 1 (.slice A q c) q ((x.bs++cat (xss.take j)).map (Value.int .u8))∧wr.frozen? ⟨a,0,none⟩=false∧wr.cell? ⟨d,2,none⟩=some (.int .i64 (u:Nat))∧wr.frozen? ⟨d,2,none⟩=false∧q+t.length≤1073741824∧u+t.length≤1073741824) ∧
  (∀ A c q u,wr.cell? ⟨a,0,none⟩=some (.slice A q c)→wr.ownsRow 0 5 1 (.slice A q c) q ((x.bs++cat (xss.take j)).map (Value.int .u8))→wr.cell? ⟨d,2,none⟩=some (.int .i64 (u:Nat))→∀ A1 c1 (w1:World),w1.ownsRow 0 5 1 (.slice A1 (q+t.length) c1) (q+t.length) ((x.bs++cat (xss.take j)).map (Value.int .u8)++t.map (Value.int .u8))→wr.grownBy w1 (Value.slice A q c).ownBlock→((Value.slice A1 (q+t.length) c1).ownBlock=(Value.slice A q c).ownBlock∨(Value.slice A1 (q+t.length) c1).ownBlock=some wr.heap.size) →
   w1.cell? ⟨a,0,none⟩=some (.slice A q c)∧w1.frozen? ⟨a,0,none⟩=false∧w1.cell? ⟨d,2,none⟩=some (.int .i64 (u:Nat))∧w1.frozen? ⟨d,2,none⟩=false ∧
   ∃ g2,AppLoop w g s d mb ad s1 x xss (j+1) ((w1.setCell ⟨a,0,none⟩ (.slice A1 (q+t.length) c1)).setCell ⟨d,2,none⟩ (.int .i64 ((u+t.length:Nat):Int))) g2):=by
 have hy:addF x (cat (xss.take j))∈put s1.fs (addF x (cat (xss.take j))):=mem_put.2 (.inl rfl)
 have hF:=h.dsk.files _ hy
 have hnm:(addF x (cat (xss.take j))).nm=x.nm:=rfl
 have hbs:(addF x (cat (xss.take j))).bs=x.bs++cat (xss.take j):=rfl
 have hu1:used (put s1.fs (addF x (cat (xss.take j))))=used s1.fs+(cat (xss.take j)).length:=used_add h.ok.fine.rise h.mem _
 have hcr:=cat_room ht
 have hro:=h.room
 have hr30:=h.ok.room
 have huse:used (put s1.fs (addF x (cat (xss.take j))))+t.length≤s1.room:=by omega
 rw[hnm,ha] at hF
 obtain⟨v,b0,b1,ho,hr⟩:=hF.row
 rw[hbs] at ho
 have hql:(x.bs++cat (xss.take j)).length≤used (put s1.fs (addF x (cat (xss.take j)))):=by
  have:=used_at h.dsk.ok.fine.rise hy
  rw[hbs] at this
  show _≤used (put s1.fs (addF x (cat (xss.take j))))
  have e:used (Ds.mk s1.room (put s1.fs (addF x (cat (xss.take j)))) s1.left).fs=used (put s1.fs (addF x (cat (xss.take j)))):=rfl
  omega
 constructor
 ·obtain⟨A,c,rfl,h1,h2⟩:=own_shape ho
  exact⟨A,c,_,_,b0,ho,hF.zf 0,h.dsk.c2,h.dsk.zf 2,by omega,Nat.le_trans huse hr30⟩
 ·intro A c q u k0 ko ku A1 c1 w1 ho1 hg1 hb1
  have hu:u=used (put s1.fs (addF x (cat (xss.take j)))):=by
   have:=h.dsk.c2.symm.trans ku
   injection this with this
   injection this with _ this
   exact (Int.ofNat.inj this).symm
  have hq:q=(x.bs++cat (xss.take j)).length:=by have:=ko.1; simpa using this.symm
  subst hu
  have hva:v = .slice A q c:=by rw[k0] at b0; injection b0 with b0; exact b0.symm
  have hlt:(Value.slice A q c).ownBlock≠some a:=fun e=>by have:=hr _ (hva ▸ e); rw[hF.tag] at this; cases this
  have hld:(Value.slice A q c).ownBlock≠some d:=fun e=>by have:=hr _ (hva ▸ e); rw[h.dsk.tag] at this; cases this
  have hc1:Ch (fun i=>(Value.slice A q c).ownBlock=some i) wr w1:=(Ch.refl _ wr).grown hg1 (fun i hi => .inl hi)
  refine⟨hc1.cell (p:=⟨a,0,none⟩) hlt k0,(hc1.frozen (p:=⟨a,0,none⟩) hlt hF.lt).trans (hF.zf 0),hc1.cell (p:=⟨d,2,none⟩) hld ku,(hc1.frozen (p:=⟨d,2,none⟩) hld h.dsk.lt_d).trans (h.dsk.zf 2),?_⟩
  have hm:=h.dsk.more (x:=addF x (cat (xss.take j))) (b:=t) (v := .slice A q c) (v' := .slice A1 (q+t.length) c1) (w1:=w1) hy huse hby (by rw[hnm,ha]; exact k0) (by rw[hbs,←hq]; exact ho1) hg1 hb1
  obtain⟨g2,hd2,hg2⟩:=hm
  rw[hnm,ha] at hd2 hg2
  have e3:put (put s1.fs (addF x (cat (xss.take j)))) (addF (addF x (cat (xss.take j))) t)=put s1.fs (addF x (cat (xss.take (j+1)))):=by
   rw[put_put _ (by rfl)]
   congr 1
   unfold addF
   simp only[cat_more ht,List.append_assoc]
  refine⟨g2,⟨?_,h.go.trans hg2,h.mem,h.ok,h.room⟩⟩
  have hd3:Dsk _ g2 d mb ad ⟨s1.room,put (put s1.fs (addF x (cat (xss.take j)))) (addF (addF x (cat (xss.take j))) t),s1.left⟩:=hd2
  rw[e3] at hd3
  exact hd3
theorem len_map (h:Dsk w g d mb ad s):(Builtin.len_ #[57] 3 #[.map mb]).run Tryd.prog w = .ok (.int .i64 (s.fs.length:Int)) w:=by
 cases mb with
 | none=>rw[h.none_ rfl]; exact Maps.len_nil mapT _
 | some b =>
  have:=((h.some_ b rfl).2).len mapT 3
  rw[size_mapD] at this
  exact this
end
end
section
open Go.RowKit Go.Oct Go.Su Go.Dk Go.Maps
section
variable {w w':World} {g g':Nat→Tg} {d:Nat} {mb:Option Nat} {ad:Key→Nat} {s s':Ds} {F S:Nat→Prop} {x y:Fl} {k:Key}
theorem app_err (h:may s k≠0) (b:List Int):opApp s k b=(may s k,s):=by unfold opApp; rw[if_pos h]
theorem app_full (h:may s k=0) {b:List Int} (hr:¬ Room s k b.length):opApp s k b=(6,s):=by unfold opApp; rw[if_neg (by simp[h]),if_neg hr]
theorem app_ok (h:may s k=0) {b:List Int} (hr:Room s k b.length):opApp s k b=(0,⟨s.room,put s.fs (grow (fnd s.fs k) k b),tick s.left⟩):=by unfold opApp; rw[if_neg (by simp[h]),if_pos hr]
theorem append_any {A:Option Addr} {n c:Nat} {xss:List (List Int)} (h:Dsk w g d mb ad s) (hk:k.length≤9223372036854775807) (hz:Sls w F A n xss) (hF:∀ b,F b→g b = .no) (hn:n≤140737488355328) (hby:∀ xs∈xss,∀ z∈xs,0≤z∧z<256) :
  Calls Tryd.prog 22 #[pv d,kv k, .slice A n c] w (Post (opApp s k (cat xss)) d w g):=by
 have hp:pv d = .pointer (some ⟨d,0,none⟩):=rfl
 have HM:=Bx.mk (may1_any h hk)
 have H:=Bx.mk h
 have HKL:=Bx.mk hk
 have HZ:=Bx.mk hz
 have HL:=Bx.mk hz.len
 have HF:=Bx.mk hF
 have HBY:=Bx.mk hby
 have HFI:Bx (∀ w1,Ch (fun _=>False) w w1→Calls Tryd.prog 43 #[pv d, .slice A n c] w1 fun e w'=>e = .returned (.bool (decide (used s.fs+(cat xss).length≤s.room)))∧Ch (fun _=>False) w1 w'):=⟨fun w1 hc=>fits_any xss A n c (h.keep hc) (hz.ch hc (fun _ _ _ h=>h)) hn⟩
 have HAD:Bx (∀ w1,Ch (fun _=>False) w w1→fnd s.fs k=none→okN k→s.fs.length<4096→Calls Tryd.prog 44 #[pv d,kv k] w1 (AddOf s k d w1 g)):=⟨fun w1 hc h1 h2 h3=>add_any (h.keep hc) h1 h2 h3⟩
 obtain⟨S,hkv⟩:∃ S,kv k = .string S:=⟨_,rfl⟩
 obtain⟨m,hm⟩:∃ m,may s k=m:=⟨_,rfl⟩
 obtain⟨fb,hfb⟩:∃ fb,decide (used s.fs+(cat xss).length≤s.room)=fb:=⟨_,rfl⟩
 have HKV:=Bx.mk hkv
 rw[hp] at HM HFI HAD ⊢
 rw[hkv] at HM HAD ⊢
 rw[hm] at HM
 rw[hfb] at HFI
 clear hp h hk hkv hz hF hby
 by_cases h0:m=0
 ·subst h0
  have HMY:=Bx.mk hm
  have HLN:=Bx.mk H.out.ok.most
  clear hm
  obtain⟨fl,hfl⟩:∃ fl,s.fs.length=fl:=⟨_,rfl⟩
  cases hf:fnd s.fs k with
  | none =>
   have HFN:=Bx.mk hf
   clear hf
   by_cases hroom:fb=true∧fl<4096
   ·obtain⟨rfl,hfl4⟩:=hroom
    have HRM:Bx (Room s k (cat xss).length):=⟨of_decide_eq_true hfb,fun _=>by omega⟩
    have HR:=Bx.mk (app_ok HMY.out HRM.out)
    have i4:decide ((4096:Int)≤(fl:Int))=false:=decide_eq_false (by omega)
    have i4':decide (4096≤fl)=false:=decide_eq_false (by omega)
    have HFL:=Bx.mk hfl
    clear hfb hfl
    go_enter Tryd.func22,Tryd.ntmps22
    go_wp2_with fail
    refine HM.out.mono ?_
    rintro e w1 ⟨rfl,hc1⟩
    have H1:=Bx.mk (H.out.keep hc1)
    have hlk:=H1.out.look_no HFN.out (by unfold maxLen; exact HKL.out)
    have c0:=H1.out.c0
    rw[HKV.out] at hlk
    have HC1:=Bx.mk hc1
    have HFI1:=Bx.mk (HFI.out w1 hc1)
    clear hc1 HM HFI
    go_wp2_with fail
    refine HFI1.out.mono ?_
    rintro e w2 ⟨rfl,hc2⟩
    have hc12:=HC1.out.trans hc2 (fun _ _ h=>h)
    have H2:=Bx.mk (H.out.keep hc12)
    have hln:=len_map H2.out
    rw[HFL.out] at hln
    have c0:=H2.out.c0
    have HC2:=Bx.mk hc12
    have HAD2:=Bx.mk (HAD.out w2 hc12 HFN.out (may_ok HMY.out).2 (by have:=HFL.out; omega))
    clear hc2 hc12 hlk HFI1 H1 HC1 HAD
    go_wp2_with fail
    refine HAD2.out.mono ?_
    rintro e w3 ⟨g1,b1,ad1,rfl,hd1,hg1⟩
    obtain⟨s1,hs1⟩:∃ s1:Ds,s1=⟨s.room,put s.fs ⟨k,[],0⟩,s.left⟩:=⟨_,rfl⟩
    obtain⟨x,hx⟩:∃ x:Fl,x=⟨k,[],0⟩:=⟨_,rfl⟩
    have HB:Bx (AppLoop w g s d (some b1) ad1 s1 x xss 0 w3 g1):=⟨AppLoop.start (by rw[hs1]; exact hd1) ((Dgo.quiet HC2.out).trans hg1) (by rw[hs1,hx]; exact mem_put.2 (.inl rfl)) (by
     rw[hs1]
     show used (put s.fs ⟨k,[],0⟩)+_≤s.room
     rw[used_put,del_no H.out.ok.fine.rise (fnd_none HFN.out)]
     exact HRM.out.1)⟩
    have HX:Bx (s1.left=s.left∧∀ b,(⟨s1.room,put s1.fs (addF x b),tick s1.left⟩:Ds)=⟨s.room,put s.fs (grow (fnd s.fs k) k b),tick s.left⟩):=⟨by rw[hs1],fun b=>by
     rw[hs1,hx,HFN.out]
     show Ds.mk s.room (put (put s.fs ⟨k,[],0⟩) (addF ⟨k,[],0⟩ b)) _=_
     rw[put_put _ (by rfl)]
     rfl⟩
    have hxk:x.nm=k:=by rw[hx]
    obtain⟨a,ha⟩:∃ a,ad1 k=a:=⟨_,rfl⟩
    have HA:Bx (ad1 x.nm=a):=⟨by rw[hxk]; exact ha⟩
    have hpa:pv (ad1 k) = .pointer (some ⟨a,0,none⟩):=by rw[ha]; rfl
    rw[hpa]
    clear hd1 hg1 hs1 hx hxk ha hpa HAD2 hln c0 H2
    go_wp2_with fail
    go_loopw [11,51] (fun _ i wr=>∃ (j:Nat) (g':Nat→Tg),j≤n∧i = .int .i64 j∧Bx (AppLoop w g s d (some b1) ad1 s1 x xss j wr g')) (fun _ i _=>n-(intOf i).toNat)
    case atStart=>exact⟨0,g1,Nat.zero_le _,rfl,HB⟩
    case round =>
     obtain⟨j,g',hj,rfl,hR⟩:=hrel
     obtain⟨wo,rfl⟩:∃ wo:World,wo=wr:=⟨_,rfl⟩
     by_cases hlt:j<n
     ·have dk:decide ((j:Int)<(n:Int))=true:=decide_eq_true (by omega)
      have i3:(j:Int)<(n:Int):=by omega
      obtain⟨bt,ot,A',c',t,rfl,_,ht,hcell,hts,htc,htm⟩:=(HZ.out.ch hR.out.go.ch (fun b hb _ hs=>hs (HF.out b hb))).at_ hlt
      have HTX:=Bx.mk ht.out
      have HST:=Bx.mk (hR.out.step ht.out (HBY.out t (List.mem_of_getElem? ht.out)) HA.out)
      obtain⟨A0,c0,q,u,f0,f1,f2,f3,f4,f5⟩:=HST.out.1
      have HTS:=Bx.mk hts
      obtain⟨tl,htl⟩:∃ tl,t.length=tl:=⟨_,rfl⟩
      have HTL:=Bx.mk htl
      rw[htl] at hcell HTS HST f5
      have HO:=Bx.mk f1
      have hq9:q+tl≤1073741824∧u+tl≤1073741824:=f5
      have HCEL:=Bx.mk f0
      clear ht htc htm hts htl f1 f5
      go_wp2_with (at_builtin; refine wp_app rfl (.tmp 59) (.tmp 60) Tb rfl rfl HO.out rfl HTS.out ?c1 ?c2 ?c3 ?_)
      case c1=>exact ints_cells _ _
      case c2=>omega
      case c3=>omega
      intro v1 w1 ho1 hg1 hb1
      obtain⟨A1,c1,rfl,_,_⟩:=own_shape ho1
      have HN:=Bx.mk (HST.out.2 A0 c0 q u HCEL.out HO.out f3 A1 c1 w1 (by simpa[List.map_append] using ho1) hg1 hb1)
      obtain⟨k1,k2,k3,k4,k5⟩:=HN.out
      have HK5:=Bx.mk k5
      have e1:(u:Int)+(tl:Int)=((u+tl:Nat):Int):=by omega
      obtain⟨ut,hut⟩:∃ ut,u+tl=ut:=⟨_,rfl⟩
      rw[hut] at e1 HK5
      have HUT:=Bx.mk hut
      have hut9:ut≤1073741824:=by omega
      clear ho1 hg1 hb1 f0 f2 f3 f4 k5 hut
      have e2:wrap64 ((u:Int)+(tl:Int))=(ut:Int):=by rw[e1]; exact w64_of (by omega)
      go_wp2
      clear e2
      go_roundw
      case rel =>
       obtain⟨g2,hk6⟩:=HK5.out
       exact⟨j+1,g2,by omega,by go_num,⟨hk6⟩⟩
      case measure=>simp[intOf]; omega
     ·obtain rfl:n=j:=by omega
      have dk:decide ((n:Int)<(n:Int))=false:=decide_eq_false (by omega)
      have HE:Bx (xss.take n=xss):=⟨List.take_of_length_le (by rw[HL.out]; exact Nat.le_refl _)⟩
      have hd:=hR.out.dsk
      rw[HE.out] at hd
      have HD:=Bx.mk (done_any hd (by show s1.left≠some 0; rw[HX.out.1]; exact (may_ok HMY.out).1))
      rw[show pv d = .pointer (some ⟨d,0,none⟩) from rfl] at HD
      have HG:=Bx.mk hR.out.go
      have HTD:=Bx.mk hd.tag
      clear hd hR
      go_wp2_with fail
      refine HD.out.mono ?_
      rintro e w4 ⟨rfl,hd4,hc4⟩
      go_wp2
      go_ret
      refine⟨by rw[HR.out]; rfl,g',(some b1),ad1,?_,HG.out.trans ⟨hc4.mono (fun i _ hi=>by rw[hi,HTD.out]; exact (fun e=>by cases e)),fun b hb => .inl hb⟩⟩
      rw[HR.out]
      have h5:Dsk w4 g' d (some b1) ad1 ⟨s1.room,put s1.fs (addF x (cat xss)),tick s1.left⟩:=hd4
      rw[HX.out.2] at h5
      exact h5
   ·have HRM:Bx (¬Room s k (cat xss).length):=⟨fun hr=>hroom ⟨by rw[←hfb]; exact decide_eq_true hr.1,by have:=hr.2 HFN.out; omega⟩⟩
    have HR:=Bx.mk (app_full HMY.out HRM.out)
    have HFL:=Bx.mk hfl
    clear hfb hfl
    cases fb with
    | false =>
     clear hroom
     go_enter Tryd.func22,Tryd.ntmps22
     go_wp2_with fail
     refine HM.out.mono ?_
     rintro e w1 ⟨rfl,hc1⟩
     have H1:=Bx.mk (H.out.keep hc1)
     have hlk:=H1.out.look_no HFN.out (by unfold maxLen; exact HKL.out)
     have c0:=H1.out.c0
     rw[HKV.out] at hlk
     have HC1:=Bx.mk hc1
     have HFI1:=Bx.mk (HFI.out w1 hc1)
     clear hc1 HM HFI
     go_wp2_with fail
     refine HFI1.out.mono ?_
     rintro e w2 ⟨rfl,hc2⟩
     have hc12:=HC1.out.trans hc2 (fun _ _ h=>h)
     clear hlk c0
     go_wp2
     go_ret
     exact⟨by rw[HR.out]; rfl,g,mb,ad,by rw[HR.out]; exact H.out.keep hc12,Dgo.quiet hc12⟩
    | true =>
     have hfl4:4096≤fl:=by
      rcases Nat.lt_or_ge fl 4096 with h | h
      ·exact absurd ⟨rfl,h⟩ hroom
      ·exact h
     have i4:decide ((4096:Int)≤(fl:Int))=true:=decide_eq_true (by omega)
     have i4':decide (4096≤fl)=true:=decide_eq_true (by omega)
     clear hroom
     go_enter Tryd.func22,Tryd.ntmps22
     go_wp2_with fail
     refine HM.out.mono ?_
     rintro e w1 ⟨rfl,hc1⟩
     have H1:=Bx.mk (H.out.keep hc1)
     have hlk:=H1.out.look_no HFN.out (by unfold maxLen; exact HKL.out)
     have c0:=H1.out.c0
     rw[HKV.out] at hlk
     have HC1:=Bx.mk hc1
     have HFI1:=Bx.mk (HFI.out w1 hc1)
     clear hc1 HM HFI
     go_wp2_with fail
     refine HFI1.out.mono ?_
     rintro e w2 ⟨rfl,hc2⟩
     have hc12:=HC1.out.trans hc2 (fun _ _ h=>h)
     have H2:=Bx.mk (H.out.keep hc12)
     have hln:=len_map H2.out
     rw[HFL.out] at hln
     have c0:=H2.out.c0
     clear hlk
     go_wp2
     go_ret
     exact⟨by rw[HR.out]; rfl,g,mb,ad,by rw[HR.out]; exact H2.out,Dgo.quiet hc12⟩
  | some x =>
   have HFN:=Bx.mk hf
   clear hf
   cases fb with
   | true =>
    have HRM:Bx (Room s k (cat xss).length):=⟨of_decide_eq_true hfb,fun e=>by rw[HFN.out] at e; cases e⟩
    have HR:=Bx.mk (app_ok HMY.out HRM.out)
    clear hfb hfl
    go_enter Tryd.func22,Tryd.ntmps22
    go_wp2_with fail
    refine HM.out.mono ?_
    rintro e w1 ⟨rfl,hc1⟩
    have H1:=Bx.mk (H.out.keep hc1)
    have hlk:=H1.out.look_yes HFN.out (by unfold maxLen; exact HKL.out)
    have c0:=H1.out.c0
    rw[HKV.out] at hlk
    have HC1:=Bx.mk hc1
    have HFI1:=Bx.mk (HFI.out w1 hc1)
    clear hc1 HM HFI
    obtain⟨a,ha⟩:∃ a,ad k=a:=⟨_,rfl⟩
    rw[ha] at hlk
    obtain⟨hxm,hxn⟩:=fnd_some HFN.out
    have HA:Bx (ad x.nm=a):=⟨by rw[hxn]; exact ha⟩
    have HXM:=Bx.mk hxm
    have HXN:=Bx.mk hxn
    clear ha hxm hxn
    go_wp2_with fail
    refine HFI1.out.mono ?_
    rintro e w3 ⟨rfl,hc2⟩
    have hc12:=HC1.out.trans hc2 (fun _ _ h=>h)
    have hg1:Dgo w g w3 g:=Dgo.quiet hc12
    obtain⟨s1,hs1⟩:∃ s1:Ds,s1=s:=⟨_,rfl⟩
    have HB:Bx (AppLoop w g s d mb ad s1 x xss 0 w3 g):=⟨AppLoop.start (by rw[hs1]; exact H.out.keep hc12) hg1 (by rw[hs1]; exact HXM.out) (by rw[hs1]; exact HRM.out.1)⟩
    have HX:Bx (s1.left=s.left∧∀ b,(⟨s1.room,put s1.fs (addF x b),tick s1.left⟩:Ds)=⟨s.room,put s.fs (grow (fnd s.fs k) k b),tick s.left⟩):=⟨by rw[hs1],fun b=>by
     rw[hs1,HFN.out]
     show Ds.mk s.room (put s.fs (addF x b)) _=Ds.mk s.room (put s.fs ⟨k,x.bs++b,x.la⟩) _
     unfold addF
     rw[HXN.out]⟩
    clear hc2 hc12 hlk c0 hg1 hs1 HFI1 H1 HC1
    go_wp2_with fail
    go_loopw [11,51] (fun _ i wr=>∃ (j:Nat) (g':Nat→Tg),j≤n∧i = .int .i64 j∧Bx (AppLoop w g s d mb ad s1 x xss j wr g')) (fun _ i _=>n-(intOf i).toNat)
    case atStart=>exact⟨0,g,Nat.zero_le _,rfl,HB⟩
    case round =>
     obtain⟨j,g',hj,rfl,hR⟩:=hrel
     obtain⟨wo,rfl⟩:∃ wo:World,wo=wr:=⟨_,rfl⟩
     by_cases hlt:j<n
     ·have dk:decide ((j:Int)<(n:Int))=true:=decide_eq_true (by omega)
      have i3:(j:Int)<(n:Int):=by omega
      obtain⟨bt,ot,A',c',t,rfl,_,ht,hcell,hts,htc,htm⟩:=(HZ.out.ch hR.out.go.ch (fun b hb _ hs=>hs (HF.out b hb))).at_ hlt
      have HTX:=Bx.mk ht.out
      have HST:=Bx.mk (hR.out.step ht.out (HBY.out t (List.mem_of_getElem? ht.out)) HA.out)
      obtain⟨A0,c0,q,u,f0,f1,f2,f3,f4,f5⟩:=HST.out.1
      have HTS:=Bx.mk hts
      obtain⟨tl,htl⟩:∃ tl,t.length=tl:=⟨_,rfl⟩
      have HTL:=Bx.mk htl
      rw[htl] at hcell HTS HST f5
      have HO:=Bx.mk f1
      have hq9:q+tl≤1073741824∧u+tl≤1073741824:=f5
      have HCEL:=Bx.mk f0
      clear ht htc htm hts htl f1 f5
      go_wp2_with (at_builtin; refine wp_app rfl (.tmp 59) (.tmp 60) Tb rfl rfl HO.out rfl HTS.out ?c1 ?c2 ?c3 ?_)
      case c1=>exact ints_cells _ _
      case c2=>omega
      case c3=>omega
      intro v1 w1 ho1 hg1 hb1
      obtain⟨A1,c1,rfl,_,_⟩:=own_shape ho1
      have HN:=Bx.mk (HST.out.2 A0 c0 q u HCEL.out HO.out f3 A1 c1 w1 (by simpa[List.map_append] using ho1) hg1 hb1)
      obtain⟨k1,k2,k3,k4,k5⟩:=HN.out
      have HK5:=Bx.mk k5
      have e1:(u:Int)+(tl:Int)=((u+tl:Nat):Int):=by omega
      obtain⟨ut,hut⟩:∃ ut,u+tl=ut:=⟨_,rfl⟩
      rw[hut] at e1 HK5
      have HUT:=Bx.mk hut
      have hut9:ut≤1073741824:=by omega
      clear ho1 hg1 hb1 f0 f2 f3 f4 k5 hut
      have e2:wrap64 ((u:Int)+(tl:Int))=(ut:Int):=by rw[e1]; exact w64_of (by omega)
      go_wp2
      clear e2
      go_roundw
      case rel =>
       obtain⟨g2,hk6⟩:=HK5.out
       exact⟨j+1,g2,by omega,by go_num,⟨hk6⟩⟩
      case measure=>simp[intOf]; omega
     ·obtain rfl:n=j:=by omega
      have dk:decide ((n:Int)<(n:Int))=false:=decide_eq_false (by omega)
      have HE:Bx (xss.take n=xss):=⟨List.take_of_length_le (by rw[HL.out]; exact Nat.le_refl _)⟩
      have hd:=hR.out.dsk
      rw[HE.out] at hd
      have HD:=Bx.mk (done_any hd (by show s1.left≠some 0; rw[HX.out.1]; exact (may_ok HMY.out).1))
      rw[show pv d = .pointer (some ⟨d,0,none⟩) from rfl] at HD
      have HG:=Bx.mk hR.out.go
      have HTD:=Bx.mk hd.tag
      clear hd hR
      go_wp2_with fail
      refine HD.out.mono ?_
      rintro e w4 ⟨rfl,hd4,hc4⟩
      go_wp2
      go_ret
      refine⟨by rw[HR.out]; rfl,g',mb,ad,?_,HG.out.trans ⟨hc4.mono (fun i _ hi=>by rw[hi,HTD.out]; exact (fun e=>by cases e)),fun b hb => .inl hb⟩⟩
      rw[HR.out]
      have h5:Dsk w4 g' d mb ad ⟨s1.room,put s1.fs (addF x (cat xss)),tick s1.left⟩:=hd4
      rw[HX.out.2] at h5
      exact h5
   | false =>
    have HRM:Bx (¬Room s k (cat xss).length):=⟨fun hr=>absurd (decide_eq_true hr.1) (by rw[hfb]; simp)⟩
    have HR:=Bx.mk (app_full HMY.out HRM.out)
    clear hfb hfl
    go_enter Tryd.func22,Tryd.ntmps22
    go_wp2_with fail
    refine HM.out.mono ?_
    rintro e w1 ⟨rfl,hc1⟩
    have H1:=Bx.mk (H.out.keep hc1)
    have hlk:=H1.out.look_yes HFN.out (by unfold maxLen; exact HKL.out)
    have c0:=H1.out.c0
    rw[HKV.out] at hlk
    have HC1:=Bx.mk hc1
    have HFI1:=Bx.mk (HFI.out w1 hc1)
    clear hc1 HM HFI
    go_wp2_with fail
    refine HFI1.out.mono ?_
    rintro e w2 ⟨rfl,hc2⟩
    have hc12:=HC1.out.trans hc2 (fun _ _ h=>h)
    clear hlk c0
    go_wp2
    go_ret
    exact⟨by rw[HR.out]; rfl,g,mb,ad,by rw[HR.out]; exact H.out.keep hc12,Dgo.quiet hc12⟩
 ·have HR:=Bx.mk (app_err (s:=s) (k:=k) (by rw[hm]; exact h0) (cat xss))
  rw[hm] at HR
  have h0':¬ (m:Int)=0:=by omega
  clear hm
  go_enter Tryd.func22,Tryd.ntmps22
  go_wp2_with fail
  refine HM.out.mono ?_
  rintro e w1 ⟨rfl,hc1⟩
  go_wp2
  go_ret
  exact⟨by rw[HR.out]; rfl,g,mb,ad,by rw[HR.out]; exact H.out.keep hc1,Dgo.quiet hc1⟩
end
end
end Go.Proofs.YtoolcbaipinloaaDoor
