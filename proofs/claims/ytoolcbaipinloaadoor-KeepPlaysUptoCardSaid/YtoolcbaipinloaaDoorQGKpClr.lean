/- Lemmas and contracts of this proof. Conditions: said at each. -/
import Derived.Test.YtoolcbaipinloaaDoorQGKpRef
import Derived.Test.YtoolcbaipinloaaDoorKpLaid
import Derived.Lib.OwnBridge
set_option maxHeartbeats 4000000
set_option maxRecDepth 100000
namespace Go.Proofs.YtoolcbaipinloaaDoor
section
open Go.RowKit Go.Oct Go.Su Go.Dk Go.Maps Go.Fr Go.Sort Go.Shelf
section
variable {F S:Nat→Prop}
def Beg (p t:Key):Prop:=t.take p.length=p∧p.length≤t.length
instance (p t:Key):Decidable (Beg p t):=by unfold Beg; exact inferInstance
theorem prefixl_any (t p:Key) (w:World) :
  Calls Tryd.prog 64 #[kv t,kv p] w fun e w'=>e = .returned (.bool (decide (Beg p t)))∧w=w':=by
 have htz:=key_size t
 have hpz:=key_size p
 have hxq:∀ pl,pl=p.length→(((⟨t.toArray⟩:ByteArray).extract 0 pl).toList==(⟨p.toArray⟩:ByteArray).toList)=decide (t.take pl=p):=fun pl _=>by
  rw[←str_ne]
  congr 1
  rw[Lib.toList_data,Lib.toList_data]
  simp
 obtain⟨TB,htb⟩:∃ S,(⟨t.toArray⟩:ByteArray)=S:=⟨_,rfl⟩
 obtain⟨PB,hpb⟩:∃ S,(⟨p.toArray⟩:ByteArray)=S:=⟨_,rfl⟩
 obtain⟨tl,htl⟩:∃ tl,t.length=tl:=⟨_,rfl⟩
 obtain⟨pl,hpl⟩:∃ pl,p.length=pl:=⟨_,rfl⟩
 have HB:Bx (∀ o:Bool,(o=true↔t.take pl=p∧pl≤tl)→o=decide (Beg p t)):=⟨fun o ho=>by
  rw[Bool.eq_iff_iff,ho]
  unfold Beg
  simp only[hpl,htl,decide_eq_true_eq]⟩
 have hx:=hxq pl hpl.symm
 rw[htb,hpb] at hx
 rw[htb,htl] at htz
 rw[hpb,hpl] at hpz
 have HTV:kv t = .string TB:=by unfold kv; rw[htb]
 have HPV:kv p = .string PB:=by unfold kv; rw[hpb]
 rw[HTV,HPV]
 clear htb hpb htl hpl hxq HTV HPV
 by_cases h1:pl≤tl
 ·have e1:decide ((pl:Int)≤(tl:Int))=true:=decide_eq_true (by omega)
  have e1':decide (pl≤tl)=true:=decide_eq_true h1
  by_cases h2:t.take pl=p
  ·have e2:((TB.extract 0 pl).toList==PB.toList)=true:=by rw[hx]; exact decide_eq_true h2
   have HN:Bx (true=decide (Beg p t)):=⟨HB.out true (by simp[h2,h1])⟩
   clear hx h2 HB
   go_enter Tryd.func64,Tryd.ntmps64
   go_wp2
   go_ret
   exact⟨ret_bool HN.out,rfl⟩
  ·have e2:((TB.extract 0 pl).toList==PB.toList)=false:=by rw[hx]; exact decide_eq_false h2
   have HN:Bx (false=decide (Beg p t)):=⟨HB.out false (by simp[h2])⟩
   clear hx h2 HB
   go_enter Tryd.func64,Tryd.ntmps64
   go_wp2
   go_ret
   exact⟨ret_bool HN.out,rfl⟩
 ·have e1:decide ((pl:Int)≤(tl:Int))=false:=decide_eq_false (by omega)
  have e1':decide (pl≤tl)=false:=decide_eq_false h1
  have HN:Bx (false=decide (Beg p t)):=⟨HB.out false (by simp[h1])⟩
  clear hx HB
  go_enter Tryd.func64,Tryd.ntmps64
  go_wp2
  go_ret
  exact⟨ret_bool HN.out,rfl⟩
theorem prefix_any (t p:Key) (w:World) :
  Calls Tryd.prog 36 #[kv t,kv p] w fun e w'=>e = .returned (.bool (decide (Beg p t)))∧w=w':=by
 have HC:=Bx.mk (prefixl_any t p w)
 obtain⟨tv,htv⟩:∃ v,kv t=v:=⟨_,rfl⟩
 obtain⟨pv,hpv⟩:∃ v,kv p=v:=⟨_,rfl⟩
 rw[htv,hpv] at HC ⊢
 obtain⟨o,ho⟩:∃ o,decide (Beg p t)=o:=⟨_,rfl⟩
 rw[ho] at HC ⊢
 clear ho htv hpv
 go_enter Tryd.func36,Tryd.ntmps36
 go_wp2_with fail
 refine HC.out.mono ?_
 rintro e w1 ⟨rfl,rfl⟩
 go_wp2
 go_ret
 exact⟨rfl,rfl⟩
theorem indexs_any (l:List Key) (v:Key) (A:Option Addr) (n c:Nat) (w:World) (hz:Kss w F A n l) (hn:n≤9223372036854775806) :
  Calls Tryd.prog 65 #[.slice A n c,kv v] w fun e w'=>∃ z:Int,e = .returned (.int .i64 z)∧(0≤z↔v∈l)∧w=w':=by
 have HL:=Bx.mk hz.len
 have HZ:=Bx.mk hz
 have HSE:Bx (∀ t:Key,((⟨v.toArray⟩:ByteArray).toList==(⟨t.toArray⟩:ByteArray).toList)=decide (v=t)):=⟨fun t=>str_ne v t⟩
 obtain⟨VB,hvb⟩:∃ S,(⟨v.toArray⟩:ByteArray)=S:=⟨_,rfl⟩
 have HVV:kv v = .string VB:=by unfold kv; rw[hvb]
 rw[hvb] at HSE
 rw[HVV]
 clear hz HVV hvb
 go_enter Tryd.func65,Tryd.ntmps65
 go_wp2_with fail
 go_loop [5,8] (fun _ i=>∃ k:Nat,k≤n∧i = .int .i64 k∧Bx (v∉l.take k)) (fun _ i=>n-(intOf i).toNat)
 case atStart=>exact⟨0,Nat.zero_le _,rfl,⟨by simp⟩⟩
 case round =>
  obtain⟨k,hk,rfl,hno⟩:=hrel
  by_cases hlt:k<n
  ·have dk:decide ((k:Int)<(n:Int))=true:=decide_eq_true (by omega)
   obtain⟨bt,ot,t,rfl,_,ht,hcell⟩:=HZ.out.at_ hlt
   have HTM:=Bx.mk (Oct.take_more ht.out)
   have HMEM:=Bx.mk (List.mem_of_getElem? ht.out)
   have i2:(k:Int)<(n:Int):=by omega
   have hse:=HSE.out t
   obtain⟨TB,htb⟩:∃ S,(⟨t.toArray⟩:ByteArray)=S:=⟨_,rfl⟩
   have htv:kv t = .string TB:=by unfold kv; rw[htb]
   rw[htb] at hse
   rw[htv] at hcell
   clear ht htb htv
   by_cases hvt:v=t
   ·have e2:(VB.toList==TB.toList)=true:=by rw[hse]; exact decide_eq_true hvt
    have HM:Bx (v∈l):=⟨by rw[hvt]; exact HMEM.out⟩
    clear hse hno hvt HSE
    go_wp2
    go_ret
    exact⟨(k:Int),rfl,⟨fun _=>HM.out,fun _=>by omega⟩,rfl⟩
   ·have e2:(VB.toList==TB.toList)=false:=by rw[hse]; exact decide_eq_false hvt
    have HN:Bx (v∉l.take (k+1)):=⟨by rw[HTM.out]; simp[hno.out,hvt]⟩
    clear hse hno hvt
    go_wp2
    go_round
    case rel=>exact⟨k+1,by omega,by go_num,HN⟩
    case measure=>simp[intOf]; omega
  ·obtain rfl:n=k:=by omega
   have dk:decide ((n:Int)<(n:Int))=false:=decide_eq_false (by omega)
   have HE:Bx (v∉l):=⟨by
    have h:=hno.out
    rwa[List.take_of_length_le (Nat.le_of_eq HL.out)] at h⟩
   clear hno
   go_wp2
   go_ret
   exact⟨-1,rfl,⟨fun h=>by omega,fun h=>absurd h HE.out⟩,rfl⟩
theorem contains_any (l:List Key) (v:Key) (A:Option Addr) (n c:Nat) (w:World) (hz:Kss w F A n l) (hn:n≤9223372036854775806) :
  Calls Tryd.prog 37 #[.slice A n c,kv v] w fun e w'=>e = .returned (.bool (decide (v∈l)))∧w=w':=by
 have HC:=Bx.mk (indexs_any l v A n c w hz hn)
 obtain⟨vv,hvv⟩:∃ u,kv v=u:=⟨_,rfl⟩
 rw[hvv] at HC ⊢
 clear hz hvv
 go_enter Tryd.func37,Tryd.ntmps37
 go_wp2_with fail
 refine HC.out.mono ?_
 rintro e w1 ⟨z,rfl,hz,rfl⟩
 have HB:Bx (decide (0≤z)=decide (v∈l)):=⟨by rw[decide_eq_decide]; exact hz⟩
 clear hz HC
 go_wp2
 go_ret
 exact⟨ret_bool HB.out,rfl⟩
structure StayC (W:World) (F:Nat→Prop) (bp bs:Nat) (p:Key) (A:Option Addr) (n c:Nat) (st:List Key):Prop where
 cp:W.cell? ⟨bp,0,none⟩=some (kv p)
 cs:W.cell? ⟨bs,0,none⟩=some (.slice A n c)
 ks:Kss W F A n st
theorem StayC.ch {W W':World} {bp bs n c:Nat} {p:Key} {A:Option Addr} {st:List Key} (h:StayC W F bp bs p A n c st) (hc:Ch S W W') (h1:¬ S bp) (h2:¬ S bs) (h3:∀ b,F b→b<W.heap.size→¬ S b):StayC W' F bp bs p A n c st :=
 ⟨hc.cell h1 h.cp,hc.cell h2 h.cs,h.ks.ch hc h3⟩
def isGone (p:Key) (st:List Key) (t:Key):Bool:=decide (t.take p.length=p∧p.length≤t.length∧t∉st)
theorem stays_any {bp bs n c:Nat} {p:Key} {A:Option Addr} {st:List Key} (t:Key) (W:World) (h:StayC W F bp bs p A n c st) (hn:n≤9223372036854775806) :
  Calls Tryd.prog 35 #[kv t, .pointer (some ⟨bp,0,none⟩), .pointer (some ⟨bs,0,none⟩)] W fun e w'=>e = .returned (.bool (!isGone p st t))∧W=w':=by
 have HP:=Bx.mk (prefix_any t p W)
 have HC:=Bx.mk (contains_any st t A n c W h.ks hn)
 have cp:=h.cp
 have cs:=h.cs
 have HG:Bx (∀ o:Bool,(o=true↔¬ (Beg p t∧t∉st))→o=!isGone p st t):=⟨fun o ho=>by
  rw[Bool.eq_iff_iff,ho]
  unfold isGone Beg
  simp only[Bool.not_eq_true',decide_eq_false_iff_not,and_assoc]⟩
 obtain⟨tv,htv⟩:∃ v,kv t=v:=⟨_,rfl⟩
 obtain⟨pv,hpv⟩:∃ v,kv p=v:=⟨_,rfl⟩
 rw[htv] at HP HC ⊢
 rw[hpv] at HP cp
 clear h htv hpv hn
 by_cases h1:Beg p t
 ·rw[show decide (Beg p t)=true from decide_eq_true h1] at HP
  by_cases h2:t∈st
  ·rw[show decide (t∈st)=true from decide_eq_true h2] at HC
   have HN:Bx (true=!isGone p st t):=⟨HG.out true (by simp[h2])⟩
   clear HG h1 h2
   go_enter Tryd.func35,Tryd.ntmps35
   go_wp2_with fail
   refine HP.out.mono ?_
   rintro e w1 ⟨rfl,rfl⟩
   go_wp2_with fail
   refine HC.out.mono ?_
   rintro e w1 ⟨rfl,rfl⟩
   go_wp2
   go_ret
   exact⟨ret_bool HN.out,rfl⟩
  ·rw[show decide (t∈st)=false from decide_eq_false h2] at HC
   have HN:Bx (false=!isGone p st t):=⟨HG.out false (by simp[h1,h2])⟩
   clear HG h1 h2
   go_enter Tryd.func35,Tryd.ntmps35
   go_wp2_with fail
   refine HP.out.mono ?_
   rintro e w1 ⟨rfl,rfl⟩
   go_wp2_with fail
   refine HC.out.mono ?_
   rintro e w1 ⟨rfl,rfl⟩
   go_wp2
   go_ret
   exact⟨ret_bool HN.out,rfl⟩
 ·rw[show decide (Beg p t)=false from decide_eq_false h1] at HP
  have HN:Bx (true=!isGone p st t):=⟨HG.out true (by simp[h1])⟩
  clear HG h1 HC
  go_enter Tryd.func35,Tryd.ntmps35
  go_wp2_with fail
  refine HP.out.mono ?_
  rintro e w1 ⟨rfl,rfl⟩
  go_wp2
  go_ret
  exact⟨ret_bool HN.out,rfl⟩
end
end
section
open Go.RowKit Go.Oct Go.Su Go.Dk Go.Maps Go.Fr Go.Sort Go.Shelf
section
variable {F S:Nat→Prop}
theorem ch_putRow {α:Type} [Inhabited α] (enc:α→Value) (w:World) (q blk off:Nat) (d:Array α):Ch (fun k=>k=blk) w (putRow enc (Sort.ahead w q) blk off d) :=
 ⟨rfl,rfl,rfl,by simp[putRow,mapBlock,Sort.ahead],fun k _ hS=>by
  have h:¬ blk=k:=fun e=>hS e.symm
  simp[putRow,mapBlock,Sort.ahead,Array.getElem?_modify,h]⟩
theorem ch_grow (w:World) (os:Array Obj):Ch (fun _=>False) w (grow w os) :=
 ⟨rfl,rfl,rfl,by show w.heap.size≤(w.heap++os).size; rw[Array.size_append]; omega,fun k hk _=>Sort.heap_grow_old w os hk⟩
theorem idx0_any (fv:Value) (w:World):Calls Tryd.prog 68 #[.slice none 0 0,fv] w fun e w'=>e = .returned (.int .i64 (-1))∧w=w':=by
 go_enter Tryd.func68,Tryd.ntmps68
 go_wp2_with fail
 go_loop [5,8] (fun _ i=>i = .int .i64 0) (fun _ _=>0)
 case atStart=>rfl
 case round =>
  obtain rfl:=hrel
  go_wp2
  go_ret
  exact⟨rfl,rfl⟩
theorem del0_any (fv:Value) (w:World):Calls Tryd.prog 39 #[.slice none 0 0,fv] w fun e w'=>e = .returned (.slice none 0 0)∧w=w':=by
 have HI:=Bx.mk (idx0_any fv w)
 go_enter Tryd.func39,Tryd.ntmps39
 go_wp2_with fail
 refine HI.out.mono ?_
 rintro e w1 ⟨rfl,rfl⟩
 go_wp2
 go_ret
 exact⟨rfl,rfl⟩
theorem del_any {l st:List Key} {W0 W:World} {A1 A:Option Addr} {m c1 bp bs n c:Nat} {p:Key} (h:StayC W F bp bs p A n c st) (hn:n≤9223372036854775806) (hg:Gs 9 1 W0 W (.slice A1 m c1) m (l.map kv))
  (hbp:bp<W0.heap.size) (hbs:bs<W0.heap.size) (hF:∀ b,F b→b<W0.heap.size) (hm:m≤4096) :
  Calls Tryd.prog 39 #[.slice A1 m c1, .func (.func 35) #[] #[.pointer (some ⟨bp,0,none⟩), .pointer (some ⟨bs,0,none⟩)]] W (ListOf (gone p st l) W0):=by
 by_cases hv:Value.slice A1 m c1 = .slice none 0 0
 ·injection hv with e1 e2 e3
  subst e1; subst e2; subst e3
  have hl:l=[]:=List.eq_nil_of_length_eq_zero (by simpa using hg.own.1)
  subst hl
  refine (del0_any _ W).mono ?_
  rintro e w' ⟨rfl,rfl⟩
  exact⟨none,0,0,rfl,hg,Nat.le_refl _,Nat.zero_le _⟩
 ·obtain⟨b,cap,e1,_,hlt,hle,hcm,hlen,hH⟩:=Lib.holds_of_ownsRow (enc:=kv) (zs:=l) hg.own hv
  injection e1 with e1 _ e3
  subst e1; subst e3
  have hb0:W0.heap.size≤b:=hg.lies b rfl
  have hst:∀ W',Ch (fun k=>k=b) W W'→StayC W' F bp bs p A n c st:=fun W' hc=>h.ch hc (by omega) (by omega) (fun k hk _ e=>by have:=hF k hk; omega)
  have eg:∀ args w,(callFunc 35 args).run Tryd.prog w = .ok (.enter 35 args) w:=enters_of Tryd.func35 (by kernel_rfl) rfl
  have hp:PredAt Tryd.prog 35 #[.pointer (some ⟨bp,0,none⟩), .pointer (some ⟨bs,0,none⟩)] kv (fun t=>!isGone p st t) W:=fun W' x hb =>
   (stays_any x W' (hst W' (Ch.of_below hb (fun k h1 h2=>absurd h2 (by omega)))) hn).mono fun e w' ⟨h1,h2⟩=>⟨h1,0,h2.symm⟩
  have hpo:PredOver Tryd.prog 35 #[.pointer (some ⟨bp,0,none⟩), .pointer (some ⟨bs,0,none⟩)] kv (fun t=>!isGone p st t) b 0 l.toArray.size W:=fun q os dk x _ =>
   (stays_any x _ (hst _ ((ch_putRow kv W q b 0 dk).trans (ch_grow _ os) (fun _ _ h=>h.elim))) hn).mono fun e w' ⟨h1,h2⟩=>⟨h1,0,h2.symm⟩
  have hcon:=AnyE.slices_DeleteFunc Tryd.kpDel kv (fun _=>rfl) (fun t=>!isGone p st t) 35 #[.pointer (some ⟨bp,0,none⟩), .pointer (some ⟨bs,0,none⟩)] eg [] Tryd.zeroValue9 b 0 c1 l.toArray W hp hpo hH (by simp; omega) (by simp; omega)
  have hfl:(l.toArray.toList.filter fun x=>!(fun t=>!isGone p st t) x)=gone p st l:=by
   simp only[Bool.not_not]
   rfl
  have hgl:(gone p st l).length≤m:=by
   rw[←hlen]
   exact List.length_filter_le _ _
  rw[hfl] at hcon
  have hsz:l.toArray.size=m:=by simpa using hlen
  rw[hsz] at hcon
  refine hcon.mono ?_
  rintro e w' ⟨rfl,q,rfl⟩
  refine⟨_,_,_,rfl,⟨?_,fun k hk=>by
   have hk:b=k:=by simpa[Value.ownBlock] using hk
   omega,hg.ch.trans (ch_putRow kv W q b 0 _) (fun k hk e=>by omega)⟩,by omega,hcm⟩
  have ho:=Lib.ownsRow_putRow (enc:=kv) (q:=q) (k:=(gone p st l).length) (ys:=gone p st l++List.replicate (m-(gone p st l).length) []) hg.own (by simp; omega) hgl
  rw[List.take_left] at ho
  exact ho
theorem each_eq (f:Ds→Key→Nat×Ds):∀ (l:List Key) (s:Ds),opEach f s l=opEach' f s l
 | [],_=>rfl
 | k::l,s=>by
  unfold opEach opEach'
  rw[each_eq f l]
variable {w w':World} {g g':Nat→Tg} {d:Nat} {mb:Option Nat} {ad:Key→Nat} {s s':Ds}
theorem pclear_any {A:Option Addr} {n c:Nat} {st:List Key} (h:Dsk w g d mb ad s) (p:Key) (hz:Kss w F A n st) (hn:n≤140737488351232) :
  Calls Tryd.prog 16 #[pv d,kv p, .slice A n c] w (Post (opClear s p st) d w g):=by
 have hp:pv d = .pointer (some ⟨d,0,none⟩):=rfl
 have hmf := @run_func Tryd.prog
 have hmost:=h.ok.most
 have HKL:Bx (∀ t∈gone p st (nms s.fs),t.length≤9223372036854775807):=⟨fun t ht=>by
  have ht:=(List.mem_filter.1 ht).1
  unfold nms at ht
  obtain⟨f,hf,rfl⟩:=List.mem_map.1 ht
  have:=h.ok.fine.ok f hf
  unfold okN at this
  omega⟩
 have hcA:Ch (fun _=>False) w ((w.alloc (.cells #[kv p] 9)).alloc (.cells #[.slice A n c] 33)):=((Ch.refl _ _).alloc _).alloc _
 have HH:=Bx.mk h
 have HLI:=Bx.mk (list_any (h.keep hcA))
 have HOP:Bx (opClear s p st=opEach opRem s (gone p st (nms s.fs))):=⟨by rw[each_eq]; rfl⟩
 have HDL:Bx (∀ (W:World) (A1:Option Addr) (m c1:Nat),Gs 9 1 ((w.alloc (.cells #[kv p] 9)).alloc (.cells #[.slice A n c] 33)) W (.slice A1 m c1) m ((nms s.fs).map kv)→Calls Tryd.prog 39 #[.slice A1 m c1, .func (.func 35) #[] #[.pointer (some ⟨w.heap.size,0,none⟩), .pointer (some ⟨w.heap.size+1,0,none⟩)]] W (ListOf (gone p st (nms s.fs)) ((w.alloc (.cells #[kv p] 9)).alloc (.cells #[.slice A n c] 33)))):=⟨fun W A1 m c1 hg=>by
  refine del_any (F:=fun b=>F b∧b<w.heap.size) (A:=A) (n:=n) (c:=c) (StayC.ch (S:=fun _=>False) (W:=(w.alloc (.cells #[kv p] 9)).alloc (.cells #[.slice A n c] 33)) ⟨?_,?_,?_⟩ hg.ch (fun h=>h) (fun h=>h) (fun _ _ _ h=>h)) (by omega) hg (by simp; omega) (by simp) (fun b hb=>by have:=hb.2; simp; omega) (by have:=hg.own.1; unfold nms at this; simp at this; omega)
  ·have h1:(w.alloc (.cells #[kv p] 9)).cell? ⟨w.heap.size,0,none⟩=some (kv p):=by simp
   exact ((Ch.refl (fun _=>False) _).alloc _).cell (fun h=>h) h1
  ·simp
  ·exact (hz.mono (G:=fun b=>F b∧b<w.heap.size) (fun b hb hf=>⟨hf,hb⟩)).ch hcA (fun _ _ _ h=>h)⟩
 have HRM:Bx (∀ (W:World) (A1:Option Addr) (m c1:Nat),Gs 9 1 ((w.alloc (.cells #[kv p] 9)).alloc (.cells #[.slice A n c] 33)) W (.slice A1 m c1) m ((gone p st (nms s.fs)).map kv)→Calls Tryd.prog 38 #[pv d, .slice A1 m c1] W (Post (opEach opRem s (gone p st (nms s.fs))) d w g)):=⟨fun W A1 m c1 hg=>by
  have hc:=hcA.trans hg.ch (fun _ _ h=>h)
  have hlen:(gone p st (nms s.fs)).length≤4096:=by
   refine Nat.le_trans (List.length_filter_le _ _) ?_
   unfold nms
   simpa using hmost
  have hml:m=(gone p st (nms s.fs)).length:=by have:=hg.own.1; simp at this; omega
  refine (removed_any (HH.out.keep hc) hg.vs (fun b hb=>?_) (by omega) HKL.out).mono fun e w' ⟨e1,g',mb',ad',e2,e3⟩=>⟨e1,g',mb',ad',e2,(Dgo.quiet hc).trans e3⟩
  have hb2:w.heap.size+1+1≤b:=by simpa using hb
  rcases hgt:g b with _ | _ | _ | _
  ·rfl
  all_goals
   have h7:=HH.out.lt b (by rw[hgt]; exact fun e=>by cases e)
   omega⟩
 obtain⟨S,hkv⟩:∃ S,kv p = .string S:=⟨_,rfl⟩
 rw[hkv] at HLI HDL HRM ⊢
 rw[hp] at HLI HRM ⊢
 rw[HOP.out]
 clear hp h hz hkv hcA hmost
 go_enter Tryd.func16,Tryd.ntmps16
 go_wp2_with fail
 refine HLI.out.mono ?_
 rintro e w3 ⟨A1,m1,c1,rfl,hg,hnc,hcm⟩
 have HD2:=Bx.mk (HDL.out w3 A1 m1 c1 hg)
 clear HDL HLI hg hnc hcm
 go_wp2_with fail
 refine HD2.out.mono ?_
 rintro e w4 ⟨A2,m2,c2,rfl,hg,hnc,hcm⟩
 have HR2:=Bx.mk (HRM.out w4 A2 m2 c2 hg)
 clear HRM HD2 hg hnc hcm
 go_wp2_with fail
 refine HR2.out.mono ?_
 rintro e w5 ⟨rfl,hpo⟩
 go_wp2
 go_ret
 exact⟨rfl,hpo⟩
end
end
section
open Go.RowKit Go.Oct Go.Su Go.Dk Go.Maps
section
variable {F G:Nat→Prop}
theorem lawtexts_any (a b:List Key) (A B:Option Addr) (n m c d:Nat) (w:World) (hz:Kss w F A n a) (hy:Kss w G B m b) (hn:n≤9223372036854775806) (o:Bool) (ho:decide (a=b)=o) :
  Calls Tryd.prog 25 #[.slice A n c, .slice B m d] w fun e w'=>e = .returned (.bool o)∧∃ q,w'=w.drewN q:=by
 have HL:=Bx.mk hz.len
 have HM:=Bx.mk hy.len
 have HZ:=Bx.mk hz
 have HY:=Bx.mk hy
 have HO:=Bx.mk ho
 clear hz hy ho
 by_cases hnm:n=m
 ·subst hnm
  have e0:((n:Int) != (n:Int))=false:=by simp
  go_enter Tryd.func25,Tryd.ntmps25
  go_wp2_with fail
  go_loopw [5] (fun i wr=>∃ k q:Nat,k≤n∧i = .int .i64 k∧wr=w.drewN q∧Bx (a.take k=b.take k)) (fun i _=>n-(intOf i).toNat)
  case atStart=>exact⟨0,0,Nat.zero_le _,rfl,rfl,⟨rfl⟩⟩
  case round =>
   obtain⟨k,q,hk,rfl,rfl,hT⟩:=hrel
   by_cases hkn:k<n
   ·have dk:decide ((k:Int)<(n:Int))=true:=decide_eq_true (by omega)
    have i1:(k:Int)<(n:Int):=by omega
    obtain⟨b1,o1,x,rfl,_,hx,hcx⟩:=HZ.out.at_ hkn
    obtain⟨b2,o2,y,rfl,_,hy,hcy⟩:=HY.out.at_ hkn
    obtain⟨SX,hSX⟩:∃ S:ByteArray,(⟨x.toArray⟩:ByteArray)=S:=⟨_,rfl⟩
    obtain⟨SY,hSY⟩:∃ S:ByteArray,(⟨y.toArray⟩:ByteArray)=S:=⟨_,rfl⟩
    have hkx:kv x = .string SX:=by unfold kv; rw[hSX]
    have hky:kv y = .string SY:=by unfold kv; rw[hSY]
    have hsq:(SX.toList==SY.toList)=decide (x=y):=by rw[←hSX,←hSY]; exact str_ne x y
    rw[hkx] at hcx
    rw[hky] at hcy
    have HX:=Bx.mk hx.out
    have HYY:=Bx.mk hy.out
    have HTX:=Bx.mk (Oct.take_more hx.out)
    have HTY:=Bx.mk (Oct.take_more hy.out)
    clear hx hy hkx hky hSX hSY
    by_cases hxy:x=y
    ·have e1:(SX.toList==SY.toList)=true:=by rw[hsq]; simpa using hxy
     have HN:Bx (a.take (k+1)=b.take (k+1)):=⟨by rw[HTX.out,HTY.out,hT.out,hxy]⟩
     clear hsq hxy
     go_wp2_with fail
     go_quiet (fail)
     go_wp2_with fail
     go_roundw
     case rel=>exact⟨k+1,q+nq,by omega,by go_num,rfl,HN⟩
     case measure=>simp[intOf]; omega
    ·have e1:(SX.toList==SY.toList)=false:=by rw[hsq]; simpa using hxy
     have HN:Bx (false=o):=⟨by
      rw[←HO.out]
      symm
      refine decide_eq_false fun h=>hxy ?_
      have h1:=HX.out
      rw[h,HYY.out] at h1
      injection h1 with h1
      exact h1.symm⟩
     clear hsq hxy
     go_wp2_with fail
     go_quiet (fail)
     go_wp2_with fail
     go_ret
     exact⟨ret_bool HN.out,q+nq,by rw[World.drewN_drewN]⟩
   ·obtain rfl:n=k:=by omega
    have dk:decide ((n:Int)<(n:Int))=false:=decide_eq_false (by omega)
    have HN:Bx (true=o):=⟨by
     rw[←HO.out]
     symm
     refine decide_eq_true ?_
     have h:=hT.out
     rwa[List.take_of_length_le (Nat.le_of_eq HL.out),List.take_of_length_le (Nat.le_of_eq HM.out)] at h⟩
    clear hT
    go_wp2_with fail
    go_ret
    exact⟨ret_bool HN.out,q,rfl⟩
 ·have e0:((n:Int) != (m:Int))=true:=by simp; omega
  have HN:Bx (false=o):=⟨by
   rw[←HO.out]
   symm
   exact decide_eq_false fun h=>hnm (by rw[←HL.out,←HM.out,h])⟩
  go_enter Tryd.func25,Tryd.ntmps25
  go_wp2_with fail
  go_ret
  exact⟨ret_bool HN.out,0,rfl⟩
end
end
section
open Go.RowKit Go.Oct Go.Su Go.Dk Go.Maps
section
variable {w w' w2:World} {h h' h2:Nat→Rt} {us vs:List Value} {fs gs:Fs} {S F:Nat→Prop} {x y:Fl} {k:Key} {d:Nat} {s:Ds}
theorem set_put {fs:Fs} {i:Nat} {x y:Fl} (hr:Rise (nms fs)) (hx:fs[i]? = some x) (hy:y.nm=x.nm):fs.set i y=put fs y:=by
 have hm:x∈fs:=List.mem_of_getElem? hx
 have hf:fnd fs y.nm=some x:=by rw[hy]; exact fnd_of hr hm
 rw[put_at hr hf]
 congr 1
 have h3:=at_lo hr hf
 obtain⟨j1,j2⟩:=List.getElem?_eq_some_iff.1 hx
 obtain⟨j3,j4⟩:=List.getElem?_eq_some_iff.1 h3
 have hrr:=hr
 unfold Rise nms at hrr
 rw[List.pairwise_map] at hrr
 rcases Nat.lt_trichotomy i (lo fs y.nm).length with e | e | e
 ·have:=List.pairwise_iff_getElem.1 hrr _ _ j1 j3 e
  rw[j2,j4] at this
  exact absurd this (key_irrefl _)
 ·exact e
 ·have:=List.pairwise_iff_getElem.1 hrr _ _ j3 j1 e
  rw[j2,j4] at this
  exact absurd this (key_irrefl _)
theorem DsOk.setAt {s:Ds} (h:DsOk s) {i:Nat} {x y:Fl} (hx:s.fs[i]? = some x) (hy:y.nm=x.nm) (hl:y.bs.length≤x.bs.length) (hla:y.la≤y.bs.length) (hb:∀ z∈y.bs,0≤z∧z<256):DsOk ⟨s.room,s.fs.set i y,s.left⟩:=by
 rw[set_put h.fine.rise hx hy]
 have hm:x∈s.fs:=List.mem_of_getElem? hx
 refine h.put_old (f:=x) (by rw[hy]; exact fnd_of h.fine.rise hm) ?_ hla hb _
 have:=used_at h.fine.rise hm
 have:=h.used
 omega
def crT (D j:Nat) (fs:Fs):Fs:=(fs.take j).map (crashF D)++fs.drop j
theorem crT_zero (D:Nat) (fs:Fs):crT D 0 fs=fs:=by unfold crT; simp
theorem crT_all {D j:Nat} {fs:Fs} (h:fs.length≤j):crT D j fs=fs.map (crashF D):=by unfold crT; rw[List.take_of_length_le h,List.drop_of_length_le h,List.append_nil]
theorem crT_len (D j:Nat) (fs:Fs):(crT D j fs).length=fs.length:=by unfold crT; simp; omega
theorem crT_at {D j:Nat} {fs:Fs} {x:Fl} (hx:fs[j]? = some x):(crT D j fs)[j]? = some x:=by
 obtain⟨hj,_⟩:=List.getElem?_eq_some_iff.1 hx
 unfold crT
 rw[List.getElem?_append_right (by simp; omega)]
 simp only[List.length_map,List.length_take,Nat.min_eq_left (Nat.le_of_lt hj),Nat.sub_self,List.getElem?_drop,Nat.add_zero]
 exact hx
theorem crT_set {D j:Nat} {fs:Fs} {x:Fl} (hx:fs[j]? = some x):(crT D j fs).set j (crashF D x)=crT D (j+1) fs:=by
 obtain⟨hj,e⟩:=List.getElem?_eq_some_iff.1 hx
 unfold crT
 rw[List.set_append_right _ _ (by simp; omega)]
 have h1:((fs.take j).map (crashF D)).length=j:=by simp; omega
 rw[h1,Nat.sub_self,Oct.take_more hx,List.map_append,List.drop_eq_getElem_cons hj,e,List.append_assoc]
 rfl
structure RcLoop (w:World) (h:Nat→Rt) (s:Ds) (D d j:Nat) (wr:World) (h':Nat→Rt):Prop where
 dsk:Rdk wr h' d ⟨s.room,crT D j s.fs,s.left⟩
 go:Rgo w h wr h'
theorem RcLoop.open_ {w wr:World} {h h':Nat→Rt} {s:Ds} {D d j:Nat} {x:Fl} (H:RcLoop w h s D d j wr h') (hx:s.fs[j]? = some x) (ok:DsOk s):∃ b c A cc,wr.cell? ⟨d,1,none⟩=some (.slice (some ⟨b,0,none⟩) s.fs.length c)∧s.fs.length≤c∧c≤maxLen∧wr.cell? ⟨b,j*3+1,none⟩=some (.slice A x.bs.length cc)∧wr.cell? ⟨b,j*3+2,none⟩=some (.int .i64 (x.la:Int)) ∧
  Sl wr (fun b=>h' b = .by) .u8 A x.bs.length x.bs∧x.bs.length≤cc∧cc≤maxLen∧x.la≤x.bs.length∧x.bs.length≤1073741824∧(∀ w',Ch (fun _=>False) wr w'→w'.cell? ⟨b,j*3+1,none⟩=some (.slice A x.bs.length cc)∧w'.cell? ⟨b,j*3+2,none⟩=some (.int .i64 (x.la:Int))∧w'.frozen? ⟨b,j*3+1,none⟩=false) ∧
  ∀ z,x.la≤z→z≤x.bs.length→∀ w0 v w2,Ch (fun _=>False) wr w0→Fresh w0 v (x.bs.take z) w2→∃ h2,RcLoop w h s D d j wr h' ∧
   (stays D x=z→∀ A2 c2,v = .slice A2 z c2→(w2.setCell ⟨b,j*3+1,none⟩ v).cell? ⟨b,j*3+1,none⟩=some v∧(w2.setCell ⟨b,j*3+1,none⟩ v).cell? ⟨b,j*3+2,none⟩=some (.int .i64 (x.la:Int))∧(w2.setCell ⟨b,j*3+1,none⟩ v).frozen? ⟨b,j*3+2,none⟩=false∧RcLoop w h s D d (j+1) ((w2.setCell ⟨b,j*3+1,none⟩ v).setCell ⟨b,j*3+2,none⟩ (.int .i64 (z:Int))) h2):=by
 have hxc:=crT_at (D:=D) hx
 have hj:j<(crT D j s.fs).length:=(List.getElem?_eq_some_iff.1 hxc).1
 obtain⟨b,c,x',A,cc,c1,h1,h2,hbr,hx',_,k2,k3,hsl,h5,h6,hfz⟩:=H.dsk.file hj
 obtain rfl:x=x':=by
  have:(crT D j s.fs)[j]? = some x':=hx'
  rw[hxc] at this; injection this
 have hlen:(Ds.mk s.room (crT D j s.fs) s.left).fs.length=s.fs.length:=crT_len _ _ _
 have c1o:=c1
 rw[hlen] at c1 h1
 have hm:x∈s.fs:=List.mem_of_getElem? hx
 have hq:x.bs.length≤1073741824:=by have:=used_at ok.fine.rise hm; have:=ok.used; have:=ok.room; omega
 refine⟨b,c,A,cc,c1,h1,h2,k2,k3,hsl,h5,h6,ok.fine.la x hm,hq,fun w' hc=>⟨hc.cell (p:=⟨b,j*3+1,none⟩) (fun h=>h) k2,hc.cell (p:=⟨b,j*3+2,none⟩) (fun h=>h) k3,(hc.frozen (p:=⟨b,j*3+1,none⟩) (fun h=>h) (lt_of_cell k2)).trans (hfz _)⟩,fun z hz1 hz2 w0 v w2 hc0 G=>?_⟩
 have hd:=H.dsk.keep hc0
 have hl:(x.bs.take z).length=z:=by rw[List.length_take]; omega
 have hbb:∀ u∈x.bs.take z,0≤u∧u<256:=fun u hu=>ok.fine.byte x hm u (List.mem_of_mem_take hu)
 have ok1:=DsOk.setAt H.dsk.ok (y:=⟨x.nm,x.bs.take z,x.la⟩) hxc rfl (by rw[hl]; exact hz2) (by show x.la≤(x.bs.take z).length; rw[hl]; exact hz1) hbb
 obtain⟨r1,g1,cr1⟩:=hd.rebytes (y:=⟨x.nm,x.bs.take z,x.la⟩) hxc ⟨rfl,rfl⟩ G (hc0.cell (p:=⟨d,1,none⟩) (fun h=>h) c1o) ok1
 refine⟨tagV h' v .by,H,fun hst A2 c2 hv=>?_⟩
 have hc02:=hc0.trans G.2.2 (fun _ _ h=>h)
 have k2w:=hc02.cell (p:=⟨b,j*3+1,none⟩) (fun h=>h) k2
 have k3w:=hc02.cell (p:=⟨b,j*3+2,none⟩) (fun h=>h) k3
 have hfz2:w2.frozen? ⟨b,j*3+2,none⟩=false:=(hc02.frozen (p:=⟨b,j*3+2,none⟩) (fun h=>h) (lt_of_cell k3)).trans (hfz _)
 have hxs:((crT D j s.fs).set j ⟨x.nm,x.bs.take z,x.la⟩)[j]? = some ⟨x.nm,x.bs.take z,x.la⟩:=by rw[List.getElem?_set_self hj]
 have ok2:=DsOk.setAt r1.ok (y:=⟨x.nm,x.bs.take z,z⟩) hxs rfl (Nat.le_refl _) (by show z≤(x.bs.take z).length; rw[hl]; exact Nat.le_refl _) hbb
 have cr1':(w2.setCell ⟨b,j*3+1,none⟩ v).cell? ⟨d,1,none⟩=some (.slice (some ⟨b,0,none⟩) (Ds.mk s.room ((crT D j s.fs).set j ⟨x.nm,x.bs.take z,x.la⟩) s.left).fs.length c):=by
  rw[show (Ds.mk s.room ((crT D j s.fs).set j ⟨x.nm,x.bs.take z,x.la⟩) s.left).fs.length=(crT D j s.fs).length from List.length_set]
  exact cr1
 obtain⟨r2,g2,hb2⟩:=r1.relast hxs cr1' z ok2
 refine⟨set_same k2w,(set_off (by omega)).trans k3w,(World.frozen?_setCell _ _ _ _).trans hfz2,?_,?_⟩
 ·have e:((crT D j s.fs).set j ⟨x.nm,x.bs.take z,x.la⟩).set j ⟨x.nm,x.bs.take z,z⟩=crT D (j+1) s.fs:=by
   rw[List.set_set,←crT_set hx]
   unfold crashF
   rw[hst]
  have r3:Rdk ((w2.setCell ⟨b,j*3+1,none⟩ v).setCell ⟨b,j*3+2,none⟩ (.int .i64 (z:Int))) (tagV h' v .by) d ⟨s.room,((crT D j s.fs).set j ⟨x.nm,x.bs.take z,x.la⟩).set j ⟨x.nm,x.bs.take z,z⟩,s.left⟩:=r2
  rw[e] at r3
  exact r3
 ·exact ((H.go.trans (Rgo.quiet hc0)).trans g1).trans ⟨g2.mono (fun i _ hi=>by rw[hi,hb2]; exact fun e=>by cases e),fun i hi => .inl hi⟩
end
end
end Go.Proofs.YtoolcbaipinloaaDoor
