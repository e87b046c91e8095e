/- Lemmas and contracts of this proof. Conditions: said at each. -/
import Derived.Test.YtambgjpfoceieaaGreatDoorGBwCounts
import Derived.Test.YtambgjpfoceieaaGreatDoorPkPack
set_option maxHeartbeats 1000000
set_option maxRecDepth 100000
namespace Go.Proofs.YtambgjpfoceieaaGreatDoor.X
section
open Go.RowKit Go.Oct Go.Su
open Go.Bi (rk)
open Go.Wa (hit)
theorem hit_oc (l:List Nat) (c:Int) (i:Nat):rk (hit l c) true (i:Int)=oc (asI l) c i:=by
 rw[Go.Bi.rk_nat,Go.Wa.hit_take]
 unfold hit oc asI
 rw[←List.map_take,List.count_eq_countP,List.countP_map,List.countP_map]
 refine List.countP_congr fun x _=>?_
 simp
theorem less_get {s:List Int} {x:Nat} (hx:x<513):(asI (cnts s 9))[x]? = some ((lsI s (x:Int):Nat):Int):=by
 unfold asI cnts
 rw[List.getElem?_map,List.getElem?_map,List.getElem?_range (by omega)]
 rfl
theorem lf_sum {l:List Nat} {a x:Nat} (h:l[a]? = some x):lsI (asI l) x+oc (asI l) x a=lf (asI l) a:=by
 obtain⟨h1,_⟩:=List.getElem?_eq_some_iff.1 h
 have e:gs (asI l) a=(x:Int):=gs_at (by unfold asI; rw[List.getElem?_map,h]; rfl)
 rw[lf_counts (by rw[asI_len]; exact h1),e]
theorem sum_le {l:List Nat} {a x:Nat} (ha:a≤l.length):lsI (asI l) x+oc (asI l) x a≤l.length:=by
 have h1:=lsI_oc_le (l:=asI l) (x:Int)
 have h2:=oc_mono (l:=asI l) (c:=(x:Int)) (j:=a) (k:=(asI l).length) (by rw[asI_len]; exact ha) (Nat.le_refl _)
 rw[asI_len] at h1 h2
 omega
structure Core (w:World) (F:Nat→Prop) (T:Nat) (A:Option Addr) (c:Nat) (l:List Nat):Prop where
 tr:W.Tr w F T 9 l
 less:Sl w F .i64 A 513 (asI (cnts (asI l) 9))
def Arr (w:World) (F:Nat→Prop) (b:Nat) (l:List Nat):Prop:=∃ (bw wd:Nat) (ws:List Nat),K.Raw w b bw wd l.length ws∧Go.Pk.Pk ws wd l∧F b∧F bw
structure Ix0 (w:World) (F:Nat→Prop) (b:Nat) (xss:List (List Int)) (l L:List Nat) (T c vb vk pb ob:Nat) (A:Option Addr):Prop where
 tab:W.Tab w
 byts:Byts xss
 small:(txt xss).length≤65536
 turned:Turned (txt xss) (asI l)
 sa:IsSA (txt xss) L
 core:Core w F T A c l
 at_:F b
 c0:w.cell? ⟨b,0,none⟩=some (.pointer (some ⟨T,0,none⟩))
 c1:w.cell? ⟨b,1,none⟩=some (.slice A 513 c)
 c2:w.cell? ⟨b,2,none⟩=some (.pointer (some ⟨vb,0,none⟩))
 c3:w.cell? ⟨b,3,none⟩=some (.pointer (some ⟨vk,0,none⟩))
 c4:w.cell? ⟨b,4,none⟩=some (.pointer (some ⟨pb,0,none⟩))
 c5:w.cell? ⟨b,5,none⟩=some (.pointer (some ⟨ob,0,none⟩))
 brd:W.Vec w F vb (brd (txt xss))
 knw:W.Vec w F vk (knw L)
 plcs:Arr w F pb (plcs L)
 ords:Arr w F ob (ords (asI l))
def Ix (w:World) (F:Nat→Prop) (b:Nat) (xss:List (List Int)):Prop:=∃ (l L:List Nat) (T c vb vk pb ob:Nat) (A:Option Addr),Ix0 w F b xss l L T c vb vk pb ob A
section
variable {w w':World} {F G S:Nat→Prop} {b T c vb vk pb ob:Nat} {A:Option Addr} {xss:List (List Int)} {l L:List Nat}
theorem Core.ch (h:Core w F T A c l) (hc:Ch S w w') (hF:∀ k,F k→k<w.heap.size→¬ S k):Core w' F T A c l:=⟨h.tr.ch hc hF,h.less.ch hc hF⟩
theorem Core.keep (h:Core w F T A c l) (hc:Ch (fun _=>False) w w'):Core w' F T A c l:=h.ch hc (fun _ _ _ h=>h)
theorem Arr.ch {l:List Nat} (h:Arr w F b l) (hc:Ch S w w') (hF:∀ k,F k→k<w.heap.size→¬ S k):Arr w' F b l:=by
 obtain⟨bw,wd,ws,h1,h2,h3,h4⟩:=h
 exact⟨bw,wd,ws,h1.ch hc (hF _ h3 h1.lts.1) (hF _ h4 h1.lts.2),h2,h3,h4⟩
theorem Arr.mono {l:List Nat} (h:Arr w F b l) (hF:∀ k,k<w.heap.size→F k→G k):Arr w G b l:=by
 obtain⟨bw,wd,ws,h1,h2,h3,h4⟩:=h
 exact⟨bw,wd,ws,h1,h2,hF _ h1.lts.1 h3,hF _ h1.lts.2 h4⟩
theorem Ix0.ch (h:Ix0 w F b xss l L T c vb vk pb ob A) (hc:Ch S w w') (hF:∀ k,F k→k<w.heap.size→¬ S k) (hS:¬ S 1):Ix0 w' F b xss l L T c vb vk pb ob A :=
 have hb:=hF b h.at_ (lt_of_cell h.c0)
 ⟨W.TabAt.keep hc h.tab hS,h.byts,h.small,h.turned,h.sa,h.core.ch hc hF,h.at_,hc.cell hb h.c0,hc.cell hb h.c1,hc.cell hb h.c2,hc.cell hb h.c3,hc.cell hb h.c4,hc.cell hb h.c5,h.brd.ch hc hF,h.knw.ch hc hF,h.plcs.ch hc hF,h.ords.ch hc hF⟩
theorem Ix0.keep (h:Ix0 w F b xss l L T c vb vk pb ob A) (hc:Ch (fun _=>False) w w'):Ix0 w' F b xss l L T c vb vk pb ob A:=h.ch hc (fun _ _ _ h=>h) (fun h=>h)
theorem Ix0.size (h:Ix0 w F b xss l L T c vb vk pb ob A):l.length=(txt xss).length:=by rw[←asI_len,h.turned.len]
theorem Ix.keep (h:Ix w F b xss) (hc:Ch (fun _=>False) w w'):Ix w' F b xss:=by
 obtain⟨l,L,T,c,vb,vk,pb,ob,A,h⟩:=h
 exact⟨l,L,T,c,vb,vk,pb,ob,A,h.keep hc⟩
theorem Ix.chS (h:Ix w F b xss) (hc:Ch S w w') (hF:∀ k,F k→k<w.heap.size→¬ S k) (hS:¬ S 1):Ix w' F b xss:=by
 obtain⟨l,L,T,c,vb,vk,pb,ob,A,h⟩:=h
 exact⟨l,L,T,c,vb,vk,pb,ob,A,h.ch hc hF hS⟩
theorem tab_lt (h:W.Tab w) : 1 < w.heap.size:=lt_of_cell (h 0 (by decide))
theorem Ix.mono (h:Ix w F b xss) (hF:∀ k,k<w.heap.size→F k→G k):Ix w G b xss:=by
 obtain⟨l,L,T,c,vb,vk,pb,ob,A,h⟩:=h
 exact⟨l,L,T,c,vb,vk,pb,ob,A,h.tab,h.byts,h.small,h.turned,h.sa,⟨h.core.tr.mono hF,h.core.less.mono (fun k hk=>hF k hk)⟩,hF b (lt_of_cell h.c0) h.at_,h.c0,h.c1,h.c2,h.c3,h.c4,h.c5,h.brd.mono hF,h.knw.mono hF,h.plcs.mono hF,h.ords.mono hF⟩
theorem Ix.small (h:Ix w F b xss):(txt xss).length≤65536:=by
 obtain⟨l,L,T,c,vb,vk,pb,ob,A,h⟩:=h
 exact h.small
end
section
variable {F:Nat→Prop}
theorem before_any (T c x a r:Nat) (A:Option Addr) (l:List Nat) (w:World) (h:Core w F T A c l) (hx:x<512) (ha:a≤l.length) (hr:lsI (asI l) x+oc (asI l) x a=r) :
  Calls Tryz.prog 127 #[.agg #[.pointer (some ⟨T,0,none⟩), .slice A 513 c], .int .i64 x, .int .i64 a] w fun e w'=>e = .returned (.int .i64 r)∧Ch (fun _=>False) w w':=by
 obtain⟨b,off,y,rfl,_,hy,hcy⟩:=h.less.at_ (show x<513 by omega)
 have hyv:=hy.out
 rw[less_get (by omega)] at hyv
 obtain rfl:=Option.some.inj hyv
 have hle:=sum_le (x:=x) ha
 have hsh:=h.tr.short
 have HM:Bx (((Go.Bi.rk (Go.Wa.hit l x) true a:Nat):Int)=(oc (asI l) x a:Nat)):=⟨by rw[hit_oc]⟩
 generalize lsI (asI l) (x:Int)=q at *
 generalize oc (asI l) (x:Int) a=m at *
 have HT:=Bx.mk h.tr
 subst hr
 clear hy hyv h ha
 go_enter Tryz.func127,Tryz.ntmps127
 go_wp2_with fail
 obtain⟨c0,c1⟩:=W.cells2 w (.pointer (some ⟨T,0,none⟩)) (.slice (some ⟨b,off,none⟩) 513 c) 125
 have hC1:=(Ch.refl (fun _=>False) w).alloc (.cells #[.pointer (some ⟨T,0,none⟩), .slice (some ⟨b,off,none⟩) 513 c] 125)
 have c2:=hC1.cell (fun h=>h) hcy
 have HT1:=Bx.mk (HT.out.keep hC1)
 have HC1:=Bx.mk hC1
 clear hC1 hcy HT
 generalize w.heap.size=B at *
 generalize World.alloc w _=w1 at *
 have hcc:=Ch.refl (fun _=>False) w1
 have i0:(x:Int)<513:=by omega
 have w5:IntKind.i64.wrap ((q:Int)+(m:Int))=(q:Int)+(m:Int):=by rw[IntKind.wrap_i64]; omega
 have w6:wrap64 ((q:Int)+(m:Int))=(q:Int)+(m:Int):=by unfold wrap64; omega
 go_region_held3 (fun w'=>w'.cell? ⟨B,0,none⟩=some (.pointer (some ⟨T,0,none⟩))∧w'.cell? ⟨B,1,none⟩=some (.slice (some ⟨b,off,none⟩) 513 c)∧w'.cell? ⟨b,off+x,none⟩=some (.int .i64 q)) (first | go_keep | exact s2 | exact⟨c0,c1,c2⟩) ((go_at_call 181; refine (W.trank_any T 9 l x a m _ (by first | exact HT1.out.keep hcc | exact HT1.out.keep hcc.drew | exact HT1.out) HM.out).mono ?_; rintro e w2 ⟨rfl,hc2⟩; have hcc:Ch (fun _=>False) w1 w2:=(by first | exact hcc.trans hc2 (fun _ _ h=>h) | exact hcc.drew.trans hc2 (fun _ _ h=>h)); have s2:w2.cell? ⟨B,0,none⟩=some (.pointer (some ⟨T,0,none⟩))∧w2.cell? ⟨B,1,none⟩=some (.slice (some ⟨b,off,none⟩) 513 c)∧w2.cell? ⟨b,off+x,none⟩=some (.int .i64 q):=⟨hcc.cell (fun h=>h) c0,hcc.cell (fun h=>h) c1,hcc.cell (fun h=>h) c2⟩))
 all_goals
  have HCC:=Bx.mk (HC1.out.trans hcc (fun _ _ h=>h))
  clear hcc hc2 s2 w5 w6
  go_wp2
  go_ret
  exact⟨ret_int (by push_cast; omega),HCC.out⟩
theorem ahead_any (T c a x f:Nat) (A:Option Addr) (l:List Nat) (w:World) (h:Core w F T A c l) (hx:l[a]? = some x) (hf:lf (asI l) a=f) :
  Calls Tryz.prog 88 #[.agg #[.pointer (some ⟨T,0,none⟩), .slice A 513 c], .int .i64 a] w fun e w'=>e = .returned (.tuple #[.int .i64 x, .int .i64 f])∧Ch (fun _=>False) w w':=by
 have hx9:x<512:=h.tr.lt x (List.mem_of_getElem? hx)
 have hal:a≤l.length:=by
  obtain⟨h1,_⟩:=List.getElem?_eq_some_iff.1 hx
  omega
 have HF:=Bx.mk ((lf_sum hx).trans hf)
 have HX:=Bx.mk hx
 have HH:=Bx.mk h
 clear h hx hf
 go_enter Tryz.func88,Tryz.ntmps88
 go_wp2_with fail
 obtain⟨c0,c1⟩:=W.cells2 w (.pointer (some ⟨T,0,none⟩)) (.slice A 513 c) 125
 have hC1:=(Ch.refl (fun _=>False) w).alloc (.cells #[.pointer (some ⟨T,0,none⟩), .slice A 513 c] 125)
 have HH1:=Bx.mk (HH.out.keep hC1)
 have HC1:=Bx.mk hC1
 clear hC1 HH
 generalize w.heap.size=B at *
 generalize World.alloc w _=w1 at *
 refine (W.tget_in T 9 a x l _ HH1.out.tr HX.out).mono ?_
 rintro e w2 ⟨rfl,hC2⟩
 have d0:=hC2.cell (fun h=>h) c0
 have d1:=hC2.cell (fun h=>h) c1
 have HH2:=Bx.mk (HH1.out.keep hC2)
 have HC2:=Bx.mk (HC1.out.trans hC2 (fun _ _ h=>h))
 clear hC2 c0 c1 HC1 HH1
 go_wp2_with fail
 refine (before_any T c x a f A l _ HH2.out hx9 hal HF.out).mono ?_
 rintro e w3 ⟨rfl,hC3⟩
 have HC3:=Bx.mk (HC2.out.trans hC3 (fun _ _ h=>h))
 clear hC3 HC2
 go_wp2
 go_returns
 exact⟨rfl,HC3.out⟩
end
end
section
open Go.RowKit Go.Oct Go.Su
section
variable {F:Nat→Prop}
theorem vrank_val (b:Nat) (l:List Bool) (o:Bool) (i r:Int) (w:World) (h:W.Vec w F b l) (hr:((Go.Bi.rk l o i:Nat):Int)=r) :
  Calls Tryz.prog 83 #[.pointer (some ⟨b,0,none⟩), .bool o, .int .i64 i] w fun e w'=>e = .returned (.int .i64 r)∧w=w':=by
 subst hr
 exact W.rank_any b l o i w h
theorem vsel_val (b:Nat) (l:List Bool) (o:Bool) (k r:Int) (w:World) (h:W.Vec w F b l) (hT:W.Tab w) (hr:Go.Bi.sel l o k=r) :
  Calls Tryz.prog 109 #[.pointer (some ⟨b,0,none⟩), .bool o, .int .i64 k] w fun e w'=>e = .returned (.int .i64 r)∧Ch (fun _=>False) w w':=by
 subst hr
 exact W.select_any b l o k w h hT
theorem vget_val (b i:Nat) (l:List Bool) (o:Bool) (w:World) (h:W.Vec w F b l) (ho:l[i]? = some o) :
  Calls Tryz.prog 128 #[.pointer (some ⟨b,0,none⟩), .int .i64 i] w fun e w'=>e = .returned (.bool o)∧w=w':=by
 rw[←W.bitAt_in ho]
 exact W.get_any b l i w h
theorem vones_val (b n:Nat) (l:List Bool) (w:World) (h:W.Vec w F b l) (hn:l.count true=n) :
  Calls Tryz.prog 86 #[.pointer (some ⟨b,0,none⟩)] w fun e w'=>e = .returned (.int .i64 n)∧w=w':=by
 subst hn
 exact W.ones_any b l w h
theorem arr_get (b i x:Nat) (l:List Nat) (w:World) (h:Arr w F b l) (hx:l[i]? = some x) :
  Calls Tryz.prog 129 #[.pointer (some ⟨b,0,none⟩), .int .i64 i] w fun e w'=>e = .returned (.int .u64 x)∧w=w':=by
 obtain⟨bw,wd,ws,h1,h2,_,_⟩:=h
 obtain⟨h3,h4⟩:=List.getElem?_eq_some_iff.1 hx
 have e:l.getD i 0=x:=by rw[List.getD_eq_getElem?_getD,hx]; rfl
 rw[←e]
 exact K.get_in b bw wd l.length ws l i w h1 h2 rfl h3
theorem arr_len (b n:Nat) (l:List Nat) (w:World) (h:Arr w F b l) (hn:l.length=n) :
  Calls Tryz.prog 133 #[.pointer (some ⟨b,0,none⟩)] w fun e w'=>e = .returned (.int .i64 n)∧w=w':=by
 obtain⟨bw,wd,ws,h1,h2,_,_⟩:=h
 subst hn
 exact K.len_any b bw wd l.length ws w h1
variable {b T c vb vk pb ob:Nat} {A:Option Addr} {xss:List (List Int)} {l L:List Nat}
theorem Ix0.lt {w:World} (h:Ix0 w F b xss l L T c vb vk pb ob A) {a x:Nat} (hx:L[a]? = some x):a<l.length∧x<l.length∧l.length≤65536:=by
 obtain⟨h1,_⟩:=List.getElem?_eq_some_iff.1 hx
 have h2:=h.sa.len
 have h3:=(h.sa.mem x).1 (List.mem_of_getElem? hx)
 have h4:=h.small
 have h5:=h.size
 omega
theorem sym_some {l:List Nat} {a:Nat} (h:a<l.length):∃ x:Nat,l[a]? = some x∧gs (asI l) a=(x:Int):=⟨l[a],List.getElem?_eq_getElem h,gs_at (by unfold asI; rw[List.getElem?_map,List.getElem?_eq_getElem h]; rfl)⟩
theorem place_any (a x:Nat) (w:World) (h:Ix0 w F b xss l L T c vb vk pb ob A) (hx:L[a]? = some x) :
  Calls Tryz.prog 81 #[.pointer (some ⟨b,0,none⟩), .int .i64 a] w fun e w'=>e = .returned (.int .i64 x)∧Ch (fun _=>False) w w':=by
 have HH:=Bx.mk h
 have HX:=Bx.mk hx
 have hxl:=(h.lt hx).2
 clear h hx
 go_enter Tryz.func81,Tryz.ntmps81
 go_wp2_with fail
 go_loopw [1,5] (fun av sv wr=>∃ j y k:Nat,av = .int .i64 j∧sv = .int .i64 k∧Bx (L[j]? = some y)∧y+k=x∧Ch (fun _=>False) w wr) (fun _ sv _=>x-(intOf sv).toNat)
 case atStart=>exact⟨a,x,0,rfl,rfl,HX,rfl,Ch.refl _ _⟩
 case round =>
  obtain⟨j,y,k,rfl,rfl,hy,hyk,hC⟩:=hrel
  have HR:=Bx.mk (HH.out.keep hC)
  have HC:=Bx.mk hC
  have c0:=HR.out.c0
  have c1:=HR.out.c1
  have c3:=HR.out.c3
  have c4:=HR.out.c4
  have HK:=Bx.mk (knw_at hy.out)
  clear hC
  by_cases h8:y%8=0
  ·have HK8:Bx ((knw L)[j]? = some true):=⟨by rw[HK.out]; simp[h8]⟩
   have HP:=Bx.mk (plcs_at hy.out h8)
   obtain⟨r,hr⟩:∃ r:Nat,Go.Bi.rk (knw L) true j=r:=⟨_,rfl⟩
   have HRK:Bx (((Go.Bi.rk (knw L) true (j:Nat):Nat):Int)=(r:Nat)):=⟨by rw[hr]⟩
   rw[hr] at HP
   obtain⟨q,hq⟩:∃ q,y/8=q:=⟨_,rfl⟩
   rw[hq] at HP
   clear HK hr
   go_wp2_with fail
   refine (vget_val vk j (knw L) true _ HR.out.knw HK8.out).mono ?_
   rintro e w' ⟨rfl,rfl⟩
   go_wp2_with fail
   have w1:IntKind.i64.wrap ((q:Int)*8)=(q:Int)*8:=by rw[IntKind.wrap_i64]; omega
   have w2:IntKind.i64.wrap ((q:Int)*8+(k:Int))=(q:Int)*8+(k:Int):=by rw[IntKind.wrap_i64]; omega
   have w3:wrap64 ((q:Int)*8)=(q:Int)*8:=by unfold wrap64; omega
   have w4:wrap64 ((q:Int)*8+(k:Int))=(q:Int)*8+(k:Int):=by unfold wrap64; omega
   have w5:IntKind.i64.wrap (q:Int)=(q:Int):=by rw[IntKind.wrap_i64]; omega
   go_region_held3 (fun w'=>w'.cell? ⟨b,3,none⟩=some (.pointer (some ⟨vk,0,none⟩))∧w'.cell? ⟨b,4,none⟩=some (.pointer (some ⟨pb,0,none⟩))) (first | go_keep | exact⟨c3,c4⟩) (first | (go_at_call 83; refine (vrank_val vk (knw L) true j r _ (by exact HR.out.knw.drewN 1) HRK.out).mono ?_; rintro e w' ⟨rfl,rfl⟩) | (go_at_call 129; refine (arr_get pb r q (plcs L) _ (by exact HR.out.plcs.ch ((Ch.refl (fun _=>False) _).drewN 1) (fun _ _ _ h=>h)) HP.out).mono ?_; rintro e w' ⟨rfl,rfl⟩))
   all_goals
    clear w1 w2 w3 w4 w5
    go_wp2
    go_ret
    exact⟨ret_int (by omega),HC.out.drew⟩
  ·obtain⟨y,rfl⟩:∃ z,y=z+1:=⟨y-1,by omega⟩
   have HK8:Bx ((knw L)[j]? = some false):=⟨by rw[HK.out]; simp[h8]⟩
   have HL:=Bx.mk (HR.out.turned.longer HR.out.sa hy.out)
   have hjl:=(HR.out.lt hy.out).1
   obtain⟨s,hs,_⟩:=sym_some hjl
   have HS:=Bx.mk hs
   obtain⟨f,hf⟩:∃ f,lf (asI l) j=f:=⟨_,rfl⟩
   have HF:=Bx.mk hf
   rw[hf] at HL
   clear HK hs hf
   go_wp2_with fail
   refine (vget_val vk j (knw L) false _ HR.out.knw HK8.out).mono ?_
   rintro e w' ⟨rfl,rfl⟩
   go_wp2_with fail
   refine (ahead_any T c j s f A l _ HR.out.core HS.out HF.out).mono ?_
   rintro e w2 ⟨rfl,hC2⟩
   have HC2:=Bx.mk (HC.out.trans hC2 (fun _ _ h=>h))
   clear hC2
   go_wp2
   go_roundw
   case rel=>exact⟨f,y,k+1,rfl,by go_num,HL,by omega,HC2.out⟩
   case measure=>simp[intOf]; omega
end
end
section
open Go.RowKit Go.Oct Go.Su
section
variable {F:Nat→Prop} {b T c vb vk pb ob:Nat} {A:Option Addr} {xss:List (List Int)} {l L:List Nat}
theorem beg_small (xss:List (List Int)) {d:Nat} (hd:d<xss.length):beg xss d+(xss.getD d []).length<(txt xss).length∧d<(txt xss).length:=by
 have h1:=beg_lt (a:=(xss.getD d []).length) hd (Nat.le_refl _)
 have h2:∀ d,d≤xss.length→d≤beg xss d:=fun d=>by
  induction d with
  | zero=>intro _; omega
  | succ d ih =>
   intro h
   have:=ih (by omega)
   rw[beg_next xss d (by omega)]
   omega
 have h3:=h2 d (by omega)
 rw[txt_len]
 omega
theorem start_any (d s:Nat) (w:World) (h:Ix0 w F b xss l L T c vb vk pb ob A) (hd:d<xss.length) (hs:beg xss d=s) :
  Calls Tryz.prog 84 #[.pointer (some ⟨b,0,none⟩), .int .i64 d] w fun e w'=>e = .returned (.int .i64 s)∧Ch (fun _=>False) w w':=by
 have HH:=Bx.mk h
 have hsm:=h.small
 obtain⟨h1,h2⟩:=beg_small xss hd
 have c2:=h.c2
 have HS:Bx (Go.Bi.sel (brd (txt xss)) true ((d:Int)-1)=(s:Int)-1):=⟨by
  have:=brd_start h.byts.pos hd
  rw[hs] at this
  omega⟩
 have hs1:s≤65536:=by omega
 have hd1:d≤65536:=by omega
 clear h hs h1 h2 hsm
 go_enter Tryz.func84,Tryz.ntmps84
 go_wp2_with fail
 refine (vsel_val vb (brd (txt xss)) true ((d:Int)-1) ((s:Int)-1) _ HH.out.brd HH.out.tab HS.out).mono ?_
 rintro e w2 ⟨rfl,hC2⟩
 have HC2:=Bx.mk hC2
 clear hC2
 go_wp2
 go_ret
 exact⟨ret_int (by omega),HC2.out⟩
theorem order_any (p a:Nat) (w:World) (h:Ix0 w F b xss l L T c vb vk pb ob A) (hx:L[a]? = some p) :
  Calls Tryz.prog 87 #[.pointer (some ⟨b,0,none⟩), .int .i64 p] w fun e w'=>e = .returned (.int .i64 a)∧Ch (fun _=>False) w w':=by
 have HH:=Bx.mk h
 have HX:=Bx.mk hx
 obtain⟨_,hpn,hn⟩:=h.lt hx
 have c0:=h.c0
 have c1:=h.c1
 have c5:=h.c5
 have HQ:Bx ((ords (asI l)).length=smp l.length):=⟨by rw[ords_len,asI_len]⟩
 obtain⟨n,hN⟩:∃ n,l.length=n:=⟨_,rfl⟩
 have HN:=Bx.mk hN
 rw[hN] at hpn hn HQ
 obtain⟨m,hM⟩:∃ m,smp n=m:=⟨_,rfl⟩
 have HM:=Bx.mk hM
 rw[hM] at HQ
 have hm:m≤8192:=by unfold smp at hM; omega
 obtain⟨q,hQ⟩:∃ q,(p+7)/8=q:=⟨_,rfl⟩
 have hq8:p≤8*q∧8*q<p+8:=by omega
 have hdiv:((p:Int)+8-1)/8=(q:Int):=by omega
 clear h hx hN hM hQ
 by_cases hlt:q<m
 ·have h8:8*q<n:=smp_lt (by rw[HM.out]; exact hlt)
  have HST:Bx (L[way (asI l) (n-1-8*q)]? = some (8*q)):=⟨by
   have:=way_at HH.out.turned HH.out.sa (x:=8*q) (by rw[←HH.out.size,HN.out]; exact h8)
   rwa[asI_len,HN.out] at this⟩
  have HO:Bx ((ords (asI l))[q]? = some (way (asI l) (n-1-8*q))):=⟨by rw[ords_get (by rw[asI_len,HN.out,HM.out]; exact hlt),asI_len,HN.out]⟩
  have hj0:way (asI l) (n-1-8*q)<65536:=by
   have:=(HH.out.lt HST.out).1
   rw[HN.out] at this
   omega
  generalize way (asI l) (n-1-8*q)=j0 at *
  have dlt:decide ((q:Int)<(m:Int))=true:=by simp; omega
  go_enter Tryz.func87,Tryz.ntmps87
  go_wp2_with fail
  refine (W.tlen_any T 9 n l _ HH.out.core.tr HN.out).mono ?_
  rintro e w' ⟨rfl,rfl⟩
  go_wp2_with fail
  refine (arr_len ob m (ords (asI l)) _ HH.out.ords HQ.out).mono ?_
  rintro e w' ⟨rfl,rfl⟩
  go_wp2_with fail
  refine (arr_get ob q j0 (ords (asI l)) _ HH.out.ords HO.out).mono ?_
  rintro e w' ⟨rfl,rfl⟩
  go_wp2_with fail
  go_loopw [5,6] (fun av fv wr=>∃ j f:Nat,av = .int .i64 j∧fv = .int .i64 f∧Bx (L[j]? = some f)∧p≤f∧f<n∧Ch (fun _=>False) w wr) (fun _ fv _=>(intOf fv).toNat-p)
  case atStart=>exact⟨j0,8*q,rfl,congrArg (Value.int .i64) (by push_cast; omega),HST,by omega,by omega,Ch.refl _ _⟩
  case round =>
   obtain⟨j,f,rfl,rfl,hj,hpf,hfn,hC⟩:=hrel
   have HR:=Bx.mk (HH.out.keep hC)
   have HC:=Bx.mk hC
   have c0:=HR.out.c0
   have c1:=HR.out.c1
   clear hC
   by_cases hlt:p<f
   ·obtain⟨f,rfl⟩:∃ z,f=z+1:=⟨f-1,by omega⟩
    have HL:=Bx.mk (HR.out.turned.longer HR.out.sa hj.out)
    obtain⟨s,hs,_⟩:=sym_some (HR.out.lt hj.out).1
    have HS:=Bx.mk hs
    obtain⟨g,hg⟩:∃ g,lf (asI l) j=g:=⟨_,rfl⟩
    have HG:=Bx.mk hg
    rw[hg] at HL
    clear hs hg hj
    have dlt:decide ((p:Int)<((f+1:Nat):Int))=true:=by simp; omega
    go_wp2_with fail
    refine (ahead_any T c j s g A l _ HR.out.core HS.out HG.out).mono ?_
    rintro e w2 ⟨rfl,hC2⟩
    have HC2:=Bx.mk (HC.out.trans hC2 (fun _ _ h=>h))
    clear hC2
    go_wp2
    go_roundw
    case rel=>exact⟨g,f,rfl,by go_num,HL,by omega,by omega,HC2.out⟩
    case measure=>simp[intOf]; omega
   ·obtain rfl:f=p:=by omega
    obtain rfl:j=a:=at_one HH.out.sa.nodup hj.out HX.out
    go_wp2
    go_ret
    exact⟨rfl,HC.out⟩
 ·have h8:n≤8*q:=by
   have:=HM.out
   unfold smp at this
   omega
  have HST:Bx (L[0]? = some (n-1)):=⟨by
   have:=HH.out.turned.closed.first HH.out.sa
   rwa[←HH.out.size,HN.out] at this⟩
  have dlt:decide ((q:Int)<(m:Int))=false:=by simp; omega
  obtain⟨n,rfl⟩:∃ z,n=z+1:=⟨n-1,by omega⟩
  rw[Nat.add_sub_cancel] at HST
  go_enter Tryz.func87,Tryz.ntmps87
  go_wp2_with fail
  refine (W.tlen_any T 9 (n+1) l _ HH.out.core.tr HN.out).mono ?_
  rintro e w' ⟨rfl,rfl⟩
  go_wp2_with fail
  refine (arr_len ob m (ords (asI l)) _ HH.out.ords HQ.out).mono ?_
  rintro e w' ⟨rfl,rfl⟩
  go_wp2_with fail
  go_loopw [5,6] (fun av fv wr=>∃ j f:Nat,av = .int .i64 j∧fv = .int .i64 f∧Bx (L[j]? = some f)∧p≤f∧f<n+1∧Ch (fun _=>False) w wr) (fun _ fv _=>(intOf fv).toNat-p)
  case atStart=>exact⟨_,_,rfl,rfl,HST,by omega,by omega,Ch.refl _ _⟩
  case round =>
   obtain⟨j,f,rfl,rfl,hj,hpf,hfn,hC⟩:=hrel
   have HR:=Bx.mk (HH.out.keep hC)
   have HC:=Bx.mk hC
   have c0:=HR.out.c0
   have c1:=HR.out.c1
   clear hC
   by_cases hlt:p<f
   ·obtain⟨f,rfl⟩:∃ z,f=z+1:=⟨f-1,by omega⟩
    have HL:=Bx.mk (HR.out.turned.longer HR.out.sa hj.out)
    obtain⟨s,hs,_⟩:=sym_some (HR.out.lt hj.out).1
    have HS:=Bx.mk hs
    obtain⟨g,hg⟩:∃ g,lf (asI l) j=g:=⟨_,rfl⟩
    have HG:=Bx.mk hg
    rw[hg] at HL
    clear hs hg hj
    have dlt:decide ((p:Int)<((f+1:Nat):Int))=true:=by simp; omega
    go_wp2_with fail
    refine (ahead_any T c j s g A l _ HR.out.core HS.out HG.out).mono ?_
    rintro e w2 ⟨rfl,hC2⟩
    have HC2:=Bx.mk (HC.out.trans hC2 (fun _ _ h=>h))
    clear hC2
    go_wp2
    go_roundw
    case rel=>exact⟨g,f,rfl,by go_num,HL,by omega,by omega,HC2.out⟩
    case measure=>simp[intOf]; omega
   ·obtain rfl:f=p:=by omega
    obtain rfl:j=a:=at_one HH.out.sa.nodup hj.out HX.out
    go_wp2
    go_ret
    exact⟨rfl,HC.out⟩
end
end
end Go.Proofs.YtambgjpfoceieaaGreatDoor.X
namespace Go.Su
section
variable {s:List Int} {L:List Nat} {p:List Int}
def up2 (p:List Int):List Int:=p.map fun b=>b+2
theorem pre_drop {x k:Nat} (h:Pre s x (up2 p)):Pre s (x+k) (up2 (p.drop k)):=fun j hj=>by
 unfold up2 at *
 rw[List.length_map,List.length_drop] at hj
 have h1:=h (k+j) (by rw[List.length_map]; omega)
 rw[Nat.add_assoc,h1,gs_at (by rw[List.getElem?_map,gs_some (by omega)]; rfl),gs_at (s:=(p.drop k).map fun b=>b+2) (p:=j) (by rw[List.getElem?_map,List.getElem?_drop,gs_some (by omega)]; rfl)]
theorem rng_none {k lo:Nat} (h:IsSA s L) (r:Rng s L (up2 (p.drop k)) lo lo) (hk:k<p.length) (hp:∀ b∈p,0≤b):Rng s L (up2 p) lo lo:=by
 refine⟨r.1,r.2.1,fun i x _=>⟨fun hx=>?_,fun ⟨h1,h2⟩=>absurd h2 (by omega)⟩⟩
 have h1:=pre_drop (k:=k) hx
 have h2:=h1 0 (by unfold up2; rw[List.length_map,List.length_drop]; omega)
 have h3:gs (up2 (p.drop k)) 0=gs p k+2:=gs_at (by unfold up2; rw[List.getElem?_map,List.getElem?_drop,Nat.add_zero,gs_some hk]; rfl)
 have h4:0≤gs p k:=hp _ (List.mem_of_getElem? (gs_some hk))
 have h5:x+k<s.length:=by
  rcases Nat.lt_or_ge (x+k) s.length with g | g
  ·exact g
  ·rw[Nat.add_zero,gs_out g] at h2
   omega
 obtain⟨i2,hi2⟩:=h.find h5
 obtain⟨g1,g2⟩:=(r.2.2 i2 _ hi2).1 h1
 omega
theorem rng_more {l:List Int} (t:Turned s l) (h:IsSA s L) {k lo hi x:Nat} (r:Rng s L (up2 (p.drop (k+1))) lo hi) (hk:k<p.length) (hx:gs p k+2=(x:Int)) (h0:0<x):Rng s L (up2 (p.drop k)) (lsI l x+oc l x lo) (lsI l x+oc l x hi):=by
 have e:up2 (p.drop k)=(x:Int)::up2 (p.drop (k+1)):=by
  unfold up2
  rw[List.drop_eq_getElem_cons hk,List.map_cons,←gs_at (List.getElem?_eq_getElem hk),hx]
 rw[e]
 exact r.step t h (by omega)
end
end Go.Su
namespace Go.Proofs.YtambgjpfoceieaaGreatDoor.X
open Go.RowKit Go.Oct Go.Su
section
variable {F G:Nat→Prop} {b T c vb vk pb ob:Nat} {A:Option Addr} {xss:List (List Int)} {l L:List Nat}
theorem symbol_any (y x:Int) (w:World) (h0:0≤y) (h1:y<256) (hx:y+2=x) :
  Calls Tryz.prog 126 #[.int .u8 y] w fun e w'=>e = .returned (.int .i64 x)∧w=w':=by
 subst hx
 go_enter Tryz.func126,Tryz.ntmps126
 go_wp2
 go_ret
 exact⟨rfl,rfl⟩
theorem before_is (T c x a:Nat) (A:Option Addr) (l:List Nat) (w:World) (h:Core w F T A c l) (hx:x<512) (ha:a≤l.length) :
  Calls Tryz.prog 127 #[.agg #[.pointer (some ⟨T,0,none⟩), .slice A 513 c], .int .i64 x, .int .i64 a] w fun e w'=>e = .returned (.int .i64 (lsI (asI l) x+oc (asI l) x a:Nat))∧Ch (fun _=>False) w w':=before_any T c x a _ A l w h hx ha rfl
def SeekPost (xss:List (List Int)) (L:List Nat) (p:List Int) (w:World) (e:Ending) (w':World):Prop:=∃ lo hi:Nat,e = .returned (.tuple #[.int .i64 lo, .int .i64 hi])∧Rng (txt xss) L (up2 p) lo hi∧Ch (fun _=>False) w w'
theorem seek_any (p:List Int) (B:Option Addr) (m d:Nat) (w:World) (h:Ix0 w F b xss l L T c vb vk pb ob A) (hp:Sl w G .u8 B m p) (hb:∀ x∈p,0≤x∧x<256) (hm:m≤1048576) (h0:0<m) :
  Calls Tryz.prog 80 #[.pointer (some ⟨b,0,none⟩), .slice B m d] w (SeekPost xss L p w):=by
 have HH:=Bx.mk h
 have HP:=Bx.mk hp
 have HL:=Bx.mk hp.len
 have HB:=Bx.mk hb
 have c0:=h.c0
 have hsz:=h.size
 have hsm:=h.small
 obtain⟨n,hN⟩:∃ n,l.length=n:=⟨_,rfl⟩
 have HN:=Bx.mk hN
 have HNS:=Bx.mk (hsz.symm.trans hN)
 have hn:n≤65536:=by omega
 have HR0:Bx (Rng (txt xss) L (up2 (p.drop m)) 0 n):=⟨by
  rw[List.drop_of_length_le (by rw[hp.len]; exact Nat.le_refl _),←HNS.out]
  exact rng_start h.sa⟩
 have dm:decide ((m:Int)=0)=false:=by simp; omega
 have dm2:((m:Int)==0)=false:=by simp; omega
 clear h hp hb hsz hsm hN
 go_enter Tryz.func80,Tryz.ntmps80
 go_wp2_with (go_at_call 125; refine (W.tlen_any T 9 n l _ HH.out.core.tr HN.out).mono ?_; rintro e w' ⟨rfl,rfl⟩)
 go_loopw [4,5,6,7] (fun f t i _ wr=>∃ k lo hi:Nat,k≤m∧i = .int .i64 ((k:Int)-1)∧f = .int .i64 lo∧t = .int .i64 hi∧Bx (Rng (txt xss) L (up2 (p.drop k)) lo hi)∧(k=m→lo<hi)∧Ch (fun _=>False) w wr) (fun _ _ i _ _=>(intOf i+1).toNat)
 case atStart=>exact⟨m,0,n,Nat.le_refl _,rfl,rfl,rfl,HR0,fun _=>by have:=HH.out.turned.closed.full; rw[←HNS.out]; exact this,Ch.refl _ _⟩
 case round =>
  obtain⟨k,lo,hi,hk,rfl,rfl,rfl,hR,hfull,hC⟩:=hrel
  have HC:=Bx.mk hC
  have hlh:=hR.out.1
  have hhn:=hR.out.2.1
  rw[HNS.out] at hhn
  clear hC
  rcases k with _ | k
  ·have e0:up2 (p.drop 0)=up2 p:=by rw[List.drop_zero]
   have HE:=Bx.mk e0
   clear e0
   go_wp2
   go_returns
   exact⟨lo,hi,rfl,by rw[←HE.out]; exact hR.out,HC.out⟩
  ·have ek:(((k+1:Nat):Int)-1)=(k:Int):=by omega
   rw[ek]
   by_cases hlt:lo<hi
   ·have dlt:decide ((lo:Int)<(hi:Int))=true:=by simp; omega
    have dlt2:decide (lo<hi)=true:=by simp; omega
    have HR1:=Bx.mk (HH.out.keep HC.out)
    have d0:=HR1.out.c0
    have d1:=HR1.out.c1
    obtain⟨b1,o1,y,rfl,_,hy,hcy⟩:=(HP.out.ch HC.out (fun _ _ _ h=>h)).at_ (show k<m by omega)
    obtain⟨y0,y1⟩:=HB.out y (List.mem_of_getElem? hy.out)
    obtain⟨x,hx⟩:∃ x:Nat,y+2=(x:Int):=⟨(y+2).toNat,by omega⟩
    have HX:=Bx.mk hx
    have hx5:x<512∧0<x:=by omega
    have HSTEP:=Bx.mk (rng_more HR1.out.turned HR1.out.sa hR.out (by rw[HL.out]; omega) (by rw[gs_at hy.out]; exact hx) hx5.2)
    have i1:(k:Int)<(m:Int):=by omega
    have i2:(0:Int)≤(k:Int):=by omega
    have h1:lo≤l.length:=by rw[HN.out]; omega
    have h2:hi≤l.length:=by rw[HN.out]; omega
    have H1:=Bx.mk h1
    have H2:=Bx.mk h2
    clear hy hx hR h1 h2
    go_wp2_with (go_at_call 126; refine (symbol_any y x _ y0 y1 HX.out).mono ?_; rintro e w' ⟨rfl,rfl⟩)
    obtain⟨wo,rfl⟩:∃ wo:World,wo=wr:=⟨_,rfl⟩
    have hcc:=Ch.refl (fun _=>False) wo
    go_region_held3 (fun w'=>w'.cell? ⟨b,0,none⟩=some (.pointer (some ⟨T,0,none⟩))∧w'.cell? ⟨b,1,none⟩=some (.slice A 513 c)) (first | go_keep | exact s2 | exact⟨d0,d1⟩) ((go_at_call 127; refine (before_is T c x _ A l _ (by first | exact HR1.out.core.keep hcc | exact HR1.out.core.keep hcc.drew | exact HR1.out.core.keep ((Ch.refl (fun _=>False) _).drewN 1)) hx5.1 (by first | exact H1.out | exact H2.out)).mono ?_; rintro e w2 ⟨rfl,hc2⟩; have hcc:Ch (fun _=>False) wo w2:=(by first | exact hcc.trans hc2 (fun _ _ h=>h) | exact hcc.drew.trans hc2 (fun _ _ h=>h)); have s2:w2.cell? ⟨b,0,none⟩=some (.pointer (some ⟨T,0,none⟩))∧w2.cell? ⟨b,1,none⟩=some (.slice A 513 c):=⟨hcc.cell (fun h=>h) d0,hcc.cell (fun h=>h) d1⟩))
    all_goals
     have HCC:=Bx.mk (HC.out.trans hcc (fun _ _ h=>h))
     clear hcc hc2 s2
     go_wp2
     go_roundw
     case rel=>exact⟨k,_,_,by omega,rfl,rfl,rfl,HSTEP,by omega,HCC.out⟩
     case measure=>simp[intOf]
   ·obtain rfl:lo=hi:=by omega
    have dlt:decide ((lo:Int)<(lo:Int))=false:=by simp
    have hkm:k+1<m:=by
     rcases Nat.lt_or_ge (k+1) m with g | g
     ·exact g
     ·exact absurd (hfull (by omega)) (by omega)
    have HRF:=Bx.mk (rng_none HH.out.sa hR.out (by rw[HL.out]; exact hkm) (fun b hb=>(HB.out b hb).1))
    clear hR
    go_wp2
    go_returns
    exact⟨lo,lo,rfl,HRF.out,HC.out⟩
theorem seek_none (B:Option Addr) (d:Nat) (w:World) :
  Calls Tryz.prog 80 #[.pointer (some ⟨b,0,none⟩), .slice B 0 d] w fun e w'=>e = .returned (.tuple #[.int .i64 0, .int .i64 0])∧w=w':=by
 go_enter Tryz.func80,Tryz.ntmps80
 go_wp2
 go_returns
 exact⟨rfl,rfl⟩
theorem count_any {w:World} (h:Ix w F b xss) (p:List Int) (B:Option Addr) (m d:Nat) (hp:Sl w G .u8 B m p) (hb:∀ x∈p,0≤x∧x<256) (hm:m≤1048576) :
  Calls Tryz.prog 30 #[.pointer (some ⟨b,0,none⟩), .slice B m d] w fun e w'=>e = .returned (.int .i64 ((locs xss p 0).length:Nat))∧Ch (fun _=>False) w w':=by
 obtain⟨l,L,T,c,vb,vk,pb,ob,A,h⟩:=h
 have HH:=Bx.mk h
 have HP:=Bx.mk hp
 rcases m with _ | m
 ·have e0:(locs xss p 0).length=0:=by
   rw[List.length_eq_zero_iff.1 hp.len,locs_empty]
   rfl
  rw[e0]
  clear h hp
  go_enter Tryz.func30,Tryz.ntmps30
  go_wp2_with fail
  refine (seek_none B d _).mono ?_
  rintro e w' ⟨rfl,rfl⟩
  go_wp2
  go_ret
  exact⟨rfl,Ch.refl _ _⟩
 ·have hne:p≠[]:=fun e=>by
   have:=hp.len
   rw[e] at this
   simp at this
  have HC0:=Bx.mk fun lo hi (r:Rng (txt xss) L (up2 p) lo hi)=>locs_count h.byts.pos (fun b hb'=>(hb b hb').1) hne h.sa r
  have hn:(txt xss).length≤65536:=h.small
  have hs:=seek_any p B (m+1) d w h hp hb hm (by omega)
  clear h hp hb
  go_enter Tryz.func30,Tryz.ntmps30
  go_wp2_with fail
  refine hs.mono ?_
  rintro e w2 ⟨lo,hi,rfl,hr,hC⟩
  have HC1:=Bx.mk (HC0.out lo hi hr)
  have hlh:=hr.1
  have hhn:=hr.2.1
  have HC:=Bx.mk hC
  have hi2:hi≤65536:=by omega
  clear hr hC hs hhn hn
  go_wp2
  go_ret
  exact⟨ret_int (by rw[HC1.out]; omega),HC.out⟩
end
end Go.Proofs.YtambgjpfoceieaaGreatDoor.X
