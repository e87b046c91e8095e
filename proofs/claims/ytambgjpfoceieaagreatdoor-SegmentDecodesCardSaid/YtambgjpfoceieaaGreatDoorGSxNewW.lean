/- Lemmas and contracts of this proof. Conditions: said at each. -/
import Derived.Test.YtambgjpfoceieaaGreatDoorGFxIndex
import Derived.Test.YtambgjpfoceieaaGreatDoorGSgMrgW
import Derived.Test.YtambgjpfoceieaaGreatDoorGSxKeys
set_option maxHeartbeats 8000000
set_option maxRecDepth 100000
namespace Go.Proofs.YtambgjpfoceieaaGreatDoor
section
open Go.RowKit Go.Oct Go.Su Go.Sg Go.Fr
section
variable {F:Nat→Prop}
theorem newlong_any (A:Option Addr) (n c:Nat) (w:World) (o:Bool) (ho:decide (4096<n)=o):Calls Tryz.prog 47 #[.slice A n c] w fun e w'=>e = .returned (.bool o)∧w=w':=by
 have HO:Bx (decide ((4096:Int)<(n:Int))=o):=⟨by rw[←ho,decide_eq_decide]; omega⟩
 clear ho
 go_enter Tryz.func47,Tryz.ntmps47
 go_wp2
 go_ret
 exact⟨ret_bool HO.out,rfl⟩
theorem indexlong_any (xss:List (List Int)) (A:Option Addr) (n c:Nat) (w:World) (hz:Sls w F A n xss) (hn:n≤1048576) :
  Calls Tryz.prog 95 #[.slice A n c, .func (.func 47) #[] #[]] w fun e w'=>∃ z:Int,e = .returned (.int .i64 z)∧(0≤z↔∃ t∈xss,4096<t.length) ∧ -1≤z∧z≤1048576∧w=w':=by
 have HL:=Bx.mk hz.len
 have HZ:=Bx.mk hz
 have eg:∀ args w,(callFunc 47 args).run Tryz.prog w = .ok (.enter 47 args) w:=enters_of Tryz.func47 (by kernel_rfl) rfl
 clear hz
 go_enter Tryz.func95,Tryz.ntmps95
 go_wp2_with fail
 go_loop [5,8] (fun _ i=>∃ k:Nat,k≤n∧i = .int .i64 k∧Bx (∀ j t,j<k→xss[j]? = some t→t.length≤4096)) (fun _ i=>n-(intOf i).toNat)
 case atStart=>exact⟨0,Nat.zero_le _,rfl,⟨fun j t h=>by omega⟩⟩
 case round =>
  obtain⟨k,hk,rfl,hno⟩:=hrel
  by_cases hlt:k<n
  ·have dk:decide ((k:Int)<(n:Int))=true:=decide_eq_true (by omega)
   obtain⟨bt,ot,A',c',t,rfl,_,ht,hcell,_,_,_⟩:=HZ.out.at_ hlt
   have HTX:=Bx.mk ht.out
   obtain⟨tl,htl⟩:∃ tl,t.length=tl:=⟨_,rfl⟩
   have HTL:=Bx.mk htl
   rw[htl] at hcell
   have i2:(k:Int)<(n:Int):=by omega
   clear ht htl
   by_cases hbig:4096<tl
   ·have HC:=Bx.mk (newlong_any A' tl c' w true (decide_eq_true hbig))
    have HE:Bx (∃ t∈xss,4096<t.length):=⟨t,List.mem_of_getElem? HTX.out,by rw[HTL.out]; exact hbig⟩
    clear hno hbig
    go_wp2_with fail
    refine HC.out.mono ?_
    rintro e w1 ⟨rfl,rfl⟩
    go_wp2
    go_ret
    exact⟨(k:Int),rfl,⟨fun _=>HE.out,fun _=>by omega⟩,by omega,by omega,rfl⟩
   ·have HC:=Bx.mk (newlong_any A' tl c' w false (decide_eq_false hbig))
    have HN:Bx (∀ j t,j<k+1→xss[j]? = some t→t.length≤4096):=⟨fun j u hj hu=>by
     rcases Nat.lt_or_ge j k with h | h
     ·exact hno.out j u h hu
     ·obtain rfl:j=k:=by omega
      rw[HTX.out] at hu
      injection hu with hu
      rw[←hu,HTL.out]
      omega⟩
    clear hno hbig
    go_wp2_with fail
    refine HC.out.mono ?_
    rintro e w1 ⟨rfl,rfl⟩
    go_wp2
    go_round
    case rel=>exact⟨k+1,by omega,by go_num,HN⟩
    case measure=>simp[intOf]; omega
  ·obtain rfl:n=k:=by omega
   have dk:decide ((n:Int)<(n:Int))=false:=decide_eq_false (by omega)
   have HE:Bx (¬∃ t∈xss,4096<t.length):=⟨fun ⟨t,ht,h⟩=>by
    obtain⟨j,hj⟩:=List.getElem?_of_mem ht
    have:=hno.out j t (by rw[←HL.out]; exact (List.getElem?_eq_some_iff.1 hj).1) hj
    omega⟩
   clear hno
   go_wp2
   go_ret
   exact⟨-1,rfl,⟨fun h=>by omega,fun h=>absurd h HE.out⟩,by omega,by omega,rfl⟩
theorem containslong_any (xss:List (List Int)) (A:Option Addr) (n c:Nat) (w:World) (hz:Sls w F A n xss) (hn:n≤1048576) (o:Bool) (ho:o=true↔∃ t∈xss,4096<t.length) :
  Calls Tryz.prog 46 #[.slice A n c, .func (.func 47) #[] #[]] w fun e w'=>e = .returned (.bool o)∧w=w':=by
 have HC:=Bx.mk (indexlong_any xss A n c w hz hn)
 have HO:=Bx.mk ho
 clear hz ho
 go_enter Tryz.func46,Tryz.ntmps46
 go_wp2_with fail
 refine HC.out.mono ?_
 rintro e w1 ⟨z,rfl,hz,_,_,rfl⟩
 have HB:Bx (decide (0≤z)=o):=⟨by
  cases o with
  | true=>exact decide_eq_true (hz.2 (HO.out.1 rfl))
  | false=>exact decide_eq_false (fun h=>by simpa using HO.out.2 (hz.1 h))⟩
 clear hz HC
 go_wp2
 go_ret
 exact⟨ret_bool HB.out,rfl⟩
end
theorem elemSK:ElemK Tryz.prog 23 9 (.string ByteArray.empty) 1 16:=⟨elemS.t,elemS.info,rfl,by decide⟩
structure Nx (w5 wr:World) (bs g n:Nat) (gv kvv:Value) (k:Nat) (keys:List Key) (us:List Value):Prop where
 seg:wr.heap[bs]? = some (.cells #[.pointer none,kvv,gv] 56 (0,0))
 bsl:bs<w5.heap.size
 kw:wr.ownsRow 0 9 1 kvv k (keys.map kv)
 kl:∀ q,kvv.ownBlock=some q→w5.heap.size≤q
 tw:Own wr 26 1 g n n us
 tg:g<w5.heap.size
 ne:g≠bs
 ch:Ch (fun b=>b=bs∨b=g) w5 wr
section
variable {w5 wr wm w2:World} {bs g n k:Nat} {gv kvv v':Value} {keys:List Key} {us:List Value}
theorem Nx.keep (h:Nx w5 wr bs g n gv kvv k keys us) (hc:Ch (fun _=>False) wr w2):Nx w5 w2 bs g n gv kvv k keys us :=
 ⟨(hc.block bs (Array.getElem?_eq_some_iff.1 h.seg).1 (fun h=>h)).trans h.seg,h.bsl,hc.own h.kw (fun _ _ h=>h),h.kl,h.tw.keep hc,h.tg,h.ne,h.ch.trans hc (fun _ _ h=>h.elim)⟩
theorem Nx.cells (h:Nx w5 wr bs g n gv kvv k keys us):wr.cell? ⟨bs,0,none⟩=some (.pointer none)∧wr.cell? ⟨bs,1,none⟩=some kvv∧wr.cell? ⟨bs,2,none⟩=some gv∧∀ j,wr.frozen? ⟨bs,j,none⟩=false:=by
 refine⟨?_,?_,?_,fun j=>?_⟩ <;> simp[World.cell?,World.frozen?,h.seg]
theorem Nx.key (h:Nx w5 wr bs g n gv kvv k keys us) {key:Key} (hc:Ch (fun _=>False) wr wm) (ho:w2.ownsRow 0 9 1 v' (k+1) (keys.map kv++[kv key])) (hg:wm.grownBy w2 kvv.ownBlock) (hb:v'.ownBlock=kvv.ownBlock∨v'.ownBlock=some wm.heap.size) :
  w2.cell? ⟨bs,1,none⟩=some kvv∧w2.frozen? ⟨bs,1,none⟩=false∧Nx w5 (w2.setCell ⟨bs,1,none⟩ v') bs g n gv v' (k+1) (keys++[key]) us:=by
 have hC:Ch (fun b=>kvv.ownBlock=some b) wr w2:=((Ch.refl _ wr).trans hc (fun _ _ h=>h.elim)).grown hg (fun _ h => .inl h)
 have hs1:=h.ch.size
 have hs2:=hc.size
 have hbl:=h.bsl
 have htg:=h.tg
 have hseg2:w2.heap[bs]? = some (.cells #[.pointer none,kvv,gv] 56 (0,0)):=(hC.block bs (Array.getElem?_eq_some_iff.1 h.seg).1 (fun h2=>by have:=h.kl bs h2; omega)).trans h.seg
 have hvl:∀ q,v'.ownBlock=some q→w5.heap.size≤q:=fun q hq=>by
  rcases hb with e | e
  ·exact h.kl q (e ▸ hq)
  ·rw[e] at hq
   injection hq with hq
   omega
 have hsc:Ch (fun b=>b=bs) w2 (w2.setCell ⟨bs,1,none⟩ v'):=Ch.setCell (S:=fun b=>b=bs) (Ch.refl _ w2) (p:=⟨bs,1,none⟩) (.inl rfl) _
 refine⟨by simp[World.cell?,hseg2],by simp[World.frozen?,hseg2],⟨?_,hbl,?_,hvl,?_,htg,h.ne,?_⟩⟩
 ·simp[World.setCell,Array.getElem?_modify,hseg2]
 ·rw[List.map_append]
  exact hsc.own ho (fun q hq h2=>by have:=hvl q hq; omega)
 ·exact (h.tw.ch hC (fun h2=>by have:=h.kl g h2; omega)).ch hsc h.ne
 ·exact (h.ch.trans hC (fun i hi h2=>by have:=h.kl i h2; omega)).trans hsc (fun i _ h2 => .inl h2)
theorem Nx.text (h:Nx w5 wr bs g n gv kvv k keys us) (j:Nat) (u:Value):Nx w5 (wr.setCell ⟨g,j,none⟩ u) bs g n gv kvv k keys (us.set j u):=by
 obtain⟨h1,h2⟩:=h.tw.stored j u
 have htg:=h.tg
 exact⟨(h2.block bs (Array.getElem?_eq_some_iff.1 h.seg).1 (fun e=>h.ne e.symm)).trans h.seg,h.bsl,h2.own h.kw (fun q hq e=>by have:=h.kl q hq; omega),h.kl,h1,h.tg,h.ne,h.ch.trans h2 (fun i _ e => .inr e)⟩
end
end
section
open Go.RowKit Go.Oct Go.Su Go.Sg Go.Fr
theorem mkT (w:World) (n:Nat) (hn:n≤1048576):(Instr.makeSlice 57 (.int .i64 (n:Int)) (.int .i64 (n:Int))).run Tryz.prog w = .ok (.slice (some ⟨w.heap.size,0,none⟩) n n) (w.alloc (.cells (madeCells #[.slice none 0 0] n) 26)):=run_mk2 elemT n (by omega) (by omega) w
theorem one_cell (w:World) (u:Value) (T:TypeId):∀ j x,[u][j]? = some x→(w.alloc (.cells #[u] T)).cell? ((⟨w.heap.size,0,none⟩:Addr).add j)=some x:=by
 intro j x hx
 match j,hx with
 | 0,hx =>
  simp at hx
  subst hx
  rw[show (⟨w.heap.size,0,none⟩:Addr).add 0=⟨w.heap.size,0,none⟩ by simp[Addr.add],World.cell?_alloc_at _ _ _ _ rfl]
  rfl
 | j+1,hx=>simp at hx
def PNewOf (docs:List Dc) (gone:List Key) (w:World) (e:Ending) (w':World):Prop:=∃ (ec:Int) (ds:List Dc) (gs:List Key),NewRes docs gone ec ds gs∧Ch (fun _=>False) w w' ∧
 ((ec≠0∧e = .returned (.tuple #[.pointer none, .int .i64 ec]))∨(ec=0∧∃ b:Nat,e = .returned (.tuple #[.pointer (some ⟨b,0,none⟩), .int .i64 0])∧Sp w' (fun k=>w.heap.size≤k) b ds gs))
theorem fit_of {ds:List Dc} {gs:List Key} (h:Lite ds gs):Fit ds gs:=by
 have h1:=h.n
 have h2:=h.m
 have h3:=h.b
 have h4:=h.k
 have h5:=h.g
 have ht:(txt (ts ds)).length≤65536:=by rw[txt_len,ts_len]; omega
 exact⟨by omega,by omega,by omega,by omega,ht,fun t hT=>by
  have:=bod_len (ds:=ds) (gs:=gs) (t:=t) (by omega) (by omega) h4 h5 (by rw[hT.len]; exact ht)
  omega⟩
theorem Lite.perm {docs ds:List Dc} {gone gs:List Key} (h:Lite docs gone) (hd:ds.Perm docs) (hg:gs.Perm gone):Lite ds gs :=
 ⟨by rw[hd.length_eq]; exact h.n,by rw[hg.length_eq]; exact h.m,by
  have h1:=beg_perm (hd.map (·.2))
  have e1:(List.map (·.2) ds).length=ds.length:=List.length_map _
  have e2:(List.map (·.2) docs).length=docs.length:=List.length_map _
  rw[e1,e2] at h1
  show beg (List.map (·.2) ds) ds.length≤60000
  rw[h1]
  exact h.b,by have h1:(ks ds).Perm (ks docs):=hd.map (fun x:Dc=>x.1); rw[flat_perm h1]; exact h.k,by rw[flat_perm hg]; exact h.g⟩
section
variable {F G:Nat→Prop}
theorem new_any (docs:List Dc) (gone:List Key) (A B:Option Addr) (n c m d:Nat) (w:World) (hz:Dcs w F A n docs) (hg:Kss w G B m gone) (hlt:Lite docs gone) (hby:∀ d∈docs,∀ x∈d.2,0≤x∧x<256) (ht:W.Tab w) :
  Calls Tryz.prog 14 #[.slice A n c, .slice B m d] w (PNewOf docs gone w):=by
 have hln:=hz.len
 have hlm:=hg.len
 have hn:n≤10000:=by rw[←hln]; exact hlt.n
 have hm:m≤10000:=by rw[←hlm]; exact hlt.m
 have HL:=Bx.mk hln
 have HM:=Bx.mk hlm
 have HG:=Bx.mk hg
 have HLT:=Bx.mk hlt
 have HBY:=Bx.mk hby
 have HT:=Bx.mk ht
 have HCD:=Bx.mk (cloned_any docs A n c w hz (by omega))
 clear hz hg hlt hby ht
 go_enter Tryz.func14,Tryz.ntmps14
 go_wp2_with fail
 refine HCD.out.mono ?_
 rintro e w1 ⟨A1,c1,vs,rfl,hG1,hv1,hR1,_,_⟩
 have HG1:=Bx.mk hG1
 have HV1:=Bx.mk hv1
 have HR1:=Bx.mk hR1
 have HCK:=Bx.mk (clonek_any gone B m d w1 (HG.out.ch hG1.ch (fun _ _ _ h=>h)) (by omega))
 clear hG1 hv1 hR1 HCD
 go_wp2_with fail
 refine HCK.out.mono ?_
 rintro e w2 ⟨B2,d2,rfl,hG2,_,_⟩
 have HG2:=Bx.mk hG2
 have HG12:=Bx.mk (HG1.out.keep hG2.ch)
 have HSD:=Bx.mk (sortd_any docs vs A1 n c1 w w2 HG12.out HL.out HV1.out HR1.out (by omega))
 have HLB:=Bx.mk (fun g (h:(Value.slice A1 n c1).ownBlock=some g)=>lt_blk HG1.out.own h)
 clear hG2 HCK
 go_wp2_with fail
 refine HSD.out.mono ?_
 rintro e w3 ⟨rfl,es,us,hpe,hse,hul,hR3,hG3,hC3⟩
 have HPE:=Bx.mk hpe
 have HSE:=Bx.mk hse
 have HUL:=Bx.mk hul
 have HG3:=Bx.mk hG3
 have HR3:Bx (Oct.Rows w F us (ts es)):=⟨hR3⟩
 have HC3:=Bx.mk hC3
 have HB3:Bx (Gs 9 1 w w3 (.slice B2 m d2) m (gone.map kv)):=⟨⟨hC3.own HG2.out.own (fun g hg h=>by have h1:=HLB.out g h; have h2:=HG2.out.lies g hg; omega),fun g hg=>Nat.le_trans HG1.out.ch.size (HG2.out.lies g hg),hG3.ch⟩⟩
 have HSK:=Bx.mk (sortk_any gone B2 m d2 w w3 HB3.out (by omega))
 clear hpe hse hul hR3 hG3 hC3 HSD HG12
 go_wp2_with fail
 refine HSK.out.mono ?_
 rintro e w4 ⟨rfl,mg,hsm,hpm,hG4,hC4⟩
 have HSM:=Bx.mk hsm
 have HPM:=Bx.mk hpm
 have HB4:=Bx.mk hG4
 have HD4:Bx (Gs 37 2 w w4 (.slice A1 n c1) n (dcV (ks es) us)):=⟨⟨hC4.own HG3.out.own (fun g hg h=>by have h1:=HLB.out g hg; have h2:=HG2.out.lies g h; omega),HG3.out.lies,hG4.ch⟩⟩
 have HMD:Bx (m≤d2∧d2≤maxLen):=⟨by obtain⟨A',c',e,h1,h2⟩:=own_shape' HB4.out.own; injection e with _ _ e; rw[e]; exact⟨h1,h2⟩⟩
 have HGB:Bx (∀ q,(Value.slice B2 m d2).ownBlock=some q→q<w4.heap.size):=⟨fun q h=>lt_blk HB4.out.own h⟩
 have hmk:=fun wx:World=>mkT wx n (by omega)
 clear hsm hpm hG4 hC4 HSK HB3 HG3 HC3 HG2 HG1 HR1 HLB
 go_wp2_with fail
 clear hmk
 obtain⟨bs,hbs⟩:∃ bs,w4.heap.size=bs:=⟨_,rfl⟩
 have hO6:=own_made1 (w4.alloc (.cells #[.pointer none, .slice none 0 0, .slice B2 m d2] 56)) 26 (.slice none 0 0) n (by omega)
 have hs5:(w4.alloc (.cells #[.pointer none, .slice none 0 0, .slice B2 m d2] 56)).heap.size=bs+1:=by rw[World.size_alloc,hbs]
 have hC5:=(Ch.refl (fun _=>False) w4).alloc (.cells #[.pointer none, .slice none 0 0, .slice B2 m d2] 56)
 have hseg5:(w4.alloc (.cells #[.pointer none, .slice none 0 0, .slice B2 m d2] 56)).heap[bs]? = some (.cells #[.pointer none, .slice none 0 0, .slice B2 m d2] 56 (0,0)):=by rw[←hbs]; exact heap_alloc_new w4 _
 rw[hbs]
 generalize w4.alloc (.cells #[.pointer none, .slice none 0 0, .slice B2 m d2] 56)=w5 at *
 rw[hs5] at hO6
 have hC6:=(Ch.refl (fun _=>False) w5).alloc (.cells (madeCells #[.slice none 0 0] n) 26)
 have hs6:(w5.alloc (.cells (madeCells #[.slice none 0 0] n) 26)).heap.size=bs+2:=by rw[World.size_alloc,hs5]
 have HNX0:Bx (Nx (w5.alloc (.cells (madeCells #[.slice none 0 0] n) 26)) (w5.alloc (.cells (madeCells #[.slice none 0 0] n) 26)) bs (bs+1) n (.slice B2 m d2) (.slice none 0 0) 0 [] (List.replicate n (.slice none 0 0))) :=
  ⟨⟨(hC6.block bs (Array.getElem?_eq_some_iff.1 hseg5).1 (fun h=>h)).trans hseg5,by rw[hs6]; omega,World.ownsRow_nil _ _ _ _,fun q h=>by simp[Value.ownBlock] at h,hO6,by rw[hs6]; omega,by omega,Ch.refl _ _⟩⟩
 have HC46:=Bx.mk (hC5.trans hC6 (fun _ _ h=>h))
 have HS6:=Bx.mk hs6
 have HBS:=Bx.mk hbs
 clear hO6 hs5 hC5 hseg5 hC6 hs6 hbs
 generalize w5.alloc (.cells (madeCells #[.slice none 0 0] n) 26)=w6 at *
 clear w5
 have HLE:Bx (es.length=n):=⟨by rw[HPE.out.length_eq,HL.out]⟩
 go_loopw [8,9,28] (fun _ _ i wr=>∃ (k:Nat) (kvv:Value) (tu:List Value),k≤n∧i = .int .i64 k∧Bx (Nx w6 wr bs (bs+1) n (.slice B2 m d2) kvv k (ks (es.take k)) tu)∧Bx (∀ j,j<k→tu[j]? = us[j]?)) (fun _ _ i _=>n-(intOf i).toNat)
 case atStart=>exact⟨0,_,_,Nat.zero_le _,rfl,HNX0,⟨fun j h=>by omega⟩⟩
 case round =>
  obtain⟨k,kvv,tu,hk,rfl,hNx,hTu⟩:=hrel
  by_cases hlt:k<n
  ·have dk:decide ((k:Int)<(n:Int))=true:=decide_eq_true (by omega)
   obtain⟨ga,rfl,hOd⟩:=own_at HD4.out.own (show 0<n by omega)
   have hga:ga<w4.heap.size:=hOd.lt
   obtain⟨dc,hdc⟩:∃ dc,es[k]? = some dc:=⟨_,List.getElem?_eq_getElem (by rw[HLE.out]; exact hlt)⟩
   have hkk:(ks es)[k]? = some dc.1:=ks_get hdc
   obtain⟨u,hu⟩:∃ u,us[k]? = some u:=⟨_,List.getElem?_eq_getElem (by rw[HUL.out]; exact hlt)⟩
   obtain⟨cc1,cc2⟩:=dcV_at (ks es) us k _ _ hkk hu
   have hCw:Ch (fun b=>b=bs∨b=bs+1) w4 wr:=(HC46.out.mono (fun _ _ h=>h.elim)).trans hNx.out.ch (fun i hi h=>h)
   have hnS:¬ (ga=bs∨ga=bs+1):=by have:=HBS.out; omega
   have hc1:=hCw.cell (p:=⟨ga,k*2,none⟩) hnS (hOd.cellAt cc1)
   have hc2:=hCw.cell (p:=⟨ga,k*2+1,none⟩) hnS (hOd.cellAt cc2)
   obtain⟨AT,cT,eu,_,_,_⟩:=HR3.out.2 k u dc.2 hu (by unfold ts; rw[List.getElem?_map,hdc]; rfl)
   have hu1:u.oneCell'=true:=by rw[eu]; rfl
   obtain⟨tl,htl⟩:∃ tl,dc.2.length=tl:=⟨_,rfl⟩
   rw[htl] at eu
   subst eu
   obtain⟨SK,hSK⟩:∃ S:ByteArray,kv dc.1 = .string S:=⟨_,rfl⟩
   rw[hSK] at hc1
   obtain⟨Ak,ck,rfl,_,_⟩:=own_shape' hNx.out.kw
   have HKT:Bx (ks (es.take (k+1))=ks (es.take k)++[dc.1]):=⟨ks_take hdc⟩
   have HU:=Bx.mk hu
   have HSK:=Bx.mk hSK
   have HNx:=hNx
   have HTu:=hTu
   have i2:(k:Int)<(n:Int):=by omega
   have hCa:Ch (fun _=>False) wr (wr.alloc (.cells #[.string SK, .slice AT tl cT] 37)):=(Ch.refl _ wr).alloc _
   obtain⟨f0,f1⟩:=cells_two wr (.string SK) (.slice AT tl cT) 37
   have hsa:(wr.alloc (.cells #[.string SK, .slice AT tl cT] 37)).heap.size=wr.heap.size+1:=World.size_alloc ..
   have HNA:=Bx.mk (hNx.out.keep hCa)
   obtain⟨_,s1,_,_⟩:=HNA.out.cells
   clear hNx hTu hdc hkk hu cc1 cc2 hCw htl hSK hCa hOd
   go_wp2_with fail
   generalize wr.alloc (.cells #[.string SK, .slice AT tl cT] 37)=wa at *
   obtain⟨gd,hgd⟩:∃ gd,wr.heap.size=gd:=⟨_,rfl⟩
   rw[hgd] at f0 f1 hsa ⊢
   have HGD:Bx (gd<wa.heap.size∧gd≠bs∧gd≠bs+1∧(Value.slice Ak k ck).ownBlock≠some gd):=⟨⟨by omega,by have h1:=HNx.out.bsl; have h2:=HNx.out.ch.size; omega,by have h1:=HNx.out.tg; have h2:=HNx.out.ch.size; omega,fun h=>by have:=lt_blk HNx.out.kw h; omega⟩⟩
   have HAP:Bx (∀ v7 w7,w7.ownsRow 0 9 1 v7 (k+1) ((ks (es.take k)).map kv++[Value.string SK])→(wa.alloc (.cells #[.string SK] 9)).drew.grownBy w7 (Value.slice Ak k ck).ownBlock→(v7.ownBlock=(Value.slice Ak k ck).ownBlock∨v7.ownBlock=some (wa.alloc (.cells #[.string SK] 9)).drew.heap.size)→w7.cell? ⟨bs,1,none⟩=some (.slice Ak k ck)∧w7.frozen? ⟨bs,1,none⟩=false∧Nx w6 (w7.setCell ⟨bs,1,none⟩ v7) bs (bs+1) n (.slice B2 m d2) v7 (k+1) (ks (es.take (k+1))) tu∧(w7.setCell ⟨bs,1,none⟩ v7).cell? ⟨gd,1,none⟩=some (.slice AT tl cT)):=⟨fun v7 w7 ho7 hg7 hb7=>by
    have hca:Ch (fun _=>False) wa (wa.alloc (.cells #[.string SK] 9)).drew:=((Ch.refl (fun _=>False) wa).alloc _).drew
    obtain⟨q1,q2,q3⟩:=HNA.out.key hca (by rw[HSK.out]; exact ho7) hg7 hb7
    refine⟨q1,q2,by rw[HKT.out]; exact q3,?_⟩
    have hcg:Ch (fun b=>(Value.slice Ak k ck).ownBlock=some b) wa w7:=(hca.mono (fun _ _ h=>h.elim)).grown hg7 (fun _ h => .inl h)
    have h8:=hcg.cell (p:=⟨gd,1,none⟩) (fun h=>HGD.out.2.2.2 h) f1
    have h9:Ch (fun b=>b=bs) w7 (w7.setCell ⟨bs,1,none⟩ v7):=Ch.setCell (S:=fun b=>b=bs) (Ch.refl _ w7) (p:=⟨bs,1,none⟩) (.inl rfl) _
    exact h9.cell (p:=⟨gd,1,none⟩) HGD.out.2.1 h8⟩
   have f0a:=((Ch.refl (fun _=>False) wa).alloc (.cells #[.string SK] 9)).cell (p:=⟨gd,0,none⟩) (fun h=>h) f0
   have s1a:=((Ch.refl (fun _=>False) wa).alloc (.cells #[.string SK] 9)).cell (p:=⟨bs,1,none⟩) (fun h=>h) s1
   clear hsa hgd
   go_region_law ((refine step_appK rfl (.tmp 37) (.tmp 40) elemSK rfl rfl (HNA.out.kw.alloc _) rfl (m:=1) rfl (one_cell wa (.string SK) 9) (by intro u hu; simp at hu; subst hu; rfl) (by omega) (by omega) ?_; intro v7 w7 ho7 hg7 hb7; obtain⟨A10,c10,rfl,_,_⟩:=own_shape' ho7; obtain⟨hcb7,hfz7,hnw7,hgc7⟩:=HAP.out _ w7 ho7 hg7 hb7; have HN7:=Bx.mk hnw7; have HGC7:=Bx.mk hgc7; clear hnw7 hgc7 ho7 hg7 hb7))
   all_goals
    generalize hw8:World.setCell w7 _ _=w8 at *
    have hgc8:=HGC7.out
    have hO8:=HN7.out.tw
    have hlen8:=hO8.len
    obtain⟨old,hold⟩:∃ old,tu[k]? = some old:=⟨_,List.getElem?_eq_getElem (by omega)⟩
    have hc8:=hO8.cellAt hold
    have hz8:=hO8.frozenAt k
    have HN8:=Bx.mk (HN7.out.text k (.slice AT tl cT))
    have HT8:Bx (∀ j,j<k+1→(tu.set k (.slice AT tl cT))[j]? = us[j]?):=⟨fun j hj=>by
     rcases Nat.lt_or_ge j k with h | h
     ·rw[List.getElem?_set_ne (by omega)]
      exact HTu.out j h
     ·obtain rfl:j=k:=by omega
      rw[List.getElem?_set_self (by omega),HU.out]⟩
    clear hw8 hO8 hold hlen8 HGC7 HN7 HTu f0 f1 f0a s1a s1 hc1 hc2 hcb7 hfz7
    go_wp2
    go_roundw
    case rel=>exact⟨k+1,_,_,by omega,by go_num,HN8,HT8⟩
    case measure=>simp[intOf]; omega
  ·obtain rfl:n=k:=by omega
   have dk:decide ((n:Int)<(n:Int))=false:=decide_eq_false (by omega)
   have hall:es.take n=es:=List.take_of_length_le (Nat.le_of_eq HLE.out)
   rw[hall] at hNx
   obtain⟨Ak,ck,rfl,hk1,hk2⟩:=own_shape' hNx.out.kw
   obtain rfl:tu=us:=by
    refine List.ext_getElem? fun j=>?_
    rcases Nat.lt_or_ge j n with h | h
    ·exact hTu.out j h
    ·have h1:=hNx.out.tw.len
     rw[List.getElem?_eq_none (by omega),List.getElem?_eq_none (by rw[HUL.out]; exact h)]
   obtain⟨_,g1,g2,_⟩:=hNx.out.cells
   have hCW:Ch (fun _=>False) w wr:=(HD4.out.ch.trans HC46.out (fun _ _ h=>h)).trans hNx.out.ch (fun i hi h=>by have h1:=HD4.out.ch.size; have h2:=HBS.out; omega)
   have hC4r:Ch (fun b=>b=bs∨b=bs+1) w4 wr:=(HC46.out.mono (fun _ _ h=>h.elim)).trans hNx.out.ch (fun i hi h=>h)
   have HKY:Bx (Kss wr (fun q=>w.heap.size≤q∧q≠bs) Ak n (ks es)):=⟨Vs.mono (Vs.of_own hNx.out.kw) (fun q _ h=>by have h1:=hNx.out.kl q h; have h2:=HS6.out; have h3:=HD4.out.ch.size; have h4:=HBS.out; omega)⟩
   have HGO:Bx (Kss wr (fun q=>w.heap.size≤q∧q≠bs) B2 m mg):=⟨Vs.mono (Vs.ch (Vs.of_own HB4.out.own) hC4r (fun q h _ e=>by have h1:=HGB.out q h; have h2:=HBS.out; omega)) (fun q _ h=>by have h1:=HGB.out q h; have h2:=HBS.out; have h3:=HB4.out.lies q h; exact⟨h3,by omega⟩)⟩
   have HSL:Bx (Sls wr (fun _=>True) (some ⟨bs+1,0,none⟩) n (ts es)):=⟨⟨tu,Vs.mono hNx.out.tw.vs (fun _ _ _=>trivial),(HR3.out.ch hCW (fun _ _ _ h=>h)).mono (fun _ _ _=>trivial)⟩⟩
   have HSEG:=Bx.mk hNx.out.seg
   have HCW:=Bx.mk hCW
   have hbsl:bs<wr.heap.size:=(Array.getElem?_eq_some_iff.1 hNx.out.seg).1
   have hwbs:w.heap.size≤bs:=by have h1:=HBS.out; have h2:=HD4.out.ch.size; omega
   have HPK:Bx ((ks es).Perm (ks docs)):=⟨HPE.out.map _⟩
   have HLE2:Bx (Lite es mg):=⟨HLT.out.perm HPE.out HPM.out⟩
   have HAI:Bx (ArgOk es mg↔ArgOk docs gone):=⟨⟨fun h=>h.perm HPE.out.symm HPM.out.symm,fun h=>h.perm HPE.out HPM.out⟩⟩
   have HBI:Bx ((∃ t∈ts es,4096<t.length)↔Big docs):=⟨by
    have hp:(ts es).Perm (ts docs):=HPE.out.map _
    exact⟨fun ⟨t,h1,h2⟩=>⟨t,hp.mem_iff.1 h1,h2⟩,fun ⟨t,h1,h2⟩=>⟨t,hp.mem_iff.2 h1,h2⟩⟩⟩
   obtain⟨o1,ho1⟩:∃ o:Bool,o=true↔ArgOk es mg:=by
    by_cases h:ArgOk es mg
    ·exact⟨true,fun _=>h,fun _=>rfl⟩
    ·exact⟨false,⟨fun e=>absurd e (by simp),fun e=>absurd e h⟩⟩
   have HSO:=Bx.mk (sound_any es mg Ak B2 n ck m d2 bs wr g1 g2 HKY.out HGO.out (by omega) (by omega) o1 ho1)
   have HO1:=Bx.mk ho1
   clear hNx hTu hall g1 g2 hCW hC4r ho1 hk HB4 HD4 HGB HC46 HS6 HNX0
   go_wp2_with fail
   refine HSO.out.mono ?_
   rintro e w7 ⟨rfl,hC7⟩
   cases o1 with
   | false =>
    have HR:Bx (PNewOf docs gone w (.returned (.tuple #[.pointer none, .int .i64 1])) w7):=⟨⟨1,[],[], .inl ⟨fun h=>by simpa using HO1.out.2 (HAI.out.2 h),rfl⟩,HCW.out.trans hC7 (fun _ _ h=>h), .inl ⟨by omega,rfl⟩⟩⟩
    clear hC7 HSO
    go_wp2
    go_ret2
    exact HR.out
   | true =>
    have HARG:Bx (ArgOk docs gone):=⟨HAI.out.1 (HO1.out.1 rfl)⟩
    have HC7:=Bx.mk hC7
    have HSL7:=Bx.mk (HSL.out.ch hC7 (fun _ _ _ h=>h))
    obtain⟨o2,ho2⟩:∃ o:Bool,o=true↔∃ t∈ts es,4096<t.length:=by
     by_cases h:∃ t∈ts es,4096<t.length
     ·exact⟨true,fun _=>h,fun _=>rfl⟩
     ·exact⟨false,⟨fun e=>absurd e (by simp),fun e=>absurd e h⟩⟩
    have HCL:=Bx.mk (containslong_any (ts es) (some ⟨bs+1,0,none⟩) n n w7 HSL7.out (by omega) o2 ho2)
    have HO2:=Bx.mk ho2
    clear hC7 HSO ho2 HSL
    go_wp2_with fail
    refine HCL.out.mono ?_
    rintro e w8 ⟨rfl,rfl⟩
    clear HCL
    cases o2 with
    | true =>
     have HR:Bx (PNewOf docs gone w (.returned (.tuple #[.pointer none, .int .i64 5])) w7):=⟨⟨5,[],[], .inr (.inl ⟨HARG.out,HBI.out.1 (HO2.out.1 rfl),rfl⟩),HCW.out.trans HC7.out (fun _ _ h=>h), .inl ⟨by omega,rfl⟩⟩⟩
     go_wp2
     go_ret2
     exact HR.out
    | false =>
     have HNB:Bx (¬Big docs):=⟨fun h=>by simpa using HO2.out.2 (HBI.out.2 h)⟩
     have HBT:Bx (Byts (ts es)):=⟨fun t ht=>by
      obtain⟨d,hd,rfl⟩:=List.mem_map.1 ht
      exact HBY.out d (HPE.out.mem_iff.1 hd)⟩
     have hFit:=fit_of HLE2.out
     have HFT:=Bx.mk hFit
     have HBU:=Bx.mk (X.build_any (ts es) (some ⟨bs+1,0,none⟩) n n w7 HSL7.out HBT.out (by have:=hFit.lt; omega) (HT.out.keep (HCW.out.trans HC7.out (fun _ _ h=>h))))
     clear hFit
     go_wp2_with fail
     refine HBU.out.mono ?_
     rintro e w8 (⟨_,x,rfl,hI,hC8⟩ | ⟨hbig,_⟩)
     ·have hseg8:w8.heap[bs]? = some (.cells #[.pointer none, .slice Ak n ck, .slice B2 m d2] 56 (0,0)):=by
       have h1:=(HC7.out.block bs hbsl (fun h=>h)).trans HSEG.out
       exact (hC8.block bs (Nat.lt_of_lt_of_le hbsl HC7.out.size) (fun h=>h)).trans h1
      have hc8:w8.cell? ⟨bs,0,none⟩=some (.pointer none):=by simp[World.cell?,hseg8]
      have hz8:w8.frozen? ⟨bs,0,none⟩=false:=by simp[World.frozen?,hseg8]
      have hC78:=HC7.out.trans hC8 (fun _ _ h=>h)
      have hsc:Ch (fun b=>b=bs) w8 (w8.setCell ⟨bs,0,none⟩ (.pointer (some ⟨x,0,none⟩))):=Ch.setCell (S:=fun b=>b=bs) (Ch.refl _ w8) (p:=⟨bs,0,none⟩) (.inl rfl) _
      have htl : 1 < w.heap.size:=X.tab_lt HT.out
      have hseg9:(w8.setCell ⟨bs,0,none⟩ (.pointer (some ⟨x,0,none⟩))).heap[bs]? = some (.cells #[.pointer (some ⟨x,0,none⟩), .slice Ak n ck, .slice B2 m d2] 56 (0,0)):=by simp[World.setCell,Array.getElem?_modify,hseg8]
      have hI9:X.Ix (w8.setCell ⟨bs,0,none⟩ (.pointer (some ⟨x,0,none⟩))) (fun k=>w.heap.size≤k) x (ts es):=(hI.chS hsc (fun k hk _ e=>by have h1:=HC7.out.size; omega) (by omega)).mono (fun k _ hk=>by have h1:=HC7.out.size; have h2:=HCW.out.size; omega)
      have HCW9:Bx (Ch (fun _=>False) w (w8.setCell ⟨bs,0,none⟩ (.pointer (some ⟨x,0,none⟩)))):=⟨(HCW.out.trans hC78 (fun _ _ h=>h)).trans hsc (fun i hi h=>by omega)⟩
      have HSP:Bx (Sp (w8.setCell ⟨bs,0,none⟩ (.pointer (some ⟨x,0,none⟩))) (fun k=>w.heap.size≤k) bs es mg) :=
       ⟨⟨x,Ak,n,ck,B2,m,d2,by simp[World.cell?,hseg9],by simp[World.cell?,hseg9],by simp[World.cell?,hseg9],hI9,
        Kss.mono ((HKY.out.ch hC78 (fun _ _ _ h=>h)).ch hsc (fun q hq _ e=>hq.2 e)) (fun _ _ h=>h.1),Kss.mono ((HGO.out.ch hC78 (fun _ _ _ h=>h)).ch hsc (fun q hq _ e=>hq.2 e)) (fun _ _ h=>h.1),hk1,hk2,HMD.out.1,HMD.out.2,hwbs⟩⟩
      have HHD:=Bx.mk (held_any HSP.out HFT.out)
      clear hI hC8 hseg8 hC78 hsc hseg9 hI9 HBU
      go_wp2_with fail
      refine HHD.out.mono ?_
      rintro e w10 ⟨v10,t,rfl,hT,hf⟩
      obtain⟨N,hN⟩:∃ N,(bod es mg t).length=N:=⟨_,rfl⟩
      have hNb:N≤1048512:=by rw[←hN]; exact HFT.out.lb t hT
      obtain⟨A10,c10,rfl,_,_⟩:=fr_shape (ys:=bod es mg t) hf hN
      have e1:decide ((1048512:Int)<(N:Int))=false:=decide_eq_false (by omega)
      have e2:decide (1048512<N)=false:=decide_eq_false (by omega)
      have HCH:=Bx.mk (HCW9.out.trans hf.2.2 (fun _ _ h=>h))
      have HSP10:=Bx.mk (HSP.out.keep hf.2.2)
      have HRES:Bx (NewRes docs gone 0 es mg):=⟨.inr (.inr ⟨HARG.out,HNB.out,rfl,⟨HPE.out,HSE.out.rise (HPK.out.nodup_iff.2 (List.nodup_append.1 HARG.out.2).1),HPM.out,HSM.out.rise (HPM.out.nodup_iff.2 (List.nodup_append.1 HARG.out.2).2.1)⟩⟩)⟩
      clear hf hN hT HHD
      go_wp2_with fail
      go_ret2
      exact⟨0,es,mg,HRES.out,HCH.out, .inr ⟨rfl,bs,rfl,HSP10.out⟩⟩
     ·have:=HFT.out.lt
      omega
end
end
end Go.Proofs.YtambgjpfoceieaaGreatDoor
namespace Go.Mp
open Go.RowKit Go.Oct Go.Maps
section
variable {P:Program} {k t e:TypeId} {w w':World} {b n:Nat} {f:Lit→Option Value}
theorem Mp.first (h:Mp P k w b n f) (K:Keyed P k) (ht:P.underlying t=some (.map k e)) (hn:n<maxLen) {key v:Value} {kl:Lit} (hkey:keyOf P k key=some kl) (hk:WideAt.IsKeyLit kl) :
  ∃ (z:Nat) (w':World),z≤n∧(∀ ty,(Builtin.len_ #[t] ty #[.map (some b)]).run P w = .ok (.int .i64 z) w)∧(Instr.mapUpdate t (.map (some b)) key v).run P w = .ok () w'∧Mp P k w' b (n+1) (Go.Mp.put f kl v)∧Ch (fun g=>g=b) w w' ∧
   (∀ ty,(Builtin.len_ #[t] ty #[.map (some b)]).run P w' = .ok (.int .i64 ((if (f kl).isSome then z else z+1:Nat):Int)) w'):=by
 obtain⟨D,h1,h2⟩:=h
 obtain⟨w',hr,h3,hg⟩:=h1.update (val:=v) (d := .held v) (ps:=[]) K ht hn hkey rfl
 refine⟨Maps.size D,w',h1.size_le,fun ty=>h1.len ht ty,hr,⟨_,h3,fun x=>?_⟩,⟨hg.os,hg.tape,hg.output,hg.size,fun i hi hne=>hg.block i hi (fun e=>hne (by injection e))⟩,fun ty=>?_⟩
 ·show has (D.put kl (.held v)) x=(Go.Mp.put f kl v x).isSome∧∀ z,(D.put kl (.held v)).atKey x (.held z) = .held ((Go.Mp.put f kl v x).getD z)
  unfold Go.Mp.put
  by_cases hx:x=kl
  ·subst hx
   rw[if_pos rfl]
   exact⟨has_put_same h1.isMap hk _,fun z=>atKey_put_same h1.isMap hk _ _⟩
  ·rw[if_neg hx,has_put_other hx]
   exact⟨(h2 x).1,fun z=>by rw[atKey_put_other hx]; exact (h2 x).2 z⟩
 ·rw[h3.len ht ty,size_put (h1.tidy K),(h2 kl).1]
end
end Go.Mp
namespace Go.Proofs.YtambgjpfoceieaaGreatDoor
open Go.RowKit Go.Oct Go.Su Go.Sg Go.Fr Go.Mp
def FirstOf (mb N:Nat) (mf:Lit→Option Value) (key:Key) (w:World) (e:Ending) (w':World):Prop:=e = .returned (.bool (mf (.string key)).isNone)∧Mp Tryz.prog 9 w' mb (N+1) (Go.Mp.put mf (.string key) (.agg #[]))∧Ch (fun g=>g=mb) w w'
theorem first_any (key:Key) (S:ByteArray) (hS:S.data.toList=key) (hz:S.size≤maxLen) (cb mb N:Nat) (mf:Lit→Option Value) (w:World) (hc:w.cell? ⟨cb,0,none⟩=some (.map (some mb))) (hm:Mp Tryz.prog 9 w mb N mf) (hN:N<1000000) (hne:cb≠mb) :
  Calls Tryz.prog 79 #[.string S, .pointer (some ⟨cb,0,none⟩)] w (FirstOf mb N mf key w):=by
 obtain⟨z,w',hzn,hl1,hup,hM,hC,hl2⟩:=hm.first (v := .agg #[]) (key := .string S) (kl := .string key) (Maps.string_keyed Tryz.underlying9) Tryz.underlying117 (by unfold maxLen; omega) (by rw[←hS]; exact Go.WideMaps.keyOf_string_mk Tryz.underlying9 hz) trivial
 have hc':=hC.cell (p:=⟨cb,0,none⟩) hne hc
 have HM:=Bx.mk hM
 have HC:=Bx.mk hC
 have HL1:=Bx.mk hl1
 have hzb:z≤1000000:=by omega
 obtain⟨o,ho⟩:∃ o,(mf (.string key)).isSome=o:=⟨_,rfl⟩
 have HO:Bx ((mf (.string key)).isNone=!o):=⟨by rw[←ho]; cases mf (.string key) <;> rfl⟩
 rw[ho] at hl2
 have l1:=HL1.out 3
 have l2:=hl2 3
 clear hM hC hl1 hl2 ho hm HL1
 cases o with
 | true =>
  have l3:(Builtin.len_ #[117] 3 #[.map (some mb)]).run Tryz.prog w' = .ok (.int .i64 (z:Int)) w':=l2
  have d1:decide ((z:Int)<(z:Int))=false:=decide_eq_false (by omega)
  clear l2
  go_enter Tryz.func79,Tryz.ntmps79
  go_wp2
  go_ret
  exact⟨by rw[HO.out]; rfl,HM.out,HC.out⟩
 | false =>
  have l3:(Builtin.len_ #[117] 3 #[.map (some mb)]).run Tryz.prog w' = .ok (.int .i64 ((z+1:Nat):Int)) w':=l2
  have d1:decide ((z:Int)<(z:Int)+1)=true:=decide_eq_true (by omega)
  clear l2
  go_enter Tryz.func79,Tryz.ntmps79
  go_wp2
  go_ret
  exact⟨by rw[HO.out]; rfl,HM.out,HC.out⟩
/-! ### slices of segments -/
theorem eql_nil_seg (b:Nat) (W:World):(binOp .eql 29 (.pointer none) (.pointer (some ⟨b,0,none⟩))).run Tryz.prog W = .ok (.bool false) W:=by
 kernel_rfl
def SpP (w:World) (F:Nat→Prop) (u:Value):Option (List Dc×List Key)→Prop
 | none=>u = .pointer none
 | some s=>∃ b:Nat,u = .pointer (some ⟨b,0,none⟩)∧Sp w F b s.1 s.2
def Sps (w:World) (F:Nat→Prop) (A:Option Addr) (n:Nat) (os:List (Option (List Dc×List Key))):Prop:=∃ us:List Value,Vs w F A n us∧us.length=os.length∧∀ (i:Nat) (u:Value) (o:Option (List Dc×List Key)),us[i]? = some u→os[i]? = some o→SpP w F u o
section
variable {w w':World} {F G S:Nat→Prop} {A:Option Addr} {n:Nat} {os:List (Option (List Dc×List Key))}
theorem Sps.len (h:Sps w F A n os):os.length=n:=by
 obtain⟨us,h1,h2,_⟩:=h
 rw[←h2]
 exact h1.1
theorem Sps.get (h:Sps w F A n os) {j:Nat} (hj:j<n):∃ (b off:Nat) (u:Value) (o:Option (List Dc×List Key)),A=some ⟨b,off,none⟩∧F b∧os[j]? = some o∧w.cell? ⟨b,off+j,none⟩=some u∧SpP w F u o:=by
 obtain⟨us,h1,h2,h3⟩:=h
 obtain⟨b,off,e,hb,hc⟩:=h1.2 (by omega)
 have hu:us[j]? = some (us[j]'(by rw[h1.1]; exact hj)):=List.getElem?_eq_getElem _
 have ho:os[j]? = some (os[j]'(by rw[←h2,h1.1]; exact hj)):=List.getElem?_eq_getElem _
 exact⟨b,off,_,_,e,hb,ho,hc j _ hu,h3 j _ _ hu ho⟩
theorem indexnil_any (c:Nat) (hz:Sps w F A n os) (hn:n≤1048576) :
  Calls Tryz.prog 124 #[.slice A n c, .pointer none] w fun e w'=>∃ z:Int,e = .returned (.int .i64 z)∧(0≤z↔none∈os) ∧ -1≤z∧z≤1048576∧w=w':=by
 have HL:=Bx.mk hz.len
 have HZ:=Bx.mk hz
 clear hz
 go_enter Tryz.func124,Tryz.ntmps124
 go_wp2_with fail
 go_loop [5,8] (fun _ i=>∃ k:Nat,k≤n∧i = .int .i64 k∧Bx (∀ j:Nat,j<k→os[j]? ≠ some none)) (fun _ i=>n-(intOf i).toNat)
 case atStart=>exact⟨0,Nat.zero_le _,rfl,⟨fun j h=>by omega⟩⟩
 case round =>
  obtain⟨k,hk,rfl,hno⟩:=hrel
  by_cases hlt:k<n
  ·have dk:decide ((k:Int)<(n:Int))=true:=decide_eq_true (by omega)
   obtain⟨bt,ot,u,o,rfl,_,ho,hcell,hP⟩:=HZ.out.get hlt
   have HOO:=Bx.mk ho
   have i2:(k:Int)<(n:Int):=by omega
   clear ho
   cases o with
   | none =>
    obtain rfl:u = .pointer none:=hP
    have HE:Bx (none∈os):=⟨List.mem_of_getElem? HOO.out⟩
    clear hno
    go_wp2
    go_ret
    exact⟨(k:Int),rfl,⟨fun _=>HE.out,fun _=>by omega⟩,by omega,by omega,rfl⟩
   | some s =>
    obtain⟨b,rfl,_⟩:=hP
    have hb0:=eql_nil_seg b
    have HN:Bx (∀ j:Nat,j<k+1→os[j]? ≠ some none):=⟨fun j hj hu=>by
     rcases Nat.lt_or_ge j k with h | h
     ·exact hno.out j h hu
     ·obtain rfl:j=k:=by omega
      rw[HOO.out] at hu
      simp at hu⟩
    clear hno
    go_wp2
    go_round
    case rel=>exact⟨k+1,by omega,by go_num,HN⟩
    case measure=>simp[intOf]; omega
  ·obtain rfl:n=k:=by omega
   have dk:decide ((n:Int)<(n:Int))=false:=decide_eq_false (by omega)
   have HE:Bx (none∉os):=⟨fun ht=>by
    obtain⟨j,hj⟩:=List.getElem?_of_mem ht
    exact hno.out j (by rw[←HL.out]; exact (List.getElem?_eq_some_iff.1 hj).1) hj⟩
   clear hno
   go_wp2
   go_ret
   exact⟨-1,rfl,⟨fun h=>by omega,fun h=>absurd h HE.out⟩,by omega,by omega,rfl⟩
theorem containsnil_any (c:Nat) (hz:Sps w F A n os) (hn:n≤1048576) (o:Bool) (ho:o=true↔none∈os) :
  Calls Tryz.prog 78 #[.slice A n c, .pointer none] w fun e w'=>e = .returned (.bool o)∧w=w':=by
 have HC:=Bx.mk (indexnil_any c hz hn)
 have HO:=Bx.mk ho
 clear hz ho
 go_enter Tryz.func78,Tryz.ntmps78
 go_wp2_with fail
 refine HC.out.mono ?_
 rintro e w1 ⟨z,rfl,hz,_,_,rfl⟩
 have HB:Bx (decide (0≤z)=o):=⟨by
  cases o with
  | true=>exact decide_eq_true (hz.2 (HO.out.1 rfl))
  | false=>exact decide_eq_false (fun h=>by simpa using HO.out.2 (hz.1 h))⟩
 clear hz HC
 go_wp2
 go_ret
 exact⟨ret_bool HB.out,rfl⟩
end
/-! ### a merge under way -/
def Seen (mf:Lit→Option Value) (f:Key→Option (Option (List Int))):Prop:=∀ key,(mf (.string key)).isSome=(f key).isSome
theorem Seen.none_ {mf:Lit→Option Value} {f:Key→Option (Option (List Int))} (h:Seen mf f) (key:Key):(mf (.string key)).isNone=(f key).isNone:=by
 have:=h key
 cases h1:mf (.string key) <;> cases h2:f key <;> simp[h1,h2] at this ⊢
theorem Seen.put {mf:Lit→Option Value} {f:Key→Option (Option (List Int))} (h:Seen mf f) (key:Key) (v:Value) (x:Option (List Int)):Seen (Go.Mp.put mf (.string key) v) (setK f key x):=fun k=>by
 unfold Go.Mp.put setK
 by_cases hk:k=key
 ·subst hk
  simp
 ·rw[if_neg (fun e=>hk (by injection e)),if_neg hk]
  exact h k
theorem Seen.again {mf:Lit→Option Value} {f:Key→Option (Option (List Int))} (h:Seen mf f) {key:Key} (hs:(f key).isSome=true) (v:Value):Seen (Go.Mp.put mf (.string key) v) f:=fun k=>by
 unfold Go.Mp.put
 by_cases hk:k=key
 ·subst hk
  simp[hs]
 ·rw[if_neg (fun e=>hk (by injection e))]
  exact h k
structure Pw (w wr:World) (cb mb N q p:Nat) (dv gv:Value) (docs:List Dc) (gone:List Key) (vs:List Value) (f:Key→Option (Option (List Int))):Prop where
 dg:Gs 37 2 w wr dv q (dcV (ks docs) vs)
 gg:Gs 9 1 w wr gv p (gone.map kv)
 mp:∃ mf,Mp Tryz.prog 9 wr mb N mf∧Seen mf f
 ml:w.heap.size≤mb
 cc:wr.cell? ⟨cb,0,none⟩=some (.map (some mb))
 cl:w.heap.size≤cb
 cm:cb≠mb
 cd:dv.ownBlock≠some cb
 cg:gv.ownBlock≠some cb
 ne:∀ g,dv.ownBlock=some g→gv.ownBlock≠some g
 rows:Oct.Rows wr (fun b=>dv.ownBlock≠some b∧gv.ownBlock≠some b∧b≠mb) vs (ts docs)
 kl:docs.length=vs.length
section
variable {w wr wm w2:World} {cb mb N q p:Nat} {dv gv dv' gv':Value} {docs:List Dc} {gone:List Key} {vs:List Value} {f g:Key→Option (Option (List Int))}
theorem Pw.keep (h:Pw w wr cb mb N q p dv gv docs gone vs f) (hc:Ch (fun _=>False) wr w2):Pw w w2 cb mb N q p dv gv docs gone vs f:=by
 obtain⟨mf,h1,h2⟩:=h.mp
 exact⟨h.dg.keep hc,h.gg.keep hc,⟨mf,h1.ch hc (fun h=>h),h2⟩,h.ml,hc.cell (fun h=>h) h.cc,h.cl,h.cm,h.cd,h.cg,h.ne,h.rows.ch hc (fun _ _ _ h=>h),h.kl⟩
theorem Pw.congr (h:Pw w wr cb mb N q p dv gv docs gone vs f) (e:∀ k,g k=f k):Pw w wr cb mb N q p dv gv docs gone vs g:=by
 have:g=f:=funext e
 rw[this]
 exact h
theorem Pw.map (h:Pw w wr cb mb N q p dv gv docs gone vs f) {mf mg:Lit→Option Value} {M:Nat} (hm0:Mp Tryz.prog 9 wr mb N mf) (hm:Mp Tryz.prog 9 w2 mb M mg) (hc:Ch (fun g=>g=mb) wr w2) (hs:Seen mg g):Pw w w2 cb mb M q p dv gv docs gone vs g :=
 ⟨h.dg.mapped hm0 hc h.ml,h.gg.mapped hm0 hc h.ml,⟨mg,hm,hs⟩,h.ml,hc.cell (p:=⟨cb,0,none⟩) h.cm h.cc,h.cl,h.cm,h.cd,h.cg,h.ne,h.rows.ch hc (fun _ hb _ e=>hb.2.2 e),h.kl⟩
theorem Pw.doc (h:Pw w wr cb mb N q p dv gv docs gone vs f) {d:Dc} {B:Option Addr} {c:Nat} (hs:Sl wr (fun b=>dv.ownBlock≠some b∧gv.ownBlock≠some b∧b≠mb) .u8 B d.2.length d.2) (h1:d.2.length≤c) (h2:c≤maxLen) (hc:Ch (fun _=>False) wr wm) (ho:w2.ownsRow 0 37 2 dv' (q+1) (dcV (ks docs) vs++[kv d.1, .slice B d.2.length c]))
  (hg:wm.grownBy w2 dv.ownBlock) (hb:dv'.ownBlock=dv.ownBlock∨dv'.ownBlock=some wm.heap.size):Pw w w2 cb mb N (q+1) p dv' gv (docs++[d]) gone (vs++[.slice B d.2.length c]) f:=by
 have hC:Ch (fun b=>dv.ownBlock=some b) wr w2:=((Ch.refl _ wr).trans hc (fun _ _ h=>h.elim)).grown hg (fun _ h => .inl h)
 obtain⟨mf,m1,m2⟩:=h.mp
 have hd:=h.dg.app hc ho hg hb
 have hcl:=lt_of_cell h.cc
 have hsz:=hc.size
 have nw:∀ b,b<wr.heap.size→dv.ownBlock≠some b→dv'.ownBlock≠some b:=fun b hb1 h4 h3=>by
  rcases hb with e | e
  ·exact h4 (e ▸ h3)
  ·rw[e] at h3
   injection h3 with h3
   omega
 refine⟨?_,⟨hC.own h.gg.own (fun g hg e=>h.ne g e hg),h.gg.lies,hd.ch⟩,⟨mf,Mp.grown m1 h.dg.own hc hg,m2⟩,h.ml,hC.cell (p:=⟨cb,0,none⟩) h.cd h.cc,h.cl,h.cm,nw cb hcl h.cd,h.cg,fun g hgv=>?_,?_,by simp[h.kl]⟩
 ·rw[ks_app,show ks [d]=[d.1] from rfl,dcV_snoc _ _ _ _ (by rw[ks_len,h.kl])]
  exact hd
 ·rcases hb with e | e
  ·exact h.ne g (e ▸ hgv)
  ·rw[e] at hgv
   injection hgv with hgv
   intro h3
   have:=lt_blk h.gg.own h3
   omega
 ·rw[ts_app]
  refine ((rows_one h.rows hs h1 h2).mono (G:=fun b=>(dv'.ownBlock≠some b∧gv.ownBlock≠some b∧b≠mb)∧dv.ownBlock≠some b) (fun b hb1 hb2=>⟨⟨nw b hb1 hb2.1,hb2.2⟩,hb2.1⟩)).ch hC (fun b hb _ h=>hb.2 h) |>.mono (fun _ _ h=>h.1)
theorem Pw.key (h:Pw w wr cb mb N q p dv gv docs gone vs f) {k:Key} (hc:Ch (fun _=>False) wr wm) (ho:w2.ownsRow 0 9 1 gv' (p+1) (gone.map kv++[kv k]))
  (hg:wm.grownBy w2 gv.ownBlock) (hb:gv'.ownBlock=gv.ownBlock∨gv'.ownBlock=some wm.heap.size):Pw w w2 cb mb N q (p+1) dv gv' docs (gone++[k]) vs f:=by
 have hC:Ch (fun b=>gv.ownBlock=some b) wr w2:=((Ch.refl _ wr).trans hc (fun _ _ h=>h.elim)).grown hg (fun _ h => .inl h)
 obtain⟨mf,m1,m2⟩:=h.mp
 have hd:=h.gg.app hc ho hg hb
 have hcl:=lt_of_cell h.cc
 have hsz:=hc.size
 have nw:∀ b,b<wr.heap.size→gv.ownBlock≠some b→gv'.ownBlock≠some b:=fun b hb1 h4 h3=>by
  rcases hb with e | e
  ·exact h4 (e ▸ h3)
  ·rw[e] at h3
   injection h3 with h3
   omega
 refine⟨⟨hC.own h.dg.own (fun g hg e=>h.ne g hg e),h.dg.lies,hd.ch⟩,?_,⟨mf,Mp.grown m1 h.gg.own hc hg,m2⟩,h.ml,hC.cell (p:=⟨cb,0,none⟩) h.cg h.cc,h.cl,h.cm,h.cd,nw cb hcl h.cg,fun g hgv=>?_,?_,h.kl⟩
 ·rw[List.map_append]
  exact hd
 ·rcases hb with e | e
  ·rw[e]; exact h.ne g hgv
  ·rw[e]
   intro h3
   injection h3 with h3
   have:=lt_blk h.dg.own hgv
   omega
 ·exact (h.rows.mono (G:=fun b=>(dv.ownBlock≠some b∧gv'.ownBlock≠some b∧b≠mb)∧gv.ownBlock≠some b) (fun b hb1 hb2=>⟨⟨hb2.1,nw b hb1 hb2.2.1,hb2.2.2⟩,hb2.2.1⟩)).ch hC (fun b hb _ h=>hb.2 h) |>.mono (fun _ _ h=>h.1)
theorem Pw.dcs (h:Pw w wr cb mb N q p dv gv docs gone vs f):∃ A c,dv = .slice A docs.length c∧q=docs.length∧Dcs wr (fun _=>True) A docs.length docs∧docs.length≤c∧c≤maxLen:=by
 obtain⟨A,c,ev,h1,h2⟩:=own_shape' h.dg.own
 have hlk:(ks docs).length=vs.length:=by rw[ks_len,h.kl]
 have hj:q=docs.length:=by
  have e1:=h.dg.own.1
  rw[dcV_len _ _ hlk,ks_len] at e1
  omega
 subst hj
 refine⟨A,c,ev,rfl,⟨rfl,fun hn=>?_⟩,h1,h2⟩
 rcases h.dg.own.2 with ⟨_,h0⟩ | ⟨g,cap,cur,hv,_,_,_⟩
 ·omega
 ·rw[ev] at hv
  injection hv with hA
  subst hA
  have how:=h.dg.own
  rw[ev] at how
  refine⟨g,0,rfl,trivial,fun i d hd=>?_⟩
  obtain⟨hi,_⟩:=List.getElem?_eq_some_iff.1 hd
  have hki:(ks docs)[i]? = some d.1:=by unfold Go.Sg.ks; rw[List.getElem?_map,hd]; rfl
  have hyi:(ts docs)[i]? = some d.2:=by unfold ts; rw[List.getElem?_map,hd]; rfl
  have hvi:i<vs.length:=by rw[←h.kl]; exact hi
  obtain⟨B,cB,eu,hsl,q1,q2⟩:=h.rows.2 i _ _ (List.getElem?_eq_getElem hvi) hyi
  obtain⟨c1,c2⟩:=dcV_at (ks docs) vs i d.1 _ hki (List.getElem?_eq_getElem hvi)
  rw[eu] at c2
  have k1:=how.cellAt (i*2) (by omega)
  have k2:=how.cellAt (i*2+1) (by omega)
  rw[c1] at k1
  rw[c2] at k2
  refine⟨[kv d.1, .slice B d.2.length cB],rfl,⟨B,cB,rfl,hsl.mono (fun _ _ _=>trivial),q1,q2⟩,fun z u hu=>?_⟩
  rw[Nat.zero_add]
  match z,hu with
  | 0,hu=>simp at hu; subst hu; exact k1
  | 1,hu=>simp at hu; subst hu; exact k2
end
structure Pz (w wr:World) (cb mb N q p:Nat) (dv gv:Value) (docs:List Dc) (gone:List Key) (vs:List Value) (f:Key→Option (Option (List Int))) (D:List Dc) (K:List Key):Prop where
 pw:Pw w wr cb mb N q p dv gv docs gone vs f
 mg:Mgu f false docs gone
 sd:docs.Sublist D
 sk:gone.Sublist K
 nn:N≤D.length+K.length
section
variable {w wr:World} {cb mb N q p:Nat} {dv gv:Value} {docs:List Dc} {gone:List Key} {vs:List Value} {f g:Key→Option (Option (List Int))} {D:List Dc} {K:List Key}
theorem Pz.congr (h:Pz w wr cb mb N q p dv gv docs gone vs f D K) (e:∀ k,g k=f k):Pz w wr cb mb N q p dv gv docs gone vs g D K:=by
 have:g=f:=funext e
 rw[this]
 exact h
theorem Pz.keep {w2:World} (h:Pz w wr cb mb N q p dv gv docs gone vs f D K) (hc:Ch (fun _=>False) wr w2):Pz w w2 cb mb N q p dv gv docs gone vs f D K:=⟨h.pw.keep hc,h.mg,h.sd,h.sk,h.nn⟩
theorem Pz.qn (h:Pz w wr cb mb N q p dv gv docs gone vs f D K):q≤D.length∧p≤K.length:=by
 obtain⟨_,_,_,e,_⟩:=h.pw.dcs
 have h1:=h.pw.gg.own.1
 have h2:=h.sd.length_le
 have h3:=h.sk.length_le
 simp at h1
 omega
end
theorem Mgu.last_ {f:Key→Option (Option (List Int))} {docs:List Dc} {gone:List Key} (h:Mgu f false docs gone):Mgu f true docs []:=⟨h.nd,List.nodup_nil,h.doc,fun k=>by simp⟩
end Go.Proofs.YtambgjpfoceieaaGreatDoor
