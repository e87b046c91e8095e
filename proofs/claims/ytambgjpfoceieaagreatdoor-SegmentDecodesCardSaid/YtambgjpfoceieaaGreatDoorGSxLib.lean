/- Lemmas and contracts of this proof. Conditions: said at each. -/
import Derived.Test.YtambgjpfoceieaaGreatDoorGSgBody
import Derived.Deep.Slices
import Derived.Lib.SmallJoins
set_option maxHeartbeats 2000000
set_option maxRecDepth 100000
namespace Go.Proofs.YtambgjpfoceieaaGreatDoor
section
open Go.RowKit Go.Oct Go.Su Go.Sg Go.Deep
theorem isnan_any (S:ByteArray) (w:World):Calls Tryz.prog 92 #[.string S] w fun e w'=>e = .returned (.bool false)∧w=w':=by
 go_enter Tryz.func92,Tryz.ntmps92
 go_wp2
 go_ret
 exact⟨by simp,rfl⟩
theorem isnan2_any (S:ByteArray) (w:World):Calls Tryz.prog 136 #[.string S] w fun e w'=>e = .returned (.bool false)∧w=w':=by
 go_enter Tryz.func136,Tryz.ntmps136
 go_wp2
 go_ret
 exact⟨by simp,rfl⟩
theorem lessk_any (S T:ByteArray) (w:World) (o:Bool) (ho:Op.bytesLess S.toList T.toList=o):Calls Tryz.prog 135 #[.string S, .string T] w fun e w'=>e = .returned (.bool o)∧w=w':=by
 go_enter Tryz.func135,Tryz.ntmps135
 go_wp2_with fail
 refine (isnan_any S w).mono ?_
 rintro e w1 ⟨rfl,rfl⟩
 go_wp2_with fail
 go_ret
 exact⟨ret_bool rfl,rfl⟩
def cmpS (S T:ByteArray):Int:=if Op.bytesLess S.toList T.toList then -1 else if S.toList==T.toList then 0 else 1
theorem compare_any (S T:ByteArray) (w:World):Calls Tryz.prog 43 #[.string S, .string T] w fun e w'=>e = .returned (.int .i64 (cmpS S T))∧w=w':=by
 obtain⟨o1,h1⟩:∃ o,Op.bytesLess S.toList T.toList=o:=⟨_,rfl⟩
 obtain⟨o2,h2⟩:∃ o,(S.toList==T.toList)=o:=⟨_,rfl⟩
 have HZ:Bx (cmpS S T=if o1 then -1 else if o2 then 0 else 1):=⟨by unfold cmpS; rw[h1,h2]⟩
 cases o1 <;> cases o2 <;>
  (go_enter Tryz.func43,Tryz.ntmps43
   go_wp2_with fail
   refine (isnan_any S w).mono ?_
   rintro e w1 ⟨rfl,rfl⟩
   go_wp2_with fail
   refine (isnan_any T w).mono ?_
   rintro e w1 ⟨rfl,rfl⟩
   go_wp2_with fail
   go_ret
   exact⟨ret_int (by rw[HZ.out]; rfl),rfl⟩)
/-! ### Clone -/
def KeysOf (l:List Key) (n:Nat) (w:World) (e:Ending) (w':World):Prop:=∃ A c,e = .returned (.slice A n c)∧Gs 9 1 w w' (.slice A n c) n (l.map kv)∧n≤c∧c≤maxLen
section
variable {F:Nat→Prop}
theorem clonek_any (l:List Key) (A:Option Addr) (n c:Nat) (w:World) (hz:Kss w F A n l) (hn:n≤1048576) :
  Calls Tryz.prog 40 #[.slice A n c] w (KeysOf l n w):=by
 have q22:∀ (w:World) (a:Option Addr) (n c n' c':Nat),(binOp .eql 23 (.slice a n c) (.slice none n' c')).run Tryz.prog w = .ok (.bool a.isNone) w:=fun w a n c n' c'=>Lib.run_eql_slice_nil w _ _ a n c n' c' Tryz.underlying23
 have HZ:=Bx.mk hz
 rcases A with _ | p
 ·have h0:n=0:=by
   rcases Nat.eq_zero_or_pos n with h | h
   ·exact h
   ·obtain⟨_,_,e,_⟩:=hz.2 h
    cases e
  subst h0
  obtain rfl:l=[]:=List.eq_nil_of_length_eq_zero hz.len
  clear hz HZ
  go_enter Tryz.func40,Tryz.ntmps40
  go_wp2
  go_ret
  exact⟨none,0,rfl,Gs.nil _ _ _,Nat.le_refl _,Nat.zero_le _⟩
 ·have HG:=Bx.mk (gs_s0 w 9)
  have HZA:=Bx.mk (HZ.out.alloc (.cells #[] 9))
  clear hz
  go_enter Tryz.func40,Tryz.ntmps40
  go_wp2_with (at_builtin; refine wp_app rfl (.tmp 5) (.tmp 6) elemS rfl rfl HG.out.own rfl HZA.out ?c1 ?c2 ?c3 ?_)
  case c1=>exact kv_cells _
  case c2=>omega
  case c3=>omega
  intro v5 w5 ho hg hb
  have HG5:=Bx.mk (HG.out.app0 ho hg (by rw[World.size_alloc]; exact hb))
  obtain⟨A5,c5,rfl,h1,h2⟩:=HG5.out.shape
  clear ho hg hb
  go_wp2
  go_ret
  exact⟨A5,c5,rfl,HG5.out,h1,h2⟩
end
theorem Dcs.split {w:World} {F:Nat→Prop} {A:Option Addr} {n:Nat} {ds:List Dc} (h:Dcs w F A n ds):∃ vs:List Value,vs.length=n∧Oct.Rows w F vs (ts ds)∧∀ p,A=some p→∀ j u,(dcV (ks ds) vs)[j]? = some u→w.cell? (p.add j)=some u:=by
 have hl:=h.len
 have each:∀ i,i<n→∃ v:Value,∃ d,ds[i]? = some d∧(∃ (B:Option Addr) (c:Nat),v = .slice B d.2.length c∧Sl w F .u8 B d.2.length d.2∧d.2.length≤c∧c≤maxLen)∧∀ p,A=some p→p.spot=none∧w.cell? ⟨p.block,p.off+i*2,none⟩=some (kv d.1)∧w.cell? ⟨p.block,p.off+i*2+1,none⟩=some v:=fun i hi=>by
  obtain⟨b,off,d,B,c,rfl,_,hd,k1,k2,k3,k4,k5⟩:=h.get hi
  exact⟨_,d,hd.out,⟨B,c,rfl,k3,k4,k5⟩,fun p hp=>by injection hp with hp; subst hp; exact⟨rfl,k1,k2⟩⟩
 obtain⟨q,hq⟩:=choose_lt each
 refine⟨(List.range n).map q,by simp,⟨by simp[ts,hl],fun i u xs hu hx=>?_⟩,fun p hp j u hu=>?_⟩
 ·obtain⟨hi,_⟩:=List.getElem?_eq_some_iff.1 hu
  rw[List.length_map,List.length_range] at hi
  rw[List.getElem?_map,List.getElem?_range hi] at hu
  obtain⟨d,hd,⟨B,c,e,k⟩,_⟩:=hq i hi
  unfold ts at hx
  rw[List.getElem?_map,hd] at hx
  simp only[Option.map_some,Option.some.injEq] at hu hx
  subst hu hx
  exact⟨B,c,e,k⟩
 ·have hlen:(dcV (ks ds) ((List.range n).map q)).length=n*2:=by
   have e2:∀ (l:List Key) (us:List Value),l.length=us.length→(dcV l us).length=l.length*2:=fun l=>by
    induction l with
    | nil=>intro us _; cases us <;> rfl
    | cons a l ih =>
     intro us hl
     cases us with
     | nil=>simp at hl
     | cons u us =>
      simp only[dcV,List.length_cons]
      rw[ih us (by simpa using hl)]
      omega
   rw[e2 _ _ (by simp[ks_len,hl]),ks_len,hl]
  obtain⟨hj,_⟩:=List.getElem?_eq_some_iff.1 hu
  rw[hlen] at hj
  obtain⟨d,hd,_,hc⟩:=hq (j/2) (by omega)
  obtain⟨e1,e2,e3⟩:=hc p hp
  obtain⟨c1,c2⟩:=dcV_at (ks ds) ((List.range n).map q) (j/2) d.1 (q (j/2)) (by unfold ks; rw[List.getElem?_map,hd]; rfl) (by rw[List.getElem?_map,List.getElem?_range (by omega)]; rfl)
  obtain⟨pb,po,ps⟩:=p
  subst e1
  have ea:∀ k,(⟨pb,po,none⟩:Addr).add k=⟨pb,po+k,none⟩:=fun k=>by unfold Addr.add; split <;> simp_all
  rw[ea]
  rcases Nat.mod_two_eq_zero_or_one j with hm | hm
  ·have ej:j/2*2=j:=by omega
   rw[ej] at c1 e2
   rw[hu] at c1
   injection c1 with c1
   rw[c1]
   exact e2
  ·have ej:j/2*2+1=j:=by omega
   rw[ej] at c2
   rw[Nat.add_assoc,ej] at e3
   rw[hu] at c2
   injection c2 with c2
   rw[c2]
   exact e3
theorem dcV_len (l:List Key):∀ (us:List Value),l.length=us.length→(dcV l us).length=l.length*2:=by
 induction l with
 | nil=>intro us _; cases us <;> rfl
 | cons a l ih =>
  intro us hl
  cases us with
  | nil=>simp at hl
  | cons u us =>
   simp only[dcV,List.length_cons]
   rw[ih us (by simpa using hl)]
   omega
theorem dcV_cells:∀ (l:List Key) (us:List Value),(∀ u∈us,u.oneCell'=true)→∀ u∈dcV l us,u.oneCell'=true
 | [],_,_,u,h=>by cases ‹List Value› <;> simp[dcV] at h
 | _::_,[],_,u,h=>by simp[dcV] at h
 | k::l,v::us,hv,u,h=>by
  simp only[dcV,List.mem_cons] at h
  rcases h with rfl | rfl | h
  ·rfl
  ·exact hv _ (by simp)
  ·exact dcV_cells l us (fun x hx=>hv x (by simp[hx])) u h
theorem rows_cells {w:World} {F:Nat→Prop} {us:List Value} {xss:List (List Int)} (h:Oct.Rows w F us xss):∀ u∈us,u.oneCell'=true:=fun u hu=>by
 obtain⟨i,hi⟩:=List.getElem?_of_mem hu
 have hl:i<xss.length:=by rw[←h.1]; exact (List.getElem?_eq_some_iff.1 hi).1
 obtain⟨A,c,rfl,_⟩:=h.2 i u _ hi (List.getElem?_eq_getElem hl)
 rfl
def DocsOf (F:Nat→Prop) (ds:List Dc) (n:Nat) (w:World) (e:Ending) (w':World):Prop:=∃ A c vs,e = .returned (.slice A n c)∧Gs 37 2 w w' (.slice A n c) n (dcV (ks ds) vs)∧vs.length=n∧Oct.Rows w F vs (ts ds)∧n≤c∧c≤maxLen
theorem gs_s0K (w:World) (e:TypeId) (s:Nat):Gs e s w (w.alloc (.cells #[] e)) (.slice (some ⟨w.heap.size,0,none⟩) 0 0) 0 []:=⟨World.ownsRow_made w #[] 0 (Nat.zero_le _) (by unfold maxLen; omega) (by simp),fun g hg=>by simp[Value.ownBlock] at hg; omega,(Ch.refl _ _).alloc _⟩
section
variable {F:Nat→Prop}
theorem cloned_any (ds:List Dc) (A:Option Addr) (n c:Nat) (w:World) (hz:Dcs w F A n ds) (hn:n≤1048576) :
  Calls Tryz.prog 39 #[.slice A n c] w (DocsOf F ds n w):=by
 have q22:∀ (w:World) (a:Option Addr) (n c n' c':Nat),(binOp .eql 22 (.slice a n c) (.slice none n' c')).run Tryz.prog w = .ok (.bool a.isNone) w:=fun w a n c n' c'=>Lib.run_eql_slice_nil w _ _ a n c n' c' Tryz.underlying22
 obtain⟨vs,hv,hR,hcell⟩:=Dcs.split hz
 have hl:=hz.len
 have HR:=Bx.mk hR
 have HV:=Bx.mk hv
 rcases A with _ | p
 ·have h0:n=0:=by
   rcases Nat.eq_zero_or_pos n with h | h
   ·exact h
   ·obtain⟨_,_,e,_⟩:=hz.at_ h
    cases e
  subst h0
  obtain rfl:ds=[]:=List.eq_nil_of_length_eq_zero hl
  obtain rfl:vs=[]:=List.eq_nil_of_length_eq_zero hv
  clear hz hcell hR hl hv
  go_enter Tryz.func39,Tryz.ntmps39
  go_wp2
  go_ret
  exact⟨none,0,[],rfl,Gs.nil _ _ _,rfl,HR.out,Nat.le_refl _,Nat.zero_le _⟩
 ·have HG:=Bx.mk (gs_s0K w 37 2)
  have HLN:Bx ((dcV (ks ds) vs).length=n*2):=⟨by rw[dcV_len _ _ (by rw[ks_len,hl,hv]),ks_len,hl]⟩
  have HC:Bx (∀ j u,(dcV (ks ds) vs)[j]? = some u→(w.alloc (.cells #[] 37)).cell? (p.add j)=some u):=⟨fun j u hu=>((Ch.refl (fun _=>False) w).alloc _).cell (fun h=>h) (hcell p rfl j u hu)⟩
  have HCE:=Bx.mk (dcV_cells (ks ds) vs (rows_cells HR.out))
  clear hz hcell hR hl hv
  go_enter Tryz.func39,Tryz.ntmps39
  go_wp2_with (at_builtin; refine wp_appK rfl (.tmp 5) (.tmp 6) elemD rfl rfl HG.out.own rfl HLN.out HC.out HCE.out ?c2 ?c3 ?_)
  case c2=>omega
  case c3=>omega
  intro v5 w5 ho hg hb
  have HG5:=Bx.mk (HG.out.app0 ho hg (by rw[World.size_alloc]; exact hb))
  obtain⟨A5,c5,rfl,h1,h2⟩:=own_shape' HG5.out.own
  clear ho hg hb
  go_wp2
  go_ret
  exact⟨A5,c5,vs,rfl,HG5.out,HV.out,HR.out,h1,h2⟩
end
end
section
open Go.RowKit Go.Oct Go.Su Go.Sg
structure Bis (l:List Key) (k:Key) (n i j:Nat):Prop where
 ij:i≤j
 jn:j≤n
 lo:∀ p a,p<i→l[p]? = some a→a<k
 hi:∀ p a,j≤p→l[p]? = some a→¬ a<k
theorem rise_lt {l:List Key} (hr:Rise l) {p q:Nat} {a b:Key} (hpq:p<q) (ha:l[p]? = some a) (hb:l[q]? = some b):a<b:=by
 obtain⟨h1,e1⟩:=List.getElem?_eq_some_iff.1 ha
 obtain⟨h2,e2⟩:=List.getElem?_eq_some_iff.1 hb
 have:=List.pairwise_iff_getElem.1 hr p q h1 h2 hpq
 rw[e1,e2] at this
 exact this
theorem Bis.up {l:List Key} {k a:Key} {n i j h:Nat} (b:Bis l k n i j) (hr:Rise l) (hi:i≤h) (hj:h<j) (ha:l[h]? = some a) (hl:a<k):Bis l k n (h+1) j :=
 ⟨by omega,b.jn,fun p x hp hx=>by
  rcases Nat.lt_or_ge p h with h1 | h1
  ·exact key_trans (rise_lt hr h1 hx ha) hl
  ·obtain rfl:p=h:=by omega
   rw[ha] at hx
   injection hx with hx
   exact hx ▸ hl,b.hi⟩
theorem Bis.down {l:List Key} {k a:Key} {n i j h:Nat} (b:Bis l k n i j) (hr:Rise l) (hi:i≤h) (hj:h<j) (ha:l[h]? = some a) (hl:¬ a<k):Bis l k n i h :=
 ⟨hi,by have:=b.jn; omega,b.lo,fun p x hp hx=>by
  rcases Nat.lt_or_ge h p with h1 | h1
  ·exact fun h2=>hl (key_trans (rise_lt hr h1 ha hx) h2)
  ·obtain rfl:p=h:=by omega
   rw[ha] at hx
   injection hx with hx
   exact hx ▸ hl⟩
theorem Bis.yes {l:List Key} {k a:Key} {n i:Nat} (_:Bis l k n i i) (ha:l[i]? = some a) (he:a=k):k∈l:=he ▸ List.mem_of_getElem? ha
theorem Bis.no {l:List Key} {k:Key} {n i:Nat} (b:Bis l k n i i) (hr:Rise l) (h:∀ a,l[i]? = some a→a≠k):k∉l:=fun hm=>by
 obtain⟨p,hp⟩:=List.getElem?_of_mem hm
 rcases Nat.lt_trichotomy p i with h1 | h1 | h1
 ·exact key_irrefl k (b.lo p k h1 hp)
 ·subst h1
  exact h k hp rfl
 ·have hi:i<l.length:=by
   have:=(List.getElem?_eq_some_iff.1 hp).1
   omega
  have hx:l[i]? = some l[i]:=List.getElem?_eq_getElem hi
  exact b.hi i _ (Nat.le_refl _) hx (rise_lt hr h1 hx hp)
def FoundK (l:List Key) (k:Key) (w:World) (e:Ending) (w':World):Prop:=∃ (i:Nat) (o:Bool),e = .returned (.tuple #[.int .i64 i, .bool o])∧(o=true↔k∈l)∧(o=true→l[i]? = some k)∧w=w'
section
variable {F:Nat→Prop}
theorem search_any (l:List Key) (A:Option Addr) (n c:Nat) (k:Key) (w:World) (hz:Kss w F A n l) (hr:Rise l) (hn:n≤1048576) :
  Calls Tryz.prog 89 #[.slice A n c,kv k] w (FoundK l k w):=by
 have HL:=Bx.mk hz.len
 have HZ:=Bx.mk hz
 have HR:=Bx.mk hr
 obtain⟨SK,hSK⟩:∃ S:ByteArray,(⟨k.toArray⟩:ByteArray)=S:=⟨_,rfl⟩
 have hkv:kv k = .string SK:=by unfold kv; rw[hSK]
 rw[hkv]
 have HLE:Bx (∀ a:Key,Op.bytesLess (⟨a.toArray⟩:ByteArray).toList SK.toList=decide (a<k)):=⟨fun a=>by rw[←hSK,Lib.toList_data,Lib.toList_data,less_eq]⟩
 have HEQ:Bx (∀ a:Key,((⟨a.toArray⟩:ByteArray).toList==SK.toList)=decide (a=k)):=⟨fun a=>by rw[←hSK]; exact str_beq a k⟩
 have HB0:Bx (Bis l k n 0 n):=⟨⟨Nat.zero_le _,Nat.le_refl _,fun p a h=>by omega,fun p a h hx=>by have:=(List.getElem?_eq_some_iff.1 hx).1; have:=HL.out; omega⟩⟩
 clear hz hr hSK hkv
 go_enter Tryz.func89,Tryz.ntmps89
 go_wp2_with fail
 go_loop [7,8,9] (fun a b _=>∃ i j:Nat,a = .int .i64 i∧b = .int .i64 j∧j≤n∧Bx (Bis l k n i j)) (fun a b _=>(intOf b).toNat-(intOf a).toNat)
 case atStart=>exact⟨0,n,rfl,rfl,Nat.le_refl _,HB0⟩
 case round =>
  obtain⟨i,j,rfl,rfl,hjn,hb⟩:=hrel
  by_cases hlt:i<j
  ·have d1:decide ((i:Int)<(j:Int))=true:=decide_eq_true (by omega)
   obtain⟨h,hh⟩:∃ h,(i+j)/2=h:=⟨_,rfl⟩
   have hi1:i≤h:=by omega
   have hj1:h<j:=by omega
   have g1:((i:Int)+(j:Int))/2=(h:Int):=by omega
   have g2:(h:Int)<(n:Int):=by omega
   obtain⟨bd,od,a,rfl,_,ha,hcell⟩:=HZ.out.at_ (show h<n by omega)
   have HA:=Bx.mk ha.out
   have hle:=HLE.out a
   obtain⟨SA,hSA⟩:∃ S:ByteArray,(⟨a.toArray⟩:ByteArray)=S:=⟨_,rfl⟩
   have hka:kv a = .string SA:=by unfold kv; rw[hSA]
   rw[hka] at hcell
   rw[hSA] at hle
   have HLS:=Bx.mk hle
   clear ha hSA hka hle hh
   by_cases hl:a<k
   ·have HC:=Bx.mk (lessk_any SA SK w true (by rw[HLS.out]; exact decide_eq_true hl))
    have HN:=Bx.mk (hb.out.up HR.out hi1 hj1 HA.out hl)
    clear hb hl
    go_wp2_with fail
    refine HC.out.mono ?_
    rintro e w1 ⟨rfl,rfl⟩
    go_wp2
    go_round
    case rel=>exact⟨h+1,j,by go_num,rfl,hjn,HN⟩
    case measure=>simp[intOf]; omega
   ·have HC:=Bx.mk (lessk_any SA SK w false (by rw[HLS.out]; exact decide_eq_false hl))
    have HN:=Bx.mk (hb.out.down HR.out hi1 hj1 HA.out hl)
    have hhn:h≤n:=by omega
    clear hb hl
    go_wp2_with fail
    refine HC.out.mono ?_
    rintro e w1 ⟨rfl,rfl⟩
    go_wp2
    go_round
    case rel=>exact⟨i,h,rfl,rfl,hhn,HN⟩
    case measure=>simp[intOf]; omega
  ·obtain rfl:i=j:=by have:=hb.out.ij; omega
   have d1:decide ((i:Int)<(i:Int))=false:=decide_eq_false (by omega)
   by_cases hin:i<n
   ·have d2:decide ((i:Int)<(n:Int))=true:=decide_eq_true (by omega)
    have g2:(i:Int)<(n:Int):=by omega
    obtain⟨bd,od,a,rfl,_,ha,hcell⟩:=HZ.out.at_ hin
    have HA:=Bx.mk ha.out
    have heq:=HEQ.out a
    obtain⟨SA,hSA⟩:∃ S:ByteArray,(⟨a.toArray⟩:ByteArray)=S:=⟨_,rfl⟩
    have hka:kv a = .string SA:=by unfold kv; rw[hSA]
    rw[hka] at hcell
    rw[hSA] at heq
    clear ha hSA hka
    by_cases he:a=k
    ·have e1:(SA.toList==SK.toList)=true:=by rw[heq]; exact decide_eq_true he
     have HM:=Bx.mk (hb.out.yes HA.out he)
     have HE:=Bx.mk he
     clear heq he hb
     go_wp2_with fail
     go_ret2
     exact⟨i,true,rfl,⟨fun _=>HM.out,fun _=>rfl⟩,fun _=>by rw[HA.out,HE.out],rfl⟩
    ·have e1:(SA.toList==SK.toList)=false:=by rw[heq]; exact decide_eq_false he
     have HM:=Bx.mk (hb.out.no HR.out (fun x hx=>by rw[HA.out] at hx; injection hx with hx; exact hx ▸ he))
     clear heq he hb
     go_wp2_with fail
     refine (isnan2_any SA w).mono ?_
     rintro e w1 ⟨rfl,rfl⟩
     go_wp2_with fail
     go_ret2
     exact⟨i,false,rfl,⟨fun h=>by simp at h,fun h=>absurd h HM.out⟩,fun h=>by simp at h,rfl⟩
   ·have d2:decide ((i:Int)<(n:Int))=false:=decide_eq_false (by omega)
    have HM:=Bx.mk (hb.out.no HR.out (fun x hx=>by have:=(List.getElem?_eq_some_iff.1 hx).1; have:=HL.out; omega))
    clear hb
    go_wp2_with fail
    go_ret2
    exact⟨i,false,rfl,⟨fun h=>by simp at h,fun h=>absurd h HM.out⟩,fun h=>by simp at h,rfl⟩
end
end
end Go.Proofs.YtambgjpfoceieaaGreatDoor
