/- Lemmas and contracts of this proof. Conditions: said at each. -/
import Derived.Test.YtoolcbaipinloaaDoorQRkApp
import Derived.Test.YtoolcbaipinloaaDoorQRkAppE
import Derived.Test.YtoolcbaipinloaaDoorQRkAppN
import Derived.Test.YtoolcbaipinloaaDoorQRkAppS
set_option maxHeartbeats 8000000
set_option maxRecDepth 100000
namespace Go.Proofs.YtoolcbaipinloaaDoor
section
open Go.RowKit Go.Oct Go.Su Go.Dk Go.Maps
section
variable {w w' w2:World} {h h' h2:Nat→Rt} {us vs:List Value} {fs gs:Fs} {S F:Nat→Prop} {x y:Fl} {k:Key} {d:Nat} {s:Ds}
theorem rapp_err {B:Option Addr} {mb cb:Nat} {bs:List Int} (H:Rdk w h d s) (hk:k.length≤9223372036854775807) (hmay:may s k≠0) :
  Calls Tryd.prog 23 #[pv d,kv k, .slice B mb cb] w (PostR (opApp s k bs) d w h):=by
 have hp:pv d = .pointer (some ⟨d,0,none⟩):=rfl
 have HM:=Bx.mk (rmay1_any H hk)
 have HH:=Bx.mk H
 have HR:=Bx.mk (app_err hmay bs)
 obtain⟨S,hkv⟩:∃ S,kv k = .string S:=⟨_,rfl⟩
 obtain⟨m,hm⟩:∃ m,may s k=m:=⟨_,rfl⟩
 rw[hp] at HM ⊢
 rw[hkv] at HM ⊢
 rw[hm] at HM HR hmay
 have h0':¬ (m:Int)=0:=by omega
 clear hp H hk hkv hm
 go_enter Tryd.func23,Tryd.ntmps23
 go_wp2_with fail
 refine HM.out.mono ?_
 rintro e w1 ⟨rfl,hc1⟩
 go_wp2
 go_ret
 exact⟨by rw[HR.out]; rfl,h,by rw[HR.out]; exact HH.out.keep hc1,Rgo.quiet hc1⟩
theorem rapp_full {B:Option Addr} {mb cb:Nat} {bs:List Int} (H:Rdk w h d s) (hk:k.length≤9223372036854775807) (hz:Sl w F .u8 B mb bs) (hm47:mb≤281474976710656) (hmay:may s k=0) (hr:¬ Room s k bs.length) :
  Calls Tryd.prog 23 #[pv d,kv k, .slice B mb cb] w (PostR (opApp s k bs) d w h):=by
 have hp:pv d = .pointer (some ⟨d,0,none⟩):=rfl
 have HM:=Bx.mk (rmay1_any H hk)
 have HH:=Bx.mk H
 have HR:=Bx.mk (app_full hmay hr)
 have HSP:Bx (∀ w1,Ch (fun _=>False) w w1→Calls Tryd.prog 47 #[pv d,kv k] w1 fun e w'=>e = .returned (.tuple #[.int .i64 ((lo s.fs k).length:Int), .bool (fnd s.fs k).isSome])∧Ch (fun _=>False) w1 w'):=⟨fun w1 hc=>spot_any (H.keep hc) k⟩
 have hbl:=hz.len
 obtain⟨S,hkv⟩:∃ S,kv k = .string S:=⟨_,rfl⟩
 obtain⟨i,hi⟩:∃ i,(lo s.fs k).length=i:=⟨_,rfl⟩
 obtain⟨o,ho⟩:∃ o,(fnd s.fs k).isSome=o:=⟨_,rfl⟩
 rw[hp] at HM HSP ⊢
 rw[hkv] at HM HSP ⊢
 rw[hmay] at HM
 rw[hi,ho] at HSP
 obtain⟨u,hu⟩:∃ u,used s.fs=u:=⟨_,rfl⟩
 obtain⟨r,hrr⟩:∃ r,s.room=r:=⟨_,rfl⟩
 obtain⟨n0,hn0⟩:∃ n,s.fs.length=n:=⟨_,rfl⟩
 have hum:u≤1073741824:=by have:=HH.out.ok.used; have:=HH.out.ok.room; omega
 have HUS:Bx (∀ w1,Ch (fun _=>False) w w1→∀ n,Calls Tryd.prog 48 #[.pointer (some ⟨d,0,none⟩)] (w1.drewN n) fun e w'=>e = .returned (.int .i64 (u:Int))∧∃ m,w'=w1.drewN m):=⟨fun w1 hc n=>by rw[←hu]; exact rused_quiet (H.keep hc) n⟩
 obtain⟨um,hum2⟩:∃ um,u+mb=um:=⟨_,rfl⟩
 have e1:(u:Int)+(mb:Int)=(um:Int):=by omega
 have hum9:um≤281476050452480:=by omega
 have c0:=H.c0
 rw[hrr] at c0
 have hcase:r<um∨(um≤r∧o=false∧4096≤n0):=by
  rcases Nat.lt_or_ge r um with h1 | h1
  ·exact .inl h1
  ·refine .inr ⟨h1,?_,?_⟩
   ·rw[←ho]
    cases hf:fnd s.fs k with
    | none=>rfl
    | some x=>exact absurd ⟨by rw[hu,hrr,hbl]; omega,fun e=>by rw[hf] at e; cases e⟩ hr
   ·rcases Nat.lt_or_ge n0 4096 with h2 | h2
    ·exact absurd ⟨by rw[hu,hrr,hbl]; omega,fun _=>by rw[hn0]; exact h2⟩ hr
    ·exact h2
 obtain⟨A0,cc0,hrow,_,_⟩:=H.row_len
 rw[hn0] at hrow
 have HROW:=Bx.mk hrow
 clear hp H hk hkv hi ho hmay hr hz hu hrr hum2 hn0 hbl hrow
 rcases hcase with hlt | ⟨hle,rfl,h4⟩
 ·have i1:decide ((r:Int)<(um:Int))=true:=decide_eq_true (by omega)
  have i1':decide (r<um)=true:=decide_eq_true hlt
  clear hlt
  go_enter Tryd.func23,Tryd.ntmps23
  go_wp2_with fail
  refine HM.out.mono ?_
  rintro e w1 ⟨rfl,hc1⟩
  have HS1:=Bx.mk (HSP.out w1 hc1)
  have HC1:=Bx.mk hc1
  clear hc1 HSP HM
  go_wp2_with fail
  refine HS1.out.mono ?_
  rintro e w2 ⟨rfl,hc2⟩
  have hc12:=HC1.out.trans hc2 (fun _ _ h=>h)
  have HC2:=Bx.mk hc12
  have HUS2:=Bx.mk (HUS.out w2 hc12)
  have c02:w2.cell? ⟨d,0,none⟩=some (.int .i64 (r:Int)):=hc12.cell (p:=⟨d,0,none⟩) (fun h=>h) c0
  clear hc12 hc2 HS1 HC1 HUS c0
  go_wp2_with fail
  have e2:IntKind.i64.wrap (um:Int)=(um:Int):=IntWalk.i64_in _ (by omega)
  go_quiet ((go_at_call 48; exact HUS2.out _))
  clear e2
  go_wp2
  go_ret
  exact⟨by rw[HR.out]; rfl,h,by rw[HR.out]; exact HH.out.keep (HC2.out.drewN _),Rgo.quiet (HC2.out.drewN _)⟩
 ·have i1:decide ((r:Int)<(um:Int))=false:=decide_eq_false (by omega)
  have i1':decide (r<um)=false:=decide_eq_false (by omega)
  have i4:decide ((4096:Int)≤(n0:Int))=true:=decide_eq_true (by omega)
  have i4':decide (4096≤n0)=true:=decide_eq_true (by omega)
  clear hle h4
  go_enter Tryd.func23,Tryd.ntmps23
  go_wp2_with fail
  refine HM.out.mono ?_
  rintro e w1 ⟨rfl,hc1⟩
  have HS1:=Bx.mk (HSP.out w1 hc1)
  have HC1:=Bx.mk hc1
  clear hc1 HSP HM
  go_wp2_with fail
  refine HS1.out.mono ?_
  rintro e w2 ⟨rfl,hc2⟩
  have hc12:=HC1.out.trans hc2 (fun _ _ h=>h)
  have HC2:=Bx.mk hc12
  have HUS2:=Bx.mk (HUS.out w2 hc12)
  have c02:w2.cell? ⟨d,0,none⟩=some (.int .i64 (r:Int)):=hc12.cell (p:=⟨d,0,none⟩) (fun h=>h) c0
  have cr2:w2.cell? ⟨d,1,none⟩=some (.slice A0 n0 cc0):=hc12.cell (p:=⟨d,1,none⟩) (fun h=>h) HROW.out
  clear hc12 hc2 HS1 HC1 HUS c0
  go_wp2_with fail
  have e2:IntKind.i64.wrap (um:Int)=(um:Int):=IntWalk.i64_in _ (by omega)
  go_quiet ((go_at_call 48; exact HUS2.out _))
  clear e2
  go_wp2
  go_ret
  exact⟨by rw[HR.out]; rfl,h,by rw[HR.out]; exact HH.out.keep (HC2.out.drewN _),Rgo.quiet (HC2.out.drewN _)⟩
theorem rapp_any {B:Option Addr} {mb cb:Nat} {bs:List Int} (H:Rdk w h d s) (hk:k.length≤9223372036854775807) (hz:Sl w F .u8 B mb bs) (hm47:mb≤281474976710656) (hF:∀ b,F b→h b = .no) (hby:∀ z∈bs,0≤z∧z<256) :
  Calls Tryd.prog 23 #[pv d,kv k, .slice B mb cb] w (PostR (opApp s k bs) d w h):=by
 by_cases hmay:may s k=0
 ·by_cases hr:Room s k bs.length
  ·have hm30:mb≤1073741824:=by
    have h1:=hr.1
    have h2:=H.ok.room
    have h3:=hz.len
    omega
   cases hf:fnd s.fs k with
   | some x=>exact rapp_old H hk hz hm30 hby hmay hf hr.1
   | none =>
    have hl4:=hr.2 hf
    obtain⟨v,us,c1,ho,hrow,hfl⟩:=H.row
    rcases own_form ho with ⟨rfl,h0⟩ | ⟨b,c,rfl,h1,h2⟩
    ·exact rapp_nil H hk hz hm30 hF hby hmay hf hr.1 hl4 c1 h0
    ·have hcells:∀ w',Ch (fun _=>False) w w'→∀ q u,us[q]? = some u→w'.cell? ⟨b,q,none⟩=some u:=fun w' hc q u hu=>hc.cell (p:=⟨b,q,none⟩) (fun h=>h) (by
      have hl:=hfl.len
      obtain⟨hq,_⟩:=List.getElem?_eq_some_iff.1 hu
      rw[ho.cellAt q (by omega)]
      exact hu)
     by_cases hcap:c=(lo s.fs k).length
     ·exact rapp_end H hk hz hm30 hF hby hmay hf hr.1 hl4 c1 h1 h2 hfl hcells hcap
     ·exact rapp_some H hk hz hm30 hF hby hmay hf hr.1 hl4 c1 h1 h2 hfl hcells hcap
  ·exact rapp_full H hk hz hm47 hmay hr
 ·exact rapp_err H hk hmay
end
end
section
open Go.RowKit Go.Oct Go.Su Go.Dk Go.Maps
section
variable {w w' w2:World} {h h' h2:Nat→Rt} {us vs:List Value} {fs gs:Fs} {S F:Nat→Prop} {x y:Fl} {k j:Key} {d:Nat} {s:Ds}
theorem put_del1 {fs:Fs} (h:Rise (nms fs)) (f:Fl):put (del fs f.nm) f=put fs f :=
 fs_ext (rise_put (rise_del h _) _) (rise_put h _) fun z=>by
  rw[mem_put,mem_put,mem_del]
  constructor
  ·rintro (e | ⟨⟨h1,h2⟩,h3⟩)
   ·exact .inl e
   ·exact .inr ⟨h1,h3⟩
  ·rintro (e | ⟨h1,h2⟩)
   ·exact .inl e
   ·exact .inr ⟨⟨h1,h2⟩,h2⟩
theorem DsOk.ren2 (ok:DsOk s) (hx:fnd s.fs k=some x) (hj:okN j):DsOk ⟨s.room,put (del (del s.fs k) j) ⟨j,x.bs,x.la⟩,s.left⟩:=by
 have h1:=ok.ren (a:=k) (b:=j)
 have e:=put_del1 (rise_del ok.fine.rise k) ⟨j,x.bs,x.la⟩
 have e2:put (del (del s.fs k) j) ⟨j,x.bs,x.la⟩=put (del s.fs k) ⟨j,x.bs,x.la⟩:=e
 rw[e2]
 obtain⟨hm,rfl⟩:=fnd_some hx
 have hr1:=rise_del ok.fine.rise x.nm
 have hu:=used_at ok.fine.rise hm
 have hl:=len_del ok.fine.rise hm
 have e3:=used_del_le hr1 j
 have e4:=used_put (del s.fs x.nm) ⟨j,x.bs,x.la⟩
 have e5:=len_put_le hr1 ⟨j,x.bs,x.la⟩
 have e6:=ok.used
 have e7:=ok.most
 refine⟨(ok.fine.del _).put hj (ok.fine.la x hm) (ok.fine.byte x hm),?_,ok.room,?_⟩
 ·show used (put (del s.fs x.nm) ⟨j,x.bs,x.la⟩)≤s.room
  rw[e4]
  show used (del (del s.fs x.nm) j)+x.bs.length≤s.room
  omega
 ·show (put (del s.fs x.nm) ⟨j,x.bs,x.la⟩).length≤4096
  omega
end
end
end Go.Proofs.YtoolcbaipinloaaDoor
