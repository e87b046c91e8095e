/- Lemmas and contracts of this proof. Conditions: said at each. -/
import Derived.Test.YtoolcbaipinloaaDoorQRkRem
set_option maxHeartbeats 4000000
set_option maxRecDepth 100000
namespace Go.Proofs.YtoolcbaipinloaaDoor
section
open Go.RowKit Go.Oct Go.Su Go.Dk Go.Maps
section
variable {w w' w2:World} {h h' h2:Nat→Rt} {us vs:List Value} {fs gs:Fs} {S F:Nat→Prop} {x y:Fl} {k:Key} {d:Nat} {s:Ds}
theorem rrem_any (H:Rdk w h d s) (hk:k.length≤9223372036854775807):Calls Tryd.prog 40 #[pv d,kv k] w (PostR (opRem s k) d w h):=by
 have hp:pv d = .pointer (some ⟨d,0,none⟩):=rfl
 have HM:=Bx.mk (rmay1_any H hk)
 have HH:=Bx.mk H
 have HSP:Bx (∀ w1,Ch (fun _=>False) w w1→Calls Tryd.prog 47 #[pv d,kv k] w1 fun e w'=>e = .returned (.tuple #[.int .i64 ((lo s.fs k).length:Int), .bool (fnd s.fs k).isSome])∧Ch (fun _=>False) w1 w'):=⟨fun w1 hc=>spot_any (H.keep hc) k⟩
 have HRM:Bx (∀ w1,Ch (fun _=>False) w w1→Calls Tryd.prog 69 #[pv d,kv k] w1 fun e w'=>e = .returned (.tuple #[])∧∃ h',Rdk w' h' d ⟨s.room,del s.fs k,s.left⟩∧Rgo w1 h w' h'∧Ch (fun b=>h b = .dk) w1 w'∧∀ b,h b = .by→h' b = .by):=⟨fun w1 hc=>rremove_any (H.keep hc) k⟩
 obtain⟨S,hkv⟩:∃ S,kv k = .string S:=⟨_,rfl⟩
 obtain⟨m,hm⟩:∃ m,may s k=m:=⟨_,rfl⟩
 rw[hp] at HM HSP HRM ⊢
 rw[hkv] at HM HSP HRM ⊢
 rw[hm] at HM
 clear hp H hk hkv
 by_cases h0:m=0
 ·subst h0
  have HMY:=Bx.mk hm
  clear hm
  cases hf:fnd s.fs k with
  | none =>
   have HR:Bx (opRem s k=(7,s)):=⟨by unfold opRem; rw[if_neg (by simp[HMY.out]),hf]⟩
   rw[hf] at HSP
   clear hf
   go_enter Tryd.func40,Tryd.ntmps40
   go_wp2_with fail
   refine HM.out.mono ?_
   rintro e w1 ⟨rfl,hc1⟩
   have HS1:=Bx.mk (HSP.out w1 hc1)
   have HC1:=Bx.mk hc1
   clear hc1 HSP HM HRM
   go_wp2_with fail
   refine HS1.out.mono ?_
   rintro e w2 ⟨rfl,hc2⟩
   have hc12:=HC1.out.trans hc2 (fun _ _ h=>h)
   go_wp2
   go_ret
   exact⟨by rw[HR.out]; rfl,h,by rw[HR.out]; exact HH.out.keep hc12,Rgo.quiet hc12⟩
  | some x =>
   have HR:Bx (opRem s k=(0,⟨s.room,del s.fs k,tick s.left⟩)):=⟨by unfold opRem; rw[if_neg (by simp[HMY.out]),hf]⟩
   rw[hf] at HSP
   clear hf
   go_enter Tryd.func40,Tryd.ntmps40
   go_wp2_with fail
   refine HM.out.mono ?_
   rintro e w1 ⟨rfl,hc1⟩
   have HS1:=Bx.mk (HSP.out w1 hc1)
   have HC1:=Bx.mk hc1
   clear hc1 HSP HM
   go_wp2_with fail
   refine HS1.out.mono ?_
   rintro e w2 ⟨rfl,hc2⟩
   have hc12:=HC1.out.trans hc2 (fun _ _ h=>h)
   have HC2:=Bx.mk hc12
   have HRM2:=Bx.mk (HRM.out w2 hc12)
   clear hc12 hc2 HRM HS1 HC1
   go_wp2_with fail
   refine HRM2.out.mono ?_
   rintro e w3 ⟨rfl,h3,hd3,hg3,_,_⟩
   have HD:=Bx.mk (rdid_any hd3 (may_ok HMY.out).1)
   rw[show pv d = .pointer (some ⟨d,0,none⟩) from rfl] at HD
   have HG3:=Bx.mk hg3
   have HT3:=Bx.mk hd3.tag
   clear hd3 hg3 HRM2
   go_wp2_with fail
   refine HD.out.mono ?_
   rintro e w4 ⟨rfl,hd4,hc4⟩
   go_wp2
   go_ret
   exact⟨by rw[HR.out]; rfl,h3,by rw[HR.out]; exact hd4,((Rgo.quiet HC2.out).trans HG3.out).trans ⟨hc4.mono (fun i _ hi=>by rw[hi,HT3.out]; exact fun e=>by cases e),fun b hb => .inl hb⟩⟩
 ·have HR:Bx (opRem s k=(m,s)):=⟨by unfold opRem; rw[if_pos (by rw[hm]; exact h0),hm]⟩
  have h0':¬ (m:Int)=0:=by omega
  clear hm
  go_enter Tryd.func40,Tryd.ntmps40
  go_wp2_with fail
  refine HM.out.mono ?_
  rintro e w1 ⟨rfl,hc1⟩
  go_wp2
  go_ret
  exact⟨by rw[HR.out]; rfl,h,by rw[HR.out]; exact HH.out.keep hc1,Rgo.quiet hc1⟩
end
end
section
open Go.RowKit Go.Oct Go.Su Go.Dk Go.Maps
section
variable {P:Program} {t e:TypeId} {z:Value} {size bytes:Nat}
theorem step_app {F:Nat→Prop} {ops:Array Oper} {o:Oper} {a:Act} {w:World} {K:Act→World→Prop} {Q:Exit→Act→World→Prop} {E:Prop} (hg:o.guard=none) (s x:Operand) (T:Elem P t e z bytes)
  (hop:o.op=Op.call { callee:=Callee.builtin Builtin.append,args:=#[s,x],argTypes:=#[t,t] }) {v:Value} {n:Nat} {xs:List Value} (hs:a.eval s=v) (hown:w.ownsRow 0 e 1 v n xs)
  {A:Option Addr} {m c:Nat} {news:List Value} (hx:a.eval x = .slice A m c) (hr:Vs w F A m news) (h1:∀ u∈news,u.oneCell'=true) (hb:(n+m)*bytes≤140737488355328) (h63:n+m≤140737488355328)
  (h:∀ v' w',w'.ownsRow 0 e 1 v' (n+m) (xs++news)→w.grownBy w' v.ownBlock→(v'.ownBlock=v.ownBlock∨v'.ownBlock=some w.heap.size)→K (a.put o.dst v') w') :
  if Region.wanted o (yielded ops a.tmps)=true then Oper.wp P o a w K Q else E:=by
 have hw:Region.wanted o (yielded ops a.tmps)=true:=by simp[Region.wanted,hg]
 rw[if_pos hw]
 obtain⟨v',w',hrun,h2,h3,h4⟩:=run_app (P:=P) w o.type T hown (c:=c) hr h1 hb h63
 unfold Oper.wp execOp
 simp only[hop,resolve,invoke,builtin,Sem.run_bind,Sem.run_pure,Result.andThen_ok,List.map_toArray,List.map_cons,List.map_nil,hs,hx,hrun]
 exact h v' w' h2 h3 h4
end
section
variable {w w' w2:World} {h h' h2:Nat→Rt} {us vs:List Value} {fs gs:Fs} {S F:Nat→Prop} {x y:Fl} {k:Key} {d:Nat} {s:Ds}
theorem fl_cells (w:World) (T:ByteArray) (A:Option Addr) (q c la:Nat):∀ j u,[Value.string T, .slice A q c, .int .i64 (la:Int)][j]? = some u→(w.alloc (.cells #[.string T, .slice A q c, .int .i64 (la:Int)] 79)).cell? ((⟨w.heap.size,0,none⟩:Addr).add j)=some u:=fun j u hu=>by
 rw[addr_add,Nat.zero_add]
 exact cells_at (by simpa using hu)
theorem fl_one (T:ByteArray) (A:Option Addr) (q c la:Nat):∀ u∈[Value.string T, .slice A q c, .int .i64 (la:Int)],u.oneCell'=true:=fun u hu=>by
 simp at hu
 rcases hu with rfl | rfl | rfl <;> rfl
theorem Rdk.growing (H:Rdk w h d s) {i:Nat} (hx:s.fs[i]? = some x) {bs:List Int} (hb:∀ z∈bs,0≤z∧z<256) (hr:used s.fs+bs.length≤s.room) :
  ∃ b c A cc,w.cell? ⟨d,1,none⟩=some (.slice (some ⟨b,0,none⟩) s.fs.length c)∧s.fs.length≤c∧c≤maxLen∧i<s.fs.length∧w.cell? ⟨b,i*3+1,none⟩=some (.slice A x.bs.length cc)∧Sl w (fun b=>h b = .by) .u8 A x.bs.length x.bs∧x.bs.length+bs.length≤1073741824 ∧
  ∀ v w2,Fresh w.drew v (x.bs++bs) w2→w2.cell? ⟨d,1,none⟩=some (.slice (some ⟨b,0,none⟩) s.fs.length c)∧(∃ u,w2.cell? ⟨b,i*3+1,none⟩=some u)∧w2.frozen? ⟨b,i*3+1,none⟩=false ∧
   ∃ h',Rdk (w2.setCell ⟨b,i*3+1,none⟩ v) h' d ⟨s.room,s.fs.set i (addF x bs),s.left⟩∧Rgo w h (w2.setCell ⟨b,i*3+1,none⟩ v) h':=by
 obtain⟨hi,_⟩:=List.getElem?_eq_some_iff.1 hx
 obtain⟨b,c,x',A,cc,c1,h1,h2,hbr,hx',_,k2,_,hsl,_,_,hfz⟩:=H.file hi
 obtain rfl:x=x':=by rw[hx] at hx'; injection hx'
 have hm:x∈s.fs:=List.mem_of_getElem? hx
 have hu:=used_at H.ok.fine.rise hm
 have hr1:=H.ok.room
 have hput:s.fs.set i (addF x bs)=put s.fs (addF x bs):=by
  have hf:fnd s.fs (addF x bs).nm=some x:=fnd_of H.ok.fine.rise hm
  rw[put_at H.ok.fine.rise hf]
  congr 1
  have h3:=at_lo H.ok.fine.rise hf
  obtain⟨j1,j2⟩:=List.getElem?_eq_some_iff.1 hx
  obtain⟨j3,j4⟩:=List.getElem?_eq_some_iff.1 h3
  have hrr:=H.ok.fine.rise
  unfold Rise nms at hrr
  rw[List.pairwise_map] at hrr
  rcases Nat.lt_trichotomy i (lo s.fs (addF x bs).nm).length with e | e | e
  ·have:=List.pairwise_iff_getElem.1 hrr _ _ j1 j3 e
   rw[j2,j4] at this
   exact absurd this (key_irrefl _)
  ·exact e
  ·have:=List.pairwise_iff_getElem.1 hrr _ _ j3 j1 e
   rw[j2,j4] at this
   exact absurd this (key_irrefl _)
 have ok:DsOk ⟨s.room,s.fs.set i (addF x bs),s.left⟩:=by
  rw[hput]
  refine⟨H.ok.fine.put (H.ok.fine.ok x hm) ?_ ?_,?_,H.ok.room,?_⟩
  ·show x.la≤(x.bs++bs).length
   rw[List.length_append]
   have:=H.ok.fine.la x hm
   omega
  ·intro z hz
   rcases List.mem_append.1 hz with hz | hz
   ·exact H.ok.fine.byte x hm z hz
   ·exact hb z hz
  ·show used (put s.fs (addF x bs))≤s.room
   rw[used_add H.ok.fine.rise hm]
   exact hr
  ·show (put s.fs (addF x bs)).length≤4096
   rw[len_put_old (g:=addF x bs) H.ok.fine.rise hm rfl]
   exact H.ok.most
 refine⟨b,c,A,cc,c1,h1,h2,hi,k2,hsl,by have:=H.ok.used; omega,fun v w2 G=>?_⟩
 have hd:=H.keep ((Ch.refl (fun _=>False) w).drew)
 have hc:Ch (fun _=>False) w w2:=((Ch.refl (fun _=>False) w).drew).trans G.2.2 (fun _ _ h=>h)
 obtain⟨r1,r2,_⟩:=hd.rebytes (y:=addF x bs) hx ⟨rfl,rfl⟩ G (b:=b) (c:=c) c1 ok
 refine⟨hc.cell (p:=⟨d,1,none⟩) (fun h=>h) c1,⟨_,hc.cell (p:=⟨b,i*3+1,none⟩) (fun h=>h) k2⟩,(hc.frozen (p:=⟨b,i*3+1,none⟩) (fun h=>h) (lt_of_cell k2)).trans (hfz _),_,r1,(Rgo.quiet ((Ch.refl (fun _=>False) w).drew)).trans r2⟩
theorem rused_quiet (H:Rdk w h d s) (n:Nat):Calls Tryd.prog 48 #[.pointer (some ⟨d,0,none⟩)] (w.drewN n) fun e w'=>e = .returned (.int .i64 (used s.fs:Int))∧∃ m,w'=w.drewN m :=
 Calls.quiet_of_same ((rused_any (H.keep ((Ch.refl (fun _=>False) w).drewN n))).mono fun _ _ h=>⟨h.1,h.2.symm⟩)
end
end
end Go.Proofs.YtoolcbaipinloaaDoor
