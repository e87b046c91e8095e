/- Lemmas and contracts of this proof. Conditions: said at each. -/
import Derived.Test.YtoolcbaipinloaaDoorQGDkList
import Derived.Deep.RegionLaw
set_option maxHeartbeats 8000000
set_option maxRecDepth 100000
namespace Go.Proofs.YtoolcbaipinloaaDoor
open Go.RowKit Go.Oct Go.Su Go.Dk Go.Maps
section
variable {w w' w2:World} {h h' h2:Nat→Rt} {us vs:List Value} {fs gs:Fs} {S F:Nat→Prop} {x y:Fl} {k:Key} {d:Nat} {s:Ds}
theorem run_appK {P:Program} {t e:TypeId} {z:Value} {size bytes:Nat} (w:World) (ty:TypeId) (T:ElemK P t e z size bytes) {v:Value} {n:Nat} {xs:List Value} (hown:w.ownsRow 0 e size v n xs)
  {ad:Addr} {m c:Nat} {news:List Value} (hl:news.length=m*size) (hr:∀ j u,news[j]? = some u→w.cell? (ad.add j)=some u) (h1:∀ u∈news,u.oneCell'=true) (hb:(n+m)*bytes≤140737488355328) (h63:n+m≤140737488355328) :
  ∃ v' w',(Builtin.append_ #[t,t] ty #[v, .slice (some ad) m c]).run P w = .ok v' w'∧w'.ownsRow 0 e size v' (n+m) (xs++news)∧w.grownBy w' v.ownBlock∧(v'.ownBlock=v.ownBlock∨v'.ownBlock=some w.heap.size):=by
 obtain⟨i,hi,hz,hsz,hby⟩:=infoK T.info
 obtain⟨v',w',hrun,h2,h3,_,h5⟩:=run_append_own_at (P:=P) w 0 t ty e i z size bytes T.t hi hz hsz hby T.z T.pos v n xs hown ad m c news hl hr h1 (by unfold maxLen; omega) hb (Nat.zero_le _)
 exact⟨v',w',hrun,h2,h3,h5⟩
theorem step_appK {P:Program} {t e:TypeId} {z:Value} {size bytes:Nat} {ops:Array Oper} {o:Oper} {a:Act} {w:World} {K:Act→World→Prop} {Q:Exit→Act→World→Prop} {E:Prop} (hg:o.guard=none) (s x:Operand) (T:ElemK P t e z size bytes)
  (hop:o.op=Op.call { callee:=Callee.builtin Builtin.append,args:=#[s,x],argTypes:=#[t,t] }) {v:Value} {n:Nat} {xs:List Value} (hs:a.eval s=v) (hown:w.ownsRow 0 e size v n xs)
  {ad:Addr} {m c:Nat} {news:List Value} (hx:a.eval x = .slice (some ad) m c) (hl:news.length=m*size) (hr:∀ j u,news[j]? = some u→w.cell? (ad.add j)=some u) (h1:∀ u∈news,u.oneCell'=true) (hb:(n+m)*bytes≤140737488355328) (h63:n+m≤140737488355328)
  (h:∀ v' w',w'.ownsRow 0 e size v' (n+m) (xs++news)→w.grownBy w' v.ownBlock→(v'.ownBlock=v.ownBlock∨v'.ownBlock=some w.heap.size)→K (a.put o.dst v') w') :
  if Region.wanted o (yielded ops a.tmps)=true then Oper.wp P o a w K Q else E:=by
 have hw:Region.wanted o (yielded ops a.tmps)=true:=by simp[Region.wanted,hg]
 rw[if_pos hw]
 obtain⟨v',w',hrun,h2,h3,h4⟩:=run_appK w o.type T hown (c:=c) hl hr h1 hb h63
 unfold Oper.wp execOp
 simp only[hop,resolve,invoke,builtin,Sem.run_bind,Sem.run_pure,Result.andThen_ok,List.map_toArray,List.map_cons,List.map_nil,hs,hx,hrun]
 exact h v' w' h2 h3 h4
theorem Rdk.rowOpen (H:Rdk w h d s) (hn:0<s.fs.length):∃ b c us,w.cell? ⟨d,1,none⟩=some (.slice (some ⟨b,0,none⟩) s.fs.length c)∧s.fs.length≤c∧c≤maxLen∧h b = .row∧Fls w h us s.fs∧∀ w',Ch (fun _=>False) w w'→∀ q u,us[q]? = some u→w'.cell? ⟨b,q,none⟩=some u:=by
 obtain⟨v,us,c1,ho,hr,hf⟩:=H.row
 rcases own_form ho with ⟨_,e⟩ | ⟨b,c,rfl,h1,h2⟩
 ·omega
 ·refine⟨b,c,us,c1,h1,h2,hr b rfl,hf,fun w' hc q u hu=>hc.cell (p:=⟨b,q,none⟩) (fun h=>h) ?_⟩
  have hl:=hf.len
  obtain⟨hq,_⟩:=List.getElem?_eq_some_iff.1 hu
  rw[ho.cellAt q (by omega)]
  exact hu
theorem addr_add (b off j:Nat):(⟨b,off,none⟩:Addr).add j=⟨b,off+j,none⟩:=by unfold Addr.add; split <;> simp_all
theorem take_cells {w':World} {b m:Nat} {us:List Value} (h:∀ q u,us[q]? = some u→w'.cell? ⟨b,q,none⟩=some u):∀ j u,(us.take m)[j]? = some u→w'.cell? ((⟨b,0,none⟩:Addr).add j)=some u:=fun j u hu=>by
 rw[List.getElem?_take] at hu
 split at hu
 ·rw[addr_add]; rw[Nat.zero_add]; exact h j u hu
 ·cases hu
theorem drop_cells {w':World} {b m:Nat} {us:List Value} (h:∀ q u,us[q]? = some u→w'.cell? ⟨b,q,none⟩=some u):∀ j u,(us.drop m)[j]? = some u→w'.cell? ((⟨b,m,none⟩:Addr).add j)=some u:=fun j u hu=>by
 rw[List.getElem?_drop] at hu
 rw[addr_add]
 exact h _ u hu
theorem nil_cells {w':World} {p:Addr} {us:List Value} (h:us=[]):∀ j u,us[j]? = some u→w'.cell? (p.add j)=some u:=fun j u hu=>by subst h; simp at hu
theorem rremove_any (H:Rdk w h d s) (k:Key):Calls Tryd.prog 69 #[pv d,kv k] w fun e w'=>e = .returned (.tuple #[])∧∃ h',Rdk w' h' d ⟨s.room,del s.fs k,s.left⟩∧Rgo w h w' h'∧Ch (fun b=>h b = .dk) w w'∧∀ b,h b = .by→h' b = .by:=by
 have hp:pv d = .pointer (some ⟨d,0,none⟩):=rfl
 have HH:=Bx.mk H
 have HSP:=Bx.mk (spot_any H k)
 have hmost:=H.ok.most
 obtain⟨S,hkv⟩:∃ S,kv k = .string S:=⟨_,rfl⟩
 obtain⟨i,hi⟩:∃ i,(lo s.fs k).length=i:=⟨_,rfl⟩
 have HI:=Bx.mk hi
 rw[hp] at HSP ⊢
 rw[hkv] at HSP ⊢
 rw[hi] at HSP
 clear hp H hkv hi
 cases hf:fnd s.fs k with
 | none =>
  have HR:Bx (del s.fs k=s.fs):=⟨del_no HH.out.ok.fine.rise (fnd_none hf)⟩
  rw[hf] at HSP
  clear hf
  go_enter Tryd.func69,Tryd.ntmps69
  go_wp2_with fail
  refine HSP.out.mono ?_
  rintro e w1 ⟨rfl,hc1⟩
  go_wp2
  go_returns
  exact⟨rfl,h,by rw[HR.out]; exact HH.out.keep hc1,Rgo.quiet hc1,hc1.mono (fun _ _ h=>h.elim),fun _ h=>h⟩
 | some x =>
  have hxi:=at_lo HH.out.ok.fine.rise hf
  have HDE:=Bx.mk (del_at HH.out.ok.fine.rise hf)
  rw[HI.out] at hxi HDE
  have hil:i<s.fs.length:=(List.getElem?_eq_some_iff.1 hxi).1
  have HDL:=Bx.mk (HH.out.ok.del k s.left)
  rw[hf] at HSP
  have HILs:=Bx.mk hil
  obtain⟨n,hn⟩:∃ n,s.fs.length=n:=⟨_,rfl⟩
  have HN:=Bx.mk hn
  rw[hn] at hil hmost
  clear hf hxi hn
  go_enter Tryd.func69,Tryd.ntmps69
  go_wp2_with fail
  refine HSP.out.mono ?_
  rintro e w1 ⟨rfl,hc1⟩
  have HH1:=Bx.mk (HH.out.keep hc1)
  have HC1:=Bx.mk hc1
  obtain⟨b,c,us,c1,hnc,hcm,hbr,hfl,hcells⟩:=HH1.out.rowOpen (by rw[HN.out]; omega)
  have HFL:=Bx.mk hfl
  have HCE:=Bx.mk hcells
  rw[HN.out] at c1 hnc
  have hc9:c≤9223372036854775807:=by unfold maxLen at hcm; omega
  obtain⟨i1,hi1⟩:∃ i1,i+1=i1:=⟨_,rfl⟩
  have e1:(i:Int)+1=(i1:Int):=by omega
  obtain⟨m,hm⟩:∃ m,n-i1=m:=⟨_,rfl⟩
  have him:i+m≤4096:=by omega
  have HTK:Bx (Fls w1 h (us.take (i*3)++us.drop (i1*3)) (del s.fs k)∧(us.take (i*3)).length=i*3∧(us.drop (i1*3)).length=m*3∧(del s.fs k).length=i+m):=⟨by
   have h1:=HFL.out.take (i:=i) (by rw[HN.out]; omega)
   have h2:=HFL.out.drop (i:=i1) (by rw[HN.out]; omega)
   have hl:=HFL.out.len
   rw[HN.out] at hl
   refine⟨by rw[HDE.out,hi1]; exact h1.app h2,by rw[List.length_take]; omega,by rw[List.length_drop]; omega,?_⟩
   rw[HDE.out,List.length_append,List.length_take,List.length_drop,HN.out]
   omega⟩
  have HCL:Bx ((∀ u∈us.take (i*3),u.oneCell'=true)∧∀ u∈us.drop (i1*3),u.oneCell'=true):=⟨fun u hu=>HFL.out.cells1 u (List.mem_of_mem_take hu),fun u hu=>HFL.out.cells1 u (List.mem_of_mem_drop hu)⟩
  have HAP1:Bx (∀ v5 w5,World.ownsRow w5 0 79 3 v5 (0+i) ([]++us.take (i*3))→(w1.drew.alloc (.cells #[] 79)).grownBy w5 (Value.slice (some ⟨w1.heap.size,0,none⟩) 0 0).ownBlock→(v5.ownBlock=(Value.slice (some ⟨w1.heap.size,0,none⟩) 0 0).ownBlock∨v5.ownBlock=some (w1.drew.alloc (.cells #[] 79)).heap.size) →
    Gs 79 3 w1.drew w5 v5 i (us.take (i*3))∧w5.cell? ⟨d,1,none⟩=some (.slice (some ⟨b,0,none⟩) n c)):=⟨fun v5 w5 h1 h2 h3=>by
   have hG:=(gs_fl0 w1.drew 79).app (m:=i) (news:=us.take (i*3)) (Ch.refl _ _) h1 h2 h3
   rw[Nat.zero_add,List.nil_append] at hG
   exact⟨hG,hG.ch.cell (p:=⟨d,1,none⟩) (fun h=>h) c1⟩⟩
  have HAP2:Bx (∀ v5 w5 v6 w6,Gs 79 3 w1.drew w5 v5 i (us.take (i*3))→World.ownsRow w6 0 79 3 v6 (i+m) (us.take (i*3)++us.drop (i1*3))→w5.grownBy w6 v5.ownBlock→(v6.ownBlock=v5.ownBlock∨v6.ownBlock=some w5.heap.size) →
    (∃ h',Rdk (w6.setCell ⟨d,1,none⟩ v6) h' d ⟨s.room,del s.fs k,s.left⟩∧Rgo w h (w6.setCell ⟨d,1,none⟩ v6) h'∧Ch (fun b=>h b = .dk) w (w6.setCell ⟨d,1,none⟩ v6)∧∀ b,h b = .by→h' b = .by)∧w6.cell? ⟨d,1,none⟩=some (.slice (some ⟨b,0,none⟩) n c)∧w6.frozen? ⟨d,1,none⟩=false):=⟨fun v5 w5 v6 w6 hG h1 h2 h3=>by
   have hG6:=hG.app (m:=m) (news:=us.drop (i1*3)) (Ch.refl _ _) h1 h2 h3
   have hd:=HH1.out.keep ((Ch.refl (fun _=>False) w1).drew)
   rw[←HTK.out.2.2.2] at hG6
   obtain⟨r1,r2⟩:=hd.rerow hG6 (HTK.out.1.ch (((Ch.refl (fun _=>False) w1).drew).trans hG6.ch (fun _ _ h=>h)) (fun _ _ h=>h)) HDL.out
   obtain⟨r3,r4⟩:=hd.rerow2 hG6
   exact⟨⟨_,r1,(Rgo.quiet (HC1.out.drew)).trans r2,(HC1.out.drew.mono (fun _ _ h=>h.elim)).trans r3 (fun _ _ h=>h),r4⟩,hG6.ch.cell (p:=⟨d,1,none⟩) (fun h=>h) c1,(hG6.ch.frozen (p:=⟨d,1,none⟩) (fun h=>h) hd.lt_d).trans (hd.zf 1)⟩⟩
  clear hcm hbr hfl hcells hc1 HSP
  by_cases hcap:c=i1
  ·have hni:n=i1:=by omega
   subst hcap hni
   have hm0:m=0:=by omega
   subst hm0
   have HNIL:Bx (us.drop (n*3)=[]):=⟨List.eq_nil_of_length_eq_zero (by have:=HTK.out.2.2.1; omega)⟩
   have hi1c:(n:Int)≤(n:Int):=by omega
   have hin:(i:Int)≤(n:Int):=by omega
   have hcn:(n:Int)-(n:Int)=(0:Int):=by omega
   have j0:(0:Int)≤(i:Int):=by omega
   have j1:(0:Int)≤(n:Int):=by omega
   have c1a:=cell_alloc c1 (.cells #[] 79)
   have hca:∀ q u,us[q]? = some u→(w1.drew.alloc (.cells #[] 79)).cell? ⟨b,q,none⟩=some u:=HCE.out _ (((Ch.refl (fun _=>False) w1).drew).alloc _)
   have HCA:=Bx.mk hca
   clear hca
   go_wp2_with fail
   have e2:IntKind.i64.wrap (n:Int)=(n:Int):=IntWalk.i64_in _ (by omega)
   go_region_law ((first
    | (refine step_appK rfl (.tmp 14) (.tmp 20) elemFl rfl rfl (fl_set w1.drew _) rfl (m:=i) HTK.out.2.1 (take_cells HCA.out) HCL.out.1 (by omega) (by omega) ?_; intro v5 w5 ho5 hg5 hb5; obtain⟨hG5,c15⟩:=HAP1.out v5 w5 ho5 hg5 hb5; have HG5:=Bx.mk hG5; clear hG5 ho5 hg5 hb5)
    | (refine step_appK rfl (.tmp 21) (.tmp 28) elemFl rfl rfl HG5.out.own rfl (m:=0) HTK.out.2.2.1 (nil_cells HNIL.out) HCL.out.2 (by omega) (by omega) ?_; intro v6 w6 ho6 hg6 hb6; obtain⟨hR6,c16,z16⟩:=HAP2.out v5 w5 v6 w6 HG5.out ho6 hg6 hb6; obtain⟨A6,c6,rfl,_,_⟩:=own_shape ho6; have HR6:=Bx.mk hR6; clear hR6 ho6 hg6 hb6)))
   all_goals (first | (go_returns; exact⟨rfl,HR6.out⟩) | (go_wp2; go_returns; exact⟨rfl,HR6.out⟩))
  ·have hi1c:(i1:Int)≤(c:Int):=by omega
   have hi1n:(i1:Int)≤(n:Int):=by omega
   have hin:(i:Int)≤(c:Int):=by omega
   have hcap2:¬ (c:Int)=(i1:Int):=by omega
   have hcn:(n:Int)-(i1:Int)=(m:Int):=by omega
   have hcn2:n-i1=m:=hm
   have j0:(0:Int)≤(i:Int):=by omega
   have j1:(0:Int)≤(i1:Int):=by omega
   have c1a:=cell_alloc c1 (.cells #[] 79)
   have hca:∀ q u,us[q]? = some u→(w1.drew.alloc (.cells #[] 79)).cell? ⟨b,q,none⟩=some u:=HCE.out _ (((Ch.refl (fun _=>False) w1).drew).alloc _)
   have HCA:=Bx.mk hca
   clear hca
   go_wp2_with fail
   have e2:IntKind.i64.wrap (i1:Int)=(i1:Int):=IntWalk.i64_in _ (by omega)
   go_region_law ((first
    | (refine step_appK rfl (.tmp 14) (.tmp 20) elemFl rfl rfl (fl_set w1.drew _) rfl (m:=i) HTK.out.2.1 (take_cells HCA.out) HCL.out.1 (by omega) (by omega) ?_; intro v5 w5 ho5 hg5 hb5; obtain⟨hG5,c15⟩:=HAP1.out v5 w5 ho5 hg5 hb5; have HG5:=Bx.mk hG5; clear hG5 ho5 hg5 hb5)
    | (refine step_appK rfl (.tmp 21) (.tmp 28) elemFl rfl rfl HG5.out.own rfl (m:=m) HTK.out.2.2.1 (drop_cells (HCE.out _ (((Ch.refl (fun _=>False) w1).drew).trans HG5.out.ch (fun _ _ h=>h)))) HCL.out.2 (by omega) (by omega) ?_; intro v6 w6 ho6 hg6 hb6; obtain⟨hR6,c16,z16⟩:=HAP2.out v5 w5 v6 w6 HG5.out ho6 hg6 hb6; obtain⟨A6,c6,rfl,_,_⟩:=own_shape ho6; have HR6:=Bx.mk hR6; clear hR6 ho6 hg6 hb6)))
   all_goals (first | (go_returns; exact⟨rfl,HR6.out⟩) | (go_wp2; go_returns; exact⟨rfl,HR6.out⟩))
end
end Go.Proofs.YtoolcbaipinloaaDoor
