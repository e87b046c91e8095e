/- Lemmas and contracts of this proof. Conditions: said at each. -/
import Derived.Test.YtambgjpfoceieaaGreatDoorGSxNewW
set_option maxHeartbeats 8000000
set_option maxRecDepth 100000
namespace Go.Proofs.YtambgjpfoceieaaGreatDoor
section
open Go.RowKit Go.Oct Go.Su Go.Sg Go.Fr Go.Mp
def PMergeOf (os:List (Option (List Dc×List Key))) (last:Bool) (w:World) (e:Ending) (w':World):Prop :=
 (none∈os∧e = .returned (.tuple #[.pointer none, .int .i64 1])∧Ch (fun _=>False) w w') ∨
 (none∉os∧∃ (docs:List Dc) (gone:List Key),Mgu (first (lv os)) last docs gone∧docs.Sublist (fD (lv os))∧gone.Sublist (fK (lv os))∧PNewOf docs gone w e w')
theorem PNewOf.back {docs:List Dc} {gone:List Key} {w w1 w':World} {e:Ending} (h:PNewOf docs gone w1 e w') (hc:Ch (fun _=>False) w w1):PNewOf docs gone w e w':=by
 obtain⟨ec,ds,gs,h1,h2,h3⟩:=h
 refine⟨ec,ds,gs,h1,hc.trans h2 (fun _ _ h=>h),?_⟩
 rcases h3 with h3 | ⟨e1,b,e2,hr⟩
 ·exact .inl h3
 ·exact .inr ⟨e1,b,e2,hr.mono (fun _ _ hb=>Nat.le_trans hc.size hb)⟩
structure In (wz w2 wq:World) (dv gv:Value) (mb:Nat):Prop where
 ch:Ch (fun b=>b<wz.heap.size) w2 wq
 dl:∀ g,dv.ownBlock=some g→g<wz.heap.size∨w2.heap.size≤g
 gl:∀ g,gv.ownBlock=some g→g<wz.heap.size∨w2.heap.size≤g
 ml:mb<wz.heap.size
section
variable {wz w2 wq wm w':World} {dv gv dv' gv':Value} {mb:Nat}
theorem In.keep (h:In wz w2 wq dv gv mb) (hc:Ch (fun _=>False) wq w'):In wz w2 w' dv gv mb:=⟨h.ch.trans hc (fun _ _ h=>h.elim),h.dl,h.gl,h.ml⟩
theorem In.map (h:In wz w2 wq dv gv mb) (hc:Ch (fun g=>g=mb) wq w'):In wz w2 w' dv gv mb:=⟨h.ch.trans hc (fun i _ e=>by have:=h.ml; omega),h.dl,h.gl,h.ml⟩
theorem In.doc (h:In wz w2 wq dv gv mb) (hc:Ch (fun _=>False) wq wm) (hg:wm.grownBy w' dv.ownBlock) (hb:dv'.ownBlock=dv.ownBlock∨dv'.ownBlock=some wm.heap.size):In wz w2 w' dv' gv mb:=by
 have hC:Ch (fun b=>dv.ownBlock=some b) wq w':=((Ch.refl _ wq).trans hc (fun _ _ h=>h.elim)).grown hg (fun _ h => .inl h)
 have h1:=h.ch.size
 have h2:=hc.size
 refine⟨h.ch.trans hC (fun i hi e=>?_),fun g hg=>?_,h.gl,h.ml⟩
 ·rcases h.dl i e with h3 | h3
  ·exact h3
  ·omega
 ·rcases hb with e | e
  ·exact h.dl g (e ▸ hg)
  ·rw[e] at hg
   injection hg with hg
   exact .inr (by omega)
theorem In.key (h:In wz w2 wq dv gv mb) (hc:Ch (fun _=>False) wq wm) (hg:wm.grownBy w' gv.ownBlock) (hb:gv'.ownBlock=gv.ownBlock∨gv'.ownBlock=some wm.heap.size):In wz w2 w' dv gv' mb:=by
 have hC:Ch (fun b=>gv.ownBlock=some b) wq w':=((Ch.refl _ wq).trans hc (fun _ _ h=>h.elim)).grown hg (fun _ h => .inl h)
 have h1:=h.ch.size
 have h2:=hc.size
 refine⟨h.ch.trans hC (fun i hi e=>?_),h.dl,fun g hg=>?_,h.ml⟩
 ·rcases h.gl i e with h3 | h3
  ·exact h3
  ·omega
 ·rcases hb with e | e
  ·exact h.gl g (e ▸ hg)
  ·rw[e] at hg
   injection hg with hg
   exact .inr (by omega)
end
section
variable {F:Nat→Prop}
theorem pmerge_any (os:List (Option (List Dc×List Key))) (last:Bool) (A:Option Addr) (n c:Nat) (w:World) (hz:Sps w F A n os) (hlt:Lite (fD (lv os)) (fK (lv os))) (hsg:∀ s∈lv os,Seg s.1 s.2) (hn:n≤10000) (ht:W.Tab w) :
  Calls Tryz.prog 25 #[.bool last, .slice A n c] w (PMergeOf os last w):=by
 have HL:=Bx.mk hz.len
 have HZ:=Bx.mk hz
 have HLT:=Bx.mk hlt
 have HSG:=Bx.mk hsg
 have HT:=Bx.mk ht
 obtain⟨o,ho⟩:∃ o:Bool,o=true↔none∈os:=by
  by_cases h:none∈os
  ·exact⟨true,fun _=>h,fun _=>rfl⟩
  ·exact⟨false,⟨fun e=>absurd e (by simp),fun e=>absurd e h⟩⟩
 have HCN:=Bx.mk (containsnil_any c hz (by omega) o ho)
 have HO:=Bx.mk ho
 clear hz hlt hsg ho ht
 have hmm := @run_makeMap Tryz.prog
 go_enter Tryz.func25,Tryz.ntmps25
 go_wp2_with fail
 refine HCN.out.mono ?_
 rintro e w1 ⟨rfl,rfl⟩
 clear HCN
 cases o with
 | true =>
  have HR:Bx (PMergeOf os last w (.returned (.tuple #[.pointer none, .int .i64 1])) w):=⟨.inl ⟨HO.out.1 rfl,rfl,Ch.refl _ _⟩⟩
  clear hmm
  go_wp2
  go_ret2
  exact HR.out
 | false =>
  have HNN:Bx (none∉os):=⟨fun h=>by simpa using HO.out.2 h⟩
  go_wp2_with fail
  clear hmm
  have hPz0:Pz w ((w.alloc (.map #[] 0)).alloc (.cells #[.map (some w.heap.size)] 117)) (w.heap.size+1) w.heap.size 0 0 0 (.slice none 0 0) (.slice none 0 0) [] [] [] (first (lv (os.take 0))) (fD (lv (os.take 0))) (fK (lv (os.take 0))):=by
   have hC:=((Ch.refl (fun _=>False) w).alloc (.map #[] 0)).alloc (.cells #[.map (some w.heap.size)] 117)
   have hcell:=box_new (w.alloc (.map #[] 0)) (.map (some w.heap.size)) 117
   rw[World.size_alloc] at hcell
   exact⟨⟨Gs.nilAt _ _ hC,Gs.nilAt _ _ hC,⟨_,(Mp.made _ _ w).ch ((Ch.refl (fun _=>False) _).alloc _) (fun h=>h),fun key=>by simp[first,lv]⟩,Nat.le_refl _,hcell,by omega,by omega,by simp[Value.ownBlock],by simp[Value.ownBlock],fun g hg=>by simp[Value.ownBlock] at hg,Oct.Rows.nil_ _ _,rfl⟩,Mgu.start false,List.Sublist.refl _,List.Sublist.refl _,Nat.zero_le _⟩
  have HPZ0:=Bx.mk hPz0
  clear hPz0
  obtain⟨mb,hmb⟩:∃ mb,w.heap.size=mb:=⟨_,rfl⟩
  have HMB:=Bx.mk hmb
  rw[hmb] at HPZ0 ⊢
  obtain⟨cb,hcb⟩:∃ cb,mb+1=cb:=⟨_,rfl⟩
  rw[hcb] at HPZ0 ⊢
  clear hmb hcb
  generalize (w.alloc (.map #[] 0)).alloc (.cells #[.map (some mb)] 117)=w0 at *
  go_loopw [8,9,11,13,14,15,16,18,25] (fun dv gv _ _ _ _ _ _ i wr=>∃ (k N q p:Nat) (docs:List Dc) (gone:List Key) (vs:List Value),k≤n∧i = .int .i64 k∧Bx (Pz w wr cb mb N q p dv gv docs gone vs (first (lv (os.take k))) (fD (lv (os.take k))) (fK (lv (os.take k))))) (fun _ _ _ _ _ _ _ _ i _=>n-(intOf i).toNat)
  case atStart=>exact⟨0,0,0,0,[],[],[],Nat.zero_le _,rfl,HPZ0⟩
  case round =>
   obtain⟨k,N,q,p,docs,gone,vs,hk,rfl,hPz⟩:=hrel
   by_cases hkn:k<n
   ·have dk:decide ((k:Int)<(n:Int))=true:=decide_eq_true (by omega)
    have i1:(k:Int)<(n:Int):=by omega
    obtain⟨b0,o0,u,o,rfl,_,ho,hcu0,hP⟩:=HZ.out.get hkn
    have hcu:=hPz.out.pw.dg.ch.cell (p:=⟨b0,o0+k,none⟩) (fun h=>h) hcu0
    cases o with
    | none=>exact absurd (List.mem_of_getElem? ho) HNN.out
    | some st =>
     obtain⟨bs,hu,hSp⟩:=hP
     subst hu
     obtain⟨ds,gs⟩:=st
     simp only at hSp
     have hmem:(ds,gs)∈lv os:=List.mem_filterMap.2 ⟨some (ds,gs),List.mem_of_getElem? ho,rfl⟩
     have hSeg:=HSG.out _ hmem
     have HSEG:=Bx.mk hSeg
     have HSP:=Bx.mk hSp
     have HTK:=Bx.mk (lv_take ho)
     obtain⟨a,ha⟩:∃ a,ds.length=a:=⟨_,rfl⟩
     obtain⟨g,hg⟩:∃ g,gs.length=g:=⟨_,rfl⟩
     have hbd:(fD (lv (os.take k))).length+a≤10000∧(fK (lv (os.take k))).length+g≤10000:=by
      have h1:=(sub_flat (·.1) (lv_sub os (k+1))).length_le
      have h2:=(sub_flat (·.2) (lv_sub os (k+1))).length_le
      rw[HTK.out] at h1 h2
      have h3:=HLT.out.n
      have h4:=HLT.out.m
      have e1:List.flatMap (fun x=>x.1) (lv (os.take k)++[(ds,gs)])=fD (lv (os.take k))++ds:=by simp[fD]
      have e2:List.flatMap (fun x=>x.2) (lv (os.take k)++[(ds,gs)])=fK (lv (os.take k))++gs:=by simp[fK]
      rw[e1,List.length_append,ha] at h1
      rw[e2,List.length_append,hg] at h2
      unfold fD fK at *
      omega
     have hab:a≤10000:=by omega
     have hgb:g≤10000:=by omega
     obtain⟨A6,c6,rfl,_,_⟩:=own_shape' hPz.out.pw.dg.own
     obtain⟨A7,c7,rfl,_,_⟩:=own_shape' hPz.out.pw.gg.own
     have HO2:=Bx.mk ho
     have HA:=Bx.mk ha
     have HG:=Bx.mk hg
     have HBD:=Bx.mk hbd
     have HKS:=Bx.mk (keys_any (hSp.keep hPz.out.pw.dg.ch) (by rw[ha]; omega))
     rw[ha] at HKS
     clear ho hcu0 ha hg hbd hSp hmem hSeg
     go_wp2_with fail
     refine HKS.out.mono ?_
     rintro e w2 ⟨A2,c2,rfl,hG2,_,_⟩
     obtain⟨DK,hDK⟩:∃ DK,fD (lv (os.take k))=DK:=⟨_,rfl⟩
     obtain⟨KK,hKK⟩:∃ KK,fK (lv (os.take k))=KK:=⟨_,rfl⟩
     obtain⟨fk,hfk⟩:∃ fk,first (lv (os.take k))=fk:=⟨_,rfl⟩
     rw[hDK,hKK] at HBD hPz
     rw[hfk] at hPz
     obtain⟨wz,hwz⟩:∃ wz,wz=wr:=⟨_,rfl⟩
     subst hwz
     have HK2:Bx (Kss w2 (fun b=>wz.heap.size≤b∧b<w2.heap.size) A2 a (ks ds)):=⟨Kss.mono hG2.vs (fun b h1 h2=>⟨h2,h1⟩)⟩
     have HPZ2:=Bx.mk (hPz.out.keep hG2.ch)
     have HIN2:Bx (In wz w2 w2 (.slice A6 q c6) (.slice A7 p c7) mb):=⟨⟨Ch.refl _ _,fun g h => .inl (lt_blk hPz.out.pw.dg.own h),fun g h => .inl (lt_blk hPz.out.pw.gg.own h),by
      obtain⟨mf,h1,_⟩:=hPz.out.pw.mp
      exact h1.lt⟩⟩
     clear hG2 HKS hPz hcu
     go_wp2_with fail
     go_loopw [8,13,14,15,16,32] (fun dv _ _ _ _ i wq=>∃ (j N q:Nat) (docs:List Dc) (vs:List Value),j≤a∧i = .int .i64 j∧Bx (Pz w wq cb mb N q p dv (.slice A7 p c7) docs gone vs (upD fk (ds.take j)) (DK++ds.take j) KK)∧Bx (In wz w2 wq dv (.slice A7 p c7) mb)) (fun _ _ _ _ _ i _=>a-(intOf i).toNat)
     case atStart=>exact⟨0,N,q,docs,vs,Nat.zero_le _,rfl,⟨by simpa using HPZ2.out.congr (upD_zero fk)⟩,HIN2⟩
     case round =>
      obtain⟨j,N,q,docs,vs,hj,rfl,hPz,hIn⟩:=hrel
      by_cases hja:j<a
      ·have dj:decide ((j:Int)<(a:Int))=true:=decide_eq_true (by omega)
       have i2:(j:Int)<(a:Int):=by omega
       obtain⟨bd,od,key,rfl,hFk,hkey,hck0⟩:=HK2.out.at_ hja
       have hck:=hIn.out.ch.cell (p:=⟨bd,od+j,none⟩) (fun (h:bd<wz.heap.size)=>by have:=hFk.1; omega) hck0
       obtain⟨dc,hd⟩:∃ dc,ds[j]? = some dc:=⟨_,List.getElem?_eq_getElem (by rw[HA.out]; exact hja)⟩
       obtain rfl:dc.1=key:=by
        have h1:=ks_get hd
        rw[hkey.out] at h1
        injection h1 with h1
        exact h1.symm
       have hokk:okK dc.1:=HSEG.out.ok.1 _ (List.mem_append_left _ (List.mem_map.2 ⟨dc,List.mem_of_getElem? hd,rfl⟩))
       obtain⟨SD,hSD⟩:∃ S:ByteArray,(⟨dc.1.toArray⟩:ByteArray)=S:=⟨_,rfl⟩
       have hkv:kv dc.1 = .string SD:=by unfold kv; rw[hSD]
       have hSDk:SD.data.toList=dc.1:=by rw[←hSD]
       have hsz:SD.size≤maxLen:=by
        have h1:=hokk.2
        have h2:SD.size=dc.1.length:=by rw[←hSDk]; simp
        unfold maxLen
        omega
       rw[hkv] at hck
       obtain⟨mf,hMp,hSeen⟩:=hPz.out.pw.mp
       have hjt:(ds.take j).length=j:=by rw[List.length_take,HA.out]; omega
       have htk:ds.take (j+1)=ds.take j++[dc]:=Oct.take_more hd
       have hnn:=hPz.out.nn
       have hqq:=hPz.out.qn.1
       rw[List.length_append,hjt] at hnn hqq
       have hNb:N<1000000:=by have h2:=HBD.out; omega
       have hqb:q≤20000:=by have h2:=HBD.out; omega
       have HFI:=Bx.mk (first_any dc.1 SD hSDk hsz cb mb N mf wr hPz.out.pw.cc hMp hNb hPz.out.pw.cm)
       have HMP:=Bx.mk hMp
       have HSN:=Bx.mk hSeen
       have HD:=Bx.mk hd
       have HKV:=Bx.mk hkv
       have HTK2:=Bx.mk htk
       have HJT:=Bx.mk hjt
       have HNN2:Bx (N+1≤(DK++ds.take (j+1)).length+KK.length):=⟨by rw[htk,←List.append_assoc,List.length_append,List.length_append,hjt]; simp; omega⟩
       obtain⟨A8,c8,rfl,_,_⟩:=own_shape' hPz.out.pw.dg.own
       have HPZ:=hPz
       have HIN:=hIn
       clear hPz hIn hck0 hkey hokk hSD hSDk hkv hsz hMp hSeen hjt htk hnn hqq hd hFk
       go_wp2_with fail
       refine HFI.out.mono ?_
       rintro e w3 ⟨rfl,hM3,hC3⟩
       rw[HSN.out.none_ dc.1]
       have HM3:=Bx.mk hM3
       have HC3:=Bx.mk hC3
       have HIN3:=Bx.mk (HIN.out.map hC3)
       clear hM3 hC3 HFI
       cases hf:upD fk (ds.take j) dc.1 with
       | some x =>
        have HPN:Bx (Pz w w3 cb mb (N+1) q p (.slice A8 q c8) (.slice A7 p c7) docs gone vs (upD fk (ds.take (j+1))) (DK++ds.take (j+1)) KK):=⟨by
         have h1:=HPZ.out.pw.map HMP.out HM3.out HC3.out (HSN.out.again (by rw[hf]; rfl) _)
         have h2:∀ k,upD fk (ds.take (j+1)) k=upD fk (ds.take j) k:=fun k=>by rw[HTK2.out]; exact upD_seen (fun e=>by rw[e] at hf; simp at hf) k
         exact⟨h1.congr h2,HPZ.out.mg.congr h2,by rw[HTK2.out,←List.append_assoc]; exact HPZ.out.sd.trans (List.sublist_append_left _ _),HPZ.out.sk,HNN2.out⟩⟩
        clear hf
        go_wp2_with fail
        go_roundw
        case rel=>exact⟨j+1,N+1,q,docs,vs,by omega,by go_num,HPN,HIN3⟩
        case measure=>simp[intOf]; omega
       | none =>
        have HPN0:Bx (Pw w w3 cb mb (N+1) q p (.slice A8 q c8) (.slice A7 p c7) docs gone vs (upD fk (ds.take (j+1)))):=⟨(HPZ.out.pw.map HMP.out HM3.out HC3.out (HSN.out.put dc.1 _ (some dc.2))).congr (fun k=>by rw[HTK2.out]; exact upD_new hf k)⟩
        have HMG:Bx (Mgu (upD fk (ds.take (j+1))) false (docs++[dc]) gone):=⟨(HPZ.out.mg.push hf dc.2).congr (fun k=>by rw[HTK2.out]; exact upD_new hf k)⟩
        have hgt:=get_any (HSP.out.keep HPN0.out.dg.ch) HSEG.out.rd HSEG.out.rg (by rw[HA.out]; omega) (by rw[HG.out]; omega) dc.1
        rw[HKV.out] at hgt
        have HGT:=Bx.mk hgt
        clear hf hgt
        go_wp2_with fail
        refine HGT.out.mono ?_
        rintro e w4 ⟨v4,tx,hs,kn,rfl,hf4,hgr⟩
        have hat:at_ ds dc.1=some dc.2:=(at_mem HSEG.out.rd.nodup).2 (List.mem_of_getElem? HD.out)
        unfold GR at hgr
        rw[hat] at hgr
        obtain⟨rfl,rfl,rfl⟩:=hgr
        obtain⟨tl,htl⟩:∃ tl,dc.2.length=tl:=⟨_,rfl⟩
        obtain⟨A4,c4,rfl,h41,h42⟩:=fr_shape (ys:=dc.2) hf4 htl
        have hsl:=Fresh.sl hf4 htl.symm
        have HP4:=Bx.mk (HPN0.out.keep hf4.2.2)
        have HIN4:=Bx.mk (HIN3.out.keep hf4.2.2)
        have hmbl:mb<w3.heap.size:=HM3.out.lt
        have HST:Bx (Sl w4 (fun b=>(Value.slice A8 q c8).ownBlock≠some b∧(Value.slice A7 p c7).ownBlock≠some b∧b≠mb) .u8 A4 tl dc.2):=⟨hsl.mono fun b _ (hb:w3.heap.size≤b)=>⟨fun e=>by have:=lt_blk HPN0.out.dg.own e; omega,fun e=>by have:=lt_blk HPN0.out.gg.own e; omega,by omega⟩⟩
        have HTL:=Bx.mk htl
        have HT1:=Bx.mk h41
        have HT2:=Bx.mk h42
        clear hf4 hat htl hsl h41 h42 HGT hmbl
        go_wp2_with (at_builtin; refine wp_appK rfl (.tmp 46) (.tmp 50) elemD rfl rfl (HP4.out.dg.own.alloc _) rfl (m:=1) rfl (doc_cells w4 SD _ _ rfl) ?c1 ?c2 ?c3 ?_)
        case c1=>intro u hu; simp at hu; rcases hu with hu | hu <;> (subst hu; rfl)
        case c2=>omega
        case c3=>omega
        intro v5 w5 ho5 hg5 hb5
        have HP5:=Bx.mk (HP4.out.doc (d:=dc) (by rw[HTL.out]; exact HST.out) (by rw[HTL.out]; exact HT1.out) HT2.out ((Ch.refl (fun _=>False) w4).alloc _) (by rw[HKV.out,HTL.out]; exact ho5) hg5 (by rw[World.size_alloc]; exact hb5))
        have HIN5:=Bx.mk (HIN4.out.doc ((Ch.refl (fun _=>False) w4).alloc _) hg5 (by rw[World.size_alloc]; exact hb5))
        have HPN:Bx (Pz w w5 cb mb (N+1) (q+1) p v5 (.slice A7 p c7) (docs++[dc]) gone (vs++[.slice A4 dc.2.length c4]) (upD fk (ds.take (j+1))) (DK++ds.take (j+1)) KK):=⟨⟨HP5.out,HMG.out,by rw[HTK2.out,←List.append_assoc]; exact HPZ.out.sd.append (List.Sublist.refl _),HPZ.out.sk,HNN2.out⟩⟩
        clear ho5 hg5 hb5 HP5
        go_wp2_with fail
        go_roundw
        case rel=>exact⟨j+1,N+1,q+1,_,_,by omega,by go_num,HPN,HIN5⟩
        case measure=>simp[intOf]; omega
      ·obtain rfl:a=j:=by omega
       have dj:decide ((a:Int)<(a:Int))=false:=decide_eq_false (by omega)
       have hall:ds.take a=ds:=List.take_of_length_le (Nat.le_of_eq HA.out)
       rw[hall] at hPz
       clear hall
       obtain⟨A8,c8,rfl,_,_⟩:=own_shape' hPz.out.pw.dg.own
       have HGK:=Bx.mk (gone_any (HSP.out.keep hPz.out.pw.dg.ch) (by rw[HG.out]; omega))
       rw[HG.out] at HGK
       have HPZ:=hPz
       clear hPz hIn
       go_wp2_with fail
       refine HGK.out.mono ?_
       rintro e w3 ⟨A3,c3,rfl,hG3,_,_⟩
       obtain⟨wy,hwy⟩:∃ wy,wy=wr:=⟨_,rfl⟩
       subst hwy
       have HK3:Bx (Kss w3 (fun b=>wy.heap.size≤b∧b<w3.heap.size) A3 g gs):=⟨Kss.mono hG3.vs (fun b h1 h2=>⟨h2,h1⟩)⟩
       have HPZ3:=Bx.mk (HPZ.out.keep hG3.ch)
       have HIN3:Bx (In wy w3 w3 (.slice A8 q c8) (.slice A7 p c7) mb):=⟨⟨Ch.refl _ _,fun g h => .inl (lt_blk HPZ.out.pw.dg.own h),fun g h => .inl (lt_blk HPZ.out.pw.gg.own h),by
        obtain⟨mf,h1,_⟩:=HPZ.out.pw.mp
        exact h1.lt⟩⟩
       clear hG3 HGK
       go_wp2_with fail
       go_loopw [9,18,56] (fun gv _ i wr=>∃ (j N p:Nat) (gone:List Key),j≤g∧i = .int .i64 j∧Bx (Pz w wr cb mb N q p (.slice A8 q c8) gv docs gone vs (upG fk ds (gs.take j)) (DK++ds) (KK++gs.take j))∧Bx (In wy w3 wr (.slice A8 q c8) gv mb)) (fun _ _ i _=>g-(intOf i).toNat)
       case atStart=>exact⟨0,N,p,gone,Nat.zero_le _,rfl,⟨by simpa using HPZ3.out.congr (upG_zero fk ds)⟩,HIN3⟩
       case round =>
        obtain⟨j,N,p,gone,hj,rfl,hPz,hIn⟩:=hrel
        by_cases hja:j<g
        ·have dj:decide ((j:Int)<(g:Int))=true:=decide_eq_true (by omega)
         have i2:(j:Int)<(g:Int):=by omega
         obtain⟨bd,od,key,rfl,hFk,hkey,hck0⟩:=HK3.out.at_ hja
         have hck:=hIn.out.ch.cell (p:=⟨bd,od+j,none⟩) (fun (h:bd<wy.heap.size)=>by have:=hFk.1; omega) hck0
         have hokk:okK key:=HSEG.out.ok.1 _ (List.mem_append_right _ (List.mem_of_getElem? hkey.out))
         obtain⟨SD,hSD⟩:∃ S:ByteArray,(⟨key.toArray⟩:ByteArray)=S:=⟨_,rfl⟩
         have hkv:kv key = .string SD:=by unfold kv; rw[hSD]
         have hSDk:SD.data.toList=key:=by rw[←hSD]
         have hsz:SD.size≤maxLen:=by
          have h1:=hokk.2
          have h2:SD.size=key.length:=by rw[←hSDk]; simp
          unfold maxLen
          omega
         rw[hkv] at hck
         obtain⟨mf,hMp,hSeen⟩:=hPz.out.pw.mp
         have hjt:(gs.take j).length=j:=by rw[List.length_take,HG.out]; omega
         have htk:gs.take (j+1)=gs.take j++[key]:=Oct.take_more hkey.out
         have hnn:=hPz.out.nn
         have hqq:=hPz.out.qn.2
         rw[List.length_append,List.length_append,hjt,HA.out] at hnn
         rw[List.length_append,hjt] at hqq
         have hNb:N<1000000:=by have h2:=HBD.out; omega
         have hpb:p≤20000:=by have h2:=HBD.out; omega
         have HFI:=Bx.mk (first_any key SD hSDk hsz cb mb N mf wr hPz.out.pw.cc hMp hNb hPz.out.pw.cm)
         have HMP:=Bx.mk hMp
         have HSN:=Bx.mk hSeen
         have HKV:=Bx.mk hkv
         have HTK2:=Bx.mk htk
         have HNN2:Bx (N+1≤(DK++ds).length+(KK++gs.take (j+1)).length):=⟨by rw[htk,←List.append_assoc,List.length_append,List.length_append,List.length_append,hjt,HA.out]; simp; omega⟩
         obtain⟨A9,c9,rfl,_,_⟩:=own_shape' hPz.out.pw.gg.own
         have HPZ:=hPz
         have HIN:=hIn
         clear hPz hIn hck0 hkey hokk hSD hSDk hkv hsz hMp hSeen hjt htk hnn hqq hFk
         go_wp2_with fail
         refine HFI.out.mono ?_
         rintro e w4 ⟨rfl,hM3,hC3⟩
         rw[HSN.out.none_ key]
         have HM3:=Bx.mk hM3
         have HC3:=Bx.mk hC3
         have HIN4:=Bx.mk (HIN.out.map hC3)
         clear hM3 hC3 HFI
         cases hf:upG fk ds (gs.take j) key with
         | some x =>
          have HPN:Bx (Pz w w4 cb mb (N+1) q p (.slice A8 q c8) (.slice A9 p c9) docs gone vs (upG fk ds (gs.take (j+1))) (DK++ds) (KK++gs.take (j+1))):=⟨by
           have h1:=HPZ.out.pw.map HMP.out HM3.out HC3.out (HSN.out.again (by rw[hf]; rfl) _)
           have h2:∀ k,upG fk ds (gs.take (j+1)) k=upG fk ds (gs.take j) k:=fun k=>by rw[HTK2.out]; exact upG_seen (fun e=>by rw[e] at hf; simp at hf) k
           exact⟨h1.congr h2,HPZ.out.mg.congr h2,HPZ.out.sd,by rw[HTK2.out,←List.append_assoc]; exact HPZ.out.sk.trans (List.sublist_append_left _ _),HNN2.out⟩⟩
          clear hf
          go_wp2_with fail
          go_roundw
          case rel=>exact⟨j+1,N+1,p,gone,by omega,by go_num,HPN,HIN4⟩
          case measure=>simp[intOf]; omega
         | none =>
          have HPN0:Bx (Pw w w4 cb mb (N+1) q p (.slice A8 q c8) (.slice A9 p c9) docs gone vs (upG fk ds (gs.take (j+1)))):=⟨(HPZ.out.pw.map HMP.out HM3.out HC3.out (HSN.out.put key _ none)).congr (fun k=>by rw[HTK2.out]; exact upG_new hf k)⟩
          have HMG:Bx (Mgu (upG fk ds (gs.take (j+1))) false docs (gone++[key])):=⟨(HPZ.out.mg.drop hf).congr (fun k=>by rw[HTK2.out]; exact upG_new hf k)⟩
          clear hf
          go_wp2_with (at_builtin; refine wp_app rfl (.tmp 63) (.tmp 65) elemS rfl rfl (HPN0.out.gg.own.alloc _) rfl (Vs.one _ _ _) ?c1 ?c2 ?c3 ?_)
          case c1=>intro u hu; simp at hu; subst hu; rfl
          case c2=>omega
          case c3=>omega
          intro v5 w5 ho5 hg5 hb5
          have HP5:=Bx.mk (HPN0.out.key (k:=key) ((Ch.refl (fun _=>False) w4).alloc _) (by rw[HKV.out]; exact ho5) hg5 (by rw[World.size_alloc]; exact hb5))
          have HIN5:=Bx.mk (HIN4.out.key ((Ch.refl (fun _=>False) w4).alloc _) hg5 (by rw[World.size_alloc]; exact hb5))
          have HPN:Bx (Pz w w5 cb mb (N+1) q (p+1) (.slice A8 q c8) v5 docs (gone++[key]) vs (upG fk ds (gs.take (j+1))) (DK++ds) (KK++gs.take (j+1))):=⟨⟨HP5.out,HMG.out,HPZ.out.sd,by rw[HTK2.out,←List.append_assoc]; exact HPZ.out.sk.append (List.Sublist.refl _),HNN2.out⟩⟩
          clear ho5 hg5 hb5 HP5
          go_wp2_with fail
          go_roundw
          case rel=>exact⟨j+1,N+1,p+1,_,by omega,by go_num,HPN,HIN5⟩
          case measure=>simp[intOf]; omega
        ·obtain rfl:g=j:=by omega
         have dj:decide ((g:Int)<(g:Int))=false:=decide_eq_false (by omega)
         have hall:gs.take g=gs:=List.take_of_length_le (Nat.le_of_eq HG.out)
         have HMN:Bx (Pz w wr cb mb N q p (.slice A8 q c8) u9 docs gone vs (first (lv (os.take (k+1)))) (fD (lv (os.take (k+1)))) (fK (lv (os.take (k+1))))):=⟨by
          have h:=hPz.out
          rw[hall] at h
          rw[HTK.out,fD_app,fK_app,hDK,hKK]
          have e1:fD [(ds,gs)]=ds:=by simp[fD]
          have e2:fK [(ds,gs)]=gs:=by simp[fK]
          rw[e1,e2]
          refine h.congr fun x=>?_
          rw[←upG_all,hfk]⟩
         clear hall hPz hIn
         go_wp2_with fail
         go_roundw
         case rel=>exact⟨k+1,N,q,p,docs,gone,vs,by omega,by go_num,HMN⟩
         case measure=>simp[intOf]; omega
   ·obtain rfl:n=k:=by omega
    have dk:decide ((n:Int)<(n:Int))=false:=decide_eq_false (by omega)
    have hall:os.take n=os:=List.take_of_length_le (Nat.le_of_eq HL.out)
    rw[hall] at hPz
    obtain⟨A6,c6,rfl,hq,hDc,_,_⟩:=hPz.out.pw.dcs
    obtain⟨A7,c7,rfl,hc7,hd7⟩:=own_shape' hPz.out.pw.gg.own
    have hTw:=HT.out.keep hPz.out.pw.dg.ch
    have hbyt:∀ d∈docs,∀ x∈d.2,0≤x∧x<256:=fun d hd=>by
     obtain⟨s,hs,hd2⟩:=List.mem_flatMap.1 (hPz.out.sd.subset hd)
     exact (HSG.out s hs).byts d hd2
    have HC:=Bx.mk hPz.out.pw.dg.ch
    have HMG:=Bx.mk hPz.out.mg
    have HSD:=Bx.mk hPz.out.sd
    have HSK:=Bx.mk hPz.out.sk
    cases last with
    | true =>
     have HNW:=Bx.mk (new_any docs [] A6 none docs.length c6 0 0 wr hDc (Kss.nil wr (fun _=>True) none) (HLT.out.sub hPz.out.sd (List.nil_sublist _)) hbyt hTw)
     clear hq hDc hPz hall hd7 hbyt hTw
     go_wp2_with fail
     refine HNW.out.mono ?_
     rintro e w1 hR
     have HR:=Bx.mk (hR.back HC.out)
     obtain⟨ec,ds,gs,hres,hc1,ho⟩:=hR.back HC.out
     have HRES:=Bx.mk hres
     have HC1:=Bx.mk hc1
     clear hR hres hc1 HNW HR
     rcases ho with ⟨h0,rfl⟩ | ⟨rfl,b,rfl,hrs⟩
     ·have H0:=Bx.mk h0
      clear h0
      go_wp2_with fail
      go_ret2
      exact .inr ⟨HNN.out,docs,[],Mgu.last_ HMG.out,HSD.out,List.nil_sublist _,ec,ds,gs,HRES.out,HC1.out, .inl ⟨H0.out,rfl⟩⟩
     ·have HRS:=Bx.mk hrs
      clear hrs
      go_wp2_with fail
      go_ret2
      exact .inr ⟨HNN.out,docs,[],Mgu.last_ HMG.out,HSD.out,List.nil_sublist _,0,ds,gs,HRES.out,HC1.out, .inr ⟨rfl,b,rfl,HRS.out⟩⟩
    | false =>
     have HNW:=Bx.mk (new_any docs gone A6 A7 docs.length c6 p c7 wr hDc hPz.out.pw.gg.vs (HLT.out.sub hPz.out.sd hPz.out.sk) hbyt hTw)
     clear hq hDc hPz hall hd7 hbyt hTw
     go_wp2_with fail
     refine HNW.out.mono ?_
     rintro e w1 hR
     obtain⟨ec,ds,gs,hres,hc1,ho⟩:=hR.back HC.out
     have HRES:=Bx.mk hres
     have HC1:=Bx.mk hc1
     clear hR hres hc1 HNW
     rcases ho with ⟨h0,rfl⟩ | ⟨rfl,b,rfl,hrs⟩
     ·have H0:=Bx.mk h0
      clear h0
      go_wp2_with fail
      go_ret2
      exact .inr ⟨HNN.out,docs,gone,HMG.out,HSD.out,HSK.out,ec,ds,gs,HRES.out,HC1.out, .inl ⟨H0.out,rfl⟩⟩
     ·have HRS:=Bx.mk hrs
      clear hrs
      go_wp2_with fail
      go_ret2
      exact .inr ⟨HNN.out,docs,gone,HMG.out,HSD.out,HSK.out,0,ds,gs,HRES.out,HC1.out, .inr ⟨rfl,b,rfl,HRS.out⟩⟩
end
end
section
open Go.RowKit Go.Oct Go.Su Go.Sg Go.Fr
theorem encs_ge:∀ t:List Int,t.length≤(t.flatMap Oct.encI).length
 | []=>Nat.zero_le _
 | x::t=>by
  rw[List.flatMap_cons,List.length_append,List.length_cons]
  have h1:=encs_ge t
  have h2:0<(Oct.encI x).length:=by unfold Oct.encI; exact encN_pos _
  omega
theorem bod_ge (ds:List Dc) (gs:List Key) (t:List Int):((ks ds).flatMap kB).length≤(bod ds gs t).length∧(gs.flatMap kB).length≤(bod ds gs t).length∧t.length≤(bod ds gs t).length:=by
 have h:=encs_ge t
 have e1:keysB (ks ds)=encN (ks ds).length++(ks ds).flatMap kB:=keysB_eq _
 have e2:keysB gs=encN gs.length++gs.flatMap kB:=keysB_eq _
 unfold bod
 rw[e1,e2]
 simp only[List.length_append]
 omega
theorem flat_kB_ge:∀ l:List Key,l.length≤(l.flatMap kB).length
 | []=>Nat.zero_le _
 | k::l=>by
  rw[List.flatMap_cons,List.length_append,List.length_cons]
  have h1:=flat_kB_ge l
  have h2:0<(kB k).length:=rowB_pos _
  omega
theorem Good.lite {xs:List Int} {ds:List Dc} {gs:List Key} (h:Good xs ds gs) (hn:xs.length≤9000):Lite ds gs:=by
 obtain⟨_,t,ht,rfl,_⟩:=h
 rw[frm_len] at hn
 obtain⟨h1,h2,h3⟩:=bod_ge ds gs t
 have h4:=flat_kB_ge (ks ds)
 have h5:=flat_kB_ge gs
 rw[ks_len] at h4
 have h6:=ht.len
 rw[txt_len,ts_len] at h6
 exact⟨by omega,by omega,by omega,by omega,by omega⟩
theorem bod_slim {ds:List Dc} {gs:List Key} {t:List Int} (h:wD ds+wK gs≤1500) (ht:Turned (txt (ts ds)) t):(bod ds gs t).length≤20000:=by
 obtain⟨h1,h2,h3⟩:=wD_len ds
 obtain⟨h4,h5⟩:=wK_len gs
 have h6:=ht.len
 rw[txt_len] at h6
 have h7:=encs_len t
 have e1:keysB (ks ds)=encN (ks ds).length++(ks ds).flatMap kB:=keysB_eq _
 have e2:keysB gs=encN gs.length++gs.flatMap kB:=keysB_eq _
 have n1:=(enc_len (n:=(ks ds).length) (by rw[ks_len]; omega)).2
 have n2:=(enc_len (n:=gs.length) (by omega)).2
 have n3:=(enc_len (n:=t.length) (by omega)).2
 unfold bod
 rw[e1,e2]
 simp only[List.length_append,List.length_cons,List.length_nil]
 omega
theorem wD_perm {a b:List Dc} (h:a.Perm b):wD a=wD b:=(h.map _).sum_nat
theorem wK_perm {a b:List Key} (h:a.Perm b):wK a=wK b:=(h.map _).sum_nat
theorem wD_sub {a b:List Dc} (h:a.Sublist b):wD a≤wD b:=sub_sum (h.map _)
theorem wK_sub {a b:List Key} (h:a.Sublist b):wK a≤wK b:=sub_sum (h.map _)
theorem newres_yes {docs ds:List Dc} {gone gs:List Key} {ec:Int} (h:NewRes docs gone ec ds gs) (h0:ec=0):Made docs gone ds gs∧ArgOk docs gone∧¬ Big docs:=by
 rcases h with ⟨_,h1⟩ | ⟨_,_,h1⟩ | ⟨h1,h2,_,h3⟩
 ·omega
 ·omega
 ·exact⟨h3,h1,h2⟩
theorem newres_seg {docs ds:List Dc} {gone gs:List Key} {ec:Int} (h:NewRes docs gone ec ds gs) (h0:ec=0) (hy:∀ d∈docs,∀ x∈d.2,0≤x∧x<256):Seg ds gs:=by
 obtain⟨h1,h2,h3⟩:=newres_yes h h0
 exact h1.seg h2 h3 hy
theorem newres_mgu {l:List (List Dc×List Key)} {last:Bool} {docs ds:List Dc} {gone gs:List Key} {ec:Int} (h:NewRes docs gone ec ds gs) (hm:Mgu (first l) last docs gone) (hl:∀ s∈l,Seg s.1 s.2):ec=0∧Merged l last ds gs:=by
 obtain⟨h1,h2,_⟩:=hm.argOk hl
 rcases h with ⟨h3,_⟩ | ⟨_,h3,_⟩ | ⟨_,_,h3,h4⟩
 ·exact absurd h1 h3
 ·exact absurd h3 h2
 ·exact⟨h3,hm.merged h4⟩
theorem newres_perm {docs docs' ds ds':List Dc} {gone gone' gs gs':List Key} {ec:Int} (h:NewRes docs gone 0 ds gs) (hd:docs'.Perm docs) (hg:gone'.Perm gone) (h':NewRes docs' gone' ec ds' gs'):ec=0∧ds'=ds∧gs'=gs:=by
 obtain⟨h1,h2,h3⟩:=newres_yes h rfl
 rcases h' with ⟨h4,_⟩ | ⟨_,⟨t,ht,h4⟩,_⟩ | ⟨_,_,h4,h5⟩
 ·exact absurd (h2.perm hd hg) h4
 ·exact absurd ⟨t,((hd.map (fun d:Dc=>d.2)).mem_iff).1 ht,h4⟩ h3
 ·obtain⟨e1,e2⟩:=h1.uniq ⟨h5.pd.trans hd,h5.rd,h5.pg.trans hg,h5.rg⟩
  exact⟨h4,e1.symm,e2.symm⟩
theorem rise_docs_nodup {ds:List Dc} (h:(ks ds).Nodup):ds.Nodup:=by
 unfold ks List.Nodup at h
 rw[List.pairwise_map] at h
 exact h.imp fun hne e=>hne (by rw[e])
def newOf (s:List Dc×List Key) (l:List Dc):List Dc:=l.filter fun d=>(know s d.1).isNone
theorem newest_len {s r:List Dc×List Key} {last:Bool} {ds:List Dc} {gs:List Key} (h:Merged [s,r] last ds gs) (hs:Seg s.1 s.2) (hr:Seg r.1 r.2):ds.length=s.1.length+(newOf s r.1).length:=by
 rw[←List.length_append]
 refine List.Perm.length_eq ?_
 have n1:=rise_docs_nodup hs.rd.nodup
 have n2:=rise_docs_nodup hr.rd.nodup
 refine (List.perm_ext_iff_of_nodup (rise_docs_nodup h.rd.nodup) (List.nodup_append.2 ⟨n1,n2.filter _,fun a ha b hb e=>?_⟩)).2 fun ⟨k,t⟩=>?_
 ·subst e
  obtain⟨_,hb⟩:=List.mem_filter.1 hb
  rw[(know_doc (s:=s) hs.nd (k:=a.1) (t:=a.2)).2 ha] at hb
  simp at hb
 ·rw[h.doc,List.mem_append]
  rw[List.mem_filter]
  have k1:=know_doc (s:=s) hs.nd (k:=k) (t:=t)
  have k2:=know_doc (s:=r) hr.nd (k:=k) (t:=t)
  unfold first
  rw[List.findSome?_cons,List.findSome?_cons,List.findSome?_nil]
  cases hk:know s k with
  | some x =>
   rw[hk] at k1
   simp only[Option.isNone_some,Bool.false_eq_true,and_false,or_false]
   exact k1
  | none =>
   rw[hk] at k1
   simp only[Option.isNone_none,and_true]
   rw[←k2]
   have:(k,t)∉s.1:=fun hm=>by simpa using k1.2 hm
   simp only[this,false_or]
   cases know r k <;> simp
theorem newOf_take {s:List Dc×List Key} {l:List Dc} {k:Nat} {d:Dc} (h:l[k]? = some d):newOf s (l.take (k+1))=newOf s (l.take k)++(if (know s d.1).isNone then [d] else []):=by
 unfold newOf
 rw[Oct.take_more h,List.filter_append]
 congr 1
 cases hk:(know s d.1).isNone <;> simp[hk]
theorem newest_one {s r:List Dc×List Key} {last:Bool} {ds:List Dc} {gs:List Key} (h:Merged [s,r] last ds gs) (hs:Seg s.1 s.2) {d:Dc} (hd:d∈s.1):at_ ds d.1=some d.2 :=
 (at_mem h.rd.nodup).2 ((h.doc d.1 d.2).2 (by
  unfold first
  rw[List.findSome?_cons,(know_doc (s:=s) hs.nd (k:=d.1) (t:=d.2)).2 hd]))
theorem newest_two {s r:List Dc×List Key} {last:Bool} {ds:List Dc} {gs:List Key} (h:Merged [s,r] last ds gs) (hr:Seg r.1 r.2) {d:Dc} (hd:d∈r.1) (hk:know s d.1=none):at_ ds d.1=some d.2 :=
 (at_mem h.rd.nodup).2 ((h.doc d.1 d.2).2 (by
  unfold first
  rw[List.findSome?_cons,hk,List.findSome?_cons,(know_doc (s:=r) hr.nd (k:=d.1) (t:=d.2)).2 hd]))
theorem newest_gone {l:List (List Dc×List Key)} {ds:List Dc} {gs:List Key} (h:Merged l true ds gs):gs=[]:=by
 cases gs with
 | nil=>rfl
 | cons k gs=>exact absurd ((h.gone k).1 (by simp)).1 (by simp)
theorem GR.known {ds:List Dc} {gs:List Key} {k:Key} {t:List Int} {hs kn:Bool} (h:GR ds gs k t hs kn):kn=(know (ds,gs) k).isSome:=by
 unfold GR at h
 unfold know
 cases ha:at_ ds k with
 | some u=>rw[ha] at h; simpa using h.2.2
 | none =>
  rw[ha] at h
  simp only at h ⊢
  rw[h.2.2]
  by_cases hk:k∈gs
  ·simp[hk]
  ·simp[hk]
theorem GR.uniq {ds:List Dc} {gs:List Key} {k:Key} {t u:List Int} {hs kn hs' kn':Bool} (h:GR ds gs k t hs kn) (h':GR ds gs k u hs' kn'):t=u∧hs=hs'∧kn=kn':=by
 unfold GR at h h'
 cases ha:at_ ds k with
 | some v =>
  rw[ha] at h h'
  exact⟨h.1.trans h'.1.symm,h.2.1.trans h'.2.1.symm,h.2.2.trans h'.2.2.symm⟩
 | none =>
  rw[ha] at h h'
  exact⟨h.1.trans h'.1.symm,h.2.1.trans h'.2.1.symm,h.2.2.trans h'.2.2.symm⟩
theorem GR.doc {ds:List Dc} {gs:List Key} {d:Dc} {t:List Int} {hs kn:Bool} (hn:(ks ds).Nodup) (hd:d∈ds) (h:GR ds gs d.1 t hs kn):t=d.2∧hs=true∧kn=true:=by
 unfold GR at h
 rw[(at_mem hn (k:=d.1) (t:=d.2)).2 hd] at h
 exact h
theorem GR.gone {ds:List Dc} {gs:List Key} {k:Key} {t:List Int} {hs kn:Bool} (hn:(ks ds++gs).Nodup) (hk:k∈gs) (h:GR ds gs k t hs kn):t=[]∧hs=false∧kn=true:=by
 unfold GR at h
 have:at_ ds k=Option.none:=at_none.2 fun hm=>(List.nodup_append.1 hn).2.2 k hm k hk rfl
 rw[this] at h
 simp only[hk,decide_true] at h
 exact h
theorem finds_len (ds:List Dc) (p:List Int):(locs (ts ds) p 0).length=(finds ds p).length:=by
 rw[←finds_all,List.length_map]
end
section
open Go.RowKit Go.Oct Go.Su Go.Sg
def matZ:Value := .agg #[.string ByteArray.empty, .int .i64 0]
theorem mkM (w:World) (n:Nat) (hn:n≤1048576):(Instr.makeSlice 72 (.int .i64 (n:Int)) (.int .i64 (n:Int))).run Tryz.prog w = .ok (.slice (some ⟨w.heap.size,0,none⟩) n n) (w.alloc (.cells (madeCells matZ.cells (n*2)) 97)):=by
 obtain⟨i,hi,hz,hs,hby⟩:=infoK elemM.info
 have hb':(i.bytes:Int)*(n:Int)≤281474976710656:=by
  rw[hby]
  have h:((24*n:Nat):Int)≤281474976710656:=by omega
  rwa[Int.natCast_mul] at h
 have hr:=run_make (P := Tryz.prog) w 72 97 i matZ Tryz.underlying72 hi hz .i64 .i64 n n (by omega) (by omega) hb' (by omega)
 simp only[Int.toNat_natCast,hs] at hr
 exact hr
theorem ownM (w:World) (n:Nat) (hn:n≤1048576):Own (w.alloc (.cells (madeCells matZ.cells (n*2)) 97)) 97 2 w.heap.size n n (madeCells matZ.cells (n*2)).toList :=
 ⟨World.ownsRow_lit (base:=0) (e := 97) (size:=2) w (madeCells matZ.cells (n*2)) n (Nat.zero_le _) (by unfold maxLen; omega) (by simp[madeCells])⟩
def MUp (l:List (Key×Nat)) (k:Nat) (us:List Value):Prop:=∀ j h,j<k→l[j]? = some h→us[j*2]? = some (kv h.1)∧us[j*2+1]? = some (.int .i64 (h.2:Nat))
theorem MUp.next {l:List (Key×Nat)} {k a:Nat} {key:Key} {us:List Value} (h:MUp l k us) (hl:k*2+1<us.length) (hk:l[k]? = some (key,a)):MUp l (k+1) ((us.set (k*2) (kv key)).set (k*2+1) (.int .i64 (a:Nat))):=by
 intro j x hj hx
 by_cases e:j=k
 ·subst e
  rw[hk] at hx
  obtain rfl:=Option.some.inj hx
  constructor
  ·rw[List.getElem?_set_ne (by omega),List.getElem?_set_self (by omega)]
  ·rw[List.getElem?_set_self (by rw[List.length_set]; omega)]
 ·obtain⟨h1,h2⟩:=h j x (by omega) hx
  constructor
  ·rw[List.getElem?_set_ne (by omega),List.getElem?_set_ne (by omega)]
   exact h1
  ·rw[List.getElem?_set_ne (by omega),List.getElem?_set_ne (by omega)]
   exact h2
theorem mup_mts {w:World} {g n c:Nat} {l:List (Key×Nat)} {us:List Value} (ho:Own w 97 2 g n c us) (h:MUp l n us) (hl:l.length=n):Mts w (fun b=>b=g) (some ⟨g,0,none⟩) n l:=by
 refine⟨hl,fun _=>⟨g,0,rfl,rfl,fun j x hx=>?_⟩⟩
 obtain⟨hj,_⟩:=List.getElem?_eq_some_iff.1 hx
 obtain⟨k1,k2⟩:=h j x (by omega) hx
 refine⟨[kv x.1, .int .i64 (x.2:Nat)],rfl,rfl,fun i u hu=>?_⟩
 rw[Nat.zero_add]
 match i,hu with
 | 0,hu=>simp at hu; subst hu; exact ho.cellAt k1
 | 1,hu=>simp at hu; subst hu; exact ho.cellAt k2
theorem Mts.mono {w:World} {F G:Nat→Prop} {A:Option Addr} {n:Nat} {l:List (Key×Nat)} (h:Mts w F A n l) (hF:∀ b,b<w.heap.size→F b→G b):Mts w G A n l:=Ro.mono h (by omega) hF fun _ _ _ he=>he
section
variable {F G:Nat→Prop}
theorem find_nil (w:World) (B:Option Addr) (m d:Nat):Calls Tryz.prog 37 #[.pointer none, .slice B m d] w fun e w'=>e = .returned (.slice none 0 0)∧Ch (fun _=>False) w w':=by
 go_enter Tryz.func37,Tryz.ntmps37
 go_wp2_with fail
 refine (keyless_nil w).mono ?_
 rintro e w1 ⟨rfl,hc⟩
 go_wp2
 go_ret
 exact⟨rfl,hc⟩
theorem find_any {w:World} {b:Nat} {ds:List Dc} {gs:List Key} (h:Sp w F b ds gs) (hn:ds.length≤1048576) (hN:beg (ts ds) ds.length≤1048576) (p:List Int) (B:Option Addr) (m d:Nat) (hp:Sl w G .u8 B m p) (hbp:∀ x∈p,0≤x∧x<256) (hm:m≤1048576) :
  Calls Tryz.prog 37 #[.pointer (some ⟨b,0,none⟩), .slice B m d] w (FindsOf (finds ds p) w):=by
 have HK:=Bx.mk (keyless_any h)
 have HH:=Bx.mk h
 have HP:=Bx.mk hp
 have HBP:=Bx.mk hbp
 have HFA:=Bx.mk (finds_all ds p)
 have HFL:Bx ((finds ds p).length≤1048576):=⟨Nat.le_trans (finds_le p ds) hN⟩
 clear h hp hbp hN
 go_enter Tryz.func37,Tryz.ntmps37
 go_wp2_with fail
 refine HK.out.mono ?_
 rintro e w1 ⟨rfl,hc⟩
 obtain⟨x,A,n,c,B2,m2,d2,h1⟩:=HH.out.keep hc
 have hc0:=h1.c0
 have hnb:n≤1048576:=by have:=h1.len; omega
 have HLN:=Bx.mk h1.len.1
 have HLO:=Bx.mk (X.locate_any h1.ix p B m d (HP.out.ch hc (fun _ _ _ h=>h)) HBP.out hm)
 have HC:=Bx.mk hc
 have H1:=Bx.mk h1
 clear h1 hc HK
 go_wp2_with fail
 refine HLO.out.mono ?_
 rintro e w2 ⟨A2,c2,n2,rfl,hH,hC2⟩
 have HIN:Bx (∀ h∈locs (ts ds) p 0,h.1<n):=⟨fun h hh=>by
  obtain⟨h1,h2⟩:=h
  have:=((mem_locs _ 0 h1 h2).1 hh).2.doc
  rw[ts_len,HLN.out] at this
  exact this⟩
 obtain⟨L,hL⟩:∃ L,locs (ts ds) p 0=L:=⟨_,rfl⟩
 rw[hL] at hH HIN HFA
 have hLn:=hH.len
 have hn2:n2≤1048576:=by
  rw[←hLn]
  have h1:=HFL.out
  rw[←HFA.out,List.length_map] at h1
  exact h1
 have HHS:=Bx.mk hH
 have HC2:=Bx.mk hC2
 have HCW:=Bx.mk (HC.out.trans hC2 (fun _ _ h=>h))
 have HS2:=Bx.mk (H1.out.keep hC2)
 have HLL:=Bx.mk hLn
 clear hH hC2 hL HLO hc0 hLn
 have hmk:=mkM w2 n2 hn2
 have HO0:=Bx.mk (ownM w2 n2 hn2)
 generalize madeCells matZ.cells (n2*2)=arr at *
 go_wp2_with fail
 have HCA:Bx (Ch (fun _=>False) w2 (w2.alloc (.cells arr 97))):=⟨(Ch.refl (fun _=>False) w2).alloc _⟩
 obtain⟨g,hg⟩:∃ g,w2.heap.size=g:=⟨_,rfl⟩
 have HG:=Bx.mk hg
 have HO1:=HO0
 rw[hg] at HO1 ⊢
 clear HO0 hg hmk
 generalize w2.alloc (.cells arr 97)=w3 at *
 go_loopw [7,8,22] (fun _ _ i wr=>∃ (k:Nat) (us:List Value),k≤n2∧i = .int .i64 k∧Own wr 97 2 g n2 n2 us∧Bx (MUp (finds ds p) k us)∧Ch (fun _=>False) w2 wr) (fun _ _ i _=>n2-(intOf i).toNat)
 case atStart=>exact⟨0,_,Nat.zero_le _,rfl,HO1.out,⟨fun j h hj=>absurd hj (by omega)⟩,HCA.out⟩
 case round =>
  obtain⟨k,us,hk,rfl,hO,hU,hC⟩:=hrel
  by_cases hlt:k<n2
  ·have dk:decide ((k:Int)<(n2:Int))=true:=decide_eq_true (by omega)
   obtain⟨hx,hhx⟩:∃ hx,L[k]? = some hx:=⟨_,List.getElem?_eq_getElem (by rw[HLL.out]; exact hlt)⟩
   obtain⟨dd,aa⟩:=hx
   have hdn:dd<n:=HIN.out _ (List.mem_of_getElem? hhx)
   obtain⟨bh,oh,rfl,_,hcells⟩:=(HHS.out.ch hC (fun _ _ _ h=>h)).at_ (by omega)
   obtain⟨hc0,hc1⟩:=hcells k _ hhx
   obtain⟨bk,ok,key,rfl,_,hkey,hck⟩:=(HS2.out.keep hC).keys.at_ hdn
   have hcs:=(HS2.out.keep hC).c1
   obtain⟨SK,hSK⟩:∃ S:ByteArray,kv key = .string S:=⟨_,rfl⟩
   have HF:Bx ((finds ds p)[k]? = some (key,aa)):=⟨by
    rw[←HFA.out,List.getElem?_map,hhx]
    simp only[Option.map_some]
    rw[List.getD_eq_getElem?_getD,hkey.out]
    rfl⟩
   have HSK:=Bx.mk hSK
   rw[hSK] at hck
   have HC0:=Bx.mk hC
   have hul:=hO.len
   obtain⟨u0,hu0⟩:∃ u,us[k*2]? = some u:=⟨_,List.getElem?_eq_getElem (by omega)⟩
   obtain⟨u1,hu1⟩:∃ u,us[k*2+1]? = some u:=⟨_,List.getElem?_eq_getElem (by omega)⟩
   have HUL:=Bx.mk hul
   have HO:=Bx.mk hO
   have i1:(k:Int)<(n2:Int):=by omega
   have i2:(dd:Int)<(n:Int):=by omega
   have hCa:Ch (fun _=>False) wr (wr.alloc (.cells #[.int .i64 (dd:Nat), .int .i64 (aa:Nat)] 65)):=(Ch.refl _ wr).alloc _
   obtain⟨f0,f1⟩:=cells_two wr (.int .i64 (dd:Nat)) (.int .i64 (aa:Nat)) 65
   have k1:=hCa.cell (fun h=>h) hck
   have k2:=hCa.cell (fun h=>h) hcs
   have hOa:=hO.keep hCa
   have q0:=hOa.cellAt hu0
   have q1:=hOa.cellAt hu1
   have z0:=hOa.frozenAt (k*2)
   have z1:=hOa.frozenAt (k*2+1)
   have HOA:=Bx.mk hOa
   have HCA2:=Bx.mk hCa
   clear hhx hcells hkey hSK hul hO hOa hCa hC hu0 hu1 hck hcs
   have hC2a:=(HC0.out.trans HCA2.out (fun _ _ h=>h))
   have HC3:=Bx.mk hC2a
   clear hC2a
   go_wp2_with fail
   generalize wr.alloc (.cells #[.int .i64 (dd:Nat), .int .i64 (aa:Nat)] 65)=wa at *
   generalize wr.heap.size=gh at *
   go_region
   all_goals
    generalize hws:World.setCell (World.setCell _ _ _) _ _=ws at *
    have hCs:Ch (fun b=>b=g) wa ws:=by rw[←hws]; exact (((Ch.refl (fun b=>b=g) wa).setCell (p:=⟨g,k*2,none⟩) (.inl rfl) _).setCell (p:=⟨g,k*2+1,none⟩) (.inl rfl) _)
    have hOs:Own ws 97 2 g n2 n2 ((us.set (k*2) (kv key)).set (k*2+1) (.int .i64 (aa:Nat))):=by
     rw[←hws,HSK.out]
     exact ((HOA.out.stored (k*2) _).1.stored (k*2+1) _).1
    have HU2:=Bx.mk (hU.out.next (by have:=HUL.out; omega) HF.out)
    have HOs:=Bx.mk hOs
    have HCs:Bx (Ch (fun _=>False) w2 ws):=⟨HC3.out.trans hCs (fun i hi (e:i=g)=>by have:=HG.out; omega)⟩
    clear hws hCs hOs q0 q1 z0 z1 f0 f1 k1 k2
    go_wp2
    go_roundw
    case rel=>exact⟨k+1,_,by omega,by go_num,HOs.out.keep ((Ch.refl _ ws).drew),HU2,HCs.out.drew⟩
    case measure=>simp[intOf]; omega
  ·obtain rfl:k=n2:=by omega
   have dk:decide ((k:Int)<(k:Int))=false:=by simp
   have HML:Bx ((finds ds p).length=k):=⟨by rw[←HFA.out,List.length_map,HLL.out]⟩
   have hM:=mup_mts hO hU.out HML.out
   have HRES:=Bx.mk (hM.mono (G:=fun b=>w.heap.size≤b) (fun b _ (e:b=g)=>by have h1:=HG.out; have h2:=HCW.out.size; omega))
   have HCR:=Bx.mk (HCW.out.trans hC (fun _ _ h=>h))
   clear hO hU hC hM
   go_wp2
   go_ret
   exact⟨_,_,_,rfl,HRES.out,Nat.le_refl _,by unfold maxLen; omega,HCR.out⟩
end
end
section
open Go.RowKit Go.Oct Go.Su Go.Sg Go.Fr
def kDocs:List Dc:=[([98],[120,97,121]),([97],[97,121])]
def kSet:List Dc:=[([97],[97,121]),([98],[120,97,121])]
theorem k_made:Made kDocs [[99]] kSet [[99]]:=by
 refine⟨List.Perm.swap _ _ _,?_,List.Perm.refl _,?_⟩
 ·unfold Rise kSet Go.Sg.ks
  decide
 ·unfold Rise
  decide
theorem k_ok:ArgOk kDocs [[99]]:=by
 unfold ArgOk
 refine⟨?_,?_⟩
 ·decide
 ·decide
theorem k_small:¬ Big kDocs:=by
 rintro ⟨t,ht,h⟩
 simp[kDocs,ts] at ht
 rcases ht with rfl | rfl <;> (simp at h)
theorem k_lite:Lite kDocs [[99]]:=lite_of (by decide)
theorem k_byts:∀ d∈kDocs,∀ x∈d.2,0≤x∧x<256:=by
 intro d hd x hx
 simp[kDocs] at hd
 rcases hd with rfl | rfl <;> (simp at hx; omega)
theorem k_new {ds:List Dc} {gs:List Key} {ec:Int} (h:NewRes kDocs [[99]] ec ds gs):ec=0∧ds=kSet∧gs=[[99]]:=by
 rcases h with ⟨h1,_⟩ | ⟨_,h1,_⟩ | ⟨_,_,h1,h2⟩
 ·exact absurd k_ok h1
 ·exact absurd h1 k_small
 ·exact⟨h1,h2.uniq k_made⟩
theorem k_finds:finds kSet [97,121]=[([97],0),([98],1)]:=by decide +kernel
theorem mats_built (w:World):Mts (w.alloc (.cells #[.string ⟨#[97]⟩, .int .i64 0, .string ⟨#[98]⟩, .int .i64 1] 97)) (fun _=>True) (some ⟨w.heap.size,0,none⟩) 2 [([97],0),([98],1)]:=by
 refine⟨rfl,fun _=>⟨w.heap.size,0,rfl,trivial,fun j a ha=>?_⟩⟩
 match j,ha with
 | 0,ha =>
  simp at ha
  subst ha
  refine⟨[kv [97], .int .i64 0],rfl,rfl,fun i u hu=>?_⟩
  match i,hu with
  | 0,hu=>simp at hu; subst hu; exact (World.cell?_alloc_at _ _ _ _ rfl).trans rfl
  | 1,hu=>simp at hu; subst hu; exact (World.cell?_alloc_at _ _ _ _ rfl).trans rfl
 | 1,ha =>
  simp at ha
  subst ha
  refine⟨[kv [98], .int .i64 1],rfl,rfl,fun i u hu=>?_⟩
  match i,hu with
  | 0,hu=>simp at hu; subst hu; exact (World.cell?_alloc_at _ _ _ _ rfl).trans rfl
  | 1,hu=>simp at hu; subst hu; exact (World.cell?_alloc_at _ _ _ _ rfl).trans rfl
theorem docs_built (w3:World) (b1 b2:Nat) (h1:Sl w3 (fun _=>True) .u8 (some ⟨b1,0,none⟩) 3 [120,97,121]) (h2:Sl w3 (fun _=>True) .u8 (some ⟨b2,0,none⟩) 2 [97,121]) :
  Dcs (w3.alloc (.cells #[.string ⟨#[98]⟩, .slice (some ⟨b1,0,none⟩) 3 3, .string ⟨#[97]⟩, .slice (some ⟨b2,0,none⟩) 2 2] 37)) (fun _=>True) (some ⟨w3.heap.size,0,none⟩) 2 kDocs:=by
 refine⟨rfl,fun _=>⟨w3.heap.size,0,rfl,trivial,fun j a ha=>?_⟩⟩
 match j,ha with
 | 0,ha =>
  simp[kDocs] at ha
  subst ha
  refine⟨[kv [98], .slice (some ⟨b1,0,none⟩) 3 3],rfl,⟨_,3,rfl,h1.alloc _,Nat.le_refl _,by unfold maxLen; decide⟩,fun i u hu=>?_⟩
  match i,hu with
  | 0,hu=>simp at hu; subst hu; exact (World.cell?_alloc_at _ _ _ _ rfl).trans rfl
  | 1,hu=>simp at hu; subst hu; exact (World.cell?_alloc_at _ _ _ _ rfl).trans rfl
 | 1,ha =>
  simp[kDocs] at ha
  subst ha
  refine⟨[kv [97], .slice (some ⟨b2,0,none⟩) 2 2],rfl,⟨_,2,rfl,h2.alloc _,Nat.le_refl _,by unfold maxLen; decide⟩,fun i u hu=>?_⟩
  match i,hu with
  | 0,hu=>simp at hu; subst hu; exact (World.cell?_alloc_at _ _ _ _ rfl).trans rfl
  | 1,hu=>simp at hu; subst hu; exact (World.cell?_alloc_at _ _ _ _ rfl).trans rfl
theorem keyc_built (w:World):Kss (w.alloc (.cells #[.string ⟨#[99]⟩] 9)) (fun _=>True) (some ⟨w.heap.size,0,none⟩) 1 [[99]] :=
 Vs.mono (Vs.one w 9 (.string ⟨#[99]⟩)) (fun _ _ _=>trivial)
theorem lawtexts_yes {F G:Nat→Prop} (a:List Key) (A B:Option Addr) (n m c d:Nat) (w:World) (hz:Kss w F A n a) (hy:Kss w G B m a) (hn:n≤9223372036854775806) :
  Calls Tryz.prog 54 #[.slice A n c, .slice B m d] w fun e w'=>e = .returned (.bool true)∧Ch (fun _=>False) w w' :=
 (lawtexts_any a a A B n m c d w hz hy hn true (by simp)).mono fun e w' ⟨h1,q,h2⟩=>⟨h1,by rw[h2]; exact (Ch.refl _ w).drewN q⟩
theorem lawmatches_yes {F G:Nat→Prop} (a:List (Key×Nat)) (A B:Option Addr) (n m c d:Nat) (w:World) (hz:Mts w F A n a) (hy:Mts w G B m a) (hn:n≤9223372036854775806) :
  Calls Tryz.prog 57 #[.slice A n c, .slice B m d] w fun e w'=>e = .returned (.bool true)∧Ch (fun _=>False) w w' :=
 (lawmatches_any a a A B n m c d w hz hy hn true (by simp)).mono fun e w' ⟨h1,q,h2⟩=>⟨h1,by rw[h2]; exact (Ch.refl _ w).drewN q⟩
theorem known_any (w:World) (ht:W.Tab w):Calls Tryz.prog 19 #[] w fun e w'=>e = .returned (.bool true)∧Ch (fun _=>False) w w':=by
 have kc:=fun (w:World) (C:Array Value) (n c:Nat)=>Lib.run_convert_bytes_const (P := Tryz.prog) w 26 5 C n c Tryz.underlying26 Tryz.underlying5
 have kc2:=Joins.run_convert_bytes_const_at (P := Tryz.prog) (w.alloc (.cells #[.int .u8 120, .int .u8 97, .int .u8 121] 5 (3,4))) 26 5 #[.int .u8 97, .int .u8 121] 2 2 (w.heap.size+1) (by simp) Tryz.underlying26 Tryz.underlying5
 have HT:=Bx.mk ht
 clear ht
 go_enter Tryz.func19,Tryz.ntmps19
 go_wp2_with fail
 have hr1:Sl (w.alloc (.cells #[.int .u8 120, .int .u8 97, .int .u8 121] 5 (3,4))) (fun _=>True) .u8 (some ⟨w.heap.size,0,none⟩) 3 [120,97,121] :=
  (Vs.built w 5 [.int .u8 120, .int .u8 97, .int .u8 121] (3,4)).mono fun _ _ _=>trivial
 obtain⟨w1,hw1⟩:∃ w1,w.alloc (.cells #[.int .u8 120, .int .u8 97, .int .u8 121] 5 (3,4))=w1:=⟨_,rfl⟩
 have hC1:Ch (fun _=>False) w w1:=by rw[←hw1]; exact (Ch.refl (fun _=>False) w).alloc _
 have hs1:w1.heap.size=w.heap.size+1:=by rw[←hw1]; exact World.size_alloc ..
 rw[hw1] at hr1 ⊢
 rw[←hs1]
 have hr2:Sl (w1.alloc (.cells #[.int .u8 97, .int .u8 121] 5 (2,3))) (fun _=>True) .u8 (some ⟨w1.heap.size,0,none⟩) 2 [97,121] :=
  (Vs.built w1 5 [.int .u8 97, .int .u8 121] (2,3)).mono fun _ _ _=>trivial
 obtain⟨w2,hw2⟩:∃ w2,w1.alloc (.cells #[.int .u8 97, .int .u8 121] 5 (2,3))=w2:=⟨_,rfl⟩
 have hC2:Ch (fun _=>False) w1 w2:=by rw[←hw2]; exact (Ch.refl (fun _=>False) w1).alloc _
 have hs2:w2.heap.size=w1.heap.size+1:=by rw[←hw2]; exact World.size_alloc ..
 rw[hw2] at hr2 ⊢
 rw[←hs2]
 have hd:=docs_built w2 w.heap.size w1.heap.size (hr1.ch hC2 (fun _ _ _ h=>h)) hr2
 obtain⟨w3,hw3⟩:∃ w3,w2.alloc (.cells #[.string ⟨#[98]⟩, .slice (some ⟨w.heap.size,0,none⟩) 3 3, .string ⟨#[97]⟩, .slice (some ⟨w1.heap.size,0,none⟩) 2 2] 37)=w3:=⟨_,rfl⟩
 have hC3:Ch (fun _=>False) w2 w3:=by rw[←hw3]; exact (Ch.refl (fun _=>False) w2).alloc _
 have hs3:w3.heap.size=w2.heap.size+1:=by rw[←hw3]; exact World.size_alloc ..
 rw[hw3] at hd ⊢
 rw[←hs3]
 have hk:=keyc_built w3
 have HC:=Bx.mk ((hC1.trans (hC2.trans hC3 (fun _ _ h=>h)) (fun _ _ h=>h)).alloc (.cells #[.string ⟨#[99]⟩] 9))
 have HN:=Bx.mk (new_any kDocs [[99]] _ _ 2 2 1 1 _ (hd.alloc (.cells #[.string ⟨#[99]⟩] 9)) hk k_lite k_byts (HT.out.keep HC.out))
 clear hd hk hr1 hr2 hs1 hs2 hs3 hw1 hw2 hw3 hC1 hC2 hC3 kc2
 generalize w3.alloc (.cells #[.string ⟨#[99]⟩] 9)=w4 at *
 refine HN.out.mono ?_
 rintro e w5 ⟨ec,ds,gs,hres,hC5,h5⟩
 obtain⟨rfl,rfl,rfl⟩:=k_new hres
 rcases h5 with ⟨h0,_⟩ | ⟨_,b,rfl,hS⟩
 ·exact absurd rfl h0
 have HS:=Bx.mk hS
 have HC5:=Bx.mk (HC.out.trans hC5 (fun _ _ h=>h))
 clear hres hC5 hS HN HC
 go_wp2_with fail
 have hr6:Sl (w5.alloc (.cells #[.int .u8 97, .int .u8 121] 5 (2,3))) (fun _=>True) .u8 (some ⟨w5.heap.size,0,none⟩) 2 [97,121] :=
  (Vs.built w5 5 [.int .u8 97, .int .u8 121] (2,3)).mono fun _ _ _=>trivial
 have hC6:Ch (fun _=>False) w5 (w5.alloc (.cells #[.int .u8 97, .int .u8 121] 5 (2,3))):=(Ch.refl (fun _=>False) w5).alloc _
 have HF:=Bx.mk (find_any (HS.out.keep hC6) (by decide) (by decide) [97,121] _ 2 2 hr6 (by intro x hx; simp at hx; omega) (by omega))
 have HS6:=Bx.mk (HS.out.keep hC6)
 have HC6:=Bx.mk (HC5.out.trans hC6 (fun _ _ h=>h))
 clear hr6 hC6 HS HC5
 generalize w5.alloc (.cells #[.int .u8 97, .int .u8 121] 5 (2,3))=w6 at *
 refine HF.out.mono ?_
 rintro e w7 ⟨A7,n7,c7,rfl,hM,h71,h72,hC7⟩
 rw[k_finds] at hM
 obtain rfl:2=n7:=hM.len
 have HM:=Bx.mk hM
 have HS7:=Bx.mk (HS6.out.keep hC7)
 have HC7:=Bx.mk (HC6.out.trans hC7 (fun _ _ h=>h))
 clear hM hC7 HF HS6 HC6
 go_wp2_with fail
 have hC8:Ch (fun _=>False) w7 (w7.alloc (.cells #[.string ⟨#[97]⟩, .int .i64 0, .string ⟨#[98]⟩, .int .i64 1] 97)):=(Ch.refl (fun _=>False) w7).alloc _
 have HLM:=Bx.mk (lawmatches_yes _ A7 _ 2 2 c7 2 _ (HM.out.ch hC8 (fun _ _ _ h=>h)) (mats_built w7) (by omega))
 have HS8:=Bx.mk (HS7.out.keep hC8)
 have HC8:=Bx.mk (HC7.out.trans hC8 (fun _ _ h=>h))
 clear hC8 HS7 HC7 HM
 generalize w7.alloc (.cells #[.string ⟨#[97]⟩, .int .i64 0, .string ⟨#[98]⟩, .int .i64 1] 97)=w8 at *
 refine HLM.out.mono ?_
 rintro e w9 ⟨rfl,hC9⟩
 have HG:=Bx.mk (gone_any (HS8.out.keep hC9) (by decide))
 have HC9:=Bx.mk (HC8.out.trans hC9 (fun _ _ h=>h))
 clear hC9 HLM HS8 HC8
 go_wp2_with fail
 refine HG.out.mono ?_
 rintro e w10 ⟨A10,c10,rfl,hG10,_,_⟩
 have HG10:=Bx.mk hG10
 have HC10:=Bx.mk (HC9.out.trans hG10.ch (fun _ _ h=>h))
 clear hG10 HG HC9
 go_wp2_with fail
 have hC11:Ch (fun _=>False) w10 (w10.alloc (.cells #[.string ⟨#[99]⟩] 9)):=(Ch.refl (fun _=>False) w10).alloc _
 have HLT:=Bx.mk (lawtexts_yes [[99]] A10 _ 1 1 c10 1 _ (Kss.alloc (Vs.mono (G:=fun _=>True) HG10.out.vs (fun _ _ _=>trivial)) (.cells #[.string ⟨#[99]⟩] 9)) (keyc_built w10) (by omega))
 have HC11:=Bx.mk (HC10.out.trans hC11 (fun _ _ h=>h))
 clear hC11 HC10 HG10
 generalize w10.alloc (.cells #[.string ⟨#[99]⟩] 9)=w11 at *
 refine HLT.out.mono ?_
 rintro e w12 ⟨rfl,hC12⟩
 have HC12:=Bx.mk (HC11.out.trans hC12 (fun _ _ h=>h))
 clear hC12 HLT HC11
 go_wp2
 go_ret
 exact⟨rfl,HC12.out⟩
end
end Go.Proofs.YtambgjpfoceieaaGreatDoor
