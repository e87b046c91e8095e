/- Lemmas and contracts of this proof. Conditions: said at each. -/
import Derived.Test.YtoolcbaipinloaaDoorGKpApM
set_option maxHeartbeats 8000000
set_option maxRecDepth 100000
namespace Go.Proofs.YtoolcbaipinloaaDoor
open Go.RowKit Go.Oct Go.Su Go.Dk Go.Maps Go.Fr
theorem savenil_any (S:ByteArray) (A:Option Addr) (n c:Nat) (w:World):Calls Tryd.prog 11 #[.pointer none, .string S, .slice A n c] w fun e w'=>e = .returned (.int .i64 1)∧w=w':=by
 go_enter Tryd.func11,Tryd.ntmps11
 go_wp2
 go_ret
 exact⟨rfl,rfl⟩
theorem loadnil_any (S:ByteArray) (w:World):Calls Tryd.prog 13 #[.pointer none, .string S] w fun e w'=>e = .returned (.tuple #[.slice none 0 0, .int .i64 1])∧w=w':=by
 go_enter Tryd.func13,Tryd.ntmps13
 go_wp2
 go_ret2
 exact⟨rfl,rfl⟩
theorem clearnil_any (S:ByteArray) (A:Option Addr) (n c:Nat) (w:World):Calls Tryd.prog 16 #[.pointer none, .string S, .slice A n c] w fun e w'=>e = .returned (.int .i64 1)∧Ch (fun _=>False) w w':=by
 go_enter Tryd.func16,Tryd.ntmps16
 go_wp2
 go_ret
 exact⟨rfl,((Ch.refl _ _).alloc _).alloc _⟩
theorem made_eq (z:Value) (n:Nat):madeCells #[z] n=(List.replicate n z).toArray:=by
 apply Array.ext'
 rw[made_list]
def zeroK (L:Nat):Key:=List.replicate L 0
theorem zeroK_kv (L:Nat):kv (zeroK L) = .string (strOfNums (List.replicate L 0)):=by
 unfold kv zeroK strOfNums
 rw[List.map_replicate]
 rfl
theorem slz_cells {w:World} {F:Nat→Prop} {K:IntKind} {b off n:Nat} {xs:List Int} (h:Sl w F K (some ⟨b,off,none⟩) n xs) {i:Nat} (hi:i<n):w.cell? ⟨b,off+i,none⟩=some (.int K (xs.getD i 0)):=by
 obtain⟨b',o',x,hA,_,hx,hc⟩:=h.at_ hi
 injection hA with hA
 injection hA with e1 e2
 subst e1 e2
 rw[hc,List.getD_eq_getElem?_getD,hx.out]
 rfl
theorem conv_zero (L:Nat) (w:World):(convert 32 9 (.slice (some ⟨w.heap.size,0,none⟩) L L)).run Tryd.prog (w.alloc (.cells (madeCells #[.int .u8 0] L) 5)) = .ok (.string (strOfNums (List.replicate L 0))) (w.alloc (.cells (madeCells #[.int .u8 0] L) 5)):=by
 have hs:Sl (w.alloc (.cells (madeCells #[.int .u8 0] L) 5)) (fun b=>b=w.heap.size) .u8 (some ⟨w.heap.size,0,none⟩) L (List.replicate L 0):=by
  rw[made_eq]
  have h:=Vs.built w 5 (List.replicate L (.int .u8 0))
  rw[List.length_replicate] at h
  unfold Sl
  rw[List.map_replicate]
  exact h
 exact run_convert_bytes_arg (P := Tryd.prog) _ 32 5 Tryd.underlying32 Tryd.underlying5 w.heap.size 0 L L _ hs.len (fun _ hi=>slz_cells hs hi) 9 Tryd.underlying9
theorem keepnothing_law {F:Nat→Prop} (b:List Int) (B:Option Addr) (n cb:Nat) (z:Int) (w:World) (ht:O.Tab w) (hb:Sl w F .u8 B n b) (hn:n≤cb) (hm:cb≤maxLen) (hz : -9223372036854775808≤z∧z≤9223372036854775807) (bb:Byt b) :
  Calls Tryd.prog 5 #[.slice B n cb, .int .i64 z] w (True_ w):=by
 have hnn:n≤9223372036854775807:=by unfold maxLen at hm; omega
 by_cases h1:5000<n
 ·have e1:decide ((5000:Int)<(n:Int))=true:=decide_eq_true (by omega)
  have e1':decide (5000<n)=true:=decide_eq_true h1
  clear ht hb hm
  go_enter Tryd.func5,Tryd.ntmps5
  go_wp2_with fail
  go_ret
  exact⟨rfl,Ch.refl _ _⟩
 ·have e1:decide ((5000:Int)<(n:Int))=false:=decide_eq_false (by omega)
  have e1':decide (5000<n)=false:=decide_eq_false h1
  by_cases h2:z<0
  ·have e2:decide (z<0)=true:=decide_eq_true h2
   clear ht hb hm
   go_enter Tryd.func5,Tryd.ntmps5
   go_wp2_with fail
   go_ret
   exact⟨rfl,Ch.refl _ _⟩
  ·obtain⟨L,rfl⟩:∃ L:Nat,z=(L:Int):=⟨z.toNat,by omega⟩
   have e2:decide ((L:Int)<0)=false:=decide_eq_false h2
   by_cases h3:100<L
   ·have e3:decide ((100:Int)<(L:Int))=true:=decide_eq_true (by omega)
    have e3':decide (100<L)=true:=decide_eq_true h3
    clear ht hb hm
    go_enter Tryd.func5,Tryd.ntmps5
    go_wp2_with fail
    go_ret
    exact⟨rfl,Ch.refl _ _⟩
   ·have e3:decide ((100:Int)<(L:Int))=false:=decide_eq_false (by omega)
    have e3':decide (100<L)=false:=decide_eq_false h3
    have HT:=Bx.mk ht
    have HB:=Bx.mk hb
    have KB:Bx (n≤cb∧cb≤maxLen):=⟨hn,hm⟩
    have BB:=Bx.mk bb
    have hL:L≤100:=by omega
    have hn5:n≤5000:=by omega
    clear ht hb hm bb hn hz h1 h2 h3
    obtain⟨wt,hwt⟩:∃ wt:Nat,wt=if 1≤L∧L≤60 then 0 else 1:=⟨_,rfl⟩
    have HRV:Bx ((opSaveL ⟨1048576,[],none⟩ (zeroK L) b).1=wt):=⟨by
     have hkl:(zeroK L).length=L:=List.length_replicate
     by_cases hk:okS (zeroK L)
     ·rw[(saveL_free (Free.new (room:=1048576) (by omega)) hk BB.out (by rw[HB.out.len]; omega) (by rw[HB.out.len]; omega) (by omega)).1,hwt,if_pos (by unfold okS at hk; omega)]
     ·unfold opSaveL
      rw[if_pos hk,hwt,if_neg (by unfold okS at hk; omega)]⟩
    have HWT:=Bx.mk hwt
    clear hwt
    have hcv:=conv_zero L
    have hmk:∀ wx:World,(Instr.makeSlice 32 (.int .i64 (L:Int)) (.int .i64 (L:Int))).run Tryd.prog wx = .ok (.slice (some ⟨wx.heap.size,0,none⟩) L L) (wx.alloc (.cells (madeCells #[.int .u8 0] L) 5)):=fun wx=>run_mk2 Tb L (by omega) (by omega) wx
    have HKV:=Bx.mk (zeroK_kv L)
    obtain⟨SZ,hsz⟩:∃ S,strOfNums (List.replicate L 0)=S:=⟨_,rfl⟩
    rw[hsz] at hcv HKV
    clear hsz
    generalize madeCells #[Value.int .u8 0] L=mc at hcv hmk
    go_enter Tryd.func5,Tryd.ntmps5
    go_wp2_with fail
    refine (new_any 1048576 w (by omega)).mono ?_
    rintro e w1 (⟨h1,_,_⟩ | ⟨_,_,S,rfl,hpd,hS,hc1⟩)
    ·omega
    obtain⟨g,mb,ad,hd,hgS⟩:=hpd.open_
    obtain⟨d,hdd⟩:∃ d,w.heap.size=d:=⟨_,rfl⟩
    have H0:Bx (Stt w w1 d g mb ad ⟨1048576,[],none⟩):=⟨by rw[←hdd]; exact hd,hc1.mono (fun _ _ h=>h.elim),fun b hb=>hS b (hgS b hb)⟩
    rw[hdd,show pv d = .pointer (some ⟨d,0,none⟩) from rfl]
    clear hpd hS hgS hd hc1 hdd
    go_wp2_with fail
    refine (loadnil_any _ w1).mono ?_
    rintro e w2 ⟨rfl,rfl⟩
    have HSN:=Bx.mk (savenil_any ⟨#[97]⟩ (some ⟨w1.heap.size,0,none⟩) 1 1 (w1.alloc (.cells #[.slice B n cb] 32)))
    have H1:=Bx.mk (H0.out.quiet ((Ch.refl (fun _=>False) w1).alloc (.cells #[.slice B n cb] 32)))
    have HCN:=Bx.mk (clearnil_any ⟨#[97]⟩ none 0 0 (w1.alloc (.cells #[.slice B n cb] 32)))
    clear H0
    have hWW:∃ (o1 o2:Bool),decide ((L:Int)<1)=o1∧decide ((60:Int)<(L:Int))=o2∧Bx ((o1||o2)=decide (wt=1))∧Bx (wt≤1):=by
     refine⟨_,_,rfl,rfl,⟨?_⟩,⟨?_⟩⟩
     ·rw[HWT.out]
      split
      ·simp; omega
      ·simp; omega
     ·rw[HWT.out]; split <;> omega
    obtain⟨o1,o2,d1,d2,HO,HW1⟩:=hWW
    clear HWT
    have key:o1=true∧wt=1∨o1=false∧o2=true∧wt=1∨o1=false∧o2=false∧wt=0:=by
     have h:=HO.out
     have h':=HW1.out
     cases o1 <;> cases o2 <;> simp at h ⊢ <;> omega
    clear HO HW1
    rcases key with ⟨rfl,rfl⟩ | ⟨rfl,rfl,rfl⟩ | ⟨rfl,rfl,rfl⟩
    all_goals
     go_wp2_with fail
     refine HSN.out.mono ?_
     rintro e w3 ⟨rfl,rfl⟩
     go_wp2_with fail
     refine HCN.out.mono ?_
     rintro e w4 ⟨rfl,hc4⟩
     have H4:=Bx.mk (H1.out.quiet hc4)
     have H5:=Bx.mk (H4.out.quiet ((Ch.refl (fun _=>False) w4).alloc (.cells mc 5)))
     have HS5:Bx (Sl (w4.alloc (.cells mc 5)) F .u8 B n b):=⟨H5.out.sl HB.out⟩
     have hbl:b.length=n:=HB.out.len
     have HSV:=Bx.mk (Stt.one (c:=cb) (k:=zeroK L) (A:=B) (xs:=b) (F:=F) H5.out HT.out (by unfold zeroK; rw[List.length_replicate]; omega) (by rw[hbl]; exact HS5.out) (by rw[hbl]; exact KB.out.1) KB.out.2 (by omega) BB.out)
     rw[show pv d = .pointer (some ⟨d,0,none⟩) from rfl,HKV.out,hbl,HRV.out,show (w4.alloc (.cells mc 5)).heap.size=w4.heap.size+1 from by simp] at HSV
     have hcv4:=hcv w4
     clear hc4 hbl H4 HS5
     go_wp2_with fail
     refine HSV.out.mono ?_
     rintro e w6 ⟨rfl,g6,mb6,ad6,hst⟩
     have HK:=Bx.mk (kknown_any w6 (hst.tab HT.out))
     have H6:=Bx.mk hst
     clear hst HSV
     go_wp2_with fail
     refine HK.out.mono ?_
     rintro e w7 ⟨rfl,hc7⟩
     have H7:=Bx.mk (H6.out.quiet hc7)
     clear hc7 HK H6
     go_wp2
     go_ret
     exact⟨rfl,H7.out.done⟩
end Go.Proofs.YtoolcbaipinloaaDoor
