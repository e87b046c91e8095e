/-
  Contracts of the program's table: Put, Delete, Len, Get.
  Conditions: the table is one.
-/
import Derived.Test.YtpilekadcondnaaMtNote
import Derived.Test.YtpilekadcondnaaSgGet
namespace Go.Proofs.Ytpilekadcondnaa
open Go.RowKit Go.Oct Go.Su Go.Sg Go.Mt Go.Maps

section
variable {w w1 w2 w' : World} {P S F FA : Nat → Prop} {t : Nat} {mb : Option Nat} {ks gs gs' : List Key} {vf : Key → Value} {ds ds' : List Dc} {k : Key} {v : Value} {A A0 : Option Addr} {n c n0 c0 : Nat} {xs : List Int}
/-- What became of a key is noted. -/
theorem TabP.noted (h : TabP w P t ds gs) (he : Ents w P t mb ks vf ds gs) (hc1 : Ch (fun _ => False) w w1) (hN : NoteOf t mb ks vf k v w1 w2) (ok : TabOk ds' gs') (few : ds'.length + gs'.length ≤ 1000000) (hp : (put id ks k).Perm (ds'.map (·.1) ++ gs'))
    (hd : ∀ d ∈ ds', (d.1 ≠ k ∧ d ∈ ds) ∨ (d.1 = k ∧ ∃ A c, v = fate true (.slice A d.2.length c) ∧ Sl w1 (fun x => w.heap.size ≤ x) .u8 A d.2.length d.2 ∧ d.2.length ≤ c ∧ c ≤ maxLen ∧ Shp A c))
    (hg : ∀ j ∈ gs', (j ≠ k ∧ j ∈ gs) ∨ (j = k ∧ v = fate false (.slice none 0 0))) : MPost (ds', gs') t w P w2 := by
  obtain ⟨b, c2, z2, hbt, hb, ho, hc2⟩ := hN
  obtain ⟨m, hm⟩ := h.mx
  have hml : 0 < w.heap.size := lt_of_cell hm
  have hbl := ho.lt
  have htl := h.lt_t
  have hs1 := hc1.size
  have hs2 := hc2.size
  have hmbP : ∀ x, mb = some x → P x := fun x hx => (he.some_ x hx).1
  have hbP : P b ∨ w1.heap.size ≤ b := by
    rcases hb with h | ⟨_, h⟩
    · exact .inl (hmbP b h)
    · exact .inr h
  have hcc : Ch P w w2 := (hc1.mono (fun _ _ h => h.elim)).trans hc2 (fun i hi hh => by
    rcases hh with rfl | hh
    · exact h.own
    · exact hmbP i hh)
  refine ⟨fun x => P x ∨ (w.heap.size ≤ x ∧ x < w2.heap.size), ⟨⟨some b, put id ks k, upd vf k v, c2, ⟨riseF_put he.rise k, hp, (fun e => by cases e), fun b' hb' => ?_, fun d hd' => ?_, fun j hj => ?_⟩⟩, z2, .inl h.own, fun x hx => ?_, ok, few, ⟨m, hcc.cell (p := ⟨0, 0, none⟩) h.mxp hm⟩, fun hx => ?_⟩, fun x hx => ?_, hcc⟩
  · injection hb' with hb'
    subst hb'
    exact ⟨hbP.imp id (fun h => ⟨by omega, hbl⟩), hbt, ho⟩
  · rcases hd d hd' with ⟨hne, hdo⟩ | ⟨e, A, c, e1, hsl, r⟩
    · obtain ⟨A, c, e1, hsl, r⟩ := he.docs d hdo
      refine ⟨A, c, by rw [show upd vf k v d.1 = vf d.1 from if_neg hne]; exact e1, ?_, r⟩
      have h1 := hsl.ch hc1 (fun _ _ _ h => h)
      refine (h1.ch hc2 (fun x hx _ hs => ?_)).mono (fun x _ hx => ⟨.inl hx.1, hx.2.1, fun e => ?_⟩)
      · rcases hs with h | h
        · exact hx.2.1 h
        · exact hx.2.2 h
      · injection e with e
        subst e
        rcases hb with h | ⟨_, hh⟩
        · exact hx.2.2 h
        · have := h.lt _ hx.1
          omega
    · refine ⟨A, c, by rw [e, show upd vf k v k = v from if_pos rfl]; exact e1, ?_, r⟩
      by_cases hn : 0 < d.2.length
      · have hsl2 : Sl w1 (fun x => w.heap.size ≤ x ∧ x < w1.heap.size) .u8 A d.2.length d.2 := hsl.mono (fun x h1 h2 => ⟨h2, h1⟩)
        refine (hsl2.ch hc2 (fun x hx hx1 hs => ?_)).mono (fun x hx hx1 => ⟨.inr ⟨hx1.1, hx⟩, by omega, fun e => ?_⟩)
        · rcases hs with h3 | h3
          · have := hx.1
            omega
          · have := h.lt x (hmbP x h3)
            have := hx.1
            omega
        · injection e with e
          subst e
          rcases hb with hh | ⟨_, hh⟩
          · have := h.lt _ (hmbP _ hh)
            omega
          · omega
      · have h0 : d.2 = [] := List.eq_nil_of_length_eq_zero (by omega)
        rw [h0]
        exact Sl.nil _ _ _ _
  · rcases hg j hj with ⟨hne, hjo⟩ | ⟨e, e1⟩
    · rw [show upd vf k v j = vf j from if_neg hne]; exact he.gone j hjo
    · rw [e, show upd vf k v k = v from if_pos rfl]; exact e1
  · rcases hx with hx | hx
    · have := h.lt x hx
      omega
    · exact hx.2
  · rcases hx with hx | hx
    · exact h.mxp hx
    · omega
  · rcases hx with hx | hx
    · exact .inl hx
    · exact .inr hx.1
set_option maxRecDepth 100000 in
set_option maxHeartbeats 2000000 in
theorem mput_any (h : TabP w P t ds gs) (k : Key) (hk : k.length ≤ 9223372036854775807) (hz : Sl w FA .u8 A0 n0 xs) (hby : ∀ x ∈ xs, 0 ≤ x ∧ x < 256) (hn0 : n0 ≤ 9223372036854775807) (hfw : ds.length + gs.length < 1000000) :
    Calls Try.prog 12 #[.pointer (some ⟨t, 0, none⟩), kv k, .slice A0 n0 c0] w fun e w' => e = .returned (.int .i64 (tPut (ds, gs) k xs).1) ∧ MPost (tPut (ds, gs) k xs).2 t w P w' := by
  have H := Bx.mk h
  have HZ := Bx.mk hz
  have HL := Bx.mk hz.len
  have HF := Bx.mk hfw
  have HBY := Bx.mk hby
  by_cases hok : okK k
  · have HNK := Bx.mk (mnokey_any k w hk false (by rw [decide_eq_true hok]; rfl))
    by_cases hbig : 4096 < n0
    · have hv : tPut (ds, gs) k xs = (5, (ds, gs)) := by unfold tPut; rw [if_neg (not_not_intro hok), if_pos (by rw [HL.out]; exact hbig)]
      rw [hv]
      obtain ⟨V, hV⟩ : ∃ V, kv k = V := ⟨_, rfl⟩
      rw [hV] at HNK ⊢
      clear h hz hv hV hok hfw hby
      go_enter Try.func12, Try.ntmps12
      go_wp2_with fail
      refine HNK.out.mono ?_
      rintro e w' ⟨rfl, rfl⟩
      go_wp2_with fail
      go_ret
      exact ⟨rfl, .refl H.out⟩
    · have hv : tPut (ds, gs) k xs = (0, (put (·.1) ds (k, xs), del id gs k)) := by unfold tPut; rw [if_neg (not_not_intro hok), if_neg (by rw [HL.out]; exact hbig)]
      have hOK := h.ok.put (k := k) (t := xs) hby
      rw [hv] at hOK ⊢
      have HOK := Bx.mk hOK
      obtain ⟨mb, ks, vf, c0', he⟩ := h.row
      have HE := Bx.mk he
      have HCL := Bx.mk (mclone_any xs A0 n0 c0 w hz (by omega))
      have hkl : k.length ≤ maxLen := by unfold maxLen; exact hk
      have HNT : Bx (∀ (w1 : World) (A : Option Addr) (n c : Nat), Ch (fun _ => False) w w1 → Calls Try.prog 31 #[.pointer (some ⟨t, 0, none⟩), kv k, .agg #[.bool true, .slice A n c]] w1 fun e w' => e = .returned (.tuple #[]) ∧ NoteOf t mb ks vf k (fate true (.slice A n c)) w1 w') := ⟨fun w1 A n c hc => by
        have H1 := H.out.keep hc
        have HE1 := HE.out.ch hc (fun _ _ h => h)
        have hl := HE1.len
        have := HF.out
        exact mnote_any (hc.cell (p := ⟨t, 0, none⟩) (fun h => h) c0') H1.zf HE1.rise HE1.none_ (fun b hb => (HE1.some_ b hb).2) (by unfold maxLen; omega) hkl true⟩
      obtain ⟨V, hV⟩ : ∃ V, kv k = V := ⟨_, rfl⟩
      rw [hV] at HNK HNT ⊢
      clear h hz hv hV hok hfw hby hOK c0' he
      have hbig2 : decide (4096 < (n0 : Int)) = false := decide_eq_false (by omega)
      go_enter Try.func12, Try.ntmps12
      go_wp2_with fail
      refine HNK.out.mono ?_
      rintro e w' ⟨rfl, rfl⟩
      go_wp2_with fail
      refine HCL.out.mono ?_
      rintro e w1 ⟨v, rfl, hfr⟩
      obtain ⟨A1, c1, rfl, h1, h2⟩ := own_shape hfr.1
      have HFR := Bx.mk hfr
      clear hfr
      go_wp2_with fail
      refine (HNT.out w1 A1 _ c1 HFR.out.2.2).mono ?_
      rintro e w2 ⟨rfl, hN⟩
      have HN := Bx.mk hN
      clear hN
      go_wp2_with fail
      go_ret
      refine ⟨rfl, H.out.noted HE.out HFR.out.2.2 HN.out HOK.out ?_ (kperm_put HE.out.perm k xs) (fun d hd => ?_) (fun j hj => ?_)⟩
      · have h3 := len_put_le H.out.ok.dr (k, xs)
        have h4 := len_del_le H.out.ok.gr k
        have := HF.out
        omega
      · rcases mem_put.1 hd with rfl | ⟨hd, hne⟩
        · exact .inr ⟨rfl, A1, c1, rfl, (Sl.of_own HFR.out.1).mono (fun x hx hx2 => HFR.out.2.1 x hx2), h1, h2, shp_own HFR.out.1⟩
        · exact .inl ⟨hne, hd⟩
      · exact .inl ⟨(mem_delK.1 hj).2, (mem_delK.1 hj).1⟩
  · have HNK := Bx.mk (mnokey_any k w hk true (by rw [decide_eq_false hok]; rfl))
    have hv : tPut (ds, gs) k xs = (1, (ds, gs)) := if_pos hok
    rw [hv]
    obtain ⟨V, hV⟩ : ∃ V, kv k = V := ⟨_, rfl⟩
    rw [hV] at HNK ⊢
    clear h hz hv hV hok hfw hby
    go_enter Try.func12, Try.ntmps12
    go_wp2_with fail
    refine HNK.out.mono ?_
    rintro e w' ⟨rfl, rfl⟩
    go_wp2_with fail
    go_ret
    exact ⟨rfl, .refl H.out⟩
end
end Go.Proofs.Ytpilekadcondnaa
