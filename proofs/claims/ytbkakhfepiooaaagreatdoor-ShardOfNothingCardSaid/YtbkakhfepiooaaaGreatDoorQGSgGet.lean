/- Lemmas and contracts of this proof. Conditions: said at each. -/
import Derived.Test.YtbkakhfepiooaaaGreatDoorQGSgRef
namespace Go.Proofs.YtbkakhfepiooaaaGreatDoor.M
section
open Go.RowKit Go.Oct Go.Su Go.Sg
theorem str_beq (a b : Key) : ((⟨a.toArray⟩ : ByteArray).toList == (⟨b.toArray⟩ : ByteArray).toList) = decide (a = b) := by
  rw [Lib.toList_data, Lib.toList_data]
  rw [Bool.eq_iff_iff]
  simp
theorem at_first {ds : List Dc} {k : Key} {j : Nat} {d : Dc} (h : ∀ i d, i < j → ds[i]? = some d → d.1 ≠ k) (hd : ds[j]? = some d) (e : d.1 = k) : at_ ds k = some d.2 := by
  unfold at_
  have : ds.find? (fun d => decide (d.1 = k)) = some d := by
    rw [List.find?_eq_some_iff_getElem]
    obtain ⟨hj, hjd⟩ := List.getElem?_eq_some_iff.1 hd
    refine ⟨by simpa using e, j, hj, hjd, fun i hi => ?_⟩
    simpa using h i _ hi (List.getElem?_eq_getElem (by omega))
  rw [this]
  rfl
theorem at_no {ds : List Dc} {k : Key} (h : ∀ i d, i < ds.length → ds[i]? = some d → d.1 ≠ k) : at_ ds k = none := by
  rw [at_none]
  intro hm
  obtain ⟨d, hd, e⟩ := List.mem_map.1 hm
  obtain ⟨i, hi⟩ := List.getElem?_of_mem hd
  exact h i d (List.getElem?_eq_some_iff.1 hi).1 hi e
/-- What Get tells of a key: its text, whether there is one, whether the key is known. -/
def GR (ds : List Dc) (gs : List Key) (k : Key) (t : List Int) (hs kn : Bool) : Prop :=
  match at_ ds k with
  | some u => t = u ∧ hs = true ∧ kn = true
  | none => t = [] ∧ hs = false ∧ kn = decide (k ∈ gs)
def GetOf (ds : List Dc) (gs : List Key) (k : Key) (w : World) (e : Ending) (w' : World) : Prop := ∃ v t hs kn, e = .returned (.tuple #[v, .bool hs, .bool kn]) ∧ Fresh w v t w' ∧ GR ds gs k t hs kn
theorem GR.some {ds : List Dc} {gs : List Key} {k : Key} {t : List Int} (h : at_ ds k = some t) : GR ds gs k t true true := by unfold GR; rw [h]; exact ⟨rfl, rfl, rfl⟩
theorem GR.none {ds : List Dc} {gs : List Key} {k : Key} {o : Bool} (h : at_ ds k = none) (ho : decide (k ∈ gs) = o) : GR ds gs k [] false o := by unfold GR; rw [h]; exact ⟨rfl, rfl, ho.symm⟩
section
variable {F : Nat → Prop}
set_option maxHeartbeats 1000000 in
theorem rget_any {w : World} {b : Nat} {ds : List Dc} {gs : List Key} (h : Rs w F b ds gs) (hn : ds.length ≤ 1048576) (hm : gs.length ≤ 1048576) (hbig : ∀ d ∈ ds, d.2.length ≤ 1048576) (k : Key) :
    Calls Tryz.prog 440 #[.pointer (some ⟨b, 0, none⟩), kv k] w (GetOf ds gs k w) := by
  obtain ⟨A, c, B, d, h1, h2, h3, h4, h5, h6, h7, h8, _⟩ := h
  obtain ⟨n, hnn⟩ : ∃ n, ds.length = n := ⟨_, rfl⟩
  obtain ⟨m, hmm⟩ : ∃ m, gs.length = m := ⟨_, rfl⟩
  have HL := Bx.mk hnn
  have HM := Bx.mk hmm
  rw [hnn] at h1 h3 h5 hn
  rw [hmm] at h2 h4 h7 hm
  have HD := Bx.mk h3
  have HK := Bx.mk h4
  have HB := Bx.mk hbig
  have HSB := Bx.mk (fun j => str_beq j k)
  obtain ⟨SK, hSK⟩ : ∃ S : ByteArray, (⟨k.toArray⟩ : ByteArray) = S := ⟨_, rfl⟩
  have HSB2 : Bx (∀ j, ((⟨j.toArray⟩ : ByteArray).toList == SK.toList) = decide (j = k)) := ⟨fun j => by rw [← hSK]; exact HSB.out j⟩
  have hkv : kv k = .string SK := by unfold kv; rw [hSK]
  rw [hkv]
  clear h3 h4 hnn hmm hbig HSB hSK hkv
  go_enter Tryz.func440, Tryz.ntmps440
  go_wp2_with fail
  go_loop [7] (fun i => ∃ q : Nat, q ≤ n ∧ i = .int .i64 q ∧ Bx (∀ i d, i < q → ds[i]? = some d → d.1 ≠ k)) (fun i => n - (intOf i).toNat)
  case atStart => exact ⟨0, Nat.zero_le _, rfl, ⟨fun i d hi => absurd hi (by omega)⟩⟩
  case round =>
    obtain ⟨q, hq, rfl, hno⟩ := hrel
    by_cases hlt : q < n
    · have dk : decide ((q : Int) < (n : Int)) = true := decide_eq_true (by omega)
      obtain ⟨bd, od, dc, Bt, ct, rfl, _, hd, hck, hct, hst, hlt2, hcm⟩ := HD.out.get hlt
      have i2 : (q : Int) < (n : Int) := by omega
      have hsb := HSB2.out dc.1
      have hck2 : w.cell? ⟨bd, od + q * 2, none⟩ = some (.string ⟨dc.1.toArray⟩) := hck
      obtain ⟨SD, hSD⟩ : ∃ S : ByteArray, (⟨dc.1.toArray⟩ : ByteArray) = S := ⟨_, rfl⟩
      rw [hSD] at hsb hck2
      clear hSD hck
      by_cases he : dc.1 = k
      · have hsb2 : (SD.toList == SK.toList) = true := by rw [hsb]; simpa using he
        have HAT := Bx.mk (at_first hno.out hd.out he)
        have hbl : dc.2.length ≤ 1048576 := HB.out dc (List.mem_of_getElem? hd.out)
        obtain ⟨tl, htl⟩ : ∃ tl, dc.2.length = tl := ⟨_, rfl⟩
        have HTL := Bx.mk htl
        rw [htl] at hct hst hbl
        have HST := Bx.mk (hst.alloc (.cells #[] 5))
        have HON := Bx.mk (own_none8 w)
        have g1 := ((Ch.refl (fun _ => False) w).alloc (.cells #[] 5)).cell (p := ⟨b, 0, none⟩) (fun h => h) h1
        have g2 := ((Ch.refl (fun _ => False) w).alloc (.cells #[] 5)).cell (p := ⟨bd, od + q * 2 + 1, none⟩) (fun h => h) hct
        clear hsb he hd hst hlt2 hcm hno htl
        go_wp2_with (at_builtin; refine wp_app rfl (.tmp 28) (.tmp 36) Tb rfl rfl HON.out rfl HST.out ?c1 ?c2 ?c3 ?_)
        case c1 => intro a _; rfl
        case c2 => omega
        case c3 => omega
        intro v5 w5 ho5 hg5 hb5
        have HF : Bx (Fresh w v5 dc.2 w5) := ⟨(fresh_none8 w).app8 (by rw [HTL.out]; exact ho5) hg5 (by rw [World.size_alloc]; exact hb5)⟩
        clear ho5 hg5 hb5
        go_wp2
        go_ret3
        exact ⟨v5, dc.2, true, true, rfl, HF.out, GR.some HAT.out⟩
      · have hsb2 : (SD.toList == SK.toList) = false := by rw [hsb]; simpa using he
        have HNO : Bx (∀ i d, i < q + 1 → ds[i]? = some d → d.1 ≠ k) := ⟨fun i d hi hdi => by
          rcases Nat.lt_or_ge i q with h | h
          · exact hno.out i d h hdi
          · obtain rfl : i = q := by omega
            rw [hd.out] at hdi
            injection hdi with hdi
            rw [← hdi]; exact he⟩
        clear hsb he hd hst hlt2 hcm hno hct
        go_wp2
        go_round
        case rel => exact ⟨q + 1, by omega, by go_num, HNO⟩
        case measure => simp [intOf]; omega
    · obtain rfl : n = q := by omega
      have dk : decide ((n : Int) < (n : Int)) = false := decide_eq_false (by omega)
      have HAT := Bx.mk (at_no (by rw [HL.out]; exact hno.out))
      clear hno
      go_wp2_with fail
      go_loop [8] (fun i => ∃ q : Nat, q ≤ m ∧ i = .int .i64 q ∧ Bx (∀ i x, i < q → gs[i]? = some x → x ≠ k)) (fun i => m - (intOf i).toNat)
      case atStart => exact ⟨0, Nat.zero_le _, rfl, ⟨fun i d hi => absurd hi (by omega)⟩⟩
      case round =>
        obtain ⟨q, hq, rfl, hno⟩ := hrel
        by_cases hlt : q < m
        · have dk2 : decide ((q : Int) < (m : Int)) = true := decide_eq_true (by omega)
          obtain ⟨bd, od, x, rfl, _, hx, hck⟩ := HK.out.at_ hlt
          have i2 : (q : Int) < (m : Int) := by omega
          have hsb := HSB2.out x
          have hck2 : w.cell? ⟨bd, od + q, none⟩ = some (.string ⟨x.toArray⟩) := hck
          obtain ⟨SD, hSD⟩ : ∃ S : ByteArray, (⟨x.toArray⟩ : ByteArray) = S := ⟨_, rfl⟩
          rw [hSD] at hsb hck2
          clear hSD hck
          by_cases he : x = k
          · have hsb2 : (SD.toList == SK.toList) = true := by rw [hsb]; simpa using he
            have HI : Bx (decide (k ∈ gs) = true) := ⟨decide_eq_true (he ▸ List.mem_of_getElem? hx.out)⟩
            clear hsb he hx hno
            go_wp2
            go_ret3
            exact ⟨_, [], false, true, rfl, fresh_none (Ch.refl _ _), GR.none HAT.out HI.out⟩
          · have hsb2 : (SD.toList == SK.toList) = false := by rw [hsb]; simpa using he
            have HNO : Bx (∀ i d, i < q + 1 → gs[i]? = some d → d ≠ k) := ⟨fun i d hi hdi => by
              rcases Nat.lt_or_ge i q with h | h
              · exact hno.out i d h hdi
              · obtain rfl : i = q := by omega
                rw [hx.out] at hdi
                injection hdi with hdi
                rw [← hdi]; exact he⟩
            clear hsb he hx hno
            go_wp2
            go_round
            case rel => exact ⟨q + 1, by omega, by go_num, HNO⟩
            case measure => simp [intOf]; omega
        · obtain rfl : m = q := by omega
          have dk2 : decide ((m : Int) < (m : Int)) = false := decide_eq_false (by omega)
          have HI : Bx (decide (k ∈ gs) = false) := ⟨decide_eq_false (fun hm => by
            obtain ⟨i, hi⟩ := List.getElem?_of_mem hm
            exact hno.out i k (by rw [← HM.out]; exact (List.getElem?_eq_some_iff.1 hi).1) hi rfl)⟩
          clear hno
          go_wp2
          go_ret3
          exact ⟨_, [], false, false, rfl, fresh_none (Ch.refl _ _), GR.none HAT.out HI.out⟩
end
end
section
open Go.RowKit Go.Oct Go.Su Go.Sg Go.Mt Go.Maps
section
variable {w w1 w2 w' : World} {P S F FA : Nat → Prop} {t : Nat} {mb : Option Nat} {ks gs gs' : List Key} {vf : Key → Value} {ds ds' : List Dc} {k : Key} {v : Value} {A A0 : Option Addr} {n c n0 c0 : Nat} {xs : List Int}
/-- What became of a key is noted. -/
theorem TabP.noted (h : TabP w P t ds gs) (he : Ents w P t mb ks vf ds gs) (hc1 : Ch (fun _ => False) w w1) (hN : NoteOf t mb ks vf k v w1 w2) (ok : TabOk ds' gs') (few : ds'.length + gs'.length ≤ 1000000) (hp : (put id ks k).Perm (ds'.map (·.1) ++ gs'))
    (hd : ∀ d ∈ ds', (d.1 ≠ k ∧ d ∈ ds) ∨ (d.1 = k ∧ ∃ A c, v = fate true (.slice A d.2.length c) ∧ Sl w1 (fun x => w.heap.size ≤ x) .u8 A d.2.length d.2 ∧ d.2.length ≤ c ∧ c ≤ maxLen ∧ Shp A c))
    (hg : ∀ j ∈ gs', (j ≠ k ∧ j ∈ gs) ∨ (j = k ∧ v = fate false (.slice none 0 0))) : MPost (ds', gs') t w P w2 := by
  obtain ⟨b, c2, z2, hbt, hb, ho, hc2⟩ := hN
  obtain ⟨m, hm⟩ := h.mx
  have hml : 4 < w.heap.size := lt_of_cell hm
  have hbl := ho.lt
  have htl := h.lt_t
  have hs1 := hc1.size
  have hs2 := hc2.size
  have hmbP : ∀ x, mb = some x → P x := fun x hx => (he.some_ x hx).1
  have hbP : P b ∨ w1.heap.size ≤ b := by
    rcases hb with h | ⟨_, h⟩
    · exact .inl (hmbP b h)
    · exact .inr h
  have hcc : Ch P w w2 := (hc1.mono (fun _ _ h => h.elim)).trans hc2 (fun i hi hh => by
    rcases hh with rfl | hh
    · exact h.own
    · exact hmbP i hh)
  refine ⟨fun x => P x ∨ (w.heap.size ≤ x ∧ x < w2.heap.size), ⟨⟨some b, put id ks k, upd vf k v, c2, ⟨riseF_put he.rise k, hp, (fun e => by cases e), fun b' hb' => ?_, fun d hd' => ?_, fun j hj => ?_⟩⟩, z2, .inl h.own, fun x hx => ?_, ok, few, ⟨m, hcc.cell (p := ⟨4, 0, none⟩) h.mxp hm⟩, fun hx => ?_⟩, fun x hx => ?_, hcc⟩
  · injection hb' with hb'
    subst hb'
    exact ⟨hbP.imp id (fun h => ⟨by omega, hbl⟩), hbt, ho⟩
  · rcases hd d hd' with ⟨hne, hdo⟩ | ⟨e, A, c, e1, hsl, r⟩
    · obtain ⟨A, c, e1, hsl, r⟩ := he.docs d hdo
      refine ⟨A, c, by rw [show upd vf k v d.1 = vf d.1 from if_neg hne]; exact e1, ?_, r⟩
      have h1 := hsl.ch hc1 (fun _ _ _ h => h)
      refine (h1.ch hc2 (fun x hx _ hs => ?_)).mono (fun x _ hx => ⟨.inl hx.1, hx.2.1, fun e => ?_⟩)
      · rcases hs with h | h
        · exact hx.2.1 h
        · exact hx.2.2 h
      · injection e with e
        subst e
        rcases hb with h | ⟨_, hh⟩
        · exact hx.2.2 h
        · have := h.lt _ hx.1
          omega
    · refine ⟨A, c, by rw [e, show upd vf k v k = v from if_pos rfl]; exact e1, ?_, r⟩
      by_cases hn : 0 < d.2.length
      · have hsl2 : Sl w1 (fun x => w.heap.size ≤ x ∧ x < w1.heap.size) .u8 A d.2.length d.2 := hsl.mono (fun x h1 h2 => ⟨h2, h1⟩)
        refine (hsl2.ch hc2 (fun x hx hx1 hs => ?_)).mono (fun x hx hx1 => ⟨.inr ⟨hx1.1, hx⟩, by omega, fun e => ?_⟩)
        · rcases hs with h3 | h3
          · have := hx.1
            omega
          · have := h.lt x (hmbP x h3)
            have := hx.1
            omega
        · injection e with e
          subst e
          rcases hb with hh | ⟨_, hh⟩
          · have := h.lt _ (hmbP _ hh)
            omega
          · omega
      · have h0 : d.2 = [] := List.eq_nil_of_length_eq_zero (by omega)
        rw [h0]
        exact Sl.nil _ _ _ _
  · rcases hg j hj with ⟨hne, hjo⟩ | ⟨e, e1⟩
    · rw [show upd vf k v j = vf j from if_neg hne]; exact he.gone j hjo
    · rw [e, show upd vf k v k = v from if_pos rfl]; exact e1
  · rcases hx with hx | hx
    · have := h.lt x hx
      omega
    · exact hx.2
  · rcases hx with hx | hx
    · exact h.mxp hx
    · omega
  · rcases hx with hx | hx
    · exact .inl hx
    · exact .inr hx.1
set_option maxRecDepth 100000 in
set_option maxHeartbeats 2000000 in
theorem mput_any (h : TabP w P t ds gs) (k : Key) (hk : k.length ≤ 9223372036854775807) (hz : Sl w FA .u8 A0 n0 xs) (hby : ∀ x ∈ xs, 0 ≤ x ∧ x < 256) (hn0 : n0 ≤ 9223372036854775807) (hfw : ds.length + gs.length < 1000000) :
    Calls Tryz.prog 57 #[.pointer (some ⟨t, 0, none⟩), kv k, .slice A0 n0 c0] w fun e w' => e = .returned (.int .i64 (tPut (ds, gs) k xs).1) ∧ MPost (tPut (ds, gs) k xs).2 t w P w' := by
  have H := Bx.mk h
  have HZ := Bx.mk hz
  have HL := Bx.mk hz.len
  have HF := Bx.mk hfw
  have HBY := Bx.mk hby
  by_cases hok : okK k
  · have HNK := Bx.mk (mnokey_any k w hk false (by rw [decide_eq_true hok]; rfl))
    by_cases hbig : 4096 < n0
    · have hv : tPut (ds, gs) k xs = (5, (ds, gs)) := by unfold tPut; rw [if_neg (not_not_intro hok), if_pos (by rw [HL.out]; exact hbig)]
      rw [hv]
      obtain ⟨V, hV⟩ : ∃ V, kv k = V := ⟨_, rfl⟩
      rw [hV] at HNK ⊢
      clear h hz hv hV hok hfw hby
      go_enter Tryz.func57, Tryz.ntmps57
      go_wp2_with fail
      refine HNK.out.mono ?_
      rintro e w' ⟨rfl, rfl⟩
      go_wp2_with fail
      go_ret
      exact ⟨rfl, .refl H.out⟩
    · have hv : tPut (ds, gs) k xs = (0, (put (·.1) ds (k, xs), del id gs k)) := by unfold tPut; rw [if_neg (not_not_intro hok), if_neg (by rw [HL.out]; exact hbig)]
      have hOK := h.ok.put (k := k) (t := xs) hby
      rw [hv] at hOK ⊢
      have HOK := Bx.mk hOK
      obtain ⟨mb, ks, vf, c0', he⟩ := h.row
      have HE := Bx.mk he
      have HCL := Bx.mk (mclone_any xs A0 n0 c0 w hz (by omega))
      have hkl : k.length ≤ maxLen := by unfold maxLen; exact hk
      have HNT : Bx (∀ (w1 : World) (A : Option Addr) (n c : Nat), Ch (fun _ => False) w w1 → Calls Tryz.prog 107 #[.pointer (some ⟨t, 0, none⟩), kv k, .agg #[.bool true, .slice A n c]] w1 fun e w' => e = .returned (.tuple #[]) ∧ NoteOf t mb ks vf k (fate true (.slice A n c)) w1 w') := ⟨fun w1 A n c hc => by
        have H1 := H.out.keep hc
        have HE1 := HE.out.ch hc (fun _ _ h => h)
        have hl := HE1.len
        have := HF.out
        exact mnote_any (hc.cell (p := ⟨t, 0, none⟩) (fun h => h) c0') H1.zf HE1.rise HE1.none_ (fun b hb => (HE1.some_ b hb).2) (by unfold maxLen; omega) hkl true⟩
      obtain ⟨V, hV⟩ : ∃ V, kv k = V := ⟨_, rfl⟩
      rw [hV] at HNK HNT ⊢
      clear h hz hv hV hok hfw hby hOK c0' he
      have hbig2 : decide (4096 < (n0 : Int)) = false := decide_eq_false (by omega)
      go_enter Tryz.func57, Tryz.ntmps57
      go_wp2_with fail
      refine HNK.out.mono ?_
      rintro e w' ⟨rfl, rfl⟩
      go_wp2_with fail
      refine HCL.out.mono ?_
      rintro e w1 ⟨v, rfl, hfr⟩
      obtain ⟨A1, c1, rfl, h1, h2⟩ := own_shape hfr.1
      have HFR := Bx.mk hfr
      clear hfr
      go_wp2_with fail
      refine (HNT.out w1 A1 _ c1 HFR.out.2.2).mono ?_
      rintro e w2 ⟨rfl, hN⟩
      have HN := Bx.mk hN
      clear hN
      go_wp2_with fail
      go_ret
      refine ⟨rfl, H.out.noted HE.out HFR.out.2.2 HN.out HOK.out ?_ (kperm_put HE.out.perm k xs) (fun d hd => ?_) (fun j hj => ?_)⟩
      · have h3 := len_put_le H.out.ok.dr (k, xs)
        have h4 := len_del_le H.out.ok.gr k
        have := HF.out
        omega
      · rcases mem_put.1 hd with rfl | ⟨hd, hne⟩
        · exact .inr ⟨rfl, A1, c1, rfl, (Sl.of_own HFR.out.1).mono (fun x hx hx2 => HFR.out.2.1 x hx2), h1, h2, shp_own HFR.out.1⟩
        · exact .inl ⟨hne, hd⟩
      · exact .inl ⟨(mem_delK.1 hj).2, (mem_delK.1 hj).1⟩
  · have HNK := Bx.mk (mnokey_any k w hk true (by rw [decide_eq_false hok]; rfl))
    have hv : tPut (ds, gs) k xs = (1, (ds, gs)) := if_pos hok
    rw [hv]
    obtain ⟨V, hV⟩ : ∃ V, kv k = V := ⟨_, rfl⟩
    rw [hV] at HNK ⊢
    clear h hz hv hV hok hfw hby
    go_enter Tryz.func57, Tryz.ntmps57
    go_wp2_with fail
    refine HNK.out.mono ?_
    rintro e w' ⟨rfl, rfl⟩
    go_wp2_with fail
    go_ret
    exact ⟨rfl, .refl H.out⟩
end
end
section
open Go.RowKit Go.Oct Go.Su Go.Sg Go.Mt Go.Maps
section
variable {w w1 w2 w' : World} {P S F FA : Nat → Prop} {t : Nat} {mb : Option Nat} {ks gs gs' : List Key} {vf : Key → Value} {ds ds' : List Dc} {k : Key} {v : Value}
set_option maxRecDepth 100000 in
set_option maxHeartbeats 2000000 in
theorem mdel_any (h : TabP w P t ds gs) (k : Key) (hk : k.length ≤ 9223372036854775807) (hfw : ds.length + gs.length < 1000000) :
    Calls Tryz.prog 196 #[.pointer (some ⟨t, 0, none⟩), kv k] w fun e w' => e = .returned (.int .i64 (tDel (ds, gs) k).1) ∧ MPost (tDel (ds, gs) k).2 t w P w' := by
  have H := Bx.mk h
  have HF := Bx.mk hfw
  by_cases hok : okK k
  · have HNK := Bx.mk (mnokey_any k w hk false (by rw [decide_eq_true hok]; rfl))
    have hv : tDel (ds, gs) k = (0, (del (·.1) ds k, put id gs k)) := if_neg (not_not_intro hok)
    have hOK := h.ok.del k
    rw [hv] at hOK ⊢
    have HOK := Bx.mk hOK
    obtain ⟨mb, ks, vf, c0', he⟩ := h.row
    have HE := Bx.mk he
    have hkl : k.length ≤ maxLen := by unfold maxLen; exact hk
    have HNT : Bx (Calls Tryz.prog 107 #[.pointer (some ⟨t, 0, none⟩), kv k, .agg #[.bool false, .slice none 0 0]] w fun e w' => e = .returned (.tuple #[]) ∧ NoteOf t mb ks vf k (fate false (.slice none 0 0)) w w') := ⟨by
      have hl := HE.out.len
      have := HF.out
      exact mnote_any c0' h.zf he.rise he.none_ (fun b hb => (he.some_ b hb).2) (by unfold maxLen; omega) hkl false⟩
    obtain ⟨V, hV⟩ : ∃ V, kv k = V := ⟨_, rfl⟩
    rw [hV] at HNK HNT ⊢
    clear h hv hV hok hfw hOK c0' he
    go_enter Tryz.func196, Tryz.ntmps196
    go_wp2_with fail
    refine HNK.out.mono ?_
    rintro e w' ⟨rfl, rfl⟩
    go_wp2_with fail
    refine HNT.out.mono ?_
    rintro e w2 ⟨rfl, hN⟩
    have HN := Bx.mk hN
    clear hN
    go_wp2_with fail
    go_ret
    refine ⟨rfl, H.out.noted HE.out (Ch.refl _ w) HN.out HOK.out ?_ (kperm_del HE.out.perm k) (fun d hd => ?_) (fun j hj => ?_)⟩
    · have h3 := len_put_le H.out.ok.gr k
      have h4 := len_del_le H.out.ok.dr k
      have := HF.out
      omega
    · exact .inl ⟨(mem_del.1 hd).2, (mem_del.1 hd).1⟩
    · rcases mem_put.1 hj with rfl | ⟨hj, hne⟩
      · exact .inr ⟨rfl, rfl⟩
      · exact .inl ⟨hne, hj⟩
  · have HNK := Bx.mk (mnokey_any k w hk true (by rw [decide_eq_false hok]; rfl))
    have hv : tDel (ds, gs) k = (1, (ds, gs)) := if_pos hok
    rw [hv]
    obtain ⟨V, hV⟩ : ∃ V, kv k = V := ⟨_, rfl⟩
    rw [hV] at HNK ⊢
    clear h hv hV hok hfw
    go_enter Tryz.func196, Tryz.ntmps196
    go_wp2_with fail
    refine HNK.out.mono ?_
    rintro e w' ⟨rfl, rfl⟩
    go_wp2_with fail
    go_ret
    exact ⟨rfl, .refl H.out⟩
set_option maxRecDepth 100000 in
theorem mlenp_any (h : TabP w P t ds gs) : Calls Tryz.prog 30 #[.pointer (some ⟨t, 0, none⟩)] w fun e w' => e = .returned (.int .i64 ((ds.length + gs.length : Nat) : Int)) ∧ w = w' := by
  obtain ⟨mb, ks, vf, c0, he⟩ := h.row
  have HE := Bx.mk he
  have HL := Bx.mk he.len
  cases mb with
  | none =>
    have hl : Bx ((0 : Int) = ((ds.length + gs.length : Nat) : Int)) := ⟨by rw [← HL.out, he.none_ rfl]; rfl⟩
    clear h he
    go_enter Tryz.func30, Tryz.ntmps30
    go_wp2
    go_ret
    exact ⟨congrArg (fun z => Ending.returned (.int .i64 z)) hl.out, rfl⟩
  | some b =>
    have hlen := fun ty => (he.some_ b rfl).2.2.len mapT ty
    rw [size_mapK, HL.out] at hlen
    clear h he
    generalize ds.length + gs.length = n at *
    go_enter Tryz.func30, Tryz.ntmps30
    go_wp2
    go_ret
    exact ⟨rfl, rfl⟩
set_option maxRecDepth 100000 in
set_option maxHeartbeats 2000000 in
theorem mgetp_any (h : TabP w P t ds gs) (k : Key) (hk : k.length ≤ 9223372036854775807) : Calls Tryz.prog 424 #[.pointer (some ⟨t, 0, none⟩), kv k] w (GetOf ds gs k w) := by
  obtain ⟨mb, ks, vf, c0, he⟩ := h.row
  have H := Bx.mk h
  have HE := Bx.mk he
  have hlk := he.look_ok (k := k) (by unfold maxLen; exact hk)
  -- what the map tells
  obtain ⟨f, A, n, c, xs, kn, hv, hsl, hnc, hgr⟩ : ∃ f A n c xs kn, (if k ∈ ks then vf k else fate false (.slice none 0 0)) = fate f (.slice A n c) ∧ Sl w (fun _ => True) .u8 A n xs ∧ n ≤ 4096 ∧ decide (k ∈ ks) = kn ∧ GR ds gs k xs f kn := by
    by_cases hd : ∃ d ∈ ds, d.1 = k
    · obtain ⟨d, hd, rfl⟩ := hd
      obtain ⟨A, c, e1, hs, _⟩ := he.docs d hd
      have hm : d.1 ∈ ks := he.mem.2 (.inl ⟨d, hd, rfl⟩)
      obtain ⟨j, hj⟩ := List.getElem?_of_mem hd
      refine ⟨true, A, d.2.length, c, d.2, true, by rw [if_pos hm]; exact e1, hs.mono (fun _ _ _ => trivial), h.ok.len d hd, decide_eq_true hm, GR.some (at_first (fun i e hi he2 => ?_) hj rfl)⟩
      exact keyne (h.ok.dr.at_lt hi he2 hj)
    · have hat : at_ ds k = none := at_no (fun i d _ hi e => hd ⟨d, List.mem_of_getElem? hi, e⟩)
      by_cases hg : k ∈ gs
      · have hm : k ∈ ks := he.mem.2 (.inr hg)
        exact ⟨false, none, 0, 0, [], true, by rw [if_pos hm]; exact he.gone k hg, Sl.nil _ _ _ _, Nat.zero_le _, decide_eq_true hm, GR.none hat (decide_eq_true hg)⟩
      · have hm : k ∉ ks := fun hm => (he.mem.1 hm).elim hd hg
        exact ⟨false, none, 0, 0, [], false, by rw [if_neg hm], Sl.nil _ _ _ _, Nat.zero_le _, decide_eq_false hm, GR.none hat (decide_eq_false hg)⟩
  rw [hv, hgr.1] at hlk
  have HGR := Bx.mk hgr.2
  have HSL := Bx.mk hsl
  obtain ⟨V, hV⟩ : ∃ V, kv k = V := ⟨_, rfl⟩
  rw [hV] at hlk ⊢
  have hfa : fate f (.slice A n c) = .agg #[.bool f, .slice A n c] := rfl
  rw [hfa] at hlk
  clear h he hsl hgr hv hV hfa
  obtain ⟨w1, hw1⟩ : ∃ w1, w.alloc (.cells #[.bool f, .slice A n c] 190) = w1 := ⟨_, rfl⟩
  have HCA : Bx (Ch (fun _ => False) w w1) := ⟨by rw [← hw1]; exact (Ch.refl _ _).alloc _⟩
  have d0 : w1.cell? ⟨w.heap.size, 0, none⟩ = some (.bool f) := by rw [← hw1]; exact ncells_at (j := 0) rfl
  have d1 : w1.cell? ⟨w.heap.size, 1, none⟩ = some (.slice A n c) := by rw [← hw1]; exact ncells_at (j := 1) rfl
  go_enter Tryz.func424, Tryz.ntmps424
  go_wp2_with fail
  clear hw1 hlk c0
  generalize w.heap.size = B at *
  have HS1 := Bx.mk ((HSL.out.ch HCA.out (fun _ _ _ h => h)).ch ((Ch.refl (fun _ => False) w1).drew) (fun _ _ _ h => h))
  go_region_held3 (fun w' => w'.cell? ⟨B, 0, none⟩ = some (.bool f) ∧ w'.cell? ⟨B, 1, none⟩ = some (.slice A n c)) (first | go_keep | exact s2 | exact ⟨d0, d1⟩) ((go_at_call 108; refine (mclone_any xs A n c _ HS1.out (by omega)).mono ?_; rintro e w2 ⟨v, rfl, hfr⟩; have s2 : w2.cell? ⟨B, 0, none⟩ = some (.bool f) ∧ w2.cell? ⟨B, 1, none⟩ = some (.slice A n c) := ⟨(((Ch.refl (fun _ => False) w1).drew).trans hfr.2.2 (fun _ _ h => h)).cell (fun h => h) d0, (((Ch.refl (fun _ => False) w1).drew).trans hfr.2.2 (fun _ _ h => h)).cell (fun h => h) d1⟩))
  all_goals (
    go_wp2
    go_returns
    exact ⟨_, xs, f, kn, rfl, Fresh.after HCA.out.drew hfr, HGR.out⟩)
end
end
end Go.Proofs.YtbkakhfepiooaaaGreatDoor.M
