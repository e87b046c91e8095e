/- Lemmas and contracts of this proof. Conditions: said at each. -/
import Derived.Test.YtbkakhfepiooaaaGreatDoorQGDkApp
import Derived.Deep.DeepCutAuto
namespace Go.Proofs.YtbkakhfepiooaaaGreatDoor.D
section
open Go.RowKit Go.Oct Go.Su Go.Dk Go.Maps
section
variable {w w' : World} {g g' : Nat → Tg} {d : Nat} {mb : Option Nat} {ad : Key → Nat} {s s' : Ds} {F S : Nat → Prop} {x y : Fl} {k j : Key}
open Classical in
/-- Tags of a file that gets another name. -/
noncomputable def tagR (g : Nat → Tg) (k j : Key) : Nat → Tg := fun i => if g i = .fl k then .fl j else if g i = .rw k then .rw j else g i
theorem tagR_no {g : Nat → Tg} {k j : Key} {i : Nat} : tagR g k j i ≠ .no ↔ g i ≠ .no := by
  unfold tagR
  by_cases h1 : g i = .fl k
  · rw [if_pos h1, h1]; simp
  · by_cases h2 : g i = .rw k
    · rw [if_neg h1, if_pos h2, h2]; simp
    · rw [if_neg h1, if_neg h2]
theorem tagR_same {g : Nat → Tg} {k j : Key} {i : Nat} (h1 : g i ≠ .fl k) (h2 : g i ≠ .rw k) : tagR g k j i = g i := by
  unfold tagR
  rw [if_neg h1, if_neg h2]
/-- A file has come under another name; what had that name is gone. -/
theorem Dsk.renamed {b n : Nat} (h : Dsk w g d (some b) ad s) (hx : x ∈ s.fs) (hj : okN j) (hno : fnd s.fs j = none) (hc : Ch (fun i => i = b) w w') (hm : w'.ownsMap Tryz.prog 9 heldR b n (((mapD s.fs ad).del (.string x.nm)).put (.string j) (.held (pv (ad x.nm)))))
    (hm0 : ∃ w0 n0, World.ownsMap w0 Tryz.prog 9 heldR b n0 ((mapD s.fs ad).del (.string x.nm))) :
    Dsk w' (tagR g x.nm j) d (some b) (at1 ad j (ad x.nm)) ⟨s.room, put (del s.fs x.nm) ⟨j, x.bs, x.la⟩, s.left⟩ := by
  obtain ⟨hb, ho⟩ := h.some_ b rfl
  have hdb : d ≠ b := fun e => by have := h.tag; rw [e, hb] at this; cases this
  obtain ⟨fz, lf, c3, c4, hf⟩ := h.fuse
  have hcd : ∀ {q : Nat} {u : Value}, w.cell? ⟨d, q, none⟩ = some u → w'.cell? ⟨d, q, none⟩ = some u := fun hu => hc.cell (p := ⟨d, _, none⟩) hdb hu
  have hrd := rise_del h.ok.fine.rise x.nm
  have hnod : ∀ f ∈ del s.fs x.nm, f.nm ≠ j := fun f hf => fnd_none hno f (mem_del.1 hf).1
  have hu := used_at h.ok.fine.rise hx
  have hl := len_del h.ok.fine.rise hx
  have hus : used (put (del s.fs x.nm) ⟨j, x.bs, x.la⟩) = used s.fs := by
    rw [used_put, del_no hrd hnod, hu]
  have hF := h.files x hx
  have ok : DsOk ⟨s.room, put (del s.fs x.nm) ⟨j, x.bs, x.la⟩, s.left⟩ := ⟨(h.ok.fine.del _).put hj (h.ok.fine.la x hx) (h.ok.fine.byte x hx), by show used (put (del s.fs x.nm) ⟨j, x.bs, x.la⟩) ≤ s.room; rw [hus]; exact h.ok.used, h.ok.room, by
    show (put (del s.fs x.nm) ⟨j, x.bs, x.la⟩).length ≤ 4096
    rw [len_put_new (g := ⟨j, x.bs, x.la⟩) hrd hnod]
    have := h.ok.most
    omega⟩
  have hsame : ∀ {i : Nat} {t : Tg}, g i = t → t ≠ .fl x.nm → t ≠ .rw x.nm → tagR g x.nm j i = t := fun hg h1 h2 => (tagR_same (by rw [hg]; exact h1) (by rw [hg]; exact h2)).trans hg
  refine ⟨ok, fun i hi => Nat.lt_of_lt_of_le (h.lt i (tagR_no.1 hi)) hc.size, hsame h.tag (fun e => by cases e) (fun e => by cases e), fun q => ?_, hcd h.c0, hcd h.c1, ?_, ⟨fz, lf, hcd c3, hcd c4, hf⟩, (fun e => by cases e), fun i hi => ?_, fun z hz => ?_⟩
  · rw [hc.frozen (p := ⟨d, q, none⟩) hdb h.lt_d]; exact h.zf q
  · rw [hcd h.c2]
    show _ = some (Value.int .i64 (used (put (del s.fs x.nm) ⟨j, x.bs, x.la⟩) : Int))
    rw [hus]
  · injection hi with hi
    subst hi
    refine ⟨hsame hb (fun e => by cases e) (fun e => by cases e), ?_⟩
    obtain ⟨w0, n0, hm0⟩ := hm0
    have h1 := own_tight hm
    rw [del_canon mapLaw h.ok.fine.rise hm0] at h1 hm
    have h2 : (mapD (del s.fs x.nm) ad).put (.string j) (.held (pv (ad x.nm))) = mapD (put (del s.fs x.nm) ⟨j, x.bs, x.la⟩) (at1 ad j (ad x.nm)) := put_canon (f := ⟨j, x.bs, x.la⟩) mapLaw hrd hm
    rw [h2, size_mapD] at h1
    exact h1
  · rcases mem_put.1 hz with rfl | ⟨hz, hzn⟩
    · have hat : at1 ad j (ad x.nm) j = ad x.nm := if_pos rfl
      show Fil w' _ (at1 ad j (ad x.nm) j) _
      rw [hat]
      have hF' := hF.ch hc (fun i hi e => by subst e; rw [hb] at hi; rcases hi with hi | hi <;> cases hi)
      obtain ⟨v, b0, b1, hown, hr⟩ := hF'.row
      exact ⟨by show tagR g x.nm j (ad x.nm) = .fl j; unfold tagR; rw [if_pos hF.tag], hF'.zf, v, b0, b1, hown, fun r hv => by
        have := hr r hv
        show tagR g x.nm j r = .rw j
        unfold tagR
        rw [if_neg (by rw [this]; exact fun e => by cases e), if_pos this]⟩
    · obtain ⟨hz1, hz2⟩ := mem_del.1 hz
      have hat : at1 ad j (ad x.nm) z.nm = ad z.nm := if_neg hzn
      rw [hat]
      refine (((h.files z hz1).ch hc fun i hi e => ?_).tags fun i hi => ?_)
      · subst e
        rw [hb] at hi
        rcases hi with hi | hi <;> cases hi
      · rcases hi with hi | hi
        · exact tagR_same (by rw [hi]; intro e; injection e with e; exact hz2 e) (by rw [hi]; exact fun e => by cases e)
        · exact tagR_same (by rw [hi]; exact fun e => by cases e) (by rw [hi]; intro e; injection e with e; exact hz2 e)
/-- Two names in a slice of their own. -/
theorem Kss.two (w : World) (e : TypeId) (k j : Key) : Kss (w.alloc (.cells #[kv k, kv j] e)) (fun b => b = w.heap.size) (some ⟨w.heap.size, 0, none⟩) 2 [k, j] := Vs.built w e [kv k, kv j]
theorem mays_two (s : Ds) (k j : Key) : mays s [k, j] = if may s k ≠ 0 then may s k else may s j := by
  unfold mays may
  by_cases h1 : s.left = some 0
  · simp [h1]
  · by_cases h2 : okN k
    · by_cases h3 : okN j <;> simp [h1, h2, h3]
    · simp [h1, h2]
theorem may2_any (h : Dsk w g d mb ad s) (hk : k.length ≤ 9223372036854775807) (hj : j.length ≤ 9223372036854775807) :
    Calls Tryz.prog 189 #[pv d, .slice (some ⟨w.heap.size, 0, none⟩) 2 2] (w.alloc (.cells #[kv k, kv j] 9)) fun e w' => e = .returned (.int .i64 (mays s [k, j] : Nat)) ∧ Ch (fun _ => False) w w' :=
  (may_any [k, j] _ 2 2 (w.alloc (.cells #[kv k, kv j] 9)) (h.keep ((Ch.refl (fun _ => False) w).alloc _)) (Kss.two w 9 k j) (by decide) (fun i hi => by simp at hi; rcases hi with rfl | rfl <;> assumption)).mono fun e w' ⟨h1, h2⟩ => ⟨h1, ((Ch.refl (fun _ => False) w).alloc _).trans h2 (fun _ _ h => h)⟩
/-- Two rising rows with the same files are one. -/
theorem fs_ext : ∀ {a b : Fs}, Rise (nms a) → Rise (nms b) → (∀ f, f ∈ a ↔ f ∈ b) → a = b
  | [], [], _, _, _ => rfl
  | [], y :: r, _, _, h => by have := (h y).2 (by simp); simp at this
  | x :: r, [], _, _, h => by have := (h x).1 (by simp); simp at this
  | x :: r, y :: q, h1, h2, h => by
    obtain ⟨a1, a2⟩ := List.pairwise_cons.1 (show List.Pairwise (fun a b : Key => a < b) (x.nm :: nms r) from h1)
    obtain ⟨b1, b2⟩ := List.pairwise_cons.1 (show List.Pairwise (fun a b : Key => a < b) (y.nm :: nms q) from h2)
    have hxy : x = y := by
      rcases List.mem_cons.1 ((h x).1 (by simp)) with e | hx
      · exact e
      · rcases List.mem_cons.1 ((h y).2 (by simp)) with e | hy
        · exact e.symm
        · exact absurd (key_trans (a1 y.nm (List.mem_map_of_mem hy)) (b1 x.nm (List.mem_map_of_mem hx))) (key_irrefl _)
    subst hxy
    rw [fs_ext a2 b2 (fun p => ⟨fun hp => by
      rcases List.mem_cons.1 ((h p).1 (by simp [hp])) with e | hp'
      · exact absurd (a1 p.nm (List.mem_map_of_mem hp)) (by rw [e]; exact key_irrefl _)
      · exact hp', fun hp => by
      rcases List.mem_cons.1 ((h p).2 (by simp [hp])) with e | hp'
      · exact absurd (b1 p.nm (List.mem_map_of_mem hp)) (by rw [e]; exact key_irrefl _)
      · exact hp'⟩)]
theorem put_del2 {fs : Fs} (h : Rise (nms fs)) (a : Key) (f : Fl) : put (del (del fs f.nm) a) f = put (del fs a) f :=
  fs_ext (rise_put (rise_del (rise_del h _) _) _) (rise_put (rise_del h _) _) fun z => by
    rw [mem_put, mem_put, mem_del, mem_del, mem_del]
    constructor
    · rintro (e | ⟨⟨⟨h1, h2⟩, h3⟩, h4⟩)
      · exact .inl e
      · exact .inr ⟨⟨h1, h3⟩, h4⟩
    · rintro (e | ⟨⟨h1, h2⟩, h3⟩)
      · exact .inl e
      · exact .inr ⟨⟨⟨h1, h3⟩, h2⟩, h3⟩
theorem str_ne (a b : Key) : ((⟨a.toArray⟩ : ByteArray).toList == (⟨b.toArray⟩ : ByteArray).toList) = decide (a = b) := by
  rw [Lib.toList_data, Lib.toList_data]
  rw [Bool.eq_iff_iff]
  simp
theorem ren_err1 (h : may s k ≠ 0) : opRen s k j = (may s k, s) := by unfold opRen; rw [if_pos h]
theorem ren_err2 (h : may s k = 0) (h2 : may s j ≠ 0) : opRen s k j = (may s j, s) := by unfold opRen; rw [if_neg (by simp [h]), if_pos h2]
theorem ren_no (h : may s k = 0) (h2 : may s j = 0) (hf : fnd s.fs k = none) : opRen s k j = (7, s) := by unfold opRen; rw [if_neg (by simp [h]), if_neg (by simp [h2]), hf]
theorem ren_same (h : may s k = 0) (hf : fnd s.fs k = some x) : opRen s k k = (0, ⟨s.room, s.fs, tick s.left⟩) := by unfold opRen; rw [if_neg (by simp [h]), if_neg (by simp [h]), hf]; simp
theorem ren_ok (h : may s k = 0) (h2 : may s j = 0) (hf : fnd s.fs k = some x) (hne : k ≠ j) : opRen s k j = (0, ⟨s.room, put (del s.fs k) ⟨j, x.bs, x.la⟩, tick s.left⟩) := by unfold opRen; rw [if_neg (by simp [h]), if_neg (by simp [h2]), hf]; simp [hne]
end
end
section
open Go.RowKit Go.Oct Go.Su Go.Dk Go.Maps
section
variable {w w' : World} {g g' : Nat → Tg} {d : Nat} {mb : Option Nat} {ad : Key → Nat} {s s' : Ds} {F S : Nat → Prop} {x y : Fl} {k j : Key}
set_option maxRecDepth 100000 in
set_option maxHeartbeats 8000000 in
theorem rename_any (h : Dsk w g d mb ad s) (hk : k.length ≤ 9223372036854775807) (hj : j.length ≤ 9223372036854775807) : Calls Tryz.prog 213 #[pv d, kv k, kv j] w (Post (opRen s k j) d w g) := by
  have hp : pv d = .pointer (some ⟨d, 0, none⟩) := rfl
  have HM := Bx.mk (may2_any h hk hj)
  have H := Bx.mk h
  have HKL := Bx.mk hk
  have HJL := Bx.mk hj
  have HDR : Bx (∀ w1, Ch (fun _ => False) w w1 → Calls Tryz.prog 190 #[pv d, kv j] w1 fun e w' => e = .returned (.tuple #[]) ∧ Dsk w' g d mb ad ⟨s.room, del s.fs j, s.left⟩ ∧ Dgo w1 g w' g) := ⟨fun w1 hc => drop_any (h.keep hc) hj⟩
  have hsn := str_ne j k
  obtain ⟨S, hkv⟩ : ∃ S, (⟨k.toArray⟩ : ByteArray) = S := ⟨_, rfl⟩
  obtain ⟨T, hjv⟩ : ∃ T, (⟨j.toArray⟩ : ByteArray) = T := ⟨_, rfl⟩
  rw [hkv, hjv] at hsn
  have hkv : kv k = .string S := by unfold kv; rw [hkv]
  have hjv : kv j = .string T := by unfold kv; rw [hjv]
  obtain ⟨m, hm⟩ : ∃ m, mays s [k, j] = m := ⟨_, rfl⟩
  have HKV := Bx.mk hkv
  have HJV := Bx.mk hjv
  rw [hp] at HM HDR ⊢
  rw [hkv, hjv] at HM ⊢
  rw [hjv] at HDR
  rw [hm] at HM
  rw [mays_two] at hm
  clear hp h hk hj hkv hjv
  by_cases h0 : m = 0
  · subst h0
    have HMK : Bx (may s k = 0) := ⟨by
      by_cases h : may s k = 0
      · exact h
      · rw [if_pos h] at hm; exact absurd hm h⟩
    have HMJ : Bx (may s j = 0) := ⟨by rw [if_neg (by simp [HMK.out])] at hm; exact hm⟩
    clear hm
    cases hf : fnd s.fs k with
    | none =>
      have HR := Bx.mk (ren_no (j := j) HMK.out HMJ.out hf)
      have HF := Bx.mk hf
      clear hf hsn
      go_enter Tryz.func213, Tryz.ntmps213
      go_wp2_with fail
      refine HM.out.mono ?_
      rintro e w1 ⟨rfl, hc1⟩
      have H1 := Bx.mk (H.out.keep hc1)
      have hlk := H1.out.look_no HF.out (by unfold maxLen; exact HKL.out)
      have c0 := H1.out.c0
      rw [HKV.out] at hlk
      have HC1 := Bx.mk hc1
      clear hc1
      go_wp2
      go_ret
      exact ⟨by rw [HR.out]; rfl, g, mb, ad, by rw [HR.out]; exact H1.out, Dgo.quiet HC1.out⟩
    | some x =>
      have HF := Bx.mk hf
      clear hf
      by_cases hkj : k = j
      · subst hkj
        have HR := Bx.mk (ren_same HMK.out HF.out)
        have hsn2 : (T.toList == S.toList) = true := by rw [hsn]; simp
        clear hsn
        go_enter Tryz.func213, Tryz.ntmps213
        go_wp2_with fail
        refine HM.out.mono ?_
        rintro e w1 ⟨rfl, hc1⟩
        have H1 := Bx.mk (H.out.keep hc1)
        have hlk := H1.out.look_yes HF.out (by unfold maxLen; exact HKL.out)
        have c0 := H1.out.c0
        rw [HKV.out] at hlk
        have HC1 := Bx.mk hc1
        have HD := Bx.mk (done_any H1.out (may_ok HMK.out).1)
        rw [show pv d = .pointer (some ⟨d, 0, none⟩) from rfl] at HD
        clear hc1
        go_wp2_with fail
        refine HD.out.mono ?_
        rintro e w4 ⟨rfl, hd4, hc4⟩
        go_wp2
        go_ret
        exact ⟨by rw [HR.out]; rfl, g, mb, ad, by rw [HR.out]; exact hd4, (Dgo.quiet HC1.out).trans ⟨hc4.mono (fun i _ hi => by rw [hi, H.out.tag]; exact (fun e => by cases e)), fun b hb => .inl hb⟩⟩
      · have HR := Bx.mk (ren_ok HMK.out HMJ.out HF.out hkj)
        have HKJ := Bx.mk hkj
        have hsn2 : (T.toList == S.toList) = false := by rw [hsn]; simp; exact fun e => hkj e.symm
        obtain ⟨hxm, hxn⟩ := fnd_some HF.out
        have HXM := Bx.mk hxm
        have HXN := Bx.mk hxn
        obtain ⟨b, rfl⟩ : ∃ b, mb = some b := by
          cases mb with
          | none => rw [H.out.none_ rfl] at hxm; simp at hxm
          | some b => exact ⟨b, rfl⟩
        clear hsn hkj hxm hxn
        go_enter Tryz.func213, Tryz.ntmps213
        go_wp2_with fail
        refine HM.out.mono ?_
        rintro e w1 ⟨rfl, hc1⟩
        have H1 := Bx.mk (H.out.keep hc1)
        have hlk := H1.out.look_yes HF.out (by unfold maxLen; exact HKL.out)
        have c0 := H1.out.c0
        rw [HKV.out] at hlk
        have HC1 := Bx.mk hc1
        have HDR1 := Bx.mk (HDR.out w1 hc1)
        obtain ⟨a, ha⟩ : ∃ a, ad k = a := ⟨_, rfl⟩
        rw [ha] at hlk
        have HA := Bx.mk ha
        clear hc1 HM HDR ha
        go_wp2_with fail
        refine HDR1.out.mono ?_
        rintro e w2 ⟨rfl, hd2, hg2⟩
        have HX2 : Bx (x ∈ del s.fs j) := ⟨mem_del.2 ⟨HXM.out, by rw [HXN.out]; exact HKJ.out⟩⟩
        have c02 := hd2.c0
        have hown := (hd2.some_ b rfl).2
        have HBT := Bx.mk (hd2.some_ b rfl).1
        obtain ⟨w3, hdel, hown3, hturn3⟩ := hown.drop mapLaw mapT (key := .string S) (kl := .string k) (by rw [← HKV.out]; exact key_of (by unfold maxLen; exact HKL.out)) 0
        have hc3 := ch_turned hturn3
        have hle : (del s.fs j).length < maxLen := by
          have := hd2.ok.most
          have e : (Ds.mk s.room (del s.fs j) s.left).fs = del s.fs j := rfl
          rw [e] at this
          unfold maxLen
          omega
        obtain ⟨w4, hup, hown4, hg4⟩ := hown3.update (val := pv (ad k)) (d := .held (pv (ad k))) (ps := []) (key := .string T) (kl := .string j) mapLaw mapT hle (by rw [← HJV.out]; exact key_of (by unfold maxLen; exact HJL.out)) rfl
        have hc4 : Ch (fun i => i = b) w3 w4 := ⟨hg4.os, hg4.tape, hg4.output, hg4.size, fun i hi hn => hg4.block i hi (fun e => hn (by injection e))⟩
        have c03 : w3.cell? ⟨d, 0, none⟩ = some (.map (some b)) := hc3.cell (p := ⟨d, 0, none⟩) (fun e => by have := hd2.tag; rw [show d = b from e, HBT.out] at this; cases this) c02
        have HR4 : Bx (Dsk w4 (tagR g k j) d (some b) (at1 ad j (ad k)) ⟨s.room, put (del s.fs k) ⟨j, x.bs, x.la⟩, s.left⟩ ∧ Ch (fun i => i = b) w2 w4) := ⟨by
          have hc := hc3.trans hc4 (fun _ _ h => h)
          refine ⟨?_, hc⟩
          have h5 := hd2.renamed (x := x) (j := j) HX2.out (may_ok HMJ.out).2 (fnd_del_same _ _) hc (by rw [HXN.out]; exact hown4) ⟨w3, _, by rw [HXN.out]; exact hown3⟩
          have e := put_del2 H.out.ok.fine.rise k ⟨j, x.bs, x.la⟩
          rw [HXN.out] at h5
          have h6 : Dsk w4 (tagR g k j) d (some b) (at1 ad j (ad k)) ⟨s.room, put (del (del s.fs j) k) ⟨j, x.bs, x.la⟩, s.left⟩ := h5
          rw [e] at h6
          exact h6⟩
        have hup' : (Instr.mapUpdate 85 (.map (some b)) (.string T) (.pointer (some ⟨a, 0, none⟩))).run Tryz.prog w3 = .ok () w4 := by rw [← HA.out]; exact hup
        have HG2 := Bx.mk hg2
        have HD := Bx.mk (done_any HR4.out.1 (may_ok HMK.out).1)
        rw [show pv d = .pointer (some ⟨d, 0, none⟩) from rfl] at HD
        clear hlk c0 hd2 hg2 hown hown3 hturn3 hc3 hle hup hown4 hg4 hc4
        go_wp2_with fail
        refine HD.out.mono ?_
        rintro e w5 ⟨rfl, hd5, hc5⟩
        go_wp2
        go_ret
        refine ⟨by rw [HR.out]; rfl, tagR g k j, some b, at1 ad j (ad k), by rw [HR.out]; exact hd5, ?_⟩
        have e1 : Dgo w g w4 (tagR g k j) := ((Dgo.quiet HC1.out).trans HG2.out).trans ⟨HR4.out.2.mono (fun i _ hi => by rw [hi, HBT.out]; exact (fun e => by cases e)), fun i hi => .inl (tagR_no.1 hi)⟩
        exact e1.trans ⟨hc5.mono (fun i _ hi => by rw [hi, HR4.out.1.tag]; exact (fun e => by cases e)), fun i hi => .inl hi⟩
  · have HR : Bx (opRen s k j = (m, s)) := ⟨by
      by_cases h : may s k = 0
      · rw [if_neg (by simp [h])] at hm
        rw [ren_err2 h (by rw [hm]; exact h0), hm]
      · rw [if_pos h] at hm
        rw [ren_err1 h, hm]⟩
    have h0' : ¬ (m : Int) = 0 := by omega
    clear hm hsn
    go_enter Tryz.func213, Tryz.ntmps213
    go_wp2_with fail
    refine HM.out.mono ?_
    rintro e w1 ⟨rfl, hc1⟩
    go_wp2
    go_ret
    exact ⟨by rw [HR.out]; rfl, g, mb, ad, by rw [HR.out]; exact H.out.keep hc1, Dgo.quiet hc1⟩
end
end
section
open Go.RowKit Go.Oct Go.Su Go.Dk Go.Maps
theorem pload_none {w : World} {g : Nat → Tg} {d : Nat} {mb : Option Nat} {ad : Key → Nat} {s : Ds} {k : Key} (h : Dsk w g d mb ad s) (hk : k.length ≤ 9223372036854775807) (hno : fnd s.fs k = none) :
    Calls Tryz.prog 58 #[pv d, kv k] w fun e w' => e = .returned (.tuple #[.slice none 0 0, .int .i64 7]) ∧ Ch (fun _ => False) w w' := by
  have hp : pv d = .pointer (some ⟨d, 0, none⟩) := rfl
  have hr := read_any h hk
  unfold opRead at hr
  rw [hno] at hr
  have HR := Bx.mk hr
  obtain ⟨S, hkv⟩ : ∃ S, kv k = .string S := ⟨_, rfl⟩
  rw [hkv] at HR ⊢
  rw [hp] at HR ⊢
  clear hr hp hkv h
  go_enter Tryz.func58, Tryz.ntmps58
  go_wp2_with fail
  refine HR.out.mono ?_
  rintro e w1 (⟨_, rfl, hc⟩ | ⟨bs, v, h0, _⟩)
  · have HC := Bx.mk hc
    clear hc HR
    go_wp2
    go_ret2
    exact ⟨rfl, HC.out⟩
  · cases h0
end
end Go.Proofs.YtbkakhfepiooaaaGreatDoor.D
namespace Go.Proofs.YtbkakhfepiooaaaGreatDoor
section
open Go.RowKit Go.Oct Go.Su Go.Sg
/-- The document's disk without a file. -/
def Rde (w : World) (d room : Nat) : Prop := w.heap[d]? = some (.cells #[.int .i64 (room : Nat), .slice none 0 0, .int .i64 (-1)] 172 (0, 0))
section
variable {w w' : World} {d room : Nat} {S : Nat → Prop}
theorem Rde.ch (h : Rde w d room) (hc : Ch S w w') (h0 : ¬ S d) : Rde w' d room := (hc.block d (Array.getElem?_eq_some_iff.1 h).1 h0).trans h
theorem Rde.facts (h : Rde w d room) : w.cell? ⟨d, 0, none⟩ = some (.int .i64 (room : Nat)) ∧ w.cell? ⟨d, 1, none⟩ = some (.slice none 0 0) ∧ w.cell? ⟨d, 2, none⟩ = some (.int .i64 (-1)) := by
  unfold Rde at h
  simp [World.cell?, h]
theorem rnewe_any (room : Nat) (w : World) (hr : room ≤ 1073741824) : Calls Tryz.prog 49 #[.int .i64 (room : Nat)] w fun e w' => e = .returned (.tuple #[.pointer (some ⟨w.heap.size, 0, none⟩), .int .i64 0]) ∧ Rde w' w.heap.size room ∧ Ch (fun _ => False) w w' := by
  have HF : Bx (Rde (w.alloc (.cells #[.int .i64 (room : Nat), .slice none 0 0, .int .i64 (-1)] 172)) w.heap.size room) := ⟨heap_alloc_new w _⟩
  go_enter Tryz.func49, Tryz.ntmps49
  go_wp2
  go_ret2
  exact ⟨rfl, HF.out, (Ch.refl _ _).alloc _⟩
theorem rspote_any (S : ByteArray) (h : Rde w d room) : Calls Tryz.prog 277 #[.pointer (some ⟨d, 0, none⟩), .string S] w fun e w' => e = .returned (.tuple #[.int .i64 0, .bool false]) ∧ Ch (fun _ => False) w w' := by
  obtain ⟨c0, c1, c2⟩ := h.facts
  clear h
  go_enter Tryz.func277, Tryz.ntmps277
  go_wp2
  refine wp_loop_rounds 1 ?_
  rw [rounds_succ]
  go_wp2
  go_quiet (fail)
  go_wp2
  go_ret2
  exact ⟨rfl, (Ch.refl _ _).drewN _⟩
theorem rreade_any (S : ByteArray) (h : Rde w d room) : Calls Tryz.prog 221 #[.pointer (some ⟨d, 0, none⟩), .string S] w fun e w' => e = .returned (.tuple #[.slice none 0 0, .int .i64 7]) ∧ Ch (fun _ => False) w w' := by
  have HS := Bx.mk (rspote_any S h)
  go_enter Tryz.func221, Tryz.ntmps221
  go_wp2_with fail
  refine HS.out.mono ?_
  rintro e w1 ⟨rfl, hc⟩
  have HC := Bx.mk hc
  clear hc HS
  go_wp2
  go_ret2
  exact ⟨rfl, HC.out⟩
theorem rloade_any (S : ByteArray) (h : Rde w d room) : Calls Tryz.prog 157 #[.pointer (some ⟨d, 0, none⟩), .string S] w fun e w' => e = .returned (.tuple #[.slice none 0 0, .int .i64 7]) ∧ Ch (fun _ => False) w w' := by
  have HS := Bx.mk (rreade_any S h)
  go_enter Tryz.func157, Tryz.ntmps157
  go_wp2_with fail
  refine HS.out.mono ?_
  rintro e w1 ⟨rfl, hc⟩
  have HC := Bx.mk hc
  clear hc HS
  go_wp2
  go_ret2
  exact ⟨rfl, HC.out⟩
theorem rliste_any (h : Rde w d room) : Calls Tryz.prog 230 #[.pointer (some ⟨d, 0, none⟩)] w fun e w' => e = .returned (.slice none 0 0) ∧ w = w' := by
  obtain ⟨c0, c1, c2⟩ := h.facts
  clear h
  go_enter Tryz.func230, Tryz.ntmps230
  go_wp2
  refine wp_loop_rounds 1 ?_
  rw [rounds_succ]
  go_wp2
  go_ret
  exact ⟨rfl, rfl⟩
theorem rcleare_any (S : ByteArray) (A : Option Addr) (n c : Nat) (h : Rde w d room) : Calls Tryz.prog 165 #[.pointer (some ⟨d, 0, none⟩), .string S, .slice A n c] w fun e w' => e = .returned (.int .i64 0) ∧ w = w' := by
  have HS := Bx.mk (rliste_any h)
  go_enter Tryz.func165, Tryz.ntmps165
  go_wp2_with fail
  refine HS.out.mono ?_
  rintro e w1 ⟨rfl, rfl⟩
  go_wp2
  refine wp_loop_rounds 1 ?_
  rw [rounds_succ]
  go_wp2
  go_ret
  exact ⟨rfl, rfl⟩
set_option maxRecDepth 100000 in
theorem rlistn_any (s : Nat) (S : ByteArray) (hs : w.cell? ⟨s, 1, none⟩ = some (.string S)) (hl : S.size ≤ 1000) : Calls Tryz.prog 158 #[.pointer (some ⟨s, 0, none⟩)] w fun e w' => e = .returned (.string (S ++ ⟨#[45, 108, 105, 115, 116]⟩)) ∧ w = w' := by
  go_enter Tryz.func158, Tryz.ntmps158
  go_wp2
  go_ret
  exact ⟨rfl, rfl⟩
set_option maxRecDepth 100000 in
set_option maxHeartbeats 1000000 in
/-- Open over a disk without a file. -/
theorem ropene_any (h : Rde w d room) : Calls Tryz.prog 94 #[.pointer (some ⟨d, 0, none⟩), .string ⟨#[100]⟩] w fun e w' => ∃ x, e = .returned (.tuple #[.pointer (some ⟨x, 0, none⟩), .int .i64 0]) ∧ Ch (fun _ => False) w w' := by
  have HH := Bx.mk h
  obtain ⟨w1, hw1⟩ : ∃ w1, w.alloc (.cells #[.slice none 0 0, .slice none 0 0] 243) = w1 := ⟨_, rfl⟩
  obtain ⟨b, hb⟩ : ∃ b, w.heap.size = b := ⟨_, rfl⟩
  have hs1 : w1.heap.size = b + 1 := by rw [← hw1, ← hb, World.size_alloc]
  have hC1 : Ch (fun _ => False) w w1 := by rw [← hw1]; exact (Ch.refl _ _).alloc _
  obtain ⟨w2, hw2⟩ : ∃ w2, w1.alloc (.cells #[.pointer (some ⟨d, 0, none⟩), .string ⟨#[100]⟩, .pointer (some ⟨b, 0, none⟩), .slice none 0 0, .slice none 0 0, .int .i64 0, .int .i64 0, .int .i64 1] 247) = w2 := ⟨_, rfl⟩
  have hC2 : Ch (fun _ => False) w1 w2 := by rw [← hw2]; exact (Ch.refl _ _).alloc _
  have hb2 : w2.heap[b + 1]? = some (.cells #[.pointer (some ⟨d, 0, none⟩), .string ⟨#[100]⟩, .pointer (some ⟨b, 0, none⟩), .slice none 0 0, .slice none 0 0, .int .i64 0, .int .i64 0, .int .i64 1] 247 (0, 0)) := by rw [← hw2, ← hs1]; exact heap_alloc_new w1 _
  have HC2 := Bx.mk (hC1.trans hC2 (fun _ _ h => h))
  have HB2 := Bx.mk hb2
  have z1 : w2.cell? ⟨b + 1, 1, none⟩ = some (.string ⟨#[100]⟩) := by simp [World.cell?, hb2]
  have HL := Bx.mk (rlistn_any (b + 1) ⟨#[100]⟩ z1 (by decide))
  have HBL : Bx (w.heap.size ≤ b) := ⟨Nat.le_of_eq hb⟩
  clear h hC1 hC2 hb2
  go_enter Tryz.func94, Tryz.ntmps94
  go_wp2_with fail
  refine HL.out.mono ?_
  rintro e w3 ⟨rfl, rfl⟩
  clear hw1 hw2 hs1 hb
  have HD := Bx.mk (rloade_any (⟨#[100]⟩ ++ ⟨#[45, 108, 105, 115, 116]⟩) (HH.out.ch HC2.out (fun h => h)))
  clear HL
  go_wp2_with fail
  refine HD.out.mono ?_
  rintro e w4 ⟨rfl, hc4⟩
  have HC4 := Bx.mk (HC2.out.trans hc4 (fun _ _ h => h))
  have hb4 := (hc4.block (b + 1) (Array.getElem?_eq_some_iff.1 HB2.out).1 (fun h => h)).trans HB2.out
  have HB4 := Bx.mk hb4
  have z1 : w4.cell? ⟨b + 1, 1, none⟩ = some (.string ⟨#[100]⟩) := by simp [World.cell?, hb4]
  have HL := Bx.mk (rlistn_any (b + 1) ⟨#[100]⟩ z1 (by decide))
  clear hc4 hb4 HD HB2 HC2
  go_wp2_with fail
  refine HL.out.mono ?_
  rintro e w5 ⟨rfl, rfl⟩
  obtain ⟨w5, hw5⟩ : ∃ w5, w4.alloc (.cells #[.string (⟨#[100]⟩ ++ ⟨#[45, 108, 105, 115, 116]⟩)] 9) = w5 := ⟨_, rfl⟩
  have hC5 : Ch (fun _ => False) w4 w5 := by rw [← hw5]; exact (Ch.refl _ _).alloc _
  have hb5 := (hC5.block (b + 1) (Array.getElem?_eq_some_iff.1 HB4.out).1 (fun h => h)).trans HB4.out
  have y5 : w5.cell? ⟨b + 1, 5, none⟩ = some (.int .i64 0) := by simp [World.cell?, hb5]
  have y6 : w5.cell? ⟨b + 1, 6, none⟩ = some (.int .i64 0) := by simp [World.cell?, hb5]
  have y6f : w5.frozen? ⟨b + 1, 6, none⟩ = false := by simp [World.frozen?, hb5]
  have hC56 : Ch (fun k => k = b + 1) w5 (w5.setCell ⟨b + 1, 6, none⟩ (.int .i64 0)) := (Ch.refl (fun k => k = b + 1) w5).setCell (p := ⟨b + 1, 6, none⟩) (.inl rfl) _
  have HC5 := Bx.mk (HC4.out.trans hC5 (fun _ _ h => h))
  have hdl : d < w.heap.size := (Array.getElem?_eq_some_iff.1 HH.out).1
  have HC6 := Bx.mk (HC5.out.trans hC56 (fun i hi (e : i = b + 1) => by have := HBL.out; omega))
  have HR6 := Bx.mk ((HH.out.ch HC5.out (fun h => h)).ch hC56 (fun (e : d = b + 1) => by have := HBL.out; omega))
  have HCL := Bx.mk (fun S => rcleare_any S (some ⟨w4.heap.size, 0, none⟩) 1 1 HR6.out)
  clear hC5 hb5 hC56 HL z1 HB4 hdl
  go_wp2_with fail
  refine (HCL.out _).mono ?_
  rintro e w7 ⟨rfl, rfl⟩
  go_wp2
  go_ret2
  exact ⟨b + 1, rfl, HC6.out⟩
end
end
end Go.Proofs.YtbkakhfepiooaaaGreatDoor
