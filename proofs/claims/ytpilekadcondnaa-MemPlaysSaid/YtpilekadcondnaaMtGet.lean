/-
  Contracts of the program's table: Delete, Len, Get.
  Conditions: the table is one.
-/
import Derived.Test.YtpilekadcondnaaMtPut
namespace Go.Proofs.Ytpilekadcondnaa
open Go.RowKit Go.Oct Go.Su Go.Sg Go.Mt Go.Maps

section
variable {w w1 w2 w' : World} {P S F FA : Nat → Prop} {t : Nat} {mb : Option Nat} {ks gs gs' : List Key} {vf : Key → Value} {ds ds' : List Dc} {k : Key} {v : Value}
set_option maxRecDepth 100000 in
set_option maxHeartbeats 2000000 in
theorem mdel_any (h : TabP w P t ds gs) (k : Key) (hk : k.length ≤ 9223372036854775807) (hfw : ds.length + gs.length < 1000000) :
    Calls Try.prog 13 #[.pointer (some ⟨t, 0, none⟩), kv k] w fun e w' => e = .returned (.int .i64 (tDel (ds, gs) k).1) ∧ MPost (tDel (ds, gs) k).2 t w P w' := by
  have H := Bx.mk h
  have HF := Bx.mk hfw
  by_cases hok : okK k
  · have HNK := Bx.mk (mnokey_any k w hk false (by rw [decide_eq_true hok]; rfl))
    have hv : tDel (ds, gs) k = (0, (del (·.1) ds k, put id gs k)) := if_neg (not_not_intro hok)
    have hOK := h.ok.del k
    rw [hv] at hOK ⊢
    have HOK := Bx.mk hOK
    obtain ⟨mb, ks, vf, c0', he⟩ := h.row
    have HE := Bx.mk he
    have hkl : k.length ≤ maxLen := by unfold maxLen; exact hk
    have HNT : Bx (Calls Try.prog 31 #[.pointer (some ⟨t, 0, none⟩), kv k, .agg #[.bool false, .slice none 0 0]] w fun e w' => e = .returned (.tuple #[]) ∧ NoteOf t mb ks vf k (fate false (.slice none 0 0)) w w') := ⟨by
      have hl := HE.out.len
      have := HF.out
      exact mnote_any c0' h.zf he.rise he.none_ (fun b hb => (he.some_ b hb).2) (by unfold maxLen; omega) hkl false⟩
    obtain ⟨V, hV⟩ : ∃ V, kv k = V := ⟨_, rfl⟩
    rw [hV] at HNK HNT ⊢
    clear h hv hV hok hfw hOK c0' he
    go_enter Try.func13, Try.ntmps13
    go_wp2_with fail
    refine HNK.out.mono ?_
    rintro e w' ⟨rfl, rfl⟩
    go_wp2_with fail
    refine HNT.out.mono ?_
    rintro e w2 ⟨rfl, hN⟩
    have HN := Bx.mk hN
    clear hN
    go_wp2_with fail
    go_ret
    refine ⟨rfl, H.out.noted HE.out (Ch.refl _ w) HN.out HOK.out ?_ (kperm_del HE.out.perm k) (fun d hd => ?_) (fun j hj => ?_)⟩
    · have h3 := len_put_le H.out.ok.gr k
      have h4 := len_del_le H.out.ok.dr k
      have := HF.out
      omega
    · exact .inl ⟨(mem_del.1 hd).2, (mem_del.1 hd).1⟩
    · rcases mem_put.1 hj with rfl | ⟨hj, hne⟩
      · exact .inr ⟨rfl, rfl⟩
      · exact .inl ⟨hne, hj⟩
  · have HNK := Bx.mk (mnokey_any k w hk true (by rw [decide_eq_false hok]; rfl))
    have hv : tDel (ds, gs) k = (1, (ds, gs)) := if_pos hok
    rw [hv]
    obtain ⟨V, hV⟩ : ∃ V, kv k = V := ⟨_, rfl⟩
    rw [hV] at HNK ⊢
    clear h hv hV hok hfw
    go_enter Try.func13, Try.ntmps13
    go_wp2_with fail
    refine HNK.out.mono ?_
    rintro e w' ⟨rfl, rfl⟩
    go_wp2_with fail
    go_ret
    exact ⟨rfl, .refl H.out⟩
set_option maxRecDepth 100000 in
theorem mlenp_any (h : TabP w P t ds gs) : Calls Try.prog 22 #[.pointer (some ⟨t, 0, none⟩)] w fun e w' => e = .returned (.int .i64 ((ds.length + gs.length : Nat) : Int)) ∧ w = w' := by
  obtain ⟨mb, ks, vf, c0, he⟩ := h.row
  have HE := Bx.mk he
  have HL := Bx.mk he.len
  cases mb with
  | none =>
    have hl : Bx ((0 : Int) = ((ds.length + gs.length : Nat) : Int)) := ⟨by rw [← HL.out, he.none_ rfl]; rfl⟩
    clear h he
    go_enter Try.func22, Try.ntmps22
    go_wp2
    go_ret
    exact ⟨congrArg (fun z => Ending.returned (.int .i64 z)) hl.out, rfl⟩
  | some b =>
    have hlen := fun ty => (he.some_ b rfl).2.2.len mapT ty
    rw [size_mapK, HL.out] at hlen
    clear h he
    generalize ds.length + gs.length = n at *
    go_enter Try.func22, Try.ntmps22
    go_wp2
    go_ret
    exact ⟨rfl, rfl⟩
set_option maxRecDepth 100000 in
set_option maxHeartbeats 2000000 in
theorem mgetp_any (h : TabP w P t ds gs) (k : Key) (hk : k.length ≤ 9223372036854775807) : Calls Try.prog 18 #[.pointer (some ⟨t, 0, none⟩), kv k] w (GetOf ds gs k w) := by
  obtain ⟨mb, ks, vf, c0, he⟩ := h.row
  have H := Bx.mk h
  have HE := Bx.mk he
  have hlk := he.look_ok (k := k) (by unfold maxLen; exact hk)
  -- what the map tells
  obtain ⟨f, A, n, c, xs, kn, hv, hsl, hnc, hgr⟩ : ∃ f A n c xs kn, (if k ∈ ks then vf k else fate false (.slice none 0 0)) = fate f (.slice A n c) ∧ Sl w (fun _ => True) .u8 A n xs ∧ n ≤ 4096 ∧ decide (k ∈ ks) = kn ∧ GR ds gs k xs f kn := by
    by_cases hd : ∃ d ∈ ds, d.1 = k
    · obtain ⟨d, hd, rfl⟩ := hd
      obtain ⟨A, c, e1, hs, _⟩ := he.docs d hd
      have hm : d.1 ∈ ks := he.mem.2 (.inl ⟨d, hd, rfl⟩)
      obtain ⟨j, hj⟩ := List.getElem?_of_mem hd
      refine ⟨true, A, d.2.length, c, d.2, true, by rw [if_pos hm]; exact e1, hs.mono (fun _ _ _ => trivial), h.ok.len d hd, decide_eq_true hm, GR.some (at_first (fun i e hi he2 => ?_) hj rfl)⟩
      exact keyne (h.ok.dr.at_lt hi he2 hj)
    · have hat : at_ ds k = none := at_no (fun i d _ hi e => hd ⟨d, List.mem_of_getElem? hi, e⟩)
      by_cases hg : k ∈ gs
      · have hm : k ∈ ks := he.mem.2 (.inr hg)
        exact ⟨false, none, 0, 0, [], true, by rw [if_pos hm]; exact he.gone k hg, Sl.nil _ _ _ _, Nat.zero_le _, decide_eq_true hm, GR.none hat (decide_eq_true hg)⟩
      · have hm : k ∉ ks := fun hm => (he.mem.1 hm).elim hd hg
        exact ⟨false, none, 0, 0, [], false, by rw [if_neg hm], Sl.nil _ _ _ _, Nat.zero_le _, decide_eq_false hm, GR.none hat (decide_eq_false hg)⟩
  rw [hv, hgr.1] at hlk
  have HGR := Bx.mk hgr.2
  have HSL := Bx.mk hsl
  obtain ⟨V, hV⟩ : ∃ V, kv k = V := ⟨_, rfl⟩
  rw [hV] at hlk ⊢
  have hfa : fate f (.slice A n c) = .agg #[.bool f, .slice A n c] := rfl
  rw [hfa] at hlk
  clear h he hsl hgr hv hV hfa
  obtain ⟨w1, hw1⟩ : ∃ w1, w.alloc (.cells #[.bool f, .slice A n c] 69) = w1 := ⟨_, rfl⟩
  have HCA : Bx (Ch (fun _ => False) w w1) := ⟨by rw [← hw1]; exact (Ch.refl _ _).alloc _⟩
  have d0 : w1.cell? ⟨w.heap.size, 0, none⟩ = some (.bool f) := by rw [← hw1]; exact ncells_at (j := 0) rfl
  have d1 : w1.cell? ⟨w.heap.size, 1, none⟩ = some (.slice A n c) := by rw [← hw1]; exact ncells_at (j := 1) rfl
  go_enter Try.func18, Try.ntmps18
  go_wp2_with fail
  clear hw1 hlk c0
  generalize w.heap.size = B at *
  have HS1 := Bx.mk ((HSL.out.ch HCA.out (fun _ _ _ h => h)).ch ((Ch.refl (fun _ => False) w1).drew) (fun _ _ _ h => h))
  go_region_held3 (fun w' => w'.cell? ⟨B, 0, none⟩ = some (.bool f) ∧ w'.cell? ⟨B, 1, none⟩ = some (.slice A n c)) (first | go_keep | exact s2 | exact ⟨d0, d1⟩) ((go_at_call 32; refine (mclone_any xs A n c _ HS1.out (by omega)).mono ?_; rintro e w2 ⟨v, rfl, hfr⟩; have s2 : w2.cell? ⟨B, 0, none⟩ = some (.bool f) ∧ w2.cell? ⟨B, 1, none⟩ = some (.slice A n c) := ⟨(((Ch.refl (fun _ => False) w1).drew).trans hfr.2.2 (fun _ _ h => h)).cell (fun h => h) d0, (((Ch.refl (fun _ => False) w1).drew).trans hfr.2.2 (fun _ _ h => h)).cell (fun h => h) d1⟩))
  all_goals (
    go_wp2
    go_returns
    exact ⟨_, xs, f, kn, rfl, Fresh.after HCA.out.drew hfr, HGR.out⟩)
end
end Go.Proofs.Ytpilekadcondnaa
