/- Lemmas and contracts of this proof. Conditions: said at each. -/
import Derived.Test.YtbkakhfepiooaaaGreatDoorQGShDeed
namespace Go.Proofs.YtbkakhfepiooaaaGreatDoor
open Go.RowKit Go.Oct Go.Su Go.Sg Go.Om Go.Sh Go.Maps

theorem deeds_any (w : World) : Calls Tryz.prog 70 #[] w fun e w' => e = .returned (.slice (some ⟨w.heap.size, 0, none⟩) 3 3) ∧ w'.cell? ⟨w.heap.size, 1, none⟩ = some (.func (.func 125) #[] #[]) ∧ w'.cell? ⟨w.heap.size, 2, none⟩ = some (.func (.func 126) #[] #[]) ∧ Ch (fun _ => False) w w' := by
  go_enter Tryz.func70, Tryz.ntmps70
  go_wp2
  go_ret
  exact ⟨rfl, ncells_at (j := 1) rfl, ncells_at (j := 2) rfl, (Ch.refl _ _).alloc _⟩
theorem deeds_fn (w : World) {kk fn : Nat} (h : (kk = 1 ∧ fn = 125) ∨ (kk = 2 ∧ fn = 126)) : Calls Tryz.prog 70 #[] w fun e w' => e = .returned (.slice (some ⟨w.heap.size, 0, none⟩) 3 3) ∧ w'.cell? ⟨w.heap.size, kk, none⟩ = some (.func (.func fn) #[] #[]) ∧ Ch (fun _ => False) w w' :=
  (deeds_any w).mono fun e w' h1 => ⟨h1.1, by rcases h with ⟨rfl, rfl⟩ | ⟨rfl, rfl⟩; exact h1.2.1; exact h1.2.2.1, h1.2.2.2⟩
theorem zfree (w : World) (j : Nat) : (w.alloc (.cells #[.int .i64 0, .slice none 0 0] 90)).frozen? ⟨w.heap.size, j, none⟩ = false := by
  unfold World.frozen?
  rw [heap_alloc_new]
  simp
theorem zlt (w : World) : w.heap.size < (w.alloc (.cells #[.int .i64 0, .slice none 0 0] 90)).heap.size := by
  rw [World.size_alloc]
  exact Nat.lt_succ_self _
theorem zkept {w4 w5 : World} {s4 : Nat} (hs : w4.heap.size = s4) (hc : Ch (fun _ => False) (w4.alloc (.cells #[.int .i64 0, .slice none 0 0] 90)).drew w5) :
    w5.cell? ⟨s4, 0, none⟩ = some (.int .i64 0) ∧ w5.cell? ⟨s4, 1, none⟩ = some (.slice none 0 0) ∧ w5.frozen? ⟨s4, 0, none⟩ = false ∧ w5.frozen? ⟨s4, 1, none⟩ = false ∧ s4 < w5.heap.size := by
  subst hs
  have hl : w4.heap.size < (w4.alloc (.cells #[.int .i64 0, .slice none 0 0] 90)).drew.heap.size := by show w4.heap.size < (w4.alloc (.cells #[.int .i64 0, .slice none 0 0] 90)).heap.size; exact zlt w4
  exact ⟨hc.cell (fun h => h) (ncells_at (w := w4) (j := 0) rfl), hc.cell (fun h => h) (ncells_at (w := w4) (j := 1) rfl), (hc.frozen (p := ⟨w4.heap.size, 0, none⟩) (fun h => h) hl).trans (zfree w4 0), (hc.frozen (p := ⟨w4.heap.size, 1, none⟩) (fun h => h) hl).trans (zfree w4 1), Nat.lt_of_lt_of_le hl hc.size⟩
theorem setq (w : World) (q : Nat) (u v : Value) : Ch (fun x => x = q) w ((w.setCell ⟨q, 0, none⟩ u).setCell ⟨q, 1, none⟩ v) := ((Ch.refl (fun x => x = q) w).setCell (p := ⟨q, 0, none⟩) (.inl rfl) _).setCell (p := ⟨q, 1, none⟩) (.inl rfl) _
theorem o5_keep {w w' : World} {T : Nat → Prop} {O : Nat} {v0 v1 v2 v3 v4 : Value} (hc : Ch T w w') (hn : ¬ T O) (h : w.cell? ⟨O, 0, none⟩ = some v0 ∧ w.cell? ⟨O, 1, none⟩ = some v1 ∧ w.cell? ⟨O, 2, none⟩ = some v2 ∧ w.cell? ⟨O, 3, none⟩ = some v3 ∧ w.cell? ⟨O, 4, none⟩ = some v4) :
    w'.cell? ⟨O, 0, none⟩ = some v0 ∧ w'.cell? ⟨O, 1, none⟩ = some v1 ∧ w'.cell? ⟨O, 2, none⟩ = some v2 ∧ w'.cell? ⟨O, 3, none⟩ = some v3 ∧ w'.cell? ⟨O, 4, none⟩ = some v4 :=
  ⟨hc.cell hn h.1, hc.cell hn h.2.1, hc.cell hn h.2.2.1, hc.cell hn h.2.2.2.1, hc.cell hn h.2.2.2.2⟩
/-- A narrower class serves. -/
theorem held_str {P : Program} {md : Region.Mode} {ops : Array Oper} {Q : Exit → Act → World → Prop} {S S' : World → Prop} (h : ∀ w, S' w → S w) : ∀ (fuel : Nat) (listed : Array Bool) (a : Act) (w : World), wpAnyH P md ops Q S' fuel listed a w → wpAnyH P md ops Q S fuel listed a w
  | 0, _, _, _, k => k
  | fuel + 1, _, _, _, k => ⟨k.1, fun i hi => wpOp_mono (fun a' w' h' => ⟨h _ h'.1, held_str h fuel _ a' w' h'.2⟩) (k.2 i hi)⟩
theorem deed_row {m : Sm} {o : Ao} {t : Nat} {PT : Nat → Prop} {W w6 : World} {e : Ending} (h : Deed m o t PT W e w6) {p : Addr} {v : Value} (hc : W.cell? p = some v) (hn : ¬ PT p.block) : w6.cell? p = some v := by
  obtain ⟨_, _, _, _, _, _, _, _, _, _, _, _, _, _, hch⟩ := h
  exact hch.cell hn hc
/-- What the region leaves. -/
structure Reg9 (m : Sm) (o : Ao) (t : Nat) (PT : Nat → Prop) (w4 wx : World) (q9 : Nat) (er : Int) (A : Option Addr) (n c : Nat) (l : List Int) (PT5 : Nat → Prop) : Prop where
  lo : w4.heap.size ≤ q9
  c0 : wx.cell? ⟨q9, 0, none⟩ = some (.int .i64 er)
  c1 : wx.cell? ⟨q9, 1, none⟩ = some (.slice A n c)
  at_ : DeedAt m o t PT w4 wx er A n c l PT5
/-- A region of a code, by its number. -/
def regionOf (n : Nat) : Code → Option Code
  | .region k ops d => if k = n then some (.region k ops d) else none
  | .loop c => regionOf n c
  | .seq a b => match regionOf n a with
    | some c => some c
    | none => regionOf n b
  | .block _ c => regionOf n c
  | .scope c => regionOf n c
  | .cond _ a b => match regionOf n a with
    | some c => some c
    | none => regionOf n b
  | _ => none
noncomputable def doRegion : Code := ((Tryz.f36.body.bind (regionOf 9)).getD .skip)
set_option maxRecDepth 1000000 in
set_option maxHeartbeats 16000000 in
theorem reg9_any {m : Sm} {o : Ao} {t : Nat} {PT : Nat → Prop} (b O kk fn tl c2 : Nat) (cl sq : Int) (S : ByteArray) (A2 : Option Addr) (w4 : World) (Q : Exit → Act → World → Prop) (u1 u2 u3 u4 u6 u7 u8 u9 u10 u11 u12 u13 u14 u15 u16 u17 u18 u19 u20 u21 u22 u23 u24 u25 u26 u27 u28 u29 u30 u31 u32 u33 u34 u35 u36 u37 u38 u39 u40 u41 u42 u43 u44 u45 u46 u47 u48 u49 u50 u51 u52 u53 u54 u55 u56 u57 u58 u59 u60 u61 u62 u63 u64 u65 u66 u67 u68 u69 u70 : Value)
    (hkf : (kk = 1 ∧ fn = 125) ∨ (kk = 2 ∧ fn = 126))
    (o0 : w4.cell? ⟨O, 0, none⟩ = some (.int .i64 (kk : Int))) (o1 : w4.cell? ⟨O, 1, none⟩ = some (.int .i64 cl)) (o2 : w4.cell? ⟨O, 2, none⟩ = some (.int .i64 sq)) (o3 : w4.cell? ⟨O, 3, none⟩ = some (.string S)) (o4 : w4.cell? ⟨O, 4, none⟩ = some (.slice A2 tl c2))
    (HD : Bx (∀ W, Ch (fun _ => False) w4 W → Calls Tryz.prog fn #[.pointer (some ⟨b, 0, none⟩), .agg #[.int .i64 (kk : Int), .int .i64 cl, .int .i64 sq, .string S, .slice A2 tl c2]] W (Deed m o t PT W)))
    (eg : ∀ args w, (callFunc fn args).run Tryz.prog w = .ok (.enter fn args) w) (HWL : Bx (∀ x, PT x → x < w4.heap.size)) (hOP : ¬ PT O) (HML : Bx (4 < w4.heap.size))
    (hQ : ∀ (v51 v52 v53 v54 v55 v56 v57 v58 : Value) (q9 : Nat) (er : Int) (A : Option Addr) (n c : Nat) (l : List Int) (PT5 : Nat → Prop) (wx : World), Reg9 m o t PT w4 wx q9 er A n c l PT5 → Q .normal ⟨#[.pointer (some ⟨b, 0, none⟩), u1, u2, u3, u4, .pointer (some ⟨O, 0, none⟩), u6, u7, u8, .pointer (some ⟨q9, 0, none⟩), u10, u11, u12, u13, u14, u15, u16, u17, u18, u19, u20, u21, u22, u23, u24, u25, u26, u27, u28, u29, u30, u31, u32, u33, u34, u35, u36, u37, u38, u39, u40, u41, u42, u43, u44, u45, u46, u47, u48, u49, u50, v51, v52, v53, v54, v55, v56, v57, v58, u59, u60, u61, u62, u63, u64, u65, u66, u67, u68, u69, u70], []⟩ wx) :
    Code.wp Tryz.prog doRegion Q ⟨#[.pointer (some ⟨b, 0, none⟩), u1, u2, u3, u4, .pointer (some ⟨O, 0, none⟩), u6, u7, u8, u9, u10, u11, u12, u13, u14, u15, u16, u17, u18, u19, u20, u21, u22, u23, u24, u25, u26, u27, u28, u29, u30, u31, u32, u33, u34, u35, u36, u37, u38, u39, u40, u41, u42, u43, u44, u45, u46, u47, u48, u49, u50, u51, u52, u53, u54, u55, u56, u57, u58, u59, u60, u61, u62, u63, u64, u65, u66, u67, u68, u69, u70], []⟩ w4 := by
  conv => arg 2; whnf
  dsimp only
  have HQ := Bx.mk hQ
  have hk3 : (kk : Int) < 3 := by omega
  have HZC := Bx.mk ((Ch.refl (fun _ => False) w4).alloc (.cells #[.int .i64 0, .slice none 0 0] 90))
  have p0 := HZC.out.cell (fun h => h) o0
  have p1 := HZC.out.cell (fun h => h) o1
  have p2 := HZC.out.cell (fun h => h) o2
  have p3 := HZC.out.cell (fun h => h) o3
  have p4 := HZC.out.cell (fun h => h) o4
  have n0 : (w4.alloc (.cells #[.int .i64 0, .slice none 0 0] 90)).cell? ⟨w4.heap.size, 0, none⟩ = some (.int .i64 0) := ncells_at (j := 0) rfl
  have n1 : (w4.alloc (.cells #[.int .i64 0, .slice none 0 0] 90)).cell? ⟨w4.heap.size, 1, none⟩ = some (.slice none 0 0) := ncells_at (j := 1) rfl
  obtain ⟨s4, hs4⟩ : ∃ s, w4.heap.size = s := ⟨_, rfl⟩
  have HS4 := Bx.mk hs4
  rw [hs4] at n0 n1
  have HNO : Bx (¬ PT O) := ⟨fun e => hOP e⟩
  have hnp : ∀ q, w4.heap.size ≤ q → ¬ PT q := fun q hq e => by have := HWL.out q e; omega
  clear hQ
  refine wp_region_noPanic ?_
  refine wp_region_held_drew (S := fun w' => w'.cell? ⟨O, 0, none⟩ = some (.int .i64 (kk : Int)) ∧ w'.cell? ⟨O, 1, none⟩ = some (.int .i64 cl) ∧ w'.cell? ⟨O, 2, none⟩ = some (.int .i64 sq) ∧ w'.cell? ⟨O, 3, none⟩ = some (.string S) ∧ w'.cell? ⟨O, 4, none⟩ = some (.slice A2 tl c2)) (by kernel_rfl) ⟨o0, o1, o2, o3, o4⟩ (fun hHeld => ?_)
  refine wpAnyH_take (i := 1) (v := ?_) rfl (by kernel_rfl) (by kernel_rfl) (by kernel_rfl) (fun _ _ _ h => h) (Or.inl ⟨by rfl, ?_⟩) hHeld ?_
  rotate_left
  · intro w hSw
    (try dsimp only at hSw)
    go_simp
    with_reducible rfl
  (try simp only [Act.put])
  (try simp only [List.setIfInBounds_toArray])
  (try simp only [List.set])
  refine wpAnyH_take (i := 2) (v := ?_) rfl (by kernel_rfl) (by kernel_rfl) (by kernel_rfl) (fun _ _ _ h => h) (Or.inl ⟨by rfl, ?_⟩) hHeld ?_
  rotate_left
  · intro w hSw
    (try dsimp only at hSw)
    go_simp
    with_reducible rfl
  (try simp only [Act.put])
  (try simp only [List.setIfInBounds_toArray])
  (try simp only [List.set])
  refine wpAnyH_take (i := 5) (v := ?_) rfl (by kernel_rfl) (by kernel_rfl) (by kernel_rfl) (fun _ _ _ h => h) (Or.inl ⟨by rfl, ?_⟩) hHeld ?_
  rotate_left
  · intro w hSw
    (try dsimp only at hSw)
    go_simp
    with_reducible rfl
  (try simp only [Act.put])
  (try simp only [List.setIfInBounds_toArray])
  (try simp only [List.set])
  refine wpAnyH_take (i := 6) (v := ?_) rfl (by kernel_rfl) (by kernel_rfl) (by kernel_rfl) (fun _ _ _ h => h) (Or.inl ⟨by rfl, ?_⟩) hHeld ?_
  rotate_left
  · intro w hSw
    (try dsimp only at hSw)
    go_simp
    with_reducible rfl
  (try simp only [Act.put])
  (try simp only [List.setIfInBounds_toArray])
  (try simp only [List.set])
  refine wpAnyH_ready (rs := [0, 8]) (by kernel_rfl) (by simp) ?_
  refine AllReadyH.cons rfl (fun K hK => ?_) ?_
  ·
    go_simp
    go_at_call 70
    refine (deeds_fn w4.drew hkf).mono ?_
    rintro e w5 ⟨rfl, hf1, hc5⟩
    have HC5 : Bx (Ch (fun _ => False) w4 w5) := ⟨((Ch.refl (fun _ => False) w4).drew).trans hc5 (fun _ _ h => h)⟩
    have f1 : w5.cell? ⟨s4, kk, none⟩ = some (.func (.func fn) #[] #[]) := by rw [← hs4]; exact hf1
    have s5 := o5_keep HC5.out (fun h => h) ⟨o0, o1, o2, o3, o4⟩
    clear hf1
    (try go_wp2_with fail)
    refine hK.out _ _ s5 (fun hHeld => ?_)
    clear hK K
    (try simp only [Act.put])
    (try simp only [List.setIfInBounds_toArray])
    (try simp only [List.set])
    refine held_str (S' := fun w' => (w'.cell? ⟨O, 0, none⟩ = some (.int .i64 (kk : Int)) ∧ w'.cell? ⟨O, 1, none⟩ = some (.int .i64 cl) ∧ w'.cell? ⟨O, 2, none⟩ = some (.int .i64 sq) ∧ w'.cell? ⟨O, 3, none⟩ = some (.string S) ∧ w'.cell? ⟨O, 4, none⟩ = some (.slice A2 tl c2)) ∧ w'.cell? ⟨s4, kk, none⟩ = some (.func (.func fn) #[] #[])) (fun _ h => h.1) _ _ _ _ ?_
    replace hHeld : (w5.cell? ⟨O, 0, none⟩ = some (.int .i64 (kk : Int)) ∧ w5.cell? ⟨O, 1, none⟩ = some (.int .i64 cl) ∧ w5.cell? ⟨O, 2, none⟩ = some (.int .i64 sq) ∧ w5.cell? ⟨O, 3, none⟩ = some (.string S) ∧ w5.cell? ⟨O, 4, none⟩ = some (.slice A2 tl c2)) ∧ w5.cell? ⟨s4, kk, none⟩ = some (.func (.func fn) #[] #[]) := ⟨hHeld, f1⟩
    refine wpAnyH_take (i := 3) (v := ?_) rfl (by kernel_rfl) (by kernel_rfl) (by kernel_rfl) (fun _ _ _ h => h) (Or.inl ⟨by rfl, ?_⟩) hHeld ?_
    rotate_left
    · intro w hSw
      (try dsimp only at hSw)
      go_simp
      with_reducible rfl
    (try simp only [Act.put])
    (try simp only [List.setIfInBounds_toArray])
    (try simp only [List.set])
    refine wpAnyH_take (i := 4) (v := ?_) rfl (by kernel_rfl) (by kernel_rfl) (by kernel_rfl) (fun _ _ _ h => h) (Or.inl ⟨by rfl, ?_⟩) hHeld ?_
    rotate_left
    · intro w hSw
      (try dsimp only at hSw)
      go_simp
      with_reducible rfl
    (try simp only [Act.put])
    (try simp only [List.setIfInBounds_toArray])
    (try simp only [List.set])
    refine wpAnyH_ready (rs := [7, 8]) (by kernel_rfl) (by simp) ?_
    refine AllReadyH.cons rfl (fun K hK => ?_) ?_
    ·
      go_simp
      go_at_fn fn
      refine (HD.out w5 HC5.out).mono ?_
      rintro e w6 hde
      obtain ⟨er6, A6, n6, c6, l6, PT6, rfl, hat, _, hat3⟩ := Deed.at_ hde HC5.out HWL.out HML.out
      have HAC := Bx.mk hat3
      have hq6 := deed_row hde hHeld.2 (hnp s4 (Nat.le_of_eq HS4.out))
      have s6 := o5_keep hat.ch HNO.out ⟨o0, o1, o2, o3, o4⟩
      clear hde hat hat3
      (try go_wp2_with fail)
      refine hK.out _ _ ⟨s6, hq6⟩ (fun hHeld => ?_)
      clear hK K
      (try simp only [Act.put])
      (try simp only [List.setIfInBounds_toArray])
      (try simp only [List.set])
      refine wpAnyH_ready (rs := [8]) (by kernel_rfl) (by simp) ?_
      refine AllReadyH.cons rfl (fun K hK => ?_) ?_
      ·
        go_simp
        (try go_wp2_with fail)
        refine hK.out _ _ ⟨o5_keep ((Ch.refl (fun _ => False) w6).alloc _) (fun h => h) s6, ((Ch.refl (fun _ => False) w6).alloc _).cell (fun h => h) hq6⟩ (fun hHeld => ?_)
        clear hK K
        (try simp only [Act.put])
        (try simp only [List.setIfInBounds_toArray])
        (try simp only [List.set])
        refine wpAnyH_ready (rs := [9]) (by kernel_rfl) (by simp) ?_
        refine AllReadyH.cons rfl (fun K hK => ?_) ?_
        ·
          go_simp
          (try go_wp2_with fail)
          refine hK.out _ _ ⟨o5_keep ((Ch.refl (fun _ => False) w6).alloc _) (fun h => h) s6, ((Ch.refl (fun _ => False) w6).alloc _).cell (fun h => h) hq6⟩ (fun hHeld => ?_)
          clear hK K
          (try simp only [Act.put])
          (try simp only [List.setIfInBounds_toArray])
          (try simp only [List.set])
          refine wpAnyH_done (by kernel_rfl) (NoPanic.normal ?_) _
          exact HQ.out _ _ _ _ _ _ _ _ w6.heap.size er6 A6 n6 c6 l6 PT6 _ ⟨(HAC.out w6 (Ch.refl _ _)).ch.size, ncells_at (j := 0) rfl, ncells_at (j := 1) rfl, HAC.out _ ((Ch.refl _ _).alloc _)⟩
        exact AllReadyH.nil
      exact AllReadyH.nil
    refine AllReadyH.cons rfl (fun K hK => ?_) ?_
    ·
      go_simp
      (try go_wp2_with fail)
      refine hK.out _ _ ⟨o5_keep ((Ch.refl (fun _ => False) w5).alloc _) (fun h => h) hHeld.1, ((Ch.refl (fun _ => False) w5).alloc _).cell (fun h => h) hHeld.2⟩ (fun hHeld => ?_)
      clear hK K
      (try simp only [Act.put])
      (try simp only [List.setIfInBounds_toArray])
      (try simp only [List.set])
      refine wpAnyH_ready (rs := [7]) (by kernel_rfl) (by simp) ?_
      refine AllReadyH.cons rfl (fun K hK => ?_) ?_
      ·
        go_simp
        go_at_fn fn
        refine (HD.out (w5.alloc (.cells #[.int .i64 0, .slice none 0 0] 90)) (HC5.out.alloc (.cells #[.int .i64 0, .slice none 0 0] 90))).mono ?_
        rintro e w6 hde
        obtain ⟨er6, A6, n6, c6, l6, PT6, rfl, hat, z0, z1, y0, y1⟩ := Deed.z_ hde (HC5.out.alloc (.cells #[.int .i64 0, .slice none 0 0] 90)) HWL.out HML.out (q := w5.heap.size) HC5.out.size (zlt w5) ⟨ncells_at (j := 0) rfl, ncells_at (j := 1) rfl, zfree w5 0, zfree w5 1⟩
        have HAZ := Bx.mk hat
        have hq6 := deed_row hde hHeld.2 (hnp _ (Nat.le_of_eq HS4.out))
        have s6 := o5_keep (hat w6 (Ch.refl _ _)).ch HNO.out ⟨o0, o1, o2, o3, o4⟩
        clear hde hat
        have hne : ¬ s4 = w5.heap.size := fun e => by have h1 := lt_of_cell f1; have h2 : s4 < w5.heap.size := h1; omega
        have hnO : ¬ O = w5.heap.size := fun e => by have h1 := lt_of_cell s5.1; have h2 : O < w5.heap.size := h1; omega
        (try go_wp2_with fail)
        refine hK.out _ _ ⟨s6, hq6⟩ (fun hHeld => ?_)
        clear hK K
        (try simp only [Act.put])
        (try simp only [List.setIfInBounds_toArray])
        (try simp only [List.set])
        refine wpAnyH_ready (rs := [9]) (by kernel_rfl) (by simp) ?_
        refine AllReadyH.cons rfl (fun K hK => ?_) ?_
        ·
          go_simp
          (try go_wp2_with fail)
          refine hK.out _ _ ⟨o5_keep (setq _ _ _ _) hnO s6, (setq _ _ _ _).cell hne hq6⟩ (fun hHeld => ?_)
          clear hK K
          (try simp only [Act.put])
          (try simp only [List.setIfInBounds_toArray])
          (try simp only [List.set])
          refine wpAnyH_done (by kernel_rfl) (NoPanic.normal ?_) _
          exact HQ.out _ _ _ _ _ _ _ _ w5.heap.size er6 A6 n6 c6 l6 PT6 _ ⟨HC5.out.size, (D.set_off (by decide)).trans (D.set_same z0), D.set_same ((D.set_off (by decide)).trans z1), HAZ.out _ (setq _ _ _ _)⟩
        exact AllReadyH.nil
      exact AllReadyH.nil
    exact AllReadyH.nil
  refine AllReadyH.cons rfl (fun K hK => ?_) ?_
  ·
    go_simp
    (try go_wp2_with fail)
    refine hK.out _ _ ⟨p0, p1, p2, p3, p4⟩ (fun hHeld => ?_)
    clear hK K
    (try simp only [Act.put])
    (try simp only [List.setIfInBounds_toArray])
    (try simp only [List.set])
    refine wpAnyH_ready (rs := [0]) (by kernel_rfl) (by simp) ?_
    refine AllReadyH.cons rfl (fun K hK => ?_) ?_
    ·
      go_simp
      go_at_call 70
      refine (deeds_fn _ hkf).mono ?_
      rintro e w5 ⟨rfl, hf1, hc5⟩
      have HC5 : Bx (Ch (fun _ => False) w4 w5) := ⟨(HZC.out.drew).trans hc5 (fun _ _ h => h)⟩
      have f1 : w5.cell? ⟨s4 + 1, kk, none⟩ = some (.func (.func fn) #[] #[]) := by rw [← hs4, ← World.size_alloc w4 (.cells #[.int .i64 0, .slice none 0 0] 90)]; exact hf1
      have hz := zkept hs4 hc5
      have s5 := o5_keep HC5.out (fun h => h) ⟨o0, o1, o2, o3, o4⟩
      clear hf1 hc5
      (try go_wp2_with fail)
      refine hK.out _ _ s5 (fun hHeld => ?_)
      clear hK K
      (try simp only [Act.put])
      (try simp only [List.setIfInBounds_toArray])
      (try simp only [List.set])
      refine held_str (S' := fun w' => (w'.cell? ⟨O, 0, none⟩ = some (.int .i64 (kk : Int)) ∧ w'.cell? ⟨O, 1, none⟩ = some (.int .i64 cl) ∧ w'.cell? ⟨O, 2, none⟩ = some (.int .i64 sq) ∧ w'.cell? ⟨O, 3, none⟩ = some (.string S) ∧ w'.cell? ⟨O, 4, none⟩ = some (.slice A2 tl c2)) ∧ w'.cell? ⟨s4 + 1, kk, none⟩ = some (.func (.func fn) #[] #[])) (fun _ h => h.1) _ _ _ _ ?_
      replace hHeld : (w5.cell? ⟨O, 0, none⟩ = some (.int .i64 (kk : Int)) ∧ w5.cell? ⟨O, 1, none⟩ = some (.int .i64 cl) ∧ w5.cell? ⟨O, 2, none⟩ = some (.int .i64 sq) ∧ w5.cell? ⟨O, 3, none⟩ = some (.string S) ∧ w5.cell? ⟨O, 4, none⟩ = some (.slice A2 tl c2)) ∧ w5.cell? ⟨s4 + 1, kk, none⟩ = some (.func (.func fn) #[] #[]) := ⟨hHeld, f1⟩
      refine wpAnyH_take (i := 3) (v := ?_) rfl (by kernel_rfl) (by kernel_rfl) (by kernel_rfl) (fun _ _ _ h => h) (Or.inl ⟨by rfl, ?_⟩) hHeld ?_
      rotate_left
      · intro w hSw
        (try dsimp only at hSw)
        go_simp
        with_reducible rfl
      (try simp only [Act.put])
      (try simp only [List.setIfInBounds_toArray])
      (try simp only [List.set])
      refine wpAnyH_take (i := 4) (v := ?_) rfl (by kernel_rfl) (by kernel_rfl) (by kernel_rfl) (fun _ _ _ h => h) (Or.inl ⟨by rfl, ?_⟩) hHeld ?_
      rotate_left
      · intro w hSw
        (try dsimp only at hSw)
        go_simp
        with_reducible rfl
      (try simp only [Act.put])
      (try simp only [List.setIfInBounds_toArray])
      (try simp only [List.set])
      refine wpAnyH_ready (rs := [7]) (by kernel_rfl) (by simp) ?_
      refine AllReadyH.cons rfl (fun K hK => ?_) ?_
      ·
        go_simp
        go_at_fn fn
        refine (HD.out w5 HC5.out).mono ?_
        rintro e w6 hde
        obtain ⟨er6, A6, n6, c6, l6, PT6, rfl, hat, z0, z1, y0, y1⟩ := Deed.z_ hde HC5.out HWL.out HML.out (q := s4) (Nat.le_of_eq HS4.out) hz.2.2.2.2 ⟨hz.1, hz.2.1, hz.2.2.1, hz.2.2.2.1⟩
        have HAZ := Bx.mk hat
        have hq6 := deed_row hde hHeld.2 (hnp _ (Nat.le_trans (Nat.le_of_eq HS4.out) (Nat.le_succ _)))
        have s6 := o5_keep (hat w6 (Ch.refl _ _)).ch HNO.out ⟨o0, o1, o2, o3, o4⟩
        clear hde hat
        have hne : ¬ s4 + 1 = s4 := by omega
        have hnO : ¬ O = s4 := fun e => by have h1 := lt_of_cell o0; have h2 : O < w4.heap.size := h1; have h3 := HS4.out; omega
        (try go_wp2_with fail)
        refine hK.out _ _ ⟨s6, hq6⟩ (fun hHeld => ?_)
        clear hK K
        (try simp only [Act.put])
        (try simp only [List.setIfInBounds_toArray])
        (try simp only [List.set])
        refine wpAnyH_ready (rs := [9]) (by kernel_rfl) (by simp) ?_
        refine AllReadyH.cons rfl (fun K hK => ?_) ?_
        ·
          go_simp
          (try go_wp2_with fail)
          refine hK.out _ _ ⟨o5_keep (setq _ _ _ _) hnO s6, (setq _ _ _ _).cell hne hq6⟩ (fun hHeld => ?_)
          clear hK K
          (try simp only [Act.put])
          (try simp only [List.setIfInBounds_toArray])
          (try simp only [List.set])
          refine wpAnyH_done (by kernel_rfl) (NoPanic.normal ?_) _
          exact HQ.out _ _ _ _ _ _ _ _ s4 er6 A6 n6 c6 l6 PT6 _ ⟨(Nat.le_of_eq HS4.out), (D.set_off (by decide)).trans (D.set_same z0), D.set_same ((D.set_off (by decide)).trans z1), HAZ.out _ (setq _ _ _ _)⟩
        exact AllReadyH.nil
      exact AllReadyH.nil
    exact AllReadyH.nil
  exact AllReadyH.nil
end Go.Proofs.YtbkakhfepiooaaaGreatDoor
