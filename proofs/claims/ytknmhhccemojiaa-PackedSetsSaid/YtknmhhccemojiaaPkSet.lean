/-
  The contracts of Set, Words, widest, Pack, check, New, behind, From.
-/
import Derived.Test.YtknmhhccemojiaaPkMake
import Derived.Laws.CopyOwn
namespace Go.Proofs.Ytknmhhccemojiaa
open Go.RowKit Go.Oct Go.Pk

/-- copy of a whole row over a row of the call's own. -/
theorem wp_copy {P : Program} {t e : TypeId} {z : Value} {bytes : Nat} {F : Nat → Prop} {w : World} {ops : Array Oper} {rest : List Oper} {o : Oper} {a : Act} {Q : Exit → Act → World → Prop} (hgd : o.guard = none) (d s : Operand) (T : Elem P t e z bytes)
    (ho : o.op = .call { callee := .builtin .copy, args := #[d, s], argTypes := #[t, t] }) {g n cap : Nat} {xs : List Value} (hd : a.eval d = .slice (some ⟨g, 0, none⟩) n cap) (hown : w.ownsRow 0 e 1 (.slice (some ⟨g, 0, none⟩) n cap) n xs)
    {A : Option Addr} {c : Nat} {us : List Value} (hs : a.eval s = .slice A n c) (hr : Vs w F A n us) (h1 : ∀ u ∈ us, u.oneCell' = true)
    (h : ∀ w', w'.ownsRow 0 e 1 (.slice (some ⟨g, 0, none⟩) n cap) n us → Ch (fun k => k = g) w w' → wpList P ops Q rest (a.put o.dst (goInt n)) w') : wpList P ops Q (o :: rest) a w := by
  obtain ⟨i, hi, hz, hsz, hby⟩ := info_parts T.info
  have hsz1 : (P.info? e).map (·.size) = some 1 := by rw [hi]; simp [hsz]
  have hl := hr.1
  have hxl := hown.1
  by_cases h0 : n = 0
  · subst h0
    obtain rfl : us = [] := List.eq_nil_of_length_eq_zero hl
    obtain rfl : xs = [] := List.eq_nil_of_length_eq_zero (by simpa using hxl)
    exact wpList_copy_nothing hgd d s t t ho e T.t hsz1 _ _ _ _ _ _ hd hs rfl (h w hown (Ch.refl _ _))
  · obtain ⟨b, off, rfl, _, hc⟩ := hr.2 (by omega)
    rcases hown.2 with ⟨e0, _⟩ | ⟨g', cap', cur, e0, hb, hg, h2, h3, h4, h5⟩
    · cases e0
    · injection e0 with e1 e2 e3
      injection e1 with e1
      injection e1 with e1
      subst e1 e3
      rw [Nat.mul_one] at h4 h5
      refine wpList_copy_own hgd d s t t ho e T.t hsz1 g 0 n cap ⟨b, off, none⟩ n c hd hs cur e hg us (by rw [hl]; exact (Nat.min_self n).symm) (fun j v hv => ?_) (by omega) h1 ?_
      · have hadd : (⟨b, off, none⟩ : Addr).add j = ⟨b, off + j, none⟩ := by unfold Addr.add; split <;> simp_all
        rw [hadd]
        exact hc j v hv
      · rw [hl]
        refine h _ ⟨by rw [hl, Nat.mul_one], .inr ⟨g, cap, _, rfl, hb, setRow_heap w g cur _ e (0, 0) hg, h2, h3, ?_, ?_⟩⟩ ⟨rfl, rfl, rfl, by simp [World.setRow], fun k hk hn => setRow_other w g k _ hn⟩
        · simp
          omega
        · rw [Nat.mul_one]
          simp [← hl]

/-- A row of words of the call's own. -/
structure Ow (w : World) (g c : Nat) (xs : List Nat) : Prop where
  own : w.ownsRow 0 25 1 (.slice (some ⟨g, 0, none⟩) xs.length c) xs.length (xs.map fun x : Nat => Value.int .u64 x)
theorem Ow.stored {w : World} {g c : Nat} {xs : List Nat} (h : Ow w g c xs) (j x : Nat) : Ow (w.setCell ⟨g, j, none⟩ (.int .u64 x)) g c (xs.set j x) ∧ Ch (fun k => k = g) w (w.setCell ⟨g, j, none⟩ (.int .u64 x)) := by
  have hC : Ch (fun k => k = g) w (w.setCell ⟨g, j, none⟩ (.int .u64 x)) := (Ch.refl (fun k => k = g) w).setCell (p := ⟨g, j, none⟩) (.inl rfl) _
  obtain ⟨ho, _⟩ := h.own.stored j (.int .u64 x)
  refine ⟨⟨?_⟩, hC⟩
  rw [List.length_set, List.map_set]
  exact ho
theorem Ow.cellAt {w : World} {g c : Nat} {xs : List Nat} (h : Ow w g c xs) {j : Nat} (hj : j < xs.length) : w.cell? ⟨g, j, none⟩ = some (.int .u64 (xs.getD j 0 : Nat)) := by
  have := h.own.cellAt j (by omega)
  rw [List.getElem?_map, List.getElem?_eq_getElem hj] at this
  rw [this, List.getD_eq_getElem?_getD, List.getElem?_eq_getElem hj]
  rfl
theorem Ow.frozenAt {w : World} {g c : Nat} {xs : List Nat} (h : Ow w g c xs) (j : Nat) : w.frozen? ⟨g, j, none⟩ = false := h.own.frozenAt j
theorem Ow.ch {w w' : World} {S : Nat → Prop} {g c : Nat} {xs : List Nat} (h : Ow w g c xs) (hc : Ch S w w') (hg : ¬ S g) : Ow w' g c xs := ⟨hc.own h.own (fun k hk => by simp [Value.ownBlock] at hk; subst hk; exact hg)⟩
theorem Ow.keep {w w' : World} {g c : Nat} {xs : List Nat} (h : Ow w g c xs) (hc : Ch (fun _ => False) w w') : Ow w' g c xs := h.ch hc (fun h => h)
theorem Ow.lt {w : World} {g c : Nat} {xs : List Nat} (h : Ow w g c xs) : g < w.heap.size := (h.own.lt g rfl).2
theorem Ow.sn {w : World} {g c : Nat} {xs : List Nat} (h : Ow w g c xs) : Sn w (fun b => b = g) (some ⟨g, 0, none⟩) xs := by
  have := (Vs.of_own h.own).mono (G := fun b => b = g) fun b _ hb => by simp [Value.ownBlock] at hb; exact hb.symm
  unfold Sn Sl
  rwa [List.map_map]
theorem ow_made (w : World) (n : Nat) (hn : n ≤ 1048576) : Ow (w.alloc (.cells (madeCells #[.int .u64 0] n) 25)) w.heap.size n (List.replicate n 0) := by
  refine ⟨?_⟩
  rw [List.length_replicate]
  have h := World.ownsRow_lit (base := 0) (e := 25) (size := 1) w (madeCells #[.int .u64 0] n) n (Nat.zero_le _) (by unfold maxLen; omega) (by simp [madeCells])
  have e : (madeCells #[Value.int .u64 0] n).toList = (List.replicate n 0).map fun x : Nat => Value.int .u64 x := by rw [made_list]; simp
  rw [e] at h
  exact h
theorem Raw.ow {w : World} {bv bw wd n : Nat} {ws : List Nat} (h : Raw w bv bw wd n ws) : Ow w bw ws.length ws := ⟨h.own⟩
theorem nats_cells (xs : List Nat) : ∀ u ∈ xs.map (fun x : Nat => Value.int .u64 x), u.oneCell' = true := by
  intro u hu
  obtain ⟨x, _, rfl⟩ := List.mem_map.1 hu
  rfl
theorem Sn.vs {w : World} {F : Nat → Prop} {A : Option Addr} {xs : List Nat} (h : Sn w F A xs) : Vs w F A xs.length (xs.map fun x : Nat => Value.int .u64 x) := by
  have h1 : Vs w F A xs.length ((xs.map fun x : Nat => (x : Int)).map (Value.int .u64)) := h
  rwa [List.map_map] at h1

section
variable (bv bw wd n : Nat) (ws : List Nat)
set_option maxHeartbeats 400000 in
theorem set_in (l : List Nat) (i v : Nat) (w : World) (h : Raw w bv bw wd n ws) (hp : Pk ws wd l) (hl : l.length = n) (hi : i < n) (hv : v < 2 ^ wd) :
    Calls Try.prog 15 #[.pointer (some ⟨bv, 0, none⟩), .int .i64 i, .int .u64 v] w fun e w' => e = .returned (.int .i64 0) ∧ (∃ ws', Raw w' bv bw wd n ws' ∧ Pk ws' wd (l.set i v)) ∧ Ch (fun k => k = bw) w w' := by
  have H := Bx.mk h
  have HP := Bx.mk hp
  have HV := Bx.mk hv
  obtain ⟨g, hg⟩ : ∃ g, 2 ^ wd - 1 = g := ⟨_, rfl⟩
  have hvg : v ≤ g := by omega
  have HG := Bx.mk hg
  clear h hp hv hg
  go_enter Try.func15, Try.ntmps15
  go_wp2_with fail
  refine (has_in bv bw wd n ws i _ H.out hi).mono ?_
  rintro e w' ⟨rfl, rfl⟩
  go_wp2_with fail
  refine (greatest_is bv bw wd n ws g _ H.out HG.out).mono ?_
  rintro e w' ⟨rfl, rfl⟩
  go_wp2_with fail
  refine (put_any bv bw wd n ws l i v _ H.out HP.out hl hi HV.out).mono ?_
  rintro e w1 ⟨rfl, hr, hC⟩
  have HR := Bx.mk hr
  have HC := Bx.mk hC
  clear hr hC
  go_wp2
  go_ret
  exact ⟨rfl, HR.out, HC.out⟩
theorem set_out (i : Int) (v : Nat) (w : World) (h : Raw w bv bw wd n ws) (hi : i < 0 ∨ (n : Int) ≤ i) :
    Calls Try.prog 15 #[.pointer (some ⟨bv, 0, none⟩), .int .i64 i, .int .u64 v] w fun e w' => e = .returned (.int .i64 1) ∧ w = w' := by
  have H := Bx.mk h
  clear h
  go_enter Try.func15, Try.ntmps15
  go_wp2_with fail
  refine (has_out bv bw wd n ws i _ H.out hi).mono ?_
  rintro e w' ⟨rfl, rfl⟩
  go_wp2
  go_ret
  exact ⟨rfl, rfl⟩
theorem set_big (i v : Nat) (w : World) (h : Raw w bv bw wd n ws) (hi : i < n) (hv : 2 ^ wd ≤ v) :
    Calls Try.prog 15 #[.pointer (some ⟨bv, 0, none⟩), .int .i64 i, .int .u64 v] w fun e w' => e = .returned (.int .i64 1) ∧ w = w' := by
  have H := Bx.mk h
  obtain ⟨g, hg⟩ : ∃ g, 2 ^ wd - 1 = g := ⟨_, rfl⟩
  have h2 : 0 < 2 ^ wd := Nat.pow_pos (by omega)
  have hvg : g < v := by omega
  have HG := Bx.mk hg
  clear h hv hg h2
  go_enter Try.func15, Try.ntmps15
  go_wp2_with fail
  refine (has_in bv bw wd n ws i _ H.out hi).mono ?_
  rintro e w' ⟨rfl, rfl⟩
  go_wp2_with fail
  refine (greatest_is bv bw wd n ws g _ H.out HG.out).mono ?_
  rintro e w' ⟨rfl, rfl⟩
  go_wp2
  go_ret
  exact ⟨rfl, rfl⟩
theorem set_nil (i : Int) (v : Nat) (w : World) :
    Calls Try.prog 15 #[.pointer none, .int .i64 i, .int .u64 v] w fun e w' => e = .returned (.int .i64 1) ∧ w = w' := by
  go_enter Try.func15, Try.ntmps15
  go_wp2_with fail
  refine (has_nil i _).mono ?_
  rintro e w' ⟨rfl, rfl⟩
  go_wp2
  go_ret
  exact ⟨rfl, rfl⟩

theorem words_nil (w : World) : Calls Try.prog 17 #[.pointer none] w fun e w' => e = .returned (.slice none 0 0) ∧ w = w' := by
  go_enter Try.func17, Try.ntmps17
  go_wp2
  go_ret
  exact ⟨rfl, rfl⟩
set_option maxHeartbeats 400000 in
theorem words_any (w : World) (h : Raw w bv bw wd n ws) : Calls Try.prog 17 #[.pointer (some ⟨bv, 0, none⟩)] w fun e w' => e = .returned (.slice (some ⟨w.heap.size, 0, none⟩) ws.length ws.length) ∧ Ow w' w.heap.size ws.length ws ∧ Ch (fun _ => False) w w' := by
  obtain ⟨h0, h1, h2⟩ := cells3 h.blk
  have hlen := h.words_short
  have hmk := run_mk2 elem64 ws.length (by omega) (by omega)
  have hm := ow_made w ws.length hlen
  have hC : Ch (fun _ => False) w (w.alloc (.cells (madeCells #[.int .u64 0] ws.length) 25)) := (Ch.refl _ w).alloc _
  have hr := (h.keep hC).ow.sn.vs
  obtain ⟨_, _, k2⟩ := cells3 (h.keep hC).blk
  have hown := hm.own
  rw [List.length_replicate] at hown
  have HR := Bx.mk hr
  have HO := Bx.mk hown
  have HC := Bx.mk hC
  have H := Bx.mk h
  clear h hm hC hr hown
  go_enter Try.func17, Try.ntmps17
  go_wp2_with (refine wp_copy (o := ⟨some 17, _, _, _, _, _⟩) rfl (.tmp 12) (.tmp 16) elem64 rfl rfl HO.out rfl HR.out ?c1 ?_)
  case c1 => exact nats_cells ws
  intro w2 hown2 hC2
  have HO2 := Bx.mk hown2
  have HC2 := Bx.mk (HC.out.trans hC2 (fun i hi (e : i = w.heap.size) => absurd hi (by omega)))
  clear hown2 hC2
  go_wp2
  go_ret
  exact ⟨rfl, ⟨HO2.out⟩, HC2.out⟩
end
end Go.Proofs.Ytknmhhccemojiaa
