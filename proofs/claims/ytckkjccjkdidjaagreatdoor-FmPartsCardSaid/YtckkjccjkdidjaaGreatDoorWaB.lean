/-
  How Vectors are made: blank, set, count, New, Of, Flip.
-/
/-
  A Vector made: what a maker leaves; set and blank as makers call them.
-/
/-
  The contract of bits.Of.
-/
import Derived.Test.YtckkjccjkdidjaaGreatDoorWaA
import Derived.RegionTactic
import Derived.ChangeAlike
import Derived.StillTailTactics
namespace Go.Proofs.YtckkjccjkdidjaaGreatDoor.W
open Go.RowKit Go.Oct Go.Bi

/-- A Vector under way: n bits, the words ws in block bw, the counts v. -/
structure Raw (w : World) (bv bw n : Nat) (v : Value) (ws : List Nat) : Prop where
  blk : w.heap[bv]? = some (.cells #[.int .i64 n, .slice (some ⟨bw, 0, none⟩) ws.length ws.length, v] 95 (0, 0))
  own : w.ownsRow 0 88 1 (.slice (some ⟨bw, 0, none⟩) ws.length ws.length) ws.length (ws.map fun x : Nat => Value.int .u64 x)
  ne : bv ≠ bw
  most : n ≤ 1048576
  len : ws.length = (n + 63) / 64

theorem cells3 {w : World} {b : Nat} {u v x : Value} {t : TypeId} (h : w.heap[b]? = some (.cells #[u, v, x] t (0, 0))) :
    w.cell? ⟨b, 0, none⟩ = some u ∧ w.cell? ⟨b, 1, none⟩ = some v ∧ w.cell? ⟨b, 2, none⟩ = some x ∧ w.frozen? ⟨b, 2, none⟩ = false := by
  simp [World.cell?, World.frozen?, h]

theorem Raw.ch {w w' : World} {S : Nat → Prop} {bv bw n : Nat} {v : Value} {ws : List Nat} (h : Raw w bv bw n v ws) (hc : Ch S w w') (h1 : ¬ S bv) (h2 : ¬ S bw) : Raw w' bv bw n v ws :=
  ⟨by rw [hc.block bv (Array.getElem?_eq_some_iff.1 h.blk).1 h1]; exact h.blk, hc.own h.own (fun g hg => by simp [Value.ownBlock] at hg; subst hg; exact h2), h.ne, h.most, h.len⟩

theorem elem64 : Elem Tryz.prog 93 88 (.int .u64 0) 8 := ⟨Tryz.underlying93, by kernel_rfl, rfl⟩
theorem elemI : Elem Tryz.prog 23 3 (.int .i64 0) 8 := ⟨Tryz.underlying23, by kernel_rfl, rfl⟩
/-- make of a length. -/
theorem run_mk2 {P : Program} {t e : TypeId} {z : Value} {bytes : Nat} (T : Elem P t e z bytes) (L : Nat) (hb : bytes * L ≤ 281474976710656) (h63 : L ≤ 281474976710656) (w : World) :
    (Instr.makeSlice t (.int .i64 (L : Int)) (.int .i64 (L : Int))).run P w = .ok (.slice (some ⟨w.heap.size, 0, none⟩) L L) (w.alloc (.cells (madeCells z.cells L) e)) := by
  obtain ⟨i, hi, hz, hs, hby⟩ := info_parts T.info
  have hb' : (i.bytes : Int) * (L : Int) ≤ 281474976710656 := by
    rw [hby]
    have h : ((bytes * L : Nat) : Int) ≤ 281474976710656 := by omega
    rwa [Int.natCast_mul] at h
  have hr := run_make (P := P) w t e i z T.t hi hz .i64 .i64 L L (by omega) (by omega) hb' (by omega)
  simp only [Int.toNat_natCast, hs, Nat.mul_one] at hr
  exact hr

theorem made_list (z : Value) (n : Nat) : (madeCells #[z] n).toList = List.replicate n z := by
  apply List.ext_getElem
  · simp [madeCells]
  · intro i h1 h2
    simp [madeCells, Nat.mod_one]
set_option maxHeartbeats 400000 in
theorem blank_any (n : Nat) (w : World) (hn : n ≤ 1048576) :
    Calls Tryz.prog 86 #[.int .i64 n] w fun e w' => e = .returned (.pointer (some ⟨w.heap.size + 1, 0, none⟩)) ∧ Raw w' (w.heap.size + 1) w.heap.size n (.slice none 0 0) (List.replicate ((n + 63) / 64) 0) ∧ Ch (fun _ => False) w w' := by
  have hmk := run_mk2 elem64 ((n + 63) / 64) (by omega) (by omega)
  rw [show (((n + 63) / 64 : Nat) : Int) = ((n : Int) + 64 - 1) / 64 by omega] at hmk
  go_enter Tryz.func86, Tryz.ntmps86
  go_wp2
  go_ret
  refine ⟨rfl, ⟨?_, ?_, by omega, hn, by simp⟩, (((Ch.refl _ w).alloc _).alloc _)⟩
  · rw [List.length_replicate]
    have := heap_alloc_new (w.alloc (.cells (madeCells #[.int .u64 0] ((n + 63) / 64)) 88)) (.cells #[.int .i64 n, .slice (some ⟨w.heap.size, 0, none⟩) ((n + 63) / 64) ((n + 63) / 64), .slice none 0 0] 95)
    rwa [World.size_alloc] at this
  · rw [List.length_replicate]
    have h := World.ownsRow_lit (base := 0) (e := 88) (size := 1) w (madeCells #[.int .u64 0] ((n + 63) / 64)) ((n + 63) / 64) (Nat.zero_le _) (by unfold maxLen; omega) (by simp [madeCells])
    have e : (madeCells #[Value.int .u64 0] ((n + 63) / 64)).toList = (List.replicate ((n + 63) / 64) 0).map fun x : Nat => Value.int .u64 x := by rw [made_list]; simp
    rw [e] at h
    exact h.alloc _

/-- A bit's store. -/
theorem Raw.stored {w : World} {bv bw n : Nat} {v : Value} {ws : List Nat} (h : Raw w bv bw n v ws) (j x : Nat) : Raw (w.setCell ⟨bw, j, none⟩ (.int .u64 x)) bv bw n v (ws.set j x) ∧ Ch (fun k => k = bw) w (w.setCell ⟨bw, j, none⟩ (.int .u64 x)) := by
  have hC : Ch (fun k => k = bw) w (w.setCell ⟨bw, j, none⟩ (.int .u64 x)) := (Ch.refl (fun k => k = bw) w).setCell (p := ⟨bw, j, none⟩) (.inl rfl) _
  obtain ⟨ho, _⟩ := h.own.stored j (.int .u64 x)
  refine ⟨⟨?_, ?_, h.ne, h.most, by rw [List.length_set]; exact h.len⟩, hC⟩
  · rw [List.length_set, hC.block bv (Array.getElem?_eq_some_iff.1 h.blk).1 h.ne]
    exact h.blk
  · rw [List.length_set, List.map_set]
    exact ho
theorem Raw.cellAt {w : World} {bv bw n : Nat} {v : Value} {ws : List Nat} (h : Raw w bv bw n v ws) {j : Nat} (hj : j < ws.length) : w.cell? ⟨bw, j, none⟩ = some (.int .u64 (ws.getD j 0 : Nat)) := by
  have := h.own.cellAt j (by omega)
  rw [List.getElem?_map, List.getElem?_eq_getElem hj] at this
  rw [this, List.getD_eq_getElem?_getD, List.getElem?_eq_getElem hj]
  rfl
theorem Raw.frozenAt {w : World} {bv bw n : Nat} {v : Value} {ws : List Nat} (h : Raw w bv bw n v ws) (j : Nat) : w.frozen? ⟨bw, j, none⟩ = false := h.own.frozenAt j
theorem Raw.drewN {w : World} {bv bw n : Nat} {v : Value} {ws : List Nat} (h : Raw w bv bw n v ws) (m : Nat) : Raw (w.drewN m) bv bw n v ws := h.ch ((Ch.refl (fun _ => False) w).drewN m) (fun h => h) (fun h => h)

theorem rlen (bv bw n : Nat) (v : Value) (ws : List Nat) (w : World) (h : Raw w bv bw n v ws) : Calls Tryz.prog 67 #[.pointer (some ⟨bv, 0, none⟩)] w fun e w' => e = .returned (.int .i64 n) ∧ w = w' := by
  obtain ⟨h0, _⟩ := cells3 h.blk
  have H := Bx.mk h
  clear h
  go_enter Tryz.func67, Tryz.ntmps67
  go_wp2
  go_ret
  exact ⟨rfl, rfl⟩
theorem rhas_in (bv bw n : Nat) (v : Value) (ws : List Nat) (i : Nat) (w : World) (h : Raw w bv bw n v ws) (hi : i < n) : Calls Tryz.prog 94 #[.pointer (some ⟨bv, 0, none⟩), .int .i64 i] w fun e w' => e = .returned (.bool true) ∧ w = w' := by
  have H := Bx.mk h
  clear h
  go_enter Tryz.func94, Tryz.ntmps94
  go_wp2_with (go_at_call 67; refine (rlen bv bw n v ws _ H.out).mono ?_; rintro e w' ⟨rfl, rfl⟩)
  go_ret
  exact ⟨rfl, rfl⟩
theorem rhas_out (bv bw n : Nat) (v : Value) (ws : List Nat) (i : Int) (w : World) (h : Raw w bv bw n v ws) (hi : i < 0 ∨ (n : Int) ≤ i) : Calls Tryz.prog 94 #[.pointer (some ⟨bv, 0, none⟩), .int .i64 i] w fun e w' => e = .returned (.bool false) ∧ w = w' := by
  have H := Bx.mk h
  clear h
  rcases hi with hi | hi
  · go_enter Tryz.func94, Tryz.ntmps94
    go_wp2
    go_ret
    exact ⟨rfl, rfl⟩
  · have hi0 : 0 ≤ i := by omega
    go_enter Tryz.func94, Tryz.ntmps94
    go_wp2_with (go_at_call 67; refine (rlen bv bw n v ws _ H.out).mono ?_; rintro e w' ⟨rfl, rfl⟩)
    go_ret
    exact ⟨ret_bool (by simp; omega), rfl⟩
theorem set_out (bv bw n : Nat) (v : Value) (ws : List Nat) (i : Int) (w : World) (h : Raw w bv bw n v ws) (hi : i < 0 ∨ (n : Int) ≤ i) : Calls Tryz.prog 87 #[.pointer (some ⟨bv, 0, none⟩), .int .i64 i] w fun e w' => e = .returned (.tuple #[]) ∧ w = w' := by
  have H := Bx.mk h
  clear h
  go_enter Tryz.func87, Tryz.ntmps87
  go_wp2_with (go_at_call 94; refine (rhas_out bv bw n v ws i _ H.out hi).mono ?_; rintro e w' ⟨rfl, rfl⟩)
  go_returns
  exact ⟨rfl, rfl⟩

theorem or_bit {x j : Nat} (hx : x < 18446744073709551616) (hj : j < 64) : bits .or .u64 (x : Int) (IntKind.u64.wrap (2 ^ j)) = ((x ||| 2 ^ j : Nat) : Int) := by
  have h2 : 2 ^ j < 18446744073709551616 := Nat.pow_lt_pow_right (a := 2) (n := 64) (by omega) hj
  have e : IntKind.u64.wrap (2 ^ j) = ((2 ^ j : Nat) : Int) := by
    rw [show (2 : Int) ^ j = ((2 ^ j : Nat) : Int) by push_cast; rfl, wrap_nat, Nat.mod_eq_of_lt h2]
  rw [e, bits_or_u64_nat x (2 ^ j) hx h2]
set_option maxHeartbeats 400000 in
theorem set_in (bv bw n : Nat) (v : Value) (ws : List Nat) (i : Nat) (w : World) (h : Raw w bv bw n v ws) (hi : i < n) (hx : ws.getD (i / 64) 0 < 18446744073709551616) : Calls Tryz.prog 87 #[.pointer (some ⟨bv, 0, none⟩), .int .i64 i] w fun e w' => e = .returned (.tuple #[]) ∧ Raw w' bv bw n v (ws.set (i / 64) (ws.getD (i / 64) 0 ||| 2 ^ (i % 64))) ∧ Ch (fun k => k = bw) w w' := by
  have H := Bx.mk h
  have hm := h.most
  have hl := h.len
  obtain ⟨h0, h1, h2, h3⟩ := cells3 h.blk
  have hlw : i / 64 < ws.length := by omega
  have hc := h.cellAt hlw
  have hf := h.frozenAt (i / 64)
  have hs := h.stored (i / 64) (ws.getD (i / 64) 0 ||| 2 ^ (i % 64))
  have hor := or_bit (j := i % 64) hx (by omega)
  generalize ws.getD (i / 64) 0 = x at *
  obtain ⟨y, hy⟩ : ∃ y, x ||| 2 ^ (i % 64) = y := ⟨_, rfl⟩
  rw [hy] at hs hor
  rw [hy]
  have HS := Bx.mk hs
  clear h hl hs hy
  go_enter Tryz.func87, Tryz.ntmps87
  go_wp2_with (go_at_call 94; refine (rhas_in bv bw n v ws i _ H.out hi).mono ?_; rintro e w' ⟨rfl, rfl⟩)
  go_region
  all_goals
    go_wp2
    go_returns
    exact ⟨rfl, HS.out.1.ch ((Ch.refl (fun _ => False) _).drew) (fun h => h) (fun h => h), HS.out.2.drew⟩

/-- A Vector under way with its counts in block ba. -/
structure Cnt (w : World) (bv bw ba n m : Nat) (ws us : List Nat) : Prop where
  raw : Raw w bv bw n (.slice (some ⟨ba, 0, none⟩) m m) ws
  own : w.ownsRow 0 3 1 (.slice (some ⟨ba, 0, none⟩) m m) m (us.map fun x : Nat => Value.int .i64 x)
  ne1 : ba ≠ bv
  ne2 : ba ≠ bw
theorem Cnt.ch {w w' : World} {S : Nat → Prop} {bv bw ba n m : Nat} {ws us : List Nat} (h : Cnt w bv bw ba n m ws us) (hc : Ch S w w') (h1 : ¬ S bv) (h2 : ¬ S bw) (h3 : ¬ S ba) : Cnt w' bv bw ba n m ws us :=
  ⟨h.raw.ch hc h1 h2, hc.own h.own (fun g hg => by simp [Value.ownBlock] at hg; subst hg; exact h3), h.ne1, h.ne2⟩
theorem Cnt.len {w : World} {bv bw ba n m : Nat} {ws us : List Nat} (h : Cnt w bv bw ba n m ws us) : us.length = m := by simpa using h.own.1
theorem Cnt.stored {w : World} {bv bw ba n m : Nat} {ws us : List Nat} (h : Cnt w bv bw ba n m ws us) (j x : Nat) : Cnt (w.setCell ⟨ba, j, none⟩ (.int .i64 x)) bv bw ba n m ws (us.set j x) ∧ Ch (fun k => k = ba) w (w.setCell ⟨ba, j, none⟩ (.int .i64 x)) := by
  have hC : Ch (fun k => k = ba) w (w.setCell ⟨ba, j, none⟩ (.int .i64 x)) := (Ch.refl (fun k => k = ba) w).setCell (p := ⟨ba, j, none⟩) (.inl rfl) _
  obtain ⟨ho, _⟩ := h.own.stored j (.int .i64 x)
  refine ⟨⟨h.raw.ch hC (fun e => h.ne1 e.symm) (fun e => h.ne2 e.symm), ?_, h.ne1, h.ne2⟩, hC⟩
  rw [List.map_set]
  exact ho
theorem Cnt.cellAt {w : World} {bv bw ba n m : Nat} {ws us : List Nat} (h : Cnt w bv bw ba n m ws us) {j : Nat} (hj : j < m) : w.cell? ⟨ba, j, none⟩ = some (.int .i64 (us.getD j 0 : Nat)) := by
  have hl := h.len
  have := h.own.cellAt j (by omega)
  rw [List.getElem?_map, List.getElem?_eq_getElem (by omega)] at this
  rw [this, List.getD_eq_getElem?_getD, List.getElem?_eq_getElem (by omega)]
  rfl

/-- The counts ahead of the first k words, and noughts. -/
def upTo (ws : List Nat) (k : Nat) : List Nat := (List.range (ws.length + 1)).map fun i => if i ≤ k then cum ws i else 0
theorem upTo_zero (ws : List Nat) : upTo ws 0 = List.replicate (ws.length + 1) 0 := by
  apply List.ext_getElem
  · simp [upTo]
  · intro i h1 h2
    simp only [upTo, List.getElem_map, List.getElem_range, List.getElem_replicate]
    split
    · obtain rfl : i = 0 := by omega
      rfl
    · rfl
theorem upTo_at (ws : List Nat) {k : Nat} (h : k ≤ ws.length) : (upTo ws k).getD k 0 = cum ws k := by
  simp [upTo, List.getD_eq_getElem?_getD, List.getElem?_range (show k < ws.length + 1 by omega)]
theorem upTo_succ (ws : List Nat) {k : Nat} (h : k < ws.length) : (upTo ws k).set (k + 1) (cum ws k + pop 64 (ws.getD k 0)) = upTo ws (k + 1) := by
  apply List.ext_getElem
  · simp [upTo]
  · intro i h1 h2
    rw [List.getElem_set]
    simp only [upTo, List.getElem_map, List.getElem_range]
    by_cases e : k + 1 = i
    · subst e
      rw [if_pos rfl, if_pos (Nat.le_refl _), cum_succ h]
    · rw [if_neg e]
      by_cases e2 : i ≤ k
      · rw [if_pos e2, if_pos (by omega)]
      · rw [if_neg e2, if_neg (by omega)]
theorem upTo_all (ws : List Nat) : upTo ws ws.length = ahd ws := by
  apply List.ext_getElem
  · simp [upTo, ahd]
  · intro i h1 h2
    simp only [upTo, ahd, List.getElem_map, List.getElem_range]
    simp [upTo] at h1
    rw [if_pos (by omega)]

set_option maxRecDepth 100000 in
set_option maxHeartbeats 1000000 in
theorem count_any (bv bw n : Nat) (v : Value) (ws : List Nat) (w : World) (h : Raw w bv bw n v ws) (hx : ∀ k, ws.getD k 0 < 18446744073709551616) :
    Calls Tryz.prog 88 #[.pointer (some ⟨bv, 0, none⟩)] w fun e w' => e = .returned (.tuple #[]) ∧ Cnt w' bv bw w.heap.size n (ws.length + 1) ws (ahd ws) ∧ Ch (fun k => k = bv) w w' := by
  have H := Bx.mk h
  have hm := h.most
  have hl := h.len
  have hwl : ws.length ≤ 1048576 := by omega
  obtain ⟨h0, h1, h2, h3⟩ := cells3 h.blk
  have hbl := (Array.getElem?_eq_some_iff.1 h.blk).1
  have hmk := run_mk2 elemI (ws.length + 1) (by omega) (by omega)
  rw [show ((ws.length + 1 : Nat) : Int) = (ws.length : Int) + 1 by omega] at hmk
  have HX := Bx.mk hx
  have hst : Cnt ((w.setCell ⟨bv, 2, none⟩ (.slice (some ⟨w.heap.size, 0, none⟩) (ws.length + 1) (ws.length + 1))).alloc (.cells (madeCells #[.int .i64 0] (ws.length + 1)) 3)) bv bw w.heap.size n (ws.length + 1) ws (upTo ws 0) ∧
      Ch (fun k => k = bv) w ((w.setCell ⟨bv, 2, none⟩ (.slice (some ⟨w.heap.size, 0, none⟩) (ws.length + 1) (ws.length + 1))).alloc (.cells (madeCells #[.int .i64 0] (ws.length + 1)) 3)) := by
    have hC1 : Ch (fun k => k = bv) w (w.setCell ⟨bv, 2, none⟩ (.slice (some ⟨w.heap.size, 0, none⟩) (ws.length + 1) (ws.length + 1))) := (Ch.refl (fun k => k = bv) w).setCell (p := ⟨bv, 2, none⟩) (.inl rfl) _
    have hsz : (w.setCell ⟨bv, 2, none⟩ (.slice (some ⟨w.heap.size, 0, none⟩) (ws.length + 1) (ws.length + 1))).heap.size = w.heap.size := by simp [World.setCell]
    have hbw : bw < w.heap.size := (h.own.lt bw rfl).2
    refine ⟨⟨⟨?_, ?_, h.ne, h.most, h.len⟩, ?_, by omega, by omega⟩, hC1.alloc _⟩
    · rw [Below.heap_alloc _ _ _ (by omega)]
      simp [World.setCell, Array.getElem?_modify, h.blk]
    · exact (hC1.own h.own (fun g hg => by simp [Value.ownBlock] at hg; subst hg; exact fun e => h.ne e.symm)).alloc _
    · rw [upTo_zero]
      have hr := World.ownsRow_lit (base := 0) (e := 3) (size := 1) (w.setCell ⟨bv, 2, none⟩ (.slice (some ⟨w.heap.size, 0, none⟩) (ws.length + 1) (ws.length + 1))) (madeCells #[.int .i64 0] (ws.length + 1)) (ws.length + 1) (Nat.zero_le _) (by unfold maxLen; omega) (by simp [madeCells])
      rw [made_list, hsz] at hr
      rw [List.map_replicate]
      exact hr
  have HST := Bx.mk hst
  clear h hl hx hst
  go_enter Tryz.func88, Tryz.ntmps88
  go_wp2
  clear hmk
  go_loopw [2, 3, 19] (fun _ _ i wr => ∃ k : Nat, k ≤ ws.length ∧ i = .int .i64 k ∧ Cnt wr bv bw w.heap.size n (ws.length + 1) ws (upTo ws k) ∧ Ch (fun k => k = bv) w wr) (fun _ _ i _ => ws.length - (intOf i).toNat)
  case atStart => exact ⟨0, Nat.zero_le _, rfl, HST.out.1, HST.out.2⟩
  case round =>
    obtain ⟨k, hk, rfl, hc, hC⟩ := hrel
    by_cases hlt : k < ws.length
    · obtain ⟨wo, rfl⟩ : ∃ wo : World, wo = wr := ⟨_, rfl⟩
      have hcw := hc.raw.cellAt hlt
      have hcu := hc.cellAt (j := k) (by omega)
      have hcu2 := hc.cellAt (j := k + 1) (by omega)
      generalize (upTo ws k).getD (k + 1) 0 = u2 at hcu2
      have hul : (upTo ws k).getD k 0 ≤ 64 * k := by rw [upTo_at ws hk]; exact cum_le ws k
      have hst := hc.stored (k + 1) ((upTo ws k).getD k 0 + pop 64 (ws.getD k 0))
      have hfz := hc.own.frozenAt (k + 1)
      obtain ⟨g0, g1, g2, g3⟩ := cells3 hc.raw.blk
      have hxk := HX.out k
      have hsu : (upTo ws k).set (k + 1) ((upTo ws k).getD k 0 + pop 64 (ws.getD k 0)) = upTo ws (k + 1) := by rw [upTo_at ws hk]; exact upTo_succ ws hlt
      rw [hsu] at hst
      generalize ws.getD k 0 = x at *
      generalize (upTo ws k).getD k 0 = u at *
      have hq64 := pop_le 64 x
      obtain ⟨q, hq⟩ : ∃ q, pop 64 x = q := ⟨_, rfl⟩
      rw [hq] at hst hq64
      have HQ := Bx.mk hq
      have HSS := Bx.mk hst
      have HCH := Bx.mk hC
      clear hc hC hst hsu hq
      go_wp2
      have hw1 : IntKind.i64.wrap ((k : Int) + 1) = (k : Int) + 1 := IntWalk.i64_in _ (by omega)
      have hw2 : ((k : Int) + 1).toNat = k + 1 := by omega
      have hw3 : 0 ≤ (k : Int) + 1 := by omega
      have hw5 : (k : Int) < (ws.length : Int) + 1 := by omega
      have hw6 : (k : Int) + 1 < (ws.length : Int) + 1 := by omega
      have hw4 : IntKind.i64.wrap ((u : Int) + (q : Int)) = ((u + q : Nat) : Int) := by rw [IntWalk.i64_in _ (by omega)]; omega
      refine wp_region_still_tail 17 (by kernel_rfl) (by kernel_rfl) ?_
      simp only [List.take_succ_cons, List.take_zero, List.drop_succ_cons, List.drop_zero]
      repeat still_step
      still_call ((ones_is x q _ hxk HQ.out).mono fun _ _ h => ⟨h.1, h.2.symm⟩)
      repeat still_step
      refine wpStill_nil ?_
      clear hw1 hw2 hw3 hw4 hw5 hw6
      change wpList _ _ _ _ _ wo.drew
      go_wp2
      go_roundw
      case rel =>
        have h1 := HSS.out
        rw [Int.natCast_add] at h1
        exact ⟨k + 1, by omega, by go_num, h1.1.ch ((Ch.refl (fun _ => False) _).drew) (fun h => h) (fun h => h) (fun h => h), (HCH.out.trans h1.2 (fun i hi (e : i = w.heap.size) => absurd hi (by omega))).drew⟩
      case measure => simp [intOf]; omega
    · obtain rfl : k = ws.length := by omega
      rw [upTo_all] at hc
      go_wp2
      go_returns
      exact ⟨rfl, hc, hC⟩
end Go.Proofs.YtckkjccjkdidjaaGreatDoor.W

namespace Go.Proofs.YtckkjccjkdidjaaGreatDoor.W
open Go.RowKit Go.Oct Go.Bi

theorem vec_of {w : World} {F : Nat → Prop} {bv bw ba n m : Nat} {ws : List Nat} {l : List Bool} (h : Cnt w bv bw ba n m ws (ahd ws)) (hw : Wd ws l) (hl : l.length = n) (h1 : F bv) (h2 : F bw) (h3 : F ba) : Vec w F bv l := by
  obtain ⟨c0, c1, c2, _⟩ := cells3 h.raw.blk
  have hm := h.len
  have hmost := h.raw.most
  have vw := Vs.of_own h.raw.own
  have va := Vs.of_own h.own
  refine ⟨some ⟨bw, 0, none⟩, some ⟨ba, 0, none⟩, ws.length, m, ws, ahd ws, by rw [hl]; exact c0, c1, by rw [hm]; exact c2, h1, ?_, ?_, by omega, hw, ah_cum hw (by omega)⟩
  · have := vw.mono (G := F) fun b _ hb => by simp [Value.ownBlock] at hb; subst hb; exact h2
    unfold Sn Sl
    rwa [List.map_map]
  · have := va.mono (G := F) fun b _ hb => by simp [Value.ownBlock] at hb; subst hb; exact h3
    unfold Sn Sl
    rw [List.map_map, hm]
    exact this

/-- What a maker leaves: a new Vector that is the row l. -/
def Made (l : List Bool) (w : World) (e : Ending) (w' : World) : Prop := ∃ bv : Nat, e = .returned (.pointer (some ⟨bv, 0, none⟩)) ∧ Vec w' (fun k => w.heap.size ≤ k) bv l ∧ Ch (fun _ => False) w w'

/-- A row with a 1 at a place, if there is one. -/
def put1 (l : List Bool) (i : Int) : List Bool := if 0 ≤ i ∧ i < l.length then l.set i.toNat true else l
theorem put1_len (l : List Bool) (i : Int) : (put1 l i).length = l.length := by
  unfold put1
  split <;> simp
/-- .. with a 1 at each of many. -/
def puts (l : List Bool) (xs : List Int) : List Bool := xs.foldl put1 l
theorem puts_len (l : List Bool) (xs : List Int) : (puts l xs).length = l.length := by
  induction xs generalizing l with
  | nil => rfl
  | cons x xs ih => exact (ih _).trans (put1_len l x)
theorem puts_next {l : List Bool} {xs : List Int} {k : Nat} {x : Int} (h : xs[k]? = some x) : puts l (xs.take (k + 1)) = put1 (puts l (xs.take k)) x := by
  unfold puts
  rw [List.take_add_one, h, List.foldl_append]
  rfl
/-- set, whatever the place. -/
theorem set_any (bv bw n : Nat) (v : Value) (ws : List Nat) (l : List Bool) (i : Int) (w : World) (h : Raw w bv bw n v ws) (hw : Wd ws l) (hl : l.length = n) :
    Calls Tryz.prog 87 #[.pointer (some ⟨bv, 0, none⟩), .int .i64 i] w fun e w' => e = .returned (.tuple #[]) ∧ (∃ ws', Raw w' bv bw n v ws' ∧ Wd ws' (put1 l i)) ∧ Ch (fun k => k = bw) w w' := by
  by_cases hi : 0 ≤ i ∧ i < l.length
  · obtain ⟨j, rfl⟩ : ∃ j : Nat, i = j := ⟨i.toNat, by omega⟩
    refine (set_in bv bw n v ws j w h (by omega) (hw.lt _)).mono fun e w' ⟨h1, h2, h3⟩ => ⟨h1, ⟨_, h2, ?_⟩, h3⟩
    unfold put1
    rw [if_pos hi]
    exact wd_set hw (by omega)
  · refine (set_out bv bw n v ws i w h (by omega)).mono fun e w' ⟨h1, h2⟩ => ⟨h1, ⟨ws, by rw [← h2]; exact h, ?_⟩, by rw [← h2]; exact Ch.refl _ _⟩
    unfold put1
    rw [if_neg hi]
    exact hw

theorem blank_is (N : Nat) (z : Int) (w : World) (hn : N ≤ 1048576) (hz : z = N) :
    Calls Tryz.prog 86 #[.int .i64 z] w fun e w' => e = .returned (.pointer (some ⟨w.heap.size + 1, 0, none⟩)) ∧ Raw w' (w.heap.size + 1) w.heap.size N (.slice none 0 0) (List.replicate ((N + 63) / 64) 0) ∧ Ch (fun _ => False) w w' := by
  subst hz
  exact blank_any N w hn
end Go.Proofs.YtckkjccjkdidjaaGreatDoor.W

namespace Go.Proofs.YtckkjccjkdidjaaGreatDoor.W
open Go.RowKit Go.Oct Go.Bi

/-- A slice that reads as bits. -/
abbrev Sb (w : World) (F : Nat → Prop) (A : Option Addr) (n : Nat) (l : List Bool) : Prop := Vs w F A n (l.map Value.bool)
theorem Sb.len {w : World} {F : Nat → Prop} {A : Option Addr} {n : Nat} {l : List Bool} (h : Sb w F A n l) : l.length = n := by simpa using h.1
theorem Sb.at_ {w : World} {F : Nat → Prop} {A : Option Addr} {n : Nat} {l : List Bool} (h : Sb w F A n l) {k : Nat} (hk : k < n) : ∃ b off, A = some ⟨b, off, none⟩ ∧ F b ∧ w.cell? ⟨b, off + k, none⟩ = some (.bool (l.getD k false)) := by
  obtain ⟨b, off, u, e, hb, hu, hc⟩ := Vs.at_ h hk
  have hl := Sb.len h
  have := hu.out
  rw [List.getElem?_map, List.getElem?_eq_getElem (by omega)] at this
  refine ⟨b, off, e, hb, ?_⟩
  rw [hc, List.getD_eq_getElem?_getD, List.getElem?_eq_getElem (by omega)]
  simp at this
  simp [this]

/-- The first k bits, and noughts. -/
def ofUp (l : List Bool) (k : Nat) : List Bool := (List.range l.length).map fun i => if i < k then l.getD i false else false
theorem ofUp_zero (l : List Bool) : ofUp l 0 = List.replicate l.length false := by
  apply List.ext_getElem
  · simp [ofUp]
  · intro i h1 h2
    simp [ofUp]
theorem ofUp_all (l : List Bool) : ofUp l l.length = l := by
  apply List.ext_getElem
  · simp [ofUp]
  · intro i h1 h2
    simp only [ofUp, List.getElem_map, List.getElem_range]
    rw [if_pos h2, List.getD_eq_getElem?_getD, List.getElem?_eq_getElem h2]
    rfl
theorem ofUp_len (l : List Bool) (k : Nat) : (ofUp l k).length = l.length := by simp [ofUp]
theorem ofUp_no {l : List Bool} {k : Nat} (h : l.getD k false = false) : ofUp l k = ofUp l (k + 1) := by
  apply List.ext_getElem
  · simp [ofUp]
  · intro i h1 h2
    simp only [ofUp, List.getElem_map, List.getElem_range]
    by_cases e : i = k
    · subst e
      rw [if_neg (by omega), if_pos (by omega), h]
    · by_cases e2 : i < k
      · rw [if_pos e2, if_pos (by omega)]
      · rw [if_neg e2, if_neg (by omega)]
theorem ofUp_yes {l : List Bool} {k : Nat} (hk : k < l.length) (h : l.getD k false = true) : put1 (ofUp l k) k = ofUp l (k + 1) := by
  unfold put1
  rw [if_pos ⟨by omega, by rw [ofUp_len]; omega⟩]
  apply List.ext_getElem
  · simp [ofUp]
  · intro i h1 h2
    rw [List.getElem_set]
    simp only [ofUp, List.getElem_map, List.getElem_range, Int.toNat_natCast]
    by_cases e : k = i
    · subst e
      rw [if_pos rfl, if_pos (by omega), h]
    · rw [if_neg e]
      by_cases e2 : i < k
      · rw [if_pos e2, if_pos (by omega)]
      · rw [if_neg e2, if_neg (by omega)]

set_option maxHeartbeats 1000000 in
theorem of_any (l : List Bool) (A : Option Addr) (N c : Nat) (w : World) (F : Nat → Prop) (hs : Sb w F A N l) (hm : N ≤ 1048576) (hc : N ≤ c) (hcm : c ≤ 9223372036854775807) :
    Calls Tryz.prog 56 #[.slice A N c] w (Made l w) := by
  have hl := Sb.len hs
  have HL := Bx.mk hl
  have HS := Bx.mk hs
  clear hl hs
  go_enter Tryz.func56, Tryz.ntmps56
  go_wp2_with fail
  refine (blank_is N _ _ hm (by omega)).mono ?_
  rintro e w1 ⟨rfl, hr, hC⟩
  obtain ⟨g0, g1, g2, g3⟩ := cells3 hr.blk
  have HR := Bx.mk hr
  have HC := Bx.mk hC
  clear hr hC
  go_wp2
  go_loopw [4, 5, 17] (fun _ _ i wr => ∃ (k : Nat) (ws : List Nat), k ≤ N ∧ i = .int .i64 k ∧ Raw wr (w.heap.size + 1) w.heap.size N (.slice none 0 0) ws ∧ Wd ws (ofUp l k) ∧ Ch (fun _ => False) w wr) (fun _ _ i _ => N - (intOf i).toNat)
  case atStart => exact ⟨0, _, Nat.zero_le _, rfl, HR.out, by rw [ofUp_zero, HL.out]; exact wd_blank N, HC.out⟩
  case round =>
    obtain ⟨k, ws, hk, rfl, hr, hw, hC⟩ := hrel
    by_cases hlt : k < N
    · obtain ⟨b, off, rfl, _, hcx⟩ := Sb.at_ (Vs.ch HS.out hC (fun _ _ _ h => h)) hlt
      have HRR := Bx.mk hr
      have HCC := Bx.mk hC
      cases hb : l.getD k false
      · rw [hb] at hcx
        rw [ofUp_no hb] at hw
        have HW := Bx.mk hw
        clear hr hw hC hb
        go_wp2
        go_roundw
        case rel => exact ⟨k + 1, ws, by omega, by go_num, HRR.out, HW.out, HCC.out⟩
        case measure => simp [intOf]; omega
      · rw [hb] at hcx
        have HY := Bx.mk (ofUp_yes (l := l) (k := k) (by rw [HL.out]; exact hlt) hb)
        have HW := Bx.mk hw
        clear hr hw hC hb
        go_wp2_with fail
        refine (set_any _ _ N _ ws _ k _ HRR.out HW.out (by rw [ofUp_len]; exact HL.out)).mono ?_
        rintro e w2 ⟨rfl, ⟨ws2, hr2, hw2⟩, hC2⟩
        rw [HY.out] at hw2
        have HR2 := Bx.mk hr2
        have HW2 := Bx.mk hw2
        have HC2 := Bx.mk (HCC.out.trans hC2 (fun i hi (e : i = w.heap.size) => absurd hi (by omega)))
        clear hr2 hw2 hC2
        go_wp2
        go_roundw
        case rel => exact ⟨k + 1, ws2, by omega, by go_num, HR2.out, HW2.out, HC2.out⟩
        case measure => simp [intOf]; omega
    · obtain rfl : k = N := by omega
      have hlk := HL.out
      subst hlk
      rw [ofUp_all] at hw
      have HW := Bx.mk hw
      have HC1 := Bx.mk hC
      have HRR := Bx.mk hr
      clear hw hC hr
      go_wp2_with fail
      refine (count_any _ _ _ _ ws _ HRR.out HW.out.lt).mono ?_
      rintro e w2 ⟨rfl, hc2, hC2⟩
      have hsz := HC1.out.size
      have HC2 := Bx.mk (HC1.out.trans hC2 (fun i hi (e : i = w.heap.size + 1) => absurd hi (by omega)))
      have HV := Bx.mk (vec_of (F := fun k => w.heap.size ≤ k) hc2 HW.out rfl (by omega) (Nat.le_refl _) hsz)
      clear hc2 hC2
      go_wp2
      go_ret
      exact ⟨_, rfl, HV.out, HC2.out⟩
end Go.Proofs.YtckkjccjkdidjaaGreatDoor.W
