/-
  Contracts of the program's table: noKey, note, bytes.Clone.
  Conditions: the map reads as it says.
-/
import Derived.Test.YtpilekadcondnaaMtTab
import Derived.Test.YtpilekadcondnaaSgRef
import Derived.Lib.SliceRun
import Derived.StillTailTactics
namespace Go.Proofs.Ytpilekadcondnaa
open Go.RowKit Go.Oct Go.Su Go.Sg Go.Mt Go.Maps

section
variable {w w' : World} {P S F : Nat → Prop} {t : Nat} {mb : Option Nat} {ks gs : List Key} {vf : Key → Value} {ds : List Dc} {k : Key} {A : Option Addr} {n c : Nat}
theorem mown_b0 (w : World) : (w.alloc (.cells #[] 5)).ownsRow 0 5 1 (.slice (some ⟨w.heap.size, 0, none⟩) 0 0) 0 [] := World.ownsRow_made w #[] 0 (Nat.zero_le _) (by unfold maxLen; omega) rfl
set_option maxRecDepth 100000 in
theorem mclone_any (xs : List Int) (A : Option Addr) (n c : Nat) (w : World) (hz : Sl w F .u8 A n xs) (hn : n ≤ 1073741824) :
    Calls Try.prog 32 #[.slice A n c] w fun e w' => ∃ v, e = .returned v ∧ Fresh w v xs w' := by
  have q22 : ∀ (w : World) (a : Option Addr) (n c n' c' : Nat), (binOp .eql 30 (.slice a n c) (.slice none n' c')).run Try.prog w = .ok (.bool a.isNone) w := fun w a n c n' c' => Lib.run_eql_slice_nil w _ _ a n c n' c' Try.underlying30
  have HZ := Bx.mk hz
  have HL := Bx.mk hz.len
  rcases A with _ | p
  · have h0 : n = 0 := by
      rcases Nat.eq_zero_or_pos n with h | h
      · exact h
      · obtain ⟨_, _, e, _⟩ := hz.2 h
        cases e
    subst h0
    obtain rfl : xs = [] := List.eq_nil_of_length_eq_zero hz.len
    clear hz HZ
    go_enter Try.func32, Try.ntmps32
    go_wp2
    go_ret
    exact ⟨_, rfl, World.ownsRow_nil _ _ _ _, fun g hg => by simp [Value.ownBlock] at hg, Ch.refl _ _⟩
  · have HF : Bx (Fresh w (.slice (some ⟨w.heap.size, 0, none⟩) 0 0) [] (w.alloc (.cells #[] 5))) := ⟨mown_b0 w, fun g hg => by simp [Value.ownBlock] at hg; omega, (Ch.refl _ _).alloc _⟩
    have HO := Bx.mk (mown_b0 w)
    have HZA := Bx.mk (HZ.out.alloc (.cells #[] 5))
    clear hz
    go_enter Try.func32, Try.ntmps32
    go_wp2_with (at_builtin; refine wp_app rfl (.tmp 5) (.tmp 6) Tb rfl rfl HO.out rfl HZA.out ?c1 ?c2 ?c3 ?_)
    case c1 => exact ints_cells _ _
    case c2 => omega
    case c3 => omega
    intro v5 w5 ho hg hb
    have HF5 := Bx.mk (HF.out.app (m := n) (zs := xs) hg (by simpa using ho) (by rw [World.size_alloc]; exact hb))
    clear ho hg hb
    go_wp2
    go_ret
    exact ⟨v5, rfl, HF5.out⟩
theorem mnokey_any (k : Key) (w : World) (hk : k.length ≤ 9223372036854775807) (o : Bool) (ho : decide (okK k) = !o) :
    Calls Try.prog 30 #[kv k] w fun e w' => e = .returned (.bool o) ∧ w = w' := by
  obtain ⟨S, hS, hz⟩ : ∃ S : ByteArray, kv k = .string S ∧ S.size = k.length := ⟨_, rfl, kv_size k⟩
  have HO := Bx.mk ho
  rw [hS]
  have HOK : Bx (okK k ↔ 1 ≤ k.length ∧ k.length ≤ 64) := ⟨Iff.rfl⟩
  clear hS ho
  have he : S.toList.isEmpty = decide (S.size = 0) := by
    rw [Lib.toList_data, Lib.size_eq]
    cases S.data.toList <;> simp
  generalize k.length = n at *
  have hN : S.toList.isEmpty = decide (n = 0) := by rw [he, hz]
  clear he
  by_cases h1 : 1 ≤ n
  · have e0 : S.toList.isEmpty = false := by rw [hN]; exact decide_eq_false (by omega)
    clear hN
    by_cases h2 : n ≤ 64
    · have e2 : decide (64 < (n : Int)) = false := decide_eq_false (by omega)
      have HB : Bx (false = o) := ⟨by
        have := HO.out
        rw [decide_eq_true (HOK.out.2 ⟨h1, h2⟩)] at this
        cases o
        · rfl
        · cases this⟩
      go_enter Try.func30, Try.ntmps30
      go_wp2_with fail
      go_ret
      exact ⟨ret_bool HB.out, rfl⟩
    · have e2 : decide (64 < (n : Int)) = true := decide_eq_true (by omega)
      have HB : Bx (true = o) := ⟨by
        have := HO.out
        rw [decide_eq_false (fun h => h2 (HOK.out.1 h).2)] at this
        cases o
        · cases this
        · rfl⟩
      go_enter Try.func30, Try.ntmps30
      go_wp2_with fail
      go_ret
      exact ⟨ret_bool HB.out, rfl⟩
  · have e0 : S.toList.isEmpty = true := by rw [hN]; exact decide_eq_true (by omega)
    clear hN
    have HB : Bx (true = o) := ⟨by
      have := HO.out
      rw [decide_eq_false (fun h => h1 (HOK.out.1 h).1)] at this
      cases o
      · cases this
      · rfl⟩
    go_enter Try.func30, Try.ntmps30
    go_wp2_with fail
    go_ret
    exact ⟨ret_bool HB.out, rfl⟩
theorem mrun_eqlIn_map (d : Nat) (t k e : TypeId) (P : Program) (w : World) (m : Option Nat) (h : P.underlying t = some (.map k e)) : (Op.equalIn (d + 1) t (.map m) (.map none)).run P w = .ok m.isNone w := by
  cases m <;> simp [Op.equalIn, run_underlying h]
set_option maxRecDepth 100000 in
theorem meql_map (w : World) (m : Option Nat) : (binOp .eql 64 (.map m) (.map none)).run Try.prog w = .ok (.bool m.isNone) w := by
  simp only [binOp]
  simp [Op.equal, Op.maxDepth, mrun_eqlIn_map 9999 _ _ _ _ w m mapT]
theorem ncells_at {w : World} {cs : Array Value} {e : TypeId} {j : Nat} {u : Value} (hu : cs[j]? = some u) : (w.alloc (.cells cs e)).cell? ⟨w.heap.size, j, none⟩ = some u := by
  unfold World.cell?
  rw [heap_alloc_new]
  exact hu
/-- What note leaves. -/
def NoteOf (t : Nat) (mb : Option Nat) (ks : List Key) (vf : Key → Value) (k : Key) (v : Value) (w w' : World) : Prop :=
  ∃ b, w'.cell? ⟨t, 0, none⟩ = some (.map (some b)) ∧ w'.frozen? ⟨t, 0, none⟩ = false ∧ b ≠ t ∧ (mb = some b ∨ (mb = none ∧ w.heap.size ≤ b)) ∧
    w'.ownsMap Try.prog 9 heldR b (put id ks k).length (mapK (put id ks k) (upd vf k v)) ∧ Ch (fun x => x = t ∨ mb = some x) w w'
theorem own_put {b m : Nat} {v : Value} (hr : RiseF id ks) (ho : w.ownsMap Try.prog 9 heldR b m ((mapK ks vf).put (.string k) (.held v))) : w.ownsMap Try.prog 9 heldR b (put id ks k).length (mapK (put id ks k) (upd vf k v)) := by
  have h1 := own_tight ho
  rw [put_canon mapLaw hr ho, size_mapK] at h1
  exact h1
set_option maxRecDepth 100000 in
set_option maxHeartbeats 4000000 in
theorem mnote_any (c0 : w.cell? ⟨t, 0, none⟩ = some (.map mb)) (z0 : w.frozen? ⟨t, 0, none⟩ = false) (hr : RiseF id ks) (h0 : mb = none → ks = []) (hs : ∀ b, mb = some b → b ≠ t ∧ w.ownsMap Try.prog 9 heldR b ks.length (mapK ks vf)) (hn : ks.length < maxLen) (hk : k.length ≤ maxLen) (f : Bool) :
    Calls Try.prog 31 #[.pointer (some ⟨t, 0, none⟩), kv k, fate f (.slice A n c)] w fun e w' => e = .returned (.tuple #[]) ∧ NoteOf t mb ks vf k (fate f (.slice A n c)) w w' := by
  have hmm := @run_makeMap Try.prog
  have hem := meql_map
  have hlt : t < w.heap.size := lt_of_cell c0
  have HKEY := Bx.mk (key_of hk)
  have hfa : fate f (.slice A n c) = .agg #[.bool f, .slice A n c] := rfl
  obtain ⟨SK, hkv⟩ : ∃ S, kv k = .string S := ⟨_, rfl⟩
  have HR := Bx.mk hr
  rw [hkv] at HKEY ⊢
  clear hk hkv hr
  obtain ⟨w1, hw1⟩ : ∃ w1, w.alloc (.cells #[.bool f, .slice A n c] 69) = w1 := ⟨_, rfl⟩
  have HCA : Bx (Ch (fun _ => False) w w1) := ⟨by rw [← hw1]; exact (Ch.refl _ _).alloc _⟩
  cases mb with
  | some b =>
    obtain ⟨hbt, ho⟩ := hs b rfl
    have ho1 : w1.drew.ownsMap Try.prog 9 heldR b ks.length (mapK ks vf) := own_map_ch (own_map_ch ho HCA.out (fun h => h)) (Ch.refl (fun _ => False) w1).drew (fun h => h)
    obtain ⟨w2, hup, ho2, hg2⟩ := ho1.update (val := fate f (.slice A n c)) (d := .held (fate f (.slice A n c))) (ps := []) mapLaw mapT hn HKEY.out rfl
    have hup' : (Instr.mapUpdate 64 (.map (some b)) (.string SK) (.agg #[.bool f, .slice A n c])).run Try.prog w1.drew = .ok () w2 := hup
    have HC : Bx (Ch (fun i => i = b) w1.drew w2) := ⟨⟨hg2.os, hg2.tape, hg2.output, hg2.size, fun i hi hn => hg2.block i hi (fun e => hn (by injection e))⟩⟩
    have HO := Bx.mk (own_put HR.out ho2)
    have c01 := HCA.out.cell (p := ⟨t, 0, none⟩) (fun h => h) c0
    have hc0 : Ch (fun x => x = t ∨ some b = some x) w w1.drew := HCA.out.drew.mono (fun _ _ h => h.elim)
    have HB : Bx (NoteOf t (some b) ks vf k (fate f (.slice A n c)) w w2) := ⟨b, by
      exact HC.out.cell (p := ⟨t, 0, none⟩) hbt.symm (((Ch.refl (fun _ => False) w1).drew).cell (fun h => h) c01), by
      rw [HC.out.frozen (p := ⟨t, 0, none⟩) hbt.symm (Nat.lt_of_lt_of_le hlt HCA.out.size), ((Ch.refl (fun _ => False) w1).drew).frozen (p := ⟨t, 0, none⟩) (fun h => h) (Nat.lt_of_lt_of_le hlt HCA.out.size), HCA.out.frozen (p := ⟨t, 0, none⟩) (fun h => h) hlt]
      exact z0, hbt, .inl rfl, HO.out, hc0.trans HC.out (fun i _ hi => .inr (by rw [hi]))⟩
    clear ho ho1 hup ho2 hg2 HC HO hs h0 hbt z0
    rw [hfa]
    clear hfa
    have hsz1 : w.heap.size < w1.heap.size := by rw [← hw1, World.size_alloc]; omega
    have d0 : w1.cell? ⟨w.heap.size, 0, none⟩ = some (.bool f) := by rw [← hw1]; exact ncells_at (j := 0) rfl
    have d1 : w1.cell? ⟨w.heap.size, 1, none⟩ = some (.slice A n c) := by rw [← hw1]; exact ncells_at (j := 1) rfl
    have c02 := c01
    rw [← hw1] at c02
    go_enter Try.func31, Try.ntmps31
    go_wp2_with fail
    clear hw1 c02
    generalize w.heap.size = B at *
    refine wp_region_still_tail 6 (by kernel_rfl) (by kernel_rfl) ?_
    simp only [List.take_succ_cons, List.take_zero, List.drop_succ_cons, List.drop_zero]
    repeat still_step
    refine wpStill_nil ?_
    change wpList _ _ _ _ _ w1.drew
    go_wp2
    go_returns
    exact ⟨rfl, HB.out⟩
  | none =>
    obtain rfl := h0 rfl
    have hsz1 : w.heap.size < w1.heap.size := by rw [← hw1, World.size_alloc]; omega
    have c01 := HCA.out.cell (p := ⟨t, 0, none⟩) (fun h => h) c0
    have z01 : w1.frozen? ⟨t, 0, none⟩ = false := by rw [HCA.out.frozen (p := ⟨t, 0, none⟩) (fun h => h) hlt]; exact z0
    have d0 : w1.cell? ⟨w.heap.size, 0, none⟩ = some (.bool f) := by rw [← hw1]; exact ncells_at (j := 0) rfl
    have d1 : w1.cell? ⟨w.heap.size, 1, none⟩ = some (.slice A n c) := by rw [← hw1]; exact ncells_at (j := 1) rfl
    have hbt : w1.heap.size ≠ t := by omega
    obtain ⟨w3, hw3⟩ : ∃ w3, (w1.alloc (.map #[] 0)).setCell ⟨t, 0, none⟩ (.map (some w1.heap.size)) = w3 := ⟨_, rfl⟩
    have hal : Ch (fun _ => False) w1 (w1.alloc (.map #[] 0)) := (Ch.refl _ w1).alloc _
    have c0a := hal.cell (p := ⟨t, 0, none⟩) (fun h => h) c01
    have z0a : (w1.alloc (.map #[] 0)).frozen? ⟨t, 0, none⟩ = false := by rw [hal.frozen (p := ⟨t, 0, none⟩) (fun h => h) (Nat.lt_trans hlt hsz1)]; exact z01
    have hal2 : Ch (fun x => x = t) w1 (w1.alloc (.map #[] 0)) := hal.mono (fun _ _ h => h.elim)
    have hc3 : Ch (fun x => x = t) w1 w3 := by rw [← hw3]; exact hal2.setCell (p := ⟨t, 0, none⟩) (.inl rfl) _
    have c03 : w3.cell? ⟨t, 0, none⟩ = some (.map (some w1.heap.size)) := by rw [← hw3]; exact World.cell?_setCell_same _ _ _ c0a
    have z03 : w3.frozen? ⟨t, 0, none⟩ = false := by rw [← hw3, World.frozen?_setCell]; exact z0a
    have hBt : w.heap.size ≠ t := by omega
    have d03 := hc3.cell (p := ⟨w.heap.size, 0, none⟩) hBt d0
    have d13 := hc3.cell (p := ⟨w.heap.size, 1, none⟩) hBt d1
    have ho : w3.drew.ownsMap Try.prog 9 heldR w1.heap.size 0 (mapK [] vf) := by
      rw [← hw3]
      exact own_map_ch ((World.ownsMap_made w1 _ _ heldR).setCell (a := ⟨t, 0, none⟩) (by simpa using hbt) _) ((Ch.refl (fun _ => False) _).drew) (fun h => h)
    obtain ⟨w2, hup, ho2, hg2⟩ := ho.update (val := fate f (.slice A n c)) (d := .held (fate f (.slice A n c))) (ps := []) mapLaw mapT (by unfold maxLen; omega) HKEY.out rfl
    have hup' : (Instr.mapUpdate 64 (.map (some w1.heap.size)) (.string SK) (.agg #[.bool f, .slice A n c])).run Try.prog w3.drew = .ok () w2 := hup
    have HC : Bx (Ch (fun i => i = w1.heap.size) w3.drew w2) := ⟨⟨hg2.os, hg2.tape, hg2.output, hg2.size, fun i hi hn => hg2.block i hi (fun e => hn (by injection e))⟩⟩
    have HO := Bx.mk (own_put HR.out ho2)
    have hc0 : Ch (fun x => x = t ∨ (none : Option Nat) = some x) w w3.drew := by
      have k0 : Ch (fun x => x = t ∨ (none : Option Nat) = some x) w w1 := HCA.out.mono (fun _ _ h => h.elim)
      exact (k0.trans hc3 (fun _ _ h => .inl h)).drew
    have HB : Bx (NoteOf t none [] vf k (fate f (.slice A n c)) w w2) := ⟨w1.heap.size, HC.out.cell (p := ⟨t, 0, none⟩) hbt.symm (((Ch.refl (fun _ => False) w3).drew).cell (fun h => h) c03), by
      rw [HC.out.frozen (p := ⟨t, 0, none⟩) hbt.symm (Nat.lt_of_lt_of_le (Nat.lt_trans hlt hsz1) hc3.size)]
      exact z03, hbt, .inr ⟨rfl, Nat.le_of_lt hsz1⟩, HO.out, hc0.trans HC.out (fun i hi hh => absurd hi (by rw [hh]; exact Nat.not_lt.2 (Nat.le_of_lt hsz1)))⟩
    clear HR ho hup ho2 hg2 HC HO hs h0 hbt z0 hc3 hc0 hal
    rw [hfa]
    clear hfa
    go_enter Try.func31, Try.ntmps31
    go_wp2_with fail
    clear hw1 hw3 c01 c0a z01 z0a d0 d1 hal2
    generalize w1.heap.size = M at *
    generalize w.heap.size = B at *
    refine wp_region_still_tail 6 (by kernel_rfl) (by kernel_rfl) ?_
    simp only [List.take_succ_cons, List.take_zero, List.drop_succ_cons, List.drop_zero]
    repeat still_step
    refine wpStill_nil ?_
    change wpList _ _ _ _ _ w3.drew
    go_wp2
    go_returns
    exact ⟨rfl, HB.out⟩
end
end Go.Proofs.Ytpilekadcondnaa
