/-
  Words for the suffix proofs: facts that no assumption looks into; rows of the call's own; rows that are appended to.
-/
import Derived.Test.YtanhnaohmaepoaaOcWords
import Derived.Test.YtanhnaohmaepoaaOcMath
import Derived.Test.YtanhnaohmaepoaaFmTxt
import Derived.Test.YtanhnaohmaepoaaProg
import Derived.Deep.QuietTactic
import Derived.BigQuiet
import Derived.Outline
import Derived.Handy
import Derived.IntWalk
import Derived.Deep.RegionHeld3
namespace Go.Proofs.Ytanhnaohmaepoaa
open Go.RowKit Go.Oct

/-- A fact that no assumption looks into. -/
structure Bx (p : Prop) : Prop where
  out : p

theorem ret_int {k : IntKind} {a b : Int} (h : a = b) : Ending.returned (.int k a) = .returned (.int k b) := by rw [h]
theorem ret_bool {a b : Bool} (h : a = b) : Ending.returned (.bool a) = .returned (.bool b) := by rw [h]
theorem elemI : Elem Try.prog 39 3 (.int .i64 0) 8 := ⟨Try.underlying39, by kernel_rfl, rfl⟩
/-- make of a length. -/
theorem run_mk2 {P : Program} {t e : TypeId} {z : Value} {bytes : Nat} (T : Elem P t e z bytes) (L : Nat) (hb : bytes * L ≤ 281474976710656) (h63 : L ≤ 281474976710656) (w : World) :
    (Instr.makeSlice t (.int .i64 (L : Int)) (.int .i64 (L : Int))).run P w = .ok (.slice (some ⟨w.heap.size, 0, none⟩) L L) (w.alloc (.cells (madeCells z.cells L) e)) := by
  obtain ⟨i, hi, hz, hs, hby⟩ := info_parts T.info
  have hb' : (i.bytes : Int) * (L : Int) ≤ 281474976710656 := by
    rw [hby]
    have h : ((bytes * L : Nat) : Int) ≤ 281474976710656 := by omega
    rwa [Int.natCast_mul] at h
  have hr := run_make (P := P) w t e i z T.t hi hz .i64 .i64 L L (by omega) (by omega) hb' (by omega)
  simp only [Int.toNat_natCast, hs, Nat.mul_one] at hr
  exact hr

theorem made_list (z : Value) (n : Nat) : (madeCells #[z] n).toList = List.replicate n z := by
  apply List.ext_getElem
  · simp [madeCells]
  · intro i h1 h2
    simp [madeCells, Nat.mod_one]
/-- A row of n elements of s cells at block g. -/
structure Own (w : World) (e : TypeId) (s g n c : Nat) (us : List Value) : Prop where
  own : w.ownsRow 0 e s (.slice (some ⟨g, 0, none⟩) n c) n us
section
variable {w w' : World} {e : TypeId} {s g n c : Nat} {us : List Value}
theorem Own.stored (h : Own w e s g n c us) (j : Nat) (u : Value) : Own (w.setCell ⟨g, j, none⟩ u) e s g n c (us.set j u) ∧ Ch (fun k => k = g) w (w.setCell ⟨g, j, none⟩ u) := by
  obtain ⟨ho, _⟩ := h.own.stored j u
  exact ⟨⟨ho⟩, (Ch.refl (fun k => k = g) w).setCell (p := ⟨g, j, none⟩) (.inl rfl) _⟩
theorem Own.len (h : Own w e s g n c us) : us.length = n * s := h.own.1
theorem Own.cellAt (h : Own w e s g n c us) {j : Nat} {u : Value} (hj : us[j]? = some u) : w.cell? ⟨g, j, none⟩ = some u := by
  have hl := h.len
  obtain ⟨h1, _⟩ := List.getElem?_eq_some_iff.1 hj
  rw [h.own.cellAt j (by omega), hj]
theorem Own.frozenAt (h : Own w e s g n c us) (j : Nat) : w.frozen? ⟨g, j, none⟩ = false := h.own.frozenAt j
theorem Own.ch {S : Nat → Prop} (h : Own w e s g n c us) (hc : Ch S w w') (hg : ¬ S g) : Own w' e s g n c us := ⟨hc.own h.own (fun k hk => by simp [Value.ownBlock] at hk; subst hk; exact hg)⟩
theorem Own.keep (h : Own w e s g n c us) (hc : Ch (fun _ => False) w w') : Own w' e s g n c us := h.ch hc (fun h => h)
theorem Own.lt (h : Own w e s g n c us) : g < w.heap.size := (h.own.lt g rfl).2
theorem Own.vs (h : Own w e 1 g n c us) : Vs w (fun b => b = g) (some ⟨g, 0, none⟩) n us :=
  (Vs.of_own h.own).mono (G := fun b => b = g) fun b _ hb => by simp [Value.ownBlock] at hb; exact hb.symm
end
theorem own_made1 (w : World) (e : TypeId) (z : Value) (n : Nat) (hn : n ≤ 1048576) : Own (w.alloc (.cells (madeCells #[z] n) e)) e 1 w.heap.size n n (List.replicate n z) := by
  refine ⟨?_⟩
  have h := World.ownsRow_lit (base := 0) (e := e) (size := 1) w (madeCells #[z] n) n (Nat.zero_le _) (by unfold maxLen; omega) (by simp [madeCells])
  rw [made_list] at h
  exact h
/-- An int row's store. -/
theorem Own.storedI {w : World} {e : TypeId} {g n c : Nat} {xs : List Int} (h : Own w e 1 g n c (xs.map (Value.int .i64))) (j : Nat) (x : Int) : Own (w.setCell ⟨g, j, none⟩ (.int .i64 x)) e 1 g n c ((xs.set j x).map (Value.int .i64)) ∧ Ch (fun k => k = g) w (w.setCell ⟨g, j, none⟩ (.int .i64 x)) := by
  have := h.stored j (.int .i64 x)
  rwa [← List.map_set] at this
theorem Own.sl {w : World} {e : TypeId} {g n c : Nat} {xs : List Int} (h : Own w e 1 g n c (xs.map (Value.int .i64))) : Sl w (fun b => b = g) .i64 (some ⟨g, 0, none⟩) n xs := h.vs
theorem Own.cellI {w : World} {e : TypeId} {g n c : Nat} {xs : List Int} (h : Own w e 1 g n c (xs.map (Value.int .i64))) {j : Nat} (hj : j < n) : w.cell? ⟨g, j, none⟩ = some (.int .i64 (xs.getD j 0)) := by
  have hl := h.len
  rw [List.length_map, Nat.mul_one] at hl
  refine h.cellAt ?_
  rw [List.getElem?_map, List.getElem?_eq_getElem (by omega), List.getD_eq_getElem?_getD, List.getElem?_eq_getElem (by omega)]
  rfl

/-- A plain row as integers. -/
def asI (l : List Nat) : List Int := l.map fun x : Nat => (x : Int)
theorem asI_len (l : List Nat) : (asI l).length = l.length := List.length_map ..
theorem mkI (w : World) (n : Nat) (hn : n ≤ 1048576) : (Instr.makeSlice 39 (.int .i64 (n : Int)) (.int .i64 (n : Int))).run Try.prog w = .ok (.slice (some ⟨w.heap.size, 0, none⟩) n n) (w.alloc (.cells (madeCells #[.int .i64 0] n) 3)) := run_mk2 elemI n (by omega) (by omega) w
def vals (l : List Nat) : List Value := l.map fun x : Nat => Value.int .i64 (x : Int)
theorem vals_asI (l : List Nat) : (asI l).map (Value.int .i64) = vals l := by unfold asI vals; rw [List.map_map]; rfl
theorem run_mkI0 (n : Nat) (hn : n ≤ 1048576) (w : World) : (Instr.makeSlice 39 (.int .i64 0) (.int .i64 (n : Int))).run Try.prog w = .ok (.slice (some ⟨w.heap.size, 0, none⟩) 0 n) (w.alloc (.cells (madeCells #[.int .i64 0] n) 3)) := run_mk elemI n (by omega) (by omega) w

theorem own_form {w : World} {base : Nat} {e : TypeId} {size n : Nat} {v : Value} {xs : List Value} (h : w.ownsRow base e size v n xs) : (v = .slice none 0 0 ∧ n = 0) ∨ ∃ g c, v = .slice (some ⟨g, 0, none⟩) n c ∧ n ≤ c ∧ c ≤ maxLen := by
  rcases h.2 with ⟨rfl, rfl⟩ | ⟨g, cap, cur, rfl, _, _, h1, h2, _⟩
  · exact .inl ⟨rfl, rfl⟩
  · exact .inr ⟨g, cap, rfl, h1, h2⟩
/-- A row of the call's own at wr; the call began at w. -/
structure Gr (w wr : World) (v : Value) (xs : List Nat) : Prop where
  own : wr.ownsRow 0 3 1 v xs.length (vals xs)
  lies : ∀ g, v.ownBlock = some g → w.heap.size ≤ g
  ch : Ch (fun _ => False) w wr
section
variable {w wr w2 : World} {v v' : Value} {xs ys : List Nat}
theorem Gr.nil (w : World) : Gr w w (.slice none 0 0) [] := ⟨World.ownsRow_nil _ _ _ _, fun g hg => by simp [Value.ownBlock] at hg, Ch.refl _ _⟩
theorem Gr.more (h : Gr w wr v xs) {wm : World} (hm : Ch (fun _ => False) wr wm) (ho : w2.ownsRow 0 3 1 v' (xs.length + ys.length) (vals xs ++ vals ys)) (hg : wm.grownBy w2 v.ownBlock) (hb : v'.ownBlock = v.ownBlock ∨ v'.ownBlock = some wm.heap.size) : Gr w w2 v' (xs ++ ys) := by
  have hc := h.ch.trans hm (fun _ _ h => h)
  refine ⟨?_, fun g hgv => ?_, hc.grown hg (fun k hk => .inr (h.lies k hk))⟩
  · rw [List.length_append]
    unfold vals at *
    rw [List.map_append]
    exact ho
  · rcases hb with hb | hb
    · exact h.lies g (hb ▸ hgv)
    · rw [hb] at hgv
      injection hgv with hgv
      have := hc.size
      omega
theorem Gr.moreN (h : Gr w wr v xs) {k m : Nat} (hk : xs.length = k) (hm' : ys.length = m) {wm : World} (hm : Ch (fun _ => False) wr wm) (ho : w2.ownsRow 0 3 1 v' (k + m) (vals xs ++ vals ys)) (hg : wm.grownBy w2 v.ownBlock) (hb : v'.ownBlock = v.ownBlock ∨ v'.ownBlock = some wm.heap.size) : Gr w w2 v' (xs ++ ys) := by
  subst hk hm'
  exact h.more hm ho hg hb
theorem Gr.one (h : Gr w wr v xs) {x : Nat} (ho : w2.ownsRow 0 3 1 v' (xs.length + 1) (vals xs ++ [Value.int .i64 (x : Int)])) (hg : (wr.alloc (.cells #[.int .i64 (x : Int)] 3)).grownBy w2 v.ownBlock) (hb : v'.ownBlock = v.ownBlock ∨ v'.ownBlock = some (wr.heap.size + 1)) : Gr w w2 v' (xs ++ [x]) :=
  h.more (ys := [x]) ((Ch.refl (fun _ => False) wr).alloc _) ho hg (by rw [World.size_alloc]; exact hb)
theorem Gr.keep (h : Gr w wr v xs) (hc : Ch (fun _ => False) wr w2) : Gr w w2 v xs :=
  ⟨hc.own h.own (fun _ _ h => h), h.lies, h.ch.trans hc (fun _ _ h => h)⟩
theorem Gr.first {n : Nat} (hn : xs.length = n) (ho : w2.ownsRow 0 3 1 v' n (vals xs)) (hg : wr.grownBy w2 (Value.slice none 0 0).ownBlock) (hb : v'.ownBlock = (Value.slice none 0 0).ownBlock ∨ v'.ownBlock = some wr.heap.size) : Gr wr w2 v' xs := by
  subst hn
  refine ⟨ho, fun g hgv => ?_, (Ch.refl (fun _ => False) wr).grown hg (fun k hk => by simp [Value.ownBlock] at hk)⟩
  rcases hb with hb | hb
  · rw [hb] at hgv
    simp [Value.ownBlock] at hgv
  · rw [hb] at hgv
    injection hgv with hgv
    omega
/-- .. as a slice. -/
theorem Gr.shape (h : Gr w wr v xs) : ∃ A c, v = .slice A xs.length c ∧ Sl wr (fun b => w.heap.size ≤ b) .i64 A xs.length (asI xs) ∧ xs.length ≤ c ∧ c ≤ maxLen := by
  obtain ⟨A, c, rfl, h1, h2⟩ := own_shape h.own
  refine ⟨A, c, rfl, ?_, h1, h2⟩
  have ho := h.own
  rw [← vals_asI] at ho
  exact (Sl.of_own ho).mono (fun b _ hb => h.lies b hb)
theorem Gr.vs {A : Option Addr} {n c : Nat} (h : Gr w wr (.slice A n c) xs) (hn : xs.length = n) : Vs wr (fun b => w.heap.size ≤ b) A n (vals xs) := by
  have ho := h.own
  rw [hn] at ho
  exact (Vs.of_own ho).mono (fun b _ hb => h.lies b hb)
end
theorem vals_cells (l : List Nat) : ∀ u ∈ vals l, u.oneCell' = true := by
  intro u hu
  obtain ⟨x, _, rfl⟩ := List.mem_map.1 hu
  rfl
theorem take_more {l : List Nat} {j x : Nat} (h : l[j]? = some x) : l.take (j + 1) = l.take j ++ [x] := by rw [List.take_add_one, h]; rfl
theorem asI_at {l : List Nat} {k : Nat} {x : Int} (h : (asI l)[k]? = some x) : ∃ y : Nat, x = y ∧ l[k]? = some y := by
  unfold asI at h
  rw [List.getElem?_map] at h
  cases hy : l[k]? with
  | none => rw [hy] at h; cases h
  | some y =>
    rw [hy] at h
    simp only [Option.map_some, Option.some.injEq] at h
    exact ⟨y, h.symm, rfl⟩
end Go.Proofs.Ytanhnaohmaepoaa
