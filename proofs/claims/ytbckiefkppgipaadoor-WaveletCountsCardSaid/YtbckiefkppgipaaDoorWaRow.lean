/-
  A row of values of the call's own, whatever its element; what make leaves. The contract of All of a Tree.
-/
import Derived.Test.YtbckiefkppgipaaDoorWaGet
namespace Go.Proofs.YtbckiefkppgipaaDoor
open Go.RowKit Go.Oct Go.Bi Go.Wa

/-- A row of n elements of s cells at block g. -/
structure Own (w : World) (e : TypeId) (s g n c : Nat) (us : List Value) : Prop where
  own : w.ownsRow 0 e s (.slice (some ⟨g, 0, none⟩) n c) n us
section
variable {w w' : World} {e : TypeId} {s g n c : Nat} {us : List Value}
theorem Own.stored (h : Own w e s g n c us) (j : Nat) (u : Value) : Own (w.setCell ⟨g, j, none⟩ u) e s g n c (us.set j u) ∧ Ch (fun k => k = g) w (w.setCell ⟨g, j, none⟩ u) := by
  obtain ⟨ho, _⟩ := h.own.stored j u
  exact ⟨⟨ho⟩, (Ch.refl (fun k => k = g) w).setCell (p := ⟨g, j, none⟩) (.inl rfl) _⟩
theorem Own.len (h : Own w e s g n c us) : us.length = n * s := h.own.1
theorem Own.cellAt (h : Own w e s g n c us) {j : Nat} {u : Value} (hj : us[j]? = some u) : w.cell? ⟨g, j, none⟩ = some u := by
  have hl := h.len
  obtain ⟨h1, _⟩ := List.getElem?_eq_some_iff.1 hj
  rw [h.own.cellAt j (by omega), hj]
theorem Own.frozenAt (h : Own w e s g n c us) (j : Nat) : w.frozen? ⟨g, j, none⟩ = false := h.own.frozenAt j
theorem Own.ch {S : Nat → Prop} (h : Own w e s g n c us) (hc : Ch S w w') (hg : ¬ S g) : Own w' e s g n c us := ⟨hc.own h.own (fun k hk => by simp [Value.ownBlock] at hk; subst hk; exact hg)⟩
theorem Own.keep (h : Own w e s g n c us) (hc : Ch (fun _ => False) w w') : Own w' e s g n c us := h.ch hc (fun h => h)
theorem Own.lt (h : Own w e s g n c us) : g < w.heap.size := (h.own.lt g rfl).2
theorem Own.vs (h : Own w e 1 g n c us) : Vs w (fun b => b = g) (some ⟨g, 0, none⟩) n us :=
  (Vs.of_own h.own).mono (G := fun b => b = g) fun b _ hb => by simp [Value.ownBlock] at hb; exact hb.symm
end
theorem own_made1 (w : World) (e : TypeId) (z : Value) (n : Nat) (hn : n ≤ 1048576) : Own (w.alloc (.cells (madeCells #[z] n) e)) e 1 w.heap.size n n (List.replicate n z) := by
  refine ⟨?_⟩
  have h := World.ownsRow_lit (base := 0) (e := e) (size := 1) w (madeCells #[z] n) n (Nat.zero_le _) (by unfold maxLen; omega) (by simp [madeCells])
  rw [made_list] at h
  exact h
/-- An int row's store. -/
theorem Own.storedI {w : World} {e : TypeId} {g n c : Nat} {xs : List Int} (h : Own w e 1 g n c (xs.map (Value.int .i64))) (j : Nat) (x : Int) : Own (w.setCell ⟨g, j, none⟩ (.int .i64 x)) e 1 g n c ((xs.set j x).map (Value.int .i64)) ∧ Ch (fun k => k = g) w (w.setCell ⟨g, j, none⟩ (.int .i64 x)) := by
  have := h.stored j (.int .i64 x)
  rwa [← List.map_set] at this
theorem Own.sl {w : World} {e : TypeId} {g n c : Nat} {xs : List Int} (h : Own w e 1 g n c (xs.map (Value.int .i64))) : Sl w (fun b => b = g) .i64 (some ⟨g, 0, none⟩) n xs := h.vs
theorem Own.cellI {w : World} {e : TypeId} {g n c : Nat} {xs : List Int} (h : Own w e 1 g n c (xs.map (Value.int .i64))) {j : Nat} (hj : j < n) : w.cell? ⟨g, j, none⟩ = some (.int .i64 (xs.getD j 0)) := by
  have hl := h.len
  rw [List.length_map, Nat.mul_one] at hl
  refine h.cellAt ?_
  rw [List.getElem?_map, List.getElem?_eq_getElem (by omega), List.getD_eq_getElem?_getD, List.getElem?_eq_getElem (by omega)]
  rfl

/-- A plain row as integers. -/
def asI (l : List Nat) : List Int := l.map fun x : Nat => (x : Int)
theorem asI_len (l : List Nat) : (asI l).length = l.length := List.length_map ..
theorem sn_sl {w : World} {F : Nat → Prop} {A : Option Addr} {l : List Nat} (h : Sl w F .i64 A l.length (asI l)) : Sn w F .i64 A l := h
/-- The first k symbols, and noughts. -/
def upI (l : List Nat) (k : Nat) : List Int := (asI l).take k ++ List.replicate (l.length - k) 0
theorem upI_zero (l : List Nat) : upI l 0 = List.replicate l.length 0 := by simp [upI]
theorem upI_all (l : List Nat) : upI l l.length = asI l := by
  unfold upI
  rw [List.take_of_length_le (by rw [asI_len]; omega), Nat.sub_self]
  simp
theorem upI_next {l : List Nat} {k x : Nat} (h : l[k]? = some x) : (upI l k).set k (x : Int) = upI l (k + 1) := by
  obtain ⟨h1, h2⟩ := List.getElem?_eq_some_iff.1 h
  have h3 : (asI l)[k]? = some (x : Int) := by unfold asI; rw [List.getElem?_map, h]; rfl
  unfold upI
  rw [List.take_add_one, h3, List.set_append_right _ _ (by rw [List.length_take]; omega), List.length_take, asI_len, Nat.min_eq_left (by omega), Nat.sub_self]
  obtain ⟨m, hm⟩ : ∃ m, l.length - k = m + 1 := ⟨l.length - k - 1, by omega⟩
  rw [hm, show l.length - (k + 1) = m by omega, List.replicate_succ, List.set_cons_zero]
  simp

section
variable {F : Nat → Prop}
theorem mkI (w : World) (n : Nat) (hn : n ≤ 1048576) : (Instr.makeSlice 22 (.int .i64 (n : Int)) (.int .i64 (n : Int))).run Tryd.prog w = .ok (.slice (some ⟨w.heap.size, 0, none⟩) n n) (w.alloc (.cells (madeCells #[.int .i64 0] n) 3)) := run_mk2 elemI n (by omega) (by omega) w
theorem tall_nil (w : World) : Calls Tryd.prog 14 #[.pointer none] w fun e w' => (∃ g : Nat, e = .returned (.slice (some ⟨g, 0, none⟩) 0 0)) ∧ Ch (fun _ => False) w w' := by
  have hmk := mkI w 0 (by omega)
  rw [show (((0 : Nat) : Int)) = 0 from rfl] at hmk
  go_enter Tryd.func14, Tryd.ntmps14
  go_wp2_with fail
  refine (tlen_nil _).mono ?_
  rintro e w' ⟨rfl, rfl⟩
  go_wp2_with fail
  go_loopw [4, 10] (fun _ i wr => i = .int .i64 0 ∧ Ch (fun _ => False) w wr) (fun _ _ _ => 0)
  case atStart => exact ⟨rfl, (Ch.refl _ _).alloc _⟩
  case round =>
    obtain ⟨rfl, hC⟩ := hrel
    go_wp2
    go_ret
    exact ⟨⟨_, rfl⟩, hC⟩

theorem tget_val (b W p c : Nat) (l : List Nat) (w : World) (h : Tr w F b W l) (hp : l[p]? = some c) :
    Calls Tryd.prog 15 #[.pointer (some ⟨b, 0, none⟩), .int .i64 p] w fun e w' => e = .returned (.int .i64 c) ∧ Ch (fun _ => False) w w' := tget_in b W p c l w h hp
set_option maxHeartbeats 1000000 in
/-- All. -/
theorem tall_any (b W n : Nat) (l : List Nat) (w : World) (h : Tr w F b W l) (hn : l.length = n) :
    Calls Tryd.prog 14 #[.pointer (some ⟨b, 0, none⟩)] w fun e w' => ∃ g : Nat, e = .returned (.slice (some ⟨g, 0, none⟩) n n) ∧ Own w' 3 1 g n n ((asI l).map (Value.int .i64)) ∧ w.heap.size ≤ g ∧ Ch (fun _ => False) w w' := by
  have hs := h.short
  rw [hn] at hs
  have hmk := mkI w n (by omega)
  have H := Bx.mk h
  have HN := Bx.mk hn
  clear h hn
  go_enter Tryd.func14, Tryd.ntmps14
  go_wp2_with fail
  refine (tlen_any b W n l _ H.out HN.out).mono ?_
  rintro e w' ⟨rfl, rfl⟩
  go_wp2_with fail
  go_loopw [4, 10] (fun _ i wr => ∃ k : Nat, k ≤ n ∧ i = .int .i64 k ∧ Own wr 3 1 w.heap.size n n ((upI l k).map (Value.int .i64)) ∧ Ch (fun _ => False) w wr) (fun _ i _ => n - (intOf i).toNat)
  case atStart =>
    refine ⟨0, Nat.zero_le _, rfl, ?_, (Ch.refl _ _).alloc _⟩
    have := own_made1 w 3 (.int .i64 0) n (by omega)
    rw [upI_zero, HN.out, List.map_replicate]
    exact this
  case round =>
    obtain ⟨k, hk, rfl, hO, hC⟩ := hrel
    by_cases hlt : k < n
    · have hx : l[k]? = some (l.getD k 0) := by rw [List.getD_eq_getElem?_getD, List.getElem?_eq_getElem (by rw [HN.out]; exact hlt)]; rfl
      generalize l.getD k 0 = x at *
      have HX := Bx.mk hx
      have HO := Bx.mk hO
      have HC := Bx.mk hC
      have HT := Bx.mk (H.out.keep hC)
      clear hx hO hC
      go_wp2_with fail
      refine (tget_val b W k x l _ HT.out HX.out).mono ?_
      rintro e w1 ⟨rfl, hC1⟩
      have hO1 := HO.out.keep hC1
      have HC1 := Bx.mk (HC.out.trans hC1 (fun _ _ h => h))
      have hcell := hO1.cellI hlt
      have hfz := hO1.frozenAt k
      have hst := hO1.storedI k (x : Int)
      rw [upI_next HX.out] at hst
      have HST := Bx.mk hst
      generalize (upI l k).getD k 0 = old at *
      clear hC1 hst hO1
      go_wp2
      go_roundw
      case rel => exact ⟨k + 1, by omega, by go_num, HST.out.1, HC1.out.trans HST.out.2 (fun i hi (e : i = w.heap.size) => by omega)⟩
      case measure => simp [intOf]; omega
    · obtain rfl : k = n := by omega
      have hl := HN.out
      subst hl
      rw [upI_all] at hO
      go_wp2
      go_ret
      exact ⟨_, rfl, hO, Nat.le_refl _, hC⟩
end
end Go.Proofs.YtbckiefkppgipaaDoor
