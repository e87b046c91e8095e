/-
  The contracts of Get and All of a Tree.
-/
/-
  A row of values of the call's own, whatever its element; what make leaves. The contract of All of a Tree.
-/
/-
  The contract of split.
-/
import Derived.Test.YtckkjccjkdidjaaGreatDoorWaC
import Derived.Test.YtckkjccjkdidjaaGreatDoorWaB
namespace Go.Proofs.YtckkjccjkdidjaaGreatDoor.W
open Go.RowKit Go.Oct Go.Bi Go.Wa

/-- The symbol at a place; -1: there is none. -/
def symAt (l : List Nat) (i : Int) : Int := if 0 ≤ i then (match l[i.toNat]? with | some x => (x : Int) | none => -1) else -1
theorem symAt_in {l : List Nat} {i c : Nat} (h : l[i]? = some c) : symAt l i = c := by
  unfold symAt
  rw [if_pos (by omega), Int.toNat_natCast, h]
theorem symAt_out {l : List Nat} {i : Int} (h : i < 0 ∨ (l.length : Int) ≤ i) : symAt l i = -1 := by
  unfold symAt
  split
  · rw [List.getElem?_eq_none (by omega)]
  · rfl

section
variable {F : Nat → Prop}
theorem tget_nil (i : Int) (w : World) : Calls Tryz.prog 70 #[.pointer none, .int .i64 i] w fun e w' => e = .returned (.int .i64 (-1)) ∧ w = w' := by
  by_cases h : i < 0
  · go_enter Tryz.func70, Tryz.ntmps70
    go_wp2
    go_ret
    exact ⟨rfl, rfl⟩
  · have h0 : 0 ≤ i := by omega
    go_enter Tryz.func70, Tryz.ntmps70
    go_wp2_with fail
    refine (tlen_nil _).mono ?_
    rintro e w' ⟨rfl, rfl⟩
    go_wp2
    go_ret
    exact ⟨rfl, rfl⟩
theorem tget_out (b W : Nat) (l : List Nat) (i : Int) (w : World) (hT : Tr w F b W l) (h : i < 0 ∨ (l.length : Int) ≤ i) :
    Calls Tryz.prog 70 #[.pointer (some ⟨b, 0, none⟩), .int .i64 i] w fun e w' => e = .returned (.int .i64 (-1)) ∧ w = w' := by
  have H := Bx.mk hT
  clear hT
  by_cases h1 : i < 0
  · go_enter Tryz.func70, Tryz.ntmps70
    go_wp2
    go_ret
    exact ⟨rfl, rfl⟩
  · have h0 : 0 ≤ i := by omega
    have h2 : (l.length : Int) ≤ i := by omega
    clear h
    go_enter Tryz.func70, Tryz.ntmps70
    go_wp2_with fail
    refine (tlen_any b W _ l _ H.out rfl).mono ?_
    rintro e w' ⟨rfl, rfl⟩
    go_wp2
    go_ret
    exact ⟨rfl, rfl⟩
theorem bget_val (b : Nat) (l : List Bool) (i : Int) (c : Bool) (w : World) (h : Vec w F b l) (hc : bitAt l i = c) :
    Calls Tryz.prog 63 #[.pointer (some ⟨b, 0, none⟩), .int .i64 i] w fun e w' => e = .returned (.bool c) ∧ w = w' := by
  subst hc
  exact get_any b l i w h

set_option maxHeartbeats 1000000 in
theorem tget_in (b W p c : Nat) (l : List Nat) (w : World) (h : Tr w F b W l) (hp : l[p]? = some c) :
    Calls Tryz.prog 70 #[.pointer (some ⟨b, 0, none⟩), .int .i64 p] w fun e w' => e = .returned (.int .i64 c) ∧ Ch (fun _ => False) w w' := by
  have hW := h.hi
  have hs := h.short
  have hpl : p < l.length := (List.getElem?_eq_some_iff.1 hp).1
  obtain ⟨g, h5, h8⟩ := h.lvs
  have HL := Bx.mk h8
  have H := Bx.mk h
  have hc := h.lt c (List.mem_of_getElem? hp)
  have h16 := pow16 hW
  have HK : Bx (∀ d, top W d c ≤ 65536) := ⟨fun d => Nat.le_trans (Nat.div_le_self _ _) (by omega)⟩
  have HA : Bx (∀ d, d ≤ W → (bt W l d)[D W l c d p]? = some (dgt W d c)) := ⟨fun d hd => bt_at h.lt hp hd⟩
  have HT0 := Bx.mk (top_zero hc)
  have HTW := Bx.mk (top_all W c)
  obtain ⟨n, hn⟩ : ∃ n, l.length = n := ⟨_, rfl⟩
  have HN := Bx.mk hn
  rw [hn] at hpl
  have e1 : decide ((p : Int) < 0) = false := by simp
  have e2 : decide ((n : Int) ≤ (p : Int)) = false := by simp; omega
  have e3 : decide (n ≤ p) = false := by simp; omega
  clear h h8 hc h16 hp hn
  go_enter Tryz.func70, Tryz.ntmps70
  go_wp2_with fail
  refine (tlen_any b W n l _ H.out HN.out).mono ?_
  rintro e w' ⟨rfl, rfl⟩
  go_wp2_with fail
  go_loopw [1, 5, 7, 8, 22] (fun i a _ _ j wr => ∃ d : Nat, d ≤ W ∧ j = .int .i64 d ∧ i = .int .i64 (D W l c d p : Nat) ∧ a = .int .i64 (top W d c : Nat) ∧ Ch (fun _ => False) w wr) (fun _ _ _ _ j _ => W - (intOf j).toNat)
  case atStart => exact ⟨0, Nat.zero_le _, rfl, rfl, by rw [HT0.out]; rfl, Ch.refl _ _⟩
  case round =>
    obtain ⟨d, hd, rfl, rfl, rfl, hC⟩ := hrel
    by_cases hlt : d < W
    · obtain ⟨v, k1, k2, k3⟩ := (HL.out.keep hC) d hlt
      have HV := Bx.mk k3
      have HC := Bx.mk hC
      have HG : Bx (dn (bt W l d) (dgt W d c) (D W l c d p) = D W l c (d + 1) p) := ⟨rfl⟩
      have ha := HA.out d hd
      have hk0 := HK.out d
      have hk1 := HK.out (d + 1)
      have hts := top_succ hlt c
      generalize hf2 : D W l c (d + 1) p = f2 at *
      generalize hn2 : top W (d + 1) c = n2 at *
      generalize top W d c = n1 at *
      have HF2 := Bx.mk hf2
      have HN2 := Bx.mk hn2
      clear hf2 hn2
      generalize D W l c d p = f1 at *
      have hb := bitAt_in ha
      generalize hr : dgt W d c = r at *
      have HB := Bx.mk hb
      generalize hy : bt W l d = y at *
      generalize hq : y.count false = q at *
      have HZ : Bx ((q : Int) = (y.count false : Nat)) := ⟨by rw [hq]⟩
      clear hr k3 hC hq hb ha
      go_wp2_with fail
      obtain ⟨c0, c1⟩ := cells2 wr (.pointer (some ⟨v, 0, none⟩)) (.int .i64 q) 108
      have hC1 := (Ch.refl (fun _ => False) wr).alloc (.cells #[.pointer (some ⟨v, 0, none⟩), .int .i64 q] 108)
      have HC1 := Bx.mk (HC.out.trans hC1 (fun _ _ h => h))
      have HV1 := Bx.mk (HV.out.keep hC1)
      clear hC1
      generalize wr.heap.size = B at *
      generalize World.alloc wr _ = w1 at *
      refine (bget_val v y f1 r _ HV1.out HB.out).mono ?_
      rintro e w' ⟨rfl, rfl⟩
      clear hy
      go_wp2_with fail
      refine (down_is v f1 y r q _ HV1.out HZ.out).mono ?_
      rintro e w2 ⟨rfl, hc2⟩
      have HC2 := Bx.mk (HC1.out.trans hc2 (fun _ _ h => h))
      clear hc2
      rw [HG.out]
      cases r
      · have hn12 : n2 = 2 * n1 := hts
        clear hts
        go_wp2
        go_roundw
        case rel => exact ⟨d + 1, by omega, by go_num, by rw [HF2.out], by rw [HN2.out]; go_num, HC2.out⟩
        case measure => simp [intOf]; omega
      · have hn12 : n2 = 2 * n1 + 1 := hts
        clear hts
        go_wp2
        go_roundw
        case rel => exact ⟨d + 1, by omega, by go_num, by rw [HF2.out], by rw [HN2.out]; go_num, HC2.out⟩
        case measure => simp [intOf]; omega
    · obtain rfl : d = W := by omega
      rw [HTW.out]
      go_wp2
      go_ret
      exact ⟨rfl, hC⟩
end
end Go.Proofs.YtckkjccjkdidjaaGreatDoor.W

namespace Go.Proofs.YtckkjccjkdidjaaGreatDoor.W
open Go.RowKit Go.Oct Go.Bi Go.Wa

/-- A row of n elements of s cells at block g. -/
structure Own (w : World) (e : TypeId) (s g n c : Nat) (us : List Value) : Prop where
  own : w.ownsRow 0 e s (.slice (some ⟨g, 0, none⟩) n c) n us
section
variable {w w' : World} {e : TypeId} {s g n c : Nat} {us : List Value}
theorem Own.stored (h : Own w e s g n c us) (j : Nat) (u : Value) : Own (w.setCell ⟨g, j, none⟩ u) e s g n c (us.set j u) ∧ Ch (fun k => k = g) w (w.setCell ⟨g, j, none⟩ u) := by
  obtain ⟨ho, _⟩ := h.own.stored j u
  exact ⟨⟨ho⟩, (Ch.refl (fun k => k = g) w).setCell (p := ⟨g, j, none⟩) (.inl rfl) _⟩
theorem Own.len (h : Own w e s g n c us) : us.length = n * s := h.own.1
theorem Own.cellAt (h : Own w e s g n c us) {j : Nat} {u : Value} (hj : us[j]? = some u) : w.cell? ⟨g, j, none⟩ = some u := by
  have hl := h.len
  obtain ⟨h1, _⟩ := List.getElem?_eq_some_iff.1 hj
  rw [h.own.cellAt j (by omega), hj]
theorem Own.frozenAt (h : Own w e s g n c us) (j : Nat) : w.frozen? ⟨g, j, none⟩ = false := h.own.frozenAt j
theorem Own.ch {S : Nat → Prop} (h : Own w e s g n c us) (hc : Ch S w w') (hg : ¬ S g) : Own w' e s g n c us := ⟨hc.own h.own (fun k hk => by simp [Value.ownBlock] at hk; subst hk; exact hg)⟩
theorem Own.keep (h : Own w e s g n c us) (hc : Ch (fun _ => False) w w') : Own w' e s g n c us := h.ch hc (fun h => h)
theorem Own.lt (h : Own w e s g n c us) : g < w.heap.size := (h.own.lt g rfl).2
theorem Own.vs (h : Own w e 1 g n c us) : Vs w (fun b => b = g) (some ⟨g, 0, none⟩) n us :=
  (Vs.of_own h.own).mono (G := fun b => b = g) fun b _ hb => by simp [Value.ownBlock] at hb; exact hb.symm
end
theorem own_made1 (w : World) (e : TypeId) (z : Value) (n : Nat) (hn : n ≤ 1048576) : Own (w.alloc (.cells (madeCells #[z] n) e)) e 1 w.heap.size n n (List.replicate n z) := by
  refine ⟨?_⟩
  have h := World.ownsRow_lit (base := 0) (e := e) (size := 1) w (madeCells #[z] n) n (Nat.zero_le _) (by unfold maxLen; omega) (by simp [madeCells])
  rw [made_list] at h
  exact h
/-- An int row's store. -/
theorem Own.storedI {w : World} {e : TypeId} {g n c : Nat} {xs : List Int} (h : Own w e 1 g n c (xs.map (Value.int .i64))) (j : Nat) (x : Int) : Own (w.setCell ⟨g, j, none⟩ (.int .i64 x)) e 1 g n c ((xs.set j x).map (Value.int .i64)) ∧ Ch (fun k => k = g) w (w.setCell ⟨g, j, none⟩ (.int .i64 x)) := by
  have := h.stored j (.int .i64 x)
  rwa [← List.map_set] at this
theorem Own.sl {w : World} {e : TypeId} {g n c : Nat} {xs : List Int} (h : Own w e 1 g n c (xs.map (Value.int .i64))) : Sl w (fun b => b = g) .i64 (some ⟨g, 0, none⟩) n xs := h.vs
theorem Own.cellI {w : World} {e : TypeId} {g n c : Nat} {xs : List Int} (h : Own w e 1 g n c (xs.map (Value.int .i64))) {j : Nat} (hj : j < n) : w.cell? ⟨g, j, none⟩ = some (.int .i64 (xs.getD j 0)) := by
  have hl := h.len
  rw [List.length_map, Nat.mul_one] at hl
  refine h.cellAt ?_
  rw [List.getElem?_map, List.getElem?_eq_getElem (by omega), List.getD_eq_getElem?_getD, List.getElem?_eq_getElem (by omega)]
  rfl

/-- A plain row as integers. -/
def asI (l : List Nat) : List Int := l.map fun x : Nat => (x : Int)
theorem asI_len (l : List Nat) : (asI l).length = l.length := List.length_map ..
theorem sn_sl {w : World} {F : Nat → Prop} {A : Option Addr} {l : List Nat} (h : Sl w F .i64 A l.length (asI l)) : Sn w F .i64 A l := h
/-- The first k symbols, and noughts. -/
def upI (l : List Nat) (k : Nat) : List Int := (asI l).take k ++ List.replicate (l.length - k) 0
theorem upI_zero (l : List Nat) : upI l 0 = List.replicate l.length 0 := by simp [upI]
theorem upI_all (l : List Nat) : upI l l.length = asI l := by
  unfold upI
  rw [List.take_of_length_le (by rw [asI_len]; omega), Nat.sub_self]
  simp
theorem upI_next {l : List Nat} {k x : Nat} (h : l[k]? = some x) : (upI l k).set k (x : Int) = upI l (k + 1) := by
  obtain ⟨h1, h2⟩ := List.getElem?_eq_some_iff.1 h
  have h3 : (asI l)[k]? = some (x : Int) := by unfold asI; rw [List.getElem?_map, h]; rfl
  unfold upI
  rw [List.take_add_one, h3, List.set_append_right _ _ (by rw [List.length_take]; omega), List.length_take, asI_len, Nat.min_eq_left (by omega), Nat.sub_self]
  obtain ⟨m, hm⟩ : ∃ m, l.length - k = m + 1 := ⟨l.length - k - 1, by omega⟩
  rw [hm, show l.length - (k + 1) = m by omega, List.replicate_succ, List.set_cons_zero]
  simp

section
variable {F : Nat → Prop}
theorem mkI (w : World) (n : Nat) (hn : n ≤ 1048576) : (Instr.makeSlice 23 (.int .i64 (n : Int)) (.int .i64 (n : Int))).run Tryz.prog w = .ok (.slice (some ⟨w.heap.size, 0, none⟩) n n) (w.alloc (.cells (madeCells #[.int .i64 0] n) 3)) := run_mk2 elemI n (by omega) (by omega) w
theorem tall_nil (w : World) : Calls Tryz.prog 47 #[.pointer none] w fun e w' => (∃ g : Nat, e = .returned (.slice (some ⟨g, 0, none⟩) 0 0)) ∧ Ch (fun _ => False) w w' := by
  have hmk := mkI w 0 (by omega)
  rw [show (((0 : Nat) : Int)) = 0 from rfl] at hmk
  go_enter Tryz.func47, Tryz.ntmps47
  go_wp2_with fail
  refine (tlen_nil _).mono ?_
  rintro e w' ⟨rfl, rfl⟩
  go_wp2_with fail
  go_loopw [4, 10] (fun _ i wr => i = .int .i64 0 ∧ Ch (fun _ => False) w wr) (fun _ _ _ => 0)
  case atStart => exact ⟨rfl, (Ch.refl _ _).alloc _⟩
  case round =>
    obtain ⟨rfl, hC⟩ := hrel
    go_wp2
    go_ret
    exact ⟨⟨_, rfl⟩, hC⟩

theorem tget_val (b W p c : Nat) (l : List Nat) (w : World) (h : Tr w F b W l) (hp : l[p]? = some c) :
    Calls Tryz.prog 70 #[.pointer (some ⟨b, 0, none⟩), .int .i64 p] w fun e w' => e = .returned (.int .i64 c) ∧ Ch (fun _ => False) w w' := tget_in b W p c l w h hp
set_option maxHeartbeats 1000000 in
/-- All. -/
theorem tall_any (b W n : Nat) (l : List Nat) (w : World) (h : Tr w F b W l) (hn : l.length = n) :
    Calls Tryz.prog 47 #[.pointer (some ⟨b, 0, none⟩)] w fun e w' => ∃ g : Nat, e = .returned (.slice (some ⟨g, 0, none⟩) n n) ∧ Own w' 3 1 g n n ((asI l).map (Value.int .i64)) ∧ w.heap.size ≤ g ∧ Ch (fun _ => False) w w' := by
  have hs := h.short
  rw [hn] at hs
  have hmk := mkI w n (by omega)
  have H := Bx.mk h
  have HN := Bx.mk hn
  clear h hn
  go_enter Tryz.func47, Tryz.ntmps47
  go_wp2_with fail
  refine (tlen_any b W n l _ H.out HN.out).mono ?_
  rintro e w' ⟨rfl, rfl⟩
  go_wp2_with fail
  go_loopw [4, 10] (fun _ i wr => ∃ k : Nat, k ≤ n ∧ i = .int .i64 k ∧ Own wr 3 1 w.heap.size n n ((upI l k).map (Value.int .i64)) ∧ Ch (fun _ => False) w wr) (fun _ i _ => n - (intOf i).toNat)
  case atStart =>
    refine ⟨0, Nat.zero_le _, rfl, ?_, (Ch.refl _ _).alloc _⟩
    have := own_made1 w 3 (.int .i64 0) n (by omega)
    rw [upI_zero, HN.out, List.map_replicate]
    exact this
  case round =>
    obtain ⟨k, hk, rfl, hO, hC⟩ := hrel
    by_cases hlt : k < n
    · have hx : l[k]? = some (l.getD k 0) := by rw [List.getD_eq_getElem?_getD, List.getElem?_eq_getElem (by rw [HN.out]; exact hlt)]; rfl
      generalize l.getD k 0 = x at *
      have HX := Bx.mk hx
      have HO := Bx.mk hO
      have HC := Bx.mk hC
      have HT := Bx.mk (H.out.keep hC)
      clear hx hO hC
      go_wp2_with fail
      refine (tget_val b W k x l _ HT.out HX.out).mono ?_
      rintro e w1 ⟨rfl, hC1⟩
      have hO1 := HO.out.keep hC1
      have HC1 := Bx.mk (HC.out.trans hC1 (fun _ _ h => h))
      have hcell := hO1.cellI hlt
      have hfz := hO1.frozenAt k
      have hst := hO1.storedI k (x : Int)
      rw [upI_next HX.out] at hst
      have HST := Bx.mk hst
      generalize (upI l k).getD k 0 = old at *
      clear hC1 hst hO1
      go_wp2
      go_roundw
      case rel => exact ⟨k + 1, by omega, by go_num, HST.out.1, HC1.out.trans HST.out.2 (fun i hi (e : i = w.heap.size) => by omega)⟩
      case measure => simp [intOf]; omega
    · obtain rfl : k = n := by omega
      have hl := HN.out
      subst hl
      rw [upI_all] at hO
      go_wp2
      go_ret
      exact ⟨_, rfl, hO, Nat.le_refl _, hC⟩
end
end Go.Proofs.YtckkjccjkdidjaaGreatDoor.W

namespace Go.Proofs.YtckkjccjkdidjaaGreatDoor.W
open Go.RowKit Go.Oct Go.Bi Go.Wa

/-- A row under way: those of the kinds that are done, and of the one at hand those among the first j. -/
def spUp (p : Nat → Bool) (l : List Nat) (k j : Nat) : List Nat := (if k = 0 then [] else if k = 1 then l.filter (fun x => p x == false) else Wa.part p l) ++ (l.take j).filter (fun x => p x == decide (k = 1))
theorem spUp_zero (p : Nat → Bool) (l : List Nat) : spUp p l 0 0 = [] := by unfold spUp; rw [if_pos rfl]; rfl
theorem spUp_turn {p : Nat → Bool} {l : List Nat} {k : Nat} (hk : k < 2) : spUp p l k l.length = spUp p l (k + 1) 0 := by
  have hk' : k = 0 ∨ k = 1 := by omega
  unfold spUp
  rcases hk' with rfl | rfl
  · rw [if_pos rfl, if_neg (by decide), if_pos rfl, List.take_length, List.take_zero, List.filter_nil, List.append_nil, List.nil_append]
    rfl
  · rw [if_neg (by decide), if_pos rfl, if_neg (by decide), if_neg (by decide), List.take_length, List.take_zero, List.filter_nil, List.append_nil]
    rfl
theorem spUp_all (p : Nat → Bool) (l : List Nat) : spUp p l 2 0 = Wa.part p l := by
  unfold spUp
  rw [if_neg (by decide), if_neg (by decide), List.take_zero, List.filter_nil, List.append_nil]
theorem spUp_yes {p : Nat → Bool} {l : List Nat} {k j x : Nat} (h : l[j]? = some x) (hp : p x = decide (k = 1)) : spUp p l k (j + 1) = spUp p l k j ++ [x] := by
  have h1 : [x].filter (fun x => p x == decide (k = 1)) = [x] := by rw [List.filter_cons_of_pos (by rw [hp]; exact beq_self_eq_true _), List.filter_nil]
  unfold spUp
  rw [List.take_add_one, h, List.filter_append, List.append_assoc]
  exact congrArg _ (congrArg _ h1)
theorem spUp_no {p : Nat → Bool} {l : List Nat} {k j x : Nat} (h : l[j]? = some x) (hp : p x = !decide (k = 1)) : spUp p l k (j + 1) = spUp p l k j := by
  have h1 : [x].filter (fun x => p x == decide (k = 1)) = [] := by rw [List.filter_cons_of_neg (by rw [hp]; cases decide (k = 1) <;> decide), List.filter_nil]
  unfold spUp
  rw [List.take_add_one, h, List.filter_append]
  rw [show (some x).toList = [x] from rfl, h1, List.append_nil]
theorem spUp_len (p : Nat → Bool) (l : List Nat) (k j : Nat) : (spUp p l k j).length ≤ 2 * l.length := by
  unfold spUp
  rw [List.length_append]
  have h1 := List.length_filter_le (fun x => p x == false) l
  have h2 := List.length_filter_le (fun x => p x == decide (k = 1)) (l.take j)
  have h3 := part_len p l
  rw [List.length_take] at h2
  split
  · rw [List.length_nil]
    omega
  · split <;> omega

def vals (l : List Nat) : List Value := l.map fun x : Nat => Value.int .i64 (x : Int)
theorem vals_asI (l : List Nat) : (asI l).map (Value.int .i64) = vals l := by unfold asI vals; rw [List.map_map]; rfl
theorem run_mkI0 (n : Nat) (hn : n ≤ 1048576) (w : World) : (Instr.makeSlice 23 (.int .i64 0) (.int .i64 (n : Int))).run Tryz.prog w = .ok (.slice (some ⟨w.heap.size, 0, none⟩) 0 n) (w.alloc (.cells (madeCells #[.int .i64 0] n) 3)) := run_mk elemI n (by omega) (by omega) w

/-- A row under way in memory: B: the block in which it began; B and what is new alone may have turned. -/
structure Grow (w0 w : World) (B : Nat) (v : Value) (xs : List Nat) : Prop where
  own : w.ownsRow 0 3 1 v xs.length (vals xs)
  ch : Ch (fun k => k = B) w0 w
  lies : ∃ g, v.ownBlock = some g ∧ (g = B ∨ w0.heap.size ≤ g)

theorem own_form {w : World} {base : Nat} {e : TypeId} {size n : Nat} {v : Value} {xs : List Value} (h : w.ownsRow base e size v n xs) : (v = .slice none 0 0 ∧ n = 0) ∨ ∃ g c, v = .slice (some ⟨g, 0, none⟩) n c ∧ n ≤ c ∧ c ≤ maxLen := by
  rcases h.2 with ⟨rfl, rfl⟩ | ⟨g, cap, cur, rfl, _, _, h1, h2, _⟩
  · exact .inl ⟨rfl, rfl⟩
  · exact .inr ⟨g, cap, rfl, h1, h2⟩
section
variable {F G : Nat → Prop}
set_option maxHeartbeats 2000000 in
theorem split_any (l : List Nat) (p : Nat → Bool) (n c c' : Nat) (A A' : Option Addr) (w : World) (hs : Sl w F .i64 A n (asI l)) (hb : Sb w G A' n (l.map p)) (hn : n ≤ 131072) :
    Calls Tryz.prog 85 #[.slice A n c, .slice A' n c'] w fun e w' => ∃ (g cc : Nat), e = .returned (.slice (some ⟨g, 0, none⟩) n cc) ∧ Sl w' (fun b => b = g) .i64 (some ⟨g, 0, none⟩) n (asI (Wa.part p l)) ∧ w.heap.size ≤ g ∧ n ≤ cc ∧ cc ≤ maxLen ∧ Ch (fun _ => False) w w' := by
  have hl : l.length = n := by rw [← asI_len]; exact hs.len
  have hs' := hs.mono (G := fun b => b < w.heap.size) (fun b h _ => h)
  have hb' : Sb w (fun b => b < w.heap.size) A' n (l.map p) := Vs.mono hb (fun b h _ => h)
  have HL := Bx.mk hl
  have hmk := run_mkI0 n (by omega) w
  clear hb hs hl
  go_enter Tryz.func85, Tryz.ntmps85
  go_wp2_with fail
  obtain ⟨B, hB⟩ : ∃ B, w.heap.size = B := ⟨_, rfl⟩
  obtain ⟨w0, hw0⟩ : ∃ w0, ((w.alloc (.cells (madeCells #[.int .i64 0] n) 3)).alloc (.cells #[.bool false, .bool true] 4)) = w0 := ⟨_, rfl⟩
  have hC0 : Ch (fun _ => False) w w0 := by rw [← hw0]; exact (((Ch.refl (fun _ => False) w).alloc _).alloc _)
  have hcc : w0.cell? ⟨B + 1, 0, none⟩ = some (.bool false) ∧ w0.cell? ⟨B + 1, 1, none⟩ = some (.bool true) := by
    have := cells2 (w.alloc (.cells (madeCells #[.int .i64 0] n) 3)) (.bool false) (.bool true) 4
    rw [World.size_alloc, hB] at this
    rw [← hw0]
    exact this
  have hsz : w0.heap.size = B + 2 := by rw [← hw0, World.size_alloc, World.size_alloc, hB]
  have hG0 : Grow w0 w0 B (.slice (some ⟨B, 0, none⟩) 0 n) (spUp p l 0 0) := by
    refine ⟨?_, Ch.refl _ _, B, rfl, .inl rfl⟩
    rw [spUp_zero, ← hw0, ← hB]
    exact (World.ownsRow_made (base := 0) (e := 3) (size := 1) w (madeCells #[.int .i64 0] n) n (Nat.zero_le _) (by unfold maxLen; omega) (by simp [madeCells])).alloc _
  rw [hw0, hB]
  rw [hB] at hs' hb'
  have HS : Bx (Sl w0 (fun b => b < B) .i64 A n (asI l)) := ⟨hs'.ch hC0 (fun _ _ _ h => h)⟩
  have HB : Bx (Sb w0 (fun b => b < B) A' n (l.map p)) := ⟨Vs.ch hb' hC0 (fun _ _ _ h => h)⟩
  clear hs' hb'
  have HG0 := Bx.mk hG0
  have HC0 := Bx.mk hC0
  have HBB := Bx.mk hB
  have HCC := Bx.mk hcc
  clear hG0 hC0 hB hcc hw0
  go_loopw [5, 7, 8, 9, 15] (fun r _ _ _ i wr => ∃ k : Nat, k ≤ 2 ∧ i = .int .i64 k ∧ Grow w0 wr B r (spUp p l k 0)) (fun _ _ _ _ i _ => 2 - (intOf i).toNat)
  case atStart => exact ⟨0, by omega, rfl, HG0.out⟩
  case round =>
    obtain ⟨k, hk, rfl, hG⟩ := hrel
    by_cases hlt : k < 2
    · have hcell : wr.cell? ⟨B + 1, k, none⟩ = some (.bool (decide (k = 1))) := by
        have hk' : k = 0 ∨ k = 1 := by omega
        rcases hk' with rfl | rfl
        · exact hG.ch.cell (p := ⟨B + 1, 0, none⟩) (fun h => by have h' : B + 1 = B := h; omega) HCC.out.1
        · exact hG.ch.cell (p := ⟨B + 1, 1, none⟩) (fun h => by have h' : B + 1 = B := h; omega) HCC.out.2
      have HG := Bx.mk hG
      obtain ⟨o, ho⟩ : ∃ o, decide (k = 1) = o := ⟨_, rfl⟩
      rw [ho] at hcell
      have HO := Bx.mk ho
      have ek : decide ((k : Int) < 2) = true := by simp; omega
      clear hG ho
      go_wp2_with fail
      go_loopw [5, 8, 9, 21] (fun r _ _ i wq => ∃ j : Nat, j ≤ n ∧ i = .int .i64 j ∧ Grow w0 wq B r (spUp p l k j)) (fun _ _ _ i _ => n - (intOf i).toNat)
      case atStart => exact ⟨0, Nat.zero_le _, rfl, HG.out⟩
      case round =>
        obtain ⟨j, hj, rfl, hG⟩ := hrel
        by_cases hjl : j < n
        · obtain ⟨b1, o1, x0, rfl, _, hx0, hcx⟩ := (HS.out.ch hG.ch (fun b hb _ (h : b = B) => by omega)).at_ hjl
          obtain ⟨b2, o2, rfl, _, hcd⟩ := Sb.at_ (Vs.ch HB.out hG.ch (fun b hb _ (h : b = B) => by omega)) hjl
          have hx : l[j]? = some (l.getD j 0) := by rw [List.getD_eq_getElem?_getD, List.getElem?_eq_getElem (by rw [HL.out]; exact hjl)]; rfl
          have hx0' := hx0.out
          unfold asI at hx0'
          rw [List.getElem?_map, hx] at hx0'
          simp only [Option.map_some, Option.some.injEq] at hx0'
          have hd : (l.map p).getD j false = p (l.getD j 0) := by rw [List.getD_eq_getElem?_getD, List.getElem?_map, hx]; rfl
          rw [hd] at hcd
          rw [← hx0'] at hcx
          generalize l.getD j 0 = x at *
          have hlen := spUp_len p l k j
          rw [HL.out] at hlen
          have HX := Bx.mk hx
          have HG2 := Bx.mk hG
          obtain ⟨A2, c2, rfl, _, _⟩ := own_shape hG.own
          clear hx hx0 hx0' hd hG
          by_cases hp : p x = o
          · have HY := Bx.mk (spUp_yes (p := p) (k := k) HX.out (by rw [hp, HO.out]))
            rw [hp] at hcd
            have HP := Bx.mk hp
            clear hp
            go_wp2_with (at_builtin; refine wp_app rfl (.tmp 32) (.tmp 34) elemI rfl rfl (HG2.out.own.alloc _) rfl (Vs.one _ _ _) ?c1 ?c2 ?c3 ?_)
            case c1 => intro u hu; simp at hu; subst hu; rfl
            case c2 => omega
            case c3 => omega
            intro v' w2 ho1 hg1 hb1
            have hG3 : Grow w0 w2 B v' (spUp p l k (j + 1)) := by
              have hch := (HG2.out.ch.alloc (.cells #[.int .i64 x] 3)).grown hg1 (fun q hq => by
                obtain ⟨q', hq', hl⟩ := HG2.out.lies
                obtain rfl : q' = q := Option.some.inj (hq'.symm.trans hq)
                exact hl)
              refine ⟨?_, hch, ?_⟩
              · rw [HY.out, List.length_append]
                unfold vals at *
                rw [List.map_append]
                exact ho1
              · rcases hb1 with h | h
                · rw [h]
                  exact HG2.out.lies
                · have := HG2.out.ch.size
                  exact ⟨_, h, .inr (by omega)⟩
            have HG3 := Bx.mk hG3
            clear hG3 ho1 hg1 hb1
            go_wp2
            go_roundw
            case rel => exact ⟨j + 1, by omega, by go_num, HG3.out⟩
            case measure => simp [intOf]; omega
          · have hp' : p x = !o := by cases o <;> cases h : p x <;> simp_all
            have HY := Bx.mk (spUp_no (p := p) (k := k) HX.out (by rw [hp', HO.out]))
            have hne : ((!o) == o) = false := by cases o <;> rfl
            rw [hp'] at hcd
            clear hp hp'
            go_wp2
            go_roundw
            case rel => exact ⟨j + 1, by omega, by go_num, by rw [HY.out]; exact HG2.out⟩
            case measure => simp [intOf]; omega
        · obtain rfl : j = n := by omega
          have hl := HL.out
          subst hl
          rw [spUp_turn hlt] at hG
          have HG2 := Bx.mk hG
          clear hG
          go_wp2
          go_roundw
          case rel => exact ⟨k + 1, by omega, by go_num, HG2.out⟩
          case measure => simp [intOf]; omega
    · obtain rfl : k = 2 := by omega
      rw [spUp_all] at hG
      have hpl : (Wa.part p l).length = n := by rw [part_len]; exact HL.out
      have hC : Ch (fun _ => False) w wr := HC0.out.trans hG.ch (fun i hi (e : i = B) => by have := HBB.out; omega)
      have ho := hG.own
      rw [hpl] at ho
      obtain ⟨g', hg', hlies⟩ := hG.lies
      rcases own_form ho with ⟨rfl, h0⟩ | ⟨g, cap, rfl, h1, h2⟩
      · cases hg'
      · have hg : B ≤ g := by
          obtain rfl : g = g' := Option.some.inj hg'
          omega
        have HR : Bx (Sl wr (fun b => b = g) .i64 (some ⟨g, 0, none⟩) n (asI (Wa.part p l))) := ⟨by
          rw [← vals_asI] at ho
          exact Own.sl ⟨ho⟩⟩
        have HC := Bx.mk hC
        clear hG ho hlies hC hpl
        go_wp2
        go_ret
        exact ⟨g, cap, rfl, HR.out, by have := HBB.out; omega, h1, h2, HC.out⟩
end
end Go.Proofs.YtckkjccjkdidjaaGreatDoor.W
