/- Lemmas and contracts of this proof. Conditions: said at each. -/
import Derived.Test.YtbkakhfepiooaaaGreatDoorQGShSpec
import Derived.Test.YtbkakhfepiooaaaGreatDoorShLaid
import Derived.Lib.SortBridge
namespace Go.Proofs.YtbkakhfepiooaaaGreatDoor
open Go.RowKit Go.Oct Go.Su Go.Sg Go.Om Go.Sh Go.Sort Go.Shelf Go.Lib

theorem lessS_eq (x : List UInt8) : ∀ y : List UInt8, Op.bytesLess x y = decide (x < y) := by
  induction x with
  | nil => intro y; cases y <;> simp [Op.bytesLess]
  | cons a x ih =>
    intro y
    cases y with
    | nil => simp [Op.bytesLess]
    | cons b y =>
      unfold Op.bytesLess
      rw [ih y, Bool.eq_iff_iff]
      simp only [List.cons_lt_cons_iff, Bool.or_eq_true, Bool.and_eq_true, decide_eq_true_eq, beq_iff_eq]
def cmpS (S T : ByteArray) : Int := if Op.bytesLess S.toList T.toList then -1 else if S.toList == T.toList then 0 else 1
def cmpI (a b : Int) : Int := if a < b then -1 else if b < a then 1 else 0
theorem isnanS_any (S : ByteArray) (w : World) : Calls Tryz.prog 55 #[.string S] w fun e w' => e = .returned (.bool false) ∧ w = w' := by
  go_enter Tryz.func55, Tryz.ntmps55
  go_wp2
  go_ret
  exact ⟨by simp, rfl⟩
theorem isnanI_any (a : Int) (w : World) : Calls Tryz.prog 56 #[.int .i64 a] w fun e w' => e = .returned (.bool false) ∧ w = w' := by
  go_enter Tryz.func56, Tryz.ntmps56
  go_wp2
  go_ret
  exact ⟨by simp, rfl⟩
theorem compareS_any (S T : ByteArray) (w : World) : Calls Tryz.prog 28 #[.string S, .string T] w fun e w' => e = .returned (.int .i64 (cmpS S T)) ∧ w = w' := by
  obtain ⟨o1, h1⟩ : ∃ o, Op.bytesLess S.toList T.toList = o := ⟨_, rfl⟩
  obtain ⟨o2, h2⟩ : ∃ o, (S.toList == T.toList) = o := ⟨_, rfl⟩
  have HZ : Bx (cmpS S T = if o1 then -1 else if o2 then 0 else 1) := ⟨by unfold cmpS; rw [h1, h2]⟩
  cases o1 <;> cases o2 <;>
    (go_enter Tryz.func28, Tryz.ntmps28
     go_wp2_with fail
     refine (isnanS_any S w).mono ?_
     rintro e w1 ⟨rfl, rfl⟩
     go_wp2_with fail
     refine (isnanS_any T w).mono ?_
     rintro e w1 ⟨rfl, rfl⟩
     go_wp2_with fail
     go_ret
     exact ⟨ret_int (by rw [HZ.out]; rfl), rfl⟩)
theorem compareI_any (a b : Int) (w : World) : Calls Tryz.prog 29 #[.int .i64 a, .int .i64 b] w fun e w' => e = .returned (.int .i64 (cmpI a b)) ∧ w = w' := by
  obtain ⟨z, hz⟩ : ∃ z, cmpI a b = z := ⟨_, rfl⟩
  rw [hz]
  unfold cmpI at hz
  by_cases h1 : a < b
  · rw [if_pos h1] at hz
    have d1 := decide_eq_true h1
    subst hz
    go_enter Tryz.func29, Tryz.ntmps29
    go_wp2_with fail
    refine (isnanI_any a w).mono ?_
    rintro e w1 ⟨rfl, rfl⟩
    go_wp2_with fail
    refine (isnanI_any b w).mono ?_
    rintro e w1 ⟨rfl, rfl⟩
    go_wp2_with fail
    go_ret
    exact ⟨rfl, rfl⟩
  · rw [if_neg h1] at hz
    have d1 := decide_eq_false h1
    by_cases h2 : b < a
    · rw [if_pos h2] at hz
      have d2 := decide_eq_true h2
      subst hz
      go_enter Tryz.func29, Tryz.ntmps29
      go_wp2_with fail
      refine (isnanI_any a w).mono ?_
      rintro e w1 ⟨rfl, rfl⟩
      go_wp2_with fail
      refine (isnanI_any b w).mono ?_
      rintro e w1 ⟨rfl, rfl⟩
      go_wp2_with fail
      go_ret
      exact ⟨rfl, rfl⟩
    · rw [if_neg h2] at hz
      have d2 := decide_eq_false h2
      subst hz
      go_enter Tryz.func29, Tryz.ntmps29
      go_wp2_with fail
      refine (isnanI_any a w).mono ?_
      rintro e w1 ⟨rfl, rfl⟩
      go_wp2_with fail
      refine (isnanI_any b w).mono ?_
      rintro e w1 ⟨rfl, rfl⟩
      go_wp2_with fail
      go_ret
      exact ⟨rfl, rfl⟩
def orI (x y : Int) : Int := if x = 0 then y else x
theorem or_any (x y : Int) (g : Nat) (w : World) (h0 : w.cell? ⟨g, 0, none⟩ = some (.int .i64 x)) (h1 : w.cell? ⟨g, 1, none⟩ = some (.int .i64 y)) : Calls Tryz.prog 27 #[.slice (some ⟨g, 0, none⟩) 2 2] w fun e w' => e = .returned (.int .i64 (orI x y)) ∧ w = w' := by
  obtain ⟨z, hz⟩ : ∃ z, orI x y = z := ⟨_, rfl⟩
  rw [hz]
  unfold orI at hz
  by_cases e1 : x = 0
  · subst e1
    rw [if_pos rfl] at hz
    subst hz
    by_cases e2 : y = 0
    · subst e2
      go_enter Tryz.func27, Tryz.ntmps27
      go_wp2
      go_rounds 3
      all_goals
        go_wp2
        go_ret
        exact ⟨rfl, rfl⟩
    · have d2 : (y == 0) = false := by simpa using e2
      have d3 : (y != 0) = true := by simpa using e2
      go_enter Tryz.func27, Tryz.ntmps27
      go_wp2
      go_rounds 3
      all_goals
        go_wp2
        go_ret
        exact ⟨rfl, rfl⟩
  · rw [if_neg e1] at hz
    subst hz
    have d3 : (x != 0) = true := by simpa using e1
    go_enter Tryz.func27, Tryz.ntmps27
    go_wp2
    go_rounds 3
    all_goals
      go_wp2
      go_ret
      exact ⟨rfl, rfl⟩
/-- How Find compares places. -/
def cmpM (x y : Key × Int) : Int := orI (cmpS ⟨x.1.toArray⟩ ⟨y.1.toArray⟩) (cmpI x.2 y.2)
set_option maxRecDepth 100000 in
theorem fclosure_any (x y : Key × Int) (W : World) : Calls Tryz.prog 26 #[.agg #[kv x.1, .int .i64 x.2], .agg #[kv y.1, .int .i64 y.2]] W fun e w' => e = .returned (.int .i64 (cmpM x y)) ∧ ∃ q os', w' = grow (W.drewN q) os' := by
  obtain ⟨a, i⟩ := x
  obtain ⟨b, j⟩ := y
  obtain ⟨S, hS⟩ : ∃ S : ByteArray, (⟨a.toArray⟩ : ByteArray) = S := ⟨_, rfl⟩
  obtain ⟨T, hT⟩ : ∃ T : ByteArray, (⟨b.toArray⟩ : ByteArray) = T := ⟨_, rfl⟩
  have ea : kv a = .string S := by unfold kv; rw [hS]
  have eb : kv b = .string T := by unfold kv; rw [hT]
  show Calls Tryz.prog 26 #[.agg #[kv a, .int .i64 i], .agg #[kv b, .int .i64 j]] W fun e w' => e = .returned (.int .i64 (orI (cmpS ⟨a.toArray⟩ ⟨b.toArray⟩) (cmpI i j))) ∧ ∃ q os', w' = grow (W.drewN q) os'
  rw [ea, eb, hS, hT]
  clear ea eb hS hT
  obtain ⟨w1, hw1⟩ : ∃ w1, W.alloc (.cells #[.string S, .int .i64 i] 73) = w1 := ⟨_, rfl⟩
  obtain ⟨w2, hw2⟩ : ∃ w2, w1.alloc (.cells #[.string T, .int .i64 j] 73) = w2 := ⟨_, rfl⟩
  have hc2 : Ch (fun _ => False) w1 w2 := by rw [← hw2]; exact (Ch.refl _ _).alloc _
  have hs1 : w1.heap.size = W.heap.size + 1 := by rw [← hw1, World.size_alloc]
  have a0 : w2.cell? ⟨W.heap.size, 0, none⟩ = some (.string S) := hc2.cell (fun h => h) (by rw [← hw1]; exact ncells_at (j := 0) rfl)
  have a1 : w2.cell? ⟨W.heap.size, 1, none⟩ = some (.int .i64 i) := hc2.cell (fun h => h) (by rw [← hw1]; exact ncells_at (j := 1) rfl)
  have b0 : w2.cell? ⟨W.heap.size + 1, 0, none⟩ = some (.string T) := by rw [← hs1, ← hw2]; exact ncells_at (j := 0) rfl
  have b1 : w2.cell? ⟨W.heap.size + 1, 1, none⟩ = some (.int .i64 j) := by rw [← hs1, ← hw2]; exact ncells_at (j := 1) rfl
  have HG : Bx (∃ os, w2 = grow W os) := ⟨by rw [← hw2, ← hw1, alloc_eq_grow, alloc_eq_grow, grow_grow]; exact ⟨_, rfl⟩⟩
  have HC1 := Bx.mk (compareS_any S T (w2.drewN 1))
  have HC2 := Bx.mk (compareI_any i j (w2.drewN 1))
  clear hc2
  go_enter Tryz.func26, Tryz.ntmps26
  go_wp2_with fail
  clear hw1 hw2 hs1
  generalize W.heap.size = B at *
  obtain ⟨zs, hzs⟩ : ∃ zs, cmpS S T = zs := ⟨_, rfl⟩
  obtain ⟨zi, hzi⟩ : ∃ zi, cmpI i j = zi := ⟨_, rfl⟩
  rw [hzs] at HC1
  rw [hzi] at HC2
  have HZS := Bx.mk hzs
  have HZI := Bx.mk hzi
  clear hzs hzi
  refine wp_region_still_tail 10 (by kernel_rfl) (by kernel_rfl) ?_
  simp only [List.take_succ_cons, List.take_zero, List.drop_succ_cons, List.drop_zero]
  repeat still_step
  still_call (HC1.out.mono fun _ _ h => ⟨h.1, h.2.symm⟩)
  repeat still_step
  still_call (HC2.out.mono fun _ _ h => ⟨h.1, h.2.symm⟩)
  repeat still_step
  refine wpStill_nil ?_
  change wpList _ _ _ _ _ (w2.drewN 1)
  have HW3 : Bx (∃ os, w2.drewN 1 = grow (W.drewN 1) os) := ⟨by obtain ⟨os, h⟩ := HG.out; exact ⟨os, by rw [h]; rfl⟩⟩
  clear HG
  have HR := Bx.mk (or_any zs zi (w2.drewN 1).heap.size ((w2.drewN 1).alloc (.cells #[.int .i64 zs, .int .i64 zi] 3)) (ncells_at (j := 0) rfl) (ncells_at (j := 1) rfl))
  generalize w2.drewN 1 = w3 at *
  go_wp2_with fail
  refine HR.out.mono ?_
  rintro e w4 ⟨rfl, rfl⟩
  clear HR
  go_wp2_with fail
  go_ret
  rw [HZS.out, HZI.out]
  obtain ⟨os, hos⟩ := HW3.out
  exact ⟨rfl, 1, _, by rw [hos, alloc_eq_grow, grow_grow]⟩
theorem atsS_sorted (t p : List Int) : (ats t p).Pairwise (fun a b => a < b) := by
  unfold ats
  split
  · exact List.Pairwise.nil
  · exact List.Pairwise.filter _ List.pairwise_lt_range
theorem cmpS_neg (a b : Key) : cmpS ⟨a.toArray⟩ ⟨b.toArray⟩ = if a < b then -1 else if a = b then 0 else 1 := by
  unfold cmpS
  rw [Lib.toList_data, Lib.toList_data, lessS_eq]
  by_cases h1 : a < b
  · simp [h1]
  · by_cases h2 : a = b
    · simp [h2]
    · simp [h1, h2]
/-- The order of places. -/
def ltM (x y : Key × Int) : Prop := x.1 < y.1 ∨ (x.1 = y.1 ∧ x.2 < y.2)
theorem cmpM_lt (x y : Key × Int) : cmpM x y < 0 ↔ ltM x y := by
  unfold cmpM ltM orI
  rw [cmpS_neg]
  by_cases h1 : x.1 < y.1
  · simp [h1]
  · rw [if_neg h1]
    by_cases h2 : x.1 = y.1
    · rw [if_pos h2, if_pos rfl, h2]
      unfold cmpI
      by_cases h3 : x.2 < y.2
      · simp [h3]
      · rw [if_neg h3]
        by_cases h4 : y.2 < x.2
        · simp [h4, h3, key_irrefl]
        · simp [h4, h3, key_irrefl]
    · rw [if_neg h2]
      simp [h1, h2]
theorem ltM_of (x y : Key × Int) : ltOf cmpM x y = true ↔ ltM x y := by
  unfold ltOf
  rw [decide_eq_true_eq]
  exact cmpM_lt x y
theorem ltM_irrefl (x : Key × Int) : ¬ ltM x x := fun h => by
  rcases h with h | ⟨_, h⟩
  · exact key_irrefl _ h
  · omega
theorem ltM_trans {x y z : Key × Int} (h : ltM x y) (k : ltM y z) : ltM x z := by
  rcases h with h | ⟨e, h⟩ <;> rcases k with k | ⟨e', k⟩
  · exact .inl (key_trans h k)
  · exact .inl (by rw [← e']; exact h)
  · exact .inl (by rw [e]; exact k)
  · exact .inr ⟨e.trans e', by omega⟩
theorem ltM_tri (x y : Key × Int) : ltM x y ∨ x = y ∨ ltM y x := by
  rcases key_tri x.1 y.1 with h | h | h
  · exact .inl (.inl h)
  · rcases Int.lt_trichotomy x.2 y.2 with k | k | k
    · exact .inl (.inr ⟨h, k⟩)
    · exact .inr (.inl (Prod.ext h k))
    · exact .inr (.inr (.inr ⟨h.symm, k⟩))
  · exact .inr (.inr (.inl h))
theorem swoM : SWO (ltOf cmpM) where
  irrefl x := by
    cases h : ltOf cmpM x x with
    | false => rfl
    | true => exact absurd ((ltM_of x x).1 h) (ltM_irrefl x)
  trans x y z h1 h2 := (ltM_of x z).2 (ltM_trans ((ltM_of x y).1 h1) ((ltM_of y z).1 h2))
  ntrans x y z h1 h2 := by
    cases h : ltOf cmpM x z with
    | false => rfl
    | true =>
      have hxz := (ltM_of x z).1 h
      have n1 : ¬ ltM x y := fun k => by rw [(ltM_of x y).2 k] at h1; cases h1
      have n2 : ¬ ltM y z := fun k => by rw [(ltM_of y z).2 k] at h2; cases h2
      rcases ltM_tri x y with k | k | k
      · exact absurd k n1
      · subst k; exact absurd hxz n2
      · exact absurd (ltM_trans k hxz) n2
/-- Places in their order. -/
def sortM (l : List (Key × Int)) : List (Key × Int) := l.mergeSort fun x y => !(ltOf cmpM) y x
theorem sortM_id {l : List (Key × Int)} (h : l.Pairwise ltM) : sortM l = l := by
  refine List.mergeSort_of_pairwise (h.imp fun {x y} hxy => ?_)
  cases k : ltOf cmpM y x with
  | false => rfl
  | true => exact absurd (ltM_trans hxy ((ltM_of y x).1 k)) (ltM_irrefl x)
def encM (x : Key × Int) : List Value := [kv x.1, .int .i64 x.2]
theorem valM_len (l : List (Key × Int)) : (valM l).length = l.length * 2 := by
  induction l with
  | nil => rfl
  | cons a l ih =>
    show (kv a.1 :: Value.int .i64 a.2 :: valM l).length = _
    rw [List.length_cons, List.length_cons, ih, List.length_cons]
    omega
theorem flat_at (l : List (Key × Int)) (j : Nat) (hj : j < l.length * 2) : (valM l)[j]? = some (flatK encM 2 l.toArray)[j]! := by
  rw [get_flatK _ _ _ _ (by simpa using hj)]
  have hi : j / 2 < l.length := by omega
  obtain ⟨c1, c2⟩ := valM_at (List.getElem?_eq_getElem hi)
  have e : l.toArray[j / 2]! = l[j / 2] := by rw [getElem!_pos l.toArray (j / 2) (by simpa using hi)]; simp
  rw [e]
  rcases Nat.mod_two_eq_zero_or_one j with hm | hm
  · rw [show j / 2 * 2 = j by omega] at c1
    rw [c1, hm]
    rfl
  · rw [show j / 2 * 2 + 1 = j by omega] at c2
    rw [c2, hm]
    rfl
theorem flatM (l : List (Key × Int)) : (flatK encM 2 l.toArray).toList = valM l := by
  refine List.ext_getElem? fun j => ?_
  by_cases hj : j < l.length * 2
  · rw [flat_at l j hj, List.getElem?_eq_getElem (by simpa using hj), getElem!_pos (flatK encM 2 l.toArray) j (by simpa using hj)]
    simp
  · rw [List.getElem?_eq_none (by simp; omega), List.getElem?_eq_none (by rw [valM_len]; omega)]
theorem own_setCellsS {e : TypeId} {s g n c : Nat} : ∀ (vs : List Value) (off : Nat) (w : World) (us : List Value), Own w e s g n c us → off + vs.length ≤ n * s → Own (w.setCells g off vs) e s g n c (us.take off ++ (vs ++ us.drop (off + vs.length)))
  | [], off, w, us, h, _ => by simpa [World.setCells] using h
  | v :: vs, off, w, us, h, hl => by
    have hu := h.len
    rw [List.length_cons] at hl
    have h1 := own_setCellsS vs (off + 1) _ _ (h.stored off v).1 (by omega)
    rw [World.setCells]
    have e1 : (us.set off v).take (off + 1) = us.take off ++ [v] := by
      rw [List.take_add_one, List.take_set_of_le (Nat.le_refl _), List.getElem?_set_self (by omega)]
      rfl
    have e2 : (us.set off v).drop (off + 1 + vs.length) = us.drop (off + (vs.length + 1)) := by
      rw [List.drop_set_of_lt (by omega), show off + 1 + vs.length = off + (vs.length + 1) by omega]
    rw [e1, e2, List.append_assoc] at h1
    exact h1
theorem own_laid {e : TypeId} {s g n c : Nat} {vs us : List Value} {w : World} (h : Own w e s g n c us) (hl : vs.length = n * s) : Own (w.setCells g 0 vs) e s g n c vs := by
  have h1 := own_setCellsS vs 0 w us h (by omega)
  rw [List.take_zero, List.nil_append, Nat.zero_add, hl, List.drop_eq_nil_of_le (by rw [h.len]; exact Nat.le_refl _), List.append_nil] at h1
  exact h1
theorem ch_setCells (g : Nat) : ∀ (vs : List Value) (off : Nat) (w : World), Ch (fun b => b = g) w (w.setCells g off vs)
  | [], off, w => by simpa [World.setCells] using Ch.refl _ w
  | v :: vs, off, w => by
    rw [World.setCells]
    exact ((Ch.refl (fun b => b = g) w).setCell (p := ⟨g, off, none⟩) (.inl rfl) v).trans (ch_setCells g vs _ _) (fun _ _ h => h)
theorem ch_growS {S : Nat → Prop} {a w : World} (h : Ch S a w) (os : Array Obj) : Ch S a (grow w os) :=
  ⟨h.os, h.tape, h.output, Nat.le_trans h.size (by show w.heap.size ≤ (w.heap ++ os).size; rw [Array.size_append]; omega), fun k hk hS => (Sort.heap_grow_old w os (Nat.lt_of_lt_of_le hk h.size)).trans (h.block k hk hS)⟩
/-- What SortFunc leaves of places. -/
def SortedM (l : List (Key × Int)) (A : Option Addr) (n c : Nat) (w0 w : World) (e : Ending) (w' : World) : Prop := e = .returned (.tuple #[]) ∧ Gs 73 2 w0 w' (.slice A n c) n (valM (sortM l)) ∧ Ch (fun b => (Value.slice A n c).ownBlock = some b) w w'
theorem sortm_any (l : List (Key × Int)) (A : Option Addr) (n c : Nat) (w0 w : World) (h : Gs 73 2 w0 w (.slice A n c) n (valM l)) (hl : l.length = n) (hn : n ≤ 4000000000000) :
    Calls Tryz.prog 25 #[.slice A n c, .func (.func 26) #[] #[]] w (SortedM l A n c w0 w) := by
  rcases Nat.eq_zero_or_pos n with h0 | h0
  · subst h0
    obtain rfl : l = [] := List.eq_nil_of_length_eq_zero hl
    have hc := AnyF.slices_SortFunc_none Tryz.shSort A c (.func (.func 26) #[] #[]) w
    refine hc.mono ?_
    rintro e w' ⟨rfl, rfl⟩
    exact ⟨rfl, by rw [show sortM [] = [] by simp [sortM]]; exact h, Ch.refl _ _⟩
  · obtain ⟨g, rfl, hO⟩ : ∃ g, A = some ⟨g, 0, none⟩ ∧ Own w 73 2 g n c (valM l) := by
      rcases h.own.2 with ⟨_, h9⟩ | ⟨g, cap, cur, hv, _⟩
      · omega
      · injection hv with e1 _ e2
        subst e1 e2
        exact ⟨g, rfl, ⟨h.own⟩⟩
    have hH : HoldsK encM 2 w g 0 l.toArray := by
      intro j hj
      rw [size_flatK, List.size_toArray] at hj
      refine ⟨?_, by rw [Nat.zero_add]; exact hO.frozenAt j⟩
      rw [Nat.zero_add]
      exact hO.cellAt (flat_at l j hj)
    have eg : ∀ args w, (callFunc 26 args).run Tryz.prog w = .ok (.enter 26 args) w := enters_of Tryz.func26 (by kernel_rfl) rfl
    have hcmp : CmpLays Tryz.prog 26 #[] encM 2 cmpM g 0 l.toArray.size w := by
      intro m os dk _ x y
      exact fclosure_any x y (sortWorldK encM 2 w g 0 m dk os)
    have hcon := AnyQ.slices_SortFunc_total Tryz.shSort 2 Tryz.isAgg73 Tryz.sizeOf73 encM (fun x => rfl) (fun x v hx => by
      unfold encM at hx
      simp at hx
      rcases hx with rfl | rfl <;> rfl) cmpM swoM 26 #[] g 0 c l.toArray w eg hcmp hH hO.lt (by rw [List.size_toArray]; omega) (fun x y h1 h2 => by
      rcases ltM_tri x y with k | k | k
      · rw [(ltM_of x y).2 k] at h1; cases h1
      · exact k
      · rw [(ltM_of y x).2 k] at h2; cases h2)
    change Calls Tryz.prog 25 _ _ _ at hcon
    rw [List.size_toArray, hl] at hcon
    refine hcon.mono ?_
    rintro e w' ⟨rfl, k, os, rfl⟩
    have es : (l.toArray.toList.mergeSort fun x y => !(ltOf cmpM) y x) = sortM l := rfl
    rw [es]
    have hlen : (sortM l).length = n := by unfold sortM; rw [List.length_mergeSort, hl]
    have hw : sortWorldK encM 2 w g 0 k (sortM l).toArray os = grow ((w.drewN k).setCells g 0 (valM (sortM l))) os := by
      unfold sortWorldK putRowK
      have := Lib.sorted_world id w g 0 k _ (flatK encM 2 (sortM l).toArray).toList os hH (by rw [Array.length_toList, size_flatK, size_flatK, List.size_toArray, List.size_toArray, hlen, hl])
      rw [Array.toArray_toList, List.map_id, flatM] at this
      exact this
    rw [hw]
    have hOd : Own (w.drewN k) 73 2 g n c (valM l) := hO.keep ((Ch.refl (fun _ => False) w).drewN k)
    have h1 := own_laid (vs := valM (sortM l)) hOd (by rw [valM_len, hlen])
    have hcc : Ch (fun b => b = g) w (grow ((w.drewN k).setCells g 0 (valM (sortM l))) os) := ch_growS (((Ch.refl (fun b => b = g) w).drewN k).trans (ch_setCells g _ 0 _) (fun _ _ h => h)) os
    have hch := hcc.mono (T := fun b => b = g) (S := fun b => (Value.slice (some ⟨g, 0, none⟩) n c).ownBlock = some b) fun i _ hi => by subst hi; rfl
    exact ⟨rfl, ⟨(h1.keep (ch_growS (Ch.refl _ _) os)).own, h.lies, h.ch.trans hch (fun i hi hb => by have := h.lies i hb; omega)⟩, hch⟩
end Go.Proofs.YtbkakhfepiooaaaGreatDoor
