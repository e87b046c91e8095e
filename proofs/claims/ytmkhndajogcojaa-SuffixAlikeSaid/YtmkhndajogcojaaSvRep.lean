/-
  The contract of slices.Repeat at a row of one integer.
-/
import Derived.Test.YtmkhndajogcojaaSvUp
import Derived.Test.YtmkhndajogcojaaSuLaid
import Derived.BigRegion
import Derived.Laws.CopyRow
import Derived.Laws.CopyOwn
namespace Go.Proofs.Ytmkhndajogcojaa
open Go.RowKit Go.Oct Go.Su

theorem splice_take (C us : List Value) (n off m : Nat) (hu : us.length = m) (h : off + m ≤ n) (hn : n ≤ C.length) : (C.take off ++ (us ++ C.drop (off + m))).take n = (C.take n).take off ++ (us ++ (C.take n).drop (off + m)) := by
  rw [List.take_append, List.take_append, List.take_take, List.take_take, List.drop_take, List.length_take, hu, Nat.min_eq_left (by omega : off ≤ C.length), Nat.min_eq_right (by omega : off ≤ n), Nat.min_eq_left (by omega : off ≤ n), List.take_of_length_le (by omega : us.length ≤ n - off), Nat.sub_sub]
/-- copy into a part of a row of the call's own. -/
theorem wp_copy_at {P : Program} {t e : TypeId} {z : Value} {bytes : Nat} {F : Nat → Prop} {w : World} {ops : Array Oper} {rest : List Oper} {o : Oper} {a : Act} {Q : Exit → Act → World → Prop} (hgd : o.guard = none) (d s : Operand) (T : Elem P t e z bytes)
    (ho : o.op = .call { callee := .builtin .copy, args := #[d, s], argTypes := #[t, t] }) {g n off dl dc cap : Nat} {xs : List Value} (hd : a.eval d = .slice (some ⟨g, off, none⟩) dl dc) (hown : w.ownsRow 0 e 1 (.slice (some ⟨g, 0, none⟩) n cap) n xs) (hfit : off + dl ≤ n)
    {A : Option Addr} {c m : Nat} {us : List Value} (hs : a.eval s = .slice A m c) (hr : Vs w F A m us) (h1 : ∀ u ∈ us, u.oneCell' = true) (hm : m ≤ dl)
    (h : ∀ w', w'.ownsRow 0 e 1 (.slice (some ⟨g, 0, none⟩) n cap) n (xs.take off ++ (us ++ xs.drop (off + m))) → Ch (fun k => k = g) w w' → wpList P ops Q rest (a.put o.dst (goInt m)) w') : wpList P ops Q (o :: rest) a w := by
  obtain ⟨i, hi, hz, hsz, hby⟩ := info_parts T.info
  have hsz1 : (P.info? e).map (·.size) = some 1 := by rw [hi]; simp [hsz]
  have hl := hr.1
  have hxl := hown.1
  by_cases h0 : m = 0
  · subst h0
    obtain rfl : us = [] := List.eq_nil_of_length_eq_zero hl
    refine wpList_copy_nothing hgd d s t t ho e T.t hsz1 _ _ _ _ _ _ hd hs (Nat.zero_min _) (h w ?_ (Ch.refl _ _))
    simpa using hown
  · obtain ⟨b, of', rfl, _, hc⟩ := hr.2 (by omega)
    rcases hown.2 with ⟨e0, _⟩ | ⟨g', cap', cur, e0, hb, hg, h2, h3, h4, h5⟩
    · cases e0
    · injection e0 with e1 e2 e3
      injection e1 with e1
      injection e1 with e1
      subst e1 e3
      rw [Nat.mul_one] at h4 h5 hxl
      have hcur : cur.toList.length = cap := by simpa using h4
      refine wpList_copy_own hgd d s t t ho e T.t hsz1 g off dl dc ⟨b, of', none⟩ m c hd hs cur e hg us (by rw [hl]; exact (Nat.min_eq_left hm).symm) (fun j v hv => ?_) (by rw [hl, h4]; omega) h1 ?_
      · have hadd : (⟨b, of', none⟩ : Addr).add j = ⟨b, of' + j, none⟩ := by unfold Addr.add; split <;> simp_all
        rw [hadd]
        exact hc j v hv
      · rw [hl]
        have hx : xs = cur.toList.take n := h5.symm
        refine h _ ⟨?_, .inr ⟨g, cap, _, rfl, hb, setRow_heap w g cur _ e (0, 0) hg, h2, h3, ?_, ?_⟩⟩ ⟨rfl, rfl, rfl, by simp [World.setRow], fun k hk hn => setRow_other w g k _ hn⟩
        · rw [List.length_append, List.length_append, List.length_take, List.length_drop, hl]
          omega
        · simp
          omega
        · rw [Nat.mul_one, hx]
          exact splice_take cur.toList us n off m hl (by omega) (by omega)

/-- .. as a run: the source may be longer than the part. -/
theorem run_copy_at {P : Program} {t e : TypeId} {z : Value} {bytes : Nat} {F : Nat → Prop} {w : World} (ty : TypeId) (T : Elem P t e z bytes)
    {g n off dl dc cap : Nat} {xs : List Value} (hown : w.ownsRow 0 e 1 (.slice (some ⟨g, 0, none⟩) n cap) n xs) (hfit : off + dl ≤ n)
    {b of' sl c m : Nat} {us : List Value} (hr : Vs w F (some ⟨b, of', none⟩) m us) (h1 : ∀ u ∈ us, u.oneCell' = true) (hm : m = Nat.min sl dl) (h0 : 0 < m) :
    ∃ w', (Builtin.copy_ #[t, t] ty #[.slice (some ⟨g, off, none⟩) dl dc, .slice (some ⟨b, of', none⟩) sl c]).run P w = .ok (goInt m) w' ∧ w'.ownsRow 0 e 1 (.slice (some ⟨g, 0, none⟩) n cap) n (xs.take off ++ (us ++ xs.drop (off + m))) ∧ Ch (fun k => k = g) w w' := by
  obtain ⟨i, hi, hz, hsz, hby⟩ := info_parts T.info
  have hsz1 : (P.info? e).map (·.size) = some 1 := by rw [hi]; simp [hsz]
  have hl := hr.1
  have hxl := hown.1
  have hmd : m ≤ dl := by rw [hm]; exact Nat.min_le_right _ _
  obtain ⟨b', of2, he, _, hc⟩ := hr.2 h0
  injection he with he
  injection he with he1 he2
  subst he1 he2
  rcases hown.2 with ⟨e0, _⟩ | ⟨g', cap', cur, e0, hb, hg, h2, h3, h4, h5⟩
  · cases e0
  · injection e0 with e1 e2 e3
    injection e1 with e1
    injection e1 with e1
    subst e1 e3
    rw [Nat.mul_one] at h4 h5 hxl
    have hcur : cur.toList.length = cap := by simpa using h4
    have hrun := run_copy_row (P := P) w t t ty e g off dl dc ⟨b, of', none⟩ sl c cur e us T.t hsz1 hg (by rw [hl]; exact hm) (fun j v hv => by
      have hadd : (⟨b, of', none⟩ : Addr).add j = ⟨b, of' + j, none⟩ := by unfold Addr.add; split <;> simp_all
      rw [hadd]
      exact hc j v hv) (by rw [hl, h4]; omega) h1
    rw [hl] at hrun
    have hx : xs = cur.toList.take n := h5.symm
    refine ⟨_, hrun, ⟨?_, .inr ⟨g, cap, _, rfl, hb, setRow_heap w g cur _ e (0, 0) hg, h2, h3, ?_, ?_⟩⟩, ⟨rfl, rfl, rfl, by simp [World.setRow], fun k hk hn => setRow_other w g k _ hn⟩⟩
    · rw [List.length_append, List.length_append, List.length_take, List.length_drop, hl]
      omega
    · simp
      omega
    · rw [Nat.mul_one, hx]
      have := splice_take cur.toList us n off m hl (by omega) (by omega)
      rw [← this, List.append_assoc]

/-- The first k are what is laid. -/
def lead (v : Int) (n k : Nat) : List Int := List.replicate k v ++ List.replicate (n - k) 0
theorem lead_more {v : Int} {n k m : Nat} (_h : k + m ≤ n) : (lead v n k).take k ++ (List.replicate m v ++ (lead v n k).drop (k + m)) = lead v n (k + m) := by
  unfold lead
  rw [List.take_append_of_le_length (by simp), List.take_of_length_le (by simp), List.drop_append, List.drop_eq_nil_of_le (by simp), List.nil_append, List.drop_replicate, ← List.append_assoc, List.replicate_append_replicate]
  congr 2
  simp
  omega
theorem lead_map {v : Int} {n k m : Nat} (h : k + m ≤ n) (us : List Value) (hu : us = (List.replicate m v).map (Value.int .i64)) : ((lead v n k).map (Value.int .i64)).take k ++ (us ++ ((lead v n k).map (Value.int .i64)).drop (k + m)) = (lead v n (k + m)).map (Value.int .i64) := by
  rw [hu, ← List.map_take, ← List.map_drop, ← List.map_append, ← List.map_append, lead_more h]
theorem ints_one (xs : List Int) : ∀ u ∈ xs.map (Value.int .i64), u.oneCell' = true := ints_cells .i64 xs
section
variable {F : Nat → Prop}
set_option maxHeartbeats 2000000 in
theorem repeat_any (v : Int) (A : Option Addr) (n c : Nat) (w : World) (hs : Sl w F .i64 A 1 [v]) (hn : n ≤ 1048576) :
    Calls Try.prog 23 #[.slice A 1 c, .int .i64 n] w fun e w' => ∃ g : Nat, e = .returned (.slice (some ⟨g, 0, none⟩) n n) ∧ Own w' 3 1 g n n ((List.replicate n v).map (Value.int .i64)) ∧ w.heap.size ≤ g ∧ Ch (fun _ => False) w w' := by
  have HS := Bx.mk hs
  have hmk := mkI w n hn
  have hmul : ∀ W, Calls Try.prog 34 #[.int .u64 (1 : Nat), .int .u64 (n : Nat)] W fun e w' => e = .returned (.tuple #[.int .u64 ((1 * n / 18446744073709551616 : Nat) : Int), .int .u64 ((1 * n % 18446744073709551616 : Nat) : Int)]) ∧ W = w' := fun W =>
    (Any.bits_Mul Try.suMul 1 n (by omega) (by omega) W).mono fun _ _ h => ⟨h.1, h.2.symm⟩
  rw [Nat.one_mul, Nat.div_eq_of_lt (by omega), Nat.mod_eq_of_lt (by omega)] at hmul
  clear hs
  have hw1 : IntKind.u64.wrap (n : Int) = (n : Int) := by rw [IntKind.wrap_u64]; omega
  have hw2 : IntKind.i64.wrap (n : Int) = (n : Int) := IntWalk.i64_in _ (by omega)
  have d0 : decide ((n : Int) < 0) = false := by simp
  have d1 : decide ((9223372036854775807 : Int) < (n : Int)) = false := by simp; omega
  go_enter Try.func23, Try.ntmps23
  go_wp2_with fail
  refine (hmul _).mono ?_
  rintro e w' ⟨rfl, rfl⟩
  by_cases h0 : n = 0
  · have hO : Own (w.alloc (.cells (madeCells #[.int .i64 0] n) 3)) 3 1 w.heap.size n n ((List.replicate n v).map (Value.int .i64)) := by
      have h := own_made1 w 3 (.int .i64 0) n (by omega)
      rw [h0] at h ⊢
      exact h
    have HO := Bx.mk hO
    have hmin : Nat.min 1 n = 0 := by rw [h0]; rfl
    have d2 : decide ((0 : Int) < (n : Int)) = false := by simp; omega
    have d3 : decide (0 < n) = false := by simp; omega
    clear hO h0
    go_wp2_with (change wpList _ _ _ (⟨some 33, _, _, _, _, _⟩ :: _) _ _; refine wpList_copy_nothing (o := ⟨some 33, _, _, _, _, _⟩) rfl (.tmp 31) (.tmp 32) _ _ rfl 3 Try.underlying22 (by kernel_rfl) _ _ _ _ _ _ rfl rfl hmin ?_)
    go_wp2
    go_loopw [8] (fun i wr => i = .int .i64 0 ∧ Ch (fun _ => False) w wr ∧ Own wr 3 1 w.heap.size n n ((List.replicate n v).map (Value.int .i64))) (fun _ _ => 0)
    case atStart => exact ⟨rfl, (Ch.refl _ _).alloc _, HO.out⟩
    case round =>
      obtain ⟨rfl, hC, hO⟩ := hrel
      have HC := Bx.mk hC
      have HO := Bx.mk hO
      clear hC hO
      go_wp2
      go_ret
      exact ⟨_, rfl, HO.out, Nat.le_refl _, HC.out⟩
  · have hO : (w.alloc (.cells (madeCells #[.int .i64 0] n) 3)).ownsRow 0 3 1 (.slice (some ⟨w.heap.size, 0, none⟩) n n) n ((lead v n 0).map (Value.int .i64)) := by
      have := (own_made1 w 3 (.int .i64 0) n (by omega)).own
      unfold lead
      rw [List.replicate_zero, List.nil_append, Nat.sub_zero, List.map_replicate]
      exact this
    have hS1 : Vs (w.alloc (.cells (madeCells #[.int .i64 0] n) 3)) F A 1 ([v].map (Value.int .i64)) := HS.out.alloc _
    have HO := Bx.mk hO
    have HS1 := Bx.mk hS1
    clear hO hS1
    go_wp2_with (change wpList _ _ _ (⟨some 33, _, _, _, _, _⟩ :: _) _ _; refine wp_copy_at (o := ⟨some 33, _, _, _, _, _⟩) rfl (.tmp 31) (.tmp 32) elemI rfl rfl HO.out (Nat.le_of_eq (Nat.zero_add n)) rfl HS1.out ?c1 ?c2 ?_)
    case c1 => exact ints_one [v]
    case c2 => omega
    intro w1 hown1 hC1
    obtain ⟨G, hG⟩ : ∃ G, w.heap.size = G := ⟨_, rfl⟩
    have hO1 : Own w1 3 1 G n n ((lead v n 1).map (Value.int .i64)) := by
      have h : Value.int .i64 v :: ((lead v n 0).map (Value.int .i64)).tail = (lead v n 1).map (Value.int .i64) := by simp [lead]
      rw [h] at hown1
      rw [← hG]
      exact ⟨hown1⟩
    have hCw : Ch (fun _ => False) w w1 := ((Ch.refl (fun _ => False) w).alloc _).trans hC1 (fun i hi (e : i = w.heap.size) => by omega)
    have HO1 := Bx.mk hO1
    have HCW := Bx.mk hCw
    have HG := Bx.mk hG
    rw [hG]
    clear hown1 hC1 hO1 hCw hG HO HS1 hmk
    go_wp2
    go_loopw [8] (fun i wr => ∃ k : Nat, 1 ≤ k ∧ k ≤ n ∧ i = .int .i64 k ∧ Own wr 3 1 G n n ((lead v n k).map (Value.int .i64)) ∧ Ch (fun _ => False) w wr) (fun i _ => n - (intOf i).toNat)
    case atStart => exact ⟨1, Nat.le_refl _, by omega, rfl, HO1.out, HCW.out⟩
    case round =>
      obtain ⟨k, hk1, hk, rfl, hO, hC⟩ := hrel
      have HO := Bx.mk hO
      have HC := Bx.mk hC
      clear hO hC
      by_cases hlt : k < n
      · have HOd := Bx.mk (HO.out.keep ((Ch.refl (fun _ => False) wr).drew))
        obtain ⟨m, hm⟩ : ∃ m, m = Nat.min k (n - k) := ⟨_, rfl⟩
        have hm0 : 0 < m := by rw [hm]; exact Nat.lt_min.2 ⟨by omega, by omega⟩
        have hmk : m ≤ k := by rw [hm]; exact Nat.min_le_left _ _
        have hmn : m ≤ n - k := by rw [hm]; exact Nat.min_le_right _ _
        have hus : ((lead v n k).map (Value.int .i64)).take m = (List.replicate m v).map (Value.int .i64) := by
          rw [← List.map_take]
          unfold lead
          rw [List.take_append_of_le_length (by simp; omega), List.take_replicate, Nat.min_eq_left hmk]
        have hVm : Vs wr.drew (fun b => b = G) (some ⟨G, 0, none⟩) m ((List.replicate m v).map (Value.int .i64)) := by
          rw [← hus]
          exact Vs.take HOd.out.vs (by omega)
        obtain ⟨w2, hcp, ho2, hC2⟩ := run_copy_at (P := Try.prog) (ty := 3) (c := n) (dc := n - k) (sl := k) (dl := n - k) elemI HOd.out.own (off := k) (by omega) hVm (ints_one _) hm hm0
        rw [lead_map (by omega) _ rfl] at ho2
        have HO2 : Bx (Own w2 3 1 G n n ((lead v n (k + m)).map (Value.int .i64))) := ⟨⟨ho2⟩⟩
        have HC2 := Bx.mk (HC.out.drew.trans hC2 (fun i hi (e : i = G) => by have := HG.out; omega))
        have hnk : ¬ n = k := by omega
        have i1 : (0 : Int) ≤ (k : Int) := by omega
        have i2 : (k : Int) ≤ (n : Int) := by omega
        have hwr : IntKind.i64.wrap ((k : Int) + (m : Int)) = (k : Int) + (m : Int) := IntWalk.i64_in _ (by omega)
        clear hus hVm hm ho2 hC2
        go_wp2_with fail
        go_region
        all_goals
          go_wp2
          go_roundw
          case rel => exact ⟨k + m, by omega, by omega, by go_num, HO2.out, HC2.out⟩
          case measure => simp [intOf]; omega
      · have hkn : k = n := by omega
        have hfin : Bx (Own wr 3 1 G n n ((List.replicate n v).map (Value.int .i64))) := ⟨by
          have := HO.out
          rw [hkn] at this
          unfold lead at this
          rw [Nat.sub_self, List.replicate_zero, List.append_nil] at this
          exact this⟩
        clear hkn
        go_wp2
        go_ret
        exact ⟨_, rfl, hfin.out, Nat.le_of_eq HG.out, HC.out⟩
end
end Go.Proofs.Ytmkhndajogcojaa
