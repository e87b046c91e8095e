/-
  The contracts of the document's answers haystackref5.less and before.
-/
/-
  The contract of the document's answer haystackref5.sort: places in order, by merging; it calls itself.
-/
import Derived.Test.YtckkjccjkdidjaaGreatDoorSuA
namespace Go.Proofs.YtckkjccjkdidjaaGreatDoor
open Go.RowKit Go.Oct Go.Su

/-- Is a ahead of b, by ranks and by the ranks of what stands so far behind? -/
def lessB (rank : List Int) (step a b : Nat) : Bool := decide (gs rank a < gs rank b) || (decide (gs rank a = gs rank b) && decide (gs rank (a + step) < gs rank (b + step)))
/-- .. at the first step by ranks alone. -/
def befB (rank : List Int) (step a b : Nat) : Bool := if step = 0 then decide (gs rank a < gs rank b) else lessB rank step a b
theorem Sl.gsAt {w : World} {F : Nat → Prop} {A : Option Addr} {n : Nat} {xs : List Int} (h : Sl w F .i64 A n xs) {k : Nat} (hk : k < n) : ∃ b off, A = some ⟨b, off, none⟩ ∧ F b ∧ w.cell? ⟨b, off + k, none⟩ = some (.int .i64 (gs xs k)) := by
  obtain ⟨b, off, x, e, hb, hx, hc⟩ := h.at_ hk
  exact ⟨b, off, e, hb, by rw [gs_at hx.out]; exact hc⟩

section
variable {F : Nat → Prop}
set_option maxHeartbeats 1000000 in
theorem less_any (rank : List Int) (A : Option Addr) (n c step a b : Nat) (w : World) (hs : Sl w F .i64 A n rank) (hn : n ≤ 1048576) (hst : step ≤ 1048576) (ha : a < n) (hb : b < n) :
    Calls Tryz.prog 141 #[.slice A n c, .int .i64 step, .int .i64 a, .int .i64 b] w fun e w' => e = .returned (.bool (lessB rank step a b)) ∧ ∃ k, w' = w.drewN k := by
  have hl := hs.len
  obtain ⟨B, o, rfl, _, hca⟩ := Sl.gsAt hs ha
  obtain ⟨B', o', hA, _, hcb⟩ := Sl.gsAt hs hb
  injection hA with hA
  injection hA with hA1 hA2
  subst hA1 hA2
  have hx : (a + step < n ∧ w.cell? ⟨B, o + (a + step), none⟩ = some (.int .i64 (gs rank (a + step)))) ∨ (n ≤ a + step ∧ gs rank (a + step) = -1) := by
    rcases Nat.lt_or_ge (a + step) n with h | h
    · obtain ⟨B2, o2, hA, _, hc⟩ := Sl.gsAt hs h
      injection hA with hA
      injection hA with hA1 hA2
      subst hA1 hA2
      exact .inl ⟨h, hc⟩
    · exact .inr ⟨h, gs_out (by omega)⟩
  have hy : (b + step < n ∧ w.cell? ⟨B, o + (b + step), none⟩ = some (.int .i64 (gs rank (b + step)))) ∨ (n ≤ b + step ∧ gs rank (b + step) = -1) := by
    rcases Nat.lt_or_ge (b + step) n with h | h
    · obtain ⟨B2, o2, hA, _, hc⟩ := Sl.gsAt hs h
      injection hA with hA
      injection hA with hA1 hA2
      subst hA1 hA2
      exact .inl ⟨h, hc⟩
    · exact .inr ⟨h, gs_out (by omega)⟩
  have HL : Bx (∀ r : Bool, lessB rank step a b = r → lessB rank step a b = r) := ⟨fun _ h => h⟩
  obtain ⟨x, hxv⟩ : ∃ x, gs rank a = x := ⟨_, rfl⟩
  obtain ⟨y, hyv⟩ : ∃ y, gs rank b = y := ⟨_, rfl⟩
  obtain ⟨x2, hx2v⟩ : ∃ x, gs rank (a + step) = x := ⟨_, rfl⟩
  obtain ⟨y2, hy2v⟩ : ∃ y, gs rank (b + step) = y := ⟨_, rfl⟩
  have hB : lessB rank step a b = (decide (x < y) || (decide (x = y) && decide (x2 < y2))) := by unfold lessB; rw [hxv, hyv, hx2v, hy2v]
  rw [hB]
  rw [hxv] at hca
  rw [hyv] at hcb
  rw [hx2v] at hx
  rw [hy2v] at hy
  have i1 : (0 : Int) ≤ (a : Int) := by omega
  have i2 : (a : Int) < (n : Int) := by omega
  have i3 : (0 : Int) ≤ (b : Int) := by omega
  have i4 : (b : Int) < (n : Int) := by omega
  have HX := Bx.mk hx
  have HY := Bx.mk hy
  clear hs hl hxv hyv hx2v hy2v hB hx hy HL
  by_cases hxy : x = y
  · subst hxy
    have hb : (x != x) = false := by simp
    have hR : (decide (x < x) || (decide (x = x) && decide (x2 < y2))) = decide (x2 < y2) := by simp
    rw [hR]
    clear hR
    rcases HX.out with ⟨h1, h2⟩ | ⟨h1, rfl⟩ <;> rcases HY.out with ⟨h3, h4⟩ | ⟨h3, rfl⟩
    all_goals
      go_enter Tryz.func141, Tryz.ntmps141
      go_wp2
      go_quiet (fail)
      go_wp2
      go_ret
      exact ⟨rfl, _, rfl⟩
  · have hb : (x != y) = true := by simpa using hxy
    have hR : (decide (x < y) || (decide (x = y) && decide (x2 < y2))) = decide (x < y) := by simp [hxy]
    rw [hR]
    have HXY := Bx.mk hxy
    clear hR hxy
    go_enter Tryz.func141, Tryz.ntmps141
    go_wp2
    go_quiet (fail)
    go_wp2
    go_quiet (fail)
    go_wp2
    go_ret
    exact ⟨rfl, _, World.drewN_drewN ..⟩
set_option maxHeartbeats 400000 in
theorem before_any (rank : List Int) (A : Option Addr) (n c step a b : Nat) (w : World) (hs : Sl w F .i64 A n rank) (hn : n ≤ 1048576) (hst : step ≤ 1048576) (ha : a < n) (hb : b < n) :
    Calls Tryz.prog 126 #[.slice A n c, .int .i64 step, .int .i64 a, .int .i64 b] w fun e w' => e = .returned (.bool (befB rank step a b)) ∧ ∃ k, w' = w.drewN k := by
  by_cases h0 : step = 0
  · obtain ⟨B, o, rfl, _, hca⟩ := Sl.gsAt hs ha
    obtain ⟨B', o', hA, _, hcb⟩ := Sl.gsAt hs hb
    injection hA with hA
    injection hA with hA1 hA2
    subst hA1 hA2
    have hB : befB rank step a b = decide (gs rank a < gs rank b) := by unfold befB; rw [if_pos h0]
    rw [hB]
    subst h0
    generalize gs rank a = x at *
    generalize gs rank b = y at *
    have i1 : (0 : Int) ≤ (a : Int) := by omega
    have i2 : (a : Int) < (n : Int) := by omega
    have i3 : (0 : Int) ≤ (b : Int) := by omega
    have i4 : (b : Int) < (n : Int) := by omega
    clear hs hB
    go_enter Tryz.func126, Tryz.ntmps126
    go_wp2
    go_quiet (fail)
    go_wp2
    go_ret
    exact ⟨rfl, _, rfl⟩
  · have hB : befB rank step a b = lessB rank step a b := by unfold befB; rw [if_neg h0]
    rw [hB]
    have HS := Bx.mk hs
    have HA := Bx.mk ha
    have HB := Bx.mk hb
    have hst0 : ((step : Int) == 0) = false := by simp; omega
    clear hs hB ha hb
    go_enter Tryz.func126, Tryz.ntmps126
    go_wp2_with fail
    refine (less_any rank A n c step a b _ HS.out hn hst HA.out HB.out).mono ?_
    rintro e w' ⟨rfl, k, rfl⟩
    go_wp2
    go_ret
    exact ⟨rfl, _, rfl⟩
/-- before, wherever draws have been. -/
theorem before_quiet (rank : List Int) (A : Option Addr) (n c step a b : Nat) (w : World) (m : Nat) (hs : Sl w F .i64 A n rank) (hn : n ≤ 1048576) (hst : step ≤ 1048576) (ha : a < n) (hb : b < n) :
    Calls Tryz.prog 126 #[.slice A n c, .int .i64 step, .int .i64 a, .int .i64 b] (w.drewN m) fun e w' => e = .returned (.bool (befB rank step a b)) ∧ ∃ k, w' = w.drewN k :=
  (before_any rank A n c step a b (w.drewN m) (hs.drewN m) hn hst ha hb).mono fun e w' h => by
    obtain ⟨h1, k, h2⟩ := h
    exact ⟨h1, m + k, by rw [h2, World.drewN_drewN]⟩
end
end Go.Proofs.YtckkjccjkdidjaaGreatDoor

namespace Go.Proofs.YtckkjccjkdidjaaGreatDoor
open Go.RowKit Go.Oct Go.Su

/-- Sorting by merging of halves, so deep at most. -/
def srt (le : Nat → Nat → Bool) : Nat → List Nat → List Nat
  | 0, l => l
  | f + 1, l => if l.length < 2 then l else List.merge (srt le f (l.take (l.length / 2))) (srt le f (l.drop (l.length / 2))) le
theorem srt_perm (le : Nat → Nat → Bool) : ∀ (f : Nat) (l : List Nat), (srt le f l).Perm l
  | 0, l => List.Perm.refl l
  | f + 1, l => by
    unfold srt
    split
    · exact List.Perm.refl l
    · refine (List.merge_perm_append le).trans ?_
      have h := ((srt_perm le f (l.take (l.length / 2))).append (srt_perm le f (l.drop (l.length / 2))))
      rwa [List.take_append_drop] at h
theorem srt_len (le : Nat → Nat → Bool) (f : Nat) (l : List Nat) : (srt le f l).length = l.length := (srt_perm le f l).length_eq
theorem srt_sorted {le : Nat → Nat → Bool} (ht : ∀ a b c, le a b = true → le b c = true → le a c = true) (hl : ∀ a b, (le a b || le b a) = true) : ∀ (f : Nat) (l : List Nat), l.length ≤ f → (srt le f l).Pairwise (fun a b => le a b = true)
  | 0, l, h => by
    obtain rfl : l = [] := List.eq_nil_of_length_eq_zero (by omega)
    exact List.Pairwise.nil
  | f + 1, l, h => by
    unfold srt
    split
    · rename_i h2
      match l, h2 with
      | [], _ => exact List.Pairwise.nil
      | [x], _ => exact List.pairwise_singleton _ _
    · exact List.pairwise_merge ht hl _ _ (srt_sorted ht hl f _ (by rw [List.length_take]; omega)) (srt_sorted ht hl f _ (by rw [List.length_drop]; omega))

/-- Not behind. -/
def leB (rank : List Int) (step : Nat) (x y : Nat) : Bool := !befB rank step y x
theorem befB_iff (rank : List Int) (step a b : Nat) : befB rank step a b = true ↔ gs rank a < gs rank b ∨ (step ≠ 0 ∧ gs rank a = gs rank b ∧ gs rank (a + step) < gs rank (b + step)) := by
  unfold befB lessB
  split
  · rename_i h
    simp [h]
  · rename_i h
    simp [h]
theorem leB_iff (rank : List Int) (step a b : Nat) : leB rank step a b = true ↔ gs rank a < gs rank b ∨ (gs rank a = gs rank b ∧ (step = 0 ∨ gs rank (a + step) ≤ gs rank (b + step))) := by
  unfold leB
  have h := befB_iff rank step b a
  rw [Bool.not_eq_true', ← Bool.not_eq_true, h]
  omega
theorem leB_trans (rank : List Int) (step a b c : Nat) (h1 : leB rank step a b = true) (h2 : leB rank step b c = true) : leB rank step a c = true := by
  rw [leB_iff] at *
  omega
theorem leB_total (rank : List Int) (step a b : Nat) : (leB rank step a b || leB rank step b a) = true := by
  rw [Bool.or_eq_true, leB_iff, leB_iff]
  omega

/-- A merge under way. -/
theorem merge_x {le : Nat → Nat → Bool} {X Y : List Nat} {i k x : Nat} (hx : X[i]? = some x) (h : Y.length ≤ k ∨ ∃ y, Y[k]? = some y ∧ le x y = true) : List.merge (X.drop i) (Y.drop k) le = x :: List.merge (X.drop (i + 1)) (Y.drop k) le := by
  obtain ⟨h1, h2⟩ := List.getElem?_eq_some_iff.1 hx
  rw [List.drop_eq_getElem_cons h1, h2]
  rcases h with h | ⟨y, hy, hle⟩
  · rw [List.drop_of_length_le h, List.merge_right, List.merge_right]
  · obtain ⟨h3, h4⟩ := List.getElem?_eq_some_iff.1 hy
    rw [List.drop_eq_getElem_cons h3, h4, List.cons_merge_cons_pos _ _ _ hle]
theorem merge_y {le : Nat → Nat → Bool} {X Y : List Nat} {i k y : Nat} (hy : Y[k]? = some y) (h : X.length ≤ i ∨ ∃ x, X[i]? = some x ∧ le x y = false) : List.merge (X.drop i) (Y.drop k) le = y :: List.merge (X.drop i) (Y.drop (k + 1)) le := by
  obtain ⟨h1, h2⟩ := List.getElem?_eq_some_iff.1 hy
  rw [List.drop_eq_getElem_cons h1, h2]
  rcases h with h | ⟨x, hx, hle⟩
  · rw [List.drop_of_length_le h, List.nil_merge, List.nil_merge]
  · obtain ⟨h3, h4⟩ := List.getElem?_eq_some_iff.1 hx
    rw [List.drop_eq_getElem_cons h3, h4, List.cons_merge_cons, if_neg (by rw [hle]; decide)]

theorem own_none (w : World) : (w.alloc (.cells #[] 3)).ownsRow 0 3 1 (.slice (some ⟨w.heap.size, 0, none⟩) 0 0) 0 [] := World.ownsRow_made w #[] 0 (Nat.zero_le _) (by unfold maxLen; omega) rfl

theorem before_val {F : Nat → Prop} (rank : List Int) (A : Option Addr) (n c step a b : Nat) (r : Bool) (w : World) (m : Nat) (hs : Sl w F .i64 A n rank) (hn : n ≤ 1048576) (hst : step ≤ 1048576) (ha : a < n) (hb : b < n) (hr : befB rank step a b = r) :
    Calls Tryz.prog 126 #[.slice A n c, .int .i64 step, .int .i64 a, .int .i64 b] (w.drewN m) fun e w' => e = .returned (.bool r) ∧ ∃ k, w' = w.drewN k := by
  subst hr
  exact before_quiet rank A n c step a b w m hs hn hst ha hb
theorem Gr.app {w wm w2 : World} {v v' : Value} {ys : List Nat} {n : Nat} (h : Gr w wm v []) (hn : ys.length = n) (ho : w2.ownsRow 0 3 1 v' n (vals ys)) (hg : wm.grownBy w2 v.ownBlock) (hb : v'.ownBlock = v.ownBlock ∨ v'.ownBlock = some wm.heap.size) : Gr w w2 v' ys := by
  have := h.moreN (xs := []) (ys := ys) (k := 0) rfl hn (Ch.refl _ _) (by rw [Nat.zero_add]; exact ho) hg hb
  exact this
theorem gr_none (w : World) : Gr w (w.alloc (.cells #[] 3)) (.slice (some ⟨w.heap.size, 0, none⟩) 0 0) [] := ⟨own_none w, fun g hg => by simp [Value.ownBlock] at hg; omega, (Ch.refl _ _).alloc _⟩
theorem gr_made (w : World) (n : Nat) (hn : n ≤ 1048576) : Gr w (w.alloc (.cells (madeCells #[.int .i64 0] n) 3)) (.slice (some ⟨w.heap.size, 0, none⟩) 0 n) [] :=
  ⟨World.ownsRow_made (base := 0) (e := 3) (size := 1) w (madeCells #[.int .i64 0] n) n (Nat.zero_le _) (by unfold maxLen; omega) (by simp [madeCells]), fun g hg => by simp [Value.ownBlock] at hg; omega, (Ch.refl _ _).alloc _⟩

/-- What sort leaves. -/
def Sorted (l : List Nat) (n : Nat) (F : Nat → Prop) (w : World) (e : Ending) (w' : World) : Prop := ∃ (A : Option Addr) (c : Nat), e = .returned (.slice A n c) ∧ Sl w' (fun b => F b ∨ w.heap.size ≤ b) .i64 A n (asI l) ∧ n ≤ c ∧ c ≤ maxLen ∧ Ch (fun _ => False) w w'

set_option maxHeartbeats 4000000 in
theorem sort_any (rank : List Int) (R : Option Addr) (N cr step : Nat) (hN : N ≤ 1048576) (hst : step ≤ 1048576) : ∀ (f : Nat) (l : List Nat) (A : Option Addr) (n c : Nat) (w : World) (F G : Nat → Prop), l.length ≤ f → Sl w F .i64 A n (asI l) → Sl w G .i64 R N rank → n ≤ c → c ≤ maxLen → n ≤ 1048576 → (∀ x ∈ l, x < N) →
    Calls Tryz.prog 125 #[.slice A n c, .slice R N cr, .int .i64 step] w (Sorted (srt (leB rank step) f l) n F w) := by
  intro f
  induction f with
  | zero => 
    intro l A n c w F G hf hs hr hc hcm hn hm
    obtain rfl : l = [] := List.eq_nil_of_length_eq_zero (by omega)
    have hn0 : n = 0 := hs.len.symm
    subst hn0
    have HS := Bx.mk hs
    have HCM := Bx.mk hcm
    clear hs hr hcm
    go_enter Tryz.func125, Tryz.ntmps125
    go_wp2
    go_ret
    exact ⟨A, c, rfl, HS.out.mono (fun _ _ h => .inl h), Nat.zero_le _, HCM.out, Ch.refl _ _⟩
  | succ f ih =>
    intro l A n c w F G hf hs hr hc hcm hn hm
    have hl : l.length = n := by rw [← asI_len]; exact hs.len
    have HIH := Bx.mk ih
    have HM := Bx.mk hm
    have HS := Bx.mk hs
    have HR := Bx.mk hr
    have HCM := Bx.mk hcm
    have HL := Bx.mk hl
    have HF := Bx.mk hf
    clear ih hm hs hr hcm hl hf
    by_cases h2 : n < 2
    · have hsrt : srt (leB rank step) (f + 1) l = l := by unfold srt; rw [if_pos (by rw [HL.out]; exact h2)]
      rw [hsrt]
      clear hsrt
      go_enter Tryz.func125, Tryz.ntmps125
      go_wp2
      go_ret
      exact ⟨A, c, rfl, HS.out.mono (fun _ _ h => .inl h), hc, HCM.out, Ch.refl _ _⟩
    · obtain ⟨b0, o0, x0, rfl, _, _, _⟩ := HS.out.at_ (k := 0) (by omega)
      obtain ⟨k, hk⟩ : ∃ k, n / 2 = k := ⟨_, rfl⟩
      obtain ⟨m, hm⟩ : ∃ m, n - k = m := ⟨_, rfl⟩
      have hkn : k + m = n := by omega
      have hk1 : 1 ≤ k ∧ 1 ≤ m ∧ k ≤ f ∧ m ≤ f := by have := HF.out; have := HL.out; omega
      have hsrt : srt (leB rank step) (f + 1) l = List.merge (srt (leB rank step) f (l.take k)) (srt (leB rank step) f (l.drop k)) (leB rank step) := by
        have h3 : ¬ l.length < 2 := by rw [HL.out]; exact h2
        rw [show srt (leB rank step) (f + 1) l = if l.length < 2 then l else List.merge (srt (leB rank step) f (l.take (l.length / 2))) (srt (leB rank step) f (l.drop (l.length / 2))) (leB rank step) from rfl, if_neg h3, HL.out, hk]
      rw [hsrt]
      have e1 : asI (l.take k) = (asI l).take k := by unfold asI; rw [List.map_take]
      have e2 : asI (l.drop k) = (asI l).drop k := by unfold asI; rw [List.map_drop]
      have hS1 : Sl (w.alloc (.cells #[] 3)) F .i64 (some ⟨b0, o0, none⟩) k (asI (l.take k)) := by rw [e1]; exact (HS.out.take (by omega)).alloc _
      have hV1 : Vs (w.alloc (.cells #[] 3)) F (some ⟨b0, o0, none⟩) k (vals (l.take k)) := by rw [← vals_asI]; exact hS1
      have hS2 : Sl w F .i64 (some ⟨b0, o0 + k, none⟩) m (asI (l.drop k)) := by rw [e2, ← hm]; exact HS.out.drop (by omega)
      have hG0 : Gr w (w.alloc (.cells #[] 3)) (.slice (some ⟨w.heap.size, 0, none⟩) 0 0) [] := ⟨own_none w, fun g hg => by simp [Value.ownBlock] at hg; omega, (Ch.refl _ _).alloc _⟩
      have hm1 : ∀ x ∈ l.take k, x < N := fun x hx => HM.out x (List.mem_of_mem_take hx)
      have hm2 : ∀ x ∈ l.drop k, x < N := fun x hx => HM.out x (List.mem_of_mem_drop hx)
      have hlen1 : (l.take k).length = k := by rw [List.length_take, HL.out]; omega
      have hlen2 : (l.drop k).length = m := by rw [List.length_drop, HL.out]; omega
      generalize l.take k = L1 at *
      generalize l.drop k = L2 at *
      have HV1 := Bx.mk hV1
      have HS2 := Bx.mk hS2
      have HG0 := Bx.mk hG0
      have HON := Bx.mk (own_none w)
      have HM1 := Bx.mk hm1
      have HM2 := Bx.mk hm2
      have HL1 := Bx.mk hlen1
      have HL2 := Bx.mk hlen2
      have HK := Bx.mk hk
      have HMM := Bx.mk hm
      have hq2 : (n : Int) / 2 = (k : Int) := by omega
      have hcn : (c : Int) - (k : Int) = ((c - k : Nat) : Int) := by omega
      clear hsrt e1 e2 hS1 hV1 hS2 hG0 hm1 hm2 hlen1 hlen2
      go_enter Tryz.func125, Tryz.ntmps125
      go_wp2_with (at_builtin; refine wp_app rfl (.tmp 16) (.tmp 21) elemI rfl rfl HON.out rfl HV1.out ?c1 ?c2 ?c3 ?_)
      case c1 => exact vals_cells L1
      case c2 => omega
      case c3 => omega
      intro v1 w1 ho1 hg1 hb1
      have hG1 := HG0.out.app HL1.out ho1 hg1 (by rw [World.size_alloc]; exact hb1)
      obtain ⟨A1, c1, rfl, hSl1, hcc1, hcm1⟩ := hG1.shape
      rw [HL1.out] at hSl1 hcc1
      have hl1' := HL1.out
      rw [hl1'] at hG1 ⊢
      have HSl1 := Bx.mk hSl1
      have HC1 := Bx.mk hG1.ch
      have HCM1 := Bx.mk hcm1
      have HR1 : Bx (Sl w1 G .i64 R N rank) := ⟨HR.out.ch hG1.ch (fun _ _ _ h => h)⟩
      have HS21 : Bx (Sl w1 F .i64 (some ⟨b0, o0 + k, none⟩) m (asI L2)) := ⟨HS2.out.ch hG1.ch (fun _ _ _ h => h)⟩
      have HF1 : Bx (L1.length ≤ f) := ⟨by omega⟩
      have HF2 : Bx (L2.length ≤ f) := ⟨by have := HL2.out; omega⟩
      clear ho1 hg1 hb1 hG1 hSl1 hcm1 hl1'
      go_wp2_with fail
      refine (HIH.out L1 A1 k c1 _ _ _ HF1.out HSl1.out HR1.out hcc1 HCM1.out (by omega) HM1.out).mono ?_
      rintro e w2 ⟨A2, c2, rfl, hX, hcc2, hcm2, hC2⟩
      obtain ⟨X, hXd⟩ : ∃ X, srt (leB rank step) f L1 = X := ⟨_, rfl⟩
      have hXl : X.length = k := by rw [← hXd, srt_len]; exact HL1.out
      rw [hXd] at hX ⊢
      have HXL := Bx.mk hXl
      have HXD := Bx.mk hXd
      have HXM : Bx (∀ x ∈ X, x < N) := ⟨fun x hx => HM1.out x ((srt_perm _ _ _).mem_iff.1 (by rw [hXd]; exact hx))⟩
      have HX := Bx.mk hX
      have HC2 := Bx.mk (HC1.out.trans hC2 (fun _ _ h => h))
      have HR2 : Bx (Sl w2 G .i64 R N rank) := ⟨HR1.out.ch hC2 (fun _ _ _ h => h)⟩
      have hS22 : Sl w2 F .i64 (some ⟨b0, o0 + k, none⟩) m (asI L2) := HS21.out.ch hC2 (fun _ _ _ h => h)
      have hV2 : Vs (w2.alloc (.cells #[] 3)) F (some ⟨b0, o0 + k, none⟩) m (vals L2) := by rw [← vals_asI]; exact hS22.alloc _
      have HV2 := Bx.mk hV2
      have HON2 := Bx.mk (own_none w2)
      clear hX hC2 hS22 hV2 hXd hXl hcc2 hcm2
      go_wp2_with (at_builtin; refine wp_app rfl (.tmp 26) (.tmp 31) elemI rfl rfl HON2.out rfl HV2.out ?c1 ?c2 ?c3 ?_)
      case c1 => exact vals_cells L2
      case c2 => omega
      case c3 => omega
      intro v3 w3 ho1 hg1 hb1
      have hG3 := (gr_none w2).app HL2.out ho1 hg1 (by rw [World.size_alloc]; exact hb1)
      obtain ⟨A3, c3, rfl, hSl3, hcc3, hcm3⟩ := hG3.shape
      rw [HL2.out] at hSl3 hcc3
      have hl2' := HL2.out
      rw [hl2'] at hG3 ⊢
      have HSl3 := Bx.mk hSl3
      have HC3 := Bx.mk (HC2.out.trans hG3.ch (fun _ _ h => h))
      have HCM3 := Bx.mk hcm3
      have HR3 : Bx (Sl w3 G .i64 R N rank) := ⟨HR2.out.ch hG3.ch (fun _ _ _ h => h)⟩
      have HX3 := Bx.mk (HX.out.ch hG3.ch (fun _ _ _ h => h))
      clear ho1 hg1 hb1 hG3 hSl3 hcm3 hl2'
      go_wp2_with fail
      refine (HIH.out L2 A3 m c3 _ _ _ HF2.out HSl3.out HR3.out hcc3 HCM3.out (by omega) HM2.out).mono ?_
      rintro e w4 ⟨A4, c4, rfl, hY, hcc4, hcm4, hC4⟩
      obtain ⟨Y, hYd⟩ : ∃ Y, srt (leB rank step) f L2 = Y := ⟨_, rfl⟩
      have hYl : Y.length = m := by rw [← hYd, srt_len]; exact HL2.out
      rw [hYd] at hY ⊢
      have HYL := Bx.mk hYl
      have HYD := Bx.mk hYd
      have HYM : Bx (∀ x ∈ Y, x < N) := ⟨fun x hx => HM2.out x ((srt_perm _ _ _).mem_iff.1 (by rw [hYd]; exact hx))⟩
      have HY := Bx.mk hY
      have HC4 := Bx.mk (HC3.out.trans hC4 (fun _ _ h => h))
      have HR4 : Bx (Sl w4 G .i64 R N rank) := ⟨HR3.out.ch hC4 (fun _ _ _ h => h)⟩
      have HX4 := Bx.mk (HX3.out.ch hC4 (fun _ _ _ h => h))
      have hmk := run_mkI0 n hn w4
      have HGM := Bx.mk (gr_made w4 n hn)
      clear hY hC4 hYd hYl hcc4 hcm4
      go_wp2_with fail
      go_loopw [9, 10, 11] (fun r i j wr => ∃ (p q : Nat) (done : List Nat), p ≤ k ∧ q ≤ m ∧ i = .int .i64 p ∧ j = .int .i64 q ∧ Gr w4 wr r done ∧ done.length = p + q ∧ done ++ List.merge (X.drop p) (Y.drop q) (leB rank step) = List.merge X Y (leB rank step)) (fun _ i j _ => (k + m) - ((intOf i).toNat + (intOf j).toNat))
      case atStart => exact ⟨0, 0, [], Nat.zero_le _, Nat.zero_le _, rfl, rfl, HGM.out, rfl, rfl⟩
      case round =>
        obtain ⟨p, q, done, hp, hq, rfl, rfl, hG, hdl, hdone⟩ := hrel
        obtain ⟨A5, c5, rfl, _, _⟩ := own_shape hG.own
        have HDL := Bx.mk hdl
        have HDN := Bx.mk hdone
        have hd20 : done.length ≤ 1048576 := by omega
        by_cases hpk : p < k
        · obtain ⟨b1, o1, x0, rfl, _, hx0, hcx⟩ := (HX4.out.ch hG.ch (fun _ _ _ h => h)).at_ hpk
          obtain ⟨x, rfl, hx⟩ := asI_at hx0.out
          have hxN := HXM.out x (List.mem_of_getElem? hx)
          have d1 : decide ((p : Int) < (k : Int)) = true := by simp; omega
          have d1' : decide (p < k) = true := by simp; omega
          by_cases hqm : q < m
          · obtain ⟨b2, o2, y0, rfl, _, hy0, hcy⟩ := (HY.out.ch hG.ch (fun _ _ _ h => h)).at_ hqm
            obtain ⟨y, rfl, hy⟩ := asI_at hy0.out
            have hyN := HYM.out y (List.mem_of_getElem? hy)
            have hRr : Sl wr G .i64 R N rank := HR4.out.ch hG.ch (fun _ _ _ h => h)
            have d2 : decide ((m : Int) ≤ (q : Int)) = false := by simp; omega
            have d2' : decide (m ≤ q) = false := by simp; omega
            have d3 : decide ((q : Int) < (m : Int)) = true := by simp; omega
            have i1 : (0 : Int) ≤ (q : Int) := by omega
            have i2 : (q : Int) < (m : Int) := by omega
            have i3 : (0 : Int) ≤ (p : Int) := by omega
            have i4 : (p : Int) < (k : Int) := by omega
            have HRr := Bx.mk hRr
            have HyN := Bx.mk hyN
            have HxN := Bx.mk hxN
            have HX' := Bx.mk hx
            have HY' := Bx.mk hy
            have HGg := Bx.mk hG
            clear hx0 hx hy0 hy hG hRr hyN hxN hdl hdone
            cases hbf : befB rank step y x
            · have HST : Bx (List.merge (X.drop p) (Y.drop q) (leB rank step) = x :: List.merge (X.drop (p + 1)) (Y.drop q) (leB rank step)) := ⟨merge_x HX'.out (.inr ⟨y, HY'.out, by unfold leB; rw [hbf]; rfl⟩)⟩
              have HBF := Bx.mk hbf
              clear hbf
              go_wp2_with fail
              go_quiet ((go_at_call 126; exact before_val rank R N cr step y x false wr _ HRr.out hN hst HyN.out HxN.out HBF.out))
              generalize hwq : World.drewN wr nq = wq
              have HGQ : Bx (Gr w4 wq _ done) := ⟨by rw [← hwq]; exact HGg.out.keep ((Ch.refl _ _).drewN nq)⟩
              have hcx2 : wq.cell? ⟨b1, o1 + p, none⟩ = some (.int .i64 (x : Int)) := by rw [← hwq]; exact hcx
              clear hwq
              go_wp2_with (at_builtin; refine wp_app rfl (.tmp 73) (.tmp 78) elemI rfl rfl (HGQ.out.own.alloc _) rfl (Vs.one _ _ _) ?c1 ?c2 ?c3 ?_)
              case c1 => intro u hu; simp at hu; subst hu; rfl
              case c2 => omega
              case c3 => omega
              intro v5 w5 ho1 hg1 hb1
              have HG5 := Bx.mk (HGQ.out.one ho1 hg1 hb1)
              clear ho1 hg1 hb1
              go_wp2
              go_roundw
              case rel => exact ⟨p + 1, q, done ++ [x], by omega, by omega, by go_num, by go_num, HG5.out, by rw [List.length_append, HDL.out]; simp; omega, by rw [List.append_assoc, ← HDN.out, HST.out]; rfl⟩
              case measure => simp [intOf]; omega
            · have HST : Bx (List.merge (X.drop p) (Y.drop q) (leB rank step) = y :: List.merge (X.drop p) (Y.drop (q + 1)) (leB rank step)) := ⟨merge_y HY'.out (.inr ⟨x, HX'.out, by unfold leB; rw [hbf]; rfl⟩)⟩
              have HBF := Bx.mk hbf
              clear hbf
              go_wp2_with fail
              go_quiet ((go_at_call 126; exact before_val rank R N cr step y x true wr _ HRr.out hN hst HyN.out HxN.out HBF.out))
              generalize hwq : World.drewN wr nq = wq
              have HGQ : Bx (Gr w4 wq _ done) := ⟨by rw [← hwq]; exact HGg.out.keep ((Ch.refl _ _).drewN nq)⟩
              have hcy2 : wq.cell? ⟨b2, o2 + q, none⟩ = some (.int .i64 (y : Int)) := by rw [← hwq]; exact hcy
              clear hwq
              go_wp2_with (at_builtin; refine wp_app rfl (.tmp 82) (.tmp 87) elemI rfl rfl (HGQ.out.own.alloc _) rfl (Vs.one _ _ _) ?c1 ?c2 ?c3 ?_)
              case c1 => intro u hu; simp at hu; subst hu; rfl
              case c2 => omega
              case c3 => omega
              intro v5 w5 ho1 hg1 hb1
              have HG5 := Bx.mk (HGQ.out.one ho1 hg1 hb1)
              clear ho1 hg1 hb1
              go_wp2
              go_roundw
              case rel => exact ⟨p, q + 1, done ++ [y], by omega, by omega, by go_num, by go_num, HG5.out, by rw [List.length_append, HDL.out]; simp; omega, by rw [List.append_assoc, ← HDN.out, HST.out]; rfl⟩
              case measure => simp [intOf]; omega
          · have d2 : decide ((m : Int) ≤ (q : Int)) = true := by simp; omega
            have d2' : decide (m ≤ q) = true := by simp; omega
            have d3 : decide ((q : Int) < (m : Int)) = false := by simp; omega
            have HST : Bx (List.merge (X.drop p) (Y.drop q) (leB rank step) = x :: List.merge (X.drop (p + 1)) (Y.drop q) (leB rank step)) := ⟨merge_x hx (.inl (by rw [HYL.out]; omega))⟩
            have HGg := Bx.mk hG
            clear hx0 hx hG hxN hdl hdone
            have hz : True := trivial
            · go_wp2_with fail
              go_quiet (fail)
              generalize hwq : World.drewN wr nq = wq
              have HGQ : Bx (Gr w4 wq _ done) := ⟨by rw [← hwq]; exact HGg.out.keep ((Ch.refl _ _).drewN nq)⟩
              have hcx2 : wq.cell? ⟨b1, o1 + p, none⟩ = some (.int .i64 (x : Int)) := by rw [← hwq]; exact hcx
              clear hwq
              go_wp2_with (at_builtin; refine wp_app rfl (.tmp 73) (.tmp 78) elemI rfl rfl (HGQ.out.own.alloc _) rfl (Vs.one _ _ _) ?c1 ?c2 ?c3 ?_)
              case c1 => intro u hu; simp at hu; subst hu; rfl
              case c2 => omega
              case c3 => omega
              intro v5 w5 ho1 hg1 hb1
              have HG5 := Bx.mk (HGQ.out.one ho1 hg1 hb1)
              clear ho1 hg1 hb1
              go_wp2
              go_roundw
              case rel => exact ⟨p + 1, q, done ++ [x], by omega, by omega, by go_num, by go_num, HG5.out, by rw [List.length_append, HDL.out]; simp; omega, by rw [List.append_assoc, ← HDN.out, HST.out]; rfl⟩
              case measure => simp [intOf]; omega
        · have d1 : decide ((p : Int) < (k : Int)) = false := by simp; omega
          have d1' : decide (p < k) = false := by simp; omega
          by_cases hqm : q < m
          · obtain ⟨b2, o2, y0, rfl, _, hy0, hcy⟩ := (HY.out.ch hG.ch (fun _ _ _ h => h)).at_ hqm
            obtain ⟨y, rfl, hy⟩ := asI_at hy0.out
            have d2 : decide ((m : Int) ≤ (q : Int)) = false := by simp; omega
            have d2' : decide (m ≤ q) = false := by simp; omega
            have d3 : decide ((q : Int) < (m : Int)) = true := by simp; omega
            have HST : Bx (List.merge (X.drop p) (Y.drop q) (leB rank step) = y :: List.merge (X.drop p) (Y.drop (q + 1)) (leB rank step)) := ⟨merge_y hy (.inl (by rw [HXL.out]; omega))⟩
            have HGg := Bx.mk hG
            clear hy0 hy hG hdl hdone
            have hz : True := trivial
            · go_wp2_with fail
              go_quiet (fail)
              generalize hwq : World.drewN wr nq = wq
              have HGQ : Bx (Gr w4 wq _ done) := ⟨by rw [← hwq]; exact HGg.out.keep ((Ch.refl _ _).drewN nq)⟩
              have hcy2 : wq.cell? ⟨b2, o2 + q, none⟩ = some (.int .i64 (y : Int)) := by rw [← hwq]; exact hcy
              clear hwq
              go_wp2_with (at_builtin; refine wp_app rfl (.tmp 82) (.tmp 87) elemI rfl rfl (HGQ.out.own.alloc _) rfl (Vs.one _ _ _) ?c1 ?c2 ?c3 ?_)
              case c1 => intro u hu; simp at hu; subst hu; rfl
              case c2 => omega
              case c3 => omega
              intro v5 w5 ho1 hg1 hb1
              have HG5 := Bx.mk (HGQ.out.one ho1 hg1 hb1)
              clear ho1 hg1 hb1
              go_wp2
              go_roundw
              case rel => exact ⟨p, q + 1, done ++ [y], by omega, by omega, by go_num, by go_num, HG5.out, by rw [List.length_append, HDL.out]; simp; omega, by rw [List.append_assoc, ← HDN.out, HST.out]; rfl⟩
              case measure => simp [intOf]; omega
          · have hdn : done = List.merge X Y (leB rank step) := by
              rw [← hdone, List.drop_of_length_le (by rw [HXL.out]; omega), List.drop_of_length_le (by rw [HYL.out]; omega)]
              simp
            have hlen : done.length = n := by omega
            obtain ⟨A6, c6, hv, hS6, hc6, hm6⟩ := hG.shape
            injection hv with hv1 _ hv2
            subst hv1 hv2
            rw [hlen] at hS6 hc6 ⊢
            rw [hdn, ← HXD.out, ← HYD.out] at hS6
            have HS6 := Bx.mk hS6
            have HM6 := Bx.mk hm6
            have hsz4 : w.heap.size ≤ w4.heap.size := HC4.out.size
            have HC6 := Bx.mk (HC4.out.trans hG.ch (fun _ _ h => h))
            have d3 : decide ((q : Int) < (m : Int)) = false := by simp; omega
            clear hG hdl hdone hdn hS6 hm6 hlen
            go_wp2
            go_ret
            exact ⟨_, _, rfl, HS6.out.mono (fun b _ hb => Or.inr (Nat.le_trans hsz4 hb)), hc6, HM6.out, HC6.out⟩
end Go.Proofs.YtckkjccjkdidjaaGreatDoor
