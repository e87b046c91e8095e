/-
  The contract of haystacklaw1.known: true.
-/
import Derived.Test.YtppplchllnalpaaDoorOcSum
import Derived.Test.YtppplchllnalpaaDoorOcJoin
import Derived.Test.YtppplchllnalpaaDoorOcSame
import Derived.Lib.SlBytesConst
import Derived.Lib.SmallJoins
namespace Go.Proofs.YtppplchllnalpaaDoor
open Go.RowKit Go.Oct

theorem Tab.ch {w w' : World} {S : Nat → Prop} (h : Tab w) (hc : Ch S w w') (hS : ¬ S 0) : Tab w' := fun i hi => hc.cell hS (h i hi)
theorem wr_new (w : World) : Wr (w.alloc (.cells #[.slice none 0 0] 25)) w.heap.size (.slice none 0 0) [] :=
  ⟨heap_alloc_new w _, World.ownsRow_nil _ _ _ _⟩
theorem enc1 : encI 1 = [1] := by
  have : clampI 1 = 1 := by decide
  unfold encI
  rw [this, encN_small (by omega)]
  decide
theorem enc300 : encI 300 = [172, 2] := by
  have : clampI 300 = 300 := by decide
  unfold encI
  rw [this, encN_big (by omega), encN_small (by omega)]
  decide
theorem row97 : rowB [97] = [1, 97] := by unfold rowB; simp [encN_small]
theorem known_sum : sumN (cat [[49, 50, 51, 52], [53, 54, 55, 56, 57]]) = 3421780262 := by decide +kernel
theorem Newer.ge {w : World} {v v' : Value} {B : Nat} (h : Newer w v v') (hv : ∀ g, v.ownBlock = some g → B ≤ g) (hB : B ≤ w.heap.size) : ∀ g, v'.ownBlock = some g → B ≤ g := fun g hg => by
  rcases h g hg with h1 | h1
  · exact hv g h1
  · omega
/-- A call on a Writer of the call's own turns nothing old. -/
theorem chWr {w a b : World} {S : Nat → Prop} {bw : Nat} {v : Value} (h : Ch S w a) (k : Ch (WS bw v) a b) (hbw : w.heap.size ≤ bw) (hv : ∀ g, v.ownBlock = some g → w.heap.size ≤ g) : Ch S w b :=
  h.trans k fun i hi hs => by
    rcases hs with rfl | hs
    · omega
    · have := hv i hs; omega

set_option maxHeartbeats 1000000 in
theorem known_any (w : World) (ht : Tab w) :
    Calls Tryd.prog 20 #[] w fun e w' => e = .returned (.bool true) ∧ Ch (fun _ => False) w w' := by
  have HT := Lib.hid ht
  clear ht
  have kc := fun (w : World) (C : Array Value) (n c : Nat) => Lib.run_convert_bytes_const (P := Tryd.prog) w 23 5 C n c Tryd.underlying23 Tryd.underlying5
  go_enter Tryd.func20, Tryd.ntmps20
  go_wp2_with fail
  have hw0 := (wr_new w).ch ((Ch.refl (fun _ => False) _).alloc (.cells #[.int .i64 1, .int .i64 300] 3)) (fun _ _ h => h)
  refine (nums_any w.heap.size (.slice none 0 0) [] [1, 300] _ 2 2 _ (fun b => b = w.heap.size + 1) (by omega) hw0 (by unfold Sl; simpa using Vs.built (w.alloc (.cells #[.slice none 0 0] 25)) 3 [.int .i64 1, .int .i64 300]) ?f (by simp)).mono ?_
  case f =>
    rintro _ rfl h
    rcases h with h | h
    · omega
    · simp [Value.ownBlock] at h
  rintro e w1 ⟨rfl, v1, hw1, hc1, hn1⟩
  simp only [List.take_succ_cons, List.take_zero, List.flatMap_cons, List.flatMap_nil, List.append_nil, enc1, enc300, List.nil_append, List.cons_append] at hw1
  have hC1 : Ch (fun _ => False) w w1 := chWr (((Ch.refl _ w).alloc _).alloc _) hc1 (Nat.le_refl _) (fun g hg => by simp [Value.ownBlock] at hg)
  have hV1 : ∀ g, v1.ownBlock = some g → w.heap.size ≤ g := hn1.ge (fun g hg => by simp [Value.ownBlock] at hg) (by simp; omega)
  have HC1 := Lib.hid hC1
  have HV1 := Lib.hid hV1
  clear hc1 hn1 hw0 hC1 hV1
  go_wp2_with fail
  have hs1 : Sl (w1.alloc (.cells #[.int .u8 97] 5 (1, 2))) (fun b => b = w1.heap.size) .u8 (some ⟨w1.heap.size, 0, none⟩) 1 [97] := Vs.built w1 5 [.int .u8 97] (1, 2)
  refine (bytes_any w.heap.size v1 [1, 172, 2] [[97]] _ 1 1 _ (fun b => w1.heap.size ≤ b) (by omega) ((hw1.ch ((Ch.refl (fun _ => False) _).alloc _) (fun _ _ h => h)).ch ((Ch.refl (fun _ => False) _).alloc _) (fun _ _ h => h))
    (by simpa using Sls.one 23 hs1 (Nat.le_refl _) (by unfold maxLen; decide) (G := fun b => w1.heap.size ≤ b) (fun b _ h => by omega) (by simp)) ?f (by simp [row97])).mono ?_
  case f =>
    intro b hb _ h
    rcases h with h | h
    · have := hw1.lt; omega
    · have := hw1.row_lt h; omega
  rintro e w2 ⟨rfl, v2, hw2, hc2, hn2⟩
  simp only [List.flatMap_cons, List.flatMap_nil, List.append_nil, row97, List.cons_append, List.nil_append] at hw2
  have hC2 : Ch (fun _ => False) w w2 := chWr ((HC1.out.alloc _).alloc _) hc2 (Nat.le_refl _) HV1.out
  have HC2 := Lib.hid hC2
  clear hc2 hC2
  go_wp2_with fail
  refine (out_any w.heap.size v2 [1, 172, 2, 1, 97] _ hw2 (by simp)).mono ?_
  rintro e w3 ⟨v3, rfl, hf3⟩
  obtain ⟨A3, c3, rfl, _, _⟩ := own_shape hf3.1
  have hC3 : Ch (fun _ => False) w w3 := HC2.out.trans hf3.2.2 (fun _ _ h => h)
  have HC3 := Lib.hid hC3
  clear hC3
  go_wp2_with fail
  have hs3 : Sl (w3.alloc (.cells #[.int .u8 1, .int .u8 172, .int .u8 2, .int .u8 1, .int .u8 97] 5)) (fun b => b = w3.heap.size) .u8 (some ⟨w3.heap.size, 0, none⟩) 5 [1, 172, 2, 1, 97] :=
    Vs.built w3 5 [.int .u8 1, .int .u8 172, .int .u8 2, .int .u8 1, .int .u8 97]
  refine (same_any A3 _ 5 5 c3 5 [1, 172, 2, 1, 97] [1, 172, 2, 1, 97] _ _ _ (by omega) (by omega) ((Sl.of_own hf3.1).alloc _) hs3).mono ?_
  rintro e w4 ⟨rfl, m, ew4⟩
  have hC4 : Ch (fun _ => False) w w4 := by
    rw [ew4]
    exact (HC3.out.alloc _).drewN m
  have HC4 := Lib.hid hC4
  clear ew4 hC4 hs3
  have kc2 := Joins.run_convert_bytes_const_at (P := Tryd.prog) (w4.alloc (.cells #[.int .u8 49, .int .u8 50, .int .u8 51, .int .u8 52] 5 (4, 5))) 23 5 #[.int .u8 53, .int .u8 54, .int .u8 55, .int .u8 56, .int .u8 57] 5 5 (w4.heap.size + 1) (by simp) Tryd.underlying23 Tryd.underlying5
  have hr1 : Sl (w4.alloc (.cells #[.int .u8 49, .int .u8 50, .int .u8 51, .int .u8 52] 5 (4, 5))) (fun _ => True) .u8 (some ⟨w4.heap.size, 0, none⟩) 4 [49, 50, 51, 52] :=
    (Vs.built w4 5 [.int .u8 49, .int .u8 50, .int .u8 51, .int .u8 52] (4, 5)).mono fun _ _ _ => trivial
  have hr2 : Sl ((w4.alloc (.cells #[.int .u8 49, .int .u8 50, .int .u8 51, .int .u8 52] 5 (4, 5))).alloc (.cells #[.int .u8 53, .int .u8 54, .int .u8 55, .int .u8 56, .int .u8 57] 5 (5, 6))) (fun _ => True) .u8 (some ⟨w4.heap.size + 1, 0, none⟩) 5 [53, 54, 55, 56, 57] := by
    have := (Vs.built (w4.alloc (.cells #[.int .u8 49, .int .u8 50, .int .u8 51, .int .u8 52] 5 (4, 5))) 5 [.int .u8 53, .int .u8 54, .int .u8 55, .int .u8 56, .int .u8 57] (5, 6)).mono (G := fun _ => True) fun _ _ _ => trivial
    unfold Sl
    simpa using this
  have hr3 : Sls ((((w4.alloc (.cells #[.int .u8 49, .int .u8 50, .int .u8 51, .int .u8 52] 5 (4, 5))).alloc (.cells #[.int .u8 53, .int .u8 54, .int .u8 55, .int .u8 56, .int .u8 57] 5 (5, 6)))).alloc (.cells #[.slice (some ⟨w4.heap.size, 0, none⟩) 4 4, .slice (some ⟨w4.heap.size + 1, 0, none⟩) 5 5] 23)) (fun _ => True) (some ⟨w4.heap.size + 1 + 1, 0, none⟩) 2 [[49, 50, 51, 52], [53, 54, 55, 56, 57]] := by
    refine ⟨[.slice (some ⟨w4.heap.size, 0, none⟩) 4 4, .slice (some ⟨w4.heap.size + 1, 0, none⟩) 5 5], ?_, Rows.cons_ ((hr1.alloc _).alloc _) (by simp) (by unfold maxLen; omega) (Rows.cons_ (hr2.alloc _) (by simp) (by unfold maxLen; omega) (Rows.nil_ _ _))⟩
    have := (Vs.built ((w4.alloc (.cells #[.int .u8 49, .int .u8 50, .int .u8 51, .int .u8 52] 5 (4, 5))).alloc (.cells #[.int .u8 53, .int .u8 54, .int .u8 55, .int .u8 56, .int .u8 57] 5 (5, 6))) 23 [.slice (some ⟨w4.heap.size, 0, none⟩) 4 4, .slice (some ⟨w4.heap.size + 1, 0, none⟩) 5 5]).mono (G := fun _ => True) fun _ _ _ => trivial
    simpa using this
  have HR3 := Lib.hid hr3
  clear hr1 hr2 hr3
  go_wp2_with fail
  refine (sum_any [[49, 50, 51, 52], [53, 54, 55, 56, 57]] _ 2 2 _ _ (by omega) ?ht HR3.out (by decide) ?hb).mono ?_
  case ht => exact HT.out.ch (((HC4.out.alloc _).alloc _).alloc _) (fun h => h)
  case hb =>
    intro xs hx x hxx
    simp at hx
    rcases hx with rfl | rfl <;> (simp at hxx; omega)
  rintro e w5 ⟨he, rfl⟩
  rw [known_sum] at he
  subst he
  clear HR3 kc kc2
  go_wp2
  go_ret
  exact ⟨rfl, ((HC4.out.alloc _).alloc _).alloc _⟩
end Go.Proofs.YtppplchllnalpaaDoor
