/-
  The walk of haystacklaw4.WaveletOfNothing: true, whatever is asked. Condition: the library's table stands as start-up lays it.
-/
import Derived.Test.YtbckiefkppgipaaDoorWaKnown
namespace Go.Proofs.YtbckiefkppgipaaDoor
open Go.RowKit Go.Oct Go.Bi Go.Wa

theorem cells3n (w : World) (u v x : Value) (t : TypeId) : (w.alloc (.cells #[u, v, x] t)).cell? ⟨w.heap.size, 0, none⟩ = some u ∧ (w.alloc (.cells #[u, v, x] t)).cell? ⟨w.heap.size, 1, none⟩ = some v ∧ (w.alloc (.cells #[u, v, x] t)).cell? ⟨w.heap.size, 2, none⟩ = some x := by
  have h : (w.alloc (.cells #[u, v, x] t)).heap[w.heap.size]? = some (.cells #[u, v, x] t) := heap_alloc_new w _
  unfold World.cell?
  rw [h]
  exact ⟨rfl, rfl, rfl⟩
set_option maxHeartbeats 4000000 in
theorem nothing_any (c i k : Int) (w : World) (ht : Tab w) :
    Calls Tryd.prog 5 #[.agg #[.int .i64 c, .int .i64 i, .int .i64 k]] w fun e w' => e = .returned (.bool true) ∧ Ch (fun _ => False) w w' := by
  have HT := Bx.mk ht
  clear ht
  go_enter Tryd.func5, Tryd.ntmps5
  go_wp2_with fail
  obtain ⟨c0, c1, c2⟩ := cells3n w (.int .i64 c) (.int .i64 i) (.int .i64 k) 34
  have hC0 := (Ch.refl (fun _ => False) w).alloc (.cells #[.int .i64 c, .int .i64 i, .int .i64 k] 34)
  have HC0 := Bx.mk hC0
  clear hC0
  generalize w.heap.size = B at *
  generalize World.alloc w _ = w1 at *
  have hcc := Ch.refl (fun _ => False) w1
  go_region_held3 (fun w' => w'.cell? ⟨B, 0, none⟩ = some (.int .i64 c) ∧ w'.cell? ⟨B, 1, none⟩ = some (.int .i64 i) ∧ w'.cell? ⟨B, 2, none⟩ = some (.int .i64 k)) (first | go_keep | exact s2 | exact ⟨c0, c1, c2⟩) (first | (go_at_call 12; refine (tlen_nil _).mono ?_; rintro e w' ⟨rfl, rfl⟩) | (go_at_call 13; refine (width_nil _).mono ?_; rintro e w' ⟨rfl, rfl⟩) | (go_at_call 14; refine (tall_nil _).mono ?_; rintro e w2 ⟨⟨g, rfl⟩, hc2⟩; have hcc : Ch (fun _ => False) w1 w2 := (by first | exact hcc.trans hc2 (fun _ _ h => h) | exact hcc.drew.trans hc2 (fun _ _ h => h)); have s2 : w2.cell? ⟨B, 0, none⟩ = some (.int .i64 c) ∧ w2.cell? ⟨B, 1, none⟩ = some (.int .i64 i) ∧ w2.cell? ⟨B, 2, none⟩ = some (.int .i64 k) := ⟨hcc.cell (fun h => h) c0, hcc.cell (fun h => h) c1, hcc.cell (fun h => h) c2⟩) | (go_at_call 16; refine (trank_nil _ _ _).mono ?_; rintro e w' ⟨rfl, rfl⟩) | (go_at_call 20; refine (tbelow_nil _ _ _ _).mono ?_; rintro e w' ⟨rfl, rfl⟩) | (go_at_call 15; refine (tget_nil _ _).mono ?_; rintro e w' ⟨rfl, rfl⟩) | (go_at_call 18; refine (tselect_nil _ _ _).mono ?_; rintro e w' ⟨rfl, rfl⟩) | (go_at_call 11; refine (known_any _ ((HT.out.keep HC0.out).keep hcc)).mono ?_; rintro e w3 ⟨rfl, hc3⟩; have hc4 : Ch (fun _ => False) w1 w3 := hcc.trans hc3 (fun _ _ h => h); have s2 : w3.cell? ⟨B, 0, none⟩ = some (.int .i64 c) ∧ w3.cell? ⟨B, 1, none⟩ = some (.int .i64 i) ∧ w3.cell? ⟨B, 2, none⟩ = some (.int .i64 k) := ⟨hc4.cell (fun h => h) c0, hc4.cell (fun h => h) c1, hc4.cell (fun h => h) c2⟩))
  all_goals
    have HC4 := Bx.mk (HC0.out.trans hc4 (fun _ _ h => h))
    clear hc4 s2
    go_wp2
    go_ret
    exact ⟨rfl, HC4.out⟩
end Go.Proofs.YtbckiefkppgipaaDoor
