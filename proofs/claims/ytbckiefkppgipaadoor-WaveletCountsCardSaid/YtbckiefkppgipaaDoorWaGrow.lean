/-
  A row of symbols that is appended to, from nothing on.
-/
import Derived.Test.YtbckiefkppgipaaDoorWaVals
namespace Go.Proofs.YtbckiefkppgipaaDoor
open Go.RowKit Go.Oct Go.Bi Go.Wa

/-- A row of the call's own at wr; the call began at w. -/
structure Gr (w wr : World) (v : Value) (xs : List Nat) : Prop where
  own : wr.ownsRow 0 3 1 v xs.length (vals xs)
  lies : ∀ g, v.ownBlock = some g → w.heap.size ≤ g
  ch : Ch (fun _ => False) w wr
section
variable {w wr w2 : World} {v v' : Value} {xs ys : List Nat}
theorem Gr.nil (w : World) : Gr w w (.slice none 0 0) [] := ⟨World.ownsRow_nil _ _ _ _, fun g hg => by simp [Value.ownBlock] at hg, Ch.refl _ _⟩
theorem Gr.more (h : Gr w wr v xs) {wm : World} (hm : Ch (fun _ => False) wr wm) (ho : w2.ownsRow 0 3 1 v' (xs.length + ys.length) (vals xs ++ vals ys)) (hg : wm.grownBy w2 v.ownBlock) (hb : v'.ownBlock = v.ownBlock ∨ v'.ownBlock = some wm.heap.size) : Gr w w2 v' (xs ++ ys) := by
  have hc := h.ch.trans hm (fun _ _ h => h)
  refine ⟨?_, fun g hgv => ?_, hc.grown hg (fun k hk => .inr (h.lies k hk))⟩
  · rw [List.length_append]
    unfold vals at *
    rw [List.map_append]
    exact ho
  · rcases hb with hb | hb
    · exact h.lies g (hb ▸ hgv)
    · rw [hb] at hgv
      injection hgv with hgv
      have := hc.size
      omega
theorem Gr.moreN (h : Gr w wr v xs) {k m : Nat} (hk : xs.length = k) (hm' : ys.length = m) {wm : World} (hm : Ch (fun _ => False) wr wm) (ho : w2.ownsRow 0 3 1 v' (k + m) (vals xs ++ vals ys)) (hg : wm.grownBy w2 v.ownBlock) (hb : v'.ownBlock = v.ownBlock ∨ v'.ownBlock = some wm.heap.size) : Gr w w2 v' (xs ++ ys) := by
  subst hk hm'
  exact h.more hm ho hg hb
theorem Gr.one (h : Gr w wr v xs) {x : Nat} (ho : w2.ownsRow 0 3 1 v' (xs.length + 1) (vals xs ++ [Value.int .i64 (x : Int)])) (hg : (wr.alloc (.cells #[.int .i64 (x : Int)] 3)).grownBy w2 v.ownBlock) (hb : v'.ownBlock = v.ownBlock ∨ v'.ownBlock = some (wr.heap.size + 1)) : Gr w w2 v' (xs ++ [x]) :=
  h.more (ys := [x]) ((Ch.refl (fun _ => False) wr).alloc _) ho hg (by rw [World.size_alloc]; exact hb)
theorem Gr.keep (h : Gr w wr v xs) (hc : Ch (fun _ => False) wr w2) : Gr w w2 v xs :=
  ⟨hc.own h.own (fun _ _ h => h), h.lies, h.ch.trans hc (fun _ _ h => h)⟩
theorem Gr.first {n : Nat} (hn : xs.length = n) (ho : w2.ownsRow 0 3 1 v' n (vals xs)) (hg : wr.grownBy w2 (Value.slice none 0 0).ownBlock) (hb : v'.ownBlock = (Value.slice none 0 0).ownBlock ∨ v'.ownBlock = some wr.heap.size) : Gr wr w2 v' xs := by
  subst hn
  refine ⟨ho, fun g hgv => ?_, (Ch.refl (fun _ => False) wr).grown hg (fun k hk => by simp [Value.ownBlock] at hk)⟩
  rcases hb with hb | hb
  · rw [hb] at hgv
    simp [Value.ownBlock] at hgv
  · rw [hb] at hgv
    injection hgv with hgv
    omega
/-- .. as a slice. -/
theorem Gr.shape (h : Gr w wr v xs) : ∃ A c, v = .slice A xs.length c ∧ Sl wr (fun b => w.heap.size ≤ b) .i64 A xs.length (asI xs) ∧ xs.length ≤ c ∧ c ≤ maxLen := by
  obtain ⟨A, c, rfl, h1, h2⟩ := own_shape h.own
  refine ⟨A, c, rfl, ?_, h1, h2⟩
  have ho := h.own
  rw [← vals_asI] at ho
  exact (Sl.of_own ho).mono (fun b _ hb => h.lies b hb)
theorem Gr.vs {A : Option Addr} {n c : Nat} (h : Gr w wr (.slice A n c) xs) (hn : xs.length = n) : Vs wr (fun b => w.heap.size ≤ b) A n (vals xs) := by
  have ho := h.own
  rw [hn] at ho
  exact (Vs.of_own ho).mono (fun b _ hb => h.lies b hb)
end
theorem vals_cells (l : List Nat) : ∀ u ∈ vals l, u.oneCell' = true := by
  intro u hu
  obtain ⟨x, _, rfl⟩ := List.mem_map.1 hu
  rfl
theorem take_more {l : List Nat} {j x : Nat} (h : l[j]? = some x) : l.take (j + 1) = l.take j ++ [x] := by rw [List.take_add_one, h]; rfl
end Go.Proofs.YtbckiefkppgipaaDoor
