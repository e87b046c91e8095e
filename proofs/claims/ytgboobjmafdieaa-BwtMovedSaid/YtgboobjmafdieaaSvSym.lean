/-
  The contract of suffix.bySymbol: the endings in the order of their first symbols.
-/
import Derived.Test.YtgboobjmafdieaaSvSame
import Derived.Shelf.SlSortCmp.NoneTotal
import Derived.Lib.SortBridge
namespace Go.Proofs.Ytgboobjmafdieaa
open Go.RowKit Go.Oct Go.Su Go.Sort

theorem ch_grow {S : Nat → Prop} {a w : World} (h : Ch S a w) (os : Array Obj) : Ch S a (grow w os) :=
  ⟨h.os, h.tape, h.output, Nat.le_trans h.size (by simp [grow]), fun k hk hn => by
    have h1 := h.size
    rw [← h.block k hk hn]
    unfold grow
    exact Array.getElem?_append_left (by omega)⟩
theorem ch_sortWorld {α : Type} [Inhabited α] (enc : α → Value) (w : World) (blk off m : Nat) (d : Array α) (os : Array Obj) : Ch (fun b => b = blk) w (sortWorld enc w blk off m d os) := by
  unfold sortWorld
  have h0 : Ch (fun b => b = blk) w (putRow enc (Sort.ahead w m) blk off d) := by
    refine ⟨rfl, rfl, rfl, ?_, fun k hk hn => ?_⟩
    · simp [putRow, mapBlock, Sort.ahead]
    · unfold putRow mapBlock Sort.ahead
      show (w.heap.modify blk _)[k]? = w.heap[k]?
      rw [Array.getElem?_modify, if_neg (fun e => hn e.symm)]
  exact ch_grow h0 os
theorem own_setCells {e : TypeId} {g n c : Nat} : ∀ (vs : List Value) (off : Nat) (w : World) (us : List Value), Own w e 1 g n c us → off + vs.length ≤ n → Own (w.setCells g off vs) e 1 g n c (us.take off ++ (vs ++ us.drop (off + vs.length)))
  | [], off, w, us, h, _ => by simpa [World.setCells] using h
  | v :: vs, off, w, us, h, hl => by
    have hu := h.len
    rw [List.length_cons] at hl
    have h1 := own_setCells vs (off + 1) _ _ (h.stored off v).1 (by omega)
    rw [World.setCells]
    have e1 : (us.set off v).take (off + 1) = us.take off ++ [v] := by
      rw [List.take_add_one, List.take_set_of_le (Nat.le_refl _), List.getElem?_set_self (by omega)]
      rfl
    have e2 : (us.set off v).drop (off + 1 + vs.length) = us.drop (off + (vs.length + 1)) := by
      rw [List.drop_set_of_lt (by omega), show off + 1 + vs.length = off + (vs.length + 1) by omega]
    rw [e1, e2, List.append_assoc] at h1
    exact h1
theorem ltS (f : Nat → Int) {n : Nat} (x y : Fin n) : ltOf (fun x y : Fin n => Lib.compareInt (f x) (f y)) x y = decide (f x < f y) := by
  unfold ltOf Lib.compareInt
  by_cases h1 : f x < f y
  · simp [h1]
  · by_cases h2 : f y < f x <;> simp [h1, h2]
theorem swoS (f : Nat → Int) (n : Nat) : SWO (ltOf (fun x y : Fin n => Lib.compareInt (f x) (f y))) where
  irrefl x := by rw [ltS]; simp
  trans x y z h1 h2 := by rw [ltS] at *; simp at *; omega
  ntrans x y z h1 h2 := by rw [ltS] at *; simp at *; omega
section
variable {F : Nat → Prop}
/-- What bySymbol leaves. -/
def Ordered (s : List Int) (n h : Nat) (w : World) (e : Ending) (w' : World) : Prop := ∃ (g : Nat) (L : List Nat), e = .returned (.slice (some ⟨g, 0, none⟩) n n) ∧ Ord s L h ∧ Own w' 3 1 g n n (vals L) ∧ w.heap.size ≤ g ∧ Ch (fun _ => False) w w'
theorem ord_of_perm {s : List Int} {n : Nat} (hl : s.length = n) (d : Array (Fin n)) (hp : d.toList.Perm (Array.ofFn (fun i : Fin n => i)).toList) (hs : ∀ i j (hi : i < d.size) (hj : j < d.size), i < j → ¬ gs s d[j] < gs s d[i]) : Ord s (d.toList.map Fin.val) 1 := by
  have h1 : (d.toList.map Fin.val).Perm (List.range n) := by
    refine (hp.map Fin.val).trans ?_
    have : (Array.ofFn (fun i : Fin n => i)).toList.map Fin.val = List.range n := by
      apply List.ext_getElem
      · simp
      · intro i h1 h2
        simp
    rw [this]
  refine ⟨fun x => by rw [h1.mem_iff, List.mem_range, hl], h1.symm.nodup List.nodup_range, ?_⟩
  rw [List.pairwise_map, List.pairwise_iff_getElem]
  intro i j hi hj hij
  have h2 := hs i j (by simpa using hi) (by simpa using hj) hij
  rintro ⟨k, h0, _, h3⟩
  obtain rfl : k = 0 := by omega
  simp only [Nat.add_zero, Array.getElem_toList] at h3
  exact h2 h3
end
end Go.Proofs.Ytgboobjmafdieaa
