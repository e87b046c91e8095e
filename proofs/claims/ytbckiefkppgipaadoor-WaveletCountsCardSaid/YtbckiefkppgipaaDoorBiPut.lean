/-
  A Vector made: what a maker leaves; set and blank as makers call them.
-/
import Derived.Test.YtbckiefkppgipaaDoorBiMake
namespace Go.Proofs.YtbckiefkppgipaaDoor
open Go.RowKit Go.Oct Go.Bi

theorem vec_of {w : World} {F : Nat → Prop} {bv bw ba n m : Nat} {ws : List Nat} {l : List Bool} (h : Cnt w bv bw ba n m ws (ahd ws)) (hw : Wd ws l) (hl : l.length = n) (h1 : F bv) (h2 : F bw) (h3 : F ba) : Vec w F bv l := by
  obtain ⟨c0, c1, c2, _⟩ := cells3 h.raw.blk
  have hm := h.len
  have hmost := h.raw.most
  have vw := Vs.of_own h.raw.own
  have va := Vs.of_own h.own
  refine ⟨some ⟨bw, 0, none⟩, some ⟨ba, 0, none⟩, ws.length, m, ws, ahd ws, by rw [hl]; exact c0, c1, by rw [hm]; exact c2, h1, ?_, ?_, by omega, hw, ah_cum hw (by omega)⟩
  · have := vw.mono (G := F) fun b _ hb => by simp [Value.ownBlock] at hb; subst hb; exact h2
    unfold Sn Sl
    rwa [List.map_map]
  · have := va.mono (G := F) fun b _ hb => by simp [Value.ownBlock] at hb; subst hb; exact h3
    unfold Sn Sl
    rw [List.map_map, hm]
    exact this

/-- What a maker leaves: a new Vector that is the row l. -/
def Made (l : List Bool) (w : World) (e : Ending) (w' : World) : Prop := ∃ bv : Nat, e = .returned (.pointer (some ⟨bv, 0, none⟩)) ∧ Vec w' (fun k => w.heap.size ≤ k) bv l ∧ Ch (fun _ => False) w w'

/-- A row with a 1 at a place, if there is one. -/
def put1 (l : List Bool) (i : Int) : List Bool := if 0 ≤ i ∧ i < l.length then l.set i.toNat true else l
theorem put1_len (l : List Bool) (i : Int) : (put1 l i).length = l.length := by
  unfold put1
  split <;> simp
/-- .. with a 1 at each of many. -/
def puts (l : List Bool) (xs : List Int) : List Bool := xs.foldl put1 l
theorem puts_len (l : List Bool) (xs : List Int) : (puts l xs).length = l.length := by
  induction xs generalizing l with
  | nil => rfl
  | cons x xs ih => exact (ih _).trans (put1_len l x)
theorem puts_next {l : List Bool} {xs : List Int} {k : Nat} {x : Int} (h : xs[k]? = some x) : puts l (xs.take (k + 1)) = put1 (puts l (xs.take k)) x := by
  unfold puts
  rw [List.take_add_one, h, List.foldl_append]
  rfl
/-- set, whatever the place. -/
theorem set_any (bv bw n : Nat) (v : Value) (ws : List Nat) (l : List Bool) (i : Int) (w : World) (h : Raw w bv bw n v ws) (hw : Wd ws l) (hl : l.length = n) :
    Calls Tryd.prog 40 #[.pointer (some ⟨bv, 0, none⟩), .int .i64 i] w fun e w' => e = .returned (.tuple #[]) ∧ (∃ ws', Raw w' bv bw n v ws' ∧ Wd ws' (put1 l i)) ∧ Ch (fun k => k = bw) w w' := by
  by_cases hi : 0 ≤ i ∧ i < l.length
  · obtain ⟨j, rfl⟩ : ∃ j : Nat, i = j := ⟨i.toNat, by omega⟩
    refine (set_in bv bw n v ws j w h (by omega) (hw.lt _)).mono fun e w' ⟨h1, h2, h3⟩ => ⟨h1, ⟨_, h2, ?_⟩, h3⟩
    unfold put1
    rw [if_pos hi]
    exact wd_set hw (by omega)
  · refine (set_out bv bw n v ws i w h (by omega)).mono fun e w' ⟨h1, h2⟩ => ⟨h1, ⟨ws, by rw [← h2]; exact h, ?_⟩, by rw [← h2]; exact Ch.refl _ _⟩
    unfold put1
    rw [if_neg hi]
    exact hw

theorem blank_is (N : Nat) (z : Int) (w : World) (hn : N ≤ 1048576) (hz : z = N) :
    Calls Tryd.prog 39 #[.int .i64 z] w fun e w' => e = .returned (.pointer (some ⟨w.heap.size + 1, 0, none⟩)) ∧ Raw w' (w.heap.size + 1) w.heap.size N (.slice none 0 0) (List.replicate ((N + 63) / 64) 0) ∧ Ch (fun _ => False) w w' := by
  subst hz
  exact blank_any N w hn
end Go.Proofs.YtbckiefkppgipaaDoor
