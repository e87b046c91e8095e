/-
  The contract of suffix.Array: the endings of a row in their order, or refused.
  Conditions: the row reads as it says.
-/
import Derived.Test.YtgboobjmafdieaaSvSorted
namespace Go.Proofs.Ytgboobjmafdieaa
open Go.RowKit Go.Oct Go.Su

section
variable {F : Nat → Prop}
theorem array_err (s : List Int) (A : Option Addr) (n c : Nat) (w : World) (hs : Sl w F .i64 A n s) (hn : n ≤ 9223372036854775807) (h : aErr s ≠ 0) :
    Calls Try.prog 18 #[.slice A n c] w fun e w' => e = .returned (.tuple #[.slice none 0 0, .int .i64 (aErr s)]) ∧ w = w' := by
  have hch := check_any s A n c w hs hn
  generalize aErr s = v at *
  have hb : (v != 0) = true := by simpa using h
  clear hs h
  go_enter Try.func18, Try.ntmps18
  go_wp2_with fail
  refine hch.mono ?_
  rintro e w' ⟨rfl, rfl⟩
  go_wp2
  go_returns
  exact ⟨rfl, rfl⟩
theorem aErr_zero {s : List Int} (hn : s.length ≤ 65536) (hp : Pos s) : aErr s = 0 := by
  unfold aErr
  rw [if_neg (by omega), if_pos]
  rw [List.all_eq_true]
  intro x hx
  simpa using hp x hx
/-- A new row of the call's own. -/
def OwnSufs (s : List Int) (n : Nat) (w : World) (e : Ending) (w' : World) : Prop := ∃ (g : Nat) (L : List Nat), e = .returned (.tuple #[.slice (some ⟨g, 0, none⟩) n n, .int .i64 0]) ∧ IsSA s L ∧ Own w' 3 1 g n n (vals L) ∧ w.heap.size ≤ g ∧ Ch (fun _ => False) w w'
theorem array_own (s : List Int) (A : Option Addr) (n c : Nat) (w : World) (hs : Sl w F .i64 A n s) (hn : n ≤ 65536) (hp : Pos s) :
    Calls Try.prog 18 #[.slice A n c] w (OwnSufs s n w) := by
  have hl := hs.len
  have hch := check_any s A n c w hs (by omega)
  rw [aErr_zero (by omega) hp] at hch
  have hsort := sorted_any s A n c w hs hn hp
  clear hs hp hl
  go_enter Try.func18, Try.ntmps18
  go_wp2_with fail
  refine hch.mono ?_
  rintro e w' ⟨rfl, rfl⟩
  go_wp2_with fail
  refine hsort.mono ?_
  rintro e w2 ⟨g, L, rfl, hSA, hO, hg, hC⟩
  have HSA := Bx.mk hSA
  have HO := Bx.mk hO
  have HC := Bx.mk hC
  have HG := Bx.mk hg
  clear hSA hO hC hg hsort hch
  go_wp2
  go_returns
  exact ⟨g, L, rfl, HSA.out, HO.out, HG.out, HC.out⟩
theorem array_ok (s : List Int) (A : Option Addr) (n c : Nat) (w : World) (hs : Sl w F .i64 A n s) (hn : n ≤ 65536) (hp : Pos s) :
    Calls Try.prog 18 #[.slice A n c] w (Sufs s n w) :=
  (array_own s A n c w hs hn hp).mono fun e w' ⟨g, L, he, hSA, hO, hg, hC⟩ =>
    ⟨some ⟨g, 0, none⟩, n, L, he, hSA, hO.slN.mono (fun b _ hb => by omega), Nat.le_refl _, by unfold maxLen; omega, hC⟩
end
end Go.Proofs.Ytgboobjmafdieaa
