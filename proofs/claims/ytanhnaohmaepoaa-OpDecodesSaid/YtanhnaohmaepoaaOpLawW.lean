/-
  Words of op's laws: rows and numbers compared; what is laid is bytes. Conditions: none of their own.
-/
import Derived.Test.YtanhnaohmaepoaaOpW
import Derived.Test.YtanhnaohmaepoaaFmSame
import Derived.Test.YtanhnaohmaepoaaOpInts
namespace Go.Proofs.Ytanhnaohmaepoaa
open Go.RowKit Go.Oct Go.Su Go.Sg Go.Om

theorem same_o (A A' : Option Addr) (n n' c c' : Nat) (xs ys : List Int) (F F' : Nat → Prop) (w : World) (hn : n ≤ 9223372036854775807) (hn' : n' ≤ 9223372036854775807) (hx : Sl w F .u8 A n xs) (hy : Sl w F' .u8 A' n' ys) (o : Bool) (ho : decide (xs = ys) = o) :
    Calls Try.prog 11 #[.slice A n c, .slice A' n' c'] w fun e w' => e = .returned (.bool o) ∧ Ch (fun _ => False) w w' :=
  (same_any A A' n n' c c' xs ys F F' w hn hn' hx hy).mono fun e w' h => by
    obtain ⟨h1, q, h2⟩ := h
    exact ⟨by rw [h1, ho], by rw [h2]; exact (Ch.refl _ _).drewN q⟩
theorem ints_o (A A' : Option Addr) (n n' c c' : Nat) (xs ys : List Int) (F F' : Nat → Prop) (w : World) (hn : n ≤ 9223372036854775807) (hn' : n' ≤ 9223372036854775807) (hx : Sl w F .i64 A n xs) (hy : Sl w F' .i64 A' n' ys) (o : Bool) (ho : decide (xs = ys) = o) :
    Calls Try.prog 21 #[.slice A n c, .slice A' n' c'] w fun e w' => e = .returned (.bool o) ∧ Ch (fun _ => False) w w' :=
  (ints_any A A' n n' c c' xs ys F F' w hn hn' hx hy).mono fun e w' h => by
    obtain ⟨h1, q, h2⟩ := h
    exact ⟨by rw [h1, ho], by rw [h2]; exact (Ch.refl _ _).drewN q⟩
theorem byt_enc (z : Int) : Byt (encI z) := encN_byt _
theorem byt_flat (zs : List Int) : Byt (zs.flatMap encI) := fun x hx => by
  obtain ⟨z, _, h⟩ := List.mem_flatMap.1 hx
  exact byt_enc z x h
theorem byt_row {xs : List Int} (h : Byt xs) : Byt (rowB xs) := (encN_byt _).app h
theorem byt_rep (e : Int) (l : List Int) : Byt (repB e l) := byt_flat _
theorem byt_mat (l : List (Key × Int)) : Byt (matB l) := by
  refine (byt_enc _).app fun x hx => ?_
  obtain ⟨m, _, h⟩ := List.mem_flatMap.1 hx
  exact ((byt_row (kI_byte m.1)).app (byt_enc m.2)) x h
theorem byt_op {o : Ao} (h : Byt o.txt) : Byt (encO o) := by
  unfold encO
  split
  · exact (byt_flat _).app ((byt_row (kI_byte o.key)).app (byt_row h))
  · exact fun x hx => by simp at hx
theorem flat_len9 (zs : List Int) (n : Nat) (h : zs.length ≤ n) : (zs.flatMap encI).length ≤ 9 * n := by
  induction zs generalizing n with
  | nil => simp
  | cons a l ih =>
    rw [List.flatMap_cons, List.length_append]
    have h1 := encI_len a
    simp only [List.length_cons] at h
    have h2 := ih (n - 1) (by omega)
    omega
theorem rep_len (e : Int) (l : List Int) : (repB e l).length ≤ 90 :=
  flat_len9 _ 10 (by rw [List.length_append, List.length_take]; simp only [List.length_cons, List.length_nil]; omega)
end Go.Proofs.Ytanhnaohmaepoaa
