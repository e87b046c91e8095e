/-
  The walk of haystacklaw2.BitsOfNothing: true, whatever is asked. Condition: the library's table stands as start-up lays it.
-/
import Derived.Test.YtaglgmgpifmkdaaDoorBiKnown
namespace Go.Proofs.YtaglgmgpifmkdaaDoor
open Go.RowKit Go.Oct Go.Bi

set_option maxHeartbeats 400000 in
theorem nothing_any (i : Int) (o : Bool) (w : World) (ht : Tab w) :
    Calls Tryd.prog 6 #[.int .i64 i, .bool o] w fun e w' => e = .returned (.bool true) ∧ Ch (fun _ => False) w w' := by
  have HT := Bx.mk ht
  clear ht
  go_enter Tryd.func6, Tryd.ntmps6
  go_wp2_with fail
  refine (flip_nil _).mono ?_
  rintro e w1 ⟨bv, rfl, hv, hC⟩
  have HV := Bx.mk hv
  have HC := Bx.mk hC
  clear hv hC
  go_wp2_with (first | (go_at_call 19; refine (len_nil _).mono ?_; rintro e w' ⟨rfl, rfl⟩) | (go_at_call 20; refine (ones_nil _).mono ?_; rintro e w' ⟨rfl, rfl⟩) | (go_at_call 18; refine (rank_nil _ _ _).mono ?_; rintro e w' ⟨rfl, rfl⟩) | (go_at_call 17; refine (get_nil _ _).mono ?_; rintro e w' ⟨rfl, rfl⟩))
  refine (select_nil _ _ _).mono ?_
  rintro e w2 ⟨rfl, hC2⟩
  have HV2 := Bx.mk (HV.out.keep hC2)
  have HC2 := Bx.mk (HC.out.trans hC2 (fun _ _ h => h))
  clear hC2
  go_wp2_with fail
  refine (len_any bv [] _ HV2.out).mono ?_
  rintro e w' ⟨he, rfl⟩
  rw [show ((([] : List Bool).length : Nat) : Int) = 0 from rfl] at he
  subst he
  go_wp2_with fail
  refine (known_any _ (HT.out.keep HC2.out)).mono ?_
  rintro e w3 ⟨rfl, hC3⟩
  go_wp2
  go_ret
  exact ⟨rfl, HC2.out.trans hC3 (fun _ _ h => h)⟩
end Go.Proofs.YtaglgmgpifmkdaaDoor
