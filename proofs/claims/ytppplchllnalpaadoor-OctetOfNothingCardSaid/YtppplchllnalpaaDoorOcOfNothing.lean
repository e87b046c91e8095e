/-
  The walk of haystacklaw1.OctetOfNothing: true, whatever the number and the bytes. Condition: the table of check sums stands as start-up lays it.
-/
import Derived.Test.YtppplchllnalpaaDoorOcNil
namespace Go.Proofs.YtppplchllnalpaaDoor
open Go.RowKit Go.Oct

set_option maxHeartbeats 1000000 in
theorem nothing_any (v : Int) (A : Option Addr) (n c : Nat) (w : World) (ht : Tab w) (hn : n ≤ 9223372036854775807) :
    Calls Tryd.prog 7 #[.int .i64 v, .slice A n c] w fun e w' => e = .returned (.bool true) ∧ Ch (fun _ => False) w w' := by
  have HT := Lib.hid ht
  clear ht
  by_cases hbig : 4000 < n
  · go_enter Tryd.func7, Tryd.ntmps7
    go_wp2
    go_ret
    exact ⟨rfl, Ch.refl _ _⟩
  · go_enter Tryd.func7, Tryd.ntmps7
    go_wp2_with (go_at_call 11; refine (nums_nil _ _ _ _).mono ?_; rintro e w' ⟨rfl, rfl⟩)
    refine (bytes_nil _ 1 1 (.slice A n c) _ (by omega) ⟨_, _, _, rfl, hn⟩ ?h).mono ?_
    case h =>
      have := (Vs.built (w.alloc (.cells #[.int .i64 v] 3)) 23 [.slice A n c]).mono (G := fun _ => True) fun _ _ _ => trivial
      simpa using this
    rintro e w1 ⟨rfl, hc1⟩
    have hC1 : Ch (fun _ => False) w w1 := (((Ch.refl _ w).alloc _).alloc _).trans hc1 fun _ _ h => h
    have HC1 := Lib.hid hC1
    clear hc1 hC1
    go_wp2_with (first | (go_at_call 26; refine (raw_nil _ _ _ _).mono ?_; rintro e w' ⟨rfl, rfl⟩) | (go_at_call 33; refine (bad_nil _).mono ?_; rintro e w' ⟨rfl, rfl⟩))
    refine (rnums_nil w1.heap.size _ (by rw [World.cell?_alloc_at _ _ _ _ rfl]; rfl)).mono ?_
    rintro e w2 ⟨rfl, ew2⟩
    have hC2 : Ch (fun _ => False) w w2 := by
      rw [← ew2]
      exact HC1.out.alloc _
    have HC2 := Lib.hid hC2
    clear ew2 hC2
    go_wp2_with (first | (go_at_call 12; refine (out_nil _).mono ?_; rintro e w' ⟨rfl, rfl⟩) | (go_at_call 17; refine (num_nil _).mono ?_; rintro e w' ⟨rfl, rfl⟩) | (go_at_call 27; refine (rbytes_nil _).mono ?_; rintro e w' ⟨rfl, rfl⟩) | (go_at_call 29; refine (rraw_nil _ _).mono ?_; rintro e w' ⟨rfl, rfl⟩) | (go_at_call 28; refine (left_nil _).mono ?_; rintro e w' ⟨rfl, rfl⟩) | (go_at_call 18; refine (good_nil _).mono ?_; rintro e w' ⟨rfl, rfl⟩) | (go_at_call 19; refine (whole_nil _).mono ?_; rintro e w' ⟨rfl, rfl⟩))
    refine (known_any _ (HT.out.ch HC2.out fun h => h)).mono ?_
    rintro e w3 ⟨rfl, hc3⟩
    go_wp2
    go_ret
    exact ⟨rfl, HC2.out.trans hc3 fun _ _ h => h⟩
end Go.Proofs.YtppplchllnalpaaDoor
