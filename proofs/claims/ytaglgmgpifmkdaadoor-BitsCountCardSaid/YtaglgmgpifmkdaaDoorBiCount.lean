/-
  The walk of haystacklaw2.BitsCount: true, whatever the numbers. Condition: the library's table stands as start-up lays it.
-/
import Derived.Test.YtaglgmgpifmkdaaDoorBiOfLaw
namespace Go.Proofs.YtaglgmgpifmkdaaDoor
open Go.RowKit Go.Oct Go.Bi

theorem bcount_out (z : Int) (A A' : Option Addr) (n c m c' : Nat) (w : World) (hn : n ≤ 9223372036854775807) (hm : m ≤ 9223372036854775807) (h : 3000 < z ∨ 1000 < n ∨ 60 < m) :
    Calls Tryd.prog 3 #[.int .i64 z, .slice A n c, .slice A' m c'] w fun e w' => e = .returned (.bool true) ∧ Ch (fun _ => False) w w' := by
  by_cases h0 : 3000 < z
  · go_enter Tryd.func3, Tryd.ntmps3
    go_wp2
    go_ret
    exact ⟨rfl, Ch.refl _ _⟩
  · by_cases h1 : 1000 < n
    · go_enter Tryd.func3, Tryd.ntmps3
      go_wp2
      go_ret
      exact ⟨rfl, Ch.refl _ _⟩
    · have h2 : 60 < m := by omega
      go_enter Tryd.func3, Tryd.ntmps3
      go_wp2
      go_ret
      exact ⟨rfl, Ch.refl _ _⟩

set_option maxHeartbeats 4000000 in
theorem bcount_in (z : Int) (ys xs : List Int) (A A' : Option Addr) (n c m c' : Nat) (w : World) (F H : Nat → Prop) (ht : Tab w) (hs : Sl w F .i64 A n ys) (hx : Sl w H .i64 A' m xs) (hwf : Wfs xs) (hz : z ≤ 3000) (hn : n ≤ 1000) (hm : m ≤ 60) :
    Calls Tryd.prog 3 #[.int .i64 z, .slice A n c, .slice A' m c'] w fun e w' => e = .returned (.bool true) ∧ Ch (fun _ => False) w w' := by
  have HT := Bx.mk ht
  have HS := Bx.mk hs
  have HX := Bx.mk hx
  have HW := Bx.mk hwf
  have hown := World.ownsRow_lit (base := 0) (e := 3) (size := 1) w #[] 0 (Nat.zero_le _) (by unfold maxLen; omega) (by simp)
  have HO0 := Bx.mk hown
  have hs1 : Sl (w.alloc (.cells #[] 3)) F .i64 A n ys := hs.alloc _
  clear ht hs hx hwf hown
  go_enter Tryd.func3, Tryd.ntmps3
  go_wp2_with (at_builtin; refine wp_app rfl (.tmp 22) (.tmp 23) elemI rfl rfl HO0.out rfl hs1 ?c1 ?c2 ?c3 ?_)
  case c1 => intro a _; rfl
  case c2 => omega
  case c3 => omega
  intro v' w1 ho1 hg1 hb1
  have ho2 : w1.ownsRow 0 3 1 v' n (ys.map (Value.int .i64)) := by simpa using ho1
  clear ho1
  have ho1 := ho2
  clear ho2
  have HC1 : Bx (Ch (fun _ => False) w w1) := ⟨((Ch.refl (fun _ => False) w).alloc (.cells #[] 3)).grown hg1 (fun k hk => .inr (by simp [Value.ownBlock] at hk; omega))⟩
  obtain ⟨Aw, cw, rfl, _, _⟩ := own_shape ho1
  have HO := Bx.mk (Sl.of_own ho1)
  clear ho1 hg1 hb1 hs1
  go_wp2_with fail
  refine (new_any z ys Aw n cw _ _ HO.out (by omega)).mono ?_
  rintro e w2 ⟨bv, rfl, hv, hC⟩
  have HV := Bx.mk hv
  have HC2 := Bx.mk (HC1.out.trans hC (fun _ _ h => h))
  have HO2 := Bx.mk (Sl.ch HO.out hC (fun _ _ _ h => h))
  clear hv hC
  go_wp2_with fail
  go_loopw [9] (fun i wr => ∃ k q : Nat, k ≤ n ∧ i = .int .i64 k ∧ wr = w2.drewN q) (fun i _ => n - (intOf i).toNat)
  case atStart => exact ⟨0, 0, Nat.zero_le _, rfl, rfl⟩
  case round =>
    obtain ⟨k, q, hk, rfl, rfl⟩ := hrel
    by_cases hlt : k < n
    · obtain ⟨b, off, x, rfl, _, ex, hcx⟩ := HO2.out.at_ hlt
      obtain ⟨b', off', x', rfl, _, ex', hcx'⟩ := (Sl.ch HS.out HC2.out (fun _ _ _ h => h)).at_ hlt
      obtain rfl : x = x' := by have h1 := ex.out; rw [ex'.out] at h1; exact (Option.some.inj h1).symm
      have hb : (x != x) = false := by simp
      clear ex ex'
      go_wp2
      go_quiet (fail)
      go_wp2
      go_roundw
      case rel => exact ⟨k + 1, _, by omega, by go_num, rfl⟩
      case measure => simp [intOf]; omega
    · obtain rfl : k = n := by omega
      have HCq := Bx.mk (HC2.out.drewN q)
      have HVq := Bx.mk (HV.out.keep ((Ch.refl (fun _ => False) _).drewN q))
      go_wp2_with fail
      refine (ref_new z ys A k c _ F (Sl.ch HS.out HCq.out (fun _ _ _ h => h)) (by omega)).mono ?_
      rintro e w3 ⟨g, rfl, hg, hC3⟩
      have HC3 := Bx.mk (HCq.out.trans hC3 (fun _ _ h => h))
      have HV3 := Bx.mk (HVq.out.keep hC3)
      have HG3 := Bx.mk hg
      have hLL : (newL z ys).length ≤ 1048576 := by rw [newL_len]; exact lim_le z
      clear hC3 hg
      go_wp2_with fail
      refine (alike_any bv (newL z ys) xs _ A' _ _ m c' _ _ _ H HV3.out (HT.out.keep HC3.out) HG3.out hLL (Sl.ch HX.out HC3.out (fun _ _ _ h => h)) (by omega) HW.out).mono ?_
      rintro e w4 ⟨rfl, hC4⟩
      have HC4 := Bx.mk (HC3.out.trans hC4 (fun _ _ h => h))
      clear hC4
      go_wp2_with fail
      refine (known_any _ (HT.out.keep HC4.out)).mono ?_
      rintro e w5 ⟨rfl, hC5⟩
      go_wp2
      go_ret
      exact ⟨rfl, HC4.out.trans hC5 (fun _ _ h => h)⟩

theorem bcount_law (z : Int) (ys xs : List Int) (A A' : Option Addr) (n c m c' : Nat) (w : World) (F H : Nat → Prop) (ht : Tab w) (hs : Sl w F .i64 A n ys) (hc : n ≤ c) (hcm : c ≤ maxLen) (hx : Sl w H .i64 A' m xs) (hc' : m ≤ c') (hcm' : c' ≤ maxLen) (hwf : Wfs xs) :
    Calls Tryd.prog 3 #[.int .i64 z, .slice A n c, .slice A' m c'] w fun e w' => e = .returned (.bool true) ∧ Ch (fun _ => False) w w' := by
  unfold maxLen at hcm hcm'
  by_cases h : 3000 < z ∨ 1000 < n ∨ 60 < m
  · exact bcount_out z A A' n c m c' w (by omega) (by omega) h
  · exact bcount_in z ys xs A A' n c m c' w F H ht hs hx hwf (by omega) (by omega) (by omega)
end Go.Proofs.YtaglgmgpifmkdaaDoor
