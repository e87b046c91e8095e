/-
  The contract of the document's answer haystackref13.EncodeReply.
  Conditions: the numbers read as they say.
-/
import Derived.Test.YtanhnaohmaepoaaOpW
namespace Go.Proofs.Ytanhnaohmaepoaa
open Go.RowKit Go.Oct Go.Su Go.Sg Go.Om

section
variable {F : Nat → Prop}
set_option maxHeartbeats 1000000 in
theorem refrep_any (z : Int) (l : List Int) (A : Option Addr) (n c : Nat) (w : World) (hz : Sl w F .i64 A n l) (hn : n ≤ 1000000) (hnc : n ≤ c) (hc : c ≤ maxLen) :
    Calls Try.prog 25 #[.int .i64 z, .slice A n c] w fun e w' => ∃ v, e = .returned v ∧ Fresh w v (repB z l) w' := by
  have HL : Bx (l.length = n) := ⟨hz.len⟩
  have hc63 : c ≤ 9223372036854775807 := by unfold maxLen at hc; omega
  by_cases h8 : 8 < n
  · have d8 : decide ((8 : Int) < (n : Int)) = true := decide_eq_true (by omega)
    have HT : Bx (Sl w F .i64 A 8 (l.take 8)) := ⟨by
      unfold Sl
      rw [List.map_take]
      exact Vs.take hz (by omega)⟩
    obtain ⟨b, off, x, rfl, _, _, _⟩ := hz.at_ (k := 0) (by omega)
    have HR : Bx (([z, 8] ++ l.take 8).flatMap encI = repB z l) := ⟨by unfold repB; rw [show ((l.take 8).length : Int) = 8 by rw [List.length_take, HL.out]; omega]⟩
    obtain ⟨L8, hL8⟩ : ∃ L, l.take 8 = L := ⟨_, rfl⟩
    rw [hL8] at HT HR
    clear hL8
    have HO := Bx.mk (World.ownsRow_lit (base := 0) (e := 3) (size := 1) w #[.int .i64 z, .int .i64 8] 2 (Nat.zero_le _) (by unfold maxLen; omega) rfl)
    have hC0 : Ch (fun _ => False) w (w.alloc (.cells #[.int .i64 z, .int .i64 8] 3)) := (Ch.refl _ _).alloc _
    have HT2 := Bx.mk (HT.out.ch hC0 (fun _ _ _ h => h))
    have HG0 : Bx (Gs 3 1 w (w.alloc (.cells #[.int .i64 z, .int .i64 8] 3)) (.slice (some ⟨w.heap.size, 0, none⟩) 2 2) 2 ([z, 8].map (Value.int .i64))) := ⟨HO.out, fun g hg => by simp [Value.ownBlock] at hg; omega, hC0⟩
    clear hz hC0 HO
    go_enter Try.func25, Try.ntmps25
    go_wp2_with (at_builtin; refine wp_app rfl (.tmp 13) (.tmp 14) elemI rfl rfl HG0.out.own rfl HT2.out ?c1 ?c2 ?c3 ?_)
    case c1 => exact ints_cells _ _
    case c2 => omega
    case c3 => omega
    intro v1 w1 ho hg hb
    have HG1 := Bx.mk (HG0.out.app (m := 8) (news := (L8).map (Value.int .i64)) (Ch.refl _ _) ho hg (by rw [World.size_alloc]; exact hb))
    obtain ⟨A1, c1, rfl, h11, h12⟩ := HG1.out.shape
    have HS1 : Bx (Sl w1 (fun b => w.heap.size ≤ b) .i64 A1 (2 + 8) ([z, 8] ++ L8)) := ⟨by
      have h := HG1.out.vs
      unfold Sl
      rw [List.map_append]
      exact h⟩
    have HC1 := Bx.mk HG1.out.ch
    clear ho hg hb HG0 HG1 HT2
    go_wp2_with fail
    refine (O.refnums_any ([z, 8] ++ L8) A1 (2 + 8) c1 w1 _ (by omega) HS1.out).mono ?_
    rintro e w2 ⟨v2, rfl, hf2⟩
    rw [HR.out] at hf2
    have HF2 := Bx.mk (Fresh.after HC1.out (Fresh.rw hf2))
    clear hf2 HC1 HS1
    go_wp2
    go_ret
    exact ⟨v2, rfl, HF2.out⟩
  · have d8 : decide ((8 : Int) < (n : Int)) = false := decide_eq_false (by omega)
    have d8' : decide (8 < n) = false := decide_eq_false (by omega)
    have HT : Bx (Sl w F .i64 A n l) := ⟨hz⟩
    have ht : l.take 8 = l := List.take_of_length_le (by rw [HL.out]; omega)
    have HR : Bx (([z, (n : Int)] ++ l).flatMap encI = repB z l) := ⟨by unfold repB; rw [ht, HL.out]⟩
    clear ht
    have HO := Bx.mk (World.ownsRow_lit (base := 0) (e := 3) (size := 1) w #[.int .i64 z, .int .i64 (n : Int)] 2 (Nat.zero_le _) (by unfold maxLen; omega) rfl)
    have hC0 : Ch (fun _ => False) w (w.alloc (.cells #[.int .i64 z, .int .i64 (n : Int)] 3)) := (Ch.refl _ _).alloc _
    have HT2 := Bx.mk (HT.out.ch hC0 (fun _ _ _ h => h))
    have HG0 : Bx (Gs 3 1 w (w.alloc (.cells #[.int .i64 z, .int .i64 (n : Int)] 3)) (.slice (some ⟨w.heap.size, 0, none⟩) 2 2) 2 ([z, (n : Int)].map (Value.int .i64))) := ⟨HO.out, fun g hg => by simp [Value.ownBlock] at hg; omega, hC0⟩
    clear hz hC0 HO
    go_enter Try.func25, Try.ntmps25
    go_wp2_with (at_builtin; refine wp_app rfl (.tmp 13) (.tmp 14) elemI rfl rfl HG0.out.own rfl HT2.out ?c1 ?c2 ?c3 ?_)
    case c1 => exact ints_cells _ _
    case c2 => omega
    case c3 => omega
    intro v1 w1 ho hg hb
    have HG1 := Bx.mk (HG0.out.app (m := n) (news := (l).map (Value.int .i64)) (Ch.refl _ _) ho hg (by rw [World.size_alloc]; exact hb))
    obtain ⟨A1, c1, rfl, h11, h12⟩ := HG1.out.shape
    have HS1 : Bx (Sl w1 (fun b => w.heap.size ≤ b) .i64 A1 (2 + n) ([z, (n : Int)] ++ l)) := ⟨by
      have h := HG1.out.vs
      unfold Sl
      rw [List.map_append]
      exact h⟩
    have HC1 := Bx.mk HG1.out.ch
    clear ho hg hb HG0 HG1 HT2
    go_wp2_with fail
    refine (O.refnums_any ([z, (n : Int)] ++ l) A1 (2 + n) c1 w1 _ (by omega) HS1.out).mono ?_
    rintro e w2 ⟨v2, rfl, hf2⟩
    rw [HR.out] at hf2
    have HF2 := Bx.mk (Fresh.after HC1.out (Fresh.rw hf2))
    clear hf2 HC1 HS1
    go_wp2
    go_ret
    exact ⟨v2, rfl, HF2.out⟩
end
end Go.Proofs.Ytanhnaohmaepoaa
