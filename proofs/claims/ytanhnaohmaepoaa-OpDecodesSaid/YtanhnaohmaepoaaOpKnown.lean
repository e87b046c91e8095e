/-
  The contract of haystacklaw13.known: true. Conditions: none.
-/
import Derived.Test.YtanhnaohmaepoaaOpEnc
import Derived.Lib.SlBytesConst
import Derived.Lib.SmallJoins
namespace Go.Proofs.Ytanhnaohmaepoaa
open Go.RowKit Go.Oct Go.Su Go.Sg Go.Om

theorem known_enc : errO ⟨1, 1, 2, [107], [116]⟩ = 0 ∧ encO ⟨1, 1, 2, [107], [116]⟩ = [1, 1, 2, 1, 107, 1, 116] := by
  have h : errO ⟨1, 1, 2, [107], [116]⟩ = 0 := by decide
  refine ⟨h, ?_⟩
  unfold encO bytO
  rw [if_pos h]
  simp only [List.flatMap_cons, List.flatMap_nil, List.append_nil]
  rw [encI_pos (by omega) (by omega), encI_pos (by omega) (by omega)]
  unfold rowB
  rw [encN_small (by decide), encN_small (by decide), encN_small (by decide), encN_small (by decide)]
  rfl
set_option maxHeartbeats 1000000 in
theorem known_any (w : World) : Calls Try.prog 13 #[] w fun e w' => e = .returned (.bool true) ∧ Ch (fun _ => False) w w' := by
  have kc := fun (w : World) (C : Array Value) (n c : Nat) => Lib.run_convert_bytes_const (P := Try.prog) w 22 5 C n c Try.underlying22 Try.underlying5
  go_enter Try.func13, Try.ntmps13
  go_wp2_with fail
  have hs : Sl (w.alloc (.cells #[.int .u8 116] 5 (1, 2))) (fun _ => True) .u8 (some ⟨w.heap.size, 0, none⟩) 1 [116] :=
    (Vs.built w 5 [.int .u8 116] (1, 2)).mono fun _ _ _ => trivial
  obtain ⟨w1, hw1⟩ : ∃ w1, w.alloc (.cells #[.int .u8 116] 5 (1, 2)) = w1 := ⟨_, rfl⟩
  have HC1 : Bx (Ch (fun _ => False) w w1) := ⟨by rw [← hw1]; exact (Ch.refl _ _).alloc _⟩
  rw [hw1] at hs ⊢
  have HC := Bx.mk (encode_any 1 1 2 [107] [116] (some ⟨w.heap.size, 0, none⟩) 1 1 w1 hs (by omega) (by omega) (by unfold maxLen; omega) (by simp))
  clear hs kc hw1
  refine HC.out.mono ?_
  rintro e w2 ⟨v2, rfl, hf2⟩
  rw [known_enc.1]
  rw [known_enc.2] at hf2
  obtain ⟨A2, c2, rfl, h21, h22⟩ := own_shape hf2.1
  have HC2 : Bx (Ch (fun _ => False) w w2) := ⟨HC1.out.trans hf2.2.2 (fun _ _ h => h)⟩
  have HL := Bx.mk (sl_lit w2 5 .u8 [1, 1, 2, 1, 107, 1, 116])
  have HCL : Bx (Ch (fun _ => False) w2 (w2.alloc (.cells #[.int .u8 1, .int .u8 1, .int .u8 2, .int .u8 1, .int .u8 107, .int .u8 1, .int .u8 116] 5))) := ⟨(Ch.refl _ _).alloc _⟩
  have HS2 := Bx.mk ((Fresh.sl hf2 rfl).ch HCL.out (fun _ _ _ h => h))
  clear hf2 HC
  go_wp2_with fail
  refine (same_any A2 _ 7 7 c2 7 [1, 1, 2, 1, 107, 1, 116] [1, 1, 2, 1, 107, 1, 116] _ _ _ (by omega) (by omega) HS2.out HL.out).mono ?_
  rintro e w3 ⟨rfl, q, rfl⟩
  have HC3 := Bx.mk ((HC2.out.trans HCL.out (fun _ _ h => h)).drewN q)
  clear HC2 HS2 HL HCL
  go_wp2
  go_ret
  exact ⟨rfl, HC3.out⟩
end Go.Proofs.Ytanhnaohmaepoaa
