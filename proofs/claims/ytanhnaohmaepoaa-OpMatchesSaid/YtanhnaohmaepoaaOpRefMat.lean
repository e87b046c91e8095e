/-
  The contract of the document's answer haystackref13.Matches.
  Conditions: the places read as they say; not too many bytes.
-/
import Derived.Test.YtanhnaohmaepoaaOpW
namespace Go.Proofs.Ytanhnaohmaepoaa
open Go.RowKit Go.Oct Go.Su Go.Sg Go.Om

section
variable {F : Nat → Prop}
set_option maxHeartbeats 1000000 in
theorem refmat_any (l : List (Key × Int)) (A : Option Addr) (n c : Nat) (w : World) (hz : Mts w F A n l) (hn : n ≤ 1000000) (hm : (l.flatMap mB).length ≤ 1000000) :
    Calls Try.prog 26 #[.slice A n c] w fun e w' => ∃ v, e = .returned v ∧ Fresh w v (matB l) w' := by
  have HL : Bx (l.length = n) := ⟨Ro.len hz⟩
  have HZ := Bx.mk hz
  have HM := Bx.mk hm
  clear hz hm
  go_enter Try.func26, Try.ntmps26
  go_wp2_with fail
  refine (O.refnum_any (n : Int) _).mono ?_
  rintro e w1 ⟨v1, rfl, hf1⟩
  have h9 := encI_len (n : Int)
  have HE : Bx (encI (n : Int) = encI (l.length : Int)) := ⟨by rw [HL.out]⟩
  have HF1 := Bx.mk (Fresh.rw hf1)
  generalize encI (n : Int) = X0 at *
  clear hf1
  go_wp2_with fail
  go_loopw [3, 4] (fun v i wr => ∃ k : Nat, k ≤ n ∧ i = .int .i64 k ∧ Bx (Fresh w v (X0 ++ (l.take k).flatMap mB) wr)) (fun _ i _ => n - (intOf i).toNat)
  case atStart => exact ⟨0, Nat.zero_le _, rfl, ⟨by simpa using HF1.out⟩⟩
  case round =>
    obtain ⟨k, hk, rfl, HF⟩ := hrel
    by_cases hkn : k < n
    · have dk : decide ((k : Int) < (n : Int)) = true := decide_eq_true (by omega)
      have i1 : (k : Int) < (n : Int) := by omega
      obtain ⟨b1, o1, m, rfl, _, hx, hcx0, hcx20⟩ := Mts.get HZ.out hkn
      have hroom := flat_room mB hx.out
      have hmm := HM.out
      have hlX : (X0 ++ (l.take k).flatMap mB).length ≤ 9 + ((l.take k).flatMap mB).length := by rw [List.length_append]; omega
      have HMO : Bx (X0 ++ (l.take (k + 1)).flatMap mB = (X0 ++ (l.take k).flatMap mB) ++ rowB (kI m.1) ++ encI m.2) := ⟨by rw [flat_more mB hx.out]; simp [mB]⟩
      obtain ⟨kk, hkk⟩ : ∃ kk, m.1 = kk := ⟨_, rfl⟩
      obtain ⟨aa, haa⟩ : ∃ aa, m.2 = aa := ⟨_, rfl⟩
      have hmb : (mB m).length = (rowB (kI kk)).length + (encI aa).length := by rw [← hkk, ← haa]; unfold mB; rw [List.length_append]
      have hkl : kk.length ≤ (rowB (kI kk)).length := by unfold rowB; rw [List.length_append, kI_len]; omega
      rw [hkk] at hcx0 HMO
      rw [haa] at hcx20 HMO
      obtain ⟨X, hX⟩ : ∃ X, X0 ++ (l.take k).flatMap mB = X := ⟨_, rfl⟩
      obtain ⟨Y, hY⟩ : ∃ Y, rowB (kI kk) = Y := ⟨_, rfl⟩
      obtain ⟨Z, hZ⟩ : ∃ Z, encI aa = Z := ⟨_, rfl⟩
      rw [hX, hY, hZ] at HMO
      rw [hX] at HF hlX
      rw [hY] at hkl hmb
      rw [hZ] at hmb
      have HY := Bx.mk hY
      have HZZ := Bx.mk hZ
      obtain ⟨S, hS⟩ : ∃ S : ByteArray, kv kk = .string S := ⟨_, rfl⟩
      rw [hS] at hcx0
      have hcx := HF.out.2.2.cell (fun h => h) hcx0
      have HC2 := Bx.mk hcx20
      have HK := Bx.mk hS
      obtain ⟨A1, c1, rfl, h11, h12⟩ := own_shape HF.out.1
      clear hx hX hY hZ hkk haa hS hcx0 hcx20
      go_wp2_with (refine wp_bytes rfl (.tmp 19) rfl Try.underlying9 Try.underlying22 Try.underlying5 (k := kk) (by unfold maxLen; omega) HK.out.symm ?_)
      intro c6 w6 _ _ hs6 hC6
      have HF6 := Bx.mk (HF.out.keep hC6)
      have HB6 := Bx.mk (O.refbytes_any (kI kk) (some ⟨wr.heap.size, 0, none⟩) kk.length c6 w6 _ (by omega) hs6)
      rw [HY.out] at HB6
      clear hs6 hC6 hcx HF
      go_wp2_with fail
      refine HB6.out.mono ?_
      rintro e w7 ⟨v7, rfl, hf7⟩
      obtain ⟨A7, c7, rfl, h71, h72⟩ := own_shape hf7.1
      have HF7 := Bx.mk (HF6.out.keep hf7.2.2)
      have HS7 := Bx.mk (Fresh.sl (Fresh.rw hf7) rfl)
      clear hf7 HB6 HF6
      go_wp2_with (at_builtin; refine wp_app rfl (.tmp 14) (.tmp 21) Tb rfl rfl HF7.out.1 rfl HS7.out ?c1 ?c2 ?c3 ?_)
      case c1 => exact ints_cells _ _
      case c2 => omega
      case c3 => omega
      intro v8 w8 ho hg hb
      have HF8 := Bx.mk (Fresh.app HF7.out hg ho hb)
      have hc8 := HF8.out.2.2.cell (fun h => h) HC2.out
      clear ho hg hb HF7 HS7
      have hl8 : (X ++ Y).length = X.length + Y.length := List.length_append
      obtain ⟨X8, hX8⟩ : ∃ V, X ++ Y = V := ⟨_, rfl⟩
      rw [hX8] at HF8 hl8 HMO
      have HL8 := Bx.mk hl8
      obtain ⟨A8, c8, rfl, h81, h82⟩ := own_shape HF8.out.1
      clear hX8 hl8
      go_wp2_with fail
      refine (O.refnum_any aa _).mono ?_
      rintro e w9 ⟨v9, rfl, hf9⟩
      rw [HZZ.out] at hf9
      obtain ⟨A9, c9, rfl, h91, h92⟩ := own_shape hf9.1
      have HF9 := Bx.mk (HF8.out.keep hf9.2.2)
      have HS9 := Bx.mk (Fresh.sl (Fresh.rw hf9) rfl)
      clear hf9 HF8 hc8
      go_wp2_with (at_builtin; refine wp_app rfl (.tmp 23) (.tmp 29) Tb rfl rfl HF9.out.1 rfl HS9.out ?c1 ?c2 ?c3 ?_)
      case c1 => exact ints_cells _ _
      case c2 => have := HL8.out; omega
      case c3 => have := HL8.out; omega
      intro v10 w10 ho hg hb
      have HF10 := Bx.mk (Fresh.app HF9.out hg ho hb)
      rw [← HMO.out] at HF10
      clear ho hg hb HF9 HS9
      go_wp2
      go_roundw
      case rel => exact ⟨k + 1, by omega, by go_num, HF10⟩
      case measure => simp [intOf]; omega
    · obtain rfl : n = k := by omega
      have dk : decide ((n : Int) < (n : Int)) = false := decide_eq_false (by omega)
      have HR : Bx (X0 ++ (l.take n).flatMap mB = matB l) := ⟨by rw [List.take_of_length_le (Nat.le_of_eq HL.out), HE.out]; rfl⟩
      rw [HR.out] at HF
      go_wp2_with fail
      go_ret
      exact ⟨_, rfl, HF.out⟩
end
end Go.Proofs.Ytanhnaohmaepoaa
