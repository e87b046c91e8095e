/-
  The law's docs: two rows of the same documents are the same.
  Conditions: both read as the same documents.
-/
import Derived.Test.YtpilekadcondnaaMtHeavy
import Derived.Test.YtpilekadcondnaaFmSame
import Derived.Test.YtpilekadcondnaaFmRoomy
import Derived.Test.YtpilekadcondnaaFmHeavy
import Derived.Test.YtpilekadcondnaaSgLawT
import Derived.Test.YtpilekadcondnaaSgLawM
namespace Go.Proofs.Ytpilekadcondnaa
open Go.RowKit Go.Oct Go.Su Go.Sg Go.Mt Go.Maps

section
variable {F G : Nat → Prop}
set_option maxHeartbeats 2000000 in
theorem mlawdocs_any (ds : List Dc) (A B : Option Addr) (n c d : Nat) (w : World) (hz : Dcs w F A n ds) (hy : Dcs w G B n ds) (hn : n ≤ 9223372036854775806) :
    Calls Try.prog 24 #[.slice A n c, .slice B n d] w fun e w' => e = .returned (.bool true) ∧ ∃ q, w' = w.drewN q := by
  have HL := Bx.mk hz.len
  have HZ := Bx.mk hz
  have HY := Bx.mk hy
  clear hz hy
  have e0 : ((n : Int) != (n : Int)) = false := by simp
  go_enter Try.func24, Try.ntmps24
  go_wp2_with fail
  go_loopw [5] (fun i wr => ∃ k : Nat, k ≤ n ∧ i = .int .i64 k ∧ Bx (∃ z, wr = w.drewN z)) (fun i _ => n - (intOf i).toNat)
  case atStart => exact ⟨0, Nat.zero_le _, rfl, ⟨0, rfl⟩⟩
  case round =>
    obtain ⟨k, hk, rfl, hz⟩ := hrel
    have hc : Ch (fun _ => False) w wr := by
      obtain ⟨z, e⟩ := hz.out
      rw [e]
      exact (Ch.refl _ _).drewN z
    by_cases hkn : k < n
    · have dk : decide ((k : Int) < (n : Int)) = true := decide_eq_true (by omega)
      have i1 : (k : Int) < (n : Int) := by omega
      obtain ⟨b1, o1, x, A1, c1, rfl, _, hx, hcx, hcx2, hs1, hl1, hm1⟩ := (HZ.out.ch hc (fun _ _ _ h => h)).get hkn
      obtain ⟨b2, o2, y, A2, c2, rfl, _, hy, hcy, hcy2, hs2, hl2, hm2⟩ := (HY.out.ch hc (fun _ _ _ h => h)).get hkn
      have e : x = y := by
        have h1 := hx.out
        rw [hy.out] at h1
        injection h1 with h1
        exact h1.symm
      subst e
      obtain ⟨S, hS⟩ : ∃ S, kv x.1 = .string S := ⟨_, rfl⟩
      obtain ⟨tl, htl⟩ : ∃ tl, x.2.length = tl := ⟨_, rfl⟩
      rw [hS] at hcx hcy
      have hsm := fun q => same_any A1 A2 x.2.length x.2.length c1 c2 x.2 x.2 F G (wr.drewN q) (by unfold maxLen at hm1; omega) (by unfold maxLen at hm2; omega) (hs1.drewN q) (hs2.drewN q)
      rw [htl] at hsm hcx2 hcy2
      simp only [decide_true] at hsm
      have HSM := Bx.mk hsm
      have hb : (S.toList != S.toList) = false := by simp
      have hb2 : (S.toList == S.toList) = true := by simp
      clear hc hx hy hs1 hs2 hl1 hl2 hm1 hm2 hS htl hsm
      go_wp2_with fail
      go_quiet ((go_at_call 21; exact Calls.quiet_of (HSM.out _)))
      go_wp2_with fail
      go_roundw
      case rel => exact ⟨k + 1, by omega, by go_num, ⟨by
        obtain ⟨z, e⟩ := hz.out
        exact ⟨z + nq, by rw [e, World.drewN_drewN]⟩⟩⟩
      case measure => simp [intOf]; omega
    · obtain rfl : n = k := by omega
      have dk : decide ((n : Int) < (n : Int)) = false := decide_eq_false (by omega)
      go_wp2_with fail
      go_ret
      exact ⟨rfl, hz.out⟩
end
end Go.Proofs.Ytpilekadcondnaa
