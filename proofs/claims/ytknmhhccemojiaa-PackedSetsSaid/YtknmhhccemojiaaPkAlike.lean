/-
  The contract of haystacklaw3.alike: an Array that is the row is told to be.
-/
import Derived.Test.YtknmhhccemojiaaPkLaw
namespace Go.Proofs.Ytknmhhccemojiaa
open Go.RowKit Go.Oct Go.Pk

theorem ref_Words_is (l : List Nat) (n wd : Nat) (ws : List Nat) (A : Option Addr) (c : Nat) (w : World) (F : Nat → Prop) (hs : Sn w F A l) (hn : l.length = n) (hl : n ≤ 1048576) (hp : Pk ws wd l) :
    Calls Try.prog 28 #[.int .i64 wd, .slice A n c] w fun e w' => ∃ g, w.heap.size ≤ g ∧ e = .returned (.slice (some ⟨g, 0, none⟩) ws.length ws.length) ∧ Ow w' g ws.length ws ∧ Ch (fun _ => False) w w' := by
  subst hn
  refine (ref_Words l wd A c w F hs hl hp.lo hp.hi hp.fit).mono fun e w' ⟨vs, h1, h2, h3, h4⟩ => ?_
  obtain rfl := h3.words_uniq hp
  exact ⟨_, Nat.le_refl _, h1, h2, h4⟩
set_option maxHeartbeats 1000000 in
theorem alike_any (bv bw wd n : Nat) (ws l : List Nat) (A : Option Addr) (c : Nat) (w : World) (F : Nat → Prop) (hr : Raw w bv bw wd n ws) (hp : Pk ws wd l) (hl : l.length = n) (hs : Sn w F A l) :
    Calls Try.prog 11 #[.pointer (some ⟨bv, 0, none⟩), .int .i64 wd, .slice A n c] w fun e w' => e = .returned (.bool true) ∧ Ch (fun _ => False) w w' := by
  have hn := hr.most
  have hN := hr.words_short
  obtain ⟨N, hNe⟩ : ∃ N, ws.length = N := ⟨_, rfl⟩
  have HR := Bx.mk hr
  have HP := Bx.mk hp
  have HL := Bx.mk hl
  have HS := Bx.mk hs
  have HN := Bx.mk hNe
  rw [hNe] at hN
  clear hr hp hl hs hNe
  go_enter Try.func11, Try.ntmps11
  go_wp2_with fail
  refine (len_any _ _ _ _ _ _ HR.out).mono ?_
  rintro e w' ⟨rfl, rfl⟩
  go_wp2_with fail
  refine (width_any _ _ _ _ _ _ HR.out).mono ?_
  rintro e w' ⟨rfl, rfl⟩
  go_wp2_with fail
  refine (words_is _ _ wd _ N _ _ HR.out HN.out).mono ?_
  rintro e w1 ⟨g1, _, rfl, hO, hC1⟩
  have HO1 := Bx.mk hO
  have HC1 := Bx.mk hC1
  clear hO hC1
  go_wp2_with fail
  refine (ref_Words_is l n wd ws A c _ F (HS.out.keep HC1.out) HL.out hn HP.out).mono ?_
  rintro e w2 ⟨g2, _, he, hO, hC2⟩
  rw [HN.out] at he hO
  subst he
  have HO2 := Bx.mk hO
  have HC2 := Bx.mk (HC1.out.trans hC2 (fun _ _ h => h))
  have HO12 := Bx.mk (HO1.out.keep hC2)
  clear hO hC2
  go_wp2_with fail
  refine (same_is ws N _ _ _ _ _ _ _ HN.out hN HO12.out.sn HO2.out.sn).mono ?_
  rintro e w3 ⟨rfl, m3, rfl⟩
  have HC3 := Bx.mk (HC2.out.drewN m3)
  generalize w2.drewN m3 = w3 at *
  have HR3 := Bx.mk (HR.out.keep HC3.out)
  have HS3 := Bx.mk (HS.out.keep HC3.out)
  go_wp2_with fail
  refine (get_int _ _ wd _ _ l (-1) 0 _ HR3.out HP.out HL.out (by rw [gt_out (.inl (by decide))]; rfl)).mono ?_
  rintro e w' ⟨rfl, rfl⟩
  go_wp2_with fail
  refine (get_int _ _ wd _ _ l n 0 _ HR3.out HP.out HL.out (by rw [gt_out (.inr (by rw [HL.out]; exact Int.le_refl _))]; rfl)).mono ?_
  rintro e w' ⟨rfl, rfl⟩
  go_wp2
  go_loopw [7] (fun i wr => ∃ k : Nat, k ≤ n ∧ i = .int .i64 k ∧ Ch (fun _ => False) w wr) (fun i _ => n - (intOf i).toNat)
  case atStart => exact ⟨0, Nat.zero_le _, rfl, HC3.out⟩
  case round =>
    obtain ⟨k, hk, rfl, hC⟩ := hrel
    have HC := Bx.mk hC
    have HRR := Bx.mk (HR.out.keep hC)
    have HSS := Bx.mk (HS.out.keep hC)
    clear hC
    by_cases hlt : k < n
    · obtain ⟨b, off, rfl, _, hc⟩ := HSS.out.at_ (k := k) (by rw [HL.out]; exact hlt)
      have hg := gt_nat l k
      generalize l.getD k 0 = x at *
      have HG := Bx.mk hg
      have hb : ((x : Int) != (x : Int)) = false := by simp
      clear hg
      go_wp2
      go_quiet ((go_at_call 23; exact get_quiet _ _ wd _ _ l _ x _ _ HRR.out HP.out HL.out HG.out))
      go_wp2
      go_roundw
      case rel => exact ⟨k + 1, by omega, by go_num, HC.out.drewN _⟩
      case measure => simp [intOf]; omega
    · go_wp2
      go_ret
      exact ⟨rfl, HC.out⟩
end Go.Proofs.Ytknmhhccemojiaa
