/-
  The contract of haystacklaw7.known: true.
-/
import Derived.Test.YtckkjccjkdidjaaGreatDoorFxF
import Derived.Lib.SlBytesConst
import Derived.Lib.SmallJoins
namespace Go.Proofs.YtckkjccjkdidjaaGreatDoor
open Go.RowKit Go.Oct Go.Su X

def kx : List (List Int) := [[98, 97, 110, 97, 110, 97], [97, 110]]
theorem kx_len : (txt kx).length = 11 := by decide
theorem kx_byts : Byts kx := by
  intro t ht x hx
  simp [kx] at ht
  rcases ht with rfl | rfl <;> (simp at hx; omega)
theorem kx_an : locs kx [97, 110] 0 = [(0, 1), (0, 3), (1, 0)] := by decide +kernel
theorem kx_na : (locs kx [110, 97] 0).length = 2 := by decide +kernel
theorem hits_built (w : World) (hs : List (Nat × Nat)) : Hs (w.alloc (.cells (valH hs).toArray 38)) (fun _ => True) (some ⟨w.heap.size, 0, none⟩) hs.length hs := by
  refine ⟨rfl, fun hn => ⟨w.heap.size, 0, rfl, trivial, fun j h hj => ?_⟩⟩
  obtain ⟨k1, k2⟩ := valH_at hj
  have hv := Vs.built w 38 (valH hs)
  obtain ⟨b, off, e, _, hc⟩ := hv.2 (by rw [valH_len]; omega)
  injection e with e
  injection e with e1 e2
  subst e1 e2
  exact ⟨hc _ _ k1, hc _ _ k2⟩
set_option maxHeartbeats 2000000 in
theorem known_any (w : World) (ht : W.Tab w) : Calls Tryz.prog 17 #[] w fun e w' => e = .returned (.bool true) ∧ Ch (fun _ => False) w w' := by
  have kc := fun (w : World) (C : Array Value) (n c : Nat) => Lib.run_convert_bytes_const (P := Tryz.prog) w 25 5 C n c Tryz.underlying25 Tryz.underlying5
  have kc2 := Joins.run_convert_bytes_const_at (P := Tryz.prog) (w.alloc (.cells #[.int .u8 98, .int .u8 97, .int .u8 110, .int .u8 97, .int .u8 110, .int .u8 97] 5 (6, 7))) 25 5 #[.int .u8 97, .int .u8 110] 2 2 (w.heap.size + 1) (by simp) Tryz.underlying25 Tryz.underlying5
  have HT := Bx.mk ht
  clear ht
  go_enter Tryz.func17, Tryz.ntmps17
  go_wp2_with fail
  have hr1 : Sl (w.alloc (.cells #[.int .u8 98, .int .u8 97, .int .u8 110, .int .u8 97, .int .u8 110, .int .u8 97] 5 (6, 7))) (fun _ => True) .u8 (some ⟨w.heap.size, 0, none⟩) 6 [98, 97, 110, 97, 110, 97] :=
    (Vs.built w 5 [.int .u8 98, .int .u8 97, .int .u8 110, .int .u8 97, .int .u8 110, .int .u8 97] (6, 7)).mono fun _ _ _ => trivial
  obtain ⟨w1, hw1⟩ : ∃ w1, w.alloc (.cells #[.int .u8 98, .int .u8 97, .int .u8 110, .int .u8 97, .int .u8 110, .int .u8 97] 5 (6, 7)) = w1 := ⟨_, rfl⟩
  have hC1 : Ch (fun _ => False) w w1 := by rw [← hw1]; exact (Ch.refl (fun _ => False) w).alloc _
  have hs1 : w1.heap.size = w.heap.size + 1 := by rw [← hw1]; exact World.size_alloc ..
  rw [hw1] at hr1 ⊢
  rw [← hs1]
  have hr2 : Sl (w1.alloc (.cells #[.int .u8 97, .int .u8 110] 5 (2, 3))) (fun _ => True) .u8 (some ⟨w1.heap.size, 0, none⟩) 2 [97, 110] :=
    (Vs.built w1 5 [.int .u8 97, .int .u8 110] (2, 3)).mono fun _ _ _ => trivial
  obtain ⟨w2, hw2⟩ : ∃ w2, w1.alloc (.cells #[.int .u8 97, .int .u8 110] 5 (2, 3)) = w2 := ⟨_, rfl⟩
  have hC2 : Ch (fun _ => False) w1 w2 := by rw [← hw2]; exact (Ch.refl (fun _ => False) w1).alloc _
  have hs2 : w2.heap.size = w1.heap.size + 1 := by rw [← hw2]; exact World.size_alloc ..
  rw [hw2] at hr2 ⊢
  rw [← hs2]
  have hz : Sls (w2.alloc (.cells #[.slice (some ⟨w.heap.size, 0, none⟩) 6 6, .slice (some ⟨w1.heap.size, 0, none⟩) 2 2] 25)) (fun _ => True) (some ⟨w2.heap.size, 0, none⟩) 2 kx :=
    Sls.two (c := 6) (d := 2) 25 (hr1.ch hC2 (fun _ _ _ h => h)) (Nat.le_refl _) (by unfold maxLen; decide) hr2 (Nat.le_refl _) (by unfold maxLen; decide) (fun _ _ _ => trivial) trivial
  have hb := build_any kx _ 2 2 _ hz kx_byts (by rw [kx_len]; omega) (HT.out.keep ((hC1.trans hC2 (fun _ _ h => h)).alloc _))
  have HC := Bx.mk ((hC1.trans hC2 (fun _ _ h => h)).alloc (.cells #[.slice (some ⟨w.heap.size, 0, none⟩) 6 6, .slice (some ⟨w1.heap.size, 0, none⟩) 2 2] 25))
  clear hz hr1 hr2 hs1 hs2 hw1 hw2 kc2 hC1 hC2
  generalize w2.alloc (.cells #[.slice (some ⟨w.heap.size, 0, none⟩) 6 6, .slice (some ⟨w1.heap.size, 0, none⟩) 2 2] 25) = w3 at *
  refine hb.mono ?_
  rintro e w4 (⟨_, b, rfl, hI, hC4⟩ | ⟨h, _⟩)
  · have HI := Bx.mk hI
    have HC4 := Bx.mk (HC.out.trans hC4 (fun _ _ h => h))
    clear hI hC4 hb HC
    go_wp2_with fail
    have hr5 : Sl (w4.alloc (.cells #[.int .u8 97, .int .u8 110] 5 (2, 3))) (fun _ => True) .u8 (some ⟨w4.heap.size, 0, none⟩) 2 [97, 110] :=
      (Vs.built w4 5 [.int .u8 97, .int .u8 110] (2, 3)).mono fun _ _ _ => trivial
    have hC5 : Ch (fun _ => False) w4 (w4.alloc (.cells #[.int .u8 97, .int .u8 110] 5 (2, 3))) := (Ch.refl (fun _ => False) w4).alloc _
    have hl := locate_any (HI.out.ch hC5 (fun _ _ _ h => h)) [97, 110] _ 2 2 hr5 (by intro x hx; simp at hx; omega) (by omega)
    have HI5 := Bx.mk (HI.out.ch hC5 (fun _ _ _ h => h))
    have HC5 := Bx.mk (HC4.out.trans hC5 (fun _ _ h => h))
    clear hr5 hC5 HI HC4
    generalize w4.alloc (.cells #[.int .u8 97, .int .u8 110] 5 (2, 3)) = w5 at *
    refine hl.mono ?_
    rintro e w6 ⟨A6, c6, n6, rfl, hH, hC6⟩
    rw [kx_an] at hH
    obtain rfl : 3 = n6 := hH.len
    have HH := Bx.mk hH
    have HI6 := Bx.mk (HI5.out.ch hC6 (fun _ _ _ h => h))
    have HC6 := Bx.mk (HC5.out.trans hC6 (fun _ _ h => h))
    clear hH hC6 hl HI5 HC5
    go_wp2_with fail
    have hh : Hs (w6.alloc (.cells #[.int .i64 0, .int .i64 1, .int .i64 0, .int .i64 3, .int .i64 1, .int .i64 0] 38)) (fun _ => True) (some ⟨w6.heap.size, 0, none⟩) 3 [(0, 1), (0, 3), (1, 0)] := hits_built w6 [(0, 1), (0, 3), (1, 0)]
    have hC7 : Ch (fun _ => False) w6 (w6.alloc (.cells #[.int .i64 0, .int .i64 1, .int .i64 0, .int .i64 3, .int .i64 1, .int .i64 0] 38)) := (Ch.refl (fun _ => False) w6).alloc _
    have hy := hits_yes [(0, 1), (0, 3), (1, 0)] _ _ 3 c6 3 _ (HH.out.ch hC7 (fun _ _ _ h => h)) hh (by omega)
    have HI7 := Bx.mk (HI6.out.ch hC7 (fun _ _ _ h => h))
    have HC7 := Bx.mk (HC6.out.trans hC7 (fun _ _ h => h))
    clear hh hC7 HI6 HC6 HH
    generalize w6.alloc (.cells #[.int .i64 0, .int .i64 1, .int .i64 0, .int .i64 3, .int .i64 1, .int .i64 0] 38) = w7 at *
    refine hy.mono ?_
    rintro e w8 ⟨rfl, hC8⟩
    have HI8 := Bx.mk (HI7.out.ch hC8 (fun _ _ _ h => h))
    have HC8 := Bx.mk (HC7.out.trans hC8 (fun _ _ h => h))
    clear hC8 hy HI7 HC7
    go_wp2_with fail
    have hr9 : Sl (w8.alloc (.cells #[.int .u8 110, .int .u8 97] 5 (2, 3))) (fun _ => True) .u8 (some ⟨w8.heap.size, 0, none⟩) 2 [110, 97] :=
      (Vs.built w8 5 [.int .u8 110, .int .u8 97] (2, 3)).mono fun _ _ _ => trivial
    have hC9 : Ch (fun _ => False) w8 (w8.alloc (.cells #[.int .u8 110, .int .u8 97] 5 (2, 3))) := (Ch.refl (fun _ => False) w8).alloc _
    have hc := count_any (HI8.out.ch hC9 (fun _ _ _ h => h)) [110, 97] _ 2 2 hr9 (by intro x hx; simp at hx; omega) (by omega)
    rw [kx_na] at hc
    have HC9 := Bx.mk (HC8.out.trans hC9 (fun _ _ h => h))
    clear hr9 hC9 HI8 HC8
    generalize w8.alloc (.cells #[.int .u8 110, .int .u8 97] 5 (2, 3)) = w9 at *
    refine hc.mono ?_
    rintro e w10 ⟨rfl, hC10⟩
    have HC10 := Bx.mk (HC9.out.trans hC10 (fun _ _ h => h))
    clear hC10 hc HC9 kc
    go_wp2
    go_ret
    exact ⟨rfl, HC10.out⟩
  · rw [kx_len] at h
    omega
end Go.Proofs.YtckkjccjkdidjaaGreatDoor
