/-
  The contract of gather.
-/
import Derived.Test.YtbckiefkppgipaaDoorWaTree
import Derived.Deep.RegionHeld3
namespace Go.Proofs.YtbckiefkppgipaaDoor
open Go.RowKit Go.Oct Go.Bi Go.Wa

/-- The levels of a Tree, each with its cells. -/
def Lvs (w : World) (F : Nat → Prop) (g W : Nat) (l : List Nat) : Prop :=
  ∀ d, d < W → ∃ v : Nat, w.cell? ⟨g, d * 2, none⟩ = some (.pointer (some ⟨v, 0, none⟩)) ∧ w.cell? ⟨g, d * 2 + 1, none⟩ = some (.int .i64 ((bt W l d).count false : Nat)) ∧ Vec w F v (bt W l d)
theorem Lvs.keep {w w' : World} {F : Nat → Prop} {g W : Nat} {l : List Nat} (h : Lvs w F g W l) (hc : Ch (fun _ => False) w w') : Lvs w' F g W l := fun d hd => by
  obtain ⟨v, k1, k2, k3⟩ := h d hd
  exact ⟨v, hc.cell (fun h => h) k1, hc.cell (fun h => h) k2, k3.keep hc⟩
theorem Tr.lvs {w : World} {F : Nat → Prop} {b W : Nat} {l : List Nat} (h : Tr w F b W l) : ∃ g : Nat, w.cell? ⟨b, 0, none⟩ = some (.slice (some ⟨g, 0, none⟩) W W) ∧ Lvs w F g W l := by
  obtain ⟨_, _, _, _, g, h5, _, _, h8⟩ := h
  exact ⟨g, h5, h8⟩

theorem down_is {F : Nat → Prop} (v i : Nat) (l : List Bool) (o : Bool) (z : Int) (w : World) (h : Vec w F v l) (hz : z = (l.count false : Nat)) :
    Calls Tryd.prog 28 #[.agg #[.pointer (some ⟨v, 0, none⟩), .int .i64 z], .bool o, .int .i64 i] w fun e w' => e = .returned (.int .i64 (dn l o i : Nat)) ∧ Ch (fun _ => False) w w' := down_any v i _ l o z w h hz rfl

set_option maxHeartbeats 1000000 in
theorem gather_any (b W c i : Nat) (l : List Nat) (w : World) (F : Nat → Prop) (h : Tr w F b W l) (hc : c < 2 ^ W) (hi : i ≤ l.length) :
    Calls Tryd.prog 30 #[.pointer (some ⟨b, 0, none⟩), .int .i64 c, .int .i64 i] w fun e w' => e = .returned (.tuple #[.int .i64 (D W l c W 0 : Nat), .int .i64 (D W l c W i : Nat)]) ∧ Ch (fun _ => False) w w' := by
  have hW := h.hi
  obtain ⟨g, h5, h8⟩ := h.lvs
  have HL := Bx.mk h8
  have HC0 := Bx.mk hc
  have HI := Bx.mk hi
  clear h8 h hc hi
  go_enter Tryd.func30, Tryd.ntmps30
  go_wp2
  go_loopw [6, 7, 8, 9, 10, 17] (fun f t _ _ _ j wr => ∃ d : Nat, d ≤ W ∧ j = .int .i64 d ∧ f = .int .i64 (D W l c d 0 : Nat) ∧ t = .int .i64 (D W l c d i : Nat) ∧ Ch (fun _ => False) w wr) (fun _ _ _ _ _ j _ => W - (intOf j).toNat)
  case atStart => exact ⟨0, Nat.zero_le _, rfl, rfl, rfl, Ch.refl _ _⟩
  case round =>
    obtain ⟨d, hd, rfl, rfl, rfl, hC⟩ := hrel
    by_cases hlt : d < W
    · obtain ⟨v, k1, k2, k3⟩ := (HL.out.keep hC) d hlt
      have h5' := hC.cell (fun h => h) h5
      have HV := Bx.mk k3
      have HC := Bx.mk hC
      have HF : Bx (dn (bt W l d) (dgt W d c) (D W l c d 0) = D W l c (d + 1) 0) := ⟨rfl⟩
      have HG : Bx (dn (bt W l d) (dgt W d c) (D W l c d i) = D W l c (d + 1) i) := ⟨rfl⟩
      have HB := Bx.mk (rfl : dgt W d c = dgt W d c)
      generalize hf2 : D W l c (d + 1) 0 = f2 at *
      generalize ht2 : D W l c (d + 1) i = t2 at *
      have HF2 := Bx.mk hf2
      have HT2 := Bx.mk ht2
      clear hf2 ht2
      generalize D W l c d 0 = f1 at *
      generalize D W l c d i = t1 at *
      generalize hq : (bt W l d).count false = q at *
      generalize hr : dgt W d c = r at *
      clear k3 hC
      have HQ := Bx.mk hq
      have HR := Bx.mk hr
      clear hq hr
      go_wp2_with fail
      obtain ⟨c0, c1⟩ := cells2 wr (.pointer (some ⟨v, 0, none⟩)) (.int .i64 q) 52
      have hC1 := (Ch.refl (fun _ => False) wr).alloc (.cells #[.pointer (some ⟨v, 0, none⟩), .int .i64 q] 52)
      have h51 := hC1.cell (fun h => h) h5'
      have HC1 := Bx.mk (HC.out.trans hC1 (fun _ _ h => h))
      have HV1 := Bx.mk (HV.out.keep hC1)
      clear hC1
      generalize wr.heap.size = B at *
      generalize World.alloc wr _ = w1 at *
      have HZ : Bx ((q : Int) = ((bt W l d).count false : Nat)) := ⟨by rw [HQ.out]⟩
      refine (digit_any b W W c d _ r _ h51 hW hlt HC0.out HR.out).mono ?_
      rintro e w' ⟨rfl, rfl⟩
      generalize bt W l d = y at *
      go_wp2_with fail
      have hcc := Ch.refl (fun _ => False) w1
      go_region_held3 (fun w' => w'.cell? ⟨B, 0, none⟩ = some (.pointer (some ⟨v, 0, none⟩)) ∧ w'.cell? ⟨B, 1, none⟩ = some (.int .i64 q)) (first | go_keep | exact s2 | exact ⟨c0, c1⟩) ((go_at_call 28; refine (down_is v _ y r q _ (by first | exact HV1.out.keep hcc | exact HV1.out) HZ.out).mono ?_; rintro e w2 ⟨rfl, hc2⟩; have hcc : Ch (fun _ => False) w1 w2 := (by first | exact hcc.trans hc2 (fun _ _ h => h) | exact hcc.drew.trans hc2 (fun _ _ h => h)); have s2 : w2.cell? ⟨B, 0, none⟩ = some (.pointer (some ⟨v, 0, none⟩)) ∧ w2.cell? ⟨B, 1, none⟩ = some (.int .i64 q) := ⟨hcc.cell (fun h => h) c0, hcc.cell (fun h => h) c1⟩))
      all_goals
        have HCC := Bx.mk (HC1.out.trans hcc (fun _ _ h => h))
        clear hcc hc2 s2
        rw [HF.out, HG.out]
        go_wp2
        go_roundw
        case rel => exact ⟨d + 1, by omega, by go_num, by rw [HF2.out], by rw [HT2.out], HCC.out⟩
        case measure => simp [intOf]; omega
    · obtain rfl : d = W := by omega
      go_wp2
      go_returns
      exact ⟨rfl, hC⟩
end Go.Proofs.YtbckiefkppgipaaDoor
