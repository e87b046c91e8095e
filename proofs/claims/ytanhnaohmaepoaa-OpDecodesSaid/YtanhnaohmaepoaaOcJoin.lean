/-
  The contracts of octet.Join and (*octet.Writer).Out.
-/
import Derived.Test.YtanhnaohmaepoaaOcRaw
namespace Go.Proofs.Ytanhnaohmaepoaa.O
open Go.RowKit Go.Oct

/-- v is a row of the call's own that reads as xs; nothing old has turned. -/
def Fresh (w : World) (v : Value) (xs : List Int) (w' : World) : Prop :=
  w'.ownsRow 0 5 1 v xs.length (xs.map (Value.int .u8)) ∧ (∀ g, v.ownBlock = some g → w.heap.size ≤ g) ∧ Ch (fun _ => False) w w'

theorem Fresh.app {w wr w1 : World} {m : Nat} {v v' : Value} {ys zs : List Int} (h : Fresh w v ys wr) (hg : wr.grownBy w1 v.ownBlock)
    (ho : w1.ownsRow 0 5 1 v' (ys.length + m) (ys.map (Value.int .u8) ++ zs.map (Value.int .u8))) (hb : v'.ownBlock = v.ownBlock ∨ v'.ownBlock = some wr.heap.size) : Fresh w v' (ys ++ zs) w1 := by
  have hl : m = zs.length := by
    have := ho.1
    simp at this
    omega
  subst hl
  refine ⟨by rw [List.map_append, List.length_append]; exact ho, fun g hgg => ?_, h.2.2.grown hg fun k hk => .inr (h.2.1 k hk)⟩
  have hsz := h.2.2.size
  rcases hb with hb | hb
  · exact h.2.1 g (by rw [← hb]; exact hgg)
  · rw [hb] at hgg
    injection hgg with hgg
    omega

theorem Fresh.after {w w0 w' : World} {v : Value} {xs : List Int} (h0 : Ch (fun _ => False) w w0) (h : Fresh w0 v xs w') : Fresh w v xs w' :=
  ⟨h.1, fun g hg => by have := h.2.1 g hg; have := h0.size; omega, h0.trans h.2.2 fun _ _ h => h⟩
set_option maxHeartbeats 400000 in
theorem join_any (xss : List (List Int)) (A : Option Addr) (n c : Nat) (w : World) (F : Nat → Prop) (hn : n ≤ 1000000000)
    (hz : Sls w F A n xss) (hb : (cat xss).length ≤ 100000000000000) :
    Calls Try.prog 48 #[.slice A n c] w fun e w' => ∃ v, e = .returned v ∧ Fresh w v (cat xss) w' := by
  go_enter Try.func48, Try.ntmps48
  go_wp2
  go_loop [3, 11] (fun t i => ∃ k : Nat, k ≤ n ∧ i = .int .i64 k ∧ t = .int .i64 ((cat (xss.take k)).length : Nat)) (fun _ i => n - (intOf i).toNat)
  case atStart => exact ⟨0, Nat.zero_le _, rfl, rfl⟩
  case round =>
    obtain ⟨k, hk, rfl, rfl⟩ := hrel
    by_cases hlt : k < n
    · obtain ⟨b, off, A', c', row, rfl, hFb, ex, hc, hsl, _, hcm⟩ := hz.at_ hlt
      have hroom := cat_room ex.out
      have hmore := cat_more ex.out
      have HM := Lib.hid hmore
      clear hmore
      go_wp2
      go_round
      case rel => exact ⟨k + 1, by omega, by go_num, by rw [HM.out, List.length_append]; go_num⟩
      case measure => simp [intOf]; omega
    · obtain rfl : k = n := by omega
      have hall : xss.take k = xss := List.take_of_length_le (by rw [hz.len]; omega)
      rw [hall]
      clear hall hlt hk
      have hmk := run_mk Tb (cat xss).length (by omega) (by omega)
      go_wp2
      clear hmk
      go_loopw [6, 24] (fun v i wr => ∃ j : Nat, j ≤ k ∧ i = .int .i64 j ∧ Fresh w v (cat (xss.take j)) wr) (fun _ i _ => k - (intOf i).toNat)
      case atStart => exact ⟨0, Nat.zero_le _, rfl, World.ownsRow_made w _ _ (Nat.zero_le _) (by unfold maxLen; omega) (by simp [madeCells]), fun g hg => by simp [Value.ownBlock] at hg; omega, (Ch.refl _ _).alloc _⟩
      case round =>
        obtain ⟨j, hj, rfl, hfr⟩ := hrel
        by_cases hlt : j < k
        · obtain ⟨A', c', rfl, _, _⟩ := own_shape hfr.1
          obtain ⟨b, off, A', c', row, rfl, hFb, ex, hcw, hsl, _, hcm⟩ := hz.at_ hlt
          have hc := hfr.2.2.cell (fun h => h) hcw
          have hsl1 := hsl.ch hfr.2.2 (fun _ _ _ h => h)
          have hroom := cat_room ex.out
          clear hcw
          go_wp2_with (at_builtin; refine wp_app rfl (.tmp 28) (.tmp 29) Tb rfl rfl hfr.1 rfl hsl1 ?c1 ?c2 ?c3 ?_)
          case c1 => exact ints_cells _ _
          case c2 => omega
          case c3 => omega
          intro v'' w1 hown1 hg1 hb1
          have hfr1 := hfr.app hg1 hown1 hb1
          rw [← cat_more ex.out] at hfr1
          clear hown1 hg1 hb1
          go_wp2
          go_roundw
          case rel => exact ⟨j + 1, by omega, by go_num, hfr1⟩
          case measure => simp [intOf]; omega
        · obtain rfl : j = k := by omega
          rw [List.take_of_length_le (by rw [hz.len]; omega)] at hfr
          go_wp2
          go_ret
          exact ⟨_, rfl, hfr⟩

theorem out_nil (w : World) : Calls Try.prog 30 #[.pointer none] w fun e w' => e = .returned (.slice none 0 0) ∧ w = w' := by
  go_enter Try.func30, Try.ntmps30
  go_wp2
  go_ret
  exact ⟨rfl, rfl⟩

theorem out_any (bw : Nat) (v : Value) (xs : List Int) (w : World) (hw : Wr w bw v xs) (hb : xs.length ≤ 100000000000000) :
    Calls Try.prog 30 #[.pointer (some ⟨bw, 0, none⟩)] w fun e w' => ∃ v, e = .returned v ∧ Fresh w v xs w' := by
  have hc1 := hw.cell
  obtain ⟨A', c', rfl, _, _⟩ := own_shape hw.2
  go_enter Try.func30, Try.ntmps30
  go_wp2_with fail
  refine (join_any [xs] _ 1 1 _ (fun _ => True) (by omega) (Sls.one _ (Sl.of_own hw.2) (by assumption) (by assumption) (fun _ _ _ => trivial) trivial) (by simpa [cat] using hb)).mono ?_
  rintro e w1 ⟨v, rfl, hf⟩
  go_wp2
  go_ret
  exact ⟨_, rfl, by simpa [cat] using Fresh.after ((Ch.refl _ _).alloc _) hf⟩
end Go.Proofs.Ytanhnaohmaepoaa.O
