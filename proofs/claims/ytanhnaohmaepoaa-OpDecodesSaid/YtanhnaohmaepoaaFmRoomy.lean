/-
  The contracts of haystacklaw13.roomy and stands.
-/
import Derived.Test.YtanhnaohmaepoaaFmFresh
import Derived.Test.YtanhnaohmaepoaaFmSame
import Derived.Deep.AppendLies
namespace Go.Proofs.Ytanhnaohmaepoaa
open Go.RowKit Go.Oct

theorem own_emptyB (w : World) (e : TypeId) : (w.alloc (.cells #[] e)).ownsRow 0 e 1 (.slice (some ⟨w.heap.size, 0, none⟩) 0 0) 0 [] := World.ownsRow_made w #[] 0 (Nat.zero_le _) (by unfold maxLen; omega) rfl
theorem own_takeB {w : World} {e : TypeId} {g n c k : Nat} {xs : List Value} (h : w.ownsRow 0 e 1 (.slice (some ⟨g, 0, none⟩) n c) n xs) (hk : k ≤ n) : w.ownsRow 0 e 1 (.slice (some ⟨g, 0, none⟩) k c) k (xs.take k) := by
  have h1 := h.1
  refine ⟨by rw [List.length_take]; omega, ?_⟩
  rcases h.2 with ⟨h', _⟩ | ⟨g', cap, cur, hv, hb, hg, hnc, hcm, hcs, htake⟩
  · cases h'
  · injection hv with hv _ hc
    injection hv with hv
    injection hv with hv
    subst hv hc
    refine .inr ⟨g, c, cur, rfl, hb, hg, by omega, hcm, hcs, ?_⟩
    rw [← htake, List.take_take]
    congr 1
    omega

set_option maxHeartbeats 400000 in
theorem roomy_any (xs : List Int) (A : Option Addr) (n c : Nat) (w : World) (F : Nat → Prop) (hn : n ≤ 100000000000) (hz : Sl w F .u8 A n xs) :
    Calls Try.prog 8 #[.slice A n c] w fun e w' => ∃ g k, e = .returned (.slice (some ⟨g, 0, none⟩) (n + 1) k) ∧ w.heap.size ≤ g ∧ n + 1 ≤ k ∧ k ≤ maxLen ∧
      w'.ownsRow 0 5 1 (.slice (some ⟨g, 0, none⟩) (n + 1) k) (n + 1) (xs.map (Value.int .u8) ++ [.int .u8 171]) ∧ Ch (fun _ => False) w w' := by
  obtain rfl := hz.len
  have hC0 : Ch (fun _ => False) w (w.alloc (.cells #[] 5)) := (Ch.refl _ _).alloc _
  go_enter Try.func8, Try.ntmps8
  go_wp2_with (at_builtin; refine wp_app rfl (.tmp 3) (.tmp 4) Tb rfl rfl (own_emptyB w 5) rfl (hz.ch hC0 (fun _ _ _ h => h)) ?c1 ?c2 ?c3 ?_)
  case c1 => exact ints_cells _ _
  case c2 => omega
  case c3 => omega
  intro v1 w1 ho1 hg1 hb1
  have hf1 : Fresh w v1 xs w1 := by
    have h0 : Fresh w (.slice (some ⟨w.heap.size, 0, none⟩) 0 0) [] (w.alloc (.cells #[] 5)) := ⟨own_emptyB w _, fun g hg => by simp [Value.ownBlock] at hg; omega, hC0⟩
    exact h0.app (zs := xs) (m := xs.length) hg1 (by simpa using ho1) (by simpa using hb1)
  obtain ⟨A1, c1, rfl, _, _⟩ := own_shape hf1.1
  clear hC0 ho1 hg1 hb1
  go_wp2_with (at_builtin; refine wp_app rfl (.tmp 5) (.tmp 6) Tb rfl rfl (hf1.1.alloc _) rfl (Vs.one _ _ _) ?c1 ?c2 ?c3 ?_)
  case c1 => intro u hu; simp at hu; subst hu; rfl
  case c2 => omega
  case c3 => omega
  intro v2 w2 ho2 hg2 hb2
  have hf2 := Fresh.app (zs := [171]) ⟨hf1.1.alloc _, hf1.2.1, hf1.2.2.alloc _⟩ hg2 ho2 (by simpa using hb2)
  obtain ⟨A2, c2, rfl, _, _⟩ := own_shape ho2
  clear ho2 hg2 hb2 hf1
  have ho2 := hf2.1
  rw [List.length_append] at ho2
  go_wp2_with (at_builtin; refine wp_app rfl (.tmp 7) (.tmp 8) Tb rfl rfl (ho2.alloc _) rfl (Vs.one _ _ _) ?c1 ?c2 ?c3 ?_)
  case c1 => intro u hu; simp at hu; subst hu; rfl
  case c2 => simp; omega
  case c3 => simp; omega
  intro v3 w3 ho3 hg3 hb3
  have hB3 : ∀ g, v3.ownBlock = some g → w.heap.size ≤ g := fun g hg => by
    have := hf2.2.2.size
    rcases hb3 with h | h
    · exact hf2.2.1 g (by rw [← h]; exact hg)
    · rw [h] at hg
      injection hg with hg
      omega
  have hC3 : Ch (fun _ => False) w w3 := (hf2.2.2.alloc _).grown hg3 fun g hg => .inr (hf2.2.1 g hg)
  obtain ⟨g, c3, rfl, _, _⟩ := ho3.form (by omega)
  obtain ⟨_, _, e3, h3, h3'⟩ := own_shape ho3
  injection e3 with ea _ ec
  subst ea ec
  have hgw := hB3 g rfl
  have hlast := own_takeB (k := xs.length + 1) ho3 (by omega)
  have et : (List.map (Value.int .u8) xs ++ [Value.int .u8 171, Value.int .u8 171]).take (xs.length + 1) = xs.map (Value.int .u8) ++ [.int .u8 171] := by
    rw [show List.map (Value.int .u8) xs ++ [Value.int .u8 171, Value.int .u8 171] = (List.map (Value.int .u8) xs ++ [Value.int .u8 171]) ++ [Value.int .u8 171] by simp, List.take_append_of_le_length (by simp)]
    exact List.take_of_length_le (by simp)
  rw [et] at hlast
  have HL := Lib.hid hlast
  have HC := Lib.hid hC3
  clear ho3 hg3 hb3 hf2 hB3 hC3 hlast et ho2 hz
  have h63 : c3 ≤ 9223372036854775807 := by unfold maxLen at h3'; omega
  go_wp2
  go_ret
  exact ⟨g, c3, rfl, hgw, by omega, h3', HL.out, HC.out⟩

set_option maxHeartbeats 400000 in
theorem stands_any (xs : List Int) (A : Option Addr) (n c g k : Nat) (w : World) (F : Nat → Prop) (hn : n ≤ 100000000000) (hnk : n + 1 ≤ k) (hkm : k ≤ maxLen) (hz : Sl w F .u8 A n xs)
    (ho : w.ownsRow 0 5 1 (.slice (some ⟨g, 0, none⟩) (n + 1) k) (n + 1) (xs.map (Value.int .u8) ++ [.int .u8 171])) :
    Calls Try.prog 12 #[.slice (some ⟨g, 0, none⟩) (n + 1) k, .slice A n c] w fun e w' => e = .returned (.bool true) ∧ ∃ j, w' = w.drewN j := by
  obtain rfl := hz.len
  have h63 : k ≤ 9223372036854775807 := by unfold maxLen at hkm; omega
  have hcell := ho.cellAt xs.length (by omega)
  have e1 : (xs.map (Value.int .u8) ++ [Value.int .u8 171])[xs.length]? = some (.int .u8 171) := by simp
  rw [e1] at hcell
  have ht := own_takeB (k := xs.length) ho (by omega)
  have e2 : (xs.map (Value.int .u8) ++ [Value.int .u8 171]).take xs.length = xs.map (Value.int .u8) := by
    rw [List.take_append_of_le_length (by simp)]
    exact List.take_of_length_le (by simp)
  rw [e2] at ht
  have hs := Sl.of_own ht
  clear ho e1 e2 ht
  go_enter Try.func12, Try.ntmps12
  go_wp2_with fail
  refine (same_any _ A _ _ k c xs xs _ _ w (by omega) (by omega) hs hz).mono ?_
  rintro e w1 ⟨rfl, j, ew1⟩
  have hc1 : w1.cell? ⟨g, xs.length, none⟩ = some (.int .u8 171) := by
    rw [ew1]
    exact hcell
  have HE := Lib.hid ew1
  clear ew1 hcell hs hz
  go_wp2
  go_ret
  exact ⟨rfl, j, HE.out⟩
end Go.Proofs.Ytanhnaohmaepoaa
