/-
  Rows of bytes of the call's own. Conditions: none.
-/
/-
  The contract of haystacklaw7.same: two byte slices that read as lists: true just if the lists are one. Conditions: both can be read; nothing but draws turns the world.
-/
/-
  The contracts of haystacklaw7.heavyRows and spoil.
-/
/-
  The contracts of haystacklaw7.roomy and stands.
-/
import Derived.Test.YtckkjccjkdidjaaGreatDoorSuA
import Derived.Deep.QuietTactic
import Derived.BigQuiet
import Derived.Outline
import Derived.Lib.Hide
import Derived.Deep.AppendLies
namespace Go.Proofs.YtckkjccjkdidjaaGreatDoor
open Go.RowKit Go.Oct Go.Su

theorem Tb : Elem Tryz.prog 25 5 (.int .u8 0) 1 := ⟨Tryz.underlying25, by kernel_rfl, rfl⟩
/-- v is a row of the call's own that reads as xs; nothing old has turned. -/
def Fresh (w : World) (v : Value) (xs : List Int) (w' : World) : Prop :=
  w'.ownsRow 0 5 1 v xs.length (xs.map (Value.int .u8)) ∧ (∀ g, v.ownBlock = some g → w.heap.size ≤ g) ∧ Ch (fun _ => False) w w'

theorem Fresh.app {w wr w1 : World} {m : Nat} {v v' : Value} {ys zs : List Int} (h : Fresh w v ys wr) (hg : wr.grownBy w1 v.ownBlock)
    (ho : w1.ownsRow 0 5 1 v' (ys.length + m) (ys.map (Value.int .u8) ++ zs.map (Value.int .u8))) (hb : v'.ownBlock = v.ownBlock ∨ v'.ownBlock = some wr.heap.size) : Fresh w v' (ys ++ zs) w1 := by
  have hl : m = zs.length := by
    have := ho.1
    simp at this
    omega
  subst hl
  refine ⟨by rw [List.map_append, List.length_append]; exact ho, fun g hgg => ?_, h.2.2.grown hg fun k hk => .inr (h.2.1 k hk)⟩
  have hsz := h.2.2.size
  rcases hb with hb | hb
  · exact h.2.1 g (by rw [← hb]; exact hgg)
  · rw [hb] at hgg
    injection hgg with hgg
    omega

theorem Fresh.after {w w0 w' : World} {v : Value} {xs : List Int} (h0 : Ch (fun _ => False) w w0) (h : Fresh w0 v xs w') : Fresh w v xs w' :=
  ⟨h.1, fun g hg => by have := h.2.1 g hg; have := h0.size; omega, h0.trans h.2.2 fun _ _ h => h⟩
end Go.Proofs.YtckkjccjkdidjaaGreatDoor

namespace Go.Proofs.YtckkjccjkdidjaaGreatDoor
open Go.RowKit Go.Oct

/-- The first k are alike. -/
def Alike (xs ys : List Int) (k : Nat) : Prop := ∀ j, j < k → xs[j]? = ys[j]?

theorem alike_all {xs ys : List Int} {n : Nat} (hx : xs.length = n) (hy : ys.length = n) (ha : Alike xs ys n) : xs = ys := by
  apply List.ext_getElem?
  intro j
  rcases Nat.lt_or_ge j n with h | h
  · exact ha j h
  · rw [List.getElem?_eq_none (by omega), List.getElem?_eq_none (by omega)]
theorem alike_succ {xs ys : List Int} {k : Nat} {x : Int} (ha : Alike xs ys k) (hx : xs[k]? = some x) (hy : ys[k]? = some x) : Alike xs ys (k + 1) := by
  intro j hj
  rcases Nat.lt_or_ge j k with h | h
  · exact ha j h
  · obtain rfl : j = k := by omega
    rw [hx, hy]
theorem alike_not {xs ys : List Int} {k : Nat} {x y : Int} (hx : xs[k]? = some x) (hy : ys[k]? = some y) (h : x ≠ y) : xs ≠ ys := by
  rintro rfl
  rw [hx] at hy
  exact h (Option.some.inj hy)

set_option maxHeartbeats 400000 in
theorem same_any (A A' : Option Addr) (n n' c c' : Nat) (xs ys : List Int) (F F' : Nat → Prop) (w : World) (hn : n ≤ 9223372036854775807) (hn' : n' ≤ 9223372036854775807)
    (hx : Sl w F .u8 A n xs) (hy : Sl w F' .u8 A' n' ys) :
    Calls Tryz.prog 14 #[.slice A n c, .slice A' n' c'] w fun e w' => e = .returned (.bool (decide (xs = ys))) ∧ ∃ k, w' = w.drewN k := by
  by_cases hne : n = n'
  · subst hne
    go_enter Tryz.func14, Tryz.ntmps14
    go_wp2
    go_loopw [5] (fun i wr => ∃ k : Nat, k ≤ n ∧ i = .int .i64 k ∧ Alike xs ys k ∧ ∃ m, wr = w.drewN m) (fun i _ => n - (intOf i).toNat)
    case atStart => exact ⟨0, Nat.zero_le _, rfl, fun j hj => absurd hj (by omega), 0, rfl⟩
    case round =>
      obtain ⟨k, hk, rfl, ha, m, rfl⟩ := hrel
      have HA := Lib.hid ha
      clear ha
      by_cases hlt : k < n
      · obtain ⟨b, off, x, rfl, _, ex, hc⟩ := hx.at_ hlt
        obtain ⟨b', off', y, rfl, _, ey, hc'⟩ := hy.at_ hlt
        by_cases he : x = y
        · subst he
          have hb : (x != x) = false := by simp
          go_wp2
          go_quiet (fail)
          go_wp2
          go_roundw
          case rel => exact ⟨k + 1, by omega, by go_num, alike_succ HA.out ex.out ey.out, _, rfl⟩
          case measure => simp [intOf]; omega
        · have hb : (x != y) = true := by simpa using he
          have HE := Lib.hid he
          clear he
          go_wp2
          go_quiet (fail)
          go_wp2
          go_ret
          exact ⟨ret_bool (by rw [decide_eq_false (alike_not ex.out ey.out HE.out)]), _, World.drewN_drewN _ _ _⟩
      · go_wp2
        go_ret
        obtain rfl : k = n := by omega
        exact ⟨ret_bool (by rw [decide_eq_true (alike_all hx.len hy.len HA.out)]), _, rfl⟩
  · have hb : ((n : Int) != (n' : Int)) = true := by rw [bne_iff_ne]; omega
    go_enter Tryz.func14, Tryz.ntmps14
    go_wp2
    go_ret
    exact ⟨ret_bool (by rw [decide_eq_false (fun e => hne (by rw [← hx.len, ← hy.len, e]))]), 0, rfl⟩
end Go.Proofs.YtckkjccjkdidjaaGreatDoor

namespace Go.Proofs.YtckkjccjkdidjaaGreatDoor
open Go.RowKit Go.Oct

/-- Rows that are not too heavy. -/
def Slim (xss : List (List Int)) : Prop := 3 * xss.length + (cat xss).length ≤ 800
def HeavyPost (w : World) (xss : List (List Int)) (e : Ending) (w' : World) : Prop := ∃ hv : Bool, e = .returned (.bool hv) ∧ w = w' ∧ (hv = false → Slim xss)

set_option maxHeartbeats 400000 in
theorem heavy_any (xss : List (List Int)) (A : Option Addr) (n c : Nat) (w : World) (F : Nat → Prop) (hn : n ≤ 9223372036854775807) (hz : Sls w F A n xss) :
    Calls Tryz.prog 12 #[.slice A n c] w (HeavyPost w xss) := by
  go_enter Tryz.func12, Tryz.ntmps12
  go_wp2
  go_loop [3, 4] (fun t i => ∃ k : Nat, k ≤ n ∧ i = .int .i64 k ∧ ∃ s : Nat, t = .int .i64 s ∧ s ≤ 800 ∧ 3 * k + (cat (xss.take k)).length = s) (fun _ i => n - (intOf i).toNat)
  case atStart => exact ⟨0, Nat.zero_le _, rfl, 0, rfl, by omega, rfl⟩
  case round =>
    obtain ⟨k, hk, rfl, s, rfl, hs4, hs⟩ := hrel
    have HS := Lib.hid hs
    clear hs
    by_cases hlt : k < n
    · obtain ⟨b, off, A', c', row, rfl, hFb, ex, hc, hsl, hlc, hcm⟩ := hz.at_ hlt
      have hrm : row.length ≤ 9223372036854775807 := by unfold maxLen at hcm; omega
      have hmore : 3 * (k + 1) + (cat (xss.take (k + 1))).length = s + 3 + row.length := by rw [cat_more ex.out, List.length_append, ← HS.out]; omega
      have HM := Lib.hid hmore
      clear hmore
      by_cases h1 : 800 < row.length
      · go_wp2
        go_ret
        exact ⟨true, rfl, rfl, fun h => by cases h⟩
      · by_cases h2 : 800 < s + 3 + row.length
        · go_wp2
          go_ret
          exact ⟨true, rfl, rfl, fun h => by cases h⟩
        · go_wp2
          go_round
          case rel => exact ⟨k + 1, by omega, by go_num, s + 3 + row.length, by go_num, by omega, HM.out⟩
          case measure => simp [intOf]; omega
    · obtain rfl : k = n := by omega
      go_wp2
      go_ret
      refine ⟨false, rfl, rfl, fun _ => ?_⟩
      have := HS.out
      have hl := hz.len
      unfold Slim
      rw [List.take_of_length_le (by omega)] at this
      omega

set_option maxHeartbeats 400000 in
theorem spoil_any (v : Value) (n : Nat) (us : List Value) (w : World) (hn : n ≤ 100000000000000) (hv : w.ownsRow 0 5 1 v n us) :
    Calls Tryz.prog 15 #[v] w fun e w' => e = .returned (.tuple #[]) ∧ Ch (fun k => v.ownBlock = some k) w w' := by
  obtain ⟨A, c, rfl, _, _⟩ := own_shape hv
  go_enter Tryz.func15, Tryz.ntmps15
  go_wp2_with (at_builtin; refine wp_app rfl (.tmp 4) (.tmp 5) Tb rfl rfl (hv.alloc _) rfl (Vs.one _ _ _) ?c1 ?c2 ?c3 ?_)
  case c1 => intro u hu; simp at hu; subst hu; rfl
  case c2 => omega
  case c3 => omega
  intro v2 w1 hown hg hb
  have hC : Ch (fun k => (Value.slice A n c).ownBlock = some k) w w1 := ((Ch.refl _ w).alloc _).grown hg fun k hk => .inl hk
  obtain ⟨g, c2, rfl, _, hg2⟩ := hown.form (by omega)
  have hgS : (Value.slice A n c).ownBlock = some g ∨ w.heap.size ≤ g := by
    rcases hb with hb | hb
    · exact .inl (by rw [← hb]; rfl)
    · right
      simp [Value.ownBlock] at hb
      omega
  have HC := Lib.hid hC
  have HG := Lib.hid hgS
  clear hC hgS hg hb hv
  obtain ⟨u2, hu2⟩ : ∃ u2, u2 = us ++ [Value.int .u8 99] := ⟨_, rfl⟩
  rw [← hu2] at hown
  clear hu2
  go_wp2
  go_loopw [3] (fun i wr => ∃ k : Nat, k ≤ n + 1 ∧ i = .int .i64 k ∧ ∃ u3, wr.ownsRow 0 5 1 (.slice (some ⟨g, 0, none⟩) (n + 1) c2) (n + 1) u3 ∧ Ch (fun k => (Value.slice A n c).ownBlock = some k) w wr) (fun i _ => n + 1 - (intOf i).toNat)
  case atStart => exact ⟨0, Nat.zero_le _, rfl, u2, hown, HC.out⟩
  case round =>
    obtain ⟨k, hk, rfl, u3, ho3, hC3⟩ := hrel
    by_cases hlt : k < n + 1
    · have hlen : u3.length = n + 1 := by simpa using ho3.1
      have hcell := ho3.cellAt k (by omega)
      rw [List.getElem?_eq_getElem (by omega)] at hcell
      have hfz := ho3.frozenAt k
      obtain ⟨ho4, _⟩ := ho3.stored k (.int .u8 98)
      have hC4 := hC3.setCell (p := ⟨g, k, none⟩) HG.out (.int .u8 98)
      generalize u3[k] = uk at hcell
      go_wp2
      go_roundw
      case rel => exact ⟨k + 1, by omega, by go_num, _, ho4, hC4⟩
      case measure => simp [intOf]; omega
    · go_wp2
      go_returns
      exact ⟨rfl, hC3⟩
end Go.Proofs.YtckkjccjkdidjaaGreatDoor

namespace Go.Proofs.YtckkjccjkdidjaaGreatDoor
open Go.RowKit Go.Oct

theorem own_emptyB (w : World) (e : TypeId) : (w.alloc (.cells #[] e)).ownsRow 0 e 1 (.slice (some ⟨w.heap.size, 0, none⟩) 0 0) 0 [] := World.ownsRow_made w #[] 0 (Nat.zero_le _) (by unfold maxLen; omega) rfl
theorem own_takeB {w : World} {e : TypeId} {g n c k : Nat} {xs : List Value} (h : w.ownsRow 0 e 1 (.slice (some ⟨g, 0, none⟩) n c) n xs) (hk : k ≤ n) : w.ownsRow 0 e 1 (.slice (some ⟨g, 0, none⟩) k c) k (xs.take k) := by
  have h1 := h.1
  refine ⟨by rw [List.length_take]; omega, ?_⟩
  rcases h.2 with ⟨h', _⟩ | ⟨g', cap, cur, hv, hb, hg, hnc, hcm, hcs, htake⟩
  · cases h'
  · injection hv with hv _ hc
    injection hv with hv
    injection hv with hv
    subst hv hc
    refine .inr ⟨g, c, cur, rfl, hb, hg, by omega, hcm, hcs, ?_⟩
    rw [← htake, List.take_take]
    congr 1
    omega

set_option maxHeartbeats 400000 in
theorem roomy_any (xs : List Int) (A : Option Addr) (n c : Nat) (w : World) (F : Nat → Prop) (hn : n ≤ 100000000000) (hz : Sl w F .u8 A n xs) :
    Calls Tryz.prog 32 #[.slice A n c] w fun e w' => ∃ g k, e = .returned (.slice (some ⟨g, 0, none⟩) (n + 1) k) ∧ w.heap.size ≤ g ∧ n + 1 ≤ k ∧ k ≤ maxLen ∧
      w'.ownsRow 0 5 1 (.slice (some ⟨g, 0, none⟩) (n + 1) k) (n + 1) (xs.map (Value.int .u8) ++ [.int .u8 171]) ∧ Ch (fun _ => False) w w' := by
  obtain rfl := hz.len
  have hC0 : Ch (fun _ => False) w (w.alloc (.cells #[] 5)) := (Ch.refl _ _).alloc _
  go_enter Tryz.func32, Tryz.ntmps32
  go_wp2_with (at_builtin; refine wp_app rfl (.tmp 3) (.tmp 4) Tb rfl rfl (own_emptyB w 5) rfl (hz.ch hC0 (fun _ _ _ h => h)) ?c1 ?c2 ?c3 ?_)
  case c1 => exact ints_cells _ _
  case c2 => omega
  case c3 => omega
  intro v1 w1 ho1 hg1 hb1
  have hf1 : Fresh w v1 xs w1 := by
    have h0 : Fresh w (.slice (some ⟨w.heap.size, 0, none⟩) 0 0) [] (w.alloc (.cells #[] 5)) := ⟨own_emptyB w _, fun g hg => by simp [Value.ownBlock] at hg; omega, hC0⟩
    exact h0.app (zs := xs) (m := xs.length) hg1 (by simpa using ho1) (by simpa using hb1)
  obtain ⟨A1, c1, rfl, _, _⟩ := own_shape hf1.1
  clear hC0 ho1 hg1 hb1
  go_wp2_with (at_builtin; refine wp_app rfl (.tmp 5) (.tmp 6) Tb rfl rfl (hf1.1.alloc _) rfl (Vs.one _ _ _) ?c1 ?c2 ?c3 ?_)
  case c1 => intro u hu; simp at hu; subst hu; rfl
  case c2 => omega
  case c3 => omega
  intro v2 w2 ho2 hg2 hb2
  have hf2 := Fresh.app (zs := [171]) ⟨hf1.1.alloc _, hf1.2.1, hf1.2.2.alloc _⟩ hg2 ho2 (by simpa using hb2)
  obtain ⟨A2, c2, rfl, _, _⟩ := own_shape ho2
  clear ho2 hg2 hb2 hf1
  have ho2 := hf2.1
  rw [List.length_append] at ho2
  go_wp2_with (at_builtin; refine wp_app rfl (.tmp 7) (.tmp 8) Tb rfl rfl (ho2.alloc _) rfl (Vs.one _ _ _) ?c1 ?c2 ?c3 ?_)
  case c1 => intro u hu; simp at hu; subst hu; rfl
  case c2 => simp; omega
  case c3 => simp; omega
  intro v3 w3 ho3 hg3 hb3
  have hB3 : ∀ g, v3.ownBlock = some g → w.heap.size ≤ g := fun g hg => by
    have := hf2.2.2.size
    rcases hb3 with h | h
    · exact hf2.2.1 g (by rw [← h]; exact hg)
    · rw [h] at hg
      injection hg with hg
      omega
  have hC3 : Ch (fun _ => False) w w3 := (hf2.2.2.alloc _).grown hg3 fun g hg => .inr (hf2.2.1 g hg)
  obtain ⟨g, c3, rfl, _, _⟩ := ho3.form (by omega)
  obtain ⟨_, _, e3, h3, h3'⟩ := own_shape ho3
  injection e3 with ea _ ec
  subst ea ec
  have hgw := hB3 g rfl
  have hlast := own_takeB (k := xs.length + 1) ho3 (by omega)
  have et : (List.map (Value.int .u8) xs ++ [Value.int .u8 171, Value.int .u8 171]).take (xs.length + 1) = xs.map (Value.int .u8) ++ [.int .u8 171] := by
    rw [show List.map (Value.int .u8) xs ++ [Value.int .u8 171, Value.int .u8 171] = (List.map (Value.int .u8) xs ++ [Value.int .u8 171]) ++ [Value.int .u8 171] by simp, List.take_append_of_le_length (by simp)]
    exact List.take_of_length_le (by simp)
  rw [et] at hlast
  have HL := Lib.hid hlast
  have HC := Lib.hid hC3
  clear ho3 hg3 hb3 hf2 hB3 hC3 hlast et ho2 hz
  have h63 : c3 ≤ 9223372036854775807 := by unfold maxLen at h3'; omega
  go_wp2
  go_ret
  exact ⟨g, c3, rfl, hgw, by omega, h3', HL.out, HC.out⟩

set_option maxHeartbeats 400000 in
theorem stands_any (xs : List Int) (A : Option Addr) (n c g k : Nat) (w : World) (F : Nat → Prop) (hn : n ≤ 100000000000) (hnk : n + 1 ≤ k) (hkm : k ≤ maxLen) (hz : Sl w F .u8 A n xs)
    (ho : w.ownsRow 0 5 1 (.slice (some ⟨g, 0, none⟩) (n + 1) k) (n + 1) (xs.map (Value.int .u8) ++ [.int .u8 171])) :
    Calls Tryz.prog 35 #[.slice (some ⟨g, 0, none⟩) (n + 1) k, .slice A n c] w fun e w' => e = .returned (.bool true) ∧ ∃ j, w' = w.drewN j := by
  obtain rfl := hz.len
  have h63 : k ≤ 9223372036854775807 := by unfold maxLen at hkm; omega
  have hcell := ho.cellAt xs.length (by omega)
  have e1 : (xs.map (Value.int .u8) ++ [Value.int .u8 171])[xs.length]? = some (.int .u8 171) := by simp
  rw [e1] at hcell
  have ht := own_takeB (k := xs.length) ho (by omega)
  have e2 : (xs.map (Value.int .u8) ++ [Value.int .u8 171]).take xs.length = xs.map (Value.int .u8) := by
    rw [List.take_append_of_le_length (by simp)]
    exact List.take_of_length_le (by simp)
  rw [e2] at ht
  have hs := Sl.of_own ht
  clear ho e1 e2 ht
  go_enter Tryz.func35, Tryz.ntmps35
  go_wp2_with fail
  refine (same_any _ A _ _ k c xs xs _ _ w (by omega) (by omega) hs hz).mono ?_
  rintro e w1 ⟨rfl, j, ew1⟩
  have hc1 : w1.cell? ⟨g, xs.length, none⟩ = some (.int .u8 171) := by
    rw [ew1]
    exact hcell
  have HE := Lib.hid ew1
  clear ew1 hcell hs hz
  go_wp2
  go_ret
  exact ⟨rfl, j, HE.out⟩
end Go.Proofs.YtckkjccjkdidjaaGreatDoor
