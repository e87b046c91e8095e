/-
  The contracts of haystacklaw1.heavyRows and spoil.
-/
import Derived.Test.YtppplchllnalpaaDoorOcJoin
import Derived.Deep.AppendLies
namespace Go.Proofs.YtppplchllnalpaaDoor
open Go.RowKit Go.Oct

/-- Rows that are not too heavy. -/
def Slim (xss : List (List Int)) : Prop := 3 * xss.length + (cat xss).length ≤ 4000
def HeavyPost (w : World) (xss : List (List Int)) (e : Ending) (w' : World) : Prop := ∃ hv : Bool, e = .returned (.bool hv) ∧ w = w' ∧ (hv = false → Slim xss)

set_option maxHeartbeats 400000 in
theorem heavy_any (xss : List (List Int)) (A : Option Addr) (n c : Nat) (w : World) (F : Nat → Prop) (hn : n ≤ 9223372036854775807) (hz : Sls w F A n xss) :
    Calls Tryd.prog 21 #[.slice A n c] w (HeavyPost w xss) := by
  go_enter Tryd.func21, Tryd.ntmps21
  go_wp2
  go_loop [3, 4] (fun t i => ∃ k : Nat, k ≤ n ∧ i = .int .i64 k ∧ ∃ s : Nat, t = .int .i64 s ∧ s ≤ 4000 ∧ 3 * k + (cat (xss.take k)).length = s) (fun _ i => n - (intOf i).toNat)
  case atStart => exact ⟨0, Nat.zero_le _, rfl, 0, rfl, by omega, rfl⟩
  case round =>
    obtain ⟨k, hk, rfl, s, rfl, hs4, hs⟩ := hrel
    have HS := Lib.hid hs
    clear hs
    by_cases hlt : k < n
    · obtain ⟨b, off, A', c', row, rfl, hFb, ex, hc, hsl, hlc, hcm⟩ := hz.at_ hlt
      have hrm : row.length ≤ 9223372036854775807 := by unfold maxLen at hcm; omega
      have hmore : 3 * (k + 1) + (cat (xss.take (k + 1))).length = s + 3 + row.length := by rw [cat_more ex.out, List.length_append, ← HS.out]; omega
      have HM := Lib.hid hmore
      clear hmore
      by_cases h1 : 4000 < row.length
      · go_wp2
        go_ret
        exact ⟨true, rfl, rfl, fun h => by cases h⟩
      · by_cases h2 : 4000 < s + 3 + row.length
        · go_wp2
          go_ret
          exact ⟨true, rfl, rfl, fun h => by cases h⟩
        · go_wp2
          go_round
          case rel => exact ⟨k + 1, by omega, by go_num, s + 3 + row.length, by go_num, by omega, HM.out⟩
          case measure => simp [intOf]; omega
    · obtain rfl : k = n := by omega
      go_wp2
      go_ret
      refine ⟨false, rfl, rfl, fun _ => ?_⟩
      have := HS.out
      have hl := hz.len
      unfold Slim
      rw [List.take_of_length_le (by omega)] at this
      omega

set_option maxHeartbeats 400000 in
theorem spoil_any (v : Value) (n : Nat) (us : List Value) (w : World) (hn : n ≤ 100000000000000) (hv : w.ownsRow 0 5 1 v n us) :
    Calls Tryd.prog 16 #[v] w fun e w' => e = .returned (.tuple #[]) ∧ Ch (fun k => v.ownBlock = some k) w w' := by
  obtain ⟨A, c, rfl, _, _⟩ := own_shape hv
  go_enter Tryd.func16, Tryd.ntmps16
  go_wp2_with (at_builtin; refine wp_app rfl (.tmp 4) (.tmp 5) Tb rfl rfl (hv.alloc _) rfl (Vs.one _ _ _) ?c1 ?c2 ?c3 ?_)
  case c1 => intro u hu; simp at hu; subst hu; rfl
  case c2 => omega
  case c3 => omega
  intro v2 w1 hown hg hb
  have hC : Ch (fun k => (Value.slice A n c).ownBlock = some k) w w1 := ((Ch.refl _ w).alloc _).grown hg fun k hk => .inl hk
  obtain ⟨g, c2, rfl, _, hg2⟩ := hown.form (by omega)
  have hgS : (Value.slice A n c).ownBlock = some g ∨ w.heap.size ≤ g := by
    rcases hb with hb | hb
    · exact .inl (by rw [← hb]; rfl)
    · right
      simp [Value.ownBlock] at hb
      omega
  have HC := Lib.hid hC
  have HG := Lib.hid hgS
  clear hC hgS hg hb hv
  obtain ⟨u2, hu2⟩ : ∃ u2, u2 = us ++ [Value.int .u8 99] := ⟨_, rfl⟩
  rw [← hu2] at hown
  clear hu2
  go_wp2
  go_loopw [3] (fun i wr => ∃ k : Nat, k ≤ n + 1 ∧ i = .int .i64 k ∧ ∃ u3, wr.ownsRow 0 5 1 (.slice (some ⟨g, 0, none⟩) (n + 1) c2) (n + 1) u3 ∧ Ch (fun k => (Value.slice A n c).ownBlock = some k) w wr) (fun i _ => n + 1 - (intOf i).toNat)
  case atStart => exact ⟨0, Nat.zero_le _, rfl, u2, hown, HC.out⟩
  case round =>
    obtain ⟨k, hk, rfl, u3, ho3, hC3⟩ := hrel
    by_cases hlt : k < n + 1
    · have hlen : u3.length = n + 1 := by simpa using ho3.1
      have hcell := ho3.cellAt k (by omega)
      rw [List.getElem?_eq_getElem (by omega)] at hcell
      have hfz := ho3.frozenAt k
      obtain ⟨ho4, _⟩ := ho3.stored k (.int .u8 98)
      have hC4 := hC3.setCell (p := ⟨g, k, none⟩) HG.out (.int .u8 98)
      generalize u3[k] = uk at hcell
      go_wp2
      go_roundw
      case rel => exact ⟨k + 1, by omega, by go_num, _, ho4, hC4⟩
      case measure => simp [intOf]; omega
    · go_wp2
      go_returns
      exact ⟨rfl, hC3⟩
end Go.Proofs.YtppplchllnalpaaDoor
