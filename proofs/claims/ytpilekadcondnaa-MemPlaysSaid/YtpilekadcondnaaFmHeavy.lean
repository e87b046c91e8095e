/-
  The contracts of haystacklaw12.heavyRows and spoil.
-/
import Derived.Test.YtpilekadcondnaaFmFresh
import Derived.Lib.Hide
import Derived.Deep.AppendLies
namespace Go.Proofs.Ytpilekadcondnaa
open Go.RowKit Go.Oct

/-- Rows that are not too heavy. -/
def Slim (xss : List (List Int)) : Prop := 3 * xss.length + (cat xss).length ≤ 800
def HeavyPost (w : World) (xss : List (List Int)) (e : Ending) (w' : World) : Prop := ∃ hv : Bool, e = .returned (.bool hv) ∧ w = w' ∧ (hv = false → Slim xss)

set_option maxHeartbeats 400000 in
theorem spoil_any (v : Value) (n : Nat) (us : List Value) (w : World) (hn : n ≤ 100000000000000) (hv : w.ownsRow 0 5 1 v n us) :
    Calls Try.prog 10 #[v] w fun e w' => e = .returned (.tuple #[]) ∧ Ch (fun k => v.ownBlock = some k) w w' := by
  obtain ⟨A, c, rfl, _, _⟩ := own_shape hv
  go_enter Try.func10, Try.ntmps10
  go_wp2_with (at_builtin; refine wp_app rfl (.tmp 4) (.tmp 5) Tb rfl rfl (hv.alloc _) rfl (Vs.one _ _ _) ?c1 ?c2 ?c3 ?_)
  case c1 => intro u hu; simp at hu; subst hu; rfl
  case c2 => omega
  case c3 => omega
  intro v2 w1 hown hg hb
  have hC : Ch (fun k => (Value.slice A n c).ownBlock = some k) w w1 := ((Ch.refl _ w).alloc _).grown hg fun k hk => .inl hk
  obtain ⟨g, c2, rfl, _, hg2⟩ := hown.form (by omega)
  have hgS : (Value.slice A n c).ownBlock = some g ∨ w.heap.size ≤ g := by
    rcases hb with hb | hb
    · exact .inl (by rw [← hb]; rfl)
    · right
      simp [Value.ownBlock] at hb
      omega
  have HC := Lib.hid hC
  have HG := Lib.hid hgS
  clear hC hgS hg hb hv
  obtain ⟨u2, hu2⟩ : ∃ u2, u2 = us ++ [Value.int .u8 99] := ⟨_, rfl⟩
  rw [← hu2] at hown
  clear hu2
  go_wp2
  go_loopw [3] (fun i wr => ∃ k : Nat, k ≤ n + 1 ∧ i = .int .i64 k ∧ ∃ u3, wr.ownsRow 0 5 1 (.slice (some ⟨g, 0, none⟩) (n + 1) c2) (n + 1) u3 ∧ Ch (fun k => (Value.slice A n c).ownBlock = some k) w wr) (fun i _ => n + 1 - (intOf i).toNat)
  case atStart => exact ⟨0, Nat.zero_le _, rfl, u2, hown, HC.out⟩
  case round =>
    obtain ⟨k, hk, rfl, u3, ho3, hC3⟩ := hrel
    by_cases hlt : k < n + 1
    · have hlen : u3.length = n + 1 := by simpa using ho3.1
      have hcell := ho3.cellAt k (by omega)
      rw [List.getElem?_eq_getElem (by omega)] at hcell
      have hfz := ho3.frozenAt k
      obtain ⟨ho4, _⟩ := ho3.stored k (.int .u8 98)
      have hC4 := hC3.setCell (p := ⟨g, k, none⟩) HG.out (.int .u8 98)
      generalize u3[k] = uk at hcell
      go_wp2
      go_roundw
      case rel => exact ⟨k + 1, by omega, by go_num, _, ho4, hC4⟩
      case measure => simp [intOf]; omega
    · go_wp2
      go_returns
      exact ⟨rfl, hC3⟩
end Go.Proofs.Ytpilekadcondnaa
