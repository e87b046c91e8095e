/-
  The document's segment in memory; the contracts of haystackref9.Key, Texts and Get.
  Conditions: the segment reads as it says.
-/
import Derived.Test.YtanhnaohmaepoaaFmGrow
import Derived.Test.YtanhnaohmaepoaaSgWords
import Derived.Lib.Strings
import Derived.Deep.DeepCutAuto
import Derived.RegionTactic
import Derived.WalkLawsBesides
namespace Go.Proofs.Ytanhnaohmaepoaa
open Go.RowKit Go.Oct Go.Su Go.Sg

/-- The document's segment at block b. -/
def Rs (w : World) (F : Nat → Prop) (b : Nat) (ds : List Dc) (gs : List Key) : Prop := ∃ A c B d, w.cell? ⟨b, 0, none⟩ = some (.slice A ds.length c) ∧ w.cell? ⟨b, 1, none⟩ = some (.slice B gs.length d) ∧ Dcs w F A ds.length ds ∧ Kss w F B gs.length gs ∧ ds.length ≤ c ∧ c ≤ 9223372036854775807 ∧ gs.length ≤ d ∧ d ≤ 9223372036854775807 ∧ F b
section
variable {w w' : World} {F G S : Nat → Prop} {b : Nat} {ds : List Dc} {gs : List Key}
theorem Rs.ch (h : Rs w F b ds gs) (hc : Ch S w w') (hF : ∀ b, F b → b < w.heap.size → ¬ S b) : Rs w' F b ds gs := by
  obtain ⟨A, c, B, d, h1, h2, h3, h4, h5, h6, h7, h8, h9⟩ := h
  have hb := hF b h9 (lt_of_cell h1)
  exact ⟨A, c, B, d, hc.cell hb h1, hc.cell hb h2, h3.ch hc hF, h4.ch hc hF, h5, h6, h7, h8, h9⟩
theorem Rs.mono (h : Rs w F b ds gs) (hF : ∀ b, b < w.heap.size → F b → G b) : Rs w G b ds gs := by
  obtain ⟨A, c, B, d, h1, h2, h3, h4, h5, h6, h7, h8, h9⟩ := h
  exact ⟨A, c, B, d, h1, h2, h3.mono hF, h4.mono hF, h5, h6, h7, h8, hF b (lt_of_cell h1) h9⟩
theorem Rs.keep (h : Rs w F b ds gs) (hc : Ch (fun _ => False) w w') : Rs w' F b ds gs := h.ch hc (fun _ _ _ h => h)
end
theorem key_any (k : Key) (w : World) (hk : k.length ≤ 9223372036854775807) (o : Bool) (ho : decide (okK k) = o) : Calls Try.prog 31 #[kv k] w fun e w' => e = .returned (.bool o) ∧ w = w' := by
  obtain ⟨S, hS, hz⟩ : ∃ S : ByteArray, kv k = .string S ∧ S.size = k.length := ⟨_, rfl, kv_size k⟩
  have HO := Bx.mk ho
  rw [hS]
  have HOK : Bx (okK k ↔ 1 ≤ k.length ∧ k.length ≤ 64) := ⟨Iff.rfl⟩
  clear hS ho
  generalize k.length = n at *
  by_cases h1 : 1 ≤ n
  · have e1 : decide ((1 : Int) ≤ (n : Int)) = true := decide_eq_true (by omega)
    by_cases h2 : n ≤ 64
    · have e2 : decide ((n : Int) ≤ 64) = true := decide_eq_true (by omega)
      have HB : Bx (true = o) := ⟨by rw [← HO.out]; exact (decide_eq_true (HOK.out.2 ⟨h1, h2⟩)).symm⟩
      go_enter Try.func31, Try.ntmps31
      go_wp2
      go_ret
      exact ⟨ret_bool HB.out, rfl⟩
    · have e2 : decide ((n : Int) ≤ 64) = false := decide_eq_false (by omega)
      have HB : Bx (false = o) := ⟨by rw [← HO.out]; exact (decide_eq_false (fun h => h2 (HOK.out.1 h).2)).symm⟩
      go_enter Try.func31, Try.ntmps31
      go_wp2
      go_ret
      exact ⟨ret_bool HB.out, rfl⟩
  · have e1 : decide ((1 : Int) ≤ (n : Int)) = false := decide_eq_false (by omega)
    have HB : Bx (false = o) := ⟨by rw [← HO.out]; exact (decide_eq_false (fun h => h1 (HOK.out.1 h).1)).symm⟩
    go_enter Try.func31, Try.ntmps31
    go_wp2
    go_ret
    exact ⟨ret_bool HB.out, rfl⟩
section
variable {F : Nat → Prop}
theorem rows_one {w : World} {G : Nat → Prop} {us : List Value} {xss : List (List Int)} {A : Option Addr} {c : Nat} {t : List Int} (h : Oct.Rows w G us xss) (hs : Sl w G .u8 A t.length t) (h1 : t.length ≤ c) (h2 : c ≤ maxLen) : Oct.Rows w G (us ++ [.slice A t.length c]) (xss ++ [t]) :=
  Oct.Rows.app h (Oct.Rows.cons_ hs h1 h2 (Oct.Rows.nil_ _ _))
theorem ts_take {ds : List Dc} {k : Nat} {d : Dc} (h : ds[k]? = some d) : ts (ds.take (k + 1)) = ts (ds.take k) ++ [d.2] := by
  rw [Oct.take_more h, ts_app]
  rfl
theorem ks_take {ds : List Dc} {k : Nat} {d : Dc} (h : ds[k]? = some d) : ks (ds.take (k + 1)) = ks (ds.take k) ++ [d.1] := by
  rw [Oct.take_more h, ks_app]
  rfl
/-- What Texts leaves. -/
def TextsOf (F : Nat → Prop) (ds : List Dc) (w : World) (e : Ending) (w' : World) : Prop := ∃ (A : Option Addr) (c : Nat), e = .returned (.slice A ds.length c) ∧ Sls w' (fun b => F b ∨ w.heap.size ≤ b) A ds.length (ts ds) ∧ ds.length ≤ c ∧ c ≤ maxLen ∧ Ch (fun _ => False) w w'
end
end Go.Proofs.Ytanhnaohmaepoaa
