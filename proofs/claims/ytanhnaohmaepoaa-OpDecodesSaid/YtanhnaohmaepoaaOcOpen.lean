/-
  Arguments opened: a slice of integers, a slice of slices of bytes. Over no program. Conditions: none.
-/
import Derived.Test.YtanhnaohmaepoaaOcWords
import Derived.Test.YtanhnaohmaepoaaOcMath
import Derived.ProofKit
import Derived.OpenShut
import Derived.ChangeSlices
import Derived.Deep.Matrix
namespace Go.Oct
open Go.ChangeShapes Go.WideShapes Go.ChangeAt Go.WideMaps Go.WideElems Go.RowKit Go.Deep

section
variable {H : Type} {enc : TypeId × Value → H} {P : Program}
theorem plain_add (b off j : Nat) : (⟨b, off, none⟩ : Addr).add j = ⟨b, off + j, none⟩ := by unfold Addr.add; split <;> simp_all

theorem open_sl {W : World} {r : Reach} {base : Nat} {t e : TypeId} {k : IntKind} {v : Value} {d : DataW H} {p : List MemPlace} (ht : P.underlying t = some (.slice e)) (he : P.underlying e = some (.int k)) (hc : P.cellsOf e = 1)
    (hval : Value.okWide P W r base t v) (h : DataW.Trod enc P W 0 (fun _ => true) true t v d p) :
    ∃ A n c xs, v = Value.slice A n c ∧ Sl W (fun _ => True) k A n xs ∧ n ≤ c ∧ c ≤ maxLen ∧ ∀ x ∈ xs, (Lit.int k x).wf = true := by
  obtain ⟨a1, len, cap, rfl⟩ := okWide_slice ht hval
  obtain ⟨fuel, hf⟩ := h
  rcases open_ints ht he hc hf with ⟨hcs, hx⟩ | ⟨a, len', cap', zs, hcs, _, hl, hm, hz, hx, hcell, hwz⟩
  · simp [Value.cells] at hcs
    obtain ⟨rfl, rfl, rfl⟩ := hcs
    exact ⟨none, 0, 0, [], rfl, Sl.nil _ _ _ _, Nat.le_refl _, Nat.zero_le _, by simp⟩
  · simp [Value.cells] at hcs
    obtain ⟨rfl, rfl, rfl⟩ := hcs
    simp only [if_true] at hz
    refine ⟨some a, len, cap, zs.take len, rfl, ⟨by simp; omega, fun hn => ?_⟩, hl, hm, fun x hx => hwz x (List.mem_of_mem_take hx)⟩
    obtain ⟨ab, ao, spot⟩ := a
    have hspot : spot = none := by simpa [Addr.add] using World.cell?_spot (hcell 0 (by omega))
    subst hspot
    refine ⟨ab, ao, rfl, trivial, fun j u hu => ?_⟩
    obtain ⟨hj, hju⟩ := List.getElem?_eq_some_iff.1 hu
    simp only [List.length_map, List.length_take] at hj
    have hjz : j < zs.length := by omega
    have := hcell j hjz
    rw [plain_add] at this
    rw [this, ← hju]
    simp [List.getD, List.getElem?_eq_getElem hjz]

theorem byt_of_wf {xs : List Int} (h : ∀ x ∈ xs, (Lit.int .u8 x).wf = true) : Byt xs := fun x hx => by
  have := h x hx
  simp [Lit.wf, IntKind.min, IntKind.max, IntKind.signed, IntKind.bits] at this
  omega

theorem open_sls {W : World} {r : Reach} {base : Nat} {t e q : TypeId} {v : Value} {d : DataW H} {p : List MemPlace} (ht : P.underlying t = some (.slice e)) (he : P.underlying e = some (.slice q)) (hq : P.underlying q = some (.int .u8))
    (ce : P.cellsOf e = 1) (cq : P.cellsOf q = 1) (hval : Value.okWide P W r base t v) (h : DataW.Trod enc P W 0 (fun _ => true) true t v d p) :
    ∃ A n c xss, v = Value.slice A n c ∧ Sls W (fun _ => True) A n xss ∧ n ≤ c ∧ c ≤ maxLen ∧ ∀ xs ∈ xss, Byt xs := by
  obtain ⟨a1, len, cap, rfl⟩ := okWide_slice ht hval
  obtain ⟨fuel, hf⟩ := h
  rcases open_int_rows ht he hq ce cq hf with ⟨hcs, hx⟩ | ⟨a, len', cap', A, L, C, Z, hcs, _, hl, hm, hx, hrows⟩
  · simp [Value.cells] at hcs
    obtain ⟨rfl, rfl, rfl⟩ := hcs
    exact ⟨none, 0, 0, [], rfl, ⟨[], Vs.nil _ _ _, Rows.nil_ _ _⟩, Nat.le_refl _, Nat.zero_le _, by simp⟩
  · simp [Value.cells] at hcs
    obtain ⟨rfl, rfl, rfl⟩ := hcs
    refine ⟨some a, len, cap, (List.range len).map fun r => (Z r).take (L r), rfl, ⟨(List.range len).map fun r => Value.slice (A r) (L r) (C r), ⟨by simp, fun hn => ?_⟩, by simp, fun i u xs hu hxs => ?_⟩, hl, hm, fun xs hxs => ?_⟩
    · obtain ⟨ab, ao, spot⟩ := a
      have hspot : spot = none := by simpa [Addr.add] using World.cell?_spot (hrows 0 (by omega)).1
      subst hspot
      refine ⟨ab, ao, rfl, trivial, fun j u hu => ?_⟩
      obtain ⟨hj, hju⟩ := List.getElem?_eq_some_iff.1 hu
      simp only [List.length_map, List.length_range] at hj
      have := (hrows j (by omega)).1
      rw [plain_add] at this
      rw [this, ← hju]
      simp
    · obtain ⟨hi, hiu⟩ := List.getElem?_eq_some_iff.1 hu
      simp only [List.length_map, List.length_range] at hi
      obtain ⟨_, h1, h2, h3, h4, h5, h6⟩ := hrows i (by omega)
      have eu : u = .slice (A i) (L i) (C i) := by rw [← hiu]; simp
      have ex : xs = (Z i).take (L i) := by
        obtain ⟨hi2, hix⟩ := List.getElem?_eq_some_iff.1 hxs
        rw [← hix]
        simp
      have el : xs.length = L i := by rw [ex, List.length_take]; omega
      refine ⟨A i, C i, by rw [eu, el], ⟨by simp, fun hn => ?_⟩, by omega, h2⟩
      cases hA : A i with
      | none => have := h5 hA; omega
      | some a' =>
        obtain ⟨_, hcell⟩ := h6 a' hA
        obtain ⟨ab, ao, spot⟩ := a'
        have hspot : spot = none := by simpa [Addr.add] using World.cell?_spot (hcell 0 (by omega))
        subst hspot
        refine ⟨ab, ao, rfl, trivial, fun j u' hu' => ?_⟩
        obtain ⟨hj, hju⟩ := List.getElem?_eq_some_iff.1 hu'
        simp only [List.length_map] at hj
        have hjz : j < (Z i).length := by omega
        have := hcell j (by omega)
        rw [plain_add] at this
        rw [this, ← hju]
        simp [ex, List.getD, List.getElem?_eq_getElem hjz]
    · obtain ⟨i, hi, rfl⟩ := List.mem_map.1 hxs
      have hi' := List.mem_range.1 hi
      obtain ⟨_, _, _, _, h4, _⟩ := hrows i (by omega)
      exact byt_of_wf fun x hx => h4 x (List.mem_of_mem_take hx)
end
end Go.Oct
