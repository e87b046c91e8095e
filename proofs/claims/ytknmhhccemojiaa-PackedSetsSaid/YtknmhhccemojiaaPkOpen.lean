/-
  Arguments opened: a word, a slice of words, a slice of steps. Over no program. Conditions: none.
-/
import Derived.Test.YtknmhhccemojiaaOcOpen
import Derived.Deep.SlicePairs
namespace Go.Pk
open Go.ChangeShapes Go.WideShapes Go.ChangeAt Go.WideMaps Go.WideElems Go.RowKit Go.Deep Go.Oct

theorem nat_of_wf {z : Int} (h : (Lit.int .u64 z).wf = true) : ∃ n : Nat, z = n ∧ n < 18446744073709551616 := by
  simp [Lit.wf, IntKind.min, IntKind.max, IntKind.signed, IntKind.bits] at h
  exact ⟨z.toNat, by omega, by omega⟩
theorem int_of_wf {z : Int} (h : (Lit.int .i64 z).wf = true) : -9223372036854775808 ≤ z ∧ z ≤ 9223372036854775807 := by
  simp [Lit.wf, IntKind.min, IntKind.max, IntKind.signed, IntKind.bits] at h
  omega
theorem nats_of_wf : ∀ {xs : List Int}, (∀ x ∈ xs, (Lit.int .u64 x).wf = true) → ∃ l : List Nat, xs = l.map (fun x : Nat => (x : Int)) ∧ ∀ x ∈ l, x < 18446744073709551616
  | [], _ => ⟨[], rfl, by simp⟩
  | x :: xs, h => by
    obtain ⟨l, h1, h2⟩ := nats_of_wf (xs := xs) (fun y hy => h y (List.mem_cons_of_mem _ hy))
    obtain ⟨n, h3, h4⟩ := nat_of_wf (h x (List.mem_cons_self ..))
    refine ⟨n :: l, by rw [h1, h3]; rfl, fun y hy => ?_⟩
    rcases List.mem_cons.1 hy with h5 | h5
    · rw [h5]
      exact h4
    · exact h2 y h5

/-- A slice of steps: two cells each. -/
structure Stp (w : World) (F : Nat → Prop) (A : Option Addr) (n : Nat) (ss : List (Int × Nat)) : Prop where
  len : ss.length = n
  at_ : 0 < n → ∃ b off, A = some ⟨b, off, none⟩ ∧ F b ∧ ∀ j s, ss[j]? = some s → w.cell? ⟨b, off + j * 2, none⟩ = some (.int .i64 s.1) ∧ w.cell? ⟨b, off + j * 2 + 1, none⟩ = some (.int .u64 (s.2 : Nat))
theorem Stp.ch {w w' : World} {F S : Nat → Prop} {A : Option Addr} {n : Nat} {ss : List (Int × Nat)} (h : Stp w F A n ss) (hc : Ch S w w') (hF : ∀ b, F b → b < w.heap.size → ¬ S b) : Stp w' F A n ss :=
  ⟨h.len, fun hn => by
    obtain ⟨b, off, e, hb, hj⟩ := h.at_ hn
    refine ⟨b, off, e, hb, fun j s hs => ?_⟩
    obtain ⟨h1, h2⟩ := hj j s hs
    exact ⟨hc.cell (hF b hb (lt_of_cell h1)) h1, hc.cell (hF b hb (lt_of_cell h2)) h2⟩⟩
theorem Stp.nil (w : World) (F : Nat → Prop) (A : Option Addr) : Stp w F A 0 [] := ⟨rfl, fun h => absurd h (by omega)⟩

section
variable {H : Type} {enc : TypeId × Value → H} {P : Program}
theorem open_steps {W : World} {r : Reach} {base : Nat} {t e : TypeId} {f0 f1 : Field} {v : Value} {d : DataW H} {p : List MemPlace} (ht : P.underlying t = some (.slice e)) (he : P.underlying e = some (.struct #[f0, f1]))
    (ce : P.cellsOf e = 2) (o0 : f0.offset = 0) (o1 : f1.offset = 1) (c0 : P.cellsOf f0.type = 1) (c1 : P.cellsOf f1.type = 1) (u0 : P.underlying f0.type = some (.int .i64)) (u1 : P.underlying f1.type = some (.int .u64))
    (hval : Value.okWide P W r base t v) (h : DataW.Trod enc P W 0 (fun _ => true) true t v d p) :
    ∃ (A : Option Addr) (n c : Nat) (ss : List (Int × Nat)), v = Value.slice A n c ∧ Stp W (fun _ => True) A n ss ∧ n ≤ c ∧ c ≤ maxLen ∧ ∀ s ∈ ss, (-9223372036854775808 ≤ s.1 ∧ s.1 ≤ 9223372036854775807) ∧ s.2 < 18446744073709551616 := by
  obtain ⟨a1, len, cap, rfl⟩ := okWide_slice ht hval
  obtain ⟨fuel, hf⟩ := h
  rcases open_slice_pairs ht he ce o0 o1 c0 c1 hf with ⟨hcs, hx⟩ | ⟨a, len', cap', m, k, V0, V1, D0, D1, P0, P1, hcs, _, hl, hm, hmm, hx, hcell⟩
  · simp [Value.cells] at hcs
    obtain ⟨rfl, rfl, rfl⟩ := hcs
    exact ⟨none, 0, 0, [], rfl, Stp.nil _ _ _, Nat.le_refl _, Nat.zero_le _, by simp⟩
  · simp [Value.cells] at hcs
    obtain ⟨rfl, rfl, rfl⟩ := hcs
    simp only [if_true] at hmm
    have each : ∀ i, i < len → ∃ s : Int × Nat, W.cell? (a.add (i * 2)) = some (.int .i64 s.1) ∧ W.cell? (a.add (i * 2 + 1)) = some (.int .u64 (s.2 : Nat)) ∧ (-9223372036854775808 ≤ s.1 ∧ s.1 ≤ 9223372036854775807) ∧ s.2 < 18446744073709551616 := by
      intro i hi
      obtain ⟨h0, h1, t0, t1⟩ := hcell i (by omega)
      obtain ⟨z, e1, e2, hz⟩ := DataW.trod_int u0 t0
      obtain ⟨y, e3, e4, hy⟩ := DataW.trod_int u1 t1
      obtain ⟨y', rfl, hy'⟩ := nat_of_wf hy
      simp only [List.cons.injEq, and_true] at e1 e3
      exact ⟨(z, y'), by rw [h0, e1], by rw [h1, e3], int_of_wf hz, hy'⟩
    obtain ⟨q, hq⟩ := choose_lt each
    refine ⟨some a, len, cap, (List.range len).map q, rfl, ⟨by simp, fun hn => ?_⟩, hl, hm, fun s hs => ?_⟩
    · obtain ⟨ab, ao, spot⟩ := a
      have hspot : spot = none := by simpa [Addr.add] using World.cell?_spot (hq 0 (by omega)).1
      subst hspot
      refine ⟨ab, ao, rfl, trivial, fun j s hs => ?_⟩
      obtain ⟨hj, hjs⟩ := List.getElem?_eq_some_iff.1 hs
      simp only [List.length_map, List.length_range] at hj
      obtain ⟨h1, h2, _⟩ := hq j hj
      rw [plain_add] at h1 h2
      have es : s = q j := by rw [← hjs]; simp
      rw [es]
      exact ⟨h1, by rw [Nat.add_assoc]; exact h2⟩
    · obtain ⟨i, hi, rfl⟩ := List.mem_map.1 hs
      exact (hq i (List.mem_range.1 hi)).2.2
end
end Go.Pk
