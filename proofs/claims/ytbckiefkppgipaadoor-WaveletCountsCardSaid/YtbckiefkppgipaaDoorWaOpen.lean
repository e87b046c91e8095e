/-
  Arguments opened: an Ask (three numbers), a slice of them. Over no program. Conditions: none.
-/
import Derived.Test.YtbckiefkppgipaaDoorOcOpen
import Derived.Deep.Slices
import Derived.Deep.Strs
import Derived.Lib.SmallJoins
namespace Go.Wa
open Go.ChangeShapes Go.WideShapes Go.ChangeAt Go.WideMaps Go.WideElems Go.RowKit Go.Deep Go.Oct Go.Joins

/-- A number of a word. -/
def Wf (z : Int) : Prop := -9223372036854775808 ≤ z ∧ z ≤ 9223372036854775807
theorem wf_of {z : Int} (h : (Lit.int .i64 z).wf = true) : Wf z := by
  simp [Lit.wf, IntKind.min, IntKind.max, IntKind.signed, IntKind.bits] at h
  exact ⟨by omega, by omega⟩

/-- What is asked of a symbol and two places. -/
structure AskI where
  c : Int
  i : Int
  k : Int
instance : Inhabited AskI := ⟨⟨0, 0, 0⟩⟩
/-- A slice of them: three cells each. -/
structure Asks (w : World) (F : Nat → Prop) (A : Option Addr) (n : Nat) (ss : List AskI) : Prop where
  len : ss.length = n
  at_ : 0 < n → ∃ b off, A = some ⟨b, off, none⟩ ∧ F b ∧ ∀ j s, ss[j]? = some s → w.cell? ⟨b, off + j * 3, none⟩ = some (.int .i64 s.c) ∧ w.cell? ⟨b, off + j * 3 + 1, none⟩ = some (.int .i64 s.i) ∧ w.cell? ⟨b, off + j * 3 + 2, none⟩ = some (.int .i64 s.k)
theorem Asks.ch {w w' : World} {F S : Nat → Prop} {A : Option Addr} {n : Nat} {ss : List AskI} (h : Asks w F A n ss) (hc : Ch S w w') (hF : ∀ b, F b → b < w.heap.size → ¬ S b) : Asks w' F A n ss :=
  ⟨h.len, fun hn => by
    obtain ⟨b, off, e, hb, hj⟩ := h.at_ hn
    refine ⟨b, off, e, hb, fun j s hs => ?_⟩
    obtain ⟨h1, h2, h3⟩ := hj j s hs
    exact ⟨hc.cell (hF b hb (lt_of_cell h1)) h1, hc.cell (hF b hb (lt_of_cell h2)) h2, hc.cell (hF b hb (lt_of_cell h3)) h3⟩⟩
theorem Asks.mono {w : World} {F G : Nat → Prop} {A : Option Addr} {n : Nat} {ss : List AskI} (h : Asks w F A n ss) (hF : ∀ b, b < w.heap.size → F b → G b) : Asks w G A n ss :=
  ⟨h.len, fun hn => by
    obtain ⟨b, off, e, hb, hj⟩ := h.at_ hn
    have h0 : ss[0]? = some (ss[0]'(by have := h.len; omega)) := List.getElem?_eq_getElem _
    exact ⟨b, off, e, hF b (lt_of_cell (hj 0 _ h0).1) hb, hj⟩⟩
theorem Asks.nil (w : World) (F : Nat → Prop) (A : Option Addr) : Asks w F A 0 [] := ⟨rfl, fun h => absurd h (by omega)⟩
theorem Asks.get {w : World} {F : Nat → Prop} {A : Option Addr} {n : Nat} {ss : List AskI} (h : Asks w F A n ss) {j : Nat} (hj : j < n) :
    ∃ b off s, A = some ⟨b, off, none⟩ ∧ F b ∧ ss[j]? = some s ∧ w.cell? ⟨b, off + j * 3, none⟩ = some (.int .i64 s.c) ∧ w.cell? ⟨b, off + j * 3 + 1, none⟩ = some (.int .i64 s.i) ∧ w.cell? ⟨b, off + j * 3 + 2, none⟩ = some (.int .i64 s.k) := by
  obtain ⟨b, off, e, hb, hc⟩ := h.at_ (by omega)
  have h0 : ss[j]? = some (ss[j]'(by have := h.len; omega)) := List.getElem?_eq_getElem _
  obtain ⟨h1, h2, h3⟩ := hc j _ h0
  exact ⟨b, off, _, e, hb, h0, h1, h2, h3⟩

section
variable {H : Type} {enc : TypeId × Value → H} {P : Program}
theorem open_ask {W : World} {r : Reach} {base : Nat} {t : TypeId} {f0 f1 f2 : Field} {v : Value} {d : DataW H} {p : List MemPlace} (hs : P.underlying t = some (.struct #[f0, f1, f2])) (hone : oneCellFields P #[f0, f1, f2] = true) (hC : P.cellsOf t = 3)
    (u0 : P.underlying f0.type = some (.int .i64)) (u1 : P.underlying f1.type = some (.int .i64)) (u2 : P.underlying f2.type = some (.int .i64))
    (hval : Value.okWide P W r base t v) (h : DataW.Trod enc P W 0 (fun _ => true) true t v d p) :
    ∃ s : AskI, v = .agg #[.int .i64 s.c, .int .i64 s.i, .int .i64 s.k] := by
  obtain ⟨v0, v1, v2, y0, y1, y2, n, rfl, _, _, h0, h1, h2⟩ := open_agg3 hs hone hC hval h
  obtain ⟨z0, e0, _⟩ := DataW.trod_int u0 h0
  obtain ⟨z1, e1, _⟩ := DataW.trod_int u1 h1
  obtain ⟨z2, e2, _⟩ := DataW.trod_int u2 h2
  simp only [List.cons.injEq, and_true] at e0 e1 e2
  exact ⟨⟨z0, z1, z2⟩, by rw [e0, e1, e2]⟩
theorem open_asks {W : World} {r : Reach} {base : Nat} {t e : TypeId} {f0 f1 f2 : Field} {v : Value} {d : DataW H} {p : List MemPlace} (ht : P.underlying t = some (.slice e)) (he : P.underlying e = some (.struct #[f0, f1, f2])) (ce : P.cellsOf e = 3)
    (o0 : f0.offset = 0) (o1 : f1.offset = 1) (o2 : f2.offset = 2) (c0 : P.cellsOf f0.type = 1) (c1 : P.cellsOf f1.type = 1) (c2 : P.cellsOf f2.type = 1)
    (u0 : P.underlying f0.type = some (.int .i64)) (u1 : P.underlying f1.type = some (.int .i64)) (u2 : P.underlying f2.type = some (.int .i64))
    (hval : Value.okWide P W r base t v) (h : DataW.Trod enc P W 0 (fun _ => true) true t v d p) :
    ∃ (A : Option Addr) (n c : Nat) (ss : List AskI), v = Value.slice A n c ∧ Asks W (fun _ => True) A n ss ∧ n ≤ c ∧ c ≤ maxLen ∧ ∀ s ∈ ss, Wf s.c ∧ Wf s.i ∧ Wf s.k := by
  obtain ⟨a1, len, cap, rfl⟩ := okWide_slice ht hval
  obtain ⟨fuel, hf⟩ := h
  rcases open_slice ht hf with ⟨hcs, _⟩ | ⟨a, len', cap', m, n, D, Pl, hcs, _, hl, hm, hmm, _, hx⟩
  · simp [Value.cells] at hcs
    obtain ⟨rfl, rfl, rfl⟩ := hcs
    exact ⟨none, 0, 0, [], rfl, Asks.nil _ _ _, Nat.le_refl _, Nat.zero_le _, by simp⟩
  · simp [Value.cells] at hcs
    obtain ⟨rfl, rfl, rfl⟩ := hcs
    simp only [if_true] at hmm
    have each : ∀ i, i < len → ∃ s : AskI, W.cell? (a.add (i * 3)) = some (.int .i64 s.c) ∧ W.cell? (a.add (i * 3 + 1)) = some (.int .i64 s.i) ∧ W.cell? (a.add (i * 3 + 2)) = some (.int .i64 s.k) ∧ Wf s.c ∧ Wf s.i ∧ Wf s.k := by
      intro i hi
      obtain ⟨cs', h1, h2⟩ := hx i (by omega)
      rw [ce] at h1
      obtain ⟨_, hlen, hcell⟩ := World.cells?_some h1
      obtain ⟨y0, y1, y2, q, _, _, t0, t1, t2⟩ := trod_struct3 he h2
      match cs', hlen with
      | [v0, v1, v2], _ =>
        simp [o0, o1, o2, c0, c1, c2] at t0 t1 t2
        obtain ⟨z0, e0, _, w0⟩ := DataW.trod_int u0 t0
        obtain ⟨z1, e1, _, w1⟩ := DataW.trod_int u1 t1
        obtain ⟨z2, e2, _, w2⟩ := DataW.trod_int u2 t2
        simp only [List.cons.injEq, and_true] at e0 e1 e2
        have k0 := hcell 0 (by omega)
        have k1 := hcell 1 (by omega)
        have k2 := hcell 2 (by omega)
        rw [add_add] at k0 k1 k2
        exact ⟨⟨z0, z1, z2⟩, by simpa [e0] using k0, by simpa [e1] using k1, by simpa [e2] using k2, wf_of w0, wf_of w1, wf_of w2⟩
    obtain ⟨q, hq⟩ := choose_lt each
    refine ⟨some a, len, cap, (List.range len).map q, rfl, ⟨by simp, fun hn => ?_⟩, hl, hm, fun s hs => ?_⟩
    · obtain ⟨ab, ao, spot⟩ := a
      have hspot : spot = none := by simpa [Addr.add] using World.cell?_spot (hq 0 (by omega)).1
      subst hspot
      refine ⟨ab, ao, rfl, trivial, fun j s hs => ?_⟩
      obtain ⟨hj, hjs⟩ := List.getElem?_eq_some_iff.1 hs
      simp only [List.length_map, List.length_range] at hj
      obtain ⟨h1, h2, h3, _⟩ := hq j hj
      rw [plain_add] at h1 h2 h3
      have es : s = q j := by rw [← hjs]; simp
      rw [es]
      exact ⟨h1, by rw [Nat.add_assoc]; exact h2, by rw [Nat.add_assoc]; exact h3⟩
    · obtain ⟨i, hi, rfl⟩ := List.mem_map.1 hs
      exact (hq i (List.mem_range.1 hi)).2.2.2
end
end Go.Wa
