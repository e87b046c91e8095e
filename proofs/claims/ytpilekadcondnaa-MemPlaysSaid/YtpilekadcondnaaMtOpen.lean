/-
  A script opened: steps of a kind, a key and a text. Over no program. Conditions: none.
-/
import Derived.Test.YtpilekadcondnaaSgOpen
import Derived.Test.YtpilekadcondnaaMtHeavy
import Derived.Deep.Strs
namespace Go.Sg
open Go.ChangeShapes Go.WideShapes Go.ChangeAt Go.WideMaps Go.WideElems Go.RowKit Go.Deep Go.Oct

theorem Wt.three {H : Type} {P : Program} {t : TypeId} {f0 f1 f2 : Field} {y0 y1 y2 : DataW H} (ht : P.underlying t = some (.struct #[f0, f1, f2])) (h : Wt P t (.agg [y0, y1, y2])) : Wt P f0.type y0 ∧ Wt P f1.type y1 ∧ Wt P f2.type y2 :=
  ⟨fun n hn => h n (by simp [DataW.weights, ht, DataW.weightsEach, hn]), fun n hn => h n (by simp [DataW.weights, ht, DataW.weightsEach, hn]), fun n hn => h n (by simp [DataW.weights, ht, DataW.weightsEach, hn])⟩
instance : Inhabited { s : Sp // SpOk s } := ⟨⟨(0, [], []), Nat.zero_le _, Nat.zero_le _, by simp, by decide⟩⟩
/-- What the types are. -/
structure StepT (P : Program) (t e ti ts tb tc : TypeId) (f0 f1 f2 : Field) : Prop where
  ht : P.underlying t = some (.slice e)
  he : P.underlying e = some (.struct #[f0, f1, f2])
  ce : P.cellsOf e = 3
  o0 : f0.offset = 0
  o1 : f1.offset = 1
  o2 : f2.offset = 2
  t0 : f0.type = ti
  t1 : f1.type = ts
  t2 : f2.type = tb
  u0 : P.underlying ti = some (.int .i64)
  u1 : P.underlying ts = some .string
  u2 : P.underlying tb = some (.slice tc)
  u3 : P.underlying tc = some (.int .u8)
  c0 : P.cellsOf ti = 1
  c1 : P.cellsOf ts = 1
  c2 : P.cellsOf tb = 1
  c3 : P.cellsOf tc = 1
  b3 : P.bytesOf tc = 1
section
variable {H : Type} {enc : TypeId × Value → H} {P : Program} {W : World}
theorem open_steps {r : Reach} {base : Nat} {t e ti ts tb tc : TypeId} {f0 f1 f2 : Field} {v : Value} {d : DataW H} {p : List MemPlace} (T : StepT P t e ti ts tb tc f0 f1 f2)
    (hval : Value.okWide P W r base t v) (hw : Wt P t d) (h : DataW.Trod enc P W 0 (fun _ => true) true t v d p) :
    ∃ (A : Option Addr) (n c : Nat) (l : List Sp), v = .slice A n c ∧ Stps W (fun _ => True) A n l ∧ n ≤ c ∧ c ≤ maxLen ∧ ∀ s ∈ l, SpOk s := by
  obtain ⟨a1, len, cap, rfl⟩ := okWide_slice T.ht hval
  obtain ⟨fuel, hf⟩ := h
  obtain ⟨A, n, c, av, e1, hr, h1, h2, h3⟩ := trod_ro (y := (d, p)) (α := { s : Sp // SpOk s }) (E := fun cs a => StpE W (fun _ => True) cs a.1) T.ht T.ce (by omega) (fun m cs y hl hw ht => by
    obtain ⟨y0, y1, y2, q, ey, _, k0, k1, k2⟩ := trod_struct3 T.he ht
    rw [ey] at hw
    obtain ⟨hw0, hw1, hw2⟩ := hw.three T.he
    match cs, hl with
    | [v0, v1, v2], _ =>
      simp [T.o0, T.o1, T.o2, T.t0, T.t1, T.t2, T.c0, T.c1, T.c2] at k0 k1 k2
      obtain ⟨x, e0, _, hx⟩ := DataW.trod_int T.u0 k0
      obtain ⟨s, e1, es, _⟩ := DataW.trod_string T.u1 k1
      rw [es] at hw1
      obtain ⟨A, n, c, xs, e2, hsl, g1, g2, g3⟩ := trod_sl T.u2 T.u3 T.c3 k2
      rw [T.t2] at hw2
      have hnl := trod_len T.u2 hw2 k2 e2
      rw [T.b3, Nat.mul_one] at hnl
      simp only [List.cons.injEq, and_true] at e0 e1 e2
      obtain rfl := hsl.len
      have hx2 : -9223372036854775808 ≤ x ∧ x ≤ 9223372036854775807 := by
        have h1 : IntKind.i64.min = -9223372036854775808 := rfl
        have h2 : IntKind.i64.max = 9223372036854775807 := rfl
        simp only [Lit.wf, Bool.and_eq_true, decide_eq_true_eq] at hx
        omega
      exact ⟨⟨(x, s.data.toList, xs), hw1.str, hnl, byt_of_wf g3, hx2⟩, A, c, by rw [e0, e1, e2, kv_data], hsl, g1, g2⟩) hw hf
  simp [Value.cells] at e1
  obtain ⟨rfl, rfl, rfl⟩ := e1
  refine ⟨_, _, _, av.map (·.1), rfl, ⟨by rw [List.length_map]; exact hr.len, fun hn => ?_⟩, h1, h2, fun d hd => ?_⟩
  · obtain ⟨b, off, e, _, hj⟩ := hr.at_ hn
    refine ⟨b, off, e, trivial, fun j a ha => ?_⟩
    rw [List.getElem?_map] at ha
    cases hx : av[j]? with
    | none => rw [hx] at ha; cases ha
    | some x =>
      rw [hx] at ha
      simp only [Option.map_some, Option.some.injEq] at ha
      subst ha
      exact hj j x hx
  · obtain ⟨a, _, rfl⟩ := List.mem_map.1 hd
    exact a.2
end
end Go.Sg
