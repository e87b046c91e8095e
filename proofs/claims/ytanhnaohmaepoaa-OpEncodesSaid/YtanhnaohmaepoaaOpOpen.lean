/-
  Arguments opened: an op by value, a slice of places. Conditions: none.
-/
import Derived.Test.YtanhnaohmaepoaaSgOpen
import Derived.Test.YtanhnaohmaepoaaOpW
namespace Go.Proofs.Ytanhnaohmaepoaa
open Go.ChangeShapes Go.WideShapes Go.ChangeAt Go.WideMaps Go.WideElems Go.RowKit Go.Deep Go.Oct Go.Su Go.Sg Go.Om

/-- What the types are. -/
structure OpT (P : Program) (t ti ts tb tc : TypeId) (f0 f1 f2 f3 f4 : Field) : Prop where
  ht : P.underlying t = some (.struct #[f0, f1, f2, f3, f4])
  ct : P.cellsOf t = 5
  o0 : f0.offset = 0
  o1 : f1.offset = 1
  o2 : f2.offset = 2
  o3 : f3.offset = 3
  o4 : f4.offset = 4
  t0 : f0.type = ti
  t1 : f1.type = ti
  t2 : f2.type = ti
  t3 : f3.type = ts
  t4 : f4.type = tb
  ui : P.underlying ti = some (.int .i64)
  us : P.underlying ts = some .string
  ub : P.underlying tb = some (.slice tc)
  uc : P.underlying tc = some (.int .u8)
  ci : P.cellsOf ti = 1
  cs : P.cellsOf ts = 1
  cb : P.cellsOf tb = 1
  cc : P.cellsOf tc = 1
  bc : P.bytesOf tc = 1
/-- .. of a place. -/
structure MatT (P : Program) (t e ti ts : TypeId) (f0 f1 : Field) : Prop where
  ht : P.underlying t = some (.slice e)
  he : P.underlying e = some (.struct #[f0, f1])
  ce : P.cellsOf e = 2
  o0 : f0.offset = 0
  o1 : f1.offset = 1
  t0 : f0.type = ts
  t1 : f1.type = ti
  ui : P.underlying ti = some (.int .i64)
  us : P.underlying ts = some .string
  ci : P.cellsOf ti = 1
  cs : P.cellsOf ts = 1
  be : 1 ≤ P.bytesOf e
section
variable {H : Type} {enc : TypeId × Value → H} {P : Program} {W : World}
theorem Wt.struct_ {f : Array Field} {t : TypeId} {ys : List (DataW H)} (ht : P.underlying t = some (.struct f)) (h : Wt P t (.agg ys)) {i : Nat} {y : DataW H} {g : Field} (hf : f[i]? = some g) (hy : ys[i]? = some y) : Wt P g.type y := fun n hn => by
  refine h n ?_
  simp only [DataW.weights, ht]
  exact DataW.weights_mem_each (j := i) (by simp [hf]) hy n hn
theorem open_op {r : Reach} {base : Nat} {t ti ts tb tc : TypeId} {f0 f1 f2 f3 f4 : Field} {v : Value} {d : DataW H} {p : List MemPlace} (T : OpT P t ti ts tb tc f0 f1 f2 f3 f4)
    (hval : Value.okWide P W r base t v) (hw : Wt P t d) (h : DataW.Trod enc P W 0 (fun _ => true) true t v d p) :
    ∃ (kd cl sq : Int) (k : Key) (xs : List Int) (A : Option Addr) (n c : Nat), v = .agg #[.int .i64 kd, .int .i64 cl, .int .i64 sq, kv k, .slice A n c] ∧ Sl W (fun _ => True) .u8 A n xs ∧ n ≤ c ∧ c ≤ maxLen ∧ n ≤ 140737488351232 ∧ k.length ≤ 140737488351232 ∧ Byt xs := by
  obtain ⟨cs, rfl, hsz⟩ := okWide_struct T.ht hval
  obtain ⟨fuel, hf⟩ := h
  have hf' : DataW.trod enc P W 0 (fun _ => true) true fuel t cs.toList = some (d, p) := by simpa [Value.cells] using hf
  obtain ⟨ys, q, _, hd, _, hlen, hF⟩ := DataW.trod_struct T.ht hf'
  have hl5 : cs.toList.length = 5 := by rw [T.ct] at hsz; simpa using hsz
  injection hd with hd hq
  rw [hd] at hw
  generalize hcl : cs.toList = cl at *
  have ecs : cs = cl.toArray := by rw [← hcl]
  match ys, hlen, cl, hl5 with
  | [y0, y1, y2, y3, y4], _, [v0, v1, v2, v3, v4], _ =>
    have k0 := hF 0 f0 rfl
    have k1 := hF 1 f1 rfl
    have k2 := hF 2 f2 rfl
    have k3 := hF 3 f3 rfl
    have k4 := hF 4 f4 rfl
    simp [T.o0, T.o1, T.o2, T.o3, T.o4, T.t0, T.t1, T.t2, T.t3, T.t4, T.ci, T.cs, T.cb] at k0 k1 k2 k3 k4
    have w3 := Wt.struct_ T.ht hw (i := 3) (y := y3.1) (g := f3) rfl rfl
    have w4 := Wt.struct_ T.ht hw (i := 4) (y := y4.1) (g := f4) rfl rfl
    rw [T.t3] at w3
    rw [T.t4] at w4
    obtain ⟨z0, e0, _⟩ := DataW.trod_int T.ui k0
    obtain ⟨z1, e1, _⟩ := DataW.trod_int T.ui k1
    obtain ⟨z2, e2, _⟩ := DataW.trod_int T.ui k2
    obtain ⟨s, e3, es, _⟩ := DataW.trod_string T.us k3
    rw [es] at w3
    obtain ⟨A, n, c, xs, e4, hs4, g1, g2, g3⟩ := trod_sl T.ub T.uc T.cc k4
    have n4 := trod_len T.ub w4 k4 e4
    rw [T.bc, Nat.mul_one] at n4
    simp only [List.cons.injEq, and_true] at e0 e1 e2 e3 e4
    exact ⟨z0, z1, z2, s.data.toList, xs, A, n, c, by rw [ecs, e0, e1, e2, e3, e4, kv_data], hs4, g1, g2, n4, w3.str, byt_of_wf g3⟩
instance : Inhabited { m : Key × Int // m.1.length ≤ 140737488351232 } := ⟨⟨([], 0), Nat.zero_le _⟩⟩
theorem open_mats {r : Reach} {base : Nat} {t e ti ts : TypeId} {f0 f1 : Field} {v : Value} {d : DataW H} {p : List MemPlace} (T : MatT P t e ti ts f0 f1)
    (hval : Value.okWide P W r base t v) (hw : Wt P t d) (h : DataW.Trod enc P W 0 (fun _ => true) true t v d p) :
    ∃ (A : Option Addr) (n c : Nat) (l : List (Key × Int)), v = .slice A n c ∧ Mts W (fun _ => True) A n l ∧ n ≤ c ∧ c ≤ maxLen ∧ n ≤ 140737488351232 ∧ ∀ m ∈ l, m.1.length ≤ 140737488351232 := by
  obtain ⟨a1, len, cap, rfl⟩ := okWide_slice T.ht hval
  obtain ⟨fuel, hf⟩ := h
  obtain ⟨A, n, c, av, e1, hr, h1, h2, h3⟩ := trod_ro (y := (d, p)) (α := { m : Key × Int // m.1.length ≤ 140737488351232 }) (E := fun cs a => MatE cs a.1) T.ht T.ce (by omega) (fun m cs y hl hw ht => by
    obtain ⟨y0, y1, q, ey, _, k0, k1⟩ := trod_struct2 T.he ht
    rw [ey] at hw
    obtain ⟨hw0, _⟩ := hw.two T.he
    match cs, hl with
    | [v0, v1], _ =>
      simp [T.o0, T.o1, T.t0, T.t1, T.ci, T.cs] at k0 k1
      obtain ⟨s, e0, es, _⟩ := DataW.trod_string T.us k0
      rw [es] at hw0
      obtain ⟨z, e1, _⟩ := DataW.trod_int T.ui k1
      simp only [List.cons.injEq, and_true] at e0 e1
      exact ⟨⟨(s.data.toList, z), hw0.str⟩, by show [v0, v1] = _; rw [e0, e1, kv_data]⟩) hw hf
  simp [Value.cells] at e1
  obtain ⟨rfl, rfl, rfl⟩ := e1
  refine ⟨_, _, _, av.map (·.1), rfl, ⟨by rw [List.length_map]; exact hr.len, fun hn => ?_⟩, h1, h2, Nat.le_trans (Nat.le_mul_of_pos_right _ T.be) h3, fun d hd => ?_⟩
  · obtain ⟨b, off, e, _, hj⟩ := hr.at_ hn
    refine ⟨b, off, e, trivial, fun j a ha => ?_⟩
    rw [List.getElem?_map] at ha
    cases hx : av[j]? with
    | none => rw [hx] at ha; cases ha
    | some x =>
      rw [hx] at ha
      simp only [Option.map_some, Option.some.injEq] at ha
      subst ha
      exact hj j x hx
  · obtain ⟨a, _, rfl⟩ := List.mem_map.1 hd
    exact a.2
end
end Go.Proofs.Ytanhnaohmaepoaa
