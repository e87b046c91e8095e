/-
  Arguments opened: keys, documents, a set of documents and keys, a slice of sets. Over no program. Conditions: none.
-/
import Derived.Test.YtanhnaohmaepoaaOcOpen
import Derived.Test.YtanhnaohmaepoaaSgWords
import Derived.Test.YtanhnaohmaepoaaSgOk
import Derived.Deep.Slices
import Derived.Lib.SmallJoins
import Derived.SizedLaws
namespace Go.Sg
open Go.ChangeShapes Go.WideShapes Go.ChangeAt Go.WideMaps Go.WideElems Go.RowKit Go.Deep Go.Oct

/-- No part of what came in is more than the form's own reach. -/
def Wt {H : Type} (P : Program) (t : TypeId) (d : DataW H) : Prop := ∀ n ∈ d.weights P t, n ≤ 140737488351232
theorem weightsAll_mem {H : Type} {P : Program} {e : TypeId} {d : DataW H} {n : Nat} (hn : n ∈ d.weights P e) : ∀ {l : List (DataW H)}, d ∈ l → n ∈ DataW.weightsAll P e l
  | [], h => by simp at h
  | a :: l, h => by
    rw [DataW.weightsAll]
    rcases List.mem_cons.1 h with rfl | h
    · exact List.mem_append_left _ hn
    · exact List.mem_append_right _ (weightsAll_mem hn h)
theorem Wt.elem {H : Type} {P : Program} {t e : TypeId} {xs ys : List (DataW H)} (ht : P.underlying t = some (.slice e)) (h : Wt P t (.slice xs ys)) {d : DataW H} (hd : d ∈ xs) : Wt P e d := fun n hn =>
  h n (by simp only [DataW.weights, ht]; exact List.mem_cons_of_mem _ (List.mem_append_left _ (weightsAll_mem hn hd)))
theorem Wt.len {H : Type} {P : Program} {t e : TypeId} {xs ys : List (DataW H)} (ht : P.underlying t = some (.slice e)) (h : Wt P t (.slice xs ys)) : xs.length * P.bytesOf e ≤ 140737488351232 :=
  Nat.le_trans (Nat.mul_le_mul_right _ (Nat.le_add_right _ ys.length)) (h _ (by simp [DataW.weights, ht]))
theorem Wt.str {H : Type} {P : Program} {t : TypeId} {bs : List UInt8} (h : Wt P t (.lit (.string bs) : DataW H)) : bs.length ≤ 140737488351232 := h _ (by simp [DataW.weights])
/-- .. by the form's own premise. -/
theorem Wt.of_sized {H : Type} {P : Program} {ts : List TypeId} {ds : List (DataW H)} (h : (DataW.weightsEach P ts ds).all (· ≤ reachBytes) = true) {j : Nat} {t : TypeId} {d : DataW H} (ht : ts[j]? = some t) (hd : ds[j]? = some d) : Wt P t d := fun n hn => by
  have := List.all_eq_true.1 h _ (DataW.weights_mem_each ht hd n hn)
  exact of_decide_eq_true this
theorem Wt.two {H : Type} {P : Program} {t : TypeId} {f0 f1 : Field} {y0 y1 : DataW H} (ht : P.underlying t = some (.struct #[f0, f1])) (h : Wt P t (.agg [y0, y1])) : Wt P f0.type y0 ∧ Wt P f1.type y1 :=
  ⟨fun n hn => h n (by simp [DataW.weights, ht, DataW.weightsEach, hn]), fun n hn => h n (by simp [DataW.weights, ht, DataW.weightsEach, hn])⟩
section
variable {H : Type} {enc : TypeId × Value → H} {P : Program} {W : World}
theorem trod_ro {α : Type} [Inhabited α] {t e : TypeId} {k m : Nat} {E : List Value → α → Prop} {cs : List Value} {y : DataW H × List MemPlace} (ht : P.underlying t = some (.slice e)) (hc : P.cellsOf e = k) (hk : 0 < k)
    (hE : ∀ m cs y, cs.length = k → Wt P e y.1 → DataW.trod enc P W 0 (fun _ => true) true m e cs = some y → ∃ a, E cs a) (hw : Wt P t y.1) (h : DataW.trod enc P W 0 (fun _ => true) true m t cs = some y) :
    ∃ A n c av, cs = [.slice A n c] ∧ Ro W (fun _ => True) k E A n av ∧ n ≤ c ∧ c ≤ maxLen ∧ n * P.bytesOf e ≤ 140737488351232 := by
  rcases open_slice ht h with ⟨hcs, _⟩ | ⟨a, len, cap, m, q, D, Pl, hcs, _, hl, hm, hmm, hy, hx⟩
  · exact ⟨none, 0, 0, [], hcs, Ro.nil _ _ _ _ _, Nat.le_refl _, Nat.zero_le _, by rw [Nat.zero_mul]; omega⟩
  · simp only [if_true] at hmm
    rw [hy] at hw
    have hlb : len * P.bytesOf e ≤ 140737488351232 := by have := hw.len ht; simpa using this
    have hwe : ∀ i, i < len → Wt P e (D i) := fun i hi => hw.elem ht (List.mem_map.2 ⟨i, List.mem_range.2 hi, rfl⟩)
    have each : ∀ i, i < len → ∃ p : α × List Value, p.2.length = k ∧ E p.2 p.1 ∧ ∀ j u, p.2[j]? = some u → W.cell? (a.add (i * k + j)) = some u := by
      intro i hi
      obtain ⟨cs', h1, h2⟩ := hx i (by omega)
      rw [hc] at h1
      obtain ⟨_, hlen, hcell⟩ := World.cells?_some h1
      obtain ⟨x, hx⟩ := hE _ _ _ hlen (hwe i hi) h2
      refine ⟨(x, cs'), hlen, hx, fun j u hu => ?_⟩
      have hu' : cs'[j]? = some u := hu
      obtain ⟨hj, _⟩ := List.getElem?_eq_some_iff.1 hu'
      have k0 := hcell j (by omega)
      rw [add_add] at k0
      rw [k0]
      exact hu'
    obtain ⟨q, hq⟩ := choose_lt each
    refine ⟨some a, len, cap, (List.range len).map fun i => (q i).1, hcs, ⟨by simp, fun hn => ?_⟩, hl, hm, hlb⟩
    obtain ⟨ab, ao, spot⟩ := a
    obtain ⟨g1, _, g3⟩ := hq 0 hn
    have hspot : spot = none := by
      have := World.cell?_spot (g3 0 ((q 0).2[0]'(by omega)) (List.getElem?_eq_getElem _))
      simpa [Addr.add] using this
    subst hspot
    refine ⟨ab, ao, rfl, trivial, fun j s hs => ?_⟩
    obtain ⟨hj, hjs⟩ := List.getElem?_eq_some_iff.1 hs
    simp only [List.length_map, List.length_range] at hj
    obtain ⟨h1, h2, h3⟩ := hq j hj
    have es : s = (q j).1 := by rw [← hjs]; simp
    subst es
    refine ⟨_, h1, h2, fun i u hu => ?_⟩
    have := h3 i u hu
    rw [plain_add] at this
    rw [Nat.add_assoc]
    exact this

theorem trod_len {t e : TypeId} {m : Nat} {cs : List Value} {y : DataW H × List MemPlace} (ht : P.underlying t = some (.slice e)) (hw : Wt P t y.1) (h : DataW.trod enc P W 0 (fun _ => true) true m t cs = some y) {A : Option Addr} {n c : Nat} (hcs : cs = [.slice A n c]) : n * P.bytesOf e ≤ 140737488351232 := by
  rcases open_slice ht h with ⟨h1, _⟩ | ⟨a, len, cap, m, q, D, Pl, h1, _, _, _, _, hy, _⟩
  · rw [hcs] at h1
    simp at h1
    obtain ⟨_, rfl, _⟩ := h1
    rw [Nat.zero_mul]
    omega
  · rw [hcs] at h1
    simp at h1
    obtain ⟨_, rfl, _⟩ := h1
    rw [hy] at hw
    have := hw.len ht
    simpa using this
theorem trod_sl {t e : TypeId} {k : IntKind} {m : Nat} {cs : List Value} {y : DataW H × List MemPlace} (ht : P.underlying t = some (.slice e)) (he : P.underlying e = some (.int k)) (hc : P.cellsOf e = 1)
    (h : DataW.trod enc P W 0 (fun _ => true) true m t cs = some y) :
    ∃ A n c xs, cs = [.slice A n c] ∧ Sl W (fun _ => True) k A n xs ∧ n ≤ c ∧ c ≤ maxLen ∧ ∀ x ∈ xs, (Lit.int k x).wf = true := by
  rcases open_ints ht he hc h with ⟨hcs, hx⟩ | ⟨a, len, cap, zs, hcs, _, hl, hm, hz, hx, hcell, hwz⟩
  · exact ⟨none, 0, 0, [], hcs, Sl.nil _ _ _ _, Nat.le_refl _, Nat.zero_le _, by simp⟩
  · simp only [if_true] at hz
    refine ⟨some a, len, cap, zs.take len, hcs, ⟨by simp; omega, fun hn => ?_⟩, hl, hm, fun x hx => hwz x (List.mem_of_mem_take hx)⟩
    obtain ⟨ab, ao, spot⟩ := a
    have hspot : spot = none := by simpa [Addr.add] using World.cell?_spot (hcell 0 (by omega))
    subst hspot
    refine ⟨ab, ao, rfl, trivial, fun j u hu => ?_⟩
    obtain ⟨hj, hju⟩ := List.getElem?_eq_some_iff.1 hu
    simp only [List.length_map, List.length_take] at hj
    have hjz : j < zs.length := by omega
    have := hcell j hjz
    rw [plain_add] at this
    rw [this, ← hju]
    simp [List.getD, List.getElem?_eq_getElem hjz]

instance : Inhabited { k : Key // k.length ≤ 140737488351232 } := ⟨⟨[], Nat.zero_le _⟩⟩
/-- A slice of one-cell elements that read as keys. -/
theorem trod_keys {t e : TypeId} {m : Nat} {cs : List Value} {y : DataW H × List MemPlace} (ht : P.underlying t = some (.slice e)) (he : P.underlying e = some .string) (hc : P.cellsOf e = 1)
    (hw : Wt P t y.1) (h : DataW.trod enc P W 0 (fun _ => true) true m t cs = some y) :
    ∃ A n c l, cs = [.slice A n c] ∧ Kss W (fun _ => True) A n l ∧ n ≤ c ∧ c ≤ maxLen ∧ (∀ k ∈ l, k.length ≤ 140737488351232) ∧ n * P.bytesOf e ≤ 140737488351232 := by
  obtain ⟨A, n, c, av, e1, hr, h1, h2, h3⟩ := trod_ro (α := { k : Key // k.length ≤ 140737488351232 }) (E := fun cs a => cs = [kv a.1]) ht hc (by omega) (fun m cs y _ hw ht => by
    obtain ⟨s, e, ey, _⟩ := DataW.trod_string he ht
    rw [ey] at hw
    exact ⟨⟨s.data.toList, hw.str⟩, by rw [e, kv_data]⟩) hw h
  refine ⟨A, n, c, av.map (·.1), e1, ⟨by rw [List.length_map, List.length_map]; exact hr.len, fun hn => ?_⟩, h1, h2, fun k hk => ?_, h3⟩
  · obtain ⟨b, off, e, _, hj⟩ := hr.at_ hn
    refine ⟨b, off, e, trivial, fun j u hu => ?_⟩
    rw [List.getElem?_map, List.getElem?_map] at hu
    cases hx : av[j]? with
    | none => rw [hx] at hu; cases hu
    | some x =>
      rw [hx] at hu
      simp only [Option.map_some, Option.some.injEq] at hu
      subst hu
      obtain ⟨cs, _, rfl, hi⟩ := hj j x hx
      have := hi 0 _ rfl
      simpa using this
  · obtain ⟨a, _, rfl⟩ := List.mem_map.1 hk
    exact a.2

instance : Inhabited { d : Dc // DocOk d } := ⟨⟨([], []), Nat.zero_le _, Nat.zero_le _, by simp⟩⟩
instance : Inhabited { s : St // SetOk s } := ⟨⟨([], []), by simp, by simp⟩⟩
/-- What the types are. -/
structure DocT (P : Program) (t e ts tb tc : TypeId) (f0 f1 : Field) : Prop where
  ht : P.underlying t = some (.slice e)
  he : P.underlying e = some (.struct #[f0, f1])
  ce : P.cellsOf e = 2
  o0 : f0.offset = 0
  o1 : f1.offset = 1
  t0 : f0.type = ts
  t1 : f1.type = tb
  u0 : P.underlying ts = some .string
  u1 : P.underlying tb = some (.slice tc)
  u2 : P.underlying tc = some (.int .u8)
  c0 : P.cellsOf ts = 1
  c1 : P.cellsOf tb = 1
  c2 : P.cellsOf tc = 1
  b2 : P.bytesOf tc = 1
theorem trod_docs {t e t0 t1 tc : TypeId} {f0 f1 : Field} {m : Nat} {cs : List Value} {y : DataW H × List MemPlace} (T : DocT P t e t0 t1 tc f0 f1)
    (hw : Wt P t y.1) (h : DataW.trod enc P W 0 (fun _ => true) true m t cs = some y) :
    ∃ A n c ds, cs = [.slice A n c] ∧ Dcs W (fun _ => True) A n ds ∧ n ≤ c ∧ c ≤ maxLen ∧ (∀ d ∈ ds, DocOk d) ∧ n * P.bytesOf e ≤ 140737488351232 := by
  obtain ⟨A, n, c, av, e1, hr, h1, h2, h3⟩ := trod_ro (α := { d : Dc // DocOk d }) (E := fun cs a => DocE W (fun _ => True) cs a.1) T.ht T.ce (by omega) (fun m cs y hl hw ht => by
    obtain ⟨y0, y1, q, ey, _, k0, k1⟩ := trod_struct2 T.he ht
    rw [ey] at hw
    obtain ⟨hw0, hw1⟩ := hw.two T.he
    match cs, hl with
    | [v0, v1], _ =>
      simp [T.o0, T.o1, T.t0, T.t1, T.c0, T.c1] at k0 k1
      obtain ⟨s, e0, es, _⟩ := DataW.trod_string T.u0 k0
      rw [es] at hw0
      obtain ⟨A, n, c, xs, e1, hsl, g1, g2, g3⟩ := trod_sl T.u1 T.u2 T.c2 k1
      rw [T.t1] at hw1
      have hnl := trod_len T.u1 hw1 k1 e1
      rw [T.b2, Nat.mul_one] at hnl
      simp only [List.cons.injEq, and_true] at e0 e1
      obtain rfl := hsl.len
      exact ⟨⟨(s.data.toList, xs), hw0.str, hnl, byt_of_wf g3⟩, A, c, by rw [e0, e1, kv_data], hsl, g1, g2⟩) hw h
  refine ⟨A, n, c, av.map (·.1), e1, ⟨by rw [List.length_map]; exact hr.len, fun hn => ?_⟩, h1, h2, fun d hd => ?_, h3⟩
  · obtain ⟨b, off, e, _, hj⟩ := hr.at_ hn
    refine ⟨b, off, e, trivial, fun j a ha => ?_⟩
    rw [List.getElem?_map] at ha
    cases hx : av[j]? with
    | none => rw [hx] at ha; cases ha
    | some x =>
      rw [hx] at ha
      simp only [Option.map_some, Option.some.injEq] at ha
      subst ha
      exact hj j x hx
  · obtain ⟨a, _, rfl⟩ := List.mem_map.1 hd
    exact a.2
/-- .. of a set. -/
structure SetT (P : Program) (t tg tk : TypeId) (td e ts tb tc : TypeId) (f0 f1 g0 g1 : Field) : Prop where
  hd : DocT P td e ts tb tc f0 f1
  ht : P.underlying t = some (.struct #[g0, g1])
  ct : P.cellsOf t = 2
  o0 : g0.offset = 0
  o1 : g1.offset = 1
  t0 : g0.type = td
  t1 : g1.type = tg
  c0 : P.cellsOf td = 1
  c1 : P.cellsOf tg = 1
  ug : P.underlying tg = some (.slice tk)
  uk : P.underlying tk = some .string
  ck : P.cellsOf tk = 1
theorem trod_set {t tg tk td e t0 t1 tc : TypeId} {f0 f1 g0 g1 : Field} {m : Nat} {cs : List Value} {y : DataW H × List MemPlace} (T : SetT P t tg tk td e t0 t1 tc f0 f1 g0 g1) (hl : cs.length = 2)
    (hw : Wt P t y.1) (h : DataW.trod enc P W 0 (fun _ => true) true m t cs = some y) : ∃ s : St, SetE W (fun _ => True) cs s ∧ SetOk s := by
  obtain ⟨y0, y1, q, ey, _, k0, k1⟩ := trod_struct2 T.ht h
  rw [ey] at hw
  obtain ⟨hw0, hw1⟩ := hw.two T.ht
  rw [T.t0] at hw0
  rw [T.t1] at hw1
  match cs, hl with
  | [v0, v1], _ =>
    simp [T.o0, T.o1, T.t0, T.t1, T.c0, T.c1] at k0 k1
    obtain ⟨A, n, c, ds, e0, hd, h1, h2, h3, _⟩ := trod_docs T.hd hw0 k0
    obtain ⟨B, q, d, l, e1, hk, r1, r2, r3, _⟩ := trod_keys T.ug T.uk T.ck hw1 k1
    simp only [List.cons.injEq, and_true] at e0 e1
    obtain rfl := hd.len
    obtain rfl := hk.len
    exact ⟨(ds, l), ⟨A, c, B, d, by rw [e0, e1], hd, hk, h1, h2, r1, r2⟩, h3, r3⟩
theorem open_set {r : Reach} {base : Nat} {t tg tk td e t0 t1 tc : TypeId} {f0 f1 g0 g1 : Field} {v : Value} {d : DataW H} {p : List MemPlace} (T : SetT P t tg tk td e t0 t1 tc f0 f1 g0 g1)
    (hval : Value.okWide P W r base t v) (hw : Wt P t d) (h : DataW.Trod enc P W 0 (fun _ => true) true t v d p) : ∃ (s : St) (cs : List Value), v = .agg cs.toArray ∧ SetE W (fun _ => True) cs s ∧ SetOk s := by
  obtain ⟨cs, rfl, hsz⟩ := okWide_struct T.ht hval
  obtain ⟨fuel, hf⟩ := h
  obtain ⟨s, h1, h2⟩ := trod_set T (cs := cs.toList) (by rw [T.ct] at hsz; simpa using hsz) (y := (d, p)) hw (by simpa [Value.cells] using hf)
  exact ⟨s, cs.toList, by simp, h1, h2⟩
theorem open_sets {r : Reach} {base : Nat} {tl t tg tk td e t0 t1 tc : TypeId} {f0 f1 g0 g1 : Field} {v : Value} {d : DataW H} {p : List MemPlace} (T : SetT P t tg tk td e t0 t1 tc f0 f1 g0 g1) (hl : P.underlying tl = some (.slice t))
    (hval : Value.okWide P W r base tl v) (hw : Wt P tl d) (h : DataW.Trod enc P W 0 (fun _ => true) true tl v d p) :
    ∃ (A : Option Addr) (n c : Nat) (l : List St), v = .slice A n c ∧ Sts W (fun _ => True) A n l ∧ n ≤ c ∧ c ≤ maxLen ∧ (∀ s ∈ l, SetOk s) ∧ n * P.bytesOf t ≤ 140737488351232 := by
  obtain ⟨a1, len, cap, rfl⟩ := okWide_slice hl hval
  obtain ⟨fuel, hf⟩ := h
  obtain ⟨A, n, c, av, e1, hr, h1, h2, h3⟩ := trod_ro (y := (d, p)) (α := { s : St // SetOk s }) (E := fun cs a => SetE W (fun _ => True) cs a.1) hl T.ct (by omega) (fun m cs y hl hw ht => by
    obtain ⟨s, k1, k2⟩ := trod_set T hl hw ht
    exact ⟨⟨s, k2⟩, k1⟩) hw hf
  simp [Value.cells] at e1
  obtain ⟨rfl, rfl, rfl⟩ := e1
  refine ⟨_, _, _, av.map (·.1), rfl, ⟨by rw [List.length_map]; exact hr.len, fun hn => ?_⟩, h1, h2, fun d hd => ?_, h3⟩
  · obtain ⟨b, off, e, _, hj⟩ := hr.at_ hn
    refine ⟨b, off, e, trivial, fun j a ha => ?_⟩
    rw [List.getElem?_map] at ha
    cases hx : av[j]? with
    | none => rw [hx] at ha; cases ha
    | some x =>
      rw [hx] at ha
      simp only [Option.map_some, Option.some.injEq] at ha
      subst ha
      exact hj j x hx
  · obtain ⟨a, _, rfl⟩ := List.mem_map.1 hd
    exact a.2
end
end Go.Sg
