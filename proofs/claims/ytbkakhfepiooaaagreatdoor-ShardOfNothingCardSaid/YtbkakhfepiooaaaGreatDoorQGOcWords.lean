/- Lemmas and contracts of this proof. Conditions: said at each. -/
import Derived.Test.YtbkakhfepiooaaaGreatDoorQGOcMath
import Derived.Laws.AppendOwnNone
import Derived.Deep.Draws
import Derived.Maps.AppendAt
import Derived.ProofKit
import Derived.OpenShut
import Derived.ChangeSlices
import Derived.Deep.Matrix
namespace Go.Oct
section
open Go.RowKit
/-- Of the blocks that were there only those in S may have turned. -/
structure Ch (S : Nat → Prop) (w w' : World) : Prop where
  os : w'.os = w.os
  tape : w'.tape = w.tape
  output : w'.output = w.output
  size : w.heap.size ≤ w'.heap.size
  block : ∀ k, k < w.heap.size → ¬ S k → w'.heap[k]? = w.heap[k]?
section
variable {S T : Nat → Prop} {w w' a b c : World}
theorem Ch.refl (S : Nat → Prop) (w : World) : Ch S w w := ⟨rfl, rfl, rfl, Nat.le_refl _, fun _ _ _ => rfl⟩
theorem Ch.trans (h : Ch S a b) (k : Ch T b c) (hT : ∀ i, i < a.heap.size → T i → S i) : Ch S a c :=
  ⟨k.os.trans h.os, k.tape.trans h.tape, k.output.trans h.output, Nat.le_trans h.size k.size, fun i hi hn => (k.block i (Nat.lt_of_lt_of_le hi h.size) (fun ht => hn (hT i hi ht))).trans (h.block i hi hn)⟩
theorem Ch.mono (h : Ch T a b) (hT : ∀ i, i < a.heap.size → T i → S i) : Ch S a b := (Ch.refl S a).trans h hT
theorem Ch.drewN (h : Ch S a w) (n : Nat) : Ch S a (w.drewN n) := ⟨h.os, h.tape, h.output, h.size, h.block⟩
theorem Ch.drew (h : Ch S a w) : Ch S a w.drew := ⟨h.os, h.tape, h.output, h.size, h.block⟩
theorem Ch.alloc (h : Ch S a w) (o : Obj) : Ch S a (w.alloc o) :=
  ⟨h.os, h.tape, h.output, Nat.le_trans h.size (by simp), fun i hi hn => (Below.heap_alloc w o i (Nat.lt_of_lt_of_le hi h.size)).trans (h.block i hi hn)⟩
theorem Ch.setCell (h : Ch S a w) {p : Addr} (hp : S p.block ∨ a.heap.size ≤ p.block) (u : Value) : Ch S a (w.setCell p u) :=
  ⟨h.os, h.tape, h.output, by simpa [World.setCell] using h.size, fun i hi hn => (Below.heap_setCell w p u i (by
    rintro rfl
    rcases hp with hp | hp
    · exact hn hp
    · omega)).trans (h.block i hi hn)⟩
theorem Ch.grown {row : Option Nat} (h : Ch S a w) (hg : w.grownBy w' row) (hr : ∀ k, row = some k → S k ∨ a.heap.size ≤ k) : Ch S a w' :=
  h.trans (T := fun k => row = some k) ⟨hg.os, hg.tape, hg.output, hg.size, fun k hk hn => hg.block k hk (fun e => hn e.symm)⟩ (fun i hi hT => by
    rcases hr i hT with h1 | h1
    · exact h1
    · omega)
theorem Ch.below (h : Ch S a b) {B : Nat} (hB : B ≤ a.heap.size) (hS : ∀ k, k < B → ¬ S k) : Below B a b := ⟨h.os, h.tape, h.output, h.size, fun k hk => h.block k (by omega) (hS k hk)⟩
theorem Ch.of_below {B : Nat} (h : Below B a b) (hS : ∀ k, B ≤ k → k < a.heap.size → S k) : Ch S a b :=
  ⟨h.os, h.tape, h.output, h.size, fun k hk hn => h.block k (by
    rcases Nat.lt_or_ge k B with h1 | h1
    · exact h1
    · exact absurd (hS k h1 hk) hn)⟩
theorem lt_of_cell {p : Addr} {u : Value} (h : w.cell? p = some u) : p.block < w.heap.size := World.block_lt_of_cell? w p h
theorem Ch.cell (h : Ch S a b) {p : Addr} {u : Value} (hp : ¬ S p.block) (hc : a.cell? p = some u) : b.cell? p = some u :=
  (World.cell?_of_block (w := a) (h.block p.block (lt_of_cell hc) hp)).trans hc
theorem Ch.frozen (h : Ch S a b) {p : Addr} (hp : ¬ S p.block) (hl : p.block < a.heap.size) : b.frozen? p = a.frozen? p := World.frozen?_of_block (w := a) (h.block p.block hl hp)
/-- An owned row outside S stays. -/
theorem Ch.own {base : Nat} {e : TypeId} {size n : Nat} {v : Value} {xs : List Value} (h : Ch S a b) (ho : a.ownsRow base e size v n xs) (hn : ∀ g, v.ownBlock = some g → ¬ S g) : b.ownsRow base e size v n xs := by
  refine ⟨ho.1, ?_⟩
  rcases ho.2 with h0 | ⟨g, cap, cur, rfl, hb, hg, rest⟩
  · exact .inl h0
  · exact .inr ⟨g, cap, cur, rfl, hb, by rw [h.block g (Array.getElem?_eq_some_iff.1 hg).1 (hn g rfl)]; exact hg, rest⟩
end
/-- An owned row is a slice of that length. -/
theorem own_shape {w : World} {base : Nat} {e : TypeId} {size n : Nat} {v : Value} {xs : List Value} (h : w.ownsRow base e size v n xs) : ∃ A c, v = .slice A n c ∧ n ≤ c ∧ c ≤ maxLen := by
  rcases h.2 with ⟨rfl, rfl⟩ | ⟨g, cap, cur, rfl, _, _, h1, h2, _⟩
  · exact ⟨_, _, rfl, Nat.le_refl _, Nat.zero_le _⟩
  · exact ⟨_, _, rfl, h1, h2⟩
/-- A slice '.slice A n _' that reads as the cells us, in blocks of F; nil and empty ones let in. -/
def Vs (w : World) (F : Nat → Prop) (A : Option Addr) (n : Nat) (us : List Value) : Prop :=
  us.length = n ∧ (0 < n → ∃ b off, A = some ⟨b, off, none⟩ ∧ F b ∧ ∀ j u, us[j]? = some u → w.cell? ⟨b, off + j, none⟩ = some u)
/-- .. as integers of a kind. -/
def Sl (w : World) (F : Nat → Prop) (K : IntKind) (A : Option Addr) (n : Nat) (xs : List Int) : Prop := Vs w F A n (xs.map (Value.int K))
section
variable {w w' : World} {F G S : Nat → Prop} {K : IntKind} {A : Option Addr} {n : Nat} {xs : List Int} {us : List Value}
theorem Vs.nil (w : World) (F : Nat → Prop) (A : Option Addr) : Vs w F A 0 [] := ⟨rfl, fun h => absurd h (by omega)⟩
theorem Vs.ch (h : Vs w F A n us) (hc : Ch S w w') (hF : ∀ b, F b → b < w.heap.size → ¬ S b) : Vs w' F A n us :=
  ⟨h.1, fun hn => by
    obtain ⟨b, off, e, hb, hj⟩ := h.2 hn
    exact ⟨b, off, e, hb, fun j u hu => hc.cell (hF b hb (lt_of_cell (hj j u hu))) (hj j u hu)⟩⟩
theorem Vs.at_ (h : Vs w F A n us) {k : Nat} (hk : k < n) : ∃ b off u, A = some ⟨b, off, none⟩ ∧ F b ∧ Hid (us[k]? = some u) ∧ w.cell? ⟨b, off + k, none⟩ = some u := by
  obtain ⟨b, off, e, hb, hj⟩ := h.2 (by omega)
  have hl : k < us.length := by have := h.1; omega
  exact ⟨b, off, us[k], e, hb, List.getElem?_eq_getElem hl, hj k _ (List.getElem?_eq_getElem hl)⟩
theorem Vs.lt (h : Vs w F A n us) (hn : 0 < n) : ∃ b off, A = some ⟨b, off, none⟩ ∧ F b ∧ b < w.heap.size := by
  obtain ⟨b, off, u, e, hb, _, hc⟩ := h.at_ hn
  exact ⟨b, off, e, hb, lt_of_cell hc⟩
theorem Vs.mono (h : Vs w F A n us) (hF : ∀ b, b < w.heap.size → F b → G b) : Vs w G A n us :=
  ⟨h.1, fun hn => by
    obtain ⟨b, off, e, hb, hlt⟩ := h.lt hn
    obtain ⟨b', off', e', hb', hj⟩ := h.2 hn
    exact ⟨b', off', e', hF b' (by rw [e] at e'; injection e' with e'; injection e' with e' _; omega) hb', hj⟩⟩
theorem Vs.of_own {base : Nat} {e : TypeId} {c : Nat} (h : w.ownsRow base e 1 (.slice A n c) n us) : Vs w (fun b => (Value.slice A n c).ownBlock = some b) A n us := by
  have h1 : us.length = n := by simpa using h.1
  refine ⟨h1, fun hn => ?_⟩
  rcases h.2 with ⟨_, h0⟩ | ⟨g, cap, cur, hv, hb, hg, _⟩
  · omega
  · injection hv with hA
    subst hA
    refine ⟨g, 0, rfl, rfl, fun j u hu => ?_⟩
    have := h.cells (g := g) rfl j u hu
    have hadd : (⟨g, 0, none⟩ : Addr).add j = ⟨g, 0 + j, none⟩ := by unfold Addr.add; split <;> simp_all
    rw [hadd] at this
    exact this
theorem Vs.drop {b off k : Nat} (h : Vs w F (some ⟨b, off, none⟩) n us) (hk : k ≤ n) : Vs w F (some ⟨b, off + k, none⟩) (n - k) (us.drop k) :=
  ⟨by rw [List.length_drop, h.1], fun hn => by
    obtain ⟨b', off', e, hb, hj⟩ := h.2 (by omega)
    injection e with e
    injection e with e1 e2
    subst e1 e2
    exact ⟨b, off + k, rfl, hb, fun j u hu => by
      rw [List.getElem?_drop] at hu
      rw [Nat.add_assoc]
      exact hj _ u hu⟩⟩
theorem Sl.drop {b off k : Nat} (h : Sl w F K (some ⟨b, off, none⟩) n xs) (hk : k ≤ n) : Sl w F K (some ⟨b, off + k, none⟩) (n - k) (xs.drop k) := by
  unfold Sl
  rw [List.map_drop]
  exact Vs.drop h hk
theorem Vs.take {k : Nat} (h : Vs w F A n us) (hk : k ≤ n) : Vs w F A k (us.take k) :=
  ⟨by rw [List.length_take, h.1]; omega, fun hn => by
    obtain ⟨b', off', e, hb, hj⟩ := h.2 (by omega)
    exact ⟨b', off', e, hb, fun j u hu => by
      rw [List.getElem?_take] at hu
      split at hu
      · exact hj _ u hu
      · cases hu⟩⟩
theorem Sl.take {k : Nat} (h : Sl w F K A n xs) (hk : k ≤ n) : Sl w F K A k (xs.take k) := by
  unfold Sl
  rw [List.map_take]
  exact Vs.take h hk
theorem Sl.nil (w : World) (F : Nat → Prop) (K : IntKind) (A : Option Addr) : Sl w F K A 0 [] := Vs.nil w F A
theorem Sl.len (h : Sl w F K A n xs) : xs.length = n := by simpa using h.1
theorem Sl.ch (h : Sl w F K A n xs) (hc : Ch S w w') (hF : ∀ b, F b → b < w.heap.size → ¬ S b) : Sl w' F K A n xs := Vs.ch h hc hF
theorem Sl.mono (h : Sl w F K A n xs) (hF : ∀ b, b < w.heap.size → F b → G b) : Sl w G K A n xs := Vs.mono h hF
theorem Sl.drew (h : Sl w F K A n xs) : Sl w.drew F K A n xs := h
theorem Sl.drewN (h : Sl w F K A n xs) (k : Nat) : Sl (w.drewN k) F K A n xs := h
theorem Sl.alloc (h : Sl w F K A n xs) (o : Obj) : Sl (w.alloc o) F K A n xs := h.ch ((Ch.refl (fun _ => False) w).alloc o) (fun _ _ _ h => h)
theorem Sl.at_ (h : Sl w F K A n xs) {k : Nat} (hk : k < n) : ∃ b off x, A = some ⟨b, off, none⟩ ∧ F b ∧ Hid (xs[k]? = some x) ∧ w.cell? ⟨b, off + k, none⟩ = some (.int K x) := by
  obtain ⟨b, off, u, e, hb, hu, hc⟩ := Vs.at_ h hk
  have hu := hu.out
  rw [List.getElem?_map] at hu
  cases hx : xs[k]? with
  | none => rw [hx] at hu; cases hu
  | some x =>
    rw [hx] at hu
    simp only [Option.map_some, Option.some.injEq] at hu
    subst hu
    exact ⟨b, off, x, e, hb, rfl, hc⟩
theorem Sl.of_own {base : Nat} {e : TypeId} {c : Nat} (h : w.ownsRow base e 1 (.slice A n c) n (xs.map (Value.int K))) : Sl w (fun b => (Value.slice A n c).ownBlock = some b) K A n xs := Vs.of_own h
end
/-- Slice values that read, each, as a list of bytes. -/
def Rows (w : World) (F : Nat → Prop) (us : List Value) (xss : List (List Int)) : Prop :=
  us.length = xss.length ∧ ∀ (i : Nat) (u : Value) (xs : List Int), us[i]? = some u → xss[i]? = some xs → ∃ (A : Option Addr) (c : Nat), u = Value.slice A xs.length c ∧ Sl w F .u8 A xs.length xs ∧ xs.length ≤ c ∧ c ≤ maxLen
/-- A slice of slices of bytes. -/
def Sls (w : World) (F : Nat → Prop) (A : Option Addr) (n : Nat) (xss : List (List Int)) : Prop := ∃ us, Vs w F A n us ∧ Rows w F us xss
section
variable {w w' : World} {F G S : Nat → Prop} {A : Option Addr} {n : Nat} {us : List Value} {xss : List (List Int)}
theorem Rows.ch (h : Rows w F us xss) (hc : Ch S w w') (hF : ∀ b, F b → b < w.heap.size → ¬ S b) : Rows w' F us xss :=
  ⟨h.1, fun i u xs hu hx => by
    obtain ⟨A, c, e, hs, h1, h2⟩ := h.2 i u xs hu hx
    exact ⟨A, c, e, hs.ch hc hF, h1, h2⟩⟩
theorem Rows.mono (h : Rows w F us xss) (hF : ∀ b, b < w.heap.size → F b → G b) : Rows w G us xss :=
  ⟨h.1, fun i u xs hu hx => by
    obtain ⟨A, c, e, hs, h1, h2⟩ := h.2 i u xs hu hx
    exact ⟨A, c, e, hs.mono hF, h1, h2⟩⟩
theorem Sls.ch (h : Sls w F A n xss) (hc : Ch S w w') (hF : ∀ b, F b → b < w.heap.size → ¬ S b) : Sls w' F A n xss := by
  obtain ⟨us, h1, h2⟩ := h
  exact ⟨us, h1.ch hc hF, h2.ch hc hF⟩
theorem Sls.mono (h : Sls w F A n xss) (hF : ∀ b, b < w.heap.size → F b → G b) : Sls w G A n xss := by
  obtain ⟨us, h1, h2⟩ := h
  exact ⟨us, h1.mono hF, h2.mono hF⟩
theorem Sls.len (h : Sls w F A n xss) : xss.length = n := by
  obtain ⟨us, h1, h2⟩ := h
  rw [← h2.1, h1.1]
theorem Sls.at_ (h : Sls w F A n xss) {k : Nat} (hk : k < n) : ∃ b off A' c xs, A = some ⟨b, off, none⟩ ∧ F b ∧ Hid (xss[k]? = some xs) ∧ w.cell? ⟨b, off + k, none⟩ = some (.slice A' xs.length c) ∧ Sl w F .u8 A' xs.length xs ∧ xs.length ≤ c ∧ c ≤ maxLen := by
  have hl := h.len
  obtain ⟨us, h1, h2⟩ := h
  obtain ⟨b, off, u, e, hb, hu, hc⟩ := h1.at_ hk
  obtain ⟨A', c, rfl, h3, h4, h5⟩ := h2.2 k u xss[k] hu.out (List.getElem?_eq_getElem (by omega))
  exact ⟨b, off, A', c, xss[k], e, hb, List.getElem?_eq_getElem (by omega), hc, h3, h4, h5⟩
end
/-- A slice of one row, laid for a call. -/
theorem Sls.one {w : World} {F G : Nat → Prop} {A : Option Addr} {c : Nat} {xs : List Int} (e : TypeId) (h : Sl w F .u8 A xs.length xs) (h1 : xs.length ≤ c) (h2 : c ≤ maxLen) (hG : ∀ b, b < w.heap.size → F b → G b) (hG0 : G w.heap.size) :
    Sls (w.alloc (.cells #[.slice A xs.length c] e)) G (some ⟨w.heap.size, 0, none⟩) 1 [xs] := by
  refine ⟨[.slice A xs.length c], ⟨rfl, fun _ => ⟨w.heap.size, 0, rfl, hG0, fun j v hv => ?_⟩⟩, rfl, fun i u ys hu hy => ?_⟩
  · match j, hv with
    | 0, hv =>
      simp at hv
      subst hv
      rw [World.cell?_alloc_at _ _ _ _ rfl]
      rfl
  · match i, hu, hy with
    | 0, hu, hy =>
      simp at hu hy
      subst hu hy
      exact ⟨A, c, rfl, Vs.ch (Vs.mono h fun b hb hf => hG b hb hf) ((Ch.refl (fun _ => False) w).alloc _) (fun _ _ _ h => h), h1, h2⟩
/-- What append asks of its types. -/
structure Elem (P : Program) (t e : TypeId) (z : Value) (bytes : Nat) : Prop where
  t : P.underlying t = some (.slice e)
  info : (P.info? e).map (fun i => (i.zero, i.size, i.bytes)) = some (some z, 1, bytes)
  z : z.cells.size = 1
section
variable {P : Program} {t e : TypeId} {z : Value} {bytes : Nat} {F : Nat → Prop}
/-- append onto a row of the call's own, whatever the source. -/
theorem run_app (w : World) (ty : TypeId) (T : Elem P t e z bytes) {v : Value} {n : Nat} {xs : List Value} (hown : w.ownsRow 0 e 1 v n xs)
    {A : Option Addr} {m c : Nat} {news : List Value} (hr : Vs w F A m news) (h1 : ∀ u ∈ news, u.oneCell' = true) (hb : (n + m) * bytes ≤ 140737488355328) (h63 : n + m ≤ 140737488355328) :
    ∃ v' w', (Builtin.append_ #[t, t] ty #[v, .slice A m c]).run P w = .ok v' w' ∧ w'.ownsRow 0 e 1 v' (n + m) (xs ++ news) ∧ w.grownBy w' v.ownBlock ∧
      (v'.ownBlock = v.ownBlock ∨ v'.ownBlock = some w.heap.size) := by
  obtain ⟨i, hi, hz, hs, hby⟩ := info_parts T.info
  rcases A with _ | ad
  · have hm : m = 0 := by
      rcases Nat.eq_zero_or_pos m with h0 | h0
      · exact h0
      · obtain ⟨_, _, e, _⟩ := hr.2 h0
        cases e
    subst hm
    obtain rfl : news = [] := List.eq_nil_of_length_eq_zero hr.1
    refine ⟨v, w, ?_, by simpa using hown, ⟨rfl, rfl, rfl, Nat.le_refl _, fun _ _ _ => rfl⟩, .inl rfl⟩
    rcases hown.2 with ⟨rfl, rfl⟩ | ⟨g, cap, cur, rfl, _, _, hnc, _⟩
    · simp [Builtin.append_, run_underlying T.t, sizeOf, typeInfo, hi, Builtin.lenOf, Builtin.firstCells]
    · simp [Builtin.append_, run_underlying T.t, sizeOf, typeInfo, hi, Builtin.lenOf, Builtin.firstCells, hnc, storeCells]
  · have hcells : ∀ j u, news[j]? = some u → w.cell? (ad.add j) = some u := by
      intro j u hu
      rcases Nat.eq_zero_or_pos m with h0 | h0
      · have hl := hr.1
        obtain ⟨hj, _⟩ := List.getElem?_eq_some_iff.1 hu
        omega
      · obtain ⟨b, off, h, _, hc⟩ := hr.2 h0
        injection h with h
        subst h
        have hadd : (⟨b, off, none⟩ : Addr).add j = ⟨b, off + j, none⟩ := by unfold Addr.add; split <;> simp_all
        rw [hadd]
        exact hc j u hu
    obtain ⟨v', w', hrun, h2, h3, _, h5⟩ := run_append_own_at (P := P) w 0 t ty e i z 1 bytes T.t hi hz hs hby T.z (by omega) v n xs hown ad m c news (by rw [hr.1]; omega) hcells h1 (by unfold maxLen; omega) hb (Nat.zero_le _)
    exact ⟨v', w', hrun, h2, h3, h5⟩
theorem wp_app {w : World} {ops : Array Oper} {rest : List Oper} {o : Oper} {a : Act} {Q : Exit → Act → World → Prop} (hgd : o.guard = none) (s x : Operand) (T : Elem P t e z bytes)
    (ho : o.op = .call { callee := .builtin .append, args := #[s, x], argTypes := #[t, t] }) {v : Value} {n : Nat} {xs : List Value} (hs : a.eval s = v) (hown : w.ownsRow 0 e 1 v n xs)
    {A : Option Addr} {m c : Nat} {news : List Value} (hx : a.eval x = .slice A m c) (hr : Vs w F A m news) (h1 : ∀ u ∈ news, u.oneCell' = true) (hb : (n + m) * bytes ≤ 140737488355328) (h63 : n + m ≤ 140737488355328)
    (h : ∀ v' w', w'.ownsRow 0 e 1 v' (n + m) (xs ++ news) → w.grownBy w' v.ownBlock → (v'.ownBlock = v.ownBlock ∨ v'.ownBlock = some w.heap.size) → wpList P ops Q rest (a.put o.dst v') w') : wpList P ops Q (o :: rest) a w :=
  wpList_plain hgd fun _ hK => by
    obtain ⟨v', w', hrun, h2, h3, h4⟩ := run_app (P := P) w o.type T hown (c := c) hr h1 hb h63
    unfold Oper.wp execOp
    simp only [ho, resolve, invoke, builtin, Sem.run_bind, Sem.run_pure, Result.andThen_ok, List.map_toArray, List.map_cons, List.map_nil, hs, hx, hrun]
    exact hK _ _ (h v' w' h2 h3 h4)
/-- make of length 0 and a capacity. -/
theorem run_mk (T : Elem P t e z bytes) (L : Nat) (hb : bytes * L ≤ 281474976710656) (h63 : L ≤ 281474976710656) (w : World) :
    (Instr.makeSlice t (.int .i64 0) (.int .i64 (L : Int))).run P w = .ok (.slice (some ⟨w.heap.size, 0, none⟩) 0 L) (w.alloc (.cells (madeCells z.cells L) e)) := by
  obtain ⟨i, hi, hz, hs, hby⟩ := info_parts T.info
  have hb' : (i.bytes : Int) * (L : Int) ≤ 281474976710656 := by
    rw [hby]
    have h : ((bytes * L : Nat) : Int) ≤ 281474976710656 := by omega
    rwa [Int.natCast_mul] at h
  have hr := run_make (P := P) w t e i z T.t hi hz .i64 .i64 0 L (by omega) (by omega) hb' (by omega)
  simp only [Int.toNat_natCast, hs, Nat.mul_one, Int.toNat_zero] at hr
  exact hr
/-- A slice that is built of its elements. -/
theorem Vs.built (w : World) (e : TypeId) (us : List Value) (fr : Nat × Nat := (0, 0)) : Vs (w.alloc (.cells us.toArray e fr)) (fun b => b = w.heap.size) (some ⟨w.heap.size, 0, none⟩) us.length us :=
  ⟨rfl, fun _ => ⟨w.heap.size, 0, rfl, rfl, fun j v hv => by
    have h : (w.alloc (.cells us.toArray e fr)).heap[w.heap.size]? = some (.cells us.toArray e fr) := heap_alloc_new w _
    unfold World.cell?
    rw [h]
    simpa using hv⟩⟩
theorem Rows.nil_ (w : World) (F : Nat → Prop) : Rows w F [] [] := ⟨rfl, fun i u xs hu _ => by simp at hu⟩
theorem Rows.cons_ {w : World} {F : Nat → Prop} {A : Option Addr} {c : Nat} {xs : List Int} {us : List Value} {xss : List (List Int)} (h : Sl w F .u8 A xs.length xs) (h1 : xs.length ≤ c) (h2 : c ≤ maxLen) (h3 : Rows w F us xss) :
    Rows w F (.slice A xs.length c :: us) (xs :: xss) :=
  ⟨by simp [h3.1], fun i u ys hu hy => by
    match i, hu, hy with
    | 0, hu, hy =>
      simp at hu hy
      subst hu hy
      exact ⟨A, c, rfl, h, h1, h2⟩
    | i + 1, hu, hy => exact h3.2 i u ys (by simpa using hu) (by simpa using hy)⟩
theorem Rows.app {w : World} {F : Nat → Prop} {us vs : List Value} {xss yss : List (List Int)} (h : Rows w F us xss) (k : Rows w F vs yss) : Rows w F (us ++ vs) (xss ++ yss) :=
  ⟨by simp [h.1, k.1], fun i u xs hu hx => by
    rcases Nat.lt_or_ge i us.length with hi | hi
    · rw [List.getElem?_append_left hi] at hu
      rw [List.getElem?_append_left (by rw [← h.1]; exact hi)] at hx
      exact h.2 i u xs hu hx
    · rw [List.getElem?_append_right hi] at hu
      rw [List.getElem?_append_right (by rw [← h.1]; exact hi), ← h.1] at hx
      exact k.2 _ u xs hu hx⟩
theorem Sls.lt {w : World} {F : Nat → Prop} {A : Option Addr} {n : Nat} {xss : List (List Int)} (h : Sls w F A n xss) : Sls w (fun b => b < w.heap.size) A n xss := h.mono fun _ h _ => h
/-- .. two rows, laid for a call. -/
theorem Sls.two {w : World} {F G : Nat → Prop} {A B : Option Addr} {c d : Nat} {xs ys : List Int} (e : TypeId) (h : Sl w F .u8 A xs.length xs) (h1 : xs.length ≤ c) (h2 : c ≤ maxLen) (k : Sl w F .u8 B ys.length ys) (k1 : ys.length ≤ d) (k2 : d ≤ maxLen)
    (hG : ∀ b, b < w.heap.size → F b → G b) (hG0 : G w.heap.size) :
    Sls (w.alloc (.cells #[.slice A xs.length c, .slice B ys.length d] e)) G (some ⟨w.heap.size, 0, none⟩) 2 [xs, ys] :=
  ⟨[.slice A xs.length c, .slice B ys.length d], (Vs.built w e [.slice A xs.length c, .slice B ys.length d]).mono fun b _ hb => by subst hb; exact hG0,
    Rows.cons_ (Sl.alloc (h.mono hG) _) h1 h2 (Rows.cons_ (Sl.alloc (k.mono hG) _) k1 k2 (Rows.nil_ _ _))⟩
/-- .. of bytes: one more. -/
theorem Vs.one (w : World) (e : TypeId) (u : Value) : Vs (w.alloc (.cells #[u] e)) (fun b => b = w.heap.size) (some ⟨w.heap.size, 0, none⟩) 1 [u] :=
  ⟨rfl, fun _ => ⟨w.heap.size, 0, rfl, rfl, fun j v hv => by
    match j, hv with
    | 0, hv =>
      simp at hv
      subst hv
      rw [World.cell?_alloc_at _ _ _ _ rfl]
      rfl⟩⟩
theorem ints_cells (K : IntKind) (xs : List Int) : ∀ u ∈ xs.map (Value.int K), u.oneCell' = true := by
  intro u hu
  obtain ⟨x, _, rfl⟩ := List.mem_map.1 hu
  rfl
end
end
section
open Go.ChangeShapes Go.WideShapes Go.ChangeAt Go.WideMaps Go.WideElems Go.RowKit Go.Deep
section
variable {H : Type} {enc : TypeId × Value → H} {P : Program}
theorem plain_add (b off j : Nat) : (⟨b, off, none⟩ : Addr).add j = ⟨b, off + j, none⟩ := by unfold Addr.add; split <;> simp_all
theorem open_sl {W : World} {r : Reach} {base : Nat} {t e : TypeId} {k : IntKind} {v : Value} {d : DataW H} {p : List MemPlace} (ht : P.underlying t = some (.slice e)) (he : P.underlying e = some (.int k)) (hc : P.cellsOf e = 1)
    (hval : Value.okWide P W r base t v) (h : DataW.Trod enc P W 0 (fun _ => true) true t v d p) :
    ∃ A n c xs, v = Value.slice A n c ∧ Sl W (fun _ => True) k A n xs ∧ n ≤ c ∧ c ≤ maxLen ∧ ∀ x ∈ xs, (Lit.int k x).wf = true := by
  obtain ⟨a1, len, cap, rfl⟩ := okWide_slice ht hval
  obtain ⟨fuel, hf⟩ := h
  rcases open_ints ht he hc hf with ⟨hcs, hx⟩ | ⟨a, len', cap', zs, hcs, _, hl, hm, hz, hx, hcell, hwz⟩
  · simp [Value.cells] at hcs
    obtain ⟨rfl, rfl, rfl⟩ := hcs
    exact ⟨none, 0, 0, [], rfl, Sl.nil _ _ _ _, Nat.le_refl _, Nat.zero_le _, by simp⟩
  · simp [Value.cells] at hcs
    obtain ⟨rfl, rfl, rfl⟩ := hcs
    simp only [if_true] at hz
    refine ⟨some a, len, cap, zs.take len, rfl, ⟨by simp; omega, fun hn => ?_⟩, hl, hm, fun x hx => hwz x (List.mem_of_mem_take hx)⟩
    obtain ⟨ab, ao, spot⟩ := a
    have hspot : spot = none := by simpa [Addr.add] using World.cell?_spot (hcell 0 (by omega))
    subst hspot
    refine ⟨ab, ao, rfl, trivial, fun j u hu => ?_⟩
    obtain ⟨hj, hju⟩ := List.getElem?_eq_some_iff.1 hu
    simp only [List.length_map, List.length_take] at hj
    have hjz : j < zs.length := by omega
    have := hcell j hjz
    rw [plain_add] at this
    rw [this, ← hju]
    simp [List.getD, List.getElem?_eq_getElem hjz]
theorem byt_of_wf {xs : List Int} (h : ∀ x ∈ xs, (Lit.int .u8 x).wf = true) : Byt xs := fun x hx => by
  have := h x hx
  simp [Lit.wf, IntKind.min, IntKind.max, IntKind.signed, IntKind.bits] at this
  omega
theorem open_sls {W : World} {r : Reach} {base : Nat} {t e q : TypeId} {v : Value} {d : DataW H} {p : List MemPlace} (ht : P.underlying t = some (.slice e)) (he : P.underlying e = some (.slice q)) (hq : P.underlying q = some (.int .u8))
    (ce : P.cellsOf e = 1) (cq : P.cellsOf q = 1) (hval : Value.okWide P W r base t v) (h : DataW.Trod enc P W 0 (fun _ => true) true t v d p) :
    ∃ A n c xss, v = Value.slice A n c ∧ Sls W (fun _ => True) A n xss ∧ n ≤ c ∧ c ≤ maxLen ∧ ∀ xs ∈ xss, Byt xs := by
  obtain ⟨a1, len, cap, rfl⟩ := okWide_slice ht hval
  obtain ⟨fuel, hf⟩ := h
  rcases open_int_rows ht he hq ce cq hf with ⟨hcs, hx⟩ | ⟨a, len', cap', A, L, C, Z, hcs, _, hl, hm, hx, hrows⟩
  · simp [Value.cells] at hcs
    obtain ⟨rfl, rfl, rfl⟩ := hcs
    exact ⟨none, 0, 0, [], rfl, ⟨[], Vs.nil _ _ _, Rows.nil_ _ _⟩, Nat.le_refl _, Nat.zero_le _, by simp⟩
  · simp [Value.cells] at hcs
    obtain ⟨rfl, rfl, rfl⟩ := hcs
    refine ⟨some a, len, cap, (List.range len).map fun r => (Z r).take (L r), rfl, ⟨(List.range len).map fun r => Value.slice (A r) (L r) (C r), ⟨by simp, fun hn => ?_⟩, by simp, fun i u xs hu hxs => ?_⟩, hl, hm, fun xs hxs => ?_⟩
    · obtain ⟨ab, ao, spot⟩ := a
      have hspot : spot = none := by simpa [Addr.add] using World.cell?_spot (hrows 0 (by omega)).1
      subst hspot
      refine ⟨ab, ao, rfl, trivial, fun j u hu => ?_⟩
      obtain ⟨hj, hju⟩ := List.getElem?_eq_some_iff.1 hu
      simp only [List.length_map, List.length_range] at hj
      have := (hrows j (by omega)).1
      rw [plain_add] at this
      rw [this, ← hju]
      simp
    · obtain ⟨hi, hiu⟩ := List.getElem?_eq_some_iff.1 hu
      simp only [List.length_map, List.length_range] at hi
      obtain ⟨_, h1, h2, h3, h4, h5, h6⟩ := hrows i (by omega)
      have eu : u = .slice (A i) (L i) (C i) := by rw [← hiu]; simp
      have ex : xs = (Z i).take (L i) := by
        obtain ⟨hi2, hix⟩ := List.getElem?_eq_some_iff.1 hxs
        rw [← hix]
        simp
      have el : xs.length = L i := by rw [ex, List.length_take]; omega
      refine ⟨A i, C i, by rw [eu, el], ⟨by simp, fun hn => ?_⟩, by omega, h2⟩
      cases hA : A i with
      | none => have := h5 hA; omega
      | some a' =>
        obtain ⟨_, hcell⟩ := h6 a' hA
        obtain ⟨ab, ao, spot⟩ := a'
        have hspot : spot = none := by simpa [Addr.add] using World.cell?_spot (hcell 0 (by omega))
        subst hspot
        refine ⟨ab, ao, rfl, trivial, fun j u' hu' => ?_⟩
        obtain ⟨hj, hju⟩ := List.getElem?_eq_some_iff.1 hu'
        simp only [List.length_map] at hj
        have hjz : j < (Z i).length := by omega
        have := hcell j (by omega)
        rw [plain_add] at this
        rw [this, ← hju]
        simp [ex, List.getD, List.getElem?_eq_getElem hjz]
    · obtain ⟨i, hi, rfl⟩ := List.mem_map.1 hxs
      have hi' := List.mem_range.1 hi
      obtain ⟨_, _, _, _, h4, _⟩ := hrows i (by omega)
      exact byt_of_wf fun x hx => h4 x (List.mem_of_mem_take hx)
end
end
end Go.Oct
