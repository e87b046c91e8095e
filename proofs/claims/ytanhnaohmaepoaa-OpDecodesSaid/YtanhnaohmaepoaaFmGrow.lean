/-
  Rows of the call's own that are appended to, whatever their elements: of one cell, or of several. Conditions: none.
-/
import Derived.Test.YtanhnaohmaepoaaFmFresh
import Derived.Maps.AppendAt
namespace Go.Proofs.Ytanhnaohmaepoaa
open Go.RowKit Go.Oct Go.Su

/-- A row of the call's own at wr, of n elements of s cells; the call began at w. -/
structure Gs (e : TypeId) (s : Nat) (w wr : World) (v : Value) (n : Nat) (us : List Value) : Prop where
  own : wr.ownsRow 0 e s v n us
  lies : ∀ g, v.ownBlock = some g → w.heap.size ≤ g
  ch : Ch (fun _ => False) w wr
section
variable {e : TypeId} {s n m : Nat} {w wr w2 wm : World} {v v' : Value} {us news : List Value}
theorem Gs.nil (e : TypeId) (s : Nat) (w : World) : Gs e s w w (.slice none 0 0) 0 [] := ⟨World.ownsRow_nil _ _ _ _, fun g hg => by simp [Value.ownBlock] at hg, Ch.refl _ _⟩
theorem Gs.nilAt (e : TypeId) (s : Nat) (hc : Ch (fun _ => False) w wr) : Gs e s w wr (.slice none 0 0) 0 [] := ⟨World.ownsRow_nil _ _ _ _, fun g hg => by simp [Value.ownBlock] at hg, hc⟩
theorem Gs.keep (h : Gs e s w wr v n us) (hc : Ch (fun _ => False) wr w2) : Gs e s w w2 v n us :=
  ⟨hc.own h.own (fun _ _ h => h), h.lies, h.ch.trans hc (fun _ _ h => h)⟩
theorem Gs.app (h : Gs e s w wr v n us) (hm : Ch (fun _ => False) wr wm) (ho : w2.ownsRow 0 e s v' (n + m) (us ++ news)) (hg : wm.grownBy w2 v.ownBlock) (hb : v'.ownBlock = v.ownBlock ∨ v'.ownBlock = some wm.heap.size) : Gs e s w w2 v' (n + m) (us ++ news) := by
  have hc := h.ch.trans hm (fun _ _ h => h)
  refine ⟨ho, fun g hgv => ?_, hc.grown hg (fun k hk => .inr (h.lies k hk))⟩
  rcases hb with hb | hb
  · exact h.lies g (hb ▸ hgv)
  · rw [hb] at hgv
    injection hgv with hgv
    have := hc.size
    omega
theorem Gs.shape (h : Gs e s w wr v n us) : ∃ A c, v = .slice A n c ∧ n ≤ c ∧ c ≤ maxLen := own_shape h.own
theorem Gs.vs {A : Option Addr} {c : Nat} (h : Gs e 1 w wr (.slice A n c) n us) : Vs wr (fun b => w.heap.size ≤ b) A n us :=
  (Vs.of_own h.own).mono (fun b _ hb => h.lies b hb)
end
theorem own_lt {w : World} {base s n : Nat} {e : TypeId} {v : Value} {us : List Value} (h : w.ownsRow base e s v n us) : ∀ g, v.ownBlock = some g → g < w.heap.size := fun g hg => (h.lt g hg).2
/-- What append asks of its types, elements of several cells. -/
structure ElemK (P : Program) (t e : TypeId) (z : Value) (size bytes : Nat) : Prop where
  t : P.underlying t = some (.slice e)
  info : (P.info? e).map (fun i => (i.zero, i.size, i.bytes)) = some (some z, size, bytes)
  z : z.cells.size = size
  pos : 0 < size
theorem infoK {P : Program} {e : TypeId} {z : Value} {size bytes : Nat} (h : (P.info? e).map (fun i => (i.zero, i.size, i.bytes)) = some (some z, size, bytes)) : ∃ i, P.info? e = some i ∧ i.zero = some z ∧ i.size = size ∧ i.bytes = bytes := by
  cases hi : P.info? e with
  | none => rw [hi] at h; cases h
  | some i =>
    rw [hi] at h
    simp only [Option.map_some, Option.some.injEq, Prod.mk.injEq] at h
    exact ⟨i, rfl, h.1, h.2.1, h.2.2⟩
section
variable {P : Program} {t e : TypeId} {z : Value} {size bytes : Nat}
/-- append of elements of several cells that lie in a block. -/
theorem wp_appK {w : World} {ops : Array Oper} {rest : List Oper} {o : Oper} {a : Act} {Q : Exit → Act → World → Prop} (hgd : o.guard = none) (s x : Operand) (T : ElemK P t e z size bytes)
    (ho : o.op = .call { callee := .builtin .append, args := #[s, x], argTypes := #[t, t] }) {v : Value} {n : Nat} {xs : List Value} (hs : a.eval s = v) (hown : w.ownsRow 0 e size v n xs)
    {ad : Addr} {m c : Nat} {news : List Value} (hx : a.eval x = .slice (some ad) m c) (hl : news.length = m * size) (hr : ∀ j u, news[j]? = some u → w.cell? (ad.add j) = some u) (h1 : ∀ u ∈ news, u.oneCell' = true) (hb : (n + m) * bytes ≤ 140737488355328) (h63 : n + m ≤ 140737488355328)
    (h : ∀ v' w', w'.ownsRow 0 e size v' (n + m) (xs ++ news) → w.grownBy w' v.ownBlock → (v'.ownBlock = v.ownBlock ∨ v'.ownBlock = some w.heap.size) → wpList P ops Q rest (a.put o.dst v') w') : wpList P ops Q (o :: rest) a w :=
  wpList_plain hgd fun _ hK => by
    obtain ⟨i, hi, hz, hsz, hby⟩ := infoK T.info
    obtain ⟨v', w', hrun, h2, h3, _, h5⟩ := run_append_own_at (P := P) w 0 t o.type e i z size bytes T.t hi hz hsz hby T.z T.pos v n xs hown ad m c news hl hr h1 (by unfold maxLen; omega) hb (Nat.zero_le _)
    unfold Oper.wp execOp
    simp only [ho, resolve, invoke, builtin, Sem.run_bind, Sem.run_pure, Result.andThen_ok, List.map_toArray, List.map_cons, List.map_nil, hs, hx, hrun]
    exact hK _ _ (h v' w' h2 h3 h5)
end
end Go.Proofs.Ytanhnaohmaepoaa
