/-
  Documents that are gathered, each text a row of its own; texts under way to be spoilt. Conditions: none; plain lemmas.
-/
import Derived.Test.YtpilekadcondnaaMtFind
import Derived.Test.YtpilekadcondnaaMmTab
namespace Go.Proofs.Ytpilekadcondnaa
open Go.RowKit Go.Oct Go.Su Go.Sg

theorem elemDt : ElemK Try.prog 26 34 (.agg #[.string ByteArray.empty, .slice none 0 0]) 2 40 := ⟨Try.underlying26, by kernel_rfl, rfl, by decide⟩
/-- The cells of a row of documents. -/
def dcV : List Key → List Value → List Value
  | k :: l, u :: us => kv k :: u :: dcV l us
  | _, _ => []
theorem dcV_snoc : ∀ (l : List Key) (us : List Value) (k : Key) (u : Value), l.length = us.length → dcV (l ++ [k]) (us ++ [u]) = dcV l us ++ [kv k, u]
  | [], [], _, _, _ => rfl
  | [], _ :: _, _, _, h => by simp at h
  | _ :: _, [], _, _, h => by simp at h
  | a :: l, v :: us, k, u, h => by
    simp only [List.cons_append, dcV]
    rw [dcV_snoc l us k u (by simpa using h)]
theorem dcV_at : ∀ (l : List Key) (us : List Value) (j : Nat) (k : Key) (u : Value), l[j]? = some k → us[j]? = some u → (dcV l us)[j * 2]? = some (kv k) ∧ (dcV l us)[j * 2 + 1]? = some u
  | [], _, _, _, _, h, _ => by simp at h
  | _ :: _, [], _, _, _, _, h => by simp at h
  | a :: l, v :: us, 0, k, u, h1, h2 => by
    simp at h1 h2
    subst h1 h2
    exact ⟨rfl, rfl⟩
  | a :: l, v :: us, j + 1, k, u, h1, h2 => by
    have := dcV_at l us j k u (by simpa using h1) (by simpa using h2)
    rw [show (j + 1) * 2 = j * 2 + 2 by omega]
    exact this
theorem own_shape' {w : World} {base s n : Nat} {e : TypeId} {v : Value} {xs : List Value} (h : w.ownsRow base e s v n xs) : ∃ A c, v = .slice A n c ∧ n ≤ c ∧ c ≤ maxLen := by
  rcases h.2 with ⟨rfl, rfl⟩ | ⟨g, cap, cur, rfl, _, _, h1, h2, _⟩
  · exact ⟨_, _, rfl, Nat.le_refl _, Nat.zero_le _⟩
  · exact ⟨_, _, rfl, h1, h2⟩
theorem dcV_len2 : ∀ (l : List Key) (us : List Value), l.length = us.length → (dcV l us).length = l.length * 2
  | [], us, _ => by cases us <;> rfl
  | _ :: _, [], h => by simp at h
  | a :: l, u :: us, h => by
    simp only [dcV, List.length_cons]
    rw [dcV_len2 l us (by simpa using h)]
    omega
/-- Documents that are gathered, each text a row of its own. -/
structure Cd (w wr : World) (v : Value) (q : Nat) (docs : List Dc) (vs : List Value) : Prop where
  dg : Gs 34 2 w wr v q (dcV (ks docs) vs)
  kl : docs.length = vs.length
  rows : ∀ (i : Nat) (u : Value) (d : Dc), vs[i]? = some u → docs[i]? = some d → wr.ownsRow 0 5 1 u d.2.length (d.2.map (Value.int .u8)) ∧ ∀ g, u.ownBlock = some g → w.heap.size ≤ g ∧ v.ownBlock ≠ some g
  apart : ∀ (i j : Nat) (x y : Value) (g : Nat), vs[i]? = some x → vs[j]? = some y → x.ownBlock = some g → y.ownBlock = some g → i = j
theorem Cd.start (w : World) : Cd w w (.slice none 0 0) 0 [] [] := ⟨Gs.nil _ _ _, rfl, fun i u d h => by simp at h, fun i j x y g h => by simp at h⟩
section
variable {w wr w5 w7 : World} {q : Nat} {v v' u : Value} {docs : List Dc} {vs : List Value}
theorem Cd.len (h : Cd w wr v q docs vs) : q = docs.length := by
  have e1 := h.dg.own.1
  rw [dcV_len2 _ _ (by rw [ks_len, h.kl]), ks_len] at e1
  omega
theorem Cd.add (h : Cd w wr v q docs vs) {d : Dc} (hf : Fresh wr u d.2 w5) {o : Obj} (ho : w7.ownsRow 0 34 2 v' (q + 1) (dcV (ks docs) vs ++ [kv d.1, u])) (hg : (w5.alloc o).grownBy w7 v.ownBlock) (hb : v'.ownBlock = v.ownBlock ∨ v'.ownBlock = some (w5.alloc o).heap.size) : Cd w w7 v' (q + 1) (docs ++ [d]) (vs ++ [u]) := by
  obtain ⟨hG, hkl, h3, h4⟩ := h
  have hvl : ∀ g, v.ownBlock = some g → g < wr.heap.size := own_lt hG.own
  have hsz := hf.2.2.size
  have hsz2 := hG.ch.size
  have hso := World.size_alloc w5 o
  have hC : Ch (fun b => v.ownBlock = some b) w5 w7 := ((Ch.refl (fun b => v.ownBlock = some b) w5).alloc o).grown hg (fun j hj => .inl hj)
  have hCt : Ch (fun b => v.ownBlock = some b) wr w7 := (hf.2.2.mono (fun _ _ h => h.elim)).trans hC (fun _ _ h => h)
  have hlu : ∀ g, u.ownBlock = some g → wr.heap.size ≤ g ∧ g < w5.heap.size := fun g hgu => ⟨hf.2.1 g hgu, own_lt hf.1 g hgu⟩
  have hnew : ∀ g, g < w5.heap.size → v.ownBlock ≠ some g → v'.ownBlock ≠ some g := fun g hgl hgv e => by
    rcases hb with hb | hb
    · exact hgv (hb ▸ e)
    · rw [hb] at e
      injection e with e
      omega
  refine ⟨?_, by simp [hkl], fun i x t hx ht => ?_, fun i j x y g hx hy gx gy => ?_⟩
  · rw [ks_app, show ks [d] = [d.1] from rfl, dcV_snoc _ _ _ _ (by rw [ks_len, hkl])]
    exact hG.app (hf.2.2.alloc o) ho hg hb
  · rcases Nat.lt_or_ge i vs.length with hi | hi
    · rw [List.getElem?_append_left hi] at hx
      rw [List.getElem?_append_left (by omega)] at ht
      obtain ⟨k1, k2⟩ := h3 i x t hx ht
      exact ⟨hCt.own k1 (fun g hg2 e => (k2 g hg2).2 e), fun g hg2 => ⟨(k2 g hg2).1, hnew g (by have := own_lt k1 g hg2; omega) (k2 g hg2).2⟩⟩
    · rw [List.getElem?_append_right hi] at hx
      rw [List.getElem?_append_right (by omega)] at ht
      have e1 : i - vs.length = 0 := by
        rcases Nat.eq_zero_or_pos (i - vs.length) with e | e
        · exact e
        · rw [List.getElem?_eq_none (by simp; omega)] at hx
          cases hx
      rw [e1] at hx
      rw [show i - docs.length = 0 by omega] at ht
      obtain rfl : u = x := by simpa using hx
      obtain rfl : d = t := by simpa using ht
      refine ⟨hC.own hf.1 (fun g hg2 e => by have := hvl g e; have := (hlu g hg2).1; omega), fun g hg2 => ⟨by have := (hlu g hg2).1; omega, hnew g (hlu g hg2).2 (fun e => by have := hvl g e; have := (hlu g hg2).1; omega)⟩⟩
  · rcases Nat.lt_or_ge i vs.length with hi | hi <;> rcases Nat.lt_or_ge j vs.length with hj | hj
    · rw [List.getElem?_append_left hi] at hx
      rw [List.getElem?_append_left hj] at hy
      exact h4 i j x y g hx hy gx gy
    · rw [List.getElem?_append_left hi] at hx
      rw [List.getElem?_append_right hj] at hy
      have hd : docs[i]? = some (docs[i]'(by omega)) := List.getElem?_eq_getElem _
      obtain ⟨k1, _⟩ := h3 i x _ hx hd
      have h5 := own_lt k1 g gx
      have e1 : j - vs.length = 0 := by
        rcases Nat.eq_zero_or_pos (j - vs.length) with e | e
        · exact e
        · rw [List.getElem?_eq_none (by simp; omega)] at hy
          cases hy
      rw [e1] at hy
      obtain rfl : u = y := by simpa using hy
      have := (hlu g gy).1
      omega
    · rw [List.getElem?_append_right hi] at hx
      rw [List.getElem?_append_left hj] at hy
      have hd : docs[j]? = some (docs[j]'(by omega)) := List.getElem?_eq_getElem _
      obtain ⟨k1, _⟩ := h3 j y _ hy hd
      have h5 := own_lt k1 g gy
      have e1 : i - vs.length = 0 := by
        rcases Nat.eq_zero_or_pos (i - vs.length) with e | e
        · exact e
        · rw [List.getElem?_eq_none (by simp; omega)] at hx
          cases hx
      rw [e1] at hx
      obtain rfl : u = x := by simpa using hx
      have := (hlu g gx).1
      omega
    · have e1 : i - vs.length = 0 := by
        rcases Nat.eq_zero_or_pos (i - vs.length) with e | e
        · exact e
        · rw [List.getElem?_append_right hi, List.getElem?_eq_none (by simp; omega)] at hx
          cases hx
      have e2 : j - vs.length = 0 := by
        rcases Nat.eq_zero_or_pos (j - vs.length) with e | e
        · exact e
        · rw [List.getElem?_append_right hj, List.getElem?_eq_none (by simp; omega)] at hy
          cases hy
      omega
/-- Documents of a row of the call's own. -/
theorem dcs_from {F : Nat → Prop} {A : Option Addr} {n c : Nat} (how : wr.ownsRow 0 34 2 (.slice A n c) n (dcV (ks docs) vs)) (hR : Oct.Rows wr F vs (ts docs)) (hkl : docs.length = vs.length) (hA : ∀ g, (Value.slice A n c).ownBlock = some g → F g) : Dcs wr F A n docs := by
  have hl : docs.length = n := by
    have e1 := how.1
    rw [dcV_len2 _ _ (by rw [ks_len, hkl]), ks_len] at e1
    omega
  refine ⟨hl, fun hn => ?_⟩
  rcases how.2 with ⟨_, h0⟩ | ⟨g, cap, cur, hv, _, _, _⟩
  · omega
  · injection hv with hA2
    subst hA2
    refine ⟨g, 0, rfl, hA g rfl, fun i d hd => ?_⟩
    obtain ⟨hi, _⟩ := List.getElem?_eq_some_iff.1 hd
    have hki : (ks docs)[i]? = some d.1 := by unfold Go.Sg.ks; rw [List.getElem?_map, hd]; rfl
    have hyi : (ts docs)[i]? = some d.2 := by unfold ts; rw [List.getElem?_map, hd]; rfl
    have hvi : i < vs.length := by rw [← hkl]; exact hi
    obtain ⟨B, cB, eu, hsl, q1, q2⟩ := hR.2 i _ _ (List.getElem?_eq_getElem hvi) hyi
    obtain ⟨c1, c2⟩ := dcV_at (ks docs) vs i d.1 _ hki (List.getElem?_eq_getElem hvi)
    rw [eu] at c2
    have k1 := how.cellAt (i * 2) (by omega)
    have k2 := how.cellAt (i * 2 + 1) (by omega)
    rw [c1] at k1
    rw [c2] at k2
    refine ⟨[kv d.1, .slice B d.2.length cB], rfl, ⟨B, cB, rfl, hsl, q1, q2⟩, fun z u hu => ?_⟩
    rw [Nat.zero_add]
    match z, hu with
    | 0, hu => simp at hu; subst hu; exact k1
    | 1, hu => simp at hu; subst hu; exact k2
theorem Cd.rws (h : Cd w wr v q docs vs) : Oct.Rows wr (fun b => w.heap.size ≤ b) vs (ts docs) := by
  refine ⟨by rw [ts_len]; exact h.kl.symm, fun i u t hu ht => ?_⟩
  unfold ts at ht
  rw [List.getElem?_map] at ht
  cases hd : docs[i]? with
  | none => rw [hd] at ht; simp at ht
  | some d =>
    rw [hd] at ht
    simp only [Option.map_some, Option.some.injEq] at ht
    subst ht
    obtain ⟨ho, hg⟩ := h.rows i u d hu hd
    obtain ⟨A', c', rfl, h1, h2⟩ := own_shape ho
    exact ⟨A', c', rfl, (Sl.of_own ho).mono (fun b _ hb => (hg b hb).1), h1, h2⟩
theorem Cd.dcs {A : Option Addr} {n c : Nat} (h : Cd w wr (.slice A n c) n docs vs) : Dcs wr (fun b => w.heap.size ≤ b) A n docs := dcs_from h.dg.own h.rws h.kl (fun g hg => h.dg.lies g hg)
end
/-- append of a row's part as one step of a region that draws its order. -/
theorem step_app1 {P : Program} {t e : TypeId} {z : Value} {bytes : Nat} {ops : Array Oper} {o : Oper} {a : Act} {w : World} {K : Act → World → Prop} {Q : Exit → Act → World → Prop} {E : Prop} {F : Nat → Prop} (hg : o.guard = none) (s x : Operand) (T : Elem P t e z bytes)
    (hop : o.op = Op.call { callee := Callee.builtin Builtin.append, args := #[s, x], argTypes := #[t, t] }) {v : Value} {n : Nat} {xs : List Value} (hs : a.eval s = v) (hown : w.ownsRow 0 e 1 v n xs)
    {A : Option Addr} {m c : Nat} {news : List Value} (hx : a.eval x = .slice A m c) (hr : Vs w F A m news) (h1 : ∀ u ∈ news, u.oneCell' = true) (hb : (n + m) * bytes ≤ 140737488355328) (h63 : n + m ≤ 140737488355328)
    (h : ∀ v' w', w'.ownsRow 0 e 1 v' (n + m) (xs ++ news) → w.grownBy w' v.ownBlock → (v'.ownBlock = v.ownBlock ∨ v'.ownBlock = some w.heap.size) → K (a.put o.dst v') w') :
    if Region.wanted o (yielded ops a.tmps) = true then Oper.wp P o a w K Q else E := by
  have hw : Region.wanted o (yielded ops a.tmps) = true := by simp [Region.wanted, hg]
  rw [if_pos hw]
  obtain ⟨v', w', hrun, h2, h3, h4⟩ := run_app (P := P) w o.type T hown (c := c) hr h1 hb h63
  unfold Oper.wp execOp
  simp only [hop, resolve, invoke, builtin, Sem.run_bind, Sem.run_pure, Result.andThen_ok, List.map_toArray, List.map_cons, List.map_nil, hs, hx, hrun]
  exact h v' w' h2 h3 h4
/-- The blocks of rows. -/
def SpB (vs : List Value) (g : Nat) : Prop := ∃ (i : Nat) (u : Value), vs[i]? = some u ∧ u.ownBlock = some g
/-- Texts under way to be spoilt: those from q on stand. -/
structure Spt (w6 wr : World) (vs : List Value) (ds : List Dc) (q : Nat) : Prop where
  ch : Ch (SpB vs) w6 wr
  rows : ∀ (i : Nat) (u : Value) (d : Dc), q ≤ i → vs[i]? = some u → ds[i]? = some d → wr.ownsRow 0 5 1 u d.2.length (d.2.map (Value.int .u8))
theorem Spt.next {w6 wr w7 w8 : World} {vs : List Value} {ds : List Dc} {q : Nat} {u : Value} (h : Spt w6 wr vs ds q) (hc : Ch (fun _ => False) wr w7) (hu : vs[q]? = some u) (h8 : Ch (fun k => u.ownBlock = some k) w7 w8) (ha : ∀ (i : Nat) (x : Value), vs[i]? = some x → i ≠ q → ∀ g, x.ownBlock = some g → u.ownBlock = some g → False) : Spt w6 w8 vs ds (q + 1) :=
  ⟨h.ch.trans ((hc.mono (fun _ _ h => h.elim)).trans h8 (fun i _ e => e)) (fun i _ (e : u.ownBlock = some i) => ⟨q, u, hu, e⟩), fun i x d hi hx hd => h8.own (hc.own (h.rows i x d (by omega) hx hd) (fun _ _ h => h)) (fun g gx gu => ha i x hx (by omega) g gx gu)⟩
end Go.Proofs.Ytpilekadcondnaa
