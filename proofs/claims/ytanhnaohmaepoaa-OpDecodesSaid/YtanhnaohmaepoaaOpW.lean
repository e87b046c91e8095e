/-
  Words of op's memory: an op by value, places in a slice; []byte(key), string(row). Conditions: none; plain lemmas.
-/
import Derived.Test.YtanhnaohmaepoaaOpMath
import Derived.Test.YtanhnaohmaepoaaSgRef
import Derived.Test.YtanhnaohmaepoaaSgWords
import Derived.Test.YtanhnaohmaepoaaFmRoomy
import Derived.Test.YtanhnaohmaepoaaFmGrow
import Derived.Test.YtanhnaohmaepoaaFrNone
import Derived.Test.YtanhnaohmaepoaaOcSteps
import Derived.Test.YtanhnaohmaepoaaOcRef
import Derived.Laws.IdiomStrings
import Derived.Shelf.Abstract
namespace Go.Proofs.Ytanhnaohmaepoaa
open Go.RowKit Go.Oct Go.Su Go.Sg Go.Om Go.Shelf

/-- []byte(key) at the operation. -/
theorem wp_bytes {P : Program} {w : World} {ops : Array Oper} {rest : List Oper} {o : Oper} {a : Act} {Q : Exit → Act → World → Prop} (hg : o.guard = none) (x : Operand) {src dst e : TypeId} (hop : o.op = Op.convert src dst x) (hs : P.underlying src = some .string) (hd : P.underlying dst = some (.slice e)) (he : P.underlying e = some (.int .u8))
    {k : Key} (hkm : k.length ≤ maxLen) (hx : a.eval x = kv k) (h : ∀ c w', k.length ≤ c → c ≤ maxLen → Sl w' (fun b => b = w.heap.size) .u8 (some ⟨w.heap.size, 0, none⟩) k.length (kI k) → Ch (fun _ => False) w w' → wpList P ops Q rest (a.put o.dst (.slice (some ⟨w.heap.size, 0, none⟩) k.length c)) w') : wpList P ops Q (o :: rest) a w :=
  wpList_plain hg fun K' hK' => by
    have hrun := run_bytes_of_string (P := P) w src dst e ⟨k.toArray⟩ hs hd he
    have hsz : (⟨k.toArray⟩ : ByteArray).size = k.length := kv_size k
    rw [hsz] at hrun
    have hx' : a.eval x = .string ⟨k.toArray⟩ := hx
    unfold Oper.wp
    simp only [execOp, hop, hx', Sem.run_bind, Sem.run_pure, hrun, Result.andThen_ok]
    refine hK' _ _ (h _ _ (grownCap_ge _ _ _ _) (grownCap_le_maxLen _ _ _ _ hkm) ?_ ?_)
    · refine ⟨by simp [kI], fun _ => ⟨w.heap.size, 0, rfl, rfl, fun j u hu => ?_⟩⟩
      have hb : (w.drew.alloc (.cells (bytesRow ⟨k.toArray⟩ (grownCap w k.length 0 e)) e ((bytesRow ⟨k.toArray⟩ (grownCap w k.length 0 e)).size, (bytesRow ⟨k.toArray⟩ (grownCap w k.length 0 e)).size + 1))).heap[w.heap.size]? = some (.cells (bytesRow ⟨k.toArray⟩ (grownCap w k.length 0 e)) e ((bytesRow ⟨k.toArray⟩ (grownCap w k.length 0 e)).size, (bytesRow ⟨k.toArray⟩ (grownCap w k.length 0 e)).size + 1)) := heap_alloc_new w.drew _
      unfold World.cell?
      rw [hb]
      obtain ⟨hj, hju⟩ := List.getElem?_eq_some_iff.1 hu
      simp only [kI, List.map_map, List.length_map] at hj
      simp only [kI, List.map_map, List.getElem_map] at hju
      subst hju
      simp only [Nat.zero_add]
      unfold bytesRow
      rw [Array.getElem?_append_left (by simpa using hj)]
      simp [hj]
    · exact (Ch.refl _ w).drew.alloc _
theorem sl_cells {w : World} {F : Nat → Prop} {K : IntKind} {b off n : Nat} {xs : List Int} (h : Sl w F K (some ⟨b, off, none⟩) n xs) {i : Nat} (hi : i < n) : w.cell? ⟨b, off + i, none⟩ = some (.int K (xs.getD i 0)) := by
  obtain ⟨b', o', x, hA, _, hx, hc⟩ := h.at_ hi
  injection hA with hA
  injection hA with e1 e2
  subst e1 e2
  rw [hc, List.getD_eq_getElem?_getD, hx.out]
  rfl
set_option maxRecDepth 100000 in
theorem conv_row {w : World} {A : Option Addr} {n c : Nat} {xs : List Int} (h : w.ownsRow 0 5 1 (.slice A n c) n (xs.map (Value.int .u8))) : (convert 22 9 (.slice A n c)).run Try.prog w = .ok (kv (keyI xs)) w := by
  have hs := Sl.of_own h
  have hl := hs.len
  obtain ⟨_, ⟨e, h0⟩ | ⟨g, cap, cur, e, _⟩⟩ := h
  · injection e with e1 e2 e3
    subst e1 e2
    obtain rfl : xs = [] := List.eq_nil_of_length_eq_zero hl
    exact run_convert_bytes_nil (P := Try.prog) w 22 5 Try.underlying22 Try.underlying5 _ _ 9 Try.underlying9
  · injection e with e1 e2 e3
    subst e1
    exact run_convert_bytes_arg (P := Try.prog) w 22 5 Try.underlying22 Try.underlying5 g 0 n c xs hl (fun _ hi => sl_cells hs hi) 9 Try.underlying9
theorem Fresh.rw {w wr : World} {v : Value} {xs : List Int} (h : O.Fresh w v xs wr) : Fresh w v xs wr := h
theorem Fresh.sl {w wr : World} {A : Option Addr} {n c : Nat} {xs : List Int} (h : Fresh w (.slice A n c) xs wr) (hn : n = xs.length) : Sl wr (fun b => w.heap.size ≤ b) .u8 A n xs := by
  subst hn
  exact (Sl.of_own h.1).mono (fun b _ hb => h.2.1 b hb)
theorem Fresh.keep {w wr w' : World} {v : Value} {xs : List Int} (h : Fresh w v xs wr) (hc : Ch (fun _ => False) wr w') : Fresh w v xs w' :=
  ⟨hc.own h.1 (fun _ _ h => h), h.2.1, h.2.2.trans hc (fun _ _ h => h)⟩
theorem ncells_at {w : World} {cs : Array Value} {e : TypeId} {j : Nat} {u : Value} (hu : cs[j]? = some u) : (w.alloc (.cells cs e)).cell? ⟨w.heap.size, j, none⟩ = some u := by
  unfold World.cell?
  rw [heap_alloc_new]
  exact hu
theorem enc3_len (a b c : Int) : ([a, b, c].flatMap encI).length ≤ 27 := flat_len [a, b, c] 3
theorem rowB_len {xs : List Int} {n : Nat} (h : xs.length = n) (hn : n ≤ 100000000000000) : (rowB xs).length ≤ n + 9 := by
  have h9 : (encN xs.length).length ≤ 9 := by
    have e : encI (xs.length : Int) = encN xs.length := by unfold encI; rw [clampI_nat (by omega)]
    rw [← e]; exact encI_len _
  unfold rowB
  rw [List.length_append]
  omega
/-- Numbers that were just built. -/
theorem sl_lit (w : World) (e : TypeId) (k : IntKind) (xs : List Int) : Sl (w.alloc (.cells (xs.map (Value.int k)).toArray e)) (fun b => b = w.heap.size) k (some ⟨w.heap.size, 0, none⟩) xs.length xs := by
  have h := Vs.built w e (xs.map (Value.int k))
  rw [List.length_map] at h
  exact h
/-- An op by value; its text lies in F. -/
def OpV (w : World) (F : Nat → Prop) (v : Value) (o : Ao) : Prop := ∃ A c, v = .agg #[.int .i64 o.kd, .int .i64 o.cl, .int .i64 o.sq, kv o.key, .slice A o.txt.length c] ∧ Sl w F .u8 A o.txt.length o.txt ∧ o.txt.length ≤ c ∧ c ≤ maxLen
/-- A place's cells. -/
def MatE (cs : List Value) (m : Key × Int) : Prop := cs = [kv m.1, .int .i64 m.2]
/-- A slice of places. -/
def Mts (w : World) (F : Nat → Prop) (A : Option Addr) (n : Nat) (l : List (Key × Int)) : Prop := Ro w F 2 MatE A n l
def valM (l : List (Key × Int)) : List Value := l.flatMap fun m => [kv m.1, .int .i64 m.2]
theorem str_beq (a b : Key) : ((⟨a.toArray⟩ : ByteArray).toList == (⟨b.toArray⟩ : ByteArray).toList) = decide (a = b) := by
  rw [Lib.toList_data, Lib.toList_data]
  rw [Bool.eq_iff_iff]
  simp
theorem Mts.ch {w w' : World} {F S : Nat → Prop} {A : Option Addr} {n : Nat} {l : List (Key × Int)} (h : Mts w F A n l) (hc : Ch S w w') (hF : ∀ b, F b → b < w.heap.size → ¬ S b) : Mts w' F A n l := Ro.ch h (by omega) hc hF fun _ _ _ he => he
theorem Mts.get {w : World} {F : Nat → Prop} {A : Option Addr} {n : Nat} {l : List (Key × Int)} (h : Mts w F A n l) {j : Nat} (hj : j < n) : ∃ b off m, A = some ⟨b, off, none⟩ ∧ F b ∧ Hid (l[j]? = some m) ∧ w.cell? ⟨b, off + j * 2, none⟩ = some (kv m.1) ∧ w.cell? ⟨b, off + j * 2 + 1, none⟩ = some (.int .i64 m.2) := by
  obtain ⟨b, off, d, cs, e, hb, hd, hl, rfl, hi⟩ := Ro.get h hj
  exact ⟨b, off, d, e, hb, hd, hi 0 _ rfl, hi 1 _ rfl⟩
theorem valM_at {hs : List (Key × Int)} {j : Nat} {h : Key × Int} (hj : hs[j]? = some h) : (valM hs)[j * 2]? = some (kv h.1) ∧ (valM hs)[j * 2 + 1]? = some (.int .i64 h.2) := by
  induction hs generalizing j with
  | nil => simp at hj
  | cons a l ih =>
    have e : valM (a :: l) = kv a.1 :: Value.int .i64 a.2 :: valM l := rfl
    rw [e]
    cases j with
    | zero =>
      obtain rfl : a = h := by simpa using hj
      exact ⟨rfl, rfl⟩
    | succ j =>
      have := ih (j := j) (by simpa using hj)
      rw [show (j + 1) * 2 = j * 2 + 2 by omega]
      exact this
theorem Gs.mts {w wr : World} {A : Option Addr} {n c : Nat} {hs : List (Key × Int)} (h : Gs 59 2 w wr (.slice A n c) n (valM hs)) (hl : hs.length = n) : Mts wr (fun b => w.heap.size ≤ b) A n hs := by
  refine ⟨hl, fun hn => ?_⟩
  rcases own_form h.own with ⟨e1, e2⟩ | ⟨g, c1, e1, g2, g3⟩
  · omega
  · injection e1 with e3 _ e4
    subst e3 e4
    have ho := h.own
    refine ⟨g, 0, rfl, h.lies g rfl, fun j x hx => ?_⟩
    obtain ⟨hj, _⟩ := List.getElem?_eq_some_iff.1 hx
    obtain ⟨k1, k2⟩ := valM_at hx
    have c1 := ho.cellAt (j * 2) (by omega)
    have c2 := ho.cellAt (j * 2 + 1) (by omega)
    rw [k1] at c1
    rw [k2] at c2
    refine ⟨_, rfl, rfl, fun i u hu => ?_⟩
    rw [Nat.zero_add]
    match i, hu with
    | 0, hu => simp at hu; subst hu; exact c1
    | 1, hu => simp at hu; subst hu; exact c2
theorem mat_cells (w : World) (S : ByteArray) (a : Int) : ∀ j u, [Value.string S, Value.int .i64 a][j]? = some u → (w.alloc (.cells #[.string S, .int .i64 a] 59)).cell? ((⟨w.heap.size, 0, none⟩ : Addr).add j) = some u := by
  intro j u hu
  match j, hu with
  | 0, hu =>
    simp at hu
    subst hu
    rw [show (⟨w.heap.size, 0, none⟩ : Addr).add 0 = ⟨w.heap.size, 0, none⟩ by simp [Addr.add], World.cell?_alloc_at _ _ _ _ rfl]
    rfl
  | 1, hu =>
    simp at hu
    subst hu
    rw [show (⟨w.heap.size, 0, none⟩ : Addr).add 1 = ⟨w.heap.size, 1, none⟩ by simp [Addr.add], World.cell?_alloc_at _ _ _ _ rfl]
    rfl
  | j + 2, hu => simp at hu
end Go.Proofs.Ytanhnaohmaepoaa
