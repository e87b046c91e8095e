/-
  Contracts of the program's table: the keys that have a text, or those that are gone, by the library's contracts of slices.Sorted(maps.Keys(m)) and slices.DeleteFunc.
  Conditions: the table is one.
-/
import Derived.Test.YtpilekadcondnaaMtGet
import Derived.Test.YtpilekadcondnaaMtLaid
import Derived.Lib.OwnBridge
namespace Go.Proofs.Ytpilekadcondnaa
open Go.RowKit Go.Oct Go.Su Go.Sg Go.Mt Go.Maps Go.Sort Go.Shelf

section
variable {w w1 w2 w' W W' : World} {P S F FA : Nat → Prop} {t bp bb : Nat} {mb : Option Nat} {ks gs gs' : List Key} {vf : Key → Value} {ds ds' : List Dc} {k : Key} {v : Value} {has : Bool}
/-- Has a key a text? -/
def isDoc (ds : List Dc) (k : Key) : Bool := decide (∃ d ∈ ds, d.1 = k)
/-- What the map tells of a key: whether it has a text, and which. -/
theorem Ents.tell (he : Ents w P t mb ks vf ds gs) (ok : TabOk ds gs) (k : Key) : ∃ A n c xs, (if k ∈ ks then vf k else fate false (.slice none 0 0)) = fate (isDoc ds k) (.slice A n c) ∧ Sl w (fun x => P x ∧ x ≠ t ∧ mb ≠ some x) .u8 A n xs ∧ n ≤ 4096 ∧ n ≤ c ∧ c ≤ maxLen ∧ Shp A c ∧ ∀ d ∈ ds, d.1 = k → xs = d.2 := by
  by_cases hd : ∃ d ∈ ds, d.1 = k
  · have hi : isDoc ds k = true := decide_eq_true hd
    obtain ⟨d, hd, rfl⟩ := hd
    obtain ⟨A, c, e1, hs, h1, h2, h3⟩ := he.docs d hd
    have hm : d.1 ∈ ks := he.mem.2 (.inl ⟨d, hd, rfl⟩)
    refine ⟨A, d.2.length, c, d.2, by rw [if_pos hm, hi]; exact e1, hs, ok.len d hd, h1, h2, h3, fun e he2 e3 => ?_⟩
    obtain ⟨i, hi⟩ := List.getElem?_of_mem hd
    obtain ⟨j, hj⟩ := List.getElem?_of_mem he2
    rcases Nat.lt_trichotomy i j with h | h | h
    · exact absurd e3.symm (keyne (ok.dr.at_lt h hi hj))
    · subst h
      rw [hi] at hj
      injection hj with hj
      rw [hj]
    · exact absurd e3 (keyne (ok.dr.at_lt h hj hi))
  · have hi : isDoc ds k = false := decide_eq_false hd
    by_cases hg : k ∈ gs
    · have hm : k ∈ ks := he.mem.2 (.inr hg)
      exact ⟨none, 0, 0, [], by rw [if_pos hm, hi]; exact he.gone k hg, Sl.nil _ _ _ _, Nat.zero_le _, Nat.le_refl _, Nat.zero_le _, .inl ⟨rfl, rfl⟩, fun d hd2 e => absurd ⟨d, hd2, e⟩ hd⟩
    · have hm : k ∉ ks := fun hm => (he.mem.1 hm).elim hd hg
      exact ⟨none, 0, 0, [], by rw [if_neg hm, hi], Sl.nil _ _ _ _, Nat.zero_le _, Nat.le_refl _, Nat.zero_le _, .inl ⟨rfl, rfl⟩, fun d hd2 e => absurd ⟨d, hd2, e⟩ hd⟩
/-- What the closure reads. -/
structure KC (W : World) (P : Nat → Prop) (bp bb t : Nat) (has : Bool) (mb : Option Nat) (ks : List Key) (vf : Key → Value) (ds : List Dc) (gs : List Key) : Prop where
  cp : W.cell? ⟨bp, 0, none⟩ = some (.pointer (some ⟨t, 0, none⟩))
  cb : W.cell? ⟨bb, 0, none⟩ = some (.bool has)
  ct : W.cell? ⟨t, 0, none⟩ = some (.map mb)
  en : Ents W P t mb ks vf ds gs
  ok : TabOk ds gs
theorem KC.ch (h : KC W P bp bb t has mb ks vf ds gs) (hc : Ch S W W') (h1 : ¬ S bp) (h2 : ¬ S bb) (h3 : ¬ S t) (h4 : ∀ x, P x → ¬ S x) : KC W' P bp bb t has mb ks vf ds gs :=
  ⟨hc.cell (p := ⟨bp, 0, none⟩) h1 h.cp, hc.cell (p := ⟨bb, 0, none⟩) h2 h.cb, hc.cell (p := ⟨t, 0, none⟩) h3 h.ct, h.en.ch hc h4, h.ok⟩
set_option maxRecDepth 100000 in
theorem fate_has (f : Bool) (A : Option Addr) (n c : Nat) (w : World) : (Instr.field 69 (.agg #[.bool f, .slice A n c]) 0).run Try.prog w = .ok (.bool f) w := by kernel_rfl
theorem fate_text (f : Bool) (A : Option Addr) (n c : Nat) (w : World) : (Instr.field 69 (.agg #[.bool f, .slice A n c]) 1).run Try.prog w = .ok (.slice A n c) w := by kernel_rfl
set_option maxRecDepth 100000 in
theorem others_any (h : KC W P bp bb t has mb ks vf ds gs) (k : Key) (hk : k.length ≤ maxLen) :
    Calls Try.prog 37 #[kv k, .pointer (some ⟨bp, 0, none⟩), .pointer (some ⟨bb, 0, none⟩)] W fun e w' => e = .returned (.bool (isDoc ds k != has)) ∧ ∃ q, w' = W.drewN q := by
  obtain ⟨A, n, c, xs, e1, _⟩ := h.en.tell h.ok k
  have hlk : ∀ q, (Instr.lookup 64 (.map mb) (kv k) false).run Try.prog (W.drewN q) = .ok (.agg #[.bool (isDoc ds k), .slice A n c]) (W.drewN q) := fun q => by
    have := (h.en.ch ((Ch.refl (fun _ => False) W).drewN q) (fun _ _ h => h)).look hk
    rw [e1] at this
    exact this
  have hl0 : (Instr.lookup 64 (.map mb) (kv k) false).run Try.prog W = .ok (.agg #[.bool (isDoc ds k), .slice A n c]) W := hlk 0
  have hl1 : (Instr.lookup 64 (.map mb) (kv k) false).run Try.prog W.drew = .ok (.agg #[.bool (isDoc ds k), .slice A n c]) W.drew := hlk 1
  obtain ⟨V, hV⟩ : ∃ V, kv k = V := ⟨_, rfl⟩
  rw [hV] at hl0 hl1 ⊢
  clear hlk
  have hfh := fate_has (isDoc ds k) A n c
  have cp := h.cp
  have cb := h.cb
  have ct := h.ct
  generalize isDoc ds k = f at *
  clear h e1 hV
  go_enter Try.func37, Try.ntmps37
  go_wp2_with fail
  go_region
  all_goals (
    go_wp2
    go_ret
    exact ⟨rfl, 1, rfl⟩)
end
end Go.Proofs.Ytpilekadcondnaa
