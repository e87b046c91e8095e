/-
  The document's table in memory: documents as rows of cells. Conditions: none; plain lemmas.
-/
import Derived.Test.YtpilekadcondnaaMmMath
import Derived.Test.YtpilekadcondnaaSgRef
namespace Go.Proofs.Ytpilekadcondnaa
open Go.RowKit Go.Oct Go.Su Go.Sg

/-- Cells that are documents. -/
def DcR (w : World) (F : Nat → Prop) (us : List Value) (ds : List Dc) : Prop := us.length = ds.length * 2 ∧ ∀ j d, ds[j]? = some d → ∃ A c, us[j * 2]? = some (kv d.1) ∧ us[j * 2 + 1]? = some (.slice A d.2.length c) ∧ Sl w F .u8 A d.2.length d.2 ∧ d.2.length ≤ c ∧ c ≤ maxLen
section
variable {w w' : World} {F G S : Nat → Prop} {us vs : List Value} {ds es : List Dc} {A : Option Addr} {n c : Nat}
theorem DcR.nil (w : World) (F : Nat → Prop) : DcR w F [] [] := ⟨rfl, fun j d h => by simp at h⟩
theorem DcR.ch (h : DcR w F us ds) (hc : Ch S w w') (hF : ∀ b, F b → b < w.heap.size → ¬ S b) : DcR w' F us ds := ⟨h.1, fun j d hd => by
  obtain ⟨A, c, h1, h2, h3, h4⟩ := h.2 j d hd
  exact ⟨A, c, h1, h2, h3.ch hc hF, h4⟩⟩
theorem DcR.mono (h : DcR w F us ds) (hF : ∀ b, b < w.heap.size → F b → G b) : DcR w G us ds := ⟨h.1, fun j d hd => by
  obtain ⟨A, c, h1, h2, h3, h4⟩ := h.2 j d hd
  exact ⟨A, c, h1, h2, h3.mono hF, h4⟩⟩
theorem DcR.take (h : DcR w F us ds) (i : Nat) (hi : i ≤ ds.length) : DcR w F (us.take (i * 2)) (ds.take i) := by
  have hl := h.1
  refine ⟨by rw [List.length_take, List.length_take]; omega, fun j d hd => ?_⟩
  rw [List.getElem?_take] at hd
  split at hd
  · rename_i hj
    obtain ⟨A, c, h1, h2, h3⟩ := h.2 j d hd
    exact ⟨A, c, by rw [List.getElem?_take, if_pos (by omega)]; exact h1, by rw [List.getElem?_take, if_pos (by omega)]; exact h2, h3⟩
  · cases hd
theorem DcR.drop (h : DcR w F us ds) (i : Nat) (hi : i ≤ ds.length) : DcR w F (us.drop (i * 2)) (ds.drop i) := by
  have hl := h.1
  refine ⟨by rw [List.length_drop, List.length_drop]; omega, fun j d hd => ?_⟩
  rw [List.getElem?_drop] at hd
  obtain ⟨A, c, h1, h2, h3⟩ := h.2 (i + j) d hd
  exact ⟨A, c, by rw [List.getElem?_drop, show i * 2 + j * 2 = (i + j) * 2 by omega]; exact h1, by rw [List.getElem?_drop, show i * 2 + (j * 2 + 1) = (i + j) * 2 + 1 by omega]; exact h2, h3⟩
theorem DcR.app (h : DcR w F us ds) (k : DcR w F vs es) : DcR w F (us ++ vs) (ds ++ es) := by
  have hl := h.1
  have kl := k.1
  refine ⟨by rw [List.length_append, List.length_append]; omega, fun j d hd => ?_⟩
  rcases Nat.lt_or_ge j ds.length with hj | hj
  · rw [List.getElem?_append_left hj] at hd
    obtain ⟨A, c, h1, h2, h3⟩ := h.2 j d hd
    exact ⟨A, c, by rw [List.getElem?_append_left (by omega)]; exact h1, by rw [List.getElem?_append_left (by omega)]; exact h2, h3⟩
  · rw [List.getElem?_append_right hj] at hd
    obtain ⟨A, c, h1, h2, h3⟩ := k.2 _ d hd
    exact ⟨A, c, by rw [List.getElem?_append_right (by omega), show j * 2 - us.length = (j - ds.length) * 2 by omega]; exact h1, by rw [List.getElem?_append_right (by omega), show j * 2 + 1 - us.length = (j - ds.length) * 2 + 1 by omega]; exact h2, h3⟩
theorem DcR.one {d : Dc} (h : Sl w F .u8 A d.2.length d.2) (h1 : d.2.length ≤ c) (h2 : c ≤ maxLen) : DcR w F [kv d.1, .slice A d.2.length c] [d] := ⟨rfl, fun j e he => by
  match j, he with
  | 0, he =>
    simp at he
    subst he
    exact ⟨A, c, rfl, rfl, h, h1, h2⟩⟩
theorem DcR.cells1 (h : DcR w F us ds) : ∀ u ∈ us, u.oneCell' = true := fun u hu => by
  obtain ⟨q, hq⟩ := List.getElem?_of_mem hu
  obtain ⟨hq1, _⟩ := List.getElem?_eq_some_iff.1 hq
  have hl := h.1
  have hj : q / 2 < ds.length := by omega
  obtain ⟨A, c, h1, h2, _⟩ := h.2 (q / 2) _ (List.getElem?_eq_getElem hj)
  rcases (by omega : q = q / 2 * 2 ∨ q = q / 2 * 2 + 1) with e | e
  · rw [e, h1] at hq
    injection hq with hq
    subst hq
    rfl
  · rw [e, h2] at hq
    injection hq with hq
    subst hq
    rfl
/-- Documents of a row of the call's own. -/
theorem DcR.dcs (h : DcR w F us ds) (how : w.ownsRow 0 34 2 (.slice A n c) n us) (hF : ∀ g, (Value.slice A n c).ownBlock = some g → F g) : Dcs w F A n ds := by
  have hl : ds.length = n := by
    have e1 := how.1
    have e2 := h.1
    omega
  refine ⟨hl, fun hn => ?_⟩
  rcases how.2 with ⟨_, h0⟩ | ⟨g, cap, cur, hv, _, _, _⟩
  · omega
  · injection hv with hA2
    subst hA2
    refine ⟨g, 0, rfl, hF g rfl, fun i d hd => ?_⟩
    obtain ⟨hi, _⟩ := List.getElem?_eq_some_iff.1 hd
    obtain ⟨B, cB, c1, c2, hsl, q1, q2⟩ := h.2 i d hd
    have k1 := how.cellAt (i * 2) (by omega)
    have k2 := how.cellAt (i * 2 + 1) (by omega)
    rw [c1] at k1
    rw [c2] at k2
    refine ⟨[kv d.1, .slice B d.2.length cB], rfl, ⟨B, cB, rfl, hsl, q1, q2⟩, fun z u hu => ?_⟩
    rw [Nat.zero_add]
    match z, hu with
    | 0, hu => simp at hu; subst hu; exact k1
    | 1, hu => simp at hu; subst hu; exact k2
/-- A slice of documents in the open. -/
theorem Dcs.open_ (h : Dcs w F A n ds) (hn : 0 < n) : ∃ b off us, A = some ⟨b, off, none⟩ ∧ F b ∧ DcR w F us ds ∧ ∀ q u, us[q]? = some u → w.cell? ⟨b, off + q, none⟩ = some u := by
  have hl := h.len
  obtain ⟨b, off, e, hb, hj⟩ := Ro.at_ h hn
  have key : ∀ j d, ds[j]? = some d → ∃ B c, w.cell? ⟨b, off + j * 2, none⟩ = some (kv d.1) ∧ w.cell? ⟨b, off + j * 2 + 1, none⟩ = some (.slice B d.2.length c) ∧ Sl w F .u8 B d.2.length d.2 ∧ d.2.length ≤ c ∧ c ≤ maxLen := fun j d hd => by
    obtain ⟨cs, _, ⟨B, c, rfl, r⟩, hi⟩ := hj j d hd
    exact ⟨B, c, hi 0 _ rfl, hi 1 _ rfl, r⟩
  have hus : ∀ q, q < n * 2 → ((List.range (n * 2)).map fun q => (w.cell? ⟨b, off + q, none⟩).getD default)[q]? = some ((w.cell? ⟨b, off + q, none⟩).getD default) := fun q hq => by
    rw [List.getElem?_map, List.getElem?_range hq]
    rfl
  refine ⟨b, off, (List.range (n * 2)).map fun q => (w.cell? ⟨b, off + q, none⟩).getD default, e, hb, ⟨by rw [List.length_map, List.length_range, hl], fun j d hd => ?_⟩, fun q u hu => ?_⟩
  · obtain ⟨hjl, _⟩ := List.getElem?_eq_some_iff.1 hd
    obtain ⟨B, c, k1, k2, r⟩ := key j d hd
    refine ⟨B, c, ?_, ?_, r⟩
    · rw [hus _ (by omega), k1]; rfl
    · rw [hus _ (by omega), show off + (j * 2 + 1) = off + j * 2 + 1 by omega, k2]; rfl
  · obtain ⟨hq, _⟩ := List.getElem?_eq_some_iff.1 hu
    rw [List.length_map, List.length_range] at hq
    rw [hus q hq] at hu
    injection hu with hu
    have hjl : q / 2 < ds.length := by omega
    obtain ⟨B, c, k1, k2, _⟩ := key (q / 2) _ (List.getElem?_eq_getElem hjl)
    rw [← hu]
    rcases (by omega : q = q / 2 * 2 ∨ q = q / 2 * 2 + 1) with e2 | e2
    · rw [← e2] at k1
      rw [k1]; rfl
    · rw [show off + q / 2 * 2 + 1 = off + (q / 2 * 2 + 1) by omega, ← e2] at k2
      rw [k2]; rfl
end

/-- A slice's place as every row of the call's own has it. -/
def Shp (A : Option Addr) (c : Nat) : Prop := (A = none ∧ c = 0) ∨ ∃ g o, A = some ⟨g, o, none⟩
theorem shp_own {w : World} {base s n c : Nat} {e : TypeId} {A : Option Addr} {us : List Value} (h : w.ownsRow base e s (.slice A n c) n us) : Shp A c := by
  rcases h.2 with ⟨e1, _⟩ | ⟨g, cap, cur, e1, _⟩
  · injection e1 with e1 e2 e3
    exact .inl ⟨e1, e3⟩
  · injection e1 with e1 e2 e3
    exact .inr ⟨g, 0, e1⟩
/-- The document's table at block b: its rows lie in blocks of F, not in b. -/
structure TabD (w : World) (F : Nat → Prop) (b : Nat) (ds : List Dc) (gs : List Key) : Prop where
  row : ∃ A c B d, w.cell? ⟨b, 0, none⟩ = some (.slice A ds.length c) ∧ w.cell? ⟨b, 1, none⟩ = some (.slice B gs.length d) ∧ Dcs w F A ds.length ds ∧ Kss w F B gs.length gs ∧ ds.length ≤ c ∧ c ≤ maxLen ∧ gs.length ≤ d ∧ d ≤ maxLen
  zf : ∀ j, w.frozen? ⟨b, j, none⟩ = false
  no : ¬ F b
  ok : TabOk ds gs
  few : ds.length ≤ 1000000 ∧ gs.length ≤ 1000000
  shp : ∀ j A n c, j < 2 → w.cell? ⟨b, j, none⟩ = some (.slice A n c) → Shp A c
section
variable {w w' : World} {F G S : Nat → Prop} {b : Nat} {ds : List Dc} {gs : List Key}
theorem TabD.lt (h : TabD w F b ds gs) : b < w.heap.size := by
  obtain ⟨A, c, B, d, h1, _⟩ := h.row
  exact lt_of_cell h1
theorem TabD.ch (h : TabD w F b ds gs) (hc : Ch S w w') (hb : ¬ S b) (hF : ∀ x, F x → x < w.heap.size → ¬ S x) : TabD w' F b ds gs := by
  obtain ⟨A, c, B, d, h1, h2, h3, h4, r⟩ := h.row
  refine ⟨⟨A, c, B, d, hc.cell hb h1, hc.cell hb h2, h3.ch hc hF, h4.ch hc hF, r⟩, fun j => by rw [hc.frozen (p := ⟨b, j, none⟩) hb h.lt]; exact h.zf j, h.no, h.ok, h.few, fun j X n x hj hX => ?_⟩
  match j, hj with
  | 0, _ => have e := hc.cell (p := ⟨b, 0, none⟩) hb h1; rw [e] at hX; injection hX with hX; injection hX with e1 e2 e3; subst e1 e3; exact h.shp 0 _ _ _ (by omega) h1
  | 1, _ => have e := hc.cell (p := ⟨b, 1, none⟩) hb h2; rw [e] at hX; injection hX with hX; injection hX with e1 e2 e3; subst e1 e3; exact h.shp 1 _ _ _ (by omega) h2
theorem TabD.keep (h : TabD w F b ds gs) (hc : Ch (fun _ => False) w w') : TabD w' F b ds gs := h.ch hc (fun h => h) (fun _ _ _ h => h)
/-- What a call of one of its functions leaves. -/
def TPost (s : List Dc × List Key) (b : Nat) (w : World) (F : Nat → Prop) (w' : World) : Prop := ∃ F' : Nat → Prop, TabD w' F' b s.1 s.2 ∧ (∀ x, F' x → F x ∨ (w.heap.size ≤ x ∧ x < w'.heap.size)) ∧ Ch (fun x => x = b) w w'
end
end Go.Proofs.Ytpilekadcondnaa
