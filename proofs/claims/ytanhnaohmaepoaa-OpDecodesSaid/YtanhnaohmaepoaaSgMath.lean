/-
  The plain mathematics of segment: keys in their order, documents by keys, what a segment's record holds. Over no program. Conditions: none.
-/
import Derived.Test.YtanhnaohmaepoaaOcMath
import Derived.Test.YtanhnaohmaepoaaFmTxt
namespace Go.Sg
open Go.Oct Go.Su Go.RowKit

/-- A key: its bytes. -/
abbrev Key := List UInt8
/-- A document: its key, its text's bytes. -/
abbrev Dc := Key × List Int
/-- A key's bytes as numbers. -/
def kI (k : Key) : List Int := k.map fun b => (b.toNat : Int)
def ks (ds : List Dc) : List Key := ds.map (·.1)
def ts (ds : List Dc) : List (List Int) := ds.map (·.2)
/-- Is a key one? -/
def okK (k : Key) : Prop := 1 ≤ k.length ∧ k.length ≤ 64
instance (k : Key) : Decidable (okK k) := by unfold okK; exact inferInstance

/-! ### the order -/
theorem key_irrefl (a : Key) : ¬ a < a := List.lt_irrefl a
theorem key_trans {a b c : Key} (h : a < b) (k : b < c) : a < c := List.lt_trans h k
theorem key_tri (a b : Key) : a < b ∨ a = b ∨ b < a := by
  by_cases h : a < b
  · exact .inl h
  · by_cases k : b < a
    · exact .inr (.inr k)
    · exact .inr (.inl (List.le_antisymm (List.not_lt.1 k) (List.not_lt.1 h)))
theorem key_le_trans {a b c : Key} (h : ¬ b < a) (k : ¬ c < b) : ¬ c < a := fun hc => by
  rcases key_tri a b with h1 | h1 | h1
  · exact k (key_trans hc h1)
  · subst h1; exact k hc
  · exact h h1
theorem key_le_of_lt {a b : Key} (h : a < b) : ¬ b < a := fun k => key_irrefl a (key_trans h k)
/-- Rising, alike ones let in. -/
def Srt (l : List Key) : Prop := l.Pairwise fun a b => ¬ b < a
/-- Rising. -/
def Rise (l : List Key) : Prop := l.Pairwise fun a b => a < b
theorem Rise.srt {l : List Key} (h : Rise l) : Srt l := h.imp key_le_of_lt
theorem Rise.nodup {l : List Key} (h : Rise l) : l.Nodup := by
  unfold List.Nodup
  unfold Rise at h
  refine List.Pairwise.imp (fun {a b} (hab : a < b) => ?_) h
  rintro rfl
  exact key_irrefl _ hab
theorem Srt.rise {l : List Key} (h : Srt l) (hn : l.Nodup) : Rise l := by
  unfold Srt at h
  unfold List.Nodup at hn
  exact (h.and hn).imp fun {a b} hab => by
    rcases key_tri a b with h1 | h1 | h1
    · exact h1
    · exact absurd h1 hab.2
    · exact absurd h1 hab.1
theorem srt_uniq {l m : List Key} (hl : Srt l) (hm : Srt m) (hp : l.Perm m) : l = m :=
  List.Perm.eq_of_pairwise (le := fun a b => ¬ b < a) (fun a b _ _ h1 h2 => by
    rcases key_tri a b with h | h | h
    · exact absurd h h2
    · exact h
    · exact absurd h h1) hl hm hp
/-- Neighbours that differ make a sorted row rising. -/
theorem srt_adj {l : List Key} (h : Srt l) : Rise l ↔ ∀ i a b, l[i]? = some a → l[i + 1]? = some b → a ≠ b := by
  constructor
  · intro hr i a b ha hb e
    obtain ⟨h1, rfl⟩ := List.getElem?_eq_some_iff.1 ha
    obtain ⟨h2, rfl⟩ := List.getElem?_eq_some_iff.1 hb
    have := (List.pairwise_iff_getElem.1 hr) i (i + 1) h1 h2 (by omega)
    rw [e] at this
    exact key_irrefl _ this
  · intro hne
    refine h.rise ?_
    induction l with
    | nil => exact List.Pairwise.nil
    | cons a l ih =>
      have h' := List.pairwise_cons.1 h
      refine List.pairwise_cons.2 ⟨fun b hb e => ?_, ih h'.2 (fun i x y hx hy => hne (i + 1) x y (by simpa using hx) (by simpa using hy))⟩
      subst e
      cases l with
      | nil => simp at hb
      | cons c l =>
        rcases List.mem_cons.1 hb with rfl | hb
        · exact hne 0 a a rfl rfl rfl
        · have h1 := h'.1 c (by simp)
          have h2 := (List.pairwise_cons.1 h'.2).1 a hb
          rcases key_tri a c with k | k | k
          · exact h2 k
          · exact hne 0 a c rfl rfl k
          · exact h1 k

/-! ### two sorted rows made one -/
structure Mrg (all out x y : List Key) : Prop where
  perm : (out ++ (x ++ y)).Perm all
  so : Srt out
  sx : Srt x
  sy : Srt y
  le : ∀ a ∈ out, ∀ b ∈ x ++ y, ¬ b < a
theorem Mrg.start {x y all : List Key} (hx : Srt x) (hy : Srt y) (h : (x ++ y).Perm all) : Mrg all [] x y := ⟨h, List.Pairwise.nil, hx, hy, fun a ha => by simp at ha⟩
theorem srt_snoc {l : List Key} {a : Key} (h : Srt l) (ha : ∀ b ∈ l, ¬ a < b) : Srt (l ++ [a]) :=
  List.pairwise_append.2 ⟨h, List.pairwise_singleton _ _, fun b hb c hc => by
    obtain rfl : c = a := by simpa using hc
    exact ha b hb⟩
theorem Mrg.left {all out x y : List Key} {a : Key} (h : Mrg all out (a :: x) y) (hy : ∀ b ∈ y, ¬ b < a) : Mrg all (out ++ [a]) x y := by
  have hx := List.pairwise_cons.1 h.sx
  refine ⟨by simpa using h.perm, srt_snoc h.so (fun b hb => h.le b hb a (by simp)), hx.2, h.sy, fun b hb c hc => ?_⟩
  rcases List.mem_append.1 hb with hb | hb
  · refine h.le b hb c ?_
    rcases List.mem_append.1 hc with hc | hc
    · simp [hc]
    · simp [hc]
  · obtain rfl : b = a := by simpa using hb
    rcases List.mem_append.1 hc with hc | hc
    · exact hx.1 c hc
    · exact hy c hc
theorem Mrg.right {all out x y : List Key} {a : Key} (h : Mrg all out x (a :: y)) (hx : ∀ b ∈ x, ¬ b < a) : Mrg all (out ++ [a]) x y := by
  have hy := List.pairwise_cons.1 h.sy
  refine ⟨?_, srt_snoc h.so (fun b hb => h.le b hb a (by simp)), h.sx, hy.2, fun b hb c hc => ?_⟩
  · refine List.Perm.trans ?_ h.perm
    rw [List.append_assoc]
    refine List.Perm.append_left _ ?_
    exact (List.perm_middle (l₁ := x) (l₂ := y) (a := a)).symm
  · rcases List.mem_append.1 hb with hb | hb
    · refine h.le b hb c ?_
      rcases List.mem_append.1 hc with hc | hc
      · simp [hc]
      · simp [hc]
    · obtain rfl : b = a := by simpa using hb
      rcases List.mem_append.1 hc with hc | hc
      · exact hx c hc
      · exact hy.1 c hc
theorem srt_head {a : Key} {l : List Key} (h : Srt (a :: l)) {c : Key} (hc : ¬ a < c) : ∀ b ∈ a :: l, ¬ b < c := fun b hb => by
  rcases List.mem_cons.1 hb with rfl | hb
  · exact hc
  · exact key_le_trans hc ((List.pairwise_cons.1 h).1 b hb)
theorem Mrg.done {all out : List Key} (h : Mrg all out [] []) : Srt out ∧ out.Perm all := ⟨h.so, by simpa using h.perm⟩

/-! ### documents -/
/-- May documents and keys that are gone stand together? -/
def ArgOk (ds : List Dc) (gs : List Key) : Prop := (∀ k ∈ ks ds ++ gs, okK k) ∧ (ks ds ++ gs).Nodup
/-- The same documents and keys, rising. -/
structure Made (docs : List Dc) (gone : List Key) (ds : List Dc) (gs : List Key) : Prop where
  pd : ds.Perm docs
  rd : Rise (ks ds)
  pg : gs.Perm gone
  rg : Rise gs
theorem ks_len (ds : List Dc) : (ks ds).length = ds.length := by simp [ks]
theorem ts_len (ds : List Dc) : (ts ds).length = ds.length := by simp [ts]
theorem ks_app (a b : List Dc) : ks (a ++ b) = ks a ++ ks b := by simp [ks]
theorem ts_app (a b : List Dc) : ts (a ++ b) = ts a ++ ts b := by simp [ts]
theorem docs_uniq : ∀ {ds es : List Dc}, ds.Perm es → Rise (ks ds) → Rise (ks es) → ds = es := by
  intro ds es hp h1 h2
  have hk : ks ds = ks es := srt_uniq h1.srt h2.srt (hp.map _)
  have hn := h1.nodup
  refine List.ext_getElem? fun i => ?_
  cases hd : ds[i]? with
  | none =>
    have : ds.length ≤ i := List.getElem?_eq_none_iff.1 hd
    rw [List.getElem?_eq_none (by rw [← hp.length_eq]; exact this)]
  | some d =>
    obtain ⟨hi, rfl⟩ := List.getElem?_eq_some_iff.1 hd
    have hi2 : i < es.length := by rw [← hp.length_eq]; exact hi
    rw [List.getElem?_eq_getElem hi2]
    congr 1
    obtain ⟨j, hj, hje⟩ := List.mem_iff_getElem.1 (hp.mem_iff.1 (List.getElem_mem hi))
    have e1 : (ks es)[i]'(by rw [ks_len]; exact hi2) = (ds[i]).1 := by
      have : (ks ds)[i]'(by rw [ks_len]; exact hi) = (ds[i]).1 := by simp [ks]
      rw [← this]
      simp only [hk]
    have e2 : (ks es)[j]'(by rw [ks_len]; exact hj) = (ds[i]).1 := by simp [ks, hje]
    have hij : i = j := by
      have h2n := h2.nodup
      exact (List.getElem_inj (xs := ks es) (h₀ := by rw [ks_len]; exact hi2) (h₁ := by rw [ks_len]; exact hj) h2n).1 (e1.trans e2.symm)
    subst hij
    exact hje.symm
theorem Made.uniq {docs ds es : List Dc} {gone gs hs : List Key} (h : Made docs gone ds gs) (k : Made docs gone es hs) : ds = es ∧ gs = hs :=
  ⟨docs_uniq (h.pd.trans k.pd.symm) h.rd k.rd, srt_uniq h.rg.srt k.rg.srt (h.pg.trans k.pg.symm)⟩
theorem ArgOk.perm {ds es : List Dc} {gs hs : List Key} (h : ArgOk ds gs) (p : es.Perm ds) (q : hs.Perm gs) : ArgOk es hs := by
  have hp : (ks es ++ hs).Perm (ks ds ++ gs) := (p.map _).append q
  exact ⟨fun k hk => h.1 k (hp.mem_iff.1 hk), hp.nodup_iff.2 h.2⟩
/-- What a row of documents has at a key. -/
def at_ (ds : List Dc) (k : Key) : Option (List Int) := (ds.find? fun d => decide (d.1 = k)).map (·.2)

/-! ### the record -/
/-- Keys as bytes. -/
def keysB (l : List Key) : List Int := encN l.length ++ l.flatMap fun k => rowB (kI k)
/-- What the record holds; t: the turned row. -/
def bod (ds : List Dc) (gs : List Key) (t : List Int) : List Int := [83, 1] ++ keysB (ks ds) ++ keysB gs ++ (encN t.length ++ t.flatMap encI)
theorem kI_len (k : Key) : (kI k).length = k.length := by simp [kI]
theorem kI_byte (k : Key) : ∀ x ∈ kI k, 0 ≤ x ∧ x < 256 := fun x hx => by
  obtain ⟨b, _, rfl⟩ := List.mem_map.1 hx
  have := b.toNat_lt
  omega
theorem kI_inj {a b : Key} (h : kI a = kI b) : a = b := by
  unfold kI at h
  refine List.map_inj_right (f := fun b : UInt8 => (b.toNat : Int)) (fun x y hxy => ?_) |>.1 h
  have : x.toNat = y.toNat := Int.ofNat.inj hxy
  exact UInt8.toNat_inj.1 this
/-- Which texts are too long. -/
def Big (ds : List Dc) : Prop := ∃ t ∈ ts ds, 4096 < t.length
/-- A segment of these documents and keys: what New says, where nothing but a text may be too long. -/
def NewRes (docs : List Dc) (gone : List Key) (ec : Int) (ds : List Dc) (gs : List Key) : Prop :=
  (¬ ArgOk docs gone ∧ ec = 1) ∨ (ArgOk docs gone ∧ Big docs ∧ ec = 5) ∨ (ArgOk docs gone ∧ ¬ Big docs ∧ ec = 0 ∧ Made docs gone ds gs)
theorem NewRes.same {docs ds es : List Dc} {gone gs hs : List Key} {ec ec' : Int} (h : NewRes docs gone ec ds gs) (k : NewRes docs gone ec' es hs) : ec = ec' ∧ (ec = 0 → ds = es ∧ gs = hs) := by
  rcases h with ⟨h1, rfl⟩ | ⟨h1, h2, rfl⟩ | ⟨h1, h2, rfl, h3⟩ <;> rcases k with ⟨k1, rfl⟩ | ⟨k1, k2, rfl⟩ | ⟨k1, k2, rfl, k3⟩
  · exact ⟨rfl, fun h => absurd h (by omega)⟩
  · exact absurd k1 h1
  · exact absurd k1 h1
  · exact absurd h1 k1
  · exact ⟨rfl, fun h => absurd h (by omega)⟩
  · exact absurd h2 k2
  · exact absurd h1 k1
  · exact absurd k2 h2
  · exact ⟨rfl, fun _ => h3.uniq k3⟩
end Go.Sg
