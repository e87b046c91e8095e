/-
  Words of segment's memory, over no program: slices of elements of several cells (Ro), of keys (Kss), of documents (Dcs), of sets of documents and keys (Sts).
  Conditions: none; plain lemmas.
-/
import Derived.Test.YtanhnaohmaepoaaOcWords
import Derived.Test.YtanhnaohmaepoaaSgMath
import Derived.Sort.Row
namespace Go.Sg
open Go.Oct Go.Su Go.RowKit

/-- A key as a value. -/
def kv (k : Key) : Value := .string ⟨k.toArray⟩
theorem kv_data (s : ByteArray) : kv s.data.toList = .string s := by
  unfold kv
  rfl
theorem kv_list (k : Key) : (⟨k.toArray⟩ : ByteArray).data.toList = k := by simp
theorem kv_size (k : Key) : (⟨k.toArray⟩ : ByteArray).size = k.length := by simp [ByteArray.size]
theorem kv_inj {a b : Key} (h : kv a = kv b) : a = b := by
  unfold kv at h
  injection h with h
  have := congrArg (fun s : ByteArray => s.data.toList) h
  simpa using this

/-- A slice of elements of k cells each; E: what an element's cells are. -/
structure Ro {α : Type} (w : World) (F : Nat → Prop) (k : Nat) (E : List Value → α → Prop) (A : Option Addr) (n : Nat) (av : List α) : Prop where
  len : av.length = n
  at_ : 0 < n → ∃ b off, A = some ⟨b, off, none⟩ ∧ F b ∧ ∀ j a, av[j]? = some a → ∃ cs, cs.length = k ∧ E cs a ∧ ∀ i u, cs[i]? = some u → w.cell? ⟨b, off + j * k + i, none⟩ = some u
section
variable {α : Type} {w w' : World} {F G S : Nat → Prop} {k : Nat} {E E' : List Value → α → Prop} {A : Option Addr} {n : Nat} {av : List α}
theorem Ro.nil (w : World) (F : Nat → Prop) (k : Nat) (E : List Value → α → Prop) (A : Option Addr) : Ro w F k E A 0 [] := ⟨rfl, fun h => absurd h (by omega)⟩
theorem Ro.ch (h : Ro w F k E A n av) (_ : 0 < k) (hc : Ch S w w') (hF : ∀ b, F b → b < w.heap.size → ¬ S b) (hE : ∀ cs a, a ∈ av → E cs a → E' cs a) : Ro w' F k E' A n av :=
  ⟨h.len, fun hn => by
    obtain ⟨b, off, e, hb, hj⟩ := h.at_ hn
    refine ⟨b, off, e, hb, fun j a ha => ?_⟩
    obtain ⟨cs, hl, he, hi⟩ := hj j a ha
    exact ⟨cs, hl, hE cs a (List.mem_of_getElem? ha) he, fun i u hu => hc.cell (hF b hb (lt_of_cell (hi i u hu))) (hi i u hu)⟩⟩
theorem Ro.mono (h : Ro w F k E A n av) (hk : 0 < k) (hF : ∀ b, b < w.heap.size → F b → G b) (hE : ∀ cs a, a ∈ av → E cs a → E' cs a) : Ro w G k E' A n av :=
  ⟨h.len, fun hn => by
    obtain ⟨b, off, e, hb, hj⟩ := h.at_ hn
    have h0 : av[0]? = some (av[0]'(by have := h.len; omega)) := List.getElem?_eq_getElem _
    obtain ⟨cs0, hl0, _, hi0⟩ := hj 0 _ h0
    have hlt := lt_of_cell (hi0 0 (cs0[0]'(by omega)) (List.getElem?_eq_getElem _))
    refine ⟨b, off, e, hF b hlt hb, fun j a ha => ?_⟩
    obtain ⟨cs, hl, he, hi⟩ := hj j a ha
    exact ⟨cs, hl, hE cs a (List.mem_of_getElem? ha) he, hi⟩⟩
theorem Ro.get (h : Ro w F k E A n av) {j : Nat} (hj : j < n) : ∃ b off a cs, A = some ⟨b, off, none⟩ ∧ F b ∧ av[j]? = some a ∧ cs.length = k ∧ E cs a ∧ ∀ i u, cs[i]? = some u → w.cell? ⟨b, off + j * k + i, none⟩ = some u := by
  obtain ⟨b, off, e, hb, hc⟩ := h.at_ (by omega)
  have h0 : av[j]? = some (av[j]'(by have := h.len; omega)) := List.getElem?_eq_getElem _
  obtain ⟨cs, hl, he, hi⟩ := hc j _ h0
  exact ⟨b, off, _, cs, e, hb, h0, hl, he, hi⟩
end

/-- A slice of keys. -/
def Kss (w : World) (F : Nat → Prop) (A : Option Addr) (n : Nat) (l : List Key) : Prop := Vs w F A n (l.map kv)
section
variable {w w' : World} {F G S : Nat → Prop} {A : Option Addr} {n : Nat} {l : List Key}
theorem Kss.len (h : Kss w F A n l) : l.length = n := by simpa using h.1
theorem Kss.nil (w : World) (F : Nat → Prop) (A : Option Addr) : Kss w F A 0 [] := Vs.nil w F A
theorem Kss.ch (h : Kss w F A n l) (hc : Ch S w w') (hF : ∀ b, F b → b < w.heap.size → ¬ S b) : Kss w' F A n l := Vs.ch h hc hF
theorem Kss.mono (h : Kss w F A n l) (hF : ∀ b, b < w.heap.size → F b → G b) : Kss w G A n l := Vs.mono h hF
theorem Kss.alloc (h : Kss w F A n l) (o : Obj) : Kss (w.alloc o) F A n l := h.ch ((Ch.refl (fun _ => False) w).alloc o) (fun _ _ _ h => h)
theorem Kss.at_ (h : Kss w F A n l) {j : Nat} (hj : j < n) : ∃ b off k, A = some ⟨b, off, none⟩ ∧ F b ∧ Hid (l[j]? = some k) ∧ w.cell? ⟨b, off + j, none⟩ = some (kv k) := by
  obtain ⟨b, off, u, e, hb, hu, hc⟩ := Vs.at_ h hj
  have hu := hu.out
  rw [List.getElem?_map] at hu
  cases hx : l[j]? with
  | none => rw [hx] at hu; cases hu
  | some x =>
    rw [hx] at hu
    simp only [Option.map_some, Option.some.injEq] at hu
    subst hu
    exact ⟨b, off, x, e, hb, rfl, hc⟩
theorem Kss.drop {b off k : Nat} (h : Kss w F (some ⟨b, off, none⟩) n l) (hk : k ≤ n) : Kss w F (some ⟨b, off + k, none⟩) (n - k) (l.drop k) := by
  unfold Kss
  rw [List.map_drop]
  exact Vs.drop h hk
theorem Kss.take {k : Nat} (h : Kss w F A n l) (hk : k ≤ n) : Kss w F A k (l.take k) := by
  unfold Kss
  rw [List.map_take]
  exact Vs.take h hk
theorem kv_cells (l : List Key) : ∀ u ∈ l.map kv, u.oneCell' = true := by
  intro u hu
  obtain ⟨x, _, rfl⟩ := List.mem_map.1 hu
  rfl
end

/-- A document's cells. -/
def DocE (w : World) (F : Nat → Prop) (cs : List Value) (d : Dc) : Prop := ∃ A c, cs = [kv d.1, .slice A d.2.length c] ∧ Sl w F .u8 A d.2.length d.2 ∧ d.2.length ≤ c ∧ c ≤ maxLen
/-- A slice of documents. -/
def Dcs (w : World) (F : Nat → Prop) (A : Option Addr) (n : Nat) (ds : List Dc) : Prop := Ro w F 2 (DocE w F) A n ds
section
variable {w w' : World} {F G S : Nat → Prop} {A : Option Addr} {n : Nat} {ds : List Dc} {d : Dc} {cs : List Value}
theorem DocE.ch (h : DocE w F cs d) (hc : Ch S w w') (hF : ∀ b, F b → b < w.heap.size → ¬ S b) : DocE w' F cs d := by
  obtain ⟨A, c, e, hs, h1, h2⟩ := h
  exact ⟨A, c, e, hs.ch hc hF, h1, h2⟩
theorem DocE.mono (h : DocE w F cs d) (hF : ∀ b, b < w.heap.size → F b → G b) : DocE w G cs d := by
  obtain ⟨A, c, e, hs, h1, h2⟩ := h
  exact ⟨A, c, e, hs.mono hF, h1, h2⟩
theorem Dcs.len (h : Dcs w F A n ds) : ds.length = n := Ro.len h
theorem Dcs.nil (w : World) (F : Nat → Prop) (A : Option Addr) : Dcs w F A 0 [] := Ro.nil _ _ _ _ _
theorem Dcs.ch (h : Dcs w F A n ds) (hc : Ch S w w') (hF : ∀ b, F b → b < w.heap.size → ¬ S b) : Dcs w' F A n ds := Ro.ch h (by omega) hc hF fun _ _ _ he => he.ch hc hF
theorem Dcs.mono (h : Dcs w F A n ds) (hF : ∀ b, b < w.heap.size → F b → G b) : Dcs w G A n ds := Ro.mono h (by omega) hF fun _ _ _ he => he.mono hF
theorem Dcs.alloc (h : Dcs w F A n ds) (o : Obj) : Dcs (w.alloc o) F A n ds := h.ch ((Ch.refl (fun _ => False) w).alloc o) (fun _ _ _ h => h)
/-- The j-th document. -/
theorem Dcs.get (h : Dcs w F A n ds) {j : Nat} (hj : j < n) : ∃ b off d B c, A = some ⟨b, off, none⟩ ∧ F b ∧ Hid (ds[j]? = some d) ∧ w.cell? ⟨b, off + j * 2, none⟩ = some (kv d.1) ∧ w.cell? ⟨b, off + j * 2 + 1, none⟩ = some (.slice B d.2.length c) ∧ Sl w F .u8 B d.2.length d.2 ∧ d.2.length ≤ c ∧ c ≤ maxLen := by
  obtain ⟨b, off, d, cs, e, hb, hd, hl, ⟨B, c, rfl, hs, h1, h2⟩, hi⟩ := Ro.get h hj
  exact ⟨b, off, d, B, c, e, hb, hd, hi 0 _ rfl, hi 1 _ rfl, hs, h1, h2⟩
end

/-- A set: its documents, its keys that are gone. -/
abbrev St := List Dc × List Key
def SetE (w : World) (F : Nat → Prop) (cs : List Value) (s : St) : Prop := ∃ A c B d, cs = [.slice A s.1.length c, .slice B s.2.length d] ∧ Dcs w F A s.1.length s.1 ∧ Kss w F B s.2.length s.2 ∧ s.1.length ≤ c ∧ c ≤ maxLen ∧ s.2.length ≤ d ∧ d ≤ maxLen
/-- A slice of sets. -/
def Sts (w : World) (F : Nat → Prop) (A : Option Addr) (n : Nat) (l : List St) : Prop := Ro w F 2 (SetE w F) A n l
section
variable {w w' : World} {F G S : Nat → Prop} {A : Option Addr} {n : Nat} {l : List St} {s : St} {cs : List Value}
theorem SetE.ch (h : SetE w F cs s) (hc : Ch S w w') (hF : ∀ b, F b → b < w.heap.size → ¬ S b) : SetE w' F cs s := by
  obtain ⟨A, c, B, d, e, hd, hk, r⟩ := h
  exact ⟨A, c, B, d, e, hd.ch hc hF, hk.ch hc hF, r⟩
theorem SetE.mono (h : SetE w F cs s) (hF : ∀ b, b < w.heap.size → F b → G b) : SetE w G cs s := by
  obtain ⟨A, c, B, d, e, hd, hk, r⟩ := h
  exact ⟨A, c, B, d, e, hd.mono hF, hk.mono hF, r⟩
theorem Sts.len (h : Sts w F A n l) : l.length = n := Ro.len h
theorem Sts.nil (w : World) (F : Nat → Prop) (A : Option Addr) : Sts w F A 0 [] := Ro.nil _ _ _ _ _
theorem Sts.ch (h : Sts w F A n l) (hc : Ch S w w') (hF : ∀ b, F b → b < w.heap.size → ¬ S b) : Sts w' F A n l := Ro.ch h (by omega) hc hF fun _ _ _ he => he.ch hc hF
theorem Sts.mono (h : Sts w F A n l) (hF : ∀ b, b < w.heap.size → F b → G b) : Sts w G A n l := Ro.mono h (by omega) hF fun _ _ _ he => he.mono hF
theorem Sts.get (h : Sts w F A n l) {j : Nat} (hj : j < n) : ∃ b off s B c D d, A = some ⟨b, off, none⟩ ∧ F b ∧ Hid (l[j]? = some s) ∧ w.cell? ⟨b, off + j * 2, none⟩ = some (.slice B s.1.length c) ∧ w.cell? ⟨b, off + j * 2 + 1, none⟩ = some (.slice D s.2.length d) ∧ Dcs w F B s.1.length s.1 ∧ Kss w F D s.2.length s.2 ∧ s.1.length ≤ c ∧ c ≤ maxLen ∧ s.2.length ≤ d ∧ d ≤ maxLen := by
  obtain ⟨b, off, s, cs, e, hb, hd, hl, ⟨B, c, D, d, rfl, hs, hk, r⟩, hi⟩ := Ro.get h hj
  exact ⟨b, off, s, B, c, D, d, e, hb, hd, hi 0 _ rfl, hi 1 _ rfl, hs, hk, r⟩
end
end Go.Sg
