/- Lemmas and contracts of this proof. Conditions: said at each. -/
import Derived.Test.YtbkakhfepiooaaaGreatDoorQGDkMath
import Derived.Test.YtbkakhfepiooaaaGreatDoorQGMmMath
import Derived.Test.YtbkakhfepiooaaaGreatDoorQGOcWords
import Derived.Sort.Row
import Derived.Maps.OwnSet
import Derived.Maps.RangeWalk
import Derived.Sort.KeysCollected
namespace Go.Sg
section
open Go.Oct Go.Su Go.RowKit
/-- A key as a value. -/
def kv (k : Key) : Value := .string ⟨k.toArray⟩
theorem kv_data (s : ByteArray) : kv s.data.toList = .string s := by
  unfold kv
  rfl
theorem kv_list (k : Key) : (⟨k.toArray⟩ : ByteArray).data.toList = k := by simp
theorem kv_size (k : Key) : (⟨k.toArray⟩ : ByteArray).size = k.length := by simp [ByteArray.size]
theorem kv_inj {a b : Key} (h : kv a = kv b) : a = b := by
  unfold kv at h
  injection h with h
  have := congrArg (fun s : ByteArray => s.data.toList) h
  simpa using this
/-- A slice of elements of k cells each; E: what an element's cells are. -/
structure Ro {α : Type} (w : World) (F : Nat → Prop) (k : Nat) (E : List Value → α → Prop) (A : Option Addr) (n : Nat) (av : List α) : Prop where
  len : av.length = n
  at_ : 0 < n → ∃ b off, A = some ⟨b, off, none⟩ ∧ F b ∧ ∀ j a, av[j]? = some a → ∃ cs, cs.length = k ∧ E cs a ∧ ∀ i u, cs[i]? = some u → w.cell? ⟨b, off + j * k + i, none⟩ = some u
section
variable {α : Type} {w w' : World} {F G S : Nat → Prop} {k : Nat} {E E' : List Value → α → Prop} {A : Option Addr} {n : Nat} {av : List α}
theorem Ro.nil (w : World) (F : Nat → Prop) (k : Nat) (E : List Value → α → Prop) (A : Option Addr) : Ro w F k E A 0 [] := ⟨rfl, fun h => absurd h (by omega)⟩
theorem Ro.ch (h : Ro w F k E A n av) (_ : 0 < k) (hc : Ch S w w') (hF : ∀ b, F b → b < w.heap.size → ¬ S b) (hE : ∀ cs a, a ∈ av → E cs a → E' cs a) : Ro w' F k E' A n av :=
  ⟨h.len, fun hn => by
    obtain ⟨b, off, e, hb, hj⟩ := h.at_ hn
    refine ⟨b, off, e, hb, fun j a ha => ?_⟩
    obtain ⟨cs, hl, he, hi⟩ := hj j a ha
    exact ⟨cs, hl, hE cs a (List.mem_of_getElem? ha) he, fun i u hu => hc.cell (hF b hb (lt_of_cell (hi i u hu))) (hi i u hu)⟩⟩
theorem Ro.mono (h : Ro w F k E A n av) (hk : 0 < k) (hF : ∀ b, b < w.heap.size → F b → G b) (hE : ∀ cs a, a ∈ av → E cs a → E' cs a) : Ro w G k E' A n av :=
  ⟨h.len, fun hn => by
    obtain ⟨b, off, e, hb, hj⟩ := h.at_ hn
    have h0 : av[0]? = some (av[0]'(by have := h.len; omega)) := List.getElem?_eq_getElem _
    obtain ⟨cs0, hl0, _, hi0⟩ := hj 0 _ h0
    have hlt := lt_of_cell (hi0 0 (cs0[0]'(by omega)) (List.getElem?_eq_getElem _))
    refine ⟨b, off, e, hF b hlt hb, fun j a ha => ?_⟩
    obtain ⟨cs, hl, he, hi⟩ := hj j a ha
    exact ⟨cs, hl, hE cs a (List.mem_of_getElem? ha) he, hi⟩⟩
theorem Ro.get (h : Ro w F k E A n av) {j : Nat} (hj : j < n) : ∃ b off a cs, A = some ⟨b, off, none⟩ ∧ F b ∧ av[j]? = some a ∧ cs.length = k ∧ E cs a ∧ ∀ i u, cs[i]? = some u → w.cell? ⟨b, off + j * k + i, none⟩ = some u := by
  obtain ⟨b, off, e, hb, hc⟩ := h.at_ (by omega)
  have h0 : av[j]? = some (av[j]'(by have := h.len; omega)) := List.getElem?_eq_getElem _
  obtain ⟨cs, hl, he, hi⟩ := hc j _ h0
  exact ⟨b, off, _, cs, e, hb, h0, hl, he, hi⟩
end
/-- A slice of keys. -/
def Kss (w : World) (F : Nat → Prop) (A : Option Addr) (n : Nat) (l : List Key) : Prop := Vs w F A n (l.map kv)
section
variable {w w' : World} {F G S : Nat → Prop} {A : Option Addr} {n : Nat} {l : List Key}
theorem Kss.len (h : Kss w F A n l) : l.length = n := by simpa using h.1
theorem Kss.nil (w : World) (F : Nat → Prop) (A : Option Addr) : Kss w F A 0 [] := Vs.nil w F A
theorem Kss.ch (h : Kss w F A n l) (hc : Ch S w w') (hF : ∀ b, F b → b < w.heap.size → ¬ S b) : Kss w' F A n l := Vs.ch h hc hF
theorem Kss.mono (h : Kss w F A n l) (hF : ∀ b, b < w.heap.size → F b → G b) : Kss w G A n l := Vs.mono h hF
theorem Kss.alloc (h : Kss w F A n l) (o : Obj) : Kss (w.alloc o) F A n l := h.ch ((Ch.refl (fun _ => False) w).alloc o) (fun _ _ _ h => h)
theorem Kss.at_ (h : Kss w F A n l) {j : Nat} (hj : j < n) : ∃ b off k, A = some ⟨b, off, none⟩ ∧ F b ∧ Hid (l[j]? = some k) ∧ w.cell? ⟨b, off + j, none⟩ = some (kv k) := by
  obtain ⟨b, off, u, e, hb, hu, hc⟩ := Vs.at_ h hj
  have hu := hu.out
  rw [List.getElem?_map] at hu
  cases hx : l[j]? with
  | none => rw [hx] at hu; cases hu
  | some x =>
    rw [hx] at hu
    simp only [Option.map_some, Option.some.injEq] at hu
    subst hu
    exact ⟨b, off, x, e, hb, rfl, hc⟩
theorem Kss.drop {b off k : Nat} (h : Kss w F (some ⟨b, off, none⟩) n l) (hk : k ≤ n) : Kss w F (some ⟨b, off + k, none⟩) (n - k) (l.drop k) := by
  unfold Kss
  rw [List.map_drop]
  exact Vs.drop h hk
theorem Kss.take {k : Nat} (h : Kss w F A n l) (hk : k ≤ n) : Kss w F A k (l.take k) := by
  unfold Kss
  rw [List.map_take]
  exact Vs.take h hk
theorem kv_cells (l : List Key) : ∀ u ∈ l.map kv, u.oneCell' = true := by
  intro u hu
  obtain ⟨x, _, rfl⟩ := List.mem_map.1 hu
  rfl
end
/-- A document's cells. -/
def DocE (w : World) (F : Nat → Prop) (cs : List Value) (d : Dc) : Prop := ∃ A c, cs = [kv d.1, .slice A d.2.length c] ∧ Sl w F .u8 A d.2.length d.2 ∧ d.2.length ≤ c ∧ c ≤ maxLen
/-- A slice of documents. -/
def Dcs (w : World) (F : Nat → Prop) (A : Option Addr) (n : Nat) (ds : List Dc) : Prop := Ro w F 2 (DocE w F) A n ds
section
variable {w w' : World} {F G S : Nat → Prop} {A : Option Addr} {n : Nat} {ds : List Dc} {d : Dc} {cs : List Value}
theorem DocE.ch (h : DocE w F cs d) (hc : Ch S w w') (hF : ∀ b, F b → b < w.heap.size → ¬ S b) : DocE w' F cs d := by
  obtain ⟨A, c, e, hs, h1, h2⟩ := h
  exact ⟨A, c, e, hs.ch hc hF, h1, h2⟩
theorem DocE.mono (h : DocE w F cs d) (hF : ∀ b, b < w.heap.size → F b → G b) : DocE w G cs d := by
  obtain ⟨A, c, e, hs, h1, h2⟩ := h
  exact ⟨A, c, e, hs.mono hF, h1, h2⟩
theorem Dcs.len (h : Dcs w F A n ds) : ds.length = n := Ro.len h
theorem Dcs.nil (w : World) (F : Nat → Prop) (A : Option Addr) : Dcs w F A 0 [] := Ro.nil _ _ _ _ _
theorem Dcs.ch (h : Dcs w F A n ds) (hc : Ch S w w') (hF : ∀ b, F b → b < w.heap.size → ¬ S b) : Dcs w' F A n ds := Ro.ch h (by omega) hc hF fun _ _ _ he => he.ch hc hF
theorem Dcs.mono (h : Dcs w F A n ds) (hF : ∀ b, b < w.heap.size → F b → G b) : Dcs w G A n ds := Ro.mono h (by omega) hF fun _ _ _ he => he.mono hF
theorem Dcs.alloc (h : Dcs w F A n ds) (o : Obj) : Dcs (w.alloc o) F A n ds := h.ch ((Ch.refl (fun _ => False) w).alloc o) (fun _ _ _ h => h)
/-- The j-th document. -/
theorem Dcs.get (h : Dcs w F A n ds) {j : Nat} (hj : j < n) : ∃ b off d B c, A = some ⟨b, off, none⟩ ∧ F b ∧ Hid (ds[j]? = some d) ∧ w.cell? ⟨b, off + j * 2, none⟩ = some (kv d.1) ∧ w.cell? ⟨b, off + j * 2 + 1, none⟩ = some (.slice B d.2.length c) ∧ Sl w F .u8 B d.2.length d.2 ∧ d.2.length ≤ c ∧ c ≤ maxLen := by
  obtain ⟨b, off, d, cs, e, hb, hd, hl, ⟨B, c, rfl, hs, h1, h2⟩, hi⟩ := Ro.get h hj
  exact ⟨b, off, d, B, c, e, hb, hd, hi 0 _ rfl, hi 1 _ rfl, hs, h1, h2⟩
end
/-- A set: its documents, its keys that are gone. -/
abbrev St := List Dc × List Key
def SetE (w : World) (F : Nat → Prop) (cs : List Value) (s : St) : Prop := ∃ A c B d, cs = [.slice A s.1.length c, .slice B s.2.length d] ∧ Dcs w F A s.1.length s.1 ∧ Kss w F B s.2.length s.2 ∧ s.1.length ≤ c ∧ c ≤ maxLen ∧ s.2.length ≤ d ∧ d ≤ maxLen
/-- A slice of sets. -/
def Sts (w : World) (F : Nat → Prop) (A : Option Addr) (n : Nat) (l : List St) : Prop := Ro w F 2 (SetE w F) A n l
section
variable {w w' : World} {F G S : Nat → Prop} {A : Option Addr} {n : Nat} {l : List St} {s : St} {cs : List Value}
theorem SetE.ch (h : SetE w F cs s) (hc : Ch S w w') (hF : ∀ b, F b → b < w.heap.size → ¬ S b) : SetE w' F cs s := by
  obtain ⟨A, c, B, d, e, hd, hk, r⟩ := h
  exact ⟨A, c, B, d, e, hd.ch hc hF, hk.ch hc hF, r⟩
theorem SetE.mono (h : SetE w F cs s) (hF : ∀ b, b < w.heap.size → F b → G b) : SetE w G cs s := by
  obtain ⟨A, c, B, d, e, hd, hk, r⟩ := h
  exact ⟨A, c, B, d, e, hd.mono hF, hk.mono hF, r⟩
theorem Sts.len (h : Sts w F A n l) : l.length = n := Ro.len h
theorem Sts.nil (w : World) (F : Nat → Prop) (A : Option Addr) : Sts w F A 0 [] := Ro.nil _ _ _ _ _
theorem Sts.ch (h : Sts w F A n l) (hc : Ch S w w') (hF : ∀ b, F b → b < w.heap.size → ¬ S b) : Sts w' F A n l := Ro.ch h (by omega) hc hF fun _ _ _ he => he.ch hc hF
theorem Sts.mono (h : Sts w F A n l) (hF : ∀ b, b < w.heap.size → F b → G b) : Sts w G A n l := Ro.mono h (by omega) hF fun _ _ _ he => he.mono hF
theorem Sts.get (h : Sts w F A n l) {j : Nat} (hj : j < n) : ∃ b off s B c D d, A = some ⟨b, off, none⟩ ∧ F b ∧ Hid (l[j]? = some s) ∧ w.cell? ⟨b, off + j * 2, none⟩ = some (.slice B s.1.length c) ∧ w.cell? ⟨b, off + j * 2 + 1, none⟩ = some (.slice D s.2.length d) ∧ Dcs w F B s.1.length s.1 ∧ Kss w F D s.2.length s.2 ∧ s.1.length ≤ c ∧ c ≤ maxLen ∧ s.2.length ≤ d ∧ d ≤ maxLen := by
  obtain ⟨b, off, s, cs, e, hb, hd, hl, ⟨B, c, D, d, rfl, hs, hk, r⟩, hi⟩ := Ro.get h hj
  exact ⟨b, off, s, B, c, D, d, e, hb, hd, hi 0 _ rfl, hi 1 _ rfl, hs, hk, r⟩
end
end
end Go.Sg
namespace Go.Mt
section
open Go.RowKit Go.Oct Go.Maps Go.WideShapes Go.Sg
def heldR (v : Value) : Option (DataW Value × List MemPlace) := some (.held v, [])
/-- What the map holds. -/
def mapK (ks : List Key) (vf : Key → Value) : DataW Value := .map (ks.map fun k => (Lit.string k, .held (vf k)))
/-- Values, one of them another. -/
def upd (vf : Key → Value) (k : Key) (v : Value) : Key → Value := fun j => if j = k then v else vf j
section
variable {ks : List Key} {vf : Key → Value} {k : Key} {v : Value}
theorem str_before {a b : Key} : (Lit.string a).before (.string b) = decide (a < b) := by
  show bytesBefore a b = decide (a < b)
  induction a generalizing b with
  | nil => cases b <;> simp [bytesBefore]
  | cons x a ih =>
    cases b with
    | nil => simp [bytesBefore]
    | cons y b =>
      unfold bytesBefore
      rw [ih, Bool.eq_iff_iff]
      simp only [List.cons_lt_cons_iff, Bool.or_eq_true, Bool.and_eq_true, decide_eq_true_eq, beq_iff_eq]
theorem lit_key (k : Key) : WideAt.IsKeyLit (.string k) := trivial
theorem canon_mapK (h : RiseF id ks) : Canon (mapK ks vf) := by
  refine ⟨_, rfl, ?_, fun p hp => ?_⟩
  · rw [List.pairwise_map]
    exact List.Pairwise.imp (fun {a b} (hab : id a < id b) => by rw [str_before]; simpa using hab) h
  · obtain ⟨x, _, rfl⟩ := List.mem_map.1 hp
    exact lit_key _
theorem has_mapK (ks : List Key) (vf : Key → Value) (k : Key) : has (mapK ks vf) (.string k) = decide (k ∈ ks) := by
  unfold mapK
  rw [has_eq]
  induction ks with
  | nil => simp
  | cons a l ih =>
    rw [List.map_cons, List.any_cons, ih]
    by_cases h : a = k
    · subst h; simp [Lit.sameKey]
    · have : (Lit.string a).sameKey (.string k) = false := sameKey_ne (fun e => h (by injection e))
      have h2 : k ≠ a := fun e => h e.symm
      simp [this, h2]
theorem has_mapK_no (ks : List Key) (vf : Key → Value) {kl : Lit} (h : ∀ k, kl ≠ .string k) : has (mapK ks vf) kl = false := by
  unfold mapK
  rw [has_eq, List.any_eq_false]
  intro p hp
  obtain ⟨x, _, rfl⟩ := List.mem_map.1 hp
  simp only [Bool.not_eq_true]
  exact sameKey_ne (fun e => h _ e.symm)
theorem at_mapK (h : RiseF id ks) (hk : k ∈ ks) (z : DataW Value) : (mapK ks vf).atKey (.string k) z = .held (vf k) := by
  obtain ⟨es, e, hs, _⟩ := canon_mapK (vf := vf) h
  have he : es = ks.map fun k => (Lit.string k, .held (vf k)) := by unfold mapK at e; injection e with e; exact e.symm
  rw [e]
  exact WideAt.atKey_mem z (k := .string k) (d := .held (vf k)) (lit_key _) (apart_of_rising hs) (by rw [he]; exact List.mem_map_of_mem (f := fun k : Key => (Lit.string k, DataW.held (vf k))) hk)
theorem at_mapK_no (hk : k ∉ ks) (z : DataW Value) : (mapK ks vf).atKey (.string k) z = z := atKey_of_not_has (by rw [has_mapK]; simpa using hk) z
theorem size_mapK (ks : List Key) (vf : Key → Value) : Maps.size (mapK ks vf) = ks.length := by unfold mapK; rw [size_eq, List.length_map]
theorem isMap_mapK (ks : List Key) (vf : Key → Value) : IsMap (mapK ks vf) := ⟨_, rfl⟩
theorem mem_putK {j : Key} : j ∈ put id ks k ↔ j = k ∨ j ∈ ks := by
  rw [mem_put]
  constructor
  · rintro (h | ⟨h, _⟩)
    · exact .inl h
    · exact .inr h
  · rintro (h | h)
    · exact .inl h
    · by_cases e : j = k
      · exact .inl e
      · exact .inr ⟨h, e⟩
/-- A key laid, what map it was. -/
theorem put_canon {P : Program} {kt : TypeId} {w : World} {b n : Nat} (K : Keyed P kt) (h : RiseF id ks) (hown : w.ownsMap P kt heldR b n ((mapK ks vf).put (.string k) (.held v))) : (mapK ks vf).put (.string k) (.held v) = mapK (put id ks k) (upd vf k v) := by
  refine Maps.ext (hown.canon K) (canon_mapK (riseF_put h k)) (fun kl => ?_) (fun kl z hk => ?_)
  · by_cases e : kl = .string k
    · subst e
      rw [has_put_same (isMap_mapK _ _) (lit_key _), has_mapK]
      simp [mem_putK]
    · rw [has_put_other e]
      by_cases es : ∃ j, kl = .string j
      · obtain ⟨j, rfl⟩ := es
        have hne : j ≠ k := fun e2 => e (by rw [e2])
        rw [has_mapK, has_mapK]
        simp [mem_putK, hne]
      · rw [has_mapK_no _ _ (fun k e => es ⟨k, e⟩), has_mapK_no _ _ (fun k e => es ⟨k, e⟩)]
  · by_cases e : kl = .string k
    · subst e
      rw [atKey_put_same (isMap_mapK _ _) (lit_key _), at_mapK (riseF_put h k) (mem_putK.2 (.inl rfl))]
      simp [upd]
    · rw [has_put_other e] at hk
      rw [atKey_put_other e]
      by_cases es : ∃ j, kl = .string j
      · obtain ⟨j, rfl⟩ := es
        have hne : j ≠ k := fun e2 => e (by rw [e2])
        rw [has_mapK] at hk
        have hj : j ∈ ks := by simpa using hk
        rw [at_mapK h hj, at_mapK (riseF_put h k) (mem_putK.2 (.inr hj))]
        simp [upd, hne]
      · rw [has_mapK_no _ _ (fun k e => es ⟨k, e⟩)] at hk
        cases hk
theorem mem_delK {j : Key} : j ∈ del id ks k ↔ j ∈ ks ∧ j ≠ k := mem_del
theorem del_canon {P : Program} {kt : TypeId} {w : World} {b n : Nat} (K : Keyed P kt) (h : RiseF id ks) (hown : w.ownsMap P kt heldR b n ((mapK ks vf).del (.string k))) : (mapK ks vf).del (.string k) = mapK (del id ks k) vf := by
  refine Maps.ext (hown.canon K) (canon_mapK (riseF_del h k)) (fun kl => ?_) (fun kl z hk => ?_)
  · by_cases e : kl = .string k
    · subst e
      rw [has_del_same, has_mapK]
      simp [mem_delK]
    · rw [has_del_other e]
      by_cases es : ∃ j, kl = .string j
      · obtain ⟨j, rfl⟩ := es
        have hne : j ≠ k := fun e2 => e (by rw [e2])
        rw [has_mapK, has_mapK]
        simp [mem_delK, hne]
      · rw [has_mapK_no _ _ (fun k e => es ⟨k, e⟩), has_mapK_no _ _ (fun k e => es ⟨k, e⟩)]
  · by_cases e : kl = .string k
    · subst e
      rw [has_del_same] at hk
      cases hk
    · rw [has_del_other e] at hk
      rw [atKey_del_other e]
      by_cases es : ∃ j, kl = .string j
      · obtain ⟨j, rfl⟩ := es
        have hne : j ≠ k := fun e2 => e (by rw [e2])
        rw [has_mapK] at hk
        have hj : j ∈ ks := by simpa using hk
        rw [at_mapK h hj, at_mapK (riseF_del h k) (mem_delK.2 ⟨hj, hne⟩)]
      · rw [has_mapK_no _ _ (fun k e => es ⟨k, e⟩)] at hk
        cases hk
/-- How many entries there are. -/
theorem own_tight {P : Program} {kt : TypeId} {w : World} {b n : Nat} {R : Value → Option (DataW Value × List MemPlace)} {D : DataW Value} (h : w.ownsMap P kt R b n D) : w.ownsMap P kt R b (Maps.size D) D := by
  obtain ⟨es, c, h1, h2, h3, rfl⟩ := h
  exact ⟨es, c, h1, h2, by rw [size_eq, length_read]; exact Nat.le_refl _, rfl⟩
theorem strKeys_mapK (ks : List Key) (vf : Key → Value) : strKeys (mapK ks vf) = ks := by
  show (ks.map fun k => (Lit.string k, DataW.held (vf k))).map (fun p => strOf p.1) = ks
  rw [List.map_map]
  show ks.map (fun k => k) = ks
  simp
end
/-! ### the keys of a table -/
section
variable {α : Type} {f : α → Key} {l : List α} {x : α} {k : Key} {ks gs : List Key} {ds : List Dc} {t : List Int}
theorem del_perm (f : α → Key) (l : List α) (k : Key) : (del f l k).Perm (l.filter fun x => decide (f x ≠ k)) := by
  have h1 : lo f l k = (l.filter fun x => decide (f x ≠ k)).filter fun x => decide (f x < k) := by
    unfold lo
    rw [List.filter_filter]
    refine List.filter_congr fun z _ => ?_
    by_cases h : f z < k
    · simp [h, keyne h]
    · simp [h]
  have h2 : hi f l k = (l.filter fun x => decide (f x ≠ k)).filter fun x => !decide (f x < k) := by
    unfold hi
    rw [List.filter_filter]
    refine List.filter_congr fun z _ => ?_
    rcases key_tri (f z) k with h | h | h
    · simp [h, key_le_of_lt h]
    · simp [h, key_irrefl]
    · simp [h, key_le_of_lt h, (keyne h).symm]
  unfold del
  rw [h1, h2]
  exact List.filter_append_perm _ _
theorem put_perm (f : α → Key) (l : List α) (x : α) : (put f l x).Perm (x :: del f l (f x)) := List.perm_middle
theorem kperm_del0 (h : ks.Perm (ds.map (·.1) ++ gs)) (k : Key) : (del id ks k).Perm ((del (·.1) ds k).map (·.1) ++ del id gs k) := by
  refine (del_perm _ _ _).trans ((h.filter _).trans ?_)
  rw [List.filter_append, List.filter_map]
  exact (((del_perm (·.1) ds k).map _).append (del_perm id gs k)).symm
theorem kperm_put (h : ks.Perm (ds.map (·.1) ++ gs)) (k : Key) (t : List Int) : (put id ks k).Perm ((put (·.1) ds (k, t)).map (·.1) ++ del id gs k) := by
  refine (put_perm id ks k).trans (((kperm_del0 h k).cons k).trans ?_)
  exact (((put_perm (·.1) ds (k, t)).map (·.1)).append (List.Perm.refl (del id gs k))).symm
theorem kperm_del (h : ks.Perm (ds.map (·.1) ++ gs)) (k : Key) : (put id ks k).Perm ((del (·.1) ds k).map (·.1) ++ put id gs k) := by
  refine (put_perm id ks k).trans (((kperm_del0 h k).cons k).trans ?_)
  exact (List.perm_middle.symm).trans ((List.Perm.refl _).append (put_perm id gs k).symm)
theorem kmem (h : ks.Perm (ds.map (·.1) ++ gs)) {k : Key} : k ∈ ks ↔ (∃ d ∈ ds, d.1 = k) ∨ k ∈ gs := by
  rw [h.mem_iff, List.mem_append, List.mem_map]
/-- The known keys that have a text, those that are gone. -/
theorem keys_docs (ok : TabOk ds gs) (hr : RiseF id ks) (h : ks.Perm (ds.map (·.1) ++ gs)) : (ks.filter fun k => decide (∃ d ∈ ds, d.1 = k)) = ds.map (·.1) := by
  refine srt_uniq (Rise.srt (List.Pairwise.filter _ hr)) (Rise.srt ok.dr.rise) ?_
  refine (h.filter _).trans ?_
  rw [List.filter_append, List.filter_eq_self.2 (fun k hk => by obtain ⟨d, hd, rfl⟩ := List.mem_map.1 hk; exact decide_eq_true ⟨d, hd, rfl⟩), List.filter_eq_nil_iff.2 (fun k hk => by
    simp only [decide_eq_true_eq]
    rintro ⟨d, hd, rfl⟩
    exact ok.apart d hd hk), List.append_nil]
theorem keys_gone (ok : TabOk ds gs) (hr : RiseF id ks) (h : ks.Perm (ds.map (·.1) ++ gs)) : (ks.filter fun k => !decide (∃ d ∈ ds, d.1 = k)) = gs := by
  refine srt_uniq (Rise.srt (List.Pairwise.filter _ hr)) (Rise.srt ok.gr) ?_
  refine (h.filter _).trans ?_
  rw [List.filter_append, List.filter_eq_nil_iff.2 (fun k hk => by obtain ⟨d, hd, rfl⟩ := List.mem_map.1 hk; simpa using (⟨d, hd, rfl⟩ : ∃ e ∈ ds, e.1 = d.1)), List.nil_append, List.filter_eq_self.2 (fun k hk => by
    simp only [Bool.not_eq_true', decide_eq_false_iff_not]
    rintro ⟨d, hd, rfl⟩
    exact ok.apart d hd hk)]
end
end
end Go.Mt
namespace Go.Dk
section
open Go.RowKit Go.Oct Go.Maps Go.WideShapes
/-- A name as a value. -/
def kv (k : Key) : Value := .string ⟨k.toArray⟩
theorem kv_data (s : ByteArray) : kv s.data.toList = .string s := rfl
theorem kv_inj {a b : Key} (h : kv a = kv b) : a = b := by
  unfold kv at h
  injection h with h
  simpa using congrArg (fun s : ByteArray => s.data.toList) h
theorem key_list (k : Key) : (⟨k.toArray⟩ : ByteArray).data.toList = k := by simp
theorem key_size (k : Key) : (⟨k.toArray⟩ : ByteArray).size = k.length := by simp [ByteArray.size]
theorem kv_cells (l : List Key) : ∀ u ∈ l.map kv, u.oneCell' = true := by
  intro u hu
  obtain ⟨x, _, rfl⟩ := List.mem_map.1 hu
  rfl
/-- Where something lies, as a value. -/
def pv (a : Nat) : Value := .pointer (some ⟨a, 0, none⟩)
def heldR (v : Value) : Option (DataW Value × List MemPlace) := some (.held v, [])
/-- What the map holds. -/
def mapD (fs : Fs) (ad : Key → Nat) : DataW Value := .map (fs.map fun x => (Lit.string x.nm, .held (pv (ad x.nm))))
section
variable {fs : Fs} {ad : Key → Nat} {k : Key}
theorem str_before {a b : Key} : (Lit.string a).before (.string b) = decide (a < b) := by
  show bytesBefore a b = decide (a < b)
  induction a generalizing b with
  | nil => cases b <;> simp [bytesBefore]
  | cons x a ih =>
    cases b with
    | nil => simp [bytesBefore]
    | cons y b =>
      unfold bytesBefore
      rw [ih, Bool.eq_iff_iff]
      simp only [List.cons_lt_cons_iff, Bool.or_eq_true, Bool.and_eq_true, decide_eq_true_eq, beq_iff_eq]
theorem lit_key (k : Key) : WideAt.IsKeyLit (.string k) := trivial
theorem canon_mapD (h : Rise (nms fs)) : Canon (mapD fs ad) := by
  refine ⟨_, rfl, ?_, fun p hp => ?_⟩
  · rw [List.pairwise_map]
    unfold Rise nms at h
    rw [List.pairwise_map] at h
    exact h.imp fun {a b} hab => by rw [str_before]; simpa using hab
  · obtain ⟨x, _, rfl⟩ := List.mem_map.1 hp
    exact lit_key _
theorem has_mapD (fs : Fs) (ad : Key → Nat) (k : Key) : has (mapD fs ad) (.string k) = (fnd fs k).isSome := by
  unfold mapD
  rw [has_eq]
  unfold fnd
  induction fs with
  | nil => rfl
  | cons a l ih =>
    rw [List.map_cons, List.any_cons, ih, List.find?_cons]
    by_cases h : a.nm = k
    · subst h; simp [Lit.sameKey]
    · have : (Lit.string a.nm).sameKey (.string k) = false := sameKey_ne (fun e => h (by injection e))
      simp [this, h]
theorem has_mapD_no (fs : Fs) (ad : Key → Nat) {kl : Lit} (h : ∀ k, kl ≠ .string k) : has (mapD fs ad) kl = false := by
  unfold mapD
  rw [has_eq, List.any_eq_false]
  intro p hp
  obtain ⟨x, _, rfl⟩ := List.mem_map.1 hp
  simp only [Bool.not_eq_true]
  exact sameKey_ne (fun e => h _ e.symm)
theorem at_mapD (h : Rise (nms fs)) {f : Fl} (hf : fnd fs k = some f) (z : DataW Value) : (mapD fs ad).atKey (.string k) z = .held (pv (ad k)) := by
  obtain ⟨hm, rfl⟩ := fnd_some hf
  obtain ⟨es, e, hs, _⟩ := canon_mapD (ad := ad) h
  have he : es = fs.map fun x => (Lit.string x.nm, .held (pv (ad x.nm))) := by unfold mapD at e; injection e with e; exact e.symm
  rw [e]
  exact WideAt.atKey_mem z (k := .string f.nm) (d := .held (pv (ad f.nm))) (lit_key _) (apart_of_rising hs) (by rw [he]; exact List.mem_map_of_mem (f := fun x : Fl => (Lit.string x.nm, DataW.held (pv (ad x.nm)))) hm)
theorem at_mapD_no (hf : fnd fs k = none) (z : DataW Value) : (mapD fs ad).atKey (.string k) z = z := atKey_of_not_has (by rw [has_mapD, hf]; rfl) z
theorem size_mapD (fs : Fs) (ad : Key → Nat) : Maps.size (mapD fs ad) = fs.length := by unfold mapD; rw [size_eq, List.length_map]
theorem isMap_mapD (fs : Fs) (ad : Key → Nat) : IsMap (mapD fs ad) := ⟨_, rfl⟩
theorem mapD_congr {ad' : Key → Nat} (h : ∀ x ∈ fs, ad x.nm = ad' x.nm) : mapD fs ad = mapD fs ad' := by
  unfold mapD
  congr 1
  exact List.map_congr_left fun x hx => by rw [h x hx]
/-- Where files lie, one of them elsewhere. -/
def at1 (ad : Key → Nat) (k : Key) (a : Nat) : Key → Nat := fun j => if j = k then a else ad j
/-- A file of that name laid, what map it was. -/
theorem put_canon {P : Program} {kt : TypeId} {w : World} {b n : Nat} (K : Keyed P kt) {f : Fl} {a : Nat} (h : Rise (nms fs)) (hown : w.ownsMap P kt heldR b n ((mapD fs ad).put (.string f.nm) (.held (pv a)))) : (mapD fs ad).put (.string f.nm) (.held (pv a)) = mapD (put fs f) (at1 ad f.nm a) := by
  refine Maps.ext (hown.canon K) (canon_mapD (rise_put h f)) (fun kl => ?_) (fun kl z hk => ?_)
  · by_cases e : kl = .string f.nm
    · subst e
      rw [has_put_same (isMap_mapD _ _) (lit_key _), has_mapD, fnd_put_same h]
      rfl
    · rw [has_put_other e]
      by_cases es : ∃ k, kl = .string k
      · obtain ⟨k, rfl⟩ := es
        rw [has_mapD, has_mapD, fnd_put_other h (fun e2 => e (by rw [e2]))]
      · rw [has_mapD_no _ _ (fun k e => es ⟨k, e⟩), has_mapD_no _ _ (fun k e => es ⟨k, e⟩)]
  · by_cases e : kl = .string f.nm
    · subst e
      rw [atKey_put_same (isMap_mapD _ _) (lit_key _), at_mapD (rise_put h f) (fnd_put_same h f)]
      simp [at1]
    · rw [has_put_other e] at hk
      rw [atKey_put_other e]
      by_cases es : ∃ k, kl = .string k
      · obtain ⟨k, rfl⟩ := es
        have hne : k ≠ f.nm := fun e2 => e (by rw [e2])
        rw [has_mapD] at hk
        obtain ⟨g, hg⟩ := Option.isSome_iff_exists.1 hk
        rw [at_mapD h hg, at_mapD (rise_put h f) (by rw [fnd_put_other h hne]; exact hg)]
        simp [at1, hne]
      · rw [has_mapD_no _ _ (fun k e => es ⟨k, e⟩)] at hk
        cases hk
theorem del_canon {P : Program} {kt : TypeId} {w : World} {b n : Nat} (K : Keyed P kt) {k : Key} (h : Rise (nms fs)) (hown : w.ownsMap P kt heldR b n ((mapD fs ad).del (.string k))) : (mapD fs ad).del (.string k) = mapD (del fs k) ad := by
  refine Maps.ext (hown.canon K) (canon_mapD (rise_del h k)) (fun kl => ?_) (fun kl z hk => ?_)
  · by_cases e : kl = .string k
    · subst e
      rw [has_del_same, has_mapD, fnd_del_same]
      rfl
    · rw [has_del_other e]
      by_cases es : ∃ k, kl = .string k
      · obtain ⟨j, rfl⟩ := es
        rw [has_mapD, has_mapD, fnd_del_other h (fun e2 => e (by rw [e2]))]
      · rw [has_mapD_no _ _ (fun k e => es ⟨k, e⟩), has_mapD_no _ _ (fun k e => es ⟨k, e⟩)]
  · by_cases e : kl = .string k
    · subst e
      rw [has_del_same] at hk
      cases hk
    · rw [has_del_other e] at hk
      rw [atKey_del_other e]
      by_cases es : ∃ k, kl = .string k
      · obtain ⟨j, rfl⟩ := es
        have hne : j ≠ k := fun e2 => e (by rw [e2])
        rw [has_mapD] at hk
        obtain ⟨g, hg⟩ := Option.isSome_iff_exists.1 hk
        rw [at_mapD h hg, at_mapD (rise_del h k) (by rw [fnd_del_other h hne]; exact hg)]
      · rw [has_mapD_no _ _ (fun k e => es ⟨k, e⟩)] at hk
        cases hk
/-- How many entries there are. -/
theorem own_tight {P : Program} {kt : TypeId} {w : World} {b n : Nat} {R : Value → Option (DataW Value × List MemPlace)} {D : DataW Value} (h : w.ownsMap P kt R b n D) : w.ownsMap P kt R b (Maps.size D) D := by
  obtain ⟨es, c, h1, h2, h3, rfl⟩ := h
  exact ⟨es, c, h1, h2, by rw [size_eq, length_read]; exact Nat.le_refl _, rfl⟩
theorem strKeys_mapD (fs : Fs) (ad : Key → Nat) : strKeys (mapD fs ad) = nms fs := by
  show (fs.map fun x => (Lit.string x.nm, DataW.held (pv (ad x.nm)))).map (fun p => strOf p.1) = fs.map (·.nm)
  rw [List.map_map]
  rfl
end
end
end Go.Dk
