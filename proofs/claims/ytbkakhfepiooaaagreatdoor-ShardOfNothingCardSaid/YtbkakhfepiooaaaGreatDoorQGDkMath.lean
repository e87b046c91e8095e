/- Lemmas and contracts of this proof. Conditions: said at each. -/
import Derived.Test.YtbkakhfepiooaaaGreatDoorQGOcMath
import Derived.Maps.Ext
namespace Go.Dk
section
/-- A name. -/
abbrev Key := List UInt8
/-- Is it one? -/
def okN (k : Key) : Prop := 1 ≤ k.length ∧ k.length ≤ 64
instance (k : Key) : Decidable (okN k) := by unfold okN; exact inferInstance
/-! ### the order -/
theorem key_irrefl (a : Key) : ¬ a < a := List.lt_irrefl a
theorem key_trans {a b c : Key} (h : a < b) (k : b < c) : a < c := List.lt_trans h k
theorem key_tri (a b : Key) : a < b ∨ a = b ∨ b < a := by
  by_cases h : a < b
  · exact .inl h
  · by_cases k : b < a
    · exact .inr (.inr k)
    · exact .inr (.inl (List.le_antisymm (List.not_lt.1 k) (List.not_lt.1 h)))
theorem key_le_of_lt {a b : Key} (h : a < b) : ¬ b < a := fun k => key_irrefl a (key_trans h k)
theorem key_ne {a b : Key} (h : a < b) : a ≠ b := fun e => by subst e; exact key_irrefl _ h
/-- Sorted. -/
def Srt (l : List Key) : Prop := l.Pairwise fun a b => ¬ b < a
/-- Rising. -/
def Rise (l : List Key) : Prop := l.Pairwise fun a b => a < b
theorem Rise.srt {l : List Key} (h : Rise l) : Srt l := h.imp key_le_of_lt
theorem Rise.nodup {l : List Key} (h : Rise l) : l.Nodup := by
  unfold List.Nodup
  unfold Rise at h
  exact List.Pairwise.imp (fun {a b} (hab : a < b) => key_ne hab) h
theorem srt_uniq {l m : List Key} (hl : Srt l) (hm : Srt m) (hp : l.Perm m) : l = m :=
  List.Perm.eq_of_pairwise (le := fun a b => ¬ b < a) (fun a b _ _ h1 h2 => by
    rcases key_tri a b with h | h | h
    · exact absurd h h2
    · exact h
    · exact absurd h h1) hl hm hp
/-! ### files -/
/-- A file: its name, its bytes, how many of them last. -/
structure Fl where
  nm : Key
  bs : List Int
  la : Nat
abbrev Fs := List Fl
def nms (fs : Fs) : List Key := fs.map (·.nm)
def used (fs : Fs) : Nat := (fs.map fun f => f.bs.length).sum
def fnd (fs : Fs) (k : Key) : Option Fl := fs.find? fun f => decide (f.nm = k)
/-- The files whose names are less; greater. -/
def lo (fs : Fs) (k : Key) : Fs := fs.filter fun f => decide (f.nm < k)
def hi (fs : Fs) (k : Key) : Fs := fs.filter fun f => decide (k < f.nm)
/-- A file laid, in the place of the one of that name. -/
def put (fs : Fs) (f : Fl) : Fs := lo fs f.nm ++ f :: hi fs f.nm
def del (fs : Fs) (k : Key) : Fs := lo fs k ++ hi fs k
/-- Files as a disk has them. -/
structure Fine (fs : Fs) : Prop where
  rise : Rise (nms fs)
  ok : ∀ f ∈ fs, okN f.nm
  la : ∀ f ∈ fs, f.la ≤ f.bs.length
  byte : ∀ f ∈ fs, ∀ x ∈ f.bs, 0 ≤ x ∧ x < 256
theorem Fine.nil : Fine [] := ⟨List.Pairwise.nil, by simp, by simp, by simp⟩
section
variable {fs : Fs} {f g : Fl} {k j : Key}
theorem nms_len (fs : Fs) : (nms fs).length = fs.length := by simp [nms]
theorem mem_lo : f ∈ lo fs k ↔ f ∈ fs ∧ f.nm < k := by simp [lo]
theorem mem_hi : f ∈ hi fs k ↔ f ∈ fs ∧ k < f.nm := by simp [hi]
theorem mem_put : g ∈ put fs f ↔ g = f ∨ (g ∈ fs ∧ g.nm ≠ f.nm) := by
  unfold put
  rw [List.mem_append, List.mem_cons, mem_lo, mem_hi]
  constructor
  · rintro (⟨h, h1⟩ | h | ⟨h, h1⟩)
    · exact .inr ⟨h, key_ne h1⟩
    · exact .inl h
    · exact .inr ⟨h, (key_ne h1).symm⟩
  · rintro (h | ⟨h, h1⟩)
    · exact .inr (.inl h)
    · rcases key_tri g.nm f.nm with h2 | h2 | h2
      · exact .inl ⟨h, h2⟩
      · exact absurd h2 h1
      · exact .inr (.inr ⟨h, h2⟩)
theorem mem_del : g ∈ del fs k ↔ g ∈ fs ∧ g.nm ≠ k := by
  unfold del
  rw [List.mem_append, mem_lo, mem_hi]
  constructor
  · rintro (⟨h, h1⟩ | ⟨h, h1⟩)
    · exact ⟨h, key_ne h1⟩
    · exact ⟨h, (key_ne h1).symm⟩
  · rintro ⟨h, h1⟩
    rcases key_tri g.nm k with h2 | h2 | h2
    · exact .inl ⟨h, h2⟩
    · exact absurd h2 h1
    · exact .inr ⟨h, h2⟩
theorem rise_filter (h : Rise (nms fs)) (p : Fl → Bool) : Rise (nms (fs.filter p)) := by
  unfold Rise nms at *
  rw [List.pairwise_map] at *
  exact h.filter p
theorem rise_put (h : Rise (nms fs)) (f : Fl) : Rise (nms (put fs f)) := by
  unfold put
  unfold nms
  rw [List.map_append, List.map_cons]
  refine List.pairwise_append.2 ⟨rise_filter h _, List.pairwise_cons.2 ⟨fun b hb => ?_, rise_filter h _⟩, fun a ha b hb => ?_⟩
  · obtain ⟨x, hx, rfl⟩ := List.mem_map.1 hb
    exact (mem_hi.1 hx).2
  · obtain ⟨x, hx, rfl⟩ := List.mem_map.1 ha
    have h1 := (mem_lo.1 hx).2
    rcases List.mem_cons.1 hb with rfl | hb
    · exact h1
    · obtain ⟨y, hy, rfl⟩ := List.mem_map.1 hb
      exact key_trans h1 (mem_hi.1 hy).2
theorem rise_del (h : Rise (nms fs)) (k : Key) : Rise (nms (del fs k)) := by
  unfold del nms
  rw [List.map_append]
  refine List.pairwise_append.2 ⟨rise_filter h _, rise_filter h _, fun a ha b hb => ?_⟩
  obtain ⟨x, hx, rfl⟩ := List.mem_map.1 ha
  obtain ⟨y, hy, rfl⟩ := List.mem_map.1 hb
  exact key_trans (mem_lo.1 hx).2 (mem_hi.1 hy).2
theorem uniq (h : Rise (nms fs)) (hf : f ∈ fs) (hg : g ∈ fs) (e : f.nm = g.nm) : f = g := by
  unfold Rise nms at h
  rw [List.pairwise_map] at h
  obtain ⟨i, hi, rfl⟩ := List.mem_iff_getElem.1 hf
  obtain ⟨j, hj, rfl⟩ := List.mem_iff_getElem.1 hg
  rcases Nat.lt_trichotomy i j with h1 | h1 | h1
  · exact absurd e (key_ne (List.pairwise_iff_getElem.1 h i j hi hj h1))
  · subst h1; rfl
  · exact absurd e.symm (key_ne (List.pairwise_iff_getElem.1 h j i hj hi h1))
theorem fnd_some (h : fnd fs k = some f) : f ∈ fs ∧ f.nm = k := ⟨List.mem_of_find?_eq_some h, by simpa using List.find?_some h⟩
theorem fnd_none (h : fnd fs k = none) : ∀ f ∈ fs, f.nm ≠ k := fun f hf => by simpa using List.find?_eq_none.1 h f hf
theorem fnd_of (h : Rise (nms fs)) (hf : f ∈ fs) : fnd fs f.nm = some f := by
  cases hk : fnd fs f.nm with
  | none => exact absurd rfl (fnd_none hk f hf)
  | some g => rw [uniq h (fnd_some hk).1 hf (fnd_some hk).2]
theorem fnd_not (h : ∀ f ∈ fs, f.nm ≠ k) : fnd fs k = none := by
  unfold fnd
  rw [List.find?_eq_none]
  intro x hx
  simpa using h x hx
theorem fnd_put_same (h : Rise (nms fs)) (f : Fl) : fnd (put fs f) f.nm = some f := fnd_of (rise_put h f) (mem_put.2 (.inl rfl))
theorem fnd_put_other (h : Rise (nms fs)) (hk : k ≠ f.nm) : fnd (put fs f) k = fnd fs k := by
  cases hj : fnd fs k with
  | none =>
    refine fnd_not fun g hg => ?_
    rcases mem_put.1 hg with rfl | ⟨hg, _⟩
    · exact fun e => hk e.symm
    · exact fnd_none hj g hg
  | some g =>
    obtain ⟨h1, rfl⟩ := fnd_some hj
    exact fnd_of (rise_put h f) (mem_put.2 (.inr ⟨h1, hk⟩))
theorem fnd_del_same (fs : Fs) (k : Key) : fnd (del fs k) k = none := fnd_not fun _ hg => (mem_del.1 hg).2
theorem fnd_del_other (h : Rise (nms fs)) (hk : k ≠ j) : fnd (del fs j) k = fnd fs k := by
  cases hj : fnd fs k with
  | none => exact fnd_not fun g hg => fnd_none hj g (mem_del.1 hg).1
  | some g =>
    obtain ⟨h1, rfl⟩ := fnd_some hj
    exact fnd_of (rise_del h j) (mem_del.2 ⟨h1, hk⟩)
/-- A rising row by one of its names. -/
theorem split_at (h : Rise (nms fs)) (hf : f ∈ fs) : fs = lo fs f.nm ++ f :: hi fs f.nm := by
  obtain ⟨a, b, rfl⟩ := List.append_of_mem hf
  unfold Rise nms at h
  rw [List.pairwise_map] at h
  obtain ⟨_, h2, h3⟩ := List.pairwise_append.1 h
  obtain ⟨h4, _⟩ := List.pairwise_cons.1 h2
  have e1 : ∀ x ∈ a, x.nm < f.nm := fun x hx => h3 x hx f (by simp)
  have e2 : ∀ x ∈ b, f.nm < x.nm := h4
  unfold lo hi
  rw [List.filter_append, List.filter_append, List.filter_cons_of_neg (by simp [key_irrefl]), List.filter_cons_of_neg (by simp [key_irrefl]),
    List.filter_eq_self.2 (fun x hx => by simpa using e1 x hx), List.filter_eq_nil_iff.2 (fun x hx => by simpa using key_le_of_lt (e2 x hx)),
    List.filter_eq_nil_iff.2 (fun x hx => by simpa using key_le_of_lt (e1 x hx)), List.filter_eq_self.2 (fun x hx => by simpa using e2 x hx)]
  simp
theorem split_no (h : Rise (nms fs)) (hk : ∀ f ∈ fs, f.nm ≠ k) : fs = lo fs k ++ hi fs k := by
  induction fs with
  | nil => rfl
  | cons a l ih =>
    have h' := h
    unfold Rise nms at h'
    rw [List.map_cons] at h'
    obtain ⟨h1, h2⟩ := List.pairwise_cons.1 h'
    have ih' := ih h2 (fun f hf => hk f (by simp [hf]))
    rcases key_tri a.nm k with h3 | h3 | h3
    · have e1 : lo (a :: l) k = a :: lo l k := by unfold lo; rw [List.filter_cons_of_pos (by simpa using h3)]
      have e2 : hi (a :: l) k = hi l k := by unfold hi; rw [List.filter_cons_of_neg (by simpa using key_le_of_lt h3)]
      rw [e1, e2, List.cons_append, ← ih']
    · exact absurd h3 (hk a (by simp))
    · have e0 : ∀ x ∈ a :: l, k < x.nm := fun x hx => by
        rcases List.mem_cons.1 hx with rfl | hx
        · exact h3
        · exact key_trans h3 (h1 x.nm (List.mem_map_of_mem hx))
      unfold lo hi
      rw [List.filter_eq_nil_iff.2 (fun x hx => by simpa using key_le_of_lt (e0 x hx)), List.filter_eq_self.2 (fun x hx => by simpa using e0 x hx)]
      rfl
theorem used_app (a b : Fs) : used (a ++ b) = used a + used b := by simp [used]
theorem used_cons (f : Fl) (b : Fs) : used (f :: b) = f.bs.length + used b := by simp [used]
theorem used_put (fs : Fs) (f : Fl) : used (put fs f) = used (del fs f.nm) + f.bs.length := by
  unfold put del
  rw [used_app, used_cons, used_app]
  omega
theorem used_at (h : Rise (nms fs)) (hf : f ∈ fs) : used fs = used (del fs f.nm) + f.bs.length := by
  have e := split_at h hf
  have : used fs = used (lo fs f.nm ++ f :: hi fs f.nm) := by rw [← e]
  rw [this, used_app, used_cons]
  unfold del
  rw [used_app]
  omega
theorem del_no (h : Rise (nms fs)) (hk : ∀ f ∈ fs, f.nm ≠ k) : del fs k = fs := (split_no h hk).symm
theorem len_put_old (h : Rise (nms fs)) (hf : f ∈ fs) (hg : g.nm = f.nm) : (put fs g).length = fs.length := by
  have e := split_at h hf
  have : fs.length = (lo fs f.nm ++ f :: hi fs f.nm).length := by rw [← e]
  rw [this]
  unfold put
  rw [hg]
  simp
theorem len_put_new (h : Rise (nms fs)) (hk : ∀ f ∈ fs, f.nm ≠ g.nm) : (put fs g).length = fs.length + 1 := by
  have e := split_no h hk
  have : fs.length = (lo fs g.nm ++ hi fs g.nm).length := by rw [← e]
  rw [this]
  unfold put
  simp
  omega
theorem len_del (h : Rise (nms fs)) (hf : f ∈ fs) : (del fs f.nm).length + 1 = fs.length := by
  have e := split_at h hf
  have : fs.length = (lo fs f.nm ++ f :: hi fs f.nm).length := by rw [← e]
  rw [this]
  unfold del
  simp
  omega
theorem Fine.put (h : Fine fs) {f : Fl} (h1 : okN f.nm) (h2 : f.la ≤ f.bs.length) (h3 : ∀ x ∈ f.bs, 0 ≤ x ∧ x < 256) : Fine (put fs f) :=
  ⟨rise_put h.rise f, fun g hg => by rcases mem_put.1 hg with rfl | ⟨hg, _⟩ <;> first | exact h1 | exact h.ok g hg,
    fun g hg => by rcases mem_put.1 hg with rfl | ⟨hg, _⟩ <;> first | exact h2 | exact h.la g hg,
    fun g hg => by rcases mem_put.1 hg with rfl | ⟨hg, _⟩ <;> first | exact h3 | exact h.byte g hg⟩
theorem Fine.del (h : Fine fs) (k : Key) : Fine (del fs k) :=
  ⟨rise_del h.rise k, fun g hg => h.ok g (mem_del.1 hg).1, fun g hg => h.la g (mem_del.1 hg).1, fun g hg => h.byte g (mem_del.1 hg).1⟩
end
/-! ### the disk -/
structure Ds where
  room : Nat
  fs : Fs
  left : Option Nat
structure DsOk (s : Ds) : Prop where
  fine : Fine s.fs
  used : used s.fs ≤ s.room
  room : s.room ≤ 1073741824
  most : s.fs.length ≤ 4096
def tick (o : Option Nat) : Option Nat := o.map (· - 1)
/-- The error of one of the five ahead of its own. -/
def may (s : Ds) (k : Key) : Nat := if s.left = some 0 then 9 else if okN k then 0 else 1
/-- The file behind an Append. -/
def grow (o : Option Fl) (k : Key) (b : List Int) : Fl := match o with
  | none => ⟨k, b, 0⟩
  | some f => ⟨k, f.bs ++ b, f.la⟩
def Room (s : Ds) (k : Key) (n : Nat) : Prop := used s.fs + n ≤ s.room ∧ (fnd s.fs k = none → s.fs.length < 4096)
instance (s : Ds) (k : Key) (n : Nat) : Decidable (Room s k n) := by
  unfold Room
  cases h : fnd s.fs k with
  | none => simp only [true_implies]; exact inferInstance
  | some f => simp only [reduceCtorEq, false_implies, and_true]; exact inferInstance
def opApp (s : Ds) (k : Key) (b : List Int) : Nat × Ds :=
  if may s k ≠ 0 then (may s k, s) else if Room s k b.length then (0, ⟨s.room, put s.fs (grow (fnd s.fs k) k b), tick s.left⟩) else (6, s)
def opSync (s : Ds) (k : Key) : Nat × Ds :=
  if may s k ≠ 0 then (may s k, s) else match fnd s.fs k with
  | none => (7, s)
  | some f => (0, ⟨s.room, put s.fs ⟨k, f.bs, f.bs.length⟩, tick s.left⟩)
def opRem (s : Ds) (k : Key) : Nat × Ds :=
  if may s k ≠ 0 then (may s k, s) else match fnd s.fs k with
  | none => (7, s)
  | some _ => (0, ⟨s.room, del s.fs k, tick s.left⟩)
def opRen (s : Ds) (a b : Key) : Nat × Ds :=
  if may s a ≠ 0 then (may s a, s) else if may s b ≠ 0 then (may s b, s) else match fnd s.fs a with
  | none => (7, s)
  | some f => if a = b then (0, ⟨s.room, s.fs, tick s.left⟩) else (0, ⟨s.room, put (del s.fs a) ⟨b, f.bs, f.la⟩, tick s.left⟩)
def opFuse (s : Ds) (n : Int) : Ds := ⟨s.room, s.fs, if n < 0 then none else some n.toNat⟩
/-- How much of a file stays. -/
def stays (d : Nat) (f : Fl) : Nat := f.la + d % (f.bs.length - f.la + 1)
def crashF (d : Nat) (f : Fl) : Fl := ⟨f.nm, f.bs.take (stays d f), stays d f⟩
def opCrash (s : Ds) (n : Int) : Ds := ⟨s.room, s.fs.map (crashF n.toNat), none⟩
def opRead (s : Ds) (k : Key) : Option (List Int) := (fnd s.fs k).map (·.bs)
section
variable {s : Ds} {k a b : Key}
theorem stays_le {d : Nat} {f : Fl} (h : f.la ≤ f.bs.length) : f.la ≤ stays d f ∧ stays d f ≤ f.bs.length := by
  unfold stays
  have := Nat.mod_lt d (show 0 < f.bs.length - f.la + 1 by omega)
  omega
theorem used_mono {fs : Fs} (p : Fl → Fl) (h : ∀ f ∈ fs, (p f).bs.length ≤ f.bs.length) : used (fs.map p) ≤ used fs := by
  induction fs with
  | nil => exact Nat.le_refl _
  | cons a l ih =>
    rw [List.map_cons, used_cons, used_cons]
    have h1 := h a (by simp)
    have h2 := ih fun f hf => h f (by simp [hf])
    omega
theorem DsOk.fuse (h : DsOk s) (n : Int) : DsOk (opFuse s n) := ⟨h.fine, h.used, h.room, h.most⟩
theorem nms_crash (fs : Fs) (d : Nat) : nms (fs.map (crashF d)) = nms fs := by
  unfold nms
  rw [List.map_map]
  rfl
theorem DsOk.crash (h : DsOk s) (n : Int) : DsOk (opCrash s n) := by
  refine ⟨⟨?_, fun f hf => ?_, fun f hf => ?_, fun f hf => ?_⟩, Nat.le_trans (used_mono _ fun f hf => ?_) h.used, h.room, by simpa [opCrash] using h.most⟩
  · show Rise (nms (s.fs.map _))
    rw [nms_crash]
    exact h.fine.rise
  · obtain ⟨g, hg, rfl⟩ := List.mem_map.1 hf
    exact h.fine.ok g hg
  · obtain ⟨g, hg, rfl⟩ := List.mem_map.1 hf
    have := stays_le (d := n.toNat) (h.fine.la g hg)
    show stays _ g ≤ (g.bs.take _).length
    rw [List.length_take]
    omega
  · obtain ⟨g, hg, rfl⟩ := List.mem_map.1 hf
    intro x hx
    exact h.fine.byte g hg x (List.mem_of_mem_take hx)
  · show (f.bs.take _).length ≤ _
    rw [List.length_take]
    omega
theorem may_ok (h : may s k = 0) : s.left ≠ some 0 ∧ okN k := by
  unfold may at h
  split at h
  · cases h
  · rename_i h1
    split at h
    · rename_i h2
      exact ⟨h1, h2⟩
    · cases h
theorem used_fnd {fs : Fs} (h : Rise (nms fs)) {f : Fl} (hf : fnd fs k = some f) : used fs = used (del fs k) + f.bs.length := by
  obtain ⟨h1, rfl⟩ := fnd_some hf
  exact used_at h h1
theorem DsOk.put_old (h : DsOk s) {f g : Fl} (hf : fnd s.fs g.nm = some f) (hl : Go.Dk.used s.fs - f.bs.length + g.bs.length ≤ s.room) (h1 : g.la ≤ g.bs.length) (h2 : ∀ x ∈ g.bs, 0 ≤ x ∧ x < 256) (o : Option Nat) : DsOk ⟨s.room, put s.fs g, o⟩ := by
  obtain ⟨hm, hn⟩ := fnd_some hf
  have hu := used_fnd h.fine.rise hf
  refine ⟨h.fine.put (hn ▸ h.fine.ok f hm) h1 h2, ?_, h.room, ?_⟩
  · show Go.Dk.used (put s.fs g) ≤ s.room
    rw [used_put]
    omega
  · show (put s.fs g).length ≤ 4096
    rw [len_put_old h.fine.rise hm hn.symm]
    exact h.most
theorem DsOk.app (h : DsOk s) {bs : List Int} (hb : ∀ x ∈ bs, 0 ≤ x ∧ x < 256) : DsOk (opApp s k bs).2 := by
  unfold opApp
  split
  · exact h
  · rename_i hm
    have hk := (may_ok (by omega : may s k = 0)).2
    split
    · rename_i hr
      cases hf : fnd s.fs k with
      | none =>
        have hn := fnd_none hf
        refine ⟨h.fine.put hk (Nat.zero_le _) hb, ?_, h.room, ?_⟩
        · show Go.Dk.used (put s.fs ⟨k, bs, 0⟩) ≤ s.room
          rw [used_put, del_no h.fine.rise hn]
          exact hr.1
        · show (put s.fs ⟨k, bs, 0⟩).length ≤ 4096
          rw [len_put_new h.fine.rise hn]
          exact hr.2 hf
      | some f =>
        have hm := (fnd_some hf).1
        have hu := used_fnd h.fine.rise hf
        refine h.put_old (g := ⟨k, f.bs ++ bs, f.la⟩) hf ?_ ?_ (fun x hx => ?_) _
        · have := hr.1
          simp only [List.length_append]
          omega
        · have := h.fine.la f hm
          simp only [List.length_append]
          omega
        · rcases List.mem_append.1 hx with hx | hx
          · exact h.fine.byte f hm x hx
          · exact hb x hx
    · exact h
theorem DsOk.sync (h : DsOk s) : DsOk (opSync s k).2 := by
  unfold opSync
  split
  · exact h
  · split
    · exact h
    · rename_i f hf
      have hm := (fnd_some hf).1
      have hu := used_fnd h.fine.rise hf
      refine h.put_old (g := ⟨k, f.bs, f.bs.length⟩) hf ?_ (Nat.le_refl _) (h.fine.byte f hm) _
      have := h.used
      show _ - f.bs.length + f.bs.length ≤ _
      omega
theorem DsOk.del (h : DsOk s) (k : Key) (o : Option Nat) : DsOk ⟨s.room, del s.fs k, o⟩ := by
  cases hf : fnd s.fs k with
  | none =>
    rw [del_no h.fine.rise (fnd_none hf)]
    exact ⟨h.fine, h.used, h.room, h.most⟩
  | some f =>
    obtain ⟨hm, rfl⟩ := fnd_some hf
    have hu := used_at h.fine.rise hm
    have hl := len_del h.fine.rise hm
    have h1 := h.used
    have h2 := h.most
    exact ⟨h.fine.del _, by show Go.Dk.used (Go.Dk.del s.fs f.nm) ≤ s.room; omega, h.room, by show (Go.Dk.del s.fs f.nm).length ≤ 4096; omega⟩
theorem DsOk.rem (h : DsOk s) : DsOk (opRem s k).2 := by
  unfold opRem
  split
  · exact h
  · split
    · exact h
    · exact h.del k _
theorem used_del_le {fs : Fs} (h : Rise (nms fs)) (k : Key) : Go.Dk.used (Go.Dk.del fs k) ≤ Go.Dk.used fs := by
  cases hk : fnd fs k with
  | none => rw [del_no h (fnd_none hk)]; exact Nat.le_refl _
  | some g => have := used_fnd h hk; omega
theorem len_put_le {fs : Fs} (h : Rise (nms fs)) (f : Fl) : (put fs f).length ≤ fs.length + 1 := by
  cases hk : fnd fs f.nm with
  | none => rw [len_put_new h (fnd_none hk)]; exact Nat.le_refl _
  | some g => rw [len_put_old h (fnd_some hk).1 (fnd_some hk).2.symm]; omega
theorem DsOk.ren (h : DsOk s) : DsOk (opRen s a b).2 := by
  unfold opRen
  split
  · exact h
  · split
    · exact h
    · rename_i hb
      have hb := (may_ok (by omega : may s b = 0)).2
      split
      · exact h
      · rename_i f hf
        obtain ⟨hm, rfl⟩ := fnd_some hf
        split
        · exact ⟨h.fine, h.used, h.room, h.most⟩
        · have h1 := h.del f.nm s.left
          have hu := used_at h.fine.rise hm
          have hl := len_del h.fine.rise hm
          have hus := h.used
          have hmo := h.most
          have hr1 : Rise (nms (Go.Dk.del s.fs f.nm)) := h1.fine.rise
          have e1 := used_del_le hr1 b
          have e2 := used_put (Go.Dk.del s.fs f.nm) ⟨b, f.bs, f.la⟩
          have e3 := len_put_le hr1 ⟨b, f.bs, f.la⟩
          refine ⟨h1.fine.put hb (h.fine.la f hm) (h.fine.byte f hm), ?_, h.room, ?_⟩
          · show Go.Dk.used (put (Go.Dk.del s.fs f.nm) ⟨b, f.bs, f.la⟩) ≤ s.room
            rw [e2]
            show Go.Dk.used (Go.Dk.del (Go.Dk.del s.fs f.nm) b) + f.bs.length ≤ s.room
            omega
          · show (put (Go.Dk.del s.fs f.nm) ⟨b, f.bs, f.la⟩).length ≤ 4096
            omega
end
end
section
/-- The name of what is under way. -/
def way (k : Key) : Key := k ++ [126]
/-- A file is made to hold just these bytes. -/
def opWhole (s : Ds) (k : Key) (b : List Int) : Nat × Ds :=
  let r1 := if (fnd s.fs (way k)).isSome then opRem s (way k) else (0, s)
  if r1.1 ≠ 0 then r1 else
  let r2 := opApp r1.2 (way k) b
  if r2.1 ≠ 0 then r2 else
  let r3 := opSync r2.2 (way k)
  if r3.1 ≠ 0 then r3 else opRen r3.2 (way k) k
/-- Is a name one that may be saved under? -/
def okS (k : Key) : Prop := 1 ≤ k.length ∧ k.length ≤ 60
instance (k : Key) : Decidable (okS k) := by unfold okS; exact inferInstance
def opSave (s : Ds) (k : Key) (b : List Int) : Nat × Ds := if okS k then opWhole s k b else (1, s)
/-- One behind the other, up to the first that errs. -/
def opEach' (f : Ds → Key → Nat × Ds) : Ds → List Key → Nat × Ds
  | s, [] => (0, s)
  | s, k :: l => if (f s k).1 ≠ 0 then f s k else opEach' f (f s k).2 l
/-- The names that Clear takes away. -/
def gone (p : Key) (stay : List Key) (l : List Key) : List Key := l.filter fun k => decide (k.take p.length = p ∧ p.length ≤ k.length ∧ k ∉ stay)
def opClear (s : Ds) (p : Key) (stay : List Key) : Nat × Ds := opEach' opRem s (gone p stay (nms s.fs))
theorem way_len (k : Key) : (way k).length = k.length + 1 := by simp [way]
theorem way_ok {k : Key} (h : okS k) : okN (way k) := by unfold okN; rw [way_len]; unfold okS at h; omega
theorem okS_okN {k : Key} (h : okS k) : okN k := by unfold okN; unfold okS at h; omega
theorem way_ne (k : Key) : way k ≠ k := fun e => by have := congrArg List.length e; rw [way_len] at this; omega
theorem DsOk.whole {s : Ds} (h : DsOk s) {k : Key} {b : List Int} (hb : ∀ x ∈ b, 0 ≤ x ∧ x < 256) : DsOk (opWhole s k b).2 := by
  unfold opWhole
  have h1 : DsOk (if (fnd s.fs (way k)).isSome = true then opRem s (way k) else (0, s)).2 := by
    split
    · exact h.rem
    · exact h
  generalize (if (fnd s.fs (way k)).isSome = true then opRem s (way k) else (0, s)) = r1 at h1
  show DsOk (if r1.1 ≠ 0 then r1 else if (opApp r1.2 (way k) b).1 ≠ 0 then opApp r1.2 (way k) b else if (opSync (opApp r1.2 (way k) b).2 (way k)).1 ≠ 0 then opSync (opApp r1.2 (way k) b).2 (way k) else opRen (opSync (opApp r1.2 (way k) b).2 (way k)).2 (way k) k).2
  split
  · exact h1
  · split
    · exact h1.app hb
    · split
      · exact (h1.app hb).sync
      · exact (h1.app hb).sync.ren
theorem str_add (k : Key) : (⟨(way k).toArray⟩ : ByteArray) = (⟨k.toArray⟩ : ByteArray) ++ (⟨#[126]⟩ : ByteArray) := by
  apply ByteArray.ext
  simp [way]
end
end Go.Dk
