/-
  Plain mathematics of the program's own way, over no program: classes along an order, the order by what is behind, the placing by classes, places that come each once.
  Conditions: none; plain lemmas.
-/
import Derived.Test.YtgboobjmafdieaaSuKasai
namespace Go.Su

/-- A plain row's number; 0 beyond. -/
def gn (c : List Nat) (p : Nat) : Nat := c.getD p 0
theorem gn_at {c : List Nat} {p x : Nat} (h : c[p]? = some x) : gn c p = x := by
  unfold gn
  rw [List.getD_eq_getElem?_getD, h]
  rfl
theorem gn_some {c : List Nat} {p : Nat} (h : p < c.length) : c[p]? = some (gn c p) := by
  unfold gn
  rw [List.getD_eq_getElem?_getD, List.getElem?_eq_getElem h]
  rfl
theorem gn_set {c : List Nat} {p q v : Nat} (hp : p < c.length) : gn (c.set p v) q = if p = q then v else gn c q := by
  unfold gn
  rw [List.getD_eq_getElem?_getD, List.getD_eq_getElem?_getD]
  by_cases h : p = q
  · subst h
    rw [if_pos rfl, List.getElem?_set_self hp]
    rfl
  · rw [if_neg h, List.getElem?_set_ne h]
/-- A row as integers. -/
def zs (c : List Nat) : List Int := c.map fun x : Nat => (x : Int)
theorem zs_len (c : List Nat) : (zs c).length = c.length := List.length_map ..
theorem zs_gs {c : List Nat} {p : Nat} (h : p < c.length) : gs (zs c) p = (gn c p : Int) := gs_at (by unfold zs; rw [List.getElem?_map, gn_some h]; rfl)

/-- All of one row stand in another one that is no longer: it is that row, in some order. -/
theorem sub_perm : ∀ (A M : List Nat), A.Nodup → (∀ x ∈ A, x ∈ M) → M.length ≤ A.length → M.Perm A
  | [], M, _, _, hl => by
    have h0 : M.length ≤ 0 := hl
    have : M = [] := List.eq_nil_of_length_eq_zero (by omega)
    rw [this]
  | a :: A, M, hn, hm, hl => by
    rw [List.nodup_cons] at hn
    have ha : a ∈ M := hm a (List.mem_cons_self ..)
    have hp := List.perm_cons_erase ha
    have hle := hp.length_eq
    rw [List.length_cons] at hle hl
    refine hp.trans (List.Perm.cons a (sub_perm A (M.erase a) hn.2 (fun x hx => ?_) (by omega)))
    have hne : x ≠ a := fun e => hn.1 (e ▸ hx)
    exact (List.mem_erase_of_ne hne).2 (hm x (List.mem_cons_of_mem _ hx))
theorem range_all {n : Nat} {M : List Nat} (hm : ∀ x, x < n → x ∈ M) (hl : M.length ≤ n) : M.Perm (List.range n) :=
  sub_perm _ M List.nodup_range (fun x hx => hm x (List.mem_range.1 hx)) (by rw [List.length_range]; exact hl)
theorem range_of {n : Nat} {M : List Nat} (hn : M.Nodup) (hm : ∀ x ∈ M, x < n) (hl : n ≤ M.length) : M.Perm (List.range n) :=
  (sub_perm M (List.range n) hn (fun x hx => List.mem_range.2 (hm x hx)) (by rw [List.length_range]; exact hl)).symm

/-- Classes under way, along the first j of an order: what is the same has the class of the one ahead of it, else its own place. -/
structure ClsUp (E : Nat → Nat → Prop) (n : Nat) (L : List Nat) (j : Nat) (c : List Nat) (a : Bool) : Prop where
  len : c.length = n
  zero : 1 ≤ j → ∀ x, L[0]? = some x → gn c x = 0
  same : ∀ i x y, i + 1 < j → L[i]? = some x → L[i + 1]? = some y → E x y → gn c y = gn c x
  diff : ∀ i x y, i + 1 < j → L[i]? = some x → L[i + 1]? = some y → ¬ E x y → gn c y = i + 1
  yes : a = true → ∀ i x y, i + 1 < j → L[i]? = some x → L[i + 1]? = some y → ¬ E x y
  no : a = false → ∃ i x y, L[i]? = some x ∧ L[i + 1]? = some y ∧ E x y
section
variable {E : Nat → Nat → Prop} {n : Nat} {L c : List Nat} {j x y : Nat} {a : Bool}
theorem clsUp_start : ClsUp E n L 0 (List.replicate n 0) true :=
  ⟨List.length_replicate .., fun h => absurd h (by omega), fun _ _ _ h => absurd h (by omega), fun _ _ _ h => absurd h (by omega), fun _ _ _ _ h => absurd h (by omega), fun h => by cases h⟩
theorem ClsUp.first (h : ClsUp E n L 0 c a) (hL : ∀ x ∈ L, x < n) (hx : L[0]? = some x) : ClsUp E n L 1 (c.set x 0) a := by
  have hxl : x < c.length := by rw [h.len]; exact hL x (List.mem_of_getElem? hx)
  refine ⟨by rw [List.length_set]; exact h.len, fun _ z hz => ?_, fun _ _ _ h => absurd h (by omega), fun _ _ _ h => absurd h (by omega), fun _ _ _ _ h => absurd h (by omega), h.no⟩
  obtain rfl : z = x := Option.some.inj (hz.symm.trans hx)
  rw [gn_set hxl, if_pos rfl]
theorem ClsUp.more (h : ClsUp E n L (j + 1) c a) (hn : L.Nodup) (hL : ∀ x ∈ L, x < n) (hx : L[j]? = some x) (hy : L[j + 1]? = some y) {v : Nat} {a' : Bool} (h1 : E x y → v = gn c x ∧ a' = false) (h2 : ¬ E x y → v = j + 1 ∧ a' = a) : ClsUp E n L (j + 2) (c.set y v) a' := by
  have hyl : y < c.length := by rw [h.len]; exact hL y (List.mem_of_getElem? hy)
  have ne : ∀ {i z}, i < j + 1 → L[i]? = some z → y ≠ z := fun {i z} hi hz e => by
    subst e
    have := at_one hn hy hz
    omega
  refine ⟨by rw [List.length_set]; exact h.len, fun _ z hz => ?_, fun i z u hi hz hu he => ?_, fun i z u hi hz hu he => ?_, fun ha i z u hi hz hu => ?_, fun ha => ?_⟩
  · rw [gn_set hyl, if_neg (ne (by omega) hz)]
    exact h.zero (by omega) z hz
  · rw [gn_set hyl, gn_set hyl, if_neg (ne (by omega) hz)]
    by_cases e : i = j
    · subst e
      obtain rfl : u = y := Option.some.inj (hu.symm.trans hy)
      obtain rfl : z = x := Option.some.inj (hz.symm.trans hx)
      rw [if_pos rfl]
      exact (h1 he).1
    · rw [if_neg (ne (by omega) hu)]
      exact h.same i z u (by omega) hz hu he
  · rw [gn_set hyl]
    by_cases e : i = j
    · subst e
      obtain rfl : u = y := Option.some.inj (hu.symm.trans hy)
      obtain rfl : z = x := Option.some.inj (hz.symm.trans hx)
      rw [if_pos rfl]
      exact (h2 he).1
    · rw [if_neg (ne (by omega) hu)]
      exact h.diff i z u (by omega) hz hu he
  · have hne : ¬ E x y := fun he => by rw [(h1 he).2] at ha; cases ha
    by_cases e : i = j
    · subst e
      obtain rfl : u = y := Option.some.inj (hu.symm.trans hy)
      obtain rfl : z = x := Option.some.inj (hz.symm.trans hx)
      exact hne
    · rw [(h2 hne).2] at ha
      exact h.yes ha i z u (by omega) hz hu
  · by_cases he : E x y
    · exact ⟨j, x, y, hx, hy, he⟩
    · rw [(h2 he).2] at ha
      exact h.no ha
end

/-- Classes along a whole order. -/
structure Cls (E : Nat → Nat → Prop) (n : Nat) (L c : List Nat) : Prop where
  len : c.length = n
  zero : ∀ x, L[0]? = some x → gn c x = 0
  same : ∀ i x y, L[i]? = some x → L[i + 1]? = some y → E x y → gn c y = gn c x
  diff : ∀ i x y, L[i]? = some x → L[i + 1]? = some y → ¬ E x y → gn c y = i + 1
section
variable {E : Nat → Nat → Prop} {n : Nat} {L c : List Nat} {a : Bool}
theorem ClsUp.all (h : ClsUp E n L L.length c a) : Cls E n L c := by
  have key : ∀ {i y}, L[i + 1]? = some y → i + 1 < L.length := fun {i y} hy => (List.getElem?_eq_some_iff.1 hy).1
  refine ⟨h.len, fun x hx => h.zero ?_ x hx, fun i x y hx hy he => h.same i x y (key hy) hx hy he, fun i x y hx hy he => h.diff i x y (key hy) hx hy he⟩
  obtain ⟨h1, _⟩ := List.getElem?_eq_some_iff.1 hx
  omega
theorem ClsUp.yesAll (h : ClsUp E n L L.length c true) : ∀ i x y, L[i]? = some x → L[i + 1]? = some y → ¬ E x y :=
  fun i x y hx hy => h.yes rfl i x y (List.getElem?_eq_some_iff.1 hy).1 hx hy
theorem Cls.congr {E' : Nat → Nat → Prop} (h : Cls E n L c) (he : ∀ i x y, L[i]? = some x → L[i + 1]? = some y → (E x y ↔ E' x y)) : Cls E' n L c :=
  ⟨h.len, h.zero, fun i x y hx hy e => h.same i x y hx hy ((he i x y hx hy).2 e), fun i x y hx hy e => h.diff i x y hx hy (fun e' => e ((he i x y hx hy).1 e'))⟩
end

/-- An order of all endings, by so many symbols. -/
structure Ord (s : List Int) (L : List Nat) (h : Nat) : Prop where
  mem : ∀ x, x ∈ L ↔ x < s.length
  nodup : L.Nodup
  ord : L.Pairwise fun x y => ¬ LtK (gs s) h y x
section
variable {s : List Int} {L c : List Nat} {h : Nat}
theorem Ord.perm (o : Ord s L h) : L.Perm (List.range s.length) := by
  rw [List.perm_ext_iff_of_nodup o.nodup List.nodup_range]
  intro a
  rw [o.mem, List.mem_range]
theorem Ord.len (o : Ord s L h) : L.length = s.length := by rw [o.perm.length_eq, List.length_range]
theorem Ord.lt (o : Ord s L h) {i x : Nat} (hx : L[i]? = some x) : x < s.length := (o.mem x).1 (List.mem_of_getElem? hx)
theorem Ord.find (o : Ord s L h) {x : Nat} (hx : x < s.length) : ∃ i : Nat, L[i]? = some x := by
  obtain ⟨i, h1, h2⟩ := List.getElem_of_mem ((o.mem x).2 hx)
  exact ⟨i, by rw [List.getElem?_eq_getElem h1, h2]⟩
theorem Ord.not (o : Ord s L h) {i j x y : Nat} (hi : L[i]? = some x) (hj : L[j]? = some y) (hij : i ≤ j) : ¬ LtK (gs s) h y x := by
  have hp := o.ord
  rw [List.pairwise_iff_getElem] at hp
  obtain ⟨e1, e2⟩ := List.getElem?_eq_some_iff.1 hi
  obtain ⟨e3, e4⟩ := List.getElem?_eq_some_iff.1 hj
  rcases Nat.lt_or_ge i j with h6 | h6
  · have := hp i j e1 e3 h6
    rwa [e2, e4] at this
  · have h7 : i = j := by omega
    subst h7
    obtain rfl : x = y := Option.some.inj (hi.symm.trans hj)
    exact fun h8 => h8.asymm h8
abbrev CK (s : List Int) (L : List Nat) (h : Nat) (c : List Nat) : Prop := Cls (EqK (gs s) h) s.length L c
theorem Cls.le (k : CK s L h c) : ∀ {j y : Nat}, L[j]? = some y → gn c y ≤ j ∧ ∃ z, L[gn c y]? = some z ∧ EqK (gs s) h z y
  | 0, y, hy => by
    rw [k.zero y hy]
    exact ⟨Nat.le_refl _, y, hy, EqK.refl _ _⟩
  | j + 1, y, hy => by
    obtain ⟨h1, _⟩ := List.getElem?_eq_some_iff.1 hy
    have hx : L[j]? = some (L[j]'(by omega)) := List.getElem?_eq_getElem _
    generalize L[j]'(by omega) = x at hx
    obtain ⟨g1, z, g2, g3⟩ := Cls.le k hx
    by_cases e : EqK (gs s) h x y
    · rw [k.same j x y hx hy e]
      exact ⟨by omega, z, g2, g3.trans e⟩
    · rw [k.diff j x y hx hy e]
      exact ⟨Nat.le_refl _, y, hy, EqK.refl _ _⟩
theorem Cls.far (k : CK s L h c) {i x : Nat} (hx : L[i]? = some x) : ∀ {j y : Nat}, i ≤ j → L[j]? = some y → ¬ EqK (gs s) h x y → i < gn c y
  | 0, y, hij, hy, hne => by
    obtain rfl : i = 0 := by omega
    obtain rfl : x = y := Option.some.inj (hx.symm.trans hy)
    exact absurd (EqK.refl _ _) hne
  | j + 1, y, hij, hy, hne => by
    rcases Nat.lt_or_ge j i with h0 | h0
    · obtain rfl : i = j + 1 := by omega
      obtain rfl : x = y := Option.some.inj (hx.symm.trans hy)
      exact absurd (EqK.refl _ _) hne
    · obtain ⟨h1, _⟩ := List.getElem?_eq_some_iff.1 hy
      have hz : L[j]? = some (L[j]'(by omega)) := List.getElem?_eq_getElem _
      generalize L[j]'(by omega) = z at hz
      by_cases e : EqK (gs s) h z y
      · rw [k.same j z y hz hy e]
        exact Cls.far k hx h0 hz (fun e2 => hne (e2.trans e))
      · rw [k.diff j z y hz hy e]
        omega
theorem Cls.near (k : CK s L h c) (o : Ord s L h) {i x : Nat} (hx : L[i]? = some x) : ∀ {j y : Nat}, i ≤ j → L[j]? = some y → EqK (gs s) h x y → gn c y = gn c x
  | 0, y, hij, hy, _ => by
    obtain rfl : i = 0 := by omega
    obtain rfl : x = y := Option.some.inj (hx.symm.trans hy)
    rfl
  | j + 1, y, hij, hy, he => by
    rcases Nat.lt_or_ge j i with h0 | h0
    · obtain rfl : i = j + 1 := by omega
      obtain rfl : x = y := Option.some.inj (hx.symm.trans hy)
      rfl
    · obtain ⟨h1, _⟩ := List.getElem?_eq_some_iff.1 hy
      have hz : L[j]? = some (L[j]'(by omega)) := List.getElem?_eq_getElem _
      generalize L[j]'(by omega) = z at hz
      have n1 := o.not hx hz h0
      have n2 := o.not hz hy (by omega)
      have e1 : EqK (gs s) h x z := by
        rcases tri (gs s) x z h with h2 | h2 | h2
        · exact absurd (h2.eq_left he.symm) n2
        · exact h2
        · exact absurd h2 n1
      rw [k.same j z y hz hy (e1.symm.trans he)]
      exact Cls.near k o hx h0 hz e1
theorem Cls.mono (k : CK s L h c) (o : Ord s L h) {i j x y : Nat} (hx : L[i]? = some x) (hy : L[j]? = some y) (hij : i ≤ j) : gn c x ≤ gn c y := by
  by_cases e : EqK (gs s) h x y
  · rw [k.near o hx hij hy e]
    exact Nat.le_refl _
  · have h1 := k.far hx hij hy e
    have h2 := (k.le hx).1
    omega
theorem Cls.lt_iff (k : CK s L h c) (o : Ord s L h) {x y : Nat} (hx : x < s.length) (hy : y < s.length) : gn c x < gn c y ↔ LtK (gs s) h x y := by
  obtain ⟨i, hi⟩ := o.find hx
  obtain ⟨j, hj⟩ := o.find hy
  rcases Nat.le_total i j with hij | hij
  · constructor
    · intro hlt
      rcases tri (gs s) x y h with h2 | h2 | h2
      · exact h2
      · rw [k.near o hi hij hj h2] at hlt
        omega
      · exact absurd h2 (o.not hi hj hij)
    · intro hlt
      have h1 := k.far hi hij hj (fun e => hlt.not_eq e)
      have h2 := (k.le hi).1
      omega
  · constructor
    · intro hlt
      have := k.mono o hj hi hij
      omega
    · intro hlt
      exact absurd hlt (o.not hj hi hij)
/-- They are ranks. -/
theorem Cls.rk (k : CK s L h c) (o : Ord s L h) : Rk s (zs c) h := by
  refine ⟨by rw [zs_len, k.len], fun x hx => ?_, fun a b ha hb => ?_⟩
  · unfold zs at hx
    obtain ⟨y, _, rfl⟩ := List.mem_map.1 hx
    omega
  · rw [zs_gs (by rw [k.len]; exact ha), zs_gs (by rw [k.len]; exact hb), ← k.lt_iff o ha hb]
    omega
theorem countP_split {p : Nat → Bool} : ∀ {L : List Nat} {m : Nat}, (∀ j y, j < m → L[j]? = some y → p y = true) → (∀ j y, m ≤ j → L[j]? = some y → p y = false) → m ≤ L.length → L.countP p = m
  | [], m, _, _, hm => by
    have h0 : m ≤ 0 := hm
    simp
    omega
  | a :: L, 0, h1, h2, hm => by
    have ha := h2 0 a (Nat.le_refl _) rfl
    rw [List.countP_cons, ha]
    exact countP_split (m := 0) (fun j y hj => absurd hj (by omega)) (fun j y _ hy => h2 (j + 1) y (by omega) (by simpa using hy)) (Nat.zero_le _)
  | a :: L, m + 1, h1, h2, hm => by
    have ha := h1 0 a (by omega) rfl
    rw [List.countP_cons, ha, countP_split (L := L) (m := m) (fun j y hj hy => h1 (j + 1) y (by omega) (by simpa using hy)) (fun j y hj hy => h2 (j + 1) y (by omega) (by simpa using hy)) (by simpa using hm)]
    rfl
/-- A class is how many are of lesser ones. -/
theorem Cls.count (k : CK s L h c) (o : Ord s L h) {x : Nat} (hx : x < s.length) : L.countP (fun y => decide (gn c y < gn c x)) = gn c x := by
  obtain ⟨j, hj⟩ := o.find hx
  obtain ⟨h1, z, h2, h3⟩ := k.le hj
  have hz : gn c z = gn c x := (k.near o h2 h1 hj h3).symm
  obtain ⟨h4, _⟩ := List.getElem?_eq_some_iff.1 h2
  refine countP_split (fun i y hi hy => ?_) (fun i y hi hy => ?_) (by omega)
  · have := (k.le hy).1
    simp
    omega
  · have := k.mono o h2 hy hi
    simp
    omega
/-- None alike: it is the order of all. -/
theorem Ord.strict (o : Ord s L h) (ha : ∀ i x y, L[i]? = some x → L[i + 1]? = some y → ¬ EqK (gs s) h x y) (k : CK s L h c) : IsSA s L := by
  refine ⟨o.len, o.mem, ?_⟩
  rw [List.pairwise_iff_getElem]
  intro i j hi hj hij
  have e1 : L[i]? = some L[i] := List.getElem?_eq_getElem hi
  have e2 : L[j]? = some L[j] := List.getElem?_eq_getElem hj
  rcases tri (gs s) L[i] L[j] h with h4 | h4 | h4
  · exact h4.lt
  · -- the place j - 1 has class at most j - 1, and j its own
    obtain ⟨q, rfl⟩ : ∃ q, j = q + 1 := ⟨j - 1, by omega⟩
    have e3 : L[q]? = some (L[q]'(by omega)) := List.getElem?_eq_getElem _
    have h5 := k.diff q _ _ e3 e2 (ha q _ _ e3 e2)
    have h6 := k.near o e1 (by omega) e2 h4
    have h7 := (k.le e1).1
    omega
  · exact absurd h4 (o.not e1 e2 (by omega))
theorem not_apart (hs : Pos s) (o : Ord s L h) (he : ∃ i x y, L[i]? = some x ∧ L[i + 1]? = some y ∧ EqK (gs s) h x y) : h < s.length := by
  obtain ⟨i, x, y, hx, hy, e⟩ := he
  rcases Nat.lt_or_ge h s.length with h1 | h1
  · exact h1
  · refine absurd e (not_alike hs (o.lt hx) (o.lt hy) (fun e2 => ?_) h1)
    subst e2
    have := at_one o.nodup hx hy
    omega
end

/-- The endings by what they have behind their first k symbols. -/
def rst (n k : Nat) (L : List Nat) : List Nat := List.range' (n - k) k ++ (L.filter (fun x => decide (k ≤ x))).map (fun x => x - k)
section
variable {s : List Int} {L : List Nat} {k : Nat}
theorem rst_mem (hL : ∀ x, x ∈ L ↔ x < s.length) (hk : k ≤ s.length) (x : Nat) : x ∈ rst s.length k L ↔ x < s.length := by
  unfold rst
  rw [List.mem_append, List.mem_range'_1, List.mem_map]
  constructor
  · rintro (h | ⟨y, hy, rfl⟩)
    · omega
    · rw [List.mem_filter] at hy
      have := (hL y).1 hy.1
      omega
  · intro h
    rcases Nat.lt_or_ge x (s.length - k) with h1 | h1
    · refine .inr ⟨x + k, ?_, by omega⟩
      rw [List.mem_filter]
      exact ⟨(hL _).2 (by omega), by simp⟩
    · exact .inl (by omega)
theorem rst_ord (hs : Pos s) (o : Ord s L k) (hk : k ≤ s.length) : (rst s.length k L).Pairwise fun x y => x ≠ y ∧ ¬ LtK (gs s) k (y + k) (x + k) := by
  have low : ∀ p, -1 ≤ gs s p := fun p => by
    rcases Nat.lt_or_ge p s.length with h7 | h7
    · have := gs_pos hs h7
      omega
    · rw [gs_out h7]
      omega
  have beyond : ∀ x y, s.length ≤ x + k → ¬ LtK (gs s) k (y + k) (x + k) := by
    rintro x y hx ⟨q, _, _, h2⟩
    rw [gs_out (p := x + k + q) (by omega)] at h2
    have := low (y + k + q)
    omega
  unfold rst
  rw [List.pairwise_append]
  refine ⟨?_, ?_, ?_⟩
  · rw [List.pairwise_iff_getElem]
    intro i j hi hj hij
    simp only [List.getElem_range']
    refine ⟨by omega, beyond _ _ (by omega)⟩
  · rw [List.pairwise_map]
    have h1 : L.Pairwise fun x y => x ≠ y ∧ ¬ LtK (gs s) k y x := o.nodup.and o.ord
    refine (h1.filter _).imp_of_mem fun {a b} ha hb hab => ?_
    rw [List.mem_filter] at ha hb
    have ha2 : k ≤ a := by simpa using ha.2
    have hb2 : k ≤ b := by simpa using hb.2
    refine ⟨fun e => hab.1 (by omega), ?_⟩
    rw [Nat.sub_add_cancel ha2, Nat.sub_add_cancel hb2]
    exact hab.2
  · intro a ha b hb
    rw [List.mem_range'_1] at ha
    obtain ⟨y, hy, rfl⟩ := List.mem_map.1 hb
    rw [List.mem_filter] at hy
    have := (o.mem y).1 hy.1
    have hy2 : k ≤ y := by simpa using hy.2
    exact ⟨by omega, beyond _ _ (by omega)⟩
theorem rst_len (o : Ord s L k) (hs : Pos s) (hk : k ≤ s.length) : (rst s.length k L).length = s.length := by
  have h1 : (rst s.length k L).Nodup := (rst_ord hs o hk).imp fun h => h.1
  have h2 : (rst s.length k L).Perm (List.range s.length) := by
    rw [List.perm_ext_iff_of_nodup h1 List.nodup_range]
    intro a
    rw [rst_mem o.mem hk, List.mem_range]
  rw [h2.length_eq, List.length_range]
end

/-- How many of the first i are of class q. -/
def upTo (f : Nat → Nat) (R : List Nat) (i q : Nat) : Nat := (R.take i).countP fun y => decide (f y = q)
/-- Where the next one of each class goes. -/
def nxt (n : Nat) (f : Nat → Nat) (R : List Nat) (i : Nat) : List Nat := (List.range n).map fun q => q + upTo f R i q
section
variable {f : Nat → Nat} {R : List Nat} {n i j x y : Nat}
theorem nxt_len : (nxt n f R i).length = n := by unfold nxt; rw [List.length_map, List.length_range]
theorem nxt_at {q : Nat} (hq : q < n) : (nxt n f R i)[q]? = some (q + upTo f R i q) := by
  unfold nxt
  rw [List.getElem?_map, List.getElem?_range hq]
  rfl
theorem upTo_next (hx : R[i]? = some x) (q : Nat) : upTo f R (i + 1) q = upTo f R i q + (if f x = q then 1 else 0) := by
  unfold upTo
  rw [List.take_add_one, hx, List.countP_append]
  simp [List.countP_cons]
theorem nxt_next (hx : R[i]? = some x) : (nxt n f R i).set (f x) (f x + upTo f R i (f x) + 1) = nxt n f R (i + 1) := by
  apply List.ext_getElem?
  intro q
  rcases Nat.lt_or_ge q n with hq | hq
  · rw [nxt_at hq, upTo_next hx]
    by_cases e : f x = q
    · subst e
      rw [List.getElem?_set_self (by rw [nxt_len]; exact hq), if_pos rfl]
      rfl
    · rw [List.getElem?_set_ne e, nxt_at hq, if_neg e]
      rfl
  · rw [List.getElem?_eq_none (by rw [List.length_set, nxt_len]; exact hq), List.getElem?_eq_none (by rw [nxt_len]; exact hq)]
theorem upTo_mono (q : Nat) (hij : i ≤ j) : upTo f R i q ≤ upTo f R j q := by
  unfold upTo
  exact (List.take_sublist_take_left hij).countP_le
theorem upTo_lt (hx : R[i]? = some x) (hij : i < j) : upTo f R i (f x) + 1 ≤ upTo f R j (f x) := by
  have h1 := upTo_next (f := f) hx (f x)
  rw [if_pos rfl] at h1
  have h2 := upTo_mono (f := f) (R := R) (f x) (show i + 1 ≤ j by omega)
  omega
theorem lo_sum (f : Nat → Nat) (q q' : Nat) (hq : q < q') : ∀ R : List Nat, R.countP (fun y => decide (f y < q)) + R.countP (fun y => decide (f y = q)) ≤ R.countP (fun y => decide (f y < q'))
  | [] => by simp
  | a :: R => by
    have := lo_sum f q q' hq R
    rw [List.countP_cons, List.countP_cons, List.countP_cons]
    by_cases h1 : f a < q
    · have h2 : ¬ f a = q := by omega
      have h3 : f a < q' := by omega
      simp [h1, h2, h3]
      omega
    · by_cases h2 : f a = q
      · have h3 : f a < q' := by omega
        simp [h2, hq]
        omega
      · by_cases h3 : f a < q' <;> simp [h1, h2, h3] <;> omega
theorem lo_all (f : Nat → Nat) (q : Nat) : ∀ R : List Nat, R.countP (fun y => decide (f y < q)) + R.countP (fun y => decide (f y = q)) ≤ R.length
  | [] => by simp
  | a :: R => by
    have := lo_all f q R
    rw [List.countP_cons, List.countP_cons, List.length_cons]
    by_cases h1 : f a < q
    · have h2 : ¬ f a = q := by omega
      simp [h1, h2]
      omega
    · by_cases h2 : f a = q <;> simp [h1, h2] <;> omega

/-- Classes that say how many are of lesser ones. -/
def Cnt (f : Nat → Nat) (R : List Nat) : Prop := ∀ x ∈ R, R.countP (fun y => decide (f y < f x)) = f x
/-- Where the i-th goes. -/
def pos (f : Nat → Nat) (R : List Nat) (i x : Nat) : Nat := f x + upTo f R i (f x)
theorem pos_top (hx : R[i]? = some x) : pos f R i x + 1 ≤ f x + R.countP (fun y => decide (f y = f x)) := by
  obtain ⟨h1, _⟩ := List.getElem?_eq_some_iff.1 hx
  have h2 := upTo_lt (f := f) hx h1
  unfold pos
  unfold upTo at *
  rw [List.take_length] at h2
  omega
theorem pos_lt (hc : Cnt f R) (hx : R[i]? = some x) : pos f R i x < R.length := by
  have h1 := pos_top (f := f) hx
  have h2 := lo_all f (f x) R
  rw [hc x (List.mem_of_getElem? hx)] at h2
  omega
theorem pos_class (hc : Cnt f R) (hx : R[i]? = some x) (hy : R[j]? = some y) (h : f x < f y) : pos f R i x < pos f R j y := by
  have h1 := pos_top (f := f) hx
  have h2 := lo_sum f (f x) (f y) h R
  rw [hc x (List.mem_of_getElem? hx), hc y (List.mem_of_getElem? hy)] at h2
  have h3 : f y ≤ pos f R j y := Nat.le_add_right _ _
  omega
theorem pos_same (hx : R[i]? = some x) (h : f x = f y) (hij : i < j) : pos f R i x < pos f R j y := by
  have h1 := upTo_lt (f := f) hx hij
  unfold pos
  rw [← h]
  omega
theorem pos_inj (hc : Cnt f R) (hx : R[i]? = some x) (hy : R[j]? = some y) (h : i ≠ j) : pos f R i x ≠ pos f R j y := by
  rcases Nat.lt_trichotomy (f x) (f y) with h1 | h1 | h1
  · have := pos_class hc hx hy h1
    omega
  · rcases Nat.lt_or_ge i j with h2 | h2
    · have := pos_same hx h1 h2
      omega
    · have := pos_same hy h1.symm (show j < i by omega)
      omega
  · have := pos_class hc hy hx h1
    omega
/-- The placing under way: the first i stand where they should. -/
structure Put (f : Nat → Nat) (R : List Nat) (i : Nat) (M : List Nat) : Prop where
  len : M.length = R.length
  at_ : ∀ j x, j < i → R[j]? = some x → M[pos f R j x]? = some x
theorem put_start : Put f R 0 (List.replicate R.length 0) := ⟨List.length_replicate .., fun _ _ h => absurd h (by omega)⟩
theorem Put.next {M : List Nat} (p : Put f R i M) (hc : Cnt f R) (hx : R[i]? = some x) : Put f R (i + 1) (M.set (pos f R i x) x) := by
  refine ⟨by rw [List.length_set]; exact p.len, fun j y hj hy => ?_⟩
  by_cases e : j = i
  · subst e
    obtain rfl : x = y := Option.some.inj (hx.symm.trans hy)
    rw [List.getElem?_set_self (by rw [p.len]; exact pos_lt hc hx)]
  · rw [List.getElem?_set_ne (pos_inj hc hx hy (fun e2 => e e2.symm))]
    exact p.at_ j y (by omega) hy
end
section
variable {s : List Int} {L c M : List Nat} {k : Nat}
theorem cls_cnt (hs : Pos s) (o : Ord s L k) (q : CK s L k c) (hk : k ≤ s.length) : Cnt (gn c) (rst s.length k L) := by
  intro x hx
  have hx2 := (rst_mem o.mem hk x).1 hx
  have h1 : (rst s.length k L).Nodup := (rst_ord hs o hk).imp fun h => h.1
  have h2 : (rst s.length k L).Perm L := by
    rw [List.perm_ext_iff_of_nodup h1 o.nodup]
    intro a
    rw [rst_mem o.mem hk, o.mem]
  rw [h2.countP_eq]
  exact q.count o hx2
/-- Placed by classes, what was in order by what is behind is in order by twice as many. -/
theorem Put.twice (hs : Pos s) (o : Ord s L k) (q : CK s L k c) (hk : k ≤ s.length) (p : Put (gn c) (rst s.length k L) s.length M) : Ord s M (k + k) := by
  have hc := cls_cnt hs o q hk
  have hR := rst_ord hs o hk
  have hl := rst_len o hs hk
  have hm := rst_mem (s := s) o.mem hk
  generalize rst s.length k L = R at *
  have look : ∀ x, x < s.length → ∃ i : Nat, R[i]? = some x ∧ M[pos (gn c) R i x]? = some x := fun x hx => by
    obtain ⟨i, h1, h2⟩ := List.getElem_of_mem ((hm x).2 hx)
    have h3 : R[i]? = some x := by rw [List.getElem?_eq_getElem h1, h2]
    exact ⟨i, h3, p.at_ i x (by omega) h3⟩
  have hM : M.Perm (List.range s.length) := range_all (fun x hx => by
    obtain ⟨i, _, h2⟩ := look x hx
    exact List.mem_of_getElem? h2) (by rw [p.len, hl]; exact Nat.le_refl _)
  have hMn : M.Nodup := hM.symm.nodup List.nodup_range
  have hMm : ∀ x, x ∈ M ↔ x < s.length := fun x => by rw [hM.mem_iff, List.mem_range]
  refine ⟨hMm, hMn, ?_⟩
  rw [List.pairwise_iff_getElem]
  intro a b ha hb hab
  have e1 : M[a]? = some M[a] := List.getElem?_eq_getElem ha
  have e2 : M[b]? = some M[b] := List.getElem?_eq_getElem hb
  generalize M[a] = x at *
  generalize M[b] = y at *
  have hx : x < s.length := (hMm x).1 (List.mem_of_getElem? e1)
  have hy : y < s.length := (hMm y).1 (List.mem_of_getElem? e2)
  obtain ⟨i, hi, hi2⟩ := look x hx
  obtain ⟨j, hj, hj2⟩ := look y hy
  have pa := at_one hMn e1 hi2
  have pb := at_one hMn e2 hj2
  rcases Nat.lt_trichotomy (gn c x) (gn c y) with h1 | h1 | h1
  · have h2 := (q.lt_iff o hx hy).1 h1
    exact fun h3 => (h2.mono (Nat.le_add_right k k)).asymm h3
  · have hij : i < j := by
      rcases Nat.lt_or_ge i j with h2 | h2
      · exact h2
      · rcases Nat.lt_or_ge j i with h3 | h3
        · have := pos_same hj h1.symm h3
          omega
        · obtain rfl : i = j := by omega
          obtain rfl : x = y := Option.some.inj (hi.symm.trans hj)
          omega
    have h3 : ¬ LtK (gs s) k (y + k) (x + k) := by
      rw [List.pairwise_iff_getElem] at hR
      obtain ⟨g1, g2⟩ := List.getElem?_eq_some_iff.1 hi
      obtain ⟨g3, g4⟩ := List.getElem?_eq_some_iff.1 hj
      have := (hR i j g1 g3 hij).2
      rwa [g2, g4] at this
    intro h4
    rcases double.1 h4 with h5 | h5
    · have := (q.lt_iff o hy hx).2 h5
      omega
    · exact h3 h5.2
  · have := pos_class hc hj hi h1
    omega
end
end Go.Su
