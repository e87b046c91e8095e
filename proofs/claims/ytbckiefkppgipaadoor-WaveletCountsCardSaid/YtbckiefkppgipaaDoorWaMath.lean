/-
  Plain mathematics of rows of symbols, over no program: the rows of the digits, where a place goes from one to the next, and what is counted on the way.
  Conditions: none; plain lemmas.
-/
import Derived.Test.YtbckiefkppgipaaDoorBiMath
namespace Go.Wa
open Go.Bi

/-- What stands from place f to place t - 1. -/
def seg {α : Type} (r : List α) (f t : Nat) : List α := (r.take t).drop f
theorem seg_len {α : Type} (r : List α) {f t : Nat} (h : t ≤ r.length) : (seg r f t).length = t - f := by
  unfold seg
  rw [List.length_drop, List.length_take]
  omega
theorem take_seg {α : Type} (r : List α) {f t : Nat} (h : f ≤ t) : r.take t = r.take f ++ seg r f t := by
  unfold seg
  have h1 := List.take_append_drop f (r.take t)
  rw [List.take_take, Nat.min_eq_left h] at h1
  exact h1.symm
theorem seg_zero {α : Type} (r : List α) (t : Nat) : seg r 0 t = r.take t := rfl
theorem seg_one {α : Type} {r : List α} {i : Nat} {x : α} (h : r[i]? = some x) : seg r i (i + 1) = [x] := by
  unfold seg
  obtain ⟨h1, h2⟩ := List.getElem?_eq_some_iff.1 h
  rw [List.take_add_one, h, List.drop_append, List.length_take, Nat.min_eq_left (by omega), Nat.sub_self]
  rw [List.drop_of_length_le (by rw [List.length_take]; omega)]
  rfl
theorem of_seg_one {α : Type} {r : List α} {i j : Nat} {x : α} (h : seg r i j = [x]) : r[i]? = some x := by
  unfold seg at h
  have h1 : ((r.take j).drop i)[0]? = some x := by rw [h]; rfl
  rw [List.getElem?_drop, List.getElem?_take, Nat.add_zero] at h1
  split at h1
  · exact h1
  · cases h1
theorem seg_left {α : Type} (a b : List α) {f t : Nat} (h : t ≤ a.length) : seg (a ++ b) f t = seg a f t := by
  unfold seg
  rw [List.take_append_of_le_length h]
theorem seg_right {α : Type} (a b : List α) (f t : Nat) : seg (a ++ b) (a.length + f) (a.length + t) = seg b f t := by
  unfold seg
  rw [List.take_append, List.take_of_length_le (by omega), Nat.add_sub_cancel_left, List.drop_append, List.drop_of_length_le (by omega), Nat.add_sub_cancel_left, List.nil_append]
theorem seg_filter {α : Type} (q : α → Bool) (r : List α) {f t : Nat} (h : f ≤ t) : seg (r.filter q) ((r.take f).filter q).length ((r.take t).filter q).length = (seg r f t).filter q := by
  have h1 : r.filter q = (r.take t).filter q ++ (r.drop t).filter q := by rw [← List.filter_append, List.take_append_drop]
  have h2 : (r.take t).filter q = (r.take f).filter q ++ (seg r f t).filter q := by rw [← List.filter_append, ← take_seg r h]
  unfold seg
  rw [h1, List.take_append_of_le_length (Nat.le_refl _), List.take_of_length_le (Nat.le_refl _), h2, List.drop_append_of_le_length (Nat.le_refl _), List.drop_of_length_le (Nat.le_refl _)]
  rfl

/-- Those without a digit ahead of those with it. -/
def part (p : Nat → Bool) (r : List Nat) : List Nat := r.filter (fun x => p x == false) ++ r.filter (fun x => p x == true)
theorem part_len (p : Nat → Bool) (r : List Nat) : (part p r).length = r.length := by
  unfold part
  rw [List.length_append]
  induction r with
  | nil => rfl
  | cons x r ih => cases h : p x <;> simp_all <;> omega
theorem part_mem {p : Nat → Bool} {r : List Nat} {x : Nat} (h : x ∈ part p r) : x ∈ r := by
  unfold part at h
  rcases List.mem_append.1 h with h | h <;> exact (List.mem_filter.1 h).1
/-- Where a place goes. -/
def dn (l : List Bool) (b : Bool) (i : Nat) : Nat := if b = true then l.count false + (l.take i).count true else (l.take i).count false
theorem count_map (p : Nat → Bool) (b : Bool) (r : List Nat) : (r.map p).count b = (r.filter (fun x => p x == b)).length := by
  induction r with
  | nil => rfl
  | cons x r ih => simp only [List.map_cons, List.count_cons, List.filter_cons, ih]; split <;> simp_all
theorem count_map_take (p : Nat → Bool) (b : Bool) (r : List Nat) (i : Nat) : ((r.map p).take i).count b = ((r.take i).filter (fun x => p x == b)).length := by rw [← List.map_take, count_map]
theorem part_seg (p : Nat → Bool) (r : List Nat) (b : Bool) {f t : Nat} (h : f ≤ t) : seg (part p r) (dn (r.map p) b f) (dn (r.map p) b t) = (seg r f t).filter (fun x => p x == b) := by
  unfold part dn
  cases b
  · rw [if_neg (by decide), if_neg (by decide), count_map_take, count_map_take, seg_left, seg_filter _ _ h]
    rw [← count_map_take, ← count_map]
    exact List.Sublist.count_le _ (List.take_sublist _ _)
  · rw [if_pos rfl, if_pos rfl, count_map_take, count_map_take, count_map, seg_right, seg_filter _ _ h]
theorem dn_le (p : Nat → Bool) (r : List Nat) (b : Bool) (i : Nat) : dn (r.map p) b i ≤ r.length := by
  have h1 : (r.map p).count true + (r.map p).count false = r.length := by rw [count_both, List.length_map]
  have h2 : ∀ c, ((r.map p).take i).count c ≤ (r.map p).count c := fun c => List.Sublist.count_le _ (List.take_sublist _ _)
  have := h2 true
  have := h2 false
  unfold dn
  split <;> omega
theorem dn_mono (l : List Bool) (b : Bool) {f t : Nat} (h : f ≤ t) : dn l b f ≤ dn l b t := by
  have h1 := count_mono true l h
  have h2 := count_mono false l h
  unfold dn
  split <;> omega

/-- A digit of W, the highest first. -/
def dgt (W d c : Nat) : Bool := c.testBit (W - 1 - d)
/-- The row of symbols of a level, and its row of digits. -/
def lv (W : Nat) (l : List Nat) : Nat → List Nat
  | 0 => l
  | d + 1 => part (dgt W d) (lv W l d)
def bt (W : Nat) (l : List Nat) (d : Nat) : List Bool := (lv W l d).map (dgt W d)
theorem lv_len (W : Nat) (l : List Nat) : ∀ d, (lv W l d).length = l.length
  | 0 => rfl
  | d + 1 => by rw [lv, part_len, lv_len W l d]
theorem bt_len (W : Nat) (l : List Nat) (d : Nat) : (bt W l d).length = l.length := by rw [bt, List.length_map, lv_len]
theorem lv_mem {W : Nat} {l : List Nat} {x : Nat} : ∀ {d : Nat}, x ∈ lv W l d → x ∈ l
  | 0, h => h
  | d + 1, h => lv_mem (d := d) (part_mem h)
/-- Where a place stands on a level, on the way of a symbol. -/
def D (W : Nat) (l : List Nat) (c : Nat) : Nat → Nat → Nat
  | 0, i => i
  | d + 1, i => dn (bt W l d) (dgt W d c) (D W l c d i)
/-- The first d digits of W. -/
def top (W d x : Nat) : Nat := x / 2 ^ (W - d)
theorem top_zero {W x : Nat} (h : x < 2 ^ W) : top W 0 x = 0 := Nat.div_eq_of_lt h
theorem top_all (W x : Nat) : top W W x = x := by unfold top; rw [Nat.sub_self, Nat.pow_zero, Nat.div_one]
theorem top_succ {W d : Nat} (h : d < W) (x : Nat) : top W (d + 1) x = 2 * top W d x + (dgt W d x).toNat := by
  unfold top dgt
  rw [Nat.testBit_eq_decide_div_mod_eq]
  obtain ⟨m, rfl⟩ : ∃ m, W = d + (m + 1) := ⟨W - d - 1, by omega⟩
  rw [show d + (m + 1) - (d + 1) = m by omega, show d + (m + 1) - d = m + 1 by omega, show d + (m + 1) - 1 - d = m by omega, Nat.pow_succ, ← Nat.div_div_eq_div_mul]
  have h2 := Nat.mod_two_eq_zero_or_one (x / 2 ^ m)
  rcases h2 with h2 | h2 <;> simp [h2] <;> omega
theorem top_alike {W d : Nat} (h : d < W) (x c : Nat) : (top W (d + 1) x == top W (d + 1) c) = (top W d x == top W d c && dgt W d x == dgt W d c) := by
  rw [top_succ h, top_succ h]
  rw [Bool.eq_iff_iff]
  cases dgt W d x <;> cases dgt W d c <;> simp <;> omega
theorem top_lt {W d : Nat} (h : d < W) (x c : Nat) : decide (top W (d + 1) x < top W (d + 1) c) = (decide (top W d x < top W d c) || (dgt W d c && (top W d x == top W d c && dgt W d x == false))) := by
  rw [top_succ h, top_succ h]
  rw [Bool.eq_iff_iff]
  cases dgt W d x <;> cases dgt W d c <;> simp <;> omega

section
variable {W : Nat} {l : List Nat} {c : Nat}
theorem D_mono (d : Nat) {f t : Nat} (h : f ≤ t) : D W l c d f ≤ D W l c d t := by
  induction d with
  | zero => exact h
  | succ d ih => exact dn_mono _ _ ih
theorem D_le (d : Nat) {t : Nat} (h : t ≤ l.length) : D W l c d t ≤ l.length := by
  cases d with
  | zero => exact h
  | succ d =>
    have := dn_le (dgt W d) (lv W l d) (dgt W d c) (D W l c d t)
    rw [lv_len] at this
    exact this
theorem D_seg (hl : ∀ x ∈ l, x < 2 ^ W) (hc : c < 2 ^ W) {f t : Nat} (h : f ≤ t) : ∀ d, d ≤ W → seg (lv W l d) (D W l c d f) (D W l c d t) = (seg l f t).filter (fun x => top W d x == top W d c) := by
  intro d
  induction d with
  | zero =>
    intro _
    refine (List.filter_eq_self.2 fun x hx => ?_).symm
    have hx' : x ∈ l := List.mem_of_mem_take (List.mem_of_mem_drop hx)
    rw [top_zero (hl x hx'), top_zero hc]
    rfl
  | succ d ih =>
    intro hd
    show seg (part (dgt W d) (lv W l d)) (dn (bt W l d) (dgt W d c) (D W l c d f)) (dn (bt W l d) (dgt W d c) (D W l c d t)) = _
    unfold bt
    rw [part_seg _ _ _ (D_mono d h), ih (by omega), List.filter_filter]
    refine congrArg (fun q => (seg l f t).filter q) (funext fun x => ?_)
    rw [top_alike (by omega), Bool.and_comm]
/-- The symbol at a place goes where its place goes. -/
theorem D_at (hl : ∀ x ∈ l, x < 2 ^ W) {p : Nat} (h : l[p]? = some c) {d : Nat} (hd : d ≤ W) : (lv W l d)[D W l c d p]? = some c := by
  have hc := hl c (List.mem_of_getElem? h)
  have h1 := D_seg hl hc (f := p) (t := p + 1) (by omega) d hd
  rw [seg_one h] at h1
  simp only [List.filter_cons, beq_self_eq_true, if_true, List.filter_nil] at h1
  exact of_seg_one h1
theorem bt_at (hl : ∀ x ∈ l, x < 2 ^ W) {p : Nat} (h : l[p]? = some c) {d : Nat} (hd : d ≤ W) : (bt W l d)[D W l c d p]? = some (dgt W d c) := by
  unfold bt
  rw [List.getElem?_map, D_at hl h hd]
  rfl
/-- Which are c; which are less. -/
def hit (l : List Nat) (c : Int) : List Bool := l.map fun x : Nat => decide ((x : Int) = c)
def low (l : List Nat) (c : Int) : List Bool := l.map fun x : Nat => decide ((x : Int) < c)
theorem hit_len (l : List Nat) (c : Int) : (hit l c).length = l.length := List.length_map ..
theorem low_len (l : List Nat) (c : Int) : (low l c).length = l.length := List.length_map ..
theorem rk_clip (b : List Bool) (i : Int) : rk b true i = rk b true ((min i.toNat b.length : Nat) : Int) := by
  unfold rk
  rw [Int.toNat_natCast]
  rcases Nat.le_total i.toNat b.length with h | h
  · rw [Nat.min_eq_left h]
  · rw [Nat.min_eq_right h, List.take_of_length_le h, List.take_length]
theorem count_hit (l : List Nat) (c : Nat) : (hit l c).count true = (l.filter fun x => x == c).length := by
  unfold hit
  rw [count_map]
  refine congrArg (fun q => (l.filter q).length) (funext fun x => ?_)
  rw [Bool.eq_iff_iff]
  simp
  omega
theorem hit_take (l : List Nat) (c : Int) (i : Nat) : (hit l c).take i = hit (l.take i) c := by unfold hit; rw [List.map_take]
theorem low_take (l : List Nat) (c : Int) (i : Nat) : (low l c).take i = low (l.take i) c := by unfold low; rw [List.map_take]
/-- Rank. -/
theorem D_rank (hl : ∀ x ∈ l, x < 2 ^ W) (hc : c < 2 ^ W) {i : Nat} (hi : i ≤ l.length) : D W l c W i - D W l c W 0 = rk (hit l c) true i ∧ D W l c W 0 ≤ D W l c W i := by
  refine ⟨?_, D_mono W (Nat.zero_le _)⟩
  have h1 := congrArg List.length (D_seg hl hc (Nat.zero_le i) W (Nat.le_refl _))
  rw [seg_len _ (by rw [lv_len]; exact D_le W hi), seg_zero] at h1
  rw [h1, rk_nat, hit_take, count_hit]
  refine congrArg (fun q => ((l.take i).filter q).length) (funext fun x => ?_)
  rw [top_all, top_all]
/-- Below: what one level adds. -/
def belowTo (W : Nat) (l : List Nat) (c : Nat) (d f t : Nat) : Nat := ((seg l f t).filter fun x => decide (top W d x < top W d c)).length
theorem belowTo_zero (hc : c < 2 ^ W) (f t : Nat) : belowTo W l c 0 f t = 0 := by
  unfold belowTo
  rw [List.filter_eq_nil_iff.2]
  · rfl
  · intro x hx
    rw [top_zero hc]
    simp
theorem len_or (q r : Nat → Bool) (l : List Nat) (h : ∀ x, q x = true → r x = false) : (l.filter fun x => q x || r x).length = (l.filter q).length + (l.filter r).length := by
  induction l with
  | nil => rfl
  | cons x l ih =>
    have := h x
    simp only [List.filter_cons]
    cases hq : q x <;> cases hr : r x <;> simp_all <;> omega
theorem rk_seg (b : List Bool) (o : Bool) {f t : Nat} (h : f ≤ t) : rk b o t = rk b o f + (seg b f t).count o := by
  rw [rk_nat, rk_nat, take_seg b h, List.count_append]
theorem seg_map (p : Nat → Bool) (r : List Nat) (f t : Nat) : seg (r.map p) f t = (seg r f t).map p := by
  unfold seg
  rw [← List.map_take, ← List.map_drop]
theorem belowTo_succ (hl : ∀ x ∈ l, x < 2 ^ W) (hc : c < 2 ^ W) {d f t : Nat} (hd : d < W) (h : f ≤ t) :
    (dgt W d c = true → belowTo W l c (d + 1) f t + rk (bt W l d) false (D W l c d f) = belowTo W l c d f t + rk (bt W l d) false (D W l c d t)) ∧ (dgt W d c = false → belowTo W l c (d + 1) f t = belowTo W l c d f t) := by
  have key : belowTo W l c (d + 1) f t = belowTo W l c d f t + ((seg l f t).filter fun x => dgt W d c && (top W d x == top W d c && dgt W d x == false)).length := by
    unfold belowTo
    rw [← len_or]
    · refine congrArg (fun q => ((seg l f t).filter q).length) (funext fun x => top_lt hd x c)
    · intro x hx
      have : (top W d x == top W d c) = false := by
        have := of_decide_eq_true hx
        rw [beq_eq_false_iff_ne]
        omega
      rw [this]
      simp
  refine ⟨fun hb => ?_, fun hb => ?_⟩
  · rw [rk_seg (bt W l d) false (D_mono d h), key]
    have h1 := D_seg hl hc h d (by omega)
    have h2 : (seg (bt W l d) (D W l c d f) (D W l c d t)).count false = ((seg l f t).filter fun x => dgt W d c && (top W d x == top W d c && dgt W d x == false)).length := by
      unfold bt
      rw [seg_map, h1, count_map, List.filter_filter]
      refine congrArg (fun q => ((seg l f t).filter q).length) (funext fun x => ?_)
      rw [hb, Bool.true_and, Bool.and_comm]
    omega
  · rw [key, hb]
    simp
theorem belowTo_all (f t : Nat) (h : f ≤ t) : belowTo W l c W f t = rk (low l c) true t - rk (low l c) true f := by
  rw [rk_seg (low l c) true h, Nat.add_sub_cancel_left]
  unfold belowTo low
  rw [seg_map, count_map]
  refine congrArg (fun q => ((seg l f t).filter q).length) (funext fun x => ?_)
  rw [top_all, top_all]
  by_cases h : x < c <;> simp [h]
/-- The way back. -/
theorem up_dn {b : List Bool} {o : Bool} {j : Nat} (h : b[j]? = some o) : sel b o ((dn b o j : Int) - (if o = true then (b.count false : Int) else 0)) = j := by
  refine sel_eq (.inl ⟨j, rfl, h, ?_⟩)
  unfold dn
  cases o
  · rw [if_neg (by decide), if_neg (by decide)]
    omega
  · rw [if_pos rfl, if_pos rfl]
    omega
theorem hit_at {l : List Nat} {c p : Nat} (h : (hit l (c : Int))[p]? = some true) : l[p]? = some c := by
  unfold hit at h
  rw [List.getElem?_map] at h
  cases hx : l[p]? with
  | none => rw [hx] at h; cases h
  | some x =>
    rw [hx] at h
    simp at h
    rw [show x = c by omega]
/-- Select: the place, and where it stands on each level. -/
theorem D_select (hl : ∀ x ∈ l, x < 2 ^ W) (hc : c < 2 ^ W) {k : Nat} (hk : D W l c W 0 + k < D W l c W l.length) :
    ∃ p, p < l.length ∧ l[p]? = some c ∧ sel (hit l c) true k = p ∧ D W l c W p = D W l c W 0 + k := by
  obtain ⟨h1, h2⟩ := D_rank hl hc (i := l.length) (Nat.le_refl _)
  rw [rk_all (by rw [hit_len]; exact Int.le_refl _)] at h1
  obtain ⟨p, hp1, hp2⟩ := sel_ex (hit l c) true k (by omega)
  obtain ⟨hp3, _⟩ := List.getElem?_eq_some_iff.1 hp1
  rw [hit_len] at hp3
  obtain ⟨h3, h4⟩ := D_rank hl hc (i := p) (by omega)
  rw [rk_nat] at h3
  exact ⟨p, hp3, hit_at hp1, sel_eq (.inl ⟨p, rfl, hp1, hp2⟩), by omega⟩
theorem D_none (hl : ∀ x ∈ l, x < 2 ^ W) (hc : c < 2 ^ W) {k : Int} (hk : k < 0 ∨ ((D W l c W l.length - D W l c W 0 : Nat) : Int) ≤ k) : sel (hit l c) true k = -1 := by
  obtain ⟨h1, h2⟩ := D_rank hl hc (i := l.length) (Nat.le_refl _)
  rw [rk_all (by rw [hit_len]; exact Int.le_refl _)] at h1
  exact sel_eq (.inr ⟨rfl, by omega⟩)
end

/-- What is no symbol. -/
theorem hit_out {W : Nat} {l : List Nat} {c : Int} (hl : ∀ x ∈ l, x < 2 ^ W) (hc : c < 0 ∨ ((2 ^ W : Nat) : Int) ≤ c) : hit l c = List.replicate l.length false := by
  unfold hit
  rw [List.eq_replicate_iff]
  refine ⟨List.length_map .., fun b hb => ?_⟩
  obtain ⟨x, hx, rfl⟩ := List.mem_map.1 hb
  have := hl x hx
  exact decide_eq_false (by omega)
theorem low_none {l : List Nat} {c : Int} (hc : c ≤ 0) : low l c = List.replicate l.length false := by
  unfold low
  rw [List.eq_replicate_iff]
  refine ⟨List.length_map .., fun b hb => ?_⟩
  obtain ⟨x, hx, rfl⟩ := List.mem_map.1 hb
  exact decide_eq_false (by omega)
theorem low_all {W : Nat} {l : List Nat} {c : Int} (hl : ∀ x ∈ l, x < 2 ^ W) (hc : ((2 ^ W : Nat) : Int) ≤ c) : low l c = List.replicate l.length true := by
  unfold low
  rw [List.eq_replicate_iff]
  refine ⟨List.length_map .., fun b hb => ?_⟩
  obtain ⟨x, hx, rfl⟩ := List.mem_map.1 hb
  have := hl x hx
  exact decide_eq_true (by omega)
theorem rk_repl (n : Nat) (a b : Bool) (i : Int) : rk (List.replicate n a) b i = if a = b then min i.toNat n else 0 := by
  unfold rk
  rw [List.take_replicate, List.count_replicate]
  simp
theorem sel_repl (n : Nat) (k : Int) : sel (List.replicate n false) true k = -1 := by
  refine sel_eq (.inr ⟨rfl, ?_⟩)
  rw [List.count_replicate]
  simp
  omega
end Go.Wa
