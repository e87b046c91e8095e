/-
  Plain mathematics of places that are written down, over no program: which endings begin at one, where it is found again, the borders between texts, the places of a pattern in order.
  Conditions: none; plain lemmas.
-/
/-
  Plain mathematics, over no program: the borders between texts counted and found; the places of a pattern, sorted, are its places in the texts in order; a row that is one of texts.
  Conditions: none; plain lemmas.
-/
import Derived.Test.YtckkjccjkdidjaaGreatDoorMaSu
import Derived.Test.YtckkjccjkdidjaaGreatDoorMaWa
namespace Go.Su
open Go.Bi (rk sel sel_eq IsSel)

/-- How many places are written down. -/
def smp (n : Nat) : Nat := (n + 7) / 8
/-- Which endings, in their order, begin at a place that is written down. -/
def knw (L : List Nat) : List Bool := L.map fun x => decide (x % 8 = 0)
/-- Which in the order the ending is that begins at each of them. -/
def ords (l : List Int) : List Nat := (List.range (smp l.length)).map fun i => way l (l.length - 1 - 8 * i)
/-- The places, by the order of endings, in eights. -/
def plcs (L : List Nat) : List Nat := (L.filter fun x => decide (x % 8 = 0)).map fun x => x / 8

theorem knw_len (L : List Nat) : (knw L).length = L.length := List.length_map ..
theorem ords_len (l : List Int) : (ords l).length = smp l.length := by unfold ords; simp
theorem rk_step {α : Type} (f : α → Bool) : ∀ (L : List α) (j : Nat) (x : α), L[j]? = some x → f x = true → (L.filter f)[((L.map f).take j).count true]? = some x
  | [], _, _, h, _ => by simp at h
  | a :: L, 0, x, h, hf => by
    obtain rfl : a = x := by simpa using h
    simp [hf]
  | a :: L, j + 1, x, h, hf => by
    have ih := rk_step f L j x (by simpa using h) hf
    rw [List.map_cons, List.take_succ_cons, List.count_cons, List.filter_cons]
    cases hfa : f a
    · simpa using ih
    · simpa using ih
theorem plcs_at {L : List Nat} {j x : Nat} (h : L[j]? = some x) (hx : x % 8 = 0) : (plcs L)[rk (knw L) true j]? = some (x / 8) := by
  unfold plcs
  rw [List.getElem?_map, Go.Bi.rk_nat]
  have := rk_step (fun x => decide (x % 8 = 0)) L j x h (by simpa using hx)
  unfold knw
  rw [this]
  rfl
theorem knw_at {L : List Nat} {j x : Nat} (h : L[j]? = some x) : (knw L)[j]? = some (decide (x % 8 = 0)) := by
  unfold knw
  rw [List.getElem?_map, h]
  rfl
section
variable {s l : List Int} {L : List Nat}
theorem sa_perm (h : IsSA s L) : L.Perm (List.range s.length) := range_of h.nodup (fun x hx => (h.mem x).1 hx) (Nat.le_of_eq h.len.symm)
theorem count8 : ∀ n : Nat, (List.range n).countP (fun x => decide (x % 8 = 0)) = smp n
  | 0 => rfl
  | n + 1 => by
    rw [List.range_succ, List.countP_append, count8 n]
    unfold smp
    by_cases e : n % 8 = 0
    · simp [e]
      omega
    · simp [e]
      omega
theorem plcs_len (h : IsSA s L) : (plcs L).length = smp s.length := by
  unfold plcs
  rw [List.length_map, ← List.countP_eq_length_filter, (sa_perm h).countP_eq, count8]
theorem plcs_lt (h : IsSA s L) : ∀ v ∈ plcs L, v < smp s.length := fun v hv => by
  unfold plcs at hv
  obtain ⟨x, hx, rfl⟩ := List.mem_map.1 hv
  rw [List.mem_filter] at hx
  have h1 := (h.mem x).1 hx.1
  have h2 : x % 8 = 0 := by simpa using hx.2
  unfold smp
  omega
theorem plcs_nodup (h : IsSA s L) : (plcs L).Nodup := by
  unfold plcs
  rw [List.Nodup, List.pairwise_map]
  refine List.Pairwise.imp_of_mem (fun {a b} ha hb hab e => ?_) (h.nodup.filter _)
  rw [List.mem_filter] at ha hb
  have h1 : a % 8 = 0 := by simpa using ha.2
  have h2 : b % 8 = 0 := by simpa using hb.2
  exact hab (by omega)
/-- Which in the order the ending is that begins at a place. -/
theorem way_at (t : Turned s l) (h : IsSA s L) {x : Nat} (hx : x < s.length) : L[way l (l.length - 1 - x)]? = some x := by
  have := t.way h (s.length - 1 - x) (by omega)
  rw [t.len]
  rwa [show s.length - 1 - (s.length - 1 - x) = x by omega] at this
theorem ords_get {i : Nat} (hi : i < smp l.length) : (ords l)[i]? = some (way l (l.length - 1 - 8 * i)) := by
  unfold ords
  rw [List.getElem?_map, List.getElem?_range hi]
  rfl
theorem smp_lt {n i : Nat} (h : i < smp n) : 8 * i < n := by unfold smp at h; omega
theorem lt_smp {n x : Nat} (h : x < n) (h8 : x % 8 = 0) : x / 8 < smp n := by unfold smp; omega
theorem way_step {l : List Int} {p : Nat} (hp : p + 1 < l.length) : lf l (way l (l.length - 1 - (p + 1))) = way l (l.length - 1 - p) := by
  rw [show l.length - 1 - p = (l.length - 1 - (p + 1)) + 1 by omega]
  rfl

/-- The orders under way, all places from p on done. -/
def upO (l : List Int) (p : Nat) : List Nat := (List.range (smp l.length)).map fun i => if p ≤ 8 * i then way l (l.length - 1 - 8 * i) else 0
theorem upO_len (l : List Int) (p : Nat) : (upO l p).length = smp l.length := by unfold upO; simp
theorem upO_start (l : List Int) : upO l l.length = List.replicate (smp l.length) 0 := by
  refine List.ext_getElem? fun i => ?_
  unfold upO
  rcases Nat.lt_or_ge i (smp l.length) with h | h
  · have := smp_lt h
    rw [List.getElem?_map, List.getElem?_range h, List.getElem?_replicate, if_pos h]
    simp
    omega
  · rw [List.getElem?_eq_none (by simpa using h), List.getElem?_eq_none (by simpa using h)]
theorem upO_all (l : List Int) : upO l 0 = ords l := by unfold upO ords; simp
theorem upO_no {p : Nat} (h : p % 8 ≠ 0) : upO l (p + 1) = upO l p := by
  unfold upO
  refine List.map_congr_left fun i _ => ?_
  by_cases e : p ≤ 8 * i
  · rw [if_pos e, if_pos (by omega)]
  · rw [if_neg e, if_neg (by omega)]
theorem upO_yes {p : Nat} (hp : p < l.length) (h : p % 8 = 0) : (upO l (p + 1)).set (p / 8) (way l (l.length - 1 - p)) = upO l p := by
  refine List.ext_getElem? fun i => ?_
  rcases Nat.lt_or_ge i (smp l.length) with g | g
  · rw [List.getElem?_set]
    unfold upO
    rw [List.getElem?_map, List.getElem?_map, List.getElem?_range g, List.length_map, List.length_range]
    have := lt_smp hp h
    by_cases e : p / 8 = i
    · rw [if_pos e, if_pos (by omega)]
      simp only [Option.map_some]
      rw [if_pos (by omega), show 8 * i = p by omega]
    · rw [if_neg e]
      simp only [Option.map_some]
      by_cases e2 : p ≤ 8 * i
      · rw [if_pos e2, if_pos (by omega)]
      · rw [if_neg e2, if_neg (by omega)]
  · rw [List.getElem?_eq_none (by rw [List.length_set, upO_len]; exact g), List.getElem?_eq_none (by rw [upO_len]; exact g)]
/-- Which are known under way. -/
def upK (L : List Nat) (p : Nat) : List Bool := L.map fun x => decide (p ≤ x ∧ x % 8 = 0)
theorem upK_len (L : List Nat) (p : Nat) : (upK L p).length = L.length := List.length_map ..
theorem upK_start (h : IsSA s L) : upK L s.length = List.replicate s.length false := by
  refine List.ext_getElem? fun i => ?_
  unfold upK
  rcases Nat.lt_or_ge i s.length with g | g
  · obtain ⟨x, hx, hlt⟩ := h.has g
    rw [List.getElem?_map, hx, List.getElem?_replicate, if_pos g]
    simp
    omega
  · rw [List.getElem?_eq_none (by rw [List.length_map, h.len]; exact g), List.getElem?_eq_none (by simpa using g)]
theorem upK_all (L : List Nat) : upK L 0 = knw L := by unfold upK knw; simp
theorem upK_no {p : Nat} (h : p % 8 ≠ 0) : upK L (p + 1) = upK L p := by
  unfold upK
  refine List.map_congr_left fun x _ => ?_
  rw [decide_eq_decide]
  constructor
  · rintro ⟨a, b⟩; exact ⟨by omega, b⟩
  · rintro ⟨a, b⟩; exact ⟨by omega, b⟩
theorem upK_yes (h : IsSA s L) {p j : Nat} (hj : L[j]? = some p) (h8 : p % 8 = 0) : (upK L (p + 1)).set j true = upK L p := by
  obtain ⟨hj1, _⟩ := List.getElem?_eq_some_iff.1 hj
  refine List.ext_getElem? fun i => ?_
  rw [List.getElem?_set]
  unfold upK
  rw [List.getElem?_map, List.getElem?_map, List.length_map]
  by_cases e : j = i
  · subst e
    rw [if_pos rfl, if_pos hj1, hj]
    simp [h8]
  · rw [if_neg e]
    cases hx : L[i]? with
    | none => rfl
    | some x =>
      have hne : x ≠ p := fun e2 => by
        subst e2
        exact e (at_one h.nodup hj hx)
      simp only [Option.map_some, Option.some.injEq]
      rw [decide_eq_decide]
      constructor
      · rintro ⟨a, b⟩; exact ⟨by omega, b⟩
      · rintro ⟨a, b⟩; exact ⟨by omega, b⟩
/-- The places under way. -/
def upP (L : List Nat) (k : Nat) : List Nat := (plcs L).map fun v => if v < k then v else 0
theorem upP_len (L : List Nat) (k : Nat) : (upP L k).length = (plcs L).length := List.length_map ..
theorem upP_start (L : List Nat) : upP L 0 = List.replicate (plcs L).length 0 := by
  unfold upP
  rw [← List.map_const']
  exact List.map_congr_left fun v _ => if_neg (by omega)
theorem upP_all (h : IsSA s L) : upP L (smp s.length) = plcs L := by
  unfold upP
  exact (List.map_congr_left (g := id) fun v hv => if_pos (plcs_lt h v hv)).trans (List.map_id _)
theorem upP_next (h : IsSA s L) {k r : Nat} (hr : (plcs L)[r]? = some k) : (upP L k).set r k = upP L (k + 1) := by
  obtain ⟨hr1, _⟩ := List.getElem?_eq_some_iff.1 hr
  refine List.ext_getElem? fun i => ?_
  rw [List.getElem?_set]
  unfold upP
  rw [List.getElem?_map, List.getElem?_map, List.length_map]
  by_cases e : r = i
  · subst e
    rw [if_pos rfl, if_pos hr1, hr]
    simp
  · rw [if_neg e]
    cases hx : (plcs L)[i]? with
    | none => rfl
    | some v =>
      have hne : v ≠ k := fun e2 => by
        subst e2
        exact e (at_one (plcs_nodup h) hr hx)
      simp only [Option.map_some, Option.some.injEq]
      by_cases e2 : v < k
      · rw [if_pos e2, if_pos (by omega)]
      · rw [if_neg e2, if_neg (by omega)]
/-- The next longer ending. -/
theorem Turned.longer (t : Turned s l) (h : IsSA s L) {j x : Nat} (hj : L[j]? = some (x + 1)) : L[lf l j]? = some x := by
  have := t.step h hj
  rwa [show prv s.length (x + 1) = x by unfold prv; rw [if_neg (by omega)]; omega] at this
theorem Turned.symAt (t : Turned s l) (h : IsSA s L) {j x : Nat} (hj : L[j]? = some (x + 1)) : gs l j = gs s x := by
  have := t.at' h hj
  rwa [show prv s.length (x + 1) = x by unfold prv; rw [if_neg (by omega)]; omega] at this
end
end Go.Su

namespace Go.Su
open Go.Bi (rk sel sel_eq IsSel)

/-- Which places of a row have a border. -/
def brd (s : List Int) : List Bool := s.map fun x => decide (x = 1)
theorem brd_len (s : List Int) : (brd s).length = s.length := List.length_map ..
theorem brd_rk (s : List Int) (i : Nat) : rk (brd s) true i = (s.take i).countP fun x => decide (x = 1) := by
  rw [Go.Bi.rk_nat]
  unfold brd
  rw [← List.map_take, List.count_eq_countP, List.countP_map]
  refine List.countP_congr fun x _ => ?_
  simp
theorem no_ones {t : List Int} (h : ∀ x ∈ t, 0 ≤ x) (a : Nat) : ((t.map fun b => b + 2).take a).countP (fun x => decide (x = 1)) = 0 := by
  rw [List.countP_eq_zero]
  intro x hx
  obtain ⟨b, hb, rfl⟩ := List.mem_map.1 (List.mem_of_mem_take hx)
  have := h b hb
  simp
  omega
theorem ones_body : ∀ (xss : List (List Int)) (u : List Int) (d a : Nat), PosB xss → d < xss.length → a ≤ (xss.getD d []).length → ((body xss ++ u).take (beg xss d + a)).countP (fun x => decide (x = 1)) = d
  | [], u, d, a, _, h, _ => absurd h (by simp)
  | t :: xss, u, 0, a, hb, _, ha => by
    have ha' : a ≤ t.length := ha
    rw [beg_zero, Nat.zero_add]
    show ((t.map (fun b => b + 2) ++ 1 :: body xss ++ u).take a).countP _ = 0
    rw [List.append_assoc, List.take_append_of_le_length (by simpa using ha')]
    exact no_ones (hb t (List.mem_cons_self ..)) a
  | t :: xss, u, d + 1, a, hb, h, ha => by
    have ih := ones_body xss u d a (fun v hv => hb v (List.mem_cons_of_mem _ hv)) (by simpa using h) (by simpa using ha)
    have e : body (t :: xss) ++ u = (t.map (fun b => b + 2) ++ [1]) ++ (body xss ++ u) := by simp [body]
    have h0 := no_ones (hb t (List.mem_cons_self ..)) (t.map fun b => b + 2).length
    rw [List.take_length] at h0
    rw [e, beg_cons, show t.length + 1 + beg xss d + a = (t.map (fun b => b + 2) ++ [1]).length + (beg xss d + a) by simp; omega, List.take_length_add_append, List.countP_append, ih, List.countP_append, h0]
    simp
    omega
theorem ones_all : ∀ (xss : List (List Int)), PosB xss → (body xss).countP (fun x => decide (x = 1)) = xss.length
  | [], _ => rfl
  | t :: xss, hb => by
    have ih := ones_all xss (fun v hv => hb v (List.mem_cons_of_mem _ hv))
    have h0 := no_ones (hb t (List.mem_cons_self ..)) (t.map fun b => b + 2).length
    rw [List.take_length] at h0
    have e : body (t :: xss) = (t.map (fun b => b + 2) ++ [1]) ++ body xss := by simp [body]
    rw [e, List.countP_append, ih, List.countP_append, h0]
    simp
    omega
section
variable {xss : List (List Int)} {p : List Int} {d a : Nat}
theorem brd_count (hb : PosB xss) (hd : d < xss.length) (ha : a ≤ (xss.getD d []).length) : rk (brd (txt xss)) true ((beg xss d + a : Nat) : Int) = d := by
  rw [brd_rk]
  exact ones_body xss [0] d a hb hd ha
theorem brd_ones (hb : PosB xss) : (brd (txt xss)).count true = xss.length := by
  unfold brd txt
  rw [List.count_eq_countP, List.countP_map, List.countP_append]
  have e := ones_all xss hb
  have e2 : List.countP ((fun x => x == true) ∘ fun x : Int => decide (x = 1)) (body xss) = (body xss).countP (fun x => decide (x = 1)) := List.countP_congr fun x _ => by simp
  rw [e2, e]
  simp
theorem brd_sel (hb : PosB xss) (hd : d < xss.length) : sel (brd (txt xss)) true (d : Nat) = ((beg xss d + (xss.getD d []).length : Nat) : Int) := by
  refine sel_eq (.inl ⟨_, rfl, ?_, ?_⟩)
  · have h1 := txt_end hd
    have h2 := beg_lt hd (Nat.le_refl _)
    unfold brd
    rw [List.getElem?_map, gs_some (by rw [txt_len]; omega), h1]
    rfl
  · have := brd_count hb hd (Nat.le_refl _)
    rw [Go.Bi.rk_nat] at this
    rw [this]
theorem brd_none (s : List Int) : sel (brd s) true (-1) = -1 := sel_eq (.inr ⟨rfl, .inl (by omega)⟩)
/-- Where a text begins, by the border ahead of it. -/
theorem brd_start (hb : PosB xss) (hd : d < xss.length) : sel (brd (txt xss)) true ((d : Int) - 1) + 1 = (beg xss d : Nat) := by
  rcases d with _ | d
  · rw [show ((0 : Nat) : Int) - 1 = -1 by omega, brd_none, beg_zero]
    omega
  · rw [show ((d + 1 : Nat) : Int) - 1 = (d : Nat) by omega, brd_sel hb (by omega), beg_next xss d (by omega)]
    omega
/-- The text and the place in it of a place of the row. -/
def spot (xss : List (List Int)) (x : Nat) : Nat × Nat := (rk (brd (txt xss)) true x, x - beg xss (rk (brd (txt xss)) true x))
theorem spot_is (hb : PosB xss) (hd : d < xss.length) (ha : a ≤ (xss.getD d []).length) : spot xss (beg xss d + a) = (d, a) := by
  unfold spot
  rw [brd_count hb hd ha, Nat.add_sub_cancel_left]
/-- Lesser, then earlier. -/
def Lex (u v : Nat × Nat) : Prop := u.1 < v.1 ∨ (u.1 = v.1 ∧ u.2 < v.2)
theorem spots_are (hb : PosB xss) (hp : ∀ b ∈ p, 0 ≤ b) (h0 : p ≠ []) {P : List Nat} (hs : P.Pairwise (fun x y => x < y)) (hm : ∀ x, x ∈ P ↔ Pre (txt xss) x (p.map fun b => b + 2)) : P.map (spot xss) = locs xss p 0 := by
  refine pairwise_uniq (R := Lex) (fun u v h g => ?_) ?_ (locs_sorted xss 0) fun u => ?_
  · unfold Lex at h g
    omega
  · rw [List.pairwise_map]
    refine List.Pairwise.imp_of_mem (fun {x y} hx hy h => ?_) hs
    obtain ⟨d, a, rfl, ho⟩ := (pre_occ hp h0).1 ((hm x).1 hx)
    obtain ⟨e, b, rfl, go⟩ := (pre_occ hp h0).1 ((hm y).1 hy)
    have h1 := ho.fits
    have h2 := go.fits
    rw [spot_is hb ho.doc (by omega), spot_is hb go.doc (by omega)]
    exact (occ_lt ho go).1 h
  · obtain ⟨d, a⟩ := u
    rw [List.mem_map, mem_locs]
    constructor
    · rintro ⟨x, hx, e⟩
      obtain ⟨d', a', rfl, ho⟩ := (pre_occ hp h0).1 ((hm x).1 hx)
      have h1 := ho.fits
      rw [spot_is hb ho.doc (by omega)] at e
      injection e with e1 e2
      subst e1 e2
      exact ⟨Nat.zero_le _, by rwa [Nat.sub_zero]⟩
    · rintro ⟨_, ho⟩
      rw [Nat.sub_zero] at ho
      have h1 := ho.fits
      exact ⟨beg xss d + a, (hm _).2 ((pre_occ hp h0).2 ⟨d, a, rfl, ho⟩), spot_is hb ho.doc (by omega)⟩
/-- The places from lo on, ahead of hi. -/
def cutL (L : List Nat) (lo hi : Nat) : List Nat := (L.take hi).drop lo
theorem cutL_len {L : List Nat} {lo hi : Nat} (h : hi ≤ L.length) : (cutL L lo hi).length = hi - lo := by
  unfold cutL
  rw [List.length_drop, List.length_take]
  omega
theorem cutL_at {L : List Nat} {lo hi i : Nat} (h : lo + i < hi) : (cutL L lo hi)[i]? = L[lo + i]? := by
  unfold cutL
  rw [List.getElem?_drop, List.getElem?_take_of_lt h]
theorem cutL_mem {L : List Nat} {lo hi x : Nat} : x ∈ cutL L lo hi ↔ ∃ i, lo ≤ i ∧ i < hi ∧ L[i]? = some x := by
  rw [List.mem_iff_getElem?]
  constructor
  · rintro ⟨i, hi'⟩
    rcases Nat.lt_or_ge (lo + i) hi with h | h
    · rw [cutL_at h] at hi'
      exact ⟨lo + i, by omega, h, hi'⟩
    · rw [List.getElem?_eq_none (by unfold cutL; rw [List.length_drop, List.length_take]; omega)] at hi'
      cases hi'
  · rintro ⟨i, h1, h2, h3⟩
    refine ⟨i - lo, ?_⟩
    rw [cutL_at (by omega), show lo + (i - lo) = i by omega, h3]
theorem strict_of {l : List Nat} (h : l.Pairwise (fun x y => x ≤ y)) (hn : l.Nodup) : l.Pairwise (fun x y => x < y) := by
  refine (List.pairwise_and_iff.2 ⟨h, hn⟩).imp fun {x y} h => ?_
  have := h.1
  have := h.2
  omega
/-- The places of a pattern, in order. -/
theorem locs_cut (hb : PosB xss) (hp : ∀ b ∈ p, 0 ≤ b) (h0 : p ≠ []) {L P : List Nat} {lo hi : Nat} (h : IsSA (txt xss) L) (r : Rng (txt xss) L (p.map fun b => b + 2) lo hi) (hP : P.Perm (cutL L lo hi)) (hs : P.Pairwise (fun x y => x ≤ y)) : P.map (spot xss) = locs xss p 0 := by
  have hn : (cutL L lo hi).Nodup := by
    unfold cutL
    exact (List.drop_sublist _ _).nodup ((List.take_sublist _ _).nodup h.nodup)
  refine spots_are hb hp h0 (strict_of hs (hP.symm.nodup hn)) fun x => ?_
  rw [hP.mem_iff, cutL_mem]
  constructor
  · rintro ⟨i, h1, h2, h3⟩
    exact (r.2.2 i x h3).2 ⟨h1, h2⟩
  · intro hx
    have hlt : x < (txt xss).length := by
      rcases Nat.lt_or_ge x (txt xss).length with g | g
      · exact g
      · obtain ⟨d, a, rfl, ho⟩ := (pre_occ hp h0).1 hx
        have h1 := ho.fits
        have := beg_lt ho.doc (a := a) (by omega)
        rw [txt_len] at g
        omega
    obtain ⟨i, hi'⟩ := h.find hlt
    obtain ⟨h1, h2⟩ := (r.2.2 i x hi').1 hx
    exact ⟨i, h1, h2, hi'⟩
theorem locs_count (hb : PosB xss) (hp : ∀ b ∈ p, 0 ≤ b) (h0 : p ≠ []) {L : List Nat} {lo hi : Nat} (h : IsSA (txt xss) L) (r : Rng (txt xss) L (p.map fun b => b + 2) lo hi) : (locs xss p 0).length = hi - lo := by
  have e := locs_cut hb hp h0 h r (P := (cutL L lo hi).mergeSort) (List.mergeSort_perm _ _) ((List.pairwise_mergeSort (le := fun x y : Nat => decide (x ≤ y)) (fun a b c => by simp; omega) (fun a b => by simp; omega) _).imp fun {x y} h => by simpa using h)
  rw [← e, List.length_map, (List.mergeSort_perm _ _).length_eq, cutL_len (by have := r.2.1; have := h.len; omega)]
theorem locs_empty : ∀ (xss : List (List Int)) (k : Nat), locs xss [] k = []
  | [], _ => rfl
  | t :: xss, k => by
    have ih := locs_empty xss (k + 1)
    simp [locs, ih, ats]
end
end Go.Su
