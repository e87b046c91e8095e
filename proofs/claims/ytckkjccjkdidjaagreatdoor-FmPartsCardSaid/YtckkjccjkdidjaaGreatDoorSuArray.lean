/-
  The contract of the document's answer haystackref5.Array: the order of all endings, or refused.
-/
import Derived.Test.YtckkjccjkdidjaaGreatDoorSuB
import Derived.RegionTactic
namespace Go.Proofs.YtckkjccjkdidjaaGreatDoor
open Go.RowKit Go.Oct Go.Su

/-- The first k, and noughts. -/
def upZ (l : List Int) (k : Nat) : List Int := l.take k ++ List.replicate (l.length - k) 0
theorem upZ_zero (l : List Int) : upZ l 0 = List.replicate l.length 0 := by simp [upZ]
theorem upZ_all (l : List Int) : upZ l l.length = l := by simp [upZ]
theorem upZ_next {l : List Int} {k : Nat} {x : Int} (h : l[k]? = some x) : (upZ l k).set k x = upZ l (k + 1) := by
  obtain ⟨h1, h2⟩ := List.getElem?_eq_some_iff.1 h
  unfold upZ
  rw [List.take_add_one, h, List.set_append_right _ _ (by rw [List.length_take]; omega), List.length_take, Nat.min_eq_left (by omega), Nat.sub_self]
  obtain ⟨m, hm⟩ : ∃ m, l.length - k = m + 1 := ⟨l.length - k - 1, by omega⟩
  rw [hm, show l.length - (k + 1) = m by omega, List.replicate_succ, List.set_cons_zero]
  simp
/-- The places in their own order. -/
def rng (n : Nat) : List Int := asI (List.range n)
theorem rng_len (n : Nat) : (rng n).length = n := by unfold rng; rw [asI_len, List.length_range]
theorem rng_at {n k : Nat} (h : k < n) : (rng n)[k]? = some (k : Int) := by
  unfold rng asI
  rw [List.getElem?_map, List.getElem?_range h]
  rfl

/-- How many symbols a step's order tells. -/
def ord (t : Nat) : Nat := if t = 0 then 1 else t + t
/-- Where the doubling stands. -/
structure Turn (s r : List Int) (L : List Nat) (t : Nat) : Prop where
  mem : ∀ x, x ∈ L ↔ x < s.length
  nodup : L.Nodup
  rk : Rk s r (if t = 0 then 1 else t)
  inOrd : 1 ≤ t → L.Pairwise fun x y => ¬ LtK (gs s) t y x
theorem Turn.len {s r : List Int} {L : List Nat} {t : Nat} (h : Turn s r L t) : L.length = s.length := by
  have h1 : L.Perm (List.range s.length) := by
    rw [List.perm_ext_iff_of_nodup h.nodup List.nodup_range]
    intro a
    rw [h.mem, List.mem_range]
  rw [h1.length_eq, List.length_range]
theorem turn_start {s : List Int} (hs : Pos s) : Turn s s (List.range s.length) 0 :=
  ⟨fun x => List.mem_range, List.nodup_range, by rw [if_pos rfl]; exact rk_first hs, fun h => absurd h (by omega)⟩
theorem bef_ord {s r : List Int} {L : List Nat} {t : Nat} (hs : Pos s) (h : Turn s r L t) (a b : Nat) : befB r t a b = true ↔ LtK (gs s) (ord t) a b := by
  rw [befB_iff]
  have hrk := h.rk
  unfold ord
  by_cases h0 : t = 0
  · rw [if_pos h0] at hrk ⊢
    rw [← hrk.all hs (Nat.le_refl _) a b]
    simp [h0]
  · rw [if_neg h0] at hrk ⊢
    rw [← hrk.twice hs (by omega) a b]
    simp [h0]
/-- The next order. -/
theorem Turn.sorted {s r : List Int} {L : List Nat} {t f : Nat} (hs : Pos s) (h : Turn s r L t) (hf : L.length ≤ f) :
    (∀ x, x ∈ srt (leB r t) f L ↔ x < s.length) ∧ (srt (leB r t) f L).Nodup ∧ (srt (leB r t) f L).Pairwise fun x y => ¬ LtK (gs s) (ord t) y x := by
  have hp := srt_perm (leB r t) f L
  refine ⟨fun x => by rw [hp.mem_iff, h.mem], hp.symm.nodup h.nodup, ?_⟩
  refine (srt_sorted (leB_trans r t) (leB_total r t) f L hf).imp fun {x y} hxy => ?_
  unfold leB at hxy
  intro hlt
  rw [(bef_ord hs h y x).2 hlt] at hxy
  exact absurd hxy (by decide)

/-- The ranks of the first i. -/
structure AlongTo (s : List Int) (L : List Nat) (h i : Nat) (r : List Int) : Prop where
  len : r.length = s.length
  first : ∀ x, L[0]? = some x → gs r x = 0
  next : ∀ j x y, j + 1 < i → L[j]? = some x → L[j + 1]? = some y → (LtK (gs s) h x y → gs r y = gs r x + 1) ∧ (¬ LtK (gs s) h x y → gs r y = gs r x)
  bd : ∀ j x, j < i → L[j]? = some x → 0 ≤ gs r x ∧ gs r x ≤ j
theorem gs_set {r : List Int} {p q : Nat} {v : Int} (hp : p < r.length) : gs (r.set p v) q = if p = q then v else gs r q := by
  unfold gs
  rw [List.getD_eq_getElem?_getD, List.getD_eq_getElem?_getD]
  by_cases h : p = q
  · subst h
    rw [if_pos rfl, List.getElem?_set_self hp]
    rfl
  · rw [if_neg h, List.getElem?_set_ne h]
theorem nodup_at {L : List Nat} (hn : L.Nodup) {i j x : Nat} (hi : L[i]? = some x) (hj : L[j]? = some x) : i = j := by
  obtain ⟨h1, h2⟩ := List.getElem?_eq_some_iff.1 hi
  obtain ⟨h3, h4⟩ := List.getElem?_eq_some_iff.1 hj
  rw [List.Nodup, List.pairwise_iff_getElem] at hn
  rcases Nat.lt_trichotomy i j with h | h | h
  · exact absurd (h2.trans h4.symm) (hn i j h1 h3 h)
  · exact h
  · exact absurd (h4.trans h2.symm) (hn j i h3 h1 h)
theorem along_start {s : List Int} {L : List Nat} {h : Nat} (hL : ∀ x ∈ L, x < s.length) : AlongTo s L h 1 (List.replicate s.length 0) := by
  have h0 : ∀ x, x < s.length → gs (List.replicate s.length 0) x = 0 := fun x hx => gs_at (by rw [List.getElem?_replicate, if_pos hx])
  refine ⟨List.length_replicate .., fun x hx => h0 x (hL x (List.mem_of_getElem? hx)), fun j _ _ hj => by omega, fun j x hj hx => ?_⟩
  rw [h0 x (hL x (List.mem_of_getElem? hx))]
  omega
theorem AlongTo.step {s : List Int} {L : List Nat} {h i x y : Nat} {r : List Int} {v : Int} (a : AlongTo s L h i r) (hn : L.Nodup) (hL : ∀ x ∈ L, x < s.length) (hi : 1 ≤ i) (hx : L[i - 1]? = some x) (hy : L[i]? = some y) (hv1 : LtK (gs s) h x y → v = gs r x + 1) (hv2 : ¬ LtK (gs s) h x y → v = gs r x) : AlongTo s L h (i + 1) (r.set y v) := by
  have hyl : y < r.length := by rw [a.len]; exact hL y (List.mem_of_getElem? hy)
  have hb := a.bd (i - 1) x (by omega) hx
  have hv : 0 ≤ v ∧ v ≤ i := by
    by_cases hlt : LtK (gs s) h x y
    · have := hv1 hlt
      omega
    · have := hv2 hlt
      omega
  have ne : ∀ {j z}, j < i → L[j]? = some z → y ≠ z := fun {j z} hj hz e => by
    subst e
    have := nodup_at hn hy hz
    omega
  refine ⟨by rw [List.length_set]; exact a.len, fun z hz => ?_, fun j z u hj hz hu => ?_, fun j z hj hz => ?_⟩
  · rw [gs_set hyl, if_neg (ne (by omega) hz)]
    exact a.first z hz
  · rw [gs_set hyl, gs_set hyl, if_neg (ne (by omega) hz)]
    by_cases e : j + 1 = i
    · obtain rfl : j = i - 1 := by omega
      rw [show i - 1 + 1 = i by omega] at hu
      obtain rfl : u = y := Option.some.inj (hu.symm.trans hy)
      obtain rfl : z = x := Option.some.inj (hz.symm.trans hx)
      rw [if_pos rfl]
      exact ⟨hv1, hv2⟩
    · rw [if_neg (ne (by omega) hu)]
      exact a.next j z u (by omega) hz hu
  · rw [gs_set hyl]
    by_cases e : j = i
    · subst e
      obtain rfl : z = y := Option.some.inj (hz.symm.trans hy)
      rw [if_pos rfl]
      exact hv
    · rw [if_neg (ne (by omega) hz)]
      exact a.bd j z (by omega) hz
theorem AlongTo.all {s : List Int} {L : List Nat} {h i : Nat} {r : List Int} (a : AlongTo s L h i r) (hi : L.length ≤ i) : Along s L h r :=
  ⟨a.first, fun j x y hx hy => a.next j x y (by
    obtain ⟨h1, _⟩ := List.getElem?_eq_some_iff.1 hy
    omega) hx hy⟩

/-- What Array answers. -/
def aErr (s : List Int) : Int := if 65536 < s.length then 5 else if s.all (fun x => decide (0 ≤ x)) = true then 0 else 1

section
variable {F : Nat → Prop}
theorem refarr_long (A : Option Addr) (n c : Nat) (w : World) (hn : n ≤ 9223372036854775807) (h : 65536 < n) :
    Calls Tryz.prog 91 #[.slice A n c] w fun e w' => e = .returned (.tuple #[.slice none 0 0, .int .i64 5]) ∧ w = w' := by
  go_enter Tryz.func91, Tryz.ntmps91
  go_wp2
  go_returns
  exact ⟨rfl, rfl⟩
theorem refarr_neg (s : List Int) (A : Option Addr) (n c : Nat) (w : World) (hs : Sl w F .i64 A n s) (hn : n ≤ 65536) (h : s.all (fun x => decide (0 ≤ x)) = false) :
    Calls Tryz.prog 91 #[.slice A n c] w fun e w' => e = .returned (.tuple #[.slice none 0 0, .int .i64 1]) ∧ w = w' := by
  have HS := Bx.mk hs
  have HN := Bx.mk h
  have d1 : decide (65536 < (n : Int)) = false := by simp; omega
  clear hs h
  go_enter Tryz.func91, Tryz.ntmps91
  go_wp2_with fail
  go_loop [4] (fun i => ∃ k : Nat, k ≤ n ∧ i = .int .i64 k ∧ Bx ((s.take k).all (fun x => decide (0 ≤ x)) = true)) (fun i => n - (intOf i).toNat)
  case atStart => exact ⟨0, Nat.zero_le _, rfl, ⟨rfl⟩⟩
  case round =>
    obtain ⟨k, hk, rfl, hA⟩ := hrel
    by_cases hlt : k < n
    · obtain ⟨b, off, x, rfl, _, hx, hcx⟩ := HS.out.at_ hlt
      by_cases h0 : x < 0
      · clear hx
        go_wp2
        go_returns
        exact ⟨rfl, rfl⟩
      · have h1 : 0 ≤ x := by omega
        have hall : (s.take (k + 1)).all (fun x => decide (0 ≤ x)) = true := by
          rw [List.take_add_one, hx.out, List.all_append, hA.out]
          simpa using h1
        have HAA := Bx.mk hall
        clear hx hall h0
        go_wp2
        go_round
        case rel => exact ⟨k + 1, by omega, by go_num, HAA⟩
        case measure => simp [intOf]; omega
    · have h2 := hA.out
      rw [List.take_of_length_le (by rw [HS.out.len]; omega), HN.out] at h2
      cases h2

/-- What Array leaves: the order of all endings. -/
def Sufs (s : List Int) (n : Nat) (w : World) (e : Ending) (w' : World) : Prop := ∃ (A : Option Addr) (c : Nat) (L : List Nat), e = .returned (.tuple #[.slice A n c, .int .i64 0]) ∧ IsSA s L ∧ Sl w' (fun b => w.heap.size ≤ b) .i64 A n (asI L) ∧ n ≤ c ∧ c ≤ maxLen ∧ Ch (fun _ => False) w w'
/-- The doubling's memory. -/
structure Dbl (s : List Int) (n : Nat) (w wr : World) (a r : Value) (t : Nat) (A1 A2 : Option Addr) (c1 c2 : Nat) (L : List Nat) (rk : List Int) : Prop where
  a : a = .slice A1 n c1
  r : r = .slice A2 n c2
  c1 : n ≤ c1 ∧ c1 ≤ maxLen
  s1 : Sl wr (fun b => w.heap.size ≤ b) .i64 A1 n (asI L)
  s2 : Sl wr (fun b => w.heap.size ≤ b) .i64 A2 n rk
  turn : Turn s rk L t
  first : t = 0 → rk = s
  ch : Ch (fun _ => False) w wr
set_option maxRecDepth 100000 in
set_option maxHeartbeats 8000000 in
theorem refarr_ok (s : List Int) (A : Option Addr) (n c : Nat) (w : World) (hs : Sl w F .i64 A n s) (hn : n ≤ 65536) (hp : Pos s) :
    Calls Tryz.prog 91 #[.slice A n c] w (Sufs s n w) := by
  have hl := hs.len
  have HS := Bx.mk (hs.mono (G := fun b => b < w.heap.size) (fun b h _ => h))
  have HP := Bx.mk hp
  have HL := Bx.mk hl
  have d1 : decide (65536 < (n : Int)) = false := by simp; omega
  have hmk1 := mkI w n (by omega)
  have hmk2 := mkI (w.alloc (.cells (madeCells #[.int .i64 0] n) 3)) n (by omega)
  rw [World.size_alloc] at hmk2
  clear hs hp hl
  go_enter Tryz.func91, Tryz.ntmps91
  go_wp2_with fail
  go_loop [4] (fun i => ∃ k : Nat, k ≤ n ∧ i = .int .i64 k) (fun i => n - (intOf i).toNat)
  case atStart => exact ⟨0, Nat.zero_le _, rfl⟩
  case round =>
    obtain ⟨k, hk, rfl⟩ := hrel
    by_cases hlt : k < n
    · obtain ⟨b, off, x, rfl, _, hx, hcx⟩ := HS.out.at_ hlt
      have h1 : 0 ≤ x := HP.out x (List.mem_of_getElem? hx.out)
      have h0 : decide (x < 0) = false := by simp; omega
      clear hx
      go_wp2
      go_round
      case rel => exact ⟨k + 1, by omega, by go_num⟩
      case measure => simp [intOf]; omega
    · have dk : decide ((k : Int) < (n : Int)) = false := by simp; omega
      go_wp2_with fail
      obtain ⟨G, hG⟩ : ∃ G, w.heap.size = G := ⟨_, rfl⟩
      obtain ⟨w0, hw0⟩ : ∃ w0, ((w.alloc (.cells (madeCells #[.int .i64 0] n) 3)).alloc (.cells (madeCells #[.int .i64 0] n) 3)) = w0 := ⟨_, rfl⟩
      have hC0 : Ch (fun _ => False) w w0 := by rw [← hw0]; exact (((Ch.refl (fun _ => False) w).alloc _).alloc _)
      have hO1 : Own w0 3 1 G n n ((upZ (rng n) 0).map (Value.int .i64)) := by
        rw [upZ_zero, rng_len, List.map_replicate, ← hw0, ← hG]
        exact (own_made1 w 3 (.int .i64 0) n (by omega)).keep ((Ch.refl (fun _ => False) _).alloc _)
      have hO2 : Own w0 3 1 (G + 1) n n ((upZ s 0).map (Value.int .i64)) := by
        rw [upZ_zero, HL.out, List.map_replicate, ← hw0, ← hG]
        have h := own_made1 (w.alloc (.cells (madeCells #[.int .i64 0] n) 3)) 3 (.int .i64 0) n (by omega)
        rw [World.size_alloc] at h
        exact h
      have hS0 : Sl w0 (fun b => b < G) .i64 A n s := by rw [← hG]; exact HS.out.ch hC0 (fun _ _ _ h => h)
      have hsz0 : w0.heap.size = G + 2 := by rw [← hw0, World.size_alloc, World.size_alloc, hG]
      rw [hw0, hG]
      have HO1 := Bx.mk hO1
      have HO2 := Bx.mk hO2
      have HS0 := Bx.mk hS0
      have HC0 := Bx.mk hC0
      have HG := Bx.mk hG
      clear hO1 hO2 hS0 hC0 hw0 hG HS hmk1 hmk2
      go_loopw [8] (fun i wr => ∃ j : Nat, j ≤ n ∧ i = .int .i64 j ∧ Own wr 3 1 G n n ((upZ (rng n) j).map (Value.int .i64)) ∧ Own wr 3 1 (G + 1) n n ((upZ s j).map (Value.int .i64)) ∧ Ch (fun b => G ≤ b) w0 wr) (fun i _ => n - (intOf i).toNat)
      case atStart => exact ⟨0, Nat.zero_le _, rfl, HO1.out, HO2.out, Ch.refl _ _⟩
      case round =>
        obtain ⟨j, hj, rfl, hO1, hO2, hC⟩ := hrel
        by_cases hjn : j < n
        · obtain ⟨b, off, x, rfl, hbG, hx, hcx⟩ := (HS0.out.ch hC (fun b hb _ h => by omega)).at_ hjn
          have hc1 := hO1.cellI hjn
          have hf1 := hO1.frozenAt j
          have hst1 := hO1.storedI j (j : Int)
          rw [upZ_next (rng_at hjn)] at hst1
          have hO2' := hO2.ch hst1.2 (fun h => by have h' : G + 1 = G := h; omega)
          have hcx' := hst1.2.cell (p := ⟨b, off + j, none⟩) (fun h => by have h' : b = G := h; omega) hcx
          have hc2 := hO2'.cellI hjn
          have hf2 := hO2'.frozenAt j
          have hst2 := hO2'.storedI j x
          rw [upZ_next hx.out] at hst2
          have hO1'' := hst1.1.ch hst2.2 (fun h => by have h' : G = G + 1 := h; omega)
          have hCC : Ch (fun b => G ≤ b) w0 _ := (hC.trans hst1.2 (fun i _ (h : i = G) => by omega)).trans hst2.2 (fun i _ (h : i = G + 1) => by omega)
          generalize (upZ (rng n) j).getD j 0 = u1 at *
          generalize (upZ s j).getD j 0 = u2 at *
          have HA := Bx.mk hO1''
          have HB := Bx.mk hst2.1
          have HC := Bx.mk hCC
          clear hst1 hst2 hO1 hO2 hO2' hO1'' hC hCC hx
          go_wp2
          go_roundw
          case rel => exact ⟨j + 1, by omega, by go_num, HA.out, HB.out, HC.out⟩
          case measure => simp [intOf]; omega
        · have hjn' : j = n := by omega
          have dj : decide ((j : Int) < (n : Int)) = false := by simp; omega
          have e1 : upZ (rng n) n = rng n := by
            have := upZ_all (rng n)
            rwa [rng_len] at this
          have e2 : upZ s n = s := by
            have := upZ_all s
            rwa [HL.out] at this
          rw [hjn', e1] at hO1
          rw [hjn', e2] at hO2
          have hTS := turn_start HP.out
          rw [HL.out] at hTS
          have hD : Dbl s n w wr (.slice (some ⟨G, 0, none⟩) n n) (.slice (some ⟨G + 1, 0, none⟩) n n) 0 (some ⟨G, 0, none⟩) (some ⟨G + 1, 0, none⟩) n n (List.range n) s :=
            ⟨rfl, rfl, ⟨Nat.le_refl _, by unfold maxLen; omega⟩, hO1.sl.mono (fun b _ hb => by have := HG.out; omega), hO2.sl.mono (fun b _ hb => by have := HG.out; omega), hTS, fun _ => rfl, HC0.out.trans hC (fun i hi h => by have := HG.out; omega)⟩
          have HD := Bx.mk hD
          clear hO1 hO2 hC e1 e2 hTS hD hjn'
          go_wp2_with fail
          go_loopw [6, 7, 9, 10, 11] (fun a r i _ _ wr => ∃ (t : Nat) (A1 A2 : Option Addr) (c1 c2 : Nat) (L : List Nat) (rk : List Int), i = .int .i64 t ∧ t ≤ 131072 ∧ Dbl s n w wr a r t A1 A2 c1 c2 L rk) (fun _ _ i _ _ _ => n - (intOf i).toNat)
          case atStart => exact ⟨0, _, _, n, n, _, _, rfl, by omega, HD.out⟩
          case round =>
            obtain ⟨t, A1, A2, c1, c2, L, rk, rfl, ht, hD⟩ := hrel
            obtain ⟨rfl, rfl, ⟨hc1, hcm1⟩, hs1, hs2, hturn, hfirst, hC⟩ := hD
            have HTU := Bx.mk hturn
            have HFI := Bx.mk hfirst
            have HS1 := Bx.mk hs1
            have HS2 := Bx.mk hs2
            have HCM1 := Bx.mk hcm1
            have HC3 := Bx.mk hC
            clear hs1 hs2 hturn hfirst hC hcm1
            by_cases htn : t < n
            · have dt : decide ((t : Int) < (n : Int)) = true := by simp; omega
              have hLl : L.length = n := by rw [HTU.out.len]; exact HL.out
              have hLm : ∀ x ∈ L, x < n := fun x hx => by rw [← HL.out]; exact (HTU.out.mem x).1 hx
              obtain ⟨hm5, hn5, hp5⟩ := HTU.out.sorted HP.out (f := n) (by omega)
              obtain ⟨wo, rfl⟩ : ∃ wo : World, wo = wr := ⟨_, rfl⟩
              have HLL := Bx.mk hLl
              have HLM := Bx.mk hLm
              have HLE : Bx (L.length ≤ n) := ⟨by omega⟩
              have HBO : Bx (∀ a b, befB rk t a b = true ↔ LtK (gs s) (ord t) a b) := ⟨fun a b => bef_ord HP.out HTU.out a b⟩
              clear hLl hLm
              go_wp2_with fail
              refine (sort_any rk A2 n c2 t (by omega) (by omega) n L A1 n c1 _ _ _ HLE.out HS1.out HS2.out hc1 HCM1.out (by omega) HLM.out).mono ?_
              rintro e w5 ⟨A5, c5, rfl, hX, hc5, hcm5, hC5⟩
              have hlM : (srt (leB rk t) n L).length = n := by rw [srt_len]; exact HLL.out
              generalize srt (leB rk t) n L = M at *
              have HM5 := Bx.mk hm5
              have HN5 := Bx.mk hn5
              have HP5 := Bx.mk hp5
              have HML := Bx.mk hlM
              have HMb : Bx (∀ x ∈ M, x < s.length) := ⟨fun x hx => (hm5 x).1 hx⟩
              have HX : Bx (Sl w5 (fun b => w.heap.size ≤ b ∧ b < w5.heap.size) .i64 A5 n (asI M)) := ⟨hX.mono (fun b hb h => ⟨by rcases h with h | h; exact h; exact Nat.le_trans HC3.out.size h, hb⟩)⟩
              have HR5 : Bx (Sl w5 (fun b => w.heap.size ≤ b ∧ b < w5.heap.size) .i64 A2 n rk) := ⟨(HS2.out.ch hC5 (fun _ _ _ h => h)).mono (fun b hb h => ⟨h, hb⟩)⟩
              have HC5 := Bx.mk (HC3.out.trans hC5 (fun _ _ h => h))
              have HCM5 := Bx.mk hcm5
              have hmk := mkI w5 n (by omega)
              obtain ⟨G3, hG3⟩ : ∃ G3, w5.heap.size = G3 := ⟨_, rfl⟩
              obtain ⟨w6, hw6⟩ : ∃ w6, w5.alloc (.cells (madeCells #[.int .i64 0] n) 3) = w6 := ⟨_, rfl⟩
              have hC6 : Ch (fun _ => False) w5 w6 := by rw [← hw6]; exact (Ch.refl (fun _ => False) w5).alloc _
              have hO6 : Own w6 3 1 G3 n n ((List.replicate s.length 0).map (Value.int .i64)) := by
                rw [HL.out, List.map_replicate, ← hw6, ← hG3]
                exact own_made1 w5 3 (.int .i64 0) n (by omega)
              have hw3 : w.heap.size ≤ G3 := by rw [← hG3]; exact HC5.out.size
              rw [hG3] at HX HR5 hmk
              have HX6 : Bx (Sl w6 (fun b => w.heap.size ≤ b ∧ b < G3) .i64 A5 n (asI M)) := ⟨HX.out.ch hC6 (fun _ _ _ h => h)⟩
              have HR6 : Bx (Sl w6 (fun b => w.heap.size ≤ b ∧ b < G3) .i64 A2 n rk) := ⟨HR5.out.ch hC6 (fun _ _ _ h => h)⟩
              have HC6 := Bx.mk (HC5.out.trans hC6 (fun _ _ h => h))
              have HO6 := Bx.mk hO6
              have HA6 := Bx.mk (along_start (h := ord t) HMb.out)
              rw [hw6] at hmk
              clear hX hC5 hm5 hn5 hp5 hlM hcm5 hC6 hO6 HX HR5 hw6 HC5
              go_wp2_with fail
              go_loopw [11] (fun i wr => ∃ (k : Nat) (nx : List Int), 1 ≤ k ∧ k ≤ n ∧ i = .int .i64 k ∧ Own wr 3 1 G3 n n (nx.map (Value.int .i64)) ∧ AlongTo s M (ord t) k nx ∧ Ch (fun b => b = G3) w6 wr) (fun i _ => n - (intOf i).toNat)
              case atStart => exact ⟨1, _, Nat.le_refl _, by omega, rfl, HO6.out, HA6.out, Ch.refl _ _⟩
              case round =>
                obtain ⟨i, nx, hi1, hi, rfl, hO, hA, hC⟩ := hrel
                by_cases hin : i < n
                · obtain ⟨j, rfl⟩ : ∃ j, i = j + 1 := ⟨i - 1, by omega⟩
                  have hXr := HX6.out.ch hC (fun b hb _ (e : b = G3) => by omega)
                  obtain ⟨b5, o5, y0, rfl, _, hy0, hcy⟩ := hXr.at_ hin
                  obtain ⟨b6, o6, x0, hA6', _, hx0, hcx⟩ := hXr.at_ (k := j) (by omega)
                  injection hA6' with hA6'
                  injection hA6' with e1 e2
                  subst e1 e2
                  obtain ⟨y, rfl, hy⟩ := asI_at hy0.out
                  obtain ⟨x, rfl, hx⟩ := asI_at hx0.out
                  have hyn : y < n := by rw [← HL.out]; exact HMb.out y (List.mem_of_getElem? hy)
                  have hxn : x < n := by rw [← HL.out]; exact HMb.out x (List.mem_of_getElem? hx)
                  have hcnx := hO.cellI hxn
                  have hcny := hO.cellI hyn
                  have hfy := hO.frozenAt y
                  have hbd := hA.bd j x (by omega) hx
                  have hgx : nx.getD x 0 = gs nx x := by
                    have h3 : x < nx.length := by rw [hA.len, HL.out]; exact hxn
                    unfold gs
                    rw [List.getD_eq_getElem?_getD, List.getD_eq_getElem?_getD, List.getElem?_eq_getElem h3]
                    rfl
                  rw [hgx] at hcnx
                  have hst1 := hO.storedI y (gs nx x)
                  have hstep := fun v h1 h2 => hA.step (v := v) HN5.out HMb.out hi1 (x := x) (y := y) hx hy h1 h2
                  have hns := nx.length
                  generalize hv0 : gs nx x = v0 at *
                  generalize nx.getD y 0 = old at *
                  have HSTEP := Bx.mk hstep
                  have HST1 := Bx.mk hst1
                  have HCQ := Bx.mk hC
                  have HXr := Bx.mk hXr
                  have HRr : Bx (Sl wr (fun b => w.heap.size ≤ b ∧ b < G3) .i64 A2 n rk) := ⟨HR6.out.ch hC (fun b hb _ (e : b = G3) => by omega)⟩
                  have HB5 : Bx (b5 < G3) := ⟨by obtain ⟨q1, q2, q3, q4, q5⟩ := hXr.at_ (k := j) (by omega); injection q4 with q4; injection q4 with q4 _; omega⟩
                  have i1 : (0 : Int) ≤ (x : Int) := by omega
                  have i2 : (x : Int) < (n : Int) := by omega
                  have i3 : (0 : Int) ≤ (y : Int) := by omega
                  have i4 : (y : Int) < (n : Int) := by omega
                  have i5 : (0 : Int) ≤ (j : Int) := by omega
                  have i6 : (j : Int) < (n : Int) := by omega
                  have i7 : (j : Int) + 1 < (n : Int) := by omega
                  obtain ⟨wo2, rfl⟩ : ∃ wo2 : World, wo2 = wr := ⟨_, rfl⟩
                  clear hXr hy0 hx0 hy hx hO hA hC hgx hst1 hstep hns hv0
                  go_wp2_with fail
                  go_region
                  all_goals
                    generalize hws : World.drew (World.setCell wo2 _ _) = ws
                    have hOs : Own ws 3 1 G3 n n ((nx.set y v0).map (Value.int .i64)) ∧ Ch (fun b => b = G3) wo2 ws := by
                      rw [← hws]
                      exact ⟨HST1.out.1.keep ((Ch.refl (fun _ => False) _).drew), HST1.out.2.drew⟩
                    have hcy' := hOs.2.cell (p := ⟨b5, o5 + (j + 1), none⟩) (fun h => by have h' : b5 = G3 := h; have := HB5.out; omega) hcy
                    have hcx' := hOs.2.cell (p := ⟨b5, o5 + j, none⟩) (fun h => by have h' : b5 = G3 := h; have := HB5.out; omega) hcx
                    have HRs : Bx (Sl ws (fun b => w.heap.size ≤ b ∧ b < G3) .i64 A2 n rk) := ⟨HRr.out.ch hOs.2 (fun b hb _ (e : b = G3) => by omega)⟩
                    have hcn' : ws.cell? ⟨G3, y, none⟩ = some (.int .i64 v0) := by
                      rw [← hws]
                      exact World.cell?_setCell_same _ _ _ hcny
                    have hfy' := hOs.1.frozenAt y
                    have HOs := Bx.mk hOs.1
                    have HCs := Bx.mk (HCQ.out.trans hOs.2 (fun _ _ h => h))
                    clear hws hOs hcy hcx hcnx hcny hfy
                    cases hbf : befB rk t x y
                    · have hnl : ¬ LtK (gs s) (ord t) x y := fun h => by rw [(HBO.out x y).2 h] at hbf; cases hbf
                      have HAN := Bx.mk (HSTEP.out v0 (fun h => absurd h hnl) (fun _ => rfl))
                      have HBF := Bx.mk hbf
                      clear hbf hnl
                      go_wp2_with fail
                      go_quiet ((go_at_call 126; exact before_val rk A2 n c2 t x y false ws _ HRs.out (by omega) (by omega) (by omega) (by omega) HBF.out))
                      go_wp2
                      go_roundw
                      case rel => exact ⟨j + 1 + 1, _, by omega, by omega, by go_num, HOs.out.keep ((Ch.refl (fun _ => False) _).drewN _), HAN.out, HCs.out.drewN _⟩
                      case measure => simp [intOf]; omega
                    · have hlt' : LtK (gs s) (ord t) x y := (HBO.out x y).1 hbf
                      have HAN := Bx.mk (HSTEP.out (v0 + 1) (fun _ => rfl) (fun h => absurd hlt' h))
                      have HBF := Bx.mk hbf
                      clear hbf hlt'
                      go_wp2_with fail
                      go_quiet ((go_at_call 126; exact before_val rk A2 n c2 t x y true ws _ HRs.out (by omega) (by omega) (by omega) (by omega) HBF.out))
                      have hOq : Own (ws.drewN nq) 3 1 G3 n n ((nx.set y v0).map (Value.int .i64)) := HOs.out.keep ((Ch.refl (fun _ => False) _).drewN nq)
                      have hst2 := hOq.storedI y (v0 + 1)
                      rw [List.set_set] at hst2
                      have HST3 := Bx.mk hst2
                      clear hOq hst2
                      go_wp2
                      refine ⟨⟨j + 1 + 1, _, by omega, by omega, by go_num, HST3.out.1, HAN.out, (HCs.out.drewN nq).trans HST3.out.2 (fun _ _ h => h)⟩, ?_⟩
                      simp [intOf]
                      omega
                · have hin' : i = n := by omega
                  have di : decide ((i : Int) < (n : Int)) = false := by simp; omega
                  have di2 : decide (i < n) = false := by simp; omega
                  have hal : Along s M (ord t) nx := hA.all (by rw [HML.out]; omega)
                  have hrkn : Rk s nx (ord t) := hal.rk HM5.out HP5.out hA.len
                  have hXr := HX6.out.ch hC (fun b hb _ (e : b = G3) => by omega)
                  obtain ⟨b5, o5, z0, rfl, _, hz0, hcz⟩ := hXr.at_ (k := n - 1) (by omega)
                  obtain ⟨z, rfl, hz⟩ := asI_at hz0.out
                  have hzn : z < n := by rw [← HL.out]; exact HMb.out z (List.mem_of_getElem? hz)
                  have hcnz := hO.cellI hzn
                  have hgz : nx.getD z 0 = gs nx z := by
                    have h3 : z < nx.length := by rw [hA.len, HL.out]; exact hzn
                    unfold gs
                    rw [List.getD_eq_getElem?_getD, List.getD_eq_getElem?_getD, List.getElem?_eq_getElem h3]
                    rfl
                  rw [hgz] at hcnz
                  have hbd := hA.bd (n - 1) z (by omega) hz
                  have hlast : M[M.length - 1]? = some z := by rw [HML.out]; exact hz
                  have hst : gs nx z = (n : Int) - 1 → IsSA s M := fun he => ⟨by rw [HML.out, HL.out], HM5.out, hal.strict HP5.out hlast (by rw [HML.out]; exact he)⟩
                  generalize gs nx z = gz at *
                  have hn1 : 0 ≤ (n : Int) - 1 := by omega
                  have hn2 : (n : Int) - 1 < (n : Int) := by omega
                  have hcz' : wr.cell? ⟨b5, o5 + ((n : Int) - 1).toNat, none⟩ = some (.int .i64 (z : Int)) := by rw [show ((n : Int) - 1).toNat = n - 1 by omega]; exact hcz
                  have i3 : (0 : Int) ≤ (z : Int) := by omega
                  have i4 : (z : Int) < (n : Int) := by omega
                  have i5 : (0 : Int) < (n : Int) := by omega
                  have hS9 : Sl wr (fun b => w.heap.size ≤ b) .i64 (some ⟨b5, o5, none⟩) n (asI M) := hXr.mono (fun b _ hb => hb.1)
                  have hN9 : Sl wr (fun b => w.heap.size ≤ b) .i64 (some ⟨G3, 0, none⟩) n nx := hO.sl.mono (fun b _ hb => by omega)
                  have hC9 : Ch (fun _ => False) w wr := HC6.out.trans hC (fun i hi (e : i = G3) => by omega)
                  have HSTR := Bx.mk hst
                  have HRKN := Bx.mk hrkn
                  have HS9 := Bx.mk hS9
                  have HN9 := Bx.mk hN9
                  have HC9 := Bx.mk hC9
                  clear hal hrkn hXr hz0 hz hgz hlast hst hS9 hN9 hC9 hO hA hC
                  by_cases hge : gz = (n : Int) - 1
                  · have HSA := Bx.mk (HSTR.out hge)
                    have hb : (gz == (n : Int) - 1) = true := by simpa using hge
                    go_wp2
                    go_returns
                    exact ⟨_, c5, M, rfl, HSA.out, HS9.out, hc5, HCM5.out, HC9.out⟩
                  · have hb : (gz == (n : Int) - 1) = false := by simpa using hge
                    have HGE := Bx.mk hge
                    have hT : Turn s nx M (ord t) := by
                      have h1 : ord t ≠ 0 := by unfold ord; split <;> omega
                      exact ⟨HM5.out, HN5.out, by rw [if_neg h1]; exact HRKN.out, fun _ => HP5.out⟩
                    have HT := Bx.mk hT
                    clear hge hT
                    rcases Nat.eq_zero_or_pos t with h0 | h0
                    · subst h0
                      have HD2 : Bx (Dbl s n w wr (.slice (some ⟨b5, o5, none⟩) n c5) (.slice (some ⟨G3, 0, none⟩) n n) 1 (some ⟨b5, o5, none⟩) (some ⟨G3, 0, none⟩) c5 n M nx) := ⟨⟨rfl, rfl, ⟨hc5, HCM5.out⟩, HS9.out, HN9.out, by have h := HT.out; rwa [show ord 0 = 1 from rfl] at h, fun h => by omega, HC9.out⟩⟩
                      go_wp2
                      go_roundw
                      case rel => exact ⟨1, _, _, c5, n, M, nx, by go_num, by omega, HD2.out⟩
                      case measure => simp [intOf]; omega
                    · have hm : max (1 : Int) (2 * (t : Int)) = 2 * (t : Int) := by omega
                      have htt : 2 * (t : Int) = ((t + t : Nat) : Int) := by omega
                      have HTT := Bx.mk htt
                      clear htt
                      have ho : ord t = t + t := by unfold ord; rw [if_neg (by omega)]
                      have HD2 : Bx (Dbl s n w wr (.slice (some ⟨b5, o5, none⟩) n c5) (.slice (some ⟨G3, 0, none⟩) n n) (t + t) (some ⟨b5, o5, none⟩) (some ⟨G3, 0, none⟩) c5 n M nx) := ⟨⟨rfl, rfl, ⟨hc5, HCM5.out⟩, HS9.out, HN9.out, by have h := HT.out; rwa [ho] at h, fun h => by omega, HC9.out⟩⟩
                      go_wp2
                      go_roundw
                      case rel => exact ⟨t + t, _, _, c5, n, M, nx, by rw [← HTT.out], by omega, HD2.out⟩
                      case measure => simp [intOf]; omega
            · have dt : decide ((t : Int) < (n : Int)) = false := by simp; omega
              have hSA : IsSA s L := by
                refine ⟨HTU.out.len, HTU.out.mem, ?_⟩
                rcases Nat.eq_zero_or_pos t with h0 | h0
                · have hz : L = [] := List.eq_nil_of_length_eq_zero (by rw [HTU.out.len, HL.out]; omega)
                  rw [hz]
                  exact List.Pairwise.nil
                · exact strict_all HP.out HTU.out.nodup HTU.out.mem (HTU.out.inOrd h0) (by rw [HL.out]; omega)
              have HSA := Bx.mk hSA
              clear hSA
              go_wp2
              go_returns
              exact ⟨A1, c1, L, rfl, HSA.out, HS1.out, hc1, HCM1.out, HC3.out⟩
end
end Go.Proofs.YtckkjccjkdidjaaGreatDoor
