/-
  The contract of suffix.Places: the way back of an order, or refused.
-/
import Derived.Test.YtmkhndajogcojaaSvRep
namespace Go.Proofs.Ytmkhndajogcojaa
open Go.RowKit Go.Oct Go.Su

/-- The way back under way: -1 where nothing stood so far. -/
def plmUp (xs : List Int) : Nat → List Int
  | 0 => List.replicate xs.length (-1)
  | i + 1 => match xs[i]? with
    | some x => (plmUp xs i).set x.toNat (i : Int)
    | none => plmUp xs i
theorem plmUp_len (xs : List Int) : ∀ i, (plmUp xs i).length = xs.length
  | 0 => List.length_replicate ..
  | i + 1 => by
    unfold plmUp
    split
    · rw [List.length_set, plmUp_len xs i]
    · exact plmUp_len xs i
theorem plmUp_next {xs : List Int} {i : Nat} {p : Nat} (h : xs[i]? = some (p : Int)) : plmUp xs (i + 1) = (plmUp xs i).set p (i : Int) := by
  rw [plmUp, h]
  rfl
theorem getD_set {l : List Int} {p q : Nat} {v : Int} (hp : p < l.length) : (l.set p v).getD q 0 = if p = q then v else l.getD q 0 := by
  rw [List.getD_eq_getElem?_getD, List.getD_eq_getElem?_getD]
  by_cases h : p = q
  · subst h
    rw [if_pos rfl, List.getElem?_set_self hp]
    rfl
  · rw [if_neg h, List.getElem?_set_ne h]
theorem plm_sign {xs : List Int} {n : Nat} (hn : xs.length = n) : ∀ (i p : Nat), i ≤ n → p < n → Good (xs.take i) n → ((p : Int) ∈ xs.take i → 0 ≤ (plmUp xs i).getD p 0) ∧ ((p : Int) ∉ xs.take i → (plmUp xs i).getD p 0 = -1)
  | 0, p, _, hp, _ => by
    refine ⟨fun h => by simp at h, fun _ => ?_⟩
    rw [plmUp, List.getD_eq_getElem?_getD, List.getElem?_replicate, if_pos (by omega)]
    rfl
  | i + 1, p, hi, hp, g => by
    obtain ⟨y, hy⟩ : ∃ y, xs[i]? = some y := ⟨xs[i]'(by omega), List.getElem?_eq_getElem _⟩
    have htk : xs.take (i + 1) = xs.take i ++ [y] := by rw [List.take_add_one, hy]; rfl
    have hyb := g.1 y (by rw [htk]; simp)
    obtain ⟨q, rfl⟩ : ∃ q : Nat, y = q := ⟨y.toNat, by omega⟩
    have g' : Good (xs.take i) n := ⟨fun x hx => g.1 x (by rw [htk]; exact List.mem_append_left _ hx), by have := g.2; rw [htk, List.nodup_append] at this; exact this.1⟩
    have ih := plm_sign hn i p (by omega) hp g'
    rw [plmUp_next hy, getD_set (by rw [plmUp_len]; omega), htk]
    by_cases e : q = p
    · subst e
      rw [if_pos rfl]
      exact ⟨fun _ => by omega, fun h => absurd (by simp) h⟩
    · rw [if_neg e]
      have hmem : ((p : Int) ∈ xs.take i ++ [(q : Int)]) ↔ (p : Int) ∈ xs.take i := by
        rw [List.mem_append, List.mem_singleton]
        constructor
        · rintro (h | h)
          · exact h
          · omega
        · exact .inl
      rw [hmem]
      exact ih
theorem plm_plc {xs : List Int} {n : Nat} (hn : xs.length = n) (g : Good xs n) : ∀ (i p : Nat), i ≤ n → (p : Int) ∈ xs.take i → (plmUp xs i).getD p 0 = (plcUp xs i).getD p 0
  | 0, p, _, h => by simp at h
  | i + 1, p, hi, h => by
    obtain ⟨y, hy⟩ : ∃ y, xs[i]? = some y := ⟨xs[i]'(by omega), List.getElem?_eq_getElem _⟩
    have hyb := g.1 y (List.mem_of_getElem? hy)
    obtain ⟨q, rfl⟩ : ∃ q : Nat, y = q := ⟨y.toNat, by omega⟩
    rw [plmUp_next hy, plcUp_next hy, getD_set (by rw [plmUp_len]; omega), getD_set (by rw [plcUp_len]; omega)]
    by_cases e : q = p
    · rw [if_pos e, if_pos e]
    · rw [if_neg e, if_neg e]
      rw [List.take_add_one, hy, Option.toList_some, List.mem_append, List.mem_singleton] at h
      exact plm_plc hn g i p (by omega) (h.resolve_right (by omega))
theorem good_all {xs : List Int} {n : Nat} (hn : xs.length = n) (g : Good xs n) {p : Nat} (hp : p < n) : (p : Int) ∈ xs := by
  have h1 : (xs.map Int.toNat).Perm (List.range n) := by
    refine range_of ?_ (fun x hx => ?_) (by rw [List.length_map]; omega)
    · rw [List.Nodup, List.pairwise_map]
      refine List.Pairwise.imp_of_mem (fun {a b} ha hb hab => ?_) g.2
      have := g.1 a ha
      have := g.1 b hb
      omega
    · obtain ⟨y, hy, rfl⟩ := List.mem_map.1 hx
      have := g.1 y hy
      omega
  obtain ⟨y, hy, e⟩ := List.mem_map.1 (h1.mem_iff.2 (List.mem_range.2 hp))
  have := g.1 y hy
  rw [show (p : Int) = y by omega]
  exact hy
theorem plm_eq {xs : List Int} {n : Nat} (hn : xs.length = n) (g : Good xs n) : plmUp xs n = plc xs := by
  unfold plc
  rw [hn]
  apply List.ext_getElem
  · rw [plmUp_len, plcUp_len]
  · intro p h1 h2
    rw [plmUp_len] at h1
    have := plm_plc hn g n p (Nat.le_refl _) (by rw [List.take_of_length_le (by omega)]; exact good_all hn g (by omega))
    rw [List.getD_eq_getElem?_getD, List.getD_eq_getElem?_getD, List.getElem?_eq_getElem (by rw [plmUp_len]; exact h1), List.getElem?_eq_getElem h2] at this
    exact this

section
variable {F : Nat → Prop}
set_option maxHeartbeats 4000000 in
theorem places_any (xs : List Int) (A : Option Addr) (n c : Nat) (w : World) (hs : Sl w F .i64 A n xs) (hn : n ≤ 1048576) :
    Calls Try.prog 15 #[.slice A n c] w (Placed xs n w) := by
  have hl := hs.len
  have HS := Bx.mk (hs.mono (G := fun b => b < w.heap.size) (fun b h _ => h))
  have HL := Bx.mk hl
  have hone : Sl (w.alloc (.cells #[.int .i64 (-1)] 3)) (fun b => b = w.heap.size) .i64 (some ⟨w.heap.size, 0, none⟩) 1 [-1] := Vs.one w 3 (.int .i64 (-1))
  have HONE := Bx.mk hone
  clear hs hl hone
  go_enter Try.func15, Try.ntmps15
  go_wp2_with fail
  refine (repeat_any (-1) _ n 1 _ HONE.out hn).mono ?_
  rintro e w1 ⟨g, rfl, hO, hg, hC⟩
  rw [World.size_alloc] at hg
  have hC1 : Ch (fun _ => False) w w1 := ((Ch.refl (fun _ => False) w).alloc _).trans hC (fun _ _ h => h)
  have hO1 : Own w1 3 1 g n n ((plmUp xs 0).map (Value.int .i64)) := by
    rw [plmUp, HL.out]
    exact hO
  have HO1 := Bx.mk hO1
  have HC1 := Bx.mk hC1
  have HG : Bx (w.heap.size < g) := ⟨by omega⟩
  have HS1 : Bx (Sl w1 (fun b => b < w.heap.size) .i64 A n xs) := ⟨HS.out.ch hC1 (fun _ _ _ h => h)⟩
  clear hO hg hC hC1 hO1 HS HONE
  go_wp2_with fail
  go_loopw [5, 6, 13] (fun _ _ i wr => ∃ j : Nat, j ≤ n ∧ i = .int .i64 j ∧ Own wr 3 1 g n n ((plmUp xs j).map (Value.int .i64)) ∧ Good (xs.take j) n ∧ Ch (fun b => b = g) w1 wr) (fun _ _ i _ => n - (intOf i).toNat)
  case atStart => exact ⟨0, Nat.zero_le _, rfl, HO1.out, ⟨by simp, by simp⟩, Ch.refl _ _⟩
  case round =>
    obtain ⟨j, hj, rfl, hO1, hgd, hC⟩ := hrel
    have HCW : Bx (Ch (fun _ => False) w wr) := ⟨HC1.out.trans hC (fun i hi (h : i = g) => by have := HG.out; omega)⟩
    by_cases hjn : j < n
    · obtain ⟨b, off, x, rfl, hbG, hx, hcx⟩ := (HS1.out.ch hC (fun b hb _ (h : b = g) => by have := HG.out; omega)).at_ hjn
      have HX := Bx.mk hx.out
      have HGD := Bx.mk hgd
      have i1 : (0 : Int) ≤ (j : Int) := by omega
      have i2 : (j : Int) < (n : Int) := by omega
      by_cases h0 : x < 0
      · have HNG : Bx (¬ Good xs n) := ⟨good_not HX.out (.inl h0)⟩
        clear hx hgd hO1 hC
        go_wp2
        go_returns
        exact ⟨fun g => absurd g HNG.out, fun _ => rfl, HCW.out⟩
      · by_cases h1 : (n : Int) ≤ x
        · have HNG : Bx (¬ Good xs n) := ⟨good_not HX.out (.inr (.inl h1))⟩
          have d0 : decide (x < 0) = false := by simp; omega
          have d1 : decide ((n : Int) ≤ x) = true := by simpa using h1
          clear hx hgd hO1 hC
          go_wp2
          go_returns
          exact ⟨fun g => absurd g HNG.out, fun _ => rfl, HCW.out⟩
        · obtain ⟨p, rfl⟩ : ∃ p : Nat, x = p := ⟨x.toNat, by omega⟩
          have hp : p < n := by omega
          have d0 : decide ((p : Int) < 0) = false := by simp
          have d1 : decide ((n : Int) ≤ (p : Int)) = false := by simp; omega
          have i3 : (0 : Int) ≤ (p : Int) := by omega
          have i4 : (p : Int) < (n : Int) := by omega
          have hcs := hO1.cellI hp
          have hsg := plm_sign HL.out j p hj hp HGD.out
          have hf1 := hO1.frozenAt p
          have hst1 := hO1.storedI p (j : Int)
          rw [← plmUp_next HX.out] at hst1
          generalize (plmUp xs j).getD p 0 = u at *
          by_cases hm : (p : Int) ∈ xs.take j
          · have HNG : Bx (¬ Good xs n) := ⟨good_not HX.out (.inr (.inr hm))⟩
            have hu : 0 ≤ u := hsg.1 hm
            have d2 : decide (0 ≤ u) = true := by simpa using hu
            clear hx hgd hO1 hC hm hsg hst1
            go_wp2
            go_returns
            exact ⟨fun g => absurd g HNG.out, fun _ => rfl, HCW.out⟩
          · obtain rfl : u = -1 := hsg.2 hm
            have HGN := Bx.mk (good_next HGD.out HX.out i3 i4 hm)
            have HA := Bx.mk hst1.1
            have HCC := Bx.mk (hC.trans hst1.2 (fun _ _ h => h))
            clear hx hgd hm hst1 hO1 hC hsg
            go_wp2
            go_roundw
            case rel => exact ⟨j + 1, by omega, by go_num, HA.out, HGN.out, HCC.out⟩
            case measure => simp [intOf]; omega
    · have hjn' : j = n := by omega
      have dj : decide ((j : Int) < (n : Int)) = false := by simp; omega
      have HGA : Bx (Good xs n) := ⟨by rw [hjn', List.take_of_length_le (by rw [HL.out]; omega)] at hgd; exact hgd⟩
      have HPl : Bx (Own wr 3 1 g n n ((plc xs).map (Value.int .i64))) := ⟨by rw [hjn', plm_eq HL.out HGA.out] at hO1; exact hO1⟩
      clear hO1 hgd hC hjn'
      go_wp2
      go_returns
      exact ⟨fun _ => ⟨g, rfl, HPl.out, Nat.le_of_lt HG.out⟩, fun g => absurd HGA.out g, HCW.out⟩
end
end Go.Proofs.Ytmkhndajogcojaa
