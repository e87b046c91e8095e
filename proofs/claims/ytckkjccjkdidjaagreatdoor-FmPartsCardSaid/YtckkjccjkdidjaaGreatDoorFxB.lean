/-
  The contracts of symbol and an Index's seek and Count: the endings that begin with a pattern; how often it stands in the texts.
  Conditions: the Index is what it says; the pattern reads as it says.
-/
/-
  The contract of slices.Sort over a row of ints of the call's own; what the places of a pattern, sorted, are.
  Conditions: the row is the call's own.
-/
import Derived.Test.YtckkjccjkdidjaaGreatDoorFxA
import Derived.Test.YtckkjccjkdidjaaGreatDoorFxLaid
import Derived.Test.YtckkjccjkdidjaaGreatDoorSvB
namespace Go.Su
section
variable {s : List Int} {L : List Nat} {p : List Int}
/-- A pattern's symbols. -/
def up2 (p : List Int) : List Int := p.map fun b => b + 2
theorem pre_drop {x k : Nat} (h : Pre s x (up2 p)) : Pre s (x + k) (up2 (p.drop k)) := fun j hj => by
  unfold up2 at *
  rw [List.length_map, List.length_drop] at hj
  have h1 := h (k + j) (by rw [List.length_map]; omega)
  rw [Nat.add_assoc, h1, gs_at (by rw [List.getElem?_map, gs_some (by omega)]; rfl), gs_at (s := (p.drop k).map fun b => b + 2) (p := j) (by rw [List.getElem?_map, List.getElem?_drop, gs_some (by omega)]; rfl)]
theorem rng_none {k lo : Nat} (h : IsSA s L) (r : Rng s L (up2 (p.drop k)) lo lo) (hk : k < p.length) (hp : ∀ b ∈ p, 0 ≤ b) : Rng s L (up2 p) lo lo := by
  refine ⟨r.1, r.2.1, fun i x _ => ⟨fun hx => ?_, fun ⟨h1, h2⟩ => absurd h2 (by omega)⟩⟩
  have h1 := pre_drop (k := k) hx
  have h2 := h1 0 (by unfold up2; rw [List.length_map, List.length_drop]; omega)
  have h3 : gs (up2 (p.drop k)) 0 = gs p k + 2 := gs_at (by unfold up2; rw [List.getElem?_map, List.getElem?_drop, Nat.add_zero, gs_some hk]; rfl)
  have h4 : 0 ≤ gs p k := hp _ (List.mem_of_getElem? (gs_some hk))
  have h5 : x + k < s.length := by
    rcases Nat.lt_or_ge (x + k) s.length with g | g
    · exact g
    · rw [Nat.add_zero, gs_out g] at h2
      omega
  obtain ⟨i2, hi2⟩ := h.find h5
  obtain ⟨g1, g2⟩ := (r.2.2 i2 _ hi2).1 h1
  omega
theorem rng_more {l : List Int} (t : Turned s l) (h : IsSA s L) {k lo hi x : Nat} (r : Rng s L (up2 (p.drop (k + 1))) lo hi) (hk : k < p.length) (hx : gs p k + 2 = (x : Int)) (h0 : 0 < x) : Rng s L (up2 (p.drop k)) (lsI l x + oc l x lo) (lsI l x + oc l x hi) := by
  have e : up2 (p.drop k) = (x : Int) :: up2 (p.drop (k + 1)) := by
    unfold up2
    rw [List.drop_eq_getElem_cons hk, List.map_cons, ← gs_at (List.getElem?_eq_getElem hk), hx]
  rw [e]
  exact r.step t h (by omega)
end
end Go.Su
namespace Go.Proofs.YtckkjccjkdidjaaGreatDoor.X
open Go.RowKit Go.Oct Go.Su

section
variable {F G : Nat → Prop} {b T c vb vk pb ob : Nat} {A : Option Addr} {xss : List (List Int)} {l L : List Nat}
theorem symbol_any (y x : Int) (w : World) (h0 : 0 ≤ y) (h1 : y < 256) (hx : y + 2 = x) :
    Calls Tryz.prog 50 #[.int .u8 y] w fun e w' => e = .returned (.int .i64 x) ∧ w = w' := by
  subst hx
  go_enter Tryz.func50, Tryz.ntmps50
  go_wp2
  go_ret
  exact ⟨rfl, rfl⟩
theorem before_is (T c x a : Nat) (A : Option Addr) (l : List Nat) (w : World) (h : Core w F T A c l) (hx : x < 512) (ha : a ≤ l.length) :
    Calls Tryz.prog 62 #[.agg #[.pointer (some ⟨T, 0, none⟩), .slice A 513 c], .int .i64 x, .int .i64 a] w fun e w' => e = .returned (.int .i64 (lsI (asI l) x + oc (asI l) x a : Nat)) ∧ Ch (fun _ => False) w w' := before_any T c x a _ A l w h hx ha rfl
/-- What seek leaves. -/
def SeekPost (xss : List (List Int)) (L : List Nat) (p : List Int) (w : World) (e : Ending) (w' : World) : Prop := ∃ lo hi : Nat, e = .returned (.tuple #[.int .i64 lo, .int .i64 hi]) ∧ Rng (txt xss) L (up2 p) lo hi ∧ Ch (fun _ => False) w w'
set_option maxHeartbeats 1000000 in
theorem seek_any (p : List Int) (B : Option Addr) (m d : Nat) (w : World) (h : Ix0 w F b xss l L T c vb vk pb ob A) (hp : Sl w G .u8 B m p) (hb : ∀ x ∈ p, 0 ≤ x ∧ x < 256) (hm : m ≤ 1048576) (h0 : 0 < m) :
    Calls Tryz.prog 37 #[.pointer (some ⟨b, 0, none⟩), .slice B m d] w (SeekPost xss L p w) := by
  have HH := Bx.mk h
  have HP := Bx.mk hp
  have HL := Bx.mk hp.len
  have HB := Bx.mk hb
  have c0 := h.c0
  have hsz := h.size
  have hsm := h.small
  obtain ⟨n, hN⟩ : ∃ n, l.length = n := ⟨_, rfl⟩
  have HN := Bx.mk hN
  have HNS := Bx.mk (hsz.symm.trans hN)
  have hn : n ≤ 65536 := by omega
  have HR0 : Bx (Rng (txt xss) L (up2 (p.drop m)) 0 n) := ⟨by
    rw [List.drop_of_length_le (by rw [hp.len]; exact Nat.le_refl _), ← HNS.out]
    exact rng_start h.sa⟩
  have dm : decide ((m : Int) = 0) = false := by simp; omega
  have dm2 : ((m : Int) == 0) = false := by simp; omega
  clear h hp hb hsz hsm hN
  go_enter Tryz.func37, Tryz.ntmps37
  go_wp2_with (go_at_call 61; refine (W.tlen_any T 9 n l _ HH.out.core.tr HN.out).mono ?_; rintro e w' ⟨rfl, rfl⟩)
  go_loopw [4, 5, 6, 7] (fun f t i _ wr => ∃ k lo hi : Nat, k ≤ m ∧ i = .int .i64 ((k : Int) - 1) ∧ f = .int .i64 lo ∧ t = .int .i64 hi ∧ Bx (Rng (txt xss) L (up2 (p.drop k)) lo hi) ∧ (k = m → lo < hi) ∧ Ch (fun _ => False) w wr) (fun _ _ i _ _ => (intOf i + 1).toNat)
  case atStart => exact ⟨m, 0, n, Nat.le_refl _, rfl, rfl, rfl, HR0, fun _ => by have := HH.out.turned.closed.full; rw [← HNS.out]; exact this, Ch.refl _ _⟩
  case round =>
    obtain ⟨k, lo, hi, hk, rfl, rfl, rfl, hR, hfull, hC⟩ := hrel
    have HC := Bx.mk hC
    have hlh := hR.out.1
    have hhn := hR.out.2.1
    rw [HNS.out] at hhn
    clear hC
    rcases k with _ | k
    · have e0 : up2 (p.drop 0) = up2 p := by rw [List.drop_zero]
      have HE := Bx.mk e0
      clear e0
      go_wp2
      go_returns
      exact ⟨lo, hi, rfl, by rw [← HE.out]; exact hR.out, HC.out⟩
    · have ek : (((k + 1 : Nat) : Int) - 1) = (k : Int) := by omega
      rw [ek]
      by_cases hlt : lo < hi
      · have dlt : decide ((lo : Int) < (hi : Int)) = true := by simp; omega
        have dlt2 : decide (lo < hi) = true := by simp; omega
        have HR1 := Bx.mk (HH.out.keep HC.out)
        have d0 := HR1.out.c0
        have d1 := HR1.out.c1
        obtain ⟨b1, o1, y, rfl, _, hy, hcy⟩ := (HP.out.ch HC.out (fun _ _ _ h => h)).at_ (show k < m by omega)
        obtain ⟨y0, y1⟩ := HB.out y (List.mem_of_getElem? hy.out)
        obtain ⟨x, hx⟩ : ∃ x : Nat, y + 2 = (x : Int) := ⟨(y + 2).toNat, by omega⟩
        have HX := Bx.mk hx
        have hx5 : x < 512 ∧ 0 < x := by omega
        have HSTEP := Bx.mk (rng_more HR1.out.turned HR1.out.sa hR.out (by rw [HL.out]; omega) (by rw [gs_at hy.out]; exact hx) hx5.2)
        have i1 : (k : Int) < (m : Int) := by omega
        have i2 : (0 : Int) ≤ (k : Int) := by omega
        have h1 : lo ≤ l.length := by rw [HN.out]; omega
        have h2 : hi ≤ l.length := by rw [HN.out]; omega
        have H1 := Bx.mk h1
        have H2 := Bx.mk h2
        clear hy hx hR h1 h2
        go_wp2_with (go_at_call 50; refine (symbol_any y x _ y0 y1 HX.out).mono ?_; rintro e w' ⟨rfl, rfl⟩)
        obtain ⟨wo, rfl⟩ : ∃ wo : World, wo = wr := ⟨_, rfl⟩
        have hcc := Ch.refl (fun _ => False) wo
        go_region_held3 (fun w' => w'.cell? ⟨b, 0, none⟩ = some (.pointer (some ⟨T, 0, none⟩)) ∧ w'.cell? ⟨b, 1, none⟩ = some (.slice A 513 c)) (first | go_keep | exact s2 | exact ⟨d0, d1⟩) ((go_at_call 62; refine (before_is T c x _ A l _ (by first | exact HR1.out.core.keep hcc | exact HR1.out.core.keep hcc.drew | exact HR1.out.core.keep ((Ch.refl (fun _ => False) _).drewN 1)) hx5.1 (by first | exact H1.out | exact H2.out)).mono ?_; rintro e w2 ⟨rfl, hc2⟩; have hcc : Ch (fun _ => False) wo w2 := (by first | exact hcc.trans hc2 (fun _ _ h => h) | exact hcc.drew.trans hc2 (fun _ _ h => h)); have s2 : w2.cell? ⟨b, 0, none⟩ = some (.pointer (some ⟨T, 0, none⟩)) ∧ w2.cell? ⟨b, 1, none⟩ = some (.slice A 513 c) := ⟨hcc.cell (fun h => h) d0, hcc.cell (fun h => h) d1⟩))
        all_goals
          have HCC := Bx.mk (HC.out.trans hcc (fun _ _ h => h))
          clear hcc hc2 s2
          go_wp2
          go_roundw
          case rel => exact ⟨k, _, _, by omega, rfl, rfl, rfl, HSTEP, by omega, HCC.out⟩
          case measure => simp [intOf]
      · obtain rfl : lo = hi := by omega
        have dlt : decide ((lo : Int) < (lo : Int)) = false := by simp
        have hkm : k + 1 < m := by
          rcases Nat.lt_or_ge (k + 1) m with g | g
          · exact g
          · exact absurd (hfull (by omega)) (by omega)
        have HRF := Bx.mk (rng_none HH.out.sa hR.out (by rw [HL.out]; exact hkm) (fun b hb => (HB.out b hb).1))
        clear hR
        go_wp2
        go_returns
        exact ⟨lo, lo, rfl, HRF.out, HC.out⟩
theorem seek_none (B : Option Addr) (d : Nat) (w : World) :
    Calls Tryz.prog 37 #[.pointer (some ⟨b, 0, none⟩), .slice B 0 d] w fun e w' => e = .returned (.tuple #[.int .i64 0, .int .i64 0]) ∧ w = w' := by
  go_enter Tryz.func37, Tryz.ntmps37
  go_wp2
  go_returns
  exact ⟨rfl, rfl⟩
theorem seek_nil (B : Option Addr) (m d : Nat) (w : World) :
    Calls Tryz.prog 37 #[.pointer none, .slice B m d] w fun e w' => e = .returned (.tuple #[.int .i64 0, .int .i64 0]) ∧ w = w' := by
  go_enter Tryz.func37, Tryz.ntmps37
  go_wp2
  go_returns
  exact ⟨rfl, rfl⟩
theorem count_any {w : World} (h : Ix w F b xss) (p : List Int) (B : Option Addr) (m d : Nat) (hp : Sl w G .u8 B m p) (hb : ∀ x ∈ p, 0 ≤ x ∧ x < 256) (hm : m ≤ 1048576) :
    Calls Tryz.prog 20 #[.pointer (some ⟨b, 0, none⟩), .slice B m d] w fun e w' => e = .returned (.int .i64 ((locs xss p 0).length : Nat)) ∧ Ch (fun _ => False) w w' := by
  obtain ⟨l, L, T, c, vb, vk, pb, ob, A, h⟩ := h
  have HH := Bx.mk h
  have HP := Bx.mk hp
  rcases m with _ | m
  · have e0 : (locs xss p 0).length = 0 := by
      rw [List.length_eq_zero_iff.1 hp.len, locs_empty]
      rfl
    rw [e0]
    clear h hp
    go_enter Tryz.func20, Tryz.ntmps20
    go_wp2_with fail
    refine (seek_none B d _).mono ?_
    rintro e w' ⟨rfl, rfl⟩
    go_wp2
    go_ret
    exact ⟨rfl, Ch.refl _ _⟩
  · have hne : p ≠ [] := fun e => by
      have := hp.len
      rw [e] at this
      simp at this
    have HC0 := Bx.mk fun lo hi (r : Rng (txt xss) L (up2 p) lo hi) => locs_count h.byts.pos (fun b hb' => (hb b hb').1) hne h.sa r
    have hn : (txt xss).length ≤ 65536 := h.small
    have hs := seek_any p B (m + 1) d w h hp hb hm (by omega)
    clear h hp hb
    go_enter Tryz.func20, Tryz.ntmps20
    go_wp2_with fail
    refine hs.mono ?_
    rintro e w2 ⟨lo, hi, rfl, hr, hC⟩
    have HC1 := Bx.mk (HC0.out lo hi hr)
    have hlh := hr.1
    have hhn := hr.2.1
    have HC := Bx.mk hC
    have hi2 : hi ≤ 65536 := by omega
    clear hr hC hs hhn hn
    go_wp2
    go_ret
    exact ⟨ret_int (by rw [HC1.out]; omega), HC.out⟩
theorem nil_count (w : World) (B : Option Addr) (m d : Nat) : Calls Tryz.prog 20 #[.pointer none, .slice B m d] w fun e w' => e = .returned (.int .i64 0) ∧ Ch (fun _ => False) w w' := by
  go_enter Tryz.func20, Tryz.ntmps20
  go_wp2_with fail
  refine (seek_nil B m d _).mono ?_
  rintro e w' ⟨rfl, rfl⟩
  go_wp2
  go_ret
  exact ⟨rfl, Ch.refl _ _⟩
end
end Go.Proofs.YtckkjccjkdidjaaGreatDoor.X

namespace Go.Su
section
variable {xss : List (List Int)} {p : List Int} {L : List Nat} {lo hi : Nat}
def leN (x y : Nat) : Bool := decide (x ≤ y)
/-- The places from lo on, ahead of hi, are those of the pattern. -/
structure FoundAt (xss : List (List Int)) (L : List Nat) (p : List Int) (lo hi : Nat) : Prop where
  le : lo ≤ hi
  top : hi ≤ L.length
  eq : ((cutL L lo hi).mergeSort leN).map (spot xss) = locs xss p 0
  spots : ∀ x ∈ cutL L lo hi, ∃ d a, x = beg xss d + a ∧ d < xss.length ∧ a ≤ (xss.getD d []).length
theorem sorted_le (l : List Nat) : (l.mergeSort leN).Pairwise (fun x y => x ≤ y) :=
  (List.pairwise_mergeSort (le := leN) (fun a b c => by simp [leN]; omega) (fun a b => by simp [leN]; omega) l).imp fun {x y} h => by simpa [leN] using h
theorem found_of (hb : PosB xss) (hp : ∀ b ∈ p, 0 ≤ b) (h0 : p ≠ []) (h : IsSA (txt xss) L) (r : Rng (txt xss) L (up2 p) lo hi) : FoundAt xss L p lo hi := by
  refine ⟨r.1, by have := r.2.1; have := h.len; omega, locs_cut hb hp h0 h r (List.mergeSort_perm _ _) (sorted_le _), fun x hx => ?_⟩
  obtain ⟨i, h1, h2, h3⟩ := cutL_mem.1 hx
  obtain ⟨d, a, e, ho⟩ := (pre_occ hp h0).1 ((r.2.2 i x h3).2 ⟨h1, h2⟩)
  have := ho.fits
  exact ⟨d, a, e, ho.doc, by omega⟩
theorem found_none (xss : List (List Int)) (L : List Nat) : FoundAt xss L [] 0 0 := by
  have e : cutL L 0 0 = [] := rfl
  refine ⟨Nat.le_refl _, Nat.zero_le _, ?_, fun x hx => ?_⟩
  · rw [e, locs_empty]
    simp
  · rw [e] at hx
    cases hx
end
end Go.Su
namespace Go.Proofs.YtckkjccjkdidjaaGreatDoor.X
open Go.RowKit Go.Oct Go.Su Go.Sort

theorem sort_asI (S : List Nat) : (asI S).mergeSort (fun x y => decide (x ≤ y)) = asI (S.mergeSort leN) := by
  unfold asI
  exact (List.map_mergeSort (r := leN) (s := fun x y : Int => decide (x ≤ y)) (f := fun x : Nat => (x : Int)) (fun a _ b _ => by unfold leN; rw [decide_eq_decide]; omega)).symm
theorem putrow_ch (w : World) (g n : Nat) (d : Array Int) (os : Array Obj) : Ch (fun b => b = g) w (grow (putRow (Value.int .i64) (Sort.ahead w n) g 0 d) os) := by
  have h0 : Ch (fun b => b = g) w (putRow (Value.int .i64) (Sort.ahead w n) g 0 d) := by
    refine ⟨rfl, rfl, rfl, ?_, fun k hk hn => ?_⟩
    · simp [putRow, mapBlock, Sort.ahead]
    · unfold putRow mapBlock Sort.ahead
      show (w.heap.modify g _)[k]? = w.heap[k]?
      rw [Array.getElem?_modify, if_neg (fun e => hn e.symm)]
  exact ch_grow h0 os
theorem sort_any (S : List Nat) (g n c : Nat) (w : World) (h : Own w 3 1 g n c (vals S)) (hn : n ≤ 1048576) :
    Calls Tryz.prog 39 #[.slice (some ⟨g, 0, none⟩) n c] w fun e w' => e = .returned (.tuple #[]) ∧ Own w' 3 1 g n c (vals (S.mergeSort leN)) ∧ Ch (fun b => b = g) w w' := by
  have hS : S.length = n := by
    have := h.len
    unfold vals at this
    rw [List.length_map] at this
    omega
  have hH : Holds (Value.int .i64) w g 0 (asI S).toArray := by
    intro j hj
    rw [List.size_toArray, asI_len] at hj
    refine ⟨?_, by rw [Nat.zero_add]; exact h.frozenAt j⟩
    rw [Nat.zero_add, h.cellN (by omega), getElem!_pos _ j (by rw [List.size_toArray, asI_len]; exact hj)]
    unfold asI gn
    rw [List.getElem_toArray, List.getElem_map, List.getD_eq_getElem?_getD, List.getElem?_eq_getElem hj]
    rfl
  have hc := AnyM.slices_Sort_int Tryz.fxSort g 0 c (asI S) w hH h.lt (by rw [asI_len]; omega)
  rw [asI_len, hS] at hc
  refine hc.mono ?_
  rintro e w' ⟨rfl, m, os, rfl⟩
  refine ⟨rfl, ?_, putrow_ch w g m _ os⟩
  rw [Lib.sorted_world (Value.int .i64) w g 0 m (asI S).toArray _ os hH (by rw [List.length_mergeSort, List.size_toArray]), sort_asI]
  have hOd : Own (w.drewN m) 3 1 g n c (vals S) := h.keep ((Ch.refl (fun _ => False) w).drewN m)
  have hl : (asI (S.mergeSort leN)).length = n := by rw [asI_len, List.length_mergeSort, hS]
  have h1 := own_setCells ((asI (S.mergeSort leN)).map (Value.int .i64)) 0 _ _ hOd (by rw [List.length_map]; omega)
  rw [List.take_zero, List.nil_append, List.length_map, hl, List.drop_eq_nil_of_le (by unfold vals; rw [List.length_map]; omega), List.append_nil] at h1
  rw [vals_asI] at h1 ⊢
  exact h1.keep (ch_grow (Ch.refl _ _) os)
end Go.Proofs.YtckkjccjkdidjaaGreatDoor.X
