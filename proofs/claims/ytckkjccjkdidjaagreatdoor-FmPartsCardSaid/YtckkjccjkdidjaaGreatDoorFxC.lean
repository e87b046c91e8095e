/-
  The contract of an Index's Locate: where a pattern stands in the texts, in order.
  Conditions: the Index is what it says; the pattern reads as it says.
-/
/-
  The contracts of Locate: of an Index, and of none.
  Conditions: the Index is what it says; the pattern reads as it says.
-/
import Derived.Test.YtckkjccjkdidjaaGreatDoorFxB
import Derived.Test.YtckkjccjkdidjaaGreatDoorFmB
namespace Go.Proofs.YtckkjccjkdidjaaGreatDoor.X
open Go.RowKit Go.Oct Go.Su

def hitZ : Value := .agg #[.int .i64 0, .int .i64 0]
theorem mkH (w : World) (n : Nat) (hn : n ≤ 1048576) : (Instr.makeSlice 35 (.int .i64 (n : Int)) (.int .i64 (n : Int))).run Tryz.prog w = .ok (.slice (some ⟨w.heap.size, 0, none⟩) n n) (w.alloc (.cells (madeCells hitZ.cells (n * 2)) 38)) := by
  obtain ⟨i, hi, hz, hs, hby⟩ := infoK elemH.info
  have hb' : (i.bytes : Int) * (n : Int) ≤ 281474976710656 := by
    rw [hby]
    have h : ((16 * n : Nat) : Int) ≤ 281474976710656 := by omega
    rwa [Int.natCast_mul] at h
  have hr := run_make (P := Tryz.prog) w 35 38 i hitZ Tryz.underlying35 hi hz .i64 .i64 n n (by omega) (by omega) hb' (by omega)
  simp only [Int.toNat_natCast, hs] at hr
  exact hr
theorem ownH (w : World) (n : Nat) (hn : n ≤ 1048576) : Own (w.alloc (.cells (madeCells hitZ.cells (n * 2)) 38)) 38 2 w.heap.size n n (madeCells hitZ.cells (n * 2)).toList :=
  ⟨World.ownsRow_lit (base := 0) (e := 38) (size := 2) w (madeCells hitZ.cells (n * 2)) n (Nat.zero_le _) (by unfold maxLen; omega) (by simp [madeCells])⟩
/-- Hits under way: the first k are laid. -/
def HUp (hs : List (Nat × Nat)) (k : Nat) (us : List Value) : Prop := ∀ j h, j < k → hs[j]? = some h → us[j * 2]? = some (.int .i64 (h.1 : Nat)) ∧ us[j * 2 + 1]? = some (.int .i64 (h.2 : Nat))
theorem HUp.next {hs : List (Nat × Nat)} {k d a : Nat} {us : List Value} (h : HUp hs k us) (hl : k * 2 + 1 < us.length) (hk : hs[k]? = some (d, a)) : HUp hs (k + 1) ((us.set (k * 2) (.int .i64 (d : Nat))).set (k * 2 + 1) (.int .i64 (a : Nat))) := by
  intro j x hj hx
  by_cases e : j = k
  · subst e
    rw [hk] at hx
    obtain rfl := Option.some.inj hx
    constructor
    · rw [List.getElem?_set_ne (by omega), List.getElem?_set_self (by omega)]
    · rw [List.getElem?_set_self (by rw [List.length_set]; omega)]
  · obtain ⟨h1, h2⟩ := h j x (by omega) hx
    constructor
    · rw [List.getElem?_set_ne (by omega), List.getElem?_set_ne (by omega)]
      exact h1
    · rw [List.getElem?_set_ne (by omega), List.getElem?_set_ne (by omega)]
      exact h2
theorem hup_hs {w : World} {g n c : Nat} {hs : List (Nat × Nat)} {us : List Value} (ho : Own w 38 2 g n c us) (h : HUp hs n us) (hl : hs.length = n) : Hs w (fun b => b = g) (some ⟨g, 0, none⟩) n hs := by
  refine ⟨hl, fun _ => ⟨g, 0, rfl, rfl, fun j x hx => ?_⟩⟩
  obtain ⟨hj, _⟩ := List.getElem?_eq_some_iff.1 hx
  obtain ⟨k1, k2⟩ := h j x (by omega) hx
  rw [Nat.zero_add]
  exact ⟨ho.cellAt k1, ho.cellAt k2⟩
/-- What Locate leaves. -/
def LocOf (xss : List (List Int)) (p : List Int) (w : World) (e : Ending) (w' : World) : Prop := ∃ (A : Option Addr) (c n : Nat), e = .returned (.slice A n c) ∧ Hs w' (fun k => w.heap.size ≤ k) A n (locs xss p 0) ∧ Ch (fun _ => False) w w'
section
variable {F G : Nat → Prop} {b T c vb vk pb ob : Nat} {A : Option Addr} {xss : List (List Int)} {l L : List Nat}
set_option maxRecDepth 100000 in
set_option maxHeartbeats 4000000 in
theorem locate_with (p : List Int) (B : Option Addr) (m d : Nat) (w : World) (h : Ix0 w F b xss l L T c vb vk pb ob A)
    (hs : Calls Tryz.prog 37 #[.pointer (some ⟨b, 0, none⟩), .slice B m d] w fun e w' => ∃ lo hi : Nat, e = .returned (.tuple #[.int .i64 lo, .int .i64 hi]) ∧ FoundAt xss L p lo hi ∧ Ch (fun _ => False) w w') :
    Calls Tryz.prog 18 #[.pointer (some ⟨b, 0, none⟩), .slice B m d] w (LocOf xss p w) := by
  have HH := Bx.mk h
  have hL : L.length ≤ 65536 := by have := h.sa.len; have := h.small; omega
  clear h
  go_enter Tryz.func18, Tryz.ntmps18
  go_wp2_with fail
  refine hs.mono ?_
  rintro e w1 ⟨lo, hi, rfl, hf, hC1⟩
  have hle := hf.le
  have htop := hf.top
  have HEQ := Bx.mk hf.eq
  have HSP := Bx.mk hf.spots
  have HSL := Bx.mk (cutL_len (lo := lo) hf.top)
  have HSG := Bx.mk fun i (hi' : lo + i < hi) => (cutL_at hi' : (cutL L lo hi)[i]? = L[lo + i]?)
  have HH1 := Bx.mk (HH.out.keep hC1)
  have HC1 := Bx.mk hC1
  clear hf hs hC1 HH
  generalize cutL L lo hi = S at *
  obtain ⟨n, hn⟩ : ∃ n, hi - lo = n := ⟨_, rfl⟩
  rw [hn] at HSL
  obtain rfl : hi = lo + n := by omega
  have en : (lo : Int) + (n : Int) - (lo : Int) = (n : Int) := by omega
  have hn6 : n ≤ 65536 := by omega
  clear hn hle
  have hmk := mkI w1 n (by omega)
  have hO0 := own_made1 w1 3 (.int .i64 0) n (by omega)
  rw [show List.replicate n (Value.int .i64 0) = vals (K.upL S 0) by rw [K.upL_zero, HSL.out]; unfold vals; rw [List.map_replicate]; rfl] at hO0
  have HO0 := Bx.mk hO0
  clear hO0
  go_wp2_with fail
  have HC2 : Bx (Ch (fun _ => False) w1 (w1.alloc (.cells (madeCells #[.int .i64 0] n) 3))) := ⟨(Ch.refl (fun _ => False) w1).alloc _⟩
  obtain ⟨g, hg⟩ : ∃ g, w1.heap.size = g := ⟨_, rfl⟩
  have HG := Bx.mk hg
  have HO1 := HO0
  rw [hg] at HO1 ⊢
  clear HO0 hg hmk
  generalize w1.alloc (.cells (madeCells #[.int .i64 0] n) 3) = w2 at *
  have HH2 := Bx.mk (HH1.out.keep HC2.out)
  go_loopw [8, 25] (fun _ i wr => ∃ k : Nat, k ≤ n ∧ i = .int .i64 k ∧ Own wr 3 1 g n n (vals (K.upL S k)) ∧ Ch (fun _ => False) w1 wr) (fun _ i _ => n - (intOf i).toNat)
  case atStart => exact ⟨0, Nat.zero_le _, rfl, HO1.out, HC2.out⟩
  case round =>
    obtain ⟨k, hk, rfl, hO, hC⟩ := hrel
    by_cases hlt : k < n
    · have dk : decide ((k : Int) < (n : Int)) = true := by simp; omega
      have hx0 := HSG.out k (by omega)
      obtain ⟨x, hx⟩ : ∃ x, S[k]? = some x := ⟨_, List.getElem?_eq_getElem (by rw [HSL.out]; exact hlt)⟩
      rw [hx] at hx0
      have HX := Bx.mk hx0.symm
      have HHR := Bx.mk (HH1.out.keep hC)
      have HC := Bx.mk hC
      have HO := Bx.mk hO
      have HN := Bx.mk (K.upL_next hx)
      have i1 : (k : Int) < (n : Int) := by omega
      have i0 : (0 : Int) ≤ (k : Int) := by omega
      have ek : ((lo + k : Nat) : Int) = (lo : Int) + (k : Int) := by omega
      have hk6 : lo + k ≤ 65536 := by omega
      clear hx hx0 hO hC
      go_wp2_with fail
      rw [← ek]
      refine (place_any (lo + k) x _ HHR.out HX.out).mono ?_
      rintro e w3 ⟨rfl, hC3⟩
      have hO3 := HO.out.keep hC3
      have hcell := hO3.cellN hlt
      have hfz := hO3.frozenAt k
      have hst := hO3.storedN k x
      rw [HN.out] at hst
      have HST := Bx.mk hst
      have HC3 := Bx.mk (HC.out.trans hC3 (fun _ _ h => h))
      generalize gn (K.upL S k) k = old at *
      clear hst hO3 hC3
      go_wp2
      go_roundw
      case rel => exact ⟨k + 1, by omega, by go_num, HST.out.1, HC3.out.trans HST.out.2 (fun i hi (e : i = g) => by have := HG.out; omega)⟩
      case measure => simp [intOf]; omega
    · obtain rfl : k = n := by omega
      have dk : decide ((k : Int) < (k : Int)) = false := by simp
      have eall : K.upL S k = S := by
        have := K.upL_all S
        rwa [HSL.out] at this
      rw [eall] at hO
      have HC := Bx.mk hC
      have hsort := sort_any S g k k wr hO (by omega)
      clear hO hC eall
      go_wp2_with fail
      refine hsort.mono ?_
      rintro e w4 ⟨rfl, hO4, hC4⟩
      have HC4 := Bx.mk (HC.out.trans hC4 (fun i hi (e : i = g) => by have := HG.out; omega))
      have HO4 := Bx.mk hO4
      have HPL : Bx ((S.mergeSort leN).length = k) := ⟨by rw [List.length_mergeSort]; exact HSL.out⟩
      have HPM : Bx (∀ x ∈ S.mergeSort leN, ∃ d a, x = beg xss d + a ∧ d < xss.length ∧ a ≤ (xss.getD d []).length) := ⟨fun x hx => HSP.out x ((List.mergeSort_perm _ _).mem_iff.1 hx)⟩
      clear hO4 hC4 hsort HC HSP HSG HSL HC2 HO1 HH2
      generalize S.mergeSort leN = P at *
      have hmh := mkH w4 k (by omega)
      have hown := ownH w4 k (by omega)
      generalize madeCells hitZ.cells (k * 2) = arr at *
      have HW := Bx.mk hown
      clear hown
      go_wp2_with fail
      have HC5 : Bx (Ch (fun _ => False) w4 (w4.alloc (.cells (arr) 38))) := ⟨(Ch.refl (fun _ => False) w4).alloc _⟩
      obtain ⟨q, hq⟩ : ∃ q, w4.heap.size = q := ⟨_, rfl⟩
      have HQ := Bx.mk hq
      have HW1 := HW
      rw [hq] at HW1 ⊢
      have hgq : g < q := by
        have := HO4.out.lt
        omega
      clear HW hq hmh
      generalize w4.alloc (.cells (arr) 38) = w5 at *
      have HO5 := Bx.mk (HO4.out.keep HC5.out)
      have HC6 := Bx.mk (HC4.out.trans HC5.out (fun _ _ h => h))
      go_loopw [10, 11, 12, 44] (fun _ _ _ i wr => ∃ (j : Nat) (us : List Value), j ≤ k ∧ i = .int .i64 j ∧ Own wr 38 2 q k k us ∧ Bx (HUp (P.map (spot xss)) j us) ∧ Ch (fun b => b = q) w5 wr) (fun _ _ _ i _ => k - (intOf i).toNat)
      case atStart => exact ⟨0, _, Nat.zero_le _, rfl, HW1.out, ⟨fun j h hj => absurd hj (by omega)⟩, Ch.refl _ _⟩
      case round =>
        obtain ⟨j, us, hj, rfl, hO, hU, hC⟩ := hrel
        by_cases hlt : j < k
        · have dj : decide ((j : Int) < (k : Int)) = true := by simp; omega
          obtain ⟨x, hx⟩ : ∃ x, P[j]? = some x := ⟨_, List.getElem?_eq_getElem (by rw [HPL.out]; exact hlt)⟩
          obtain ⟨d1, a1, hxe, hd1, ha1⟩ := HPM.out x (List.mem_of_getElem? hx)
          have hsp := spot_is HH1.out.byts.pos hd1 ha1
          have hcx : wr.cell? ⟨g, j, none⟩ = some (.int .i64 (x : Nat)) := by
            have := (HO5.out.ch hC (fun (e : g = q) => by omega)).cellN hlt
            rwa [gn_at hx] at this
          have HCR := Bx.mk (HC6.out.trans hC (fun i hi (e : i = q) => by have := HQ.out; have := HC4.out.size; omega))
          have HHR := Bx.mk (HH1.out.keep HCR.out)
          have c2 := HHR.out.c2
          have hbs := beg_small xss hd1
          have hsm := HH1.out.small
          obtain ⟨s, hs⟩ : ∃ s, beg xss d1 = s := ⟨_, rfl⟩
          have HRK : Bx (((Go.Bi.rk (brd (txt xss)) true (x : Nat) : Nat) : Int) = (d1 : Nat)) := ⟨by rw [hxe, brd_count HH1.out.byts.pos hd1 ha1]⟩
          have HS := Bx.mk hs
          rw [hs] at hxe hbs
          have ex : (x : Int) - (s : Int) = (a1 : Int) := by omega
          have hx6 : x ≤ 131072 ∧ s ≤ 65536 ∧ d1 ≤ 65536 := by omega
          have HHT : Bx ((P.map (spot xss))[j]? = some (d1, a1)) := ⟨by rw [List.getElem?_map, hx, hxe, ← HS.out]; exact congrArg some hsp⟩
          have hul := hO.len
          have HUL := Bx.mk hul
          have hg0 : us[j * 2]? = some us[j * 2] := List.getElem?_eq_getElem (by omega)
          have hg1 : us[j * 2 + 1]? = some us[j * 2 + 1] := List.getElem?_eq_getElem (by omega)
          obtain ⟨u0, hu0⟩ : ∃ u, us[j * 2]? = some u := ⟨_, hg0⟩
          obtain ⟨u1, hu1⟩ : ∃ u, us[j * 2 + 1]? = some u := ⟨_, hg1⟩
          have HU0 := Bx.mk hu0
          have HU1 := Bx.mk hu1
          have HO := Bx.mk hO
          have HCQ := Bx.mk hC
          have i1 : (j : Int) < (k : Int) := by omega
          have i0 : (0 : Int) ≤ (j : Int) := by omega
          clear hx hsp hs hO hC hul hg0 hg1 hu0 hu1 ha1 hxe hbs hsm
          go_wp2_with fail
          refine (vrank_val vb (brd (txt xss)) true x d1 _ HHR.out.brd HRK.out).mono ?_
          rintro e w' ⟨rfl, rfl⟩
          go_wp2_with fail
          refine (start_any d1 s _ HHR.out hd1 HS.out).mono ?_
          rintro e w6 ⟨rfl, hC6⟩
          have hO6 := HO.out.keep hC6
          have k0 := hO6.cellAt HU0.out
          have k1 := hO6.cellAt HU1.out
          have f0 := hO6.frozenAt (j * 2)
          have f1 := hO6.frozenAt (j * 2 + 1)
          have HO6 := Bx.mk hO6
          have HC6' := Bx.mk hC6
          clear hO6 hC6
          go_wp2_with fail
          generalize hws : World.setCell (World.setCell w6 _ _) _ _ = ws at *
          have hCs : Ch (fun b => b = q) w6 ws := by rw [← hws]; exact ((Ch.refl (fun b => b = q) w6).setCell (p := ⟨q, j * 2, none⟩) (.inl rfl) _).setCell (p := ⟨q, j * 2 + 1, none⟩) (.inl rfl) _
          have hOs : Own ws 38 2 q k k ((us.set (j * 2) (.int .i64 (d1 : Nat))).set (j * 2 + 1) (.int .i64 (a1 : Nat))) := by
            rw [← hws]
            exact ((HO6.out.stored (j * 2) _).1.stored (j * 2 + 1) _).1
          have HU2 := Bx.mk (hU.out.next (by have := HUL.out; omega) HHT.out)
          have HOs := Bx.mk hOs
          have HCs : Bx (Ch (fun b => b = q) w5 ws) := ⟨(HCQ.out.trans HC6'.out (fun _ _ h => h.elim)).trans hCs (fun _ _ h => h)⟩
          clear hws hCs hOs k0 k1 f0 f1
          go_wp2
          go_roundw
          case rel => exact ⟨j + 1, _, by omega, by go_num, HOs.out, HU2, HCs.out⟩
          case measure => simp [intOf]; omega
        · obtain rfl : j = k := by omega
          have dj : decide ((j : Int) < (j : Int)) = false := by simp
          have hH := hup_hs hO hU.out (by rw [List.length_map]; exact HPL.out)
          rw [HEQ.out] at hH
          have HRES := Bx.mk (hH.mono (G := fun b => w.heap.size ≤ b) (fun b (e : b = q) => by have h1 := HQ.out; have h2 := HC4.out.size; have h3 := HC1.out.size; omega))
          have HCR := Bx.mk (HC1.out.trans (HC6.out.trans hC (fun i hi (e : i = q) => by have := HQ.out; have := HC4.out.size; omega)) (fun _ _ h => h))
          clear hO hU hC hH
          go_wp2
          go_ret
          exact ⟨_, _, _, rfl, HRES.out, HCR.out⟩
end
end Go.Proofs.YtckkjccjkdidjaaGreatDoor.X

namespace Go.Proofs.YtckkjccjkdidjaaGreatDoor.X
open Go.RowKit Go.Oct Go.Su

section
variable {F G : Nat → Prop} {b : Nat} {xss : List (List Int)}
theorem locate_any {w : World} (h : Ix w F b xss) (p : List Int) (B : Option Addr) (m d : Nat) (hp : Sl w G .u8 B m p) (hb : ∀ x ∈ p, 0 ≤ x ∧ x < 256) (hm : m ≤ 1048576) :
    Calls Tryz.prog 18 #[.pointer (some ⟨b, 0, none⟩), .slice B m d] w (LocOf xss p w) := by
  obtain ⟨l, L, T, c, vb, vk, pb, ob, A, h⟩ := h
  refine locate_with p B m d w h ?_
  rcases m with _ | m
  · obtain rfl : p = [] := List.length_eq_zero_iff.1 hp.len
    refine (seek_none B d w).mono ?_
    rintro e w' ⟨rfl, rfl⟩
    exact ⟨0, 0, rfl, found_none xss L, Ch.refl _ _⟩
  · have hne : p ≠ [] := fun e => by
      have := hp.len
      rw [e] at this
      simp at this
    refine (seek_any p B (m + 1) d w h hp hb hm (by omega)).mono ?_
    rintro e w' ⟨lo, hi, rfl, r, hC⟩
    exact ⟨lo, hi, rfl, found_of h.byts.pos (fun b hb' => (hb b hb').1) hne h.sa r, hC⟩
set_option maxRecDepth 100000 in
set_option maxHeartbeats 1000000 in
theorem nil_locate (w : World) (B : Option Addr) (m d : Nat) : Calls Tryz.prog 18 #[.pointer none, .slice B m d] w fun e w' => (∃ A c, e = .returned (.slice A 0 c)) ∧ Ch (fun _ => False) w w' := by
  have hmk := mkI w 0 (by omega)
  have hown := own_made1 w 3 (.int .i64 0) 0 (by omega)
  rw [show (((0 : Nat) : Int)) = 0 from rfl] at hmk
  have HO := Bx.mk hown
  clear hown
  go_enter Tryz.func18, Tryz.ntmps18
  go_wp2_with fail
  refine (seek_nil B m d _).mono ?_
  rintro e w' ⟨rfl, rfl⟩
  go_wp2_with fail
  obtain ⟨g, hg⟩ : ∃ g, w.heap.size = g := ⟨_, rfl⟩
  have HG := Bx.mk hg
  have HC : Bx (Ch (fun _ => False) w (w.alloc (.cells (madeCells #[.int .i64 0] 0) 3))) := ⟨(Ch.refl (fun _ => False) w).alloc _⟩
  have HO1 := HO
  rw [hg] at HO1 ⊢
  clear HO hg hmk
  generalize w.alloc (.cells (madeCells #[.int .i64 0] 0) 3) = w2 at *
  go_loopw [8, 25] (fun _ i wr => i = .int .i64 0 ∧ wr = w2) (fun _ _ _ => 0)
  case atStart => exact ⟨rfl, rfl⟩
  case round =>
    obtain ⟨rfl, rfl⟩ := hrel
    have hs := sort_any [] g 0 0 wr HO1.out (by omega)
    go_wp2_with fail
    refine hs.mono ?_
    rintro e w4 ⟨rfl, hO4, hC4⟩
    have HC4 := Bx.mk (HC.out.trans hC4 (fun i hi (e : i = g) => by have := HG.out; omega))
    have hmh := mkH w4 0 (by omega)
    rw [show (((0 : Nat) : Int)) = 0 from rfl] at hmh
    generalize madeCells hitZ.cells (0 * 2) = arr at *
    clear hO4 hC4 hs
    go_wp2_with fail
    have HC5 := Bx.mk (HC4.out.alloc (.cells arr 38))
    clear hmh
    generalize w4.heap.size = q at *
    generalize w4.alloc (.cells arr 38) = w5 at *
    go_loopw [10, 11, 12, 44] (fun _ _ _ i wr => i = .int .i64 0 ∧ wr = w5) (fun _ _ _ _ _ => 0)
    case atStart => exact ⟨rfl, rfl⟩
    case round =>
      obtain ⟨rfl, rfl⟩ := hrel
      go_wp2
      go_ret
      exact ⟨⟨_, _, rfl⟩, HC5.out⟩
end
end Go.Proofs.YtckkjccjkdidjaaGreatDoor.X
