/-
  The contract of suffix.sorted: the endings of a row that may be, in their order.
-/
import Derived.Test.YtgboobjmafdieaaSvSym2
import Derived.Test.YtgboobjmafdieaaSvByClass
import Derived.Test.YtgboobjmafdieaaSvRest
namespace Go.Proofs.Ytgboobjmafdieaa
open Go.RowKit Go.Oct Go.Su

/-- The number in a box. -/
def kOf (v : Value) (w : World) : Nat := match v with
  | .pointer (some p) => match w.cell? p with
    | some (.int _ z) => z.toNat
    | _ => 0
  | _ => 0
theorem kOf_eq {w : World} {K k : Nat} (h : w.cell? ⟨K, 0, none⟩ = some (.int .i64 (k : Nat))) : kOf (.pointer (some ⟨K, 0, none⟩)) w = k := by
  unfold kOf
  simp only [h]
  simp
theorem Own.slN {w : World} {e : TypeId} {g n c : Nat} {xs : List Nat} (h : Own w e 1 g n c (vals xs)) : Sl w (fun b => b = g) .i64 (some ⟨g, 0, none⟩) n (asI xs) := by
  rw [← vals_asI] at h
  exact h.sl
theorem first_same {s : List Int} (x y : Nat) : decide (gs s x = gs s y) = true ↔ EqK (gs s) 1 x y := by
  rw [decide_eq_true_eq]
  constructor
  · intro h j hj
    obtain rfl : j = 0 := by omega
    exact h
  · intro h
    exact h 0 (by omega)
theorem next_same {s : List Int} {c : List Nat} {k : Nat} (r : Rk s (zs c) k) (hs : Pos s) (h1 : 1 ≤ k) (x y : Nat) : (decide (gs (asI c) x = gs (asI c) y) && decide (gs (asI c) (x + k) = gs (asI c) (y + k))) = true ↔ EqK (gs s) (k + k) x y := by
  have e : asI c = zs c := rfl
  rw [e, Bool.and_eq_true, decide_eq_true_eq, decide_eq_true_eq, r.eq hs h1, r.eq hs h1]
  constructor
  · exact fun h => h.1.add h.2
  · exact fun h => ⟨h.mono (Nat.le_add_right k k), h.tail⟩
theorem clsUp_cls {s : List Int} {L cl : List Nat} {k n : Nat} {a : Bool} (h : ClsUp (EqK (gs s) k) n L L.length cl a) (hn : s.length = n) : CK s L k cl := by
  subst hn
  exact h.all

/-- Where sorted stands: ordered and classed by k symbols. -/
structure St (s : List Int) (n : Nat) (w wr : World) (k K g gc : Nat) (L cl : List Nat) (a : Bool) : Prop where
  k1 : 1 ≤ k
  kle : k ≤ 131072
  kc : wr.cell? ⟨K, 0, none⟩ = some (.int .i64 (k : Nat))
  oL : Own wr 3 1 g n n (vals L)
  oC : Own wr 3 1 gc n n (vals cl)
  ord : Ord s L k
  cls : ClsUp (EqK (gs s) k) n L L.length cl a
  ch : Ch (fun _ => False) w wr
  lies : w.heap.size ≤ g ∧ w.heap.size ≤ gc ∧ w.heap.size ≤ K
/-- What sorted leaves. -/
def SortedAll (s : List Int) (n : Nat) (w : World) (e : Ending) (w' : World) : Prop := ∃ (g : Nat) (L : List Nat), e = .returned (.slice (some ⟨g, 0, none⟩) n n) ∧ IsSA s L ∧ Own w' 3 1 g n n (vals L) ∧ w.heap.size ≤ g ∧ Ch (fun _ => False) w w'
theorem box_new (w : World) (v : Value) (e : TypeId) : (w.alloc (.cells #[v] e)).cell? ⟨w.heap.size, 0, none⟩ = some v := by
  rw [World.cell?_alloc_at _ _ _ _ rfl]
  rfl
theorem box_frozen (w : World) (us : Array Value) (t : TypeId) (j : Nat) : (w.alloc (.cells us t)).frozen? ⟨w.heap.size, j, none⟩ = false := by
  have h : (w.alloc (.cells us t)).heap[w.heap.size]? = some (.cells us t) := heap_alloc_new w _
  unfold World.frozen?
  rw [h]
  simp
section
variable {F : Nat → Prop}
set_option maxHeartbeats 4000000 in
theorem sorted_any (s : List Int) (A : Option Addr) (n c : Nat) (w : World) (hs : Sl w F .i64 A n s) (hn : n ≤ 65536) (hp : Pos s) :
    Calls Try.prog 28 #[.slice A n c] w (SortedAll s n w) := by
  have hl := hs.len
  have HL := Bx.mk hl
  have HP := Bx.mk hp
  have HS := Bx.mk (hs.mono (G := fun b => b < w.heap.size) (fun b h _ => h))
  clear hs hl hp
  go_enter Try.func28, Try.ntmps28
  go_wp2_with fail
  obtain ⟨B, hB⟩ : ∃ B, w.heap.size = B := ⟨_, rfl⟩
  have hbx0 := box_new w (.slice A n c) 22
  have hC0 := (Ch.refl (fun _ => False) w).alloc (.cells #[.slice A n c] 22)
  have hsz0 : (w.alloc (.cells #[.slice A n c] 22)).heap.size = B + 1 := by rw [World.size_alloc, hB]
  have hS0 := HS.out.ch hC0 (fun _ _ _ h => h)
  rw [hB] at hbx0 ⊢
  generalize w.alloc (.cells #[.slice A n c] 22) = w0 at *
  refine (bysym_any s A n c w0 hS0 hn).mono ?_
  rintro e w1 ⟨g1, L, rfl, hOrd, hO1, hg1, hC1⟩
  have hC1w := hC0.trans hC1 (fun _ _ h => h)
  have hbx1 := hC1.cell (p := ⟨B, 0, none⟩) (fun h => h) hbx0
  have hS1 := hS0.ch hC1 (fun _ _ _ h => h)
  have HOrd := Bx.mk hOrd
  have HO1 := Bx.mk hO1
  have HC1 := Bx.mk hC1w
  have HS1 := Bx.mk hS1
  have HBX1 := Bx.mk hbx1
  have HG1 : Bx (w.heap.size ≤ g1) := ⟨by omega⟩
  clear hOrd hO1 hg1 hC1 hC1w hbx1 hS1 hS0 hC0 hbx0 hsz0 hB HS
  have hcla := classify_any (EqK (gs s) 1) (fun x y => decide (gs s x = gs s y)) (fun x y => first_same x y) 36 #[.pointer (some ⟨B, 0, none⟩)] L (some ⟨g1, 0, none⟩) n n w1 HO1.out.slN (by omega) HOrd.out.nodup (fun x hx => by rw [← HL.out]; exact (HOrd.out.mem x).1 hx) (enters_of Try.func36 (by kernel_rfl) rfl)
    (fun W hW x y hx hy => same1_any s A n c x y B W (HS1.out.ch hW (fun _ _ _ h => h)) (hW.cell (p := ⟨B, 0, none⟩) (fun h => h) HBX1.out) hx hy)
  go_wp2_with fail
  refine hcla.mono ?_
  rintro e w2 ⟨gc, cl, a, rfl, hcl, hOc, hgc, hC2⟩
  have hK2 := (Ch.refl (fun _ => False) w2).alloc (.cells #[.int .i64 1] 3)
  have hC2w := (HC1.out.trans hC2 (fun _ _ h => h)).trans hK2 (fun _ _ h => h)
  have hSt : St s n w (w2.alloc (.cells #[.int .i64 1] 3)) 1 w2.heap.size g1 gc L cl a :=
    ⟨Nat.le_refl _, by omega, box_new w2 (.int .i64 1) 3, (HO1.out.keep hC2).keep hK2, hOc.keep hK2, HOrd.out, hcl, hC2w, HG1.out, by have := HC1.out.size; omega, by have := HC1.out.size; have := hC2.size; omega⟩
  have HSt := Bx.mk hSt
  clear hcl hOc hgc hC2 hcla HO1 HC1 hK2 hC2w hSt HOrd HG1 HS1 HBX1
  go_wp2_with fail
  generalize w2.heap.size = K0 at *
  generalize w2.alloc (.cells #[.int .i64 1] 3) = w3 at *
  go_loopw [3, 4, 5, 6, 7] (fun v3 v4 v5 v6 _ wr => ∃ (k K g gc : Nat) (L cl : List Nat) (a : Bool), v3 = .slice (some ⟨g, 0, none⟩) n n ∧ v4 = .slice (some ⟨gc, 0, none⟩) n n ∧ v5 = .bool a ∧ v6 = .pointer (some ⟨K, 0, none⟩) ∧ St s n w wr k K g gc L cl a) (fun _ _ _ v6 _ wr => n - kOf v6 wr)
  case atStart => exact ⟨1, K0, g1, gc, L, cl, a, rfl, rfl, rfl, rfl, HSt.out⟩
  case round =>
    obtain ⟨k, K, g, gc, L, cl, a, rfl, rfl, rfl, rfl, hSt⟩ := hrel
    cases a with
    | true =>
      have hSA : IsSA s L := hSt.ord.strict (hSt.cls.yesAll) (clsUp_cls hSt.cls HL.out)
      have HSA := Bx.mk hSA
      have HST := Bx.mk hSt
      clear hSA hSt
      go_wp2
      go_ret
      exact ⟨g, L, rfl, HSA.out, HST.out.oL, HST.out.lies.1, HST.out.ch⟩
    | false =>
      have hkn : k < n := by
        rw [← HL.out]
        exact not_apart HP.out hSt.ord (hSt.cls.no rfl)
      have hkc := hSt.kc
      have hk1 := hSt.k1
      have hCK := clsUp_cls hSt.cls HL.out
      have hbnd : ∀ x, x < n → gn cl x < n := fun x hx => by
        obtain ⟨j, hj⟩ := hSt.ord.find (x := x) (by rw [HL.out]; exact hx)
        have h1 := (hCK.le hj).1
        obtain ⟨h2, _⟩ := List.getElem?_eq_some_iff.1 hj
        have h3 := hSt.ord.len
        have h4 := HL.out
        omega
      have hrl := rst_len hSt.ord HP.out (by rw [HL.out]; omega)
      have hrm := rst_mem (s := s) (k := k) hSt.ord.mem (by rw [HL.out]; omega)
      have hcnt := cls_cnt HP.out hSt.ord hCK (by rw [HL.out]; omega)
      have htw := fun M => Put.twice (M := M) HP.out hSt.ord hCK (by rw [HL.out]; omega)
      have hrk := hCK.rk hSt.ord
      rw [HL.out] at hrl hrm hcnt htw
      have hlt : ∀ x ∈ L, x < n := fun x hx => by rw [← HL.out]; exact (hSt.ord.mem x).1 hx
      have HRM : Bx (∀ x ∈ rst n k L, x < n) := ⟨fun x hx => (hrm x).1 hx⟩
      have HCNT := Bx.mk hcnt
      have HTW := Bx.mk htw
      have HRK := Bx.mk hrk
      have HBND := Bx.mk hbnd
      have hrst := byrest_any L (some ⟨g, 0, none⟩) n n k wr hSt.oL.slN hn (by omega) hrl hlt
      have HST := Bx.mk hSt
      obtain ⟨wo, rfl⟩ : ∃ wo : World, wo = wr := ⟨_, rfl⟩
      clear hSt hCK hbnd hrl hrm hcnt htw hrk hlt
      go_wp2_with fail
      refine hrst.mono ?_
      rintro e w4 ⟨A4, c4, rfl, hs4, hc4, hcm4, hC4⟩
      have hcls := byclass_any (rst n k L) cl A4 (some ⟨gc, 0, none⟩) n c4 n w4 hs4 (HST.out.oC.keep hC4).slN hn HRM.out HBND.out HCNT.out
      have HC4 := Bx.mk hC4
      clear hs4 hrst hC4
      go_wp2_with fail
      refine hcls.mono ?_
      rintro e w5 ⟨g5, M, rfl, hPut, hO5, hg5, hC5⟩
      have HOrd5 := Bx.mk (HTW.out M hPut)
      have HC5 := Bx.mk (HC4.out.trans hC5 (fun _ _ h => h))
      have HO5 := Bx.mk hO5
      have HG5 : Bx (w.heap.size ≤ g5) := ⟨by have := HST.out.ch.size; have := HC4.out.size; omega⟩
      clear hPut hO5 hg5 hC5 hcls HC4 HTW
      go_wp2_with fail
      obtain ⟨V, hV⟩ : ∃ V, w5.heap.size = V := ⟨_, rfl⟩
      have hvb := box_new w5 (.slice (some ⟨gc, 0, none⟩) n n) 22
      have hC6 := (Ch.refl (fun _ => False) w5).alloc (.cells #[.slice (some ⟨gc, 0, none⟩) n n] 22)
      rw [hV] at hvb ⊢
      generalize w5.alloc (.cells #[.slice (some ⟨gc, 0, none⟩) n n] 22) = w6 at *
      have hCo6 := HC5.out.trans hC6 (fun _ _ h => h)
      have hkc6 := hCo6.cell (p := ⟨K, 0, none⟩) (fun h => h) hkc
      have hcl6 := (HST.out.oC.keep hCo6).slN
      have hcla := classify_any (EqK (gs s) (k + k)) (fun x y => decide (gs (asI cl) x = gs (asI cl) y) && decide (gs (asI cl) (x + k) = gs (asI cl) (y + k))) (fun x y => next_same HRK.out HP.out hk1 x y) 39 #[.pointer (some ⟨V, 0, none⟩), .pointer (some ⟨K, 0, none⟩)] M (some ⟨g5, 0, none⟩) n n w6 (HO5.out.keep hC6).slN (by omega) HOrd5.out.nodup (fun x hx => by rw [← HL.out]; exact (HOrd5.out.mem x).1 hx) (enters_of Try.func39 (by kernel_rfl) rfl)
        (fun W hW x y hx hy => same2_any (asI cl) _ n n x y k V K W (hcl6.ch hW (fun _ _ _ h => h)) (by omega) (by omega) (hW.cell (p := ⟨V, 0, none⟩) (fun h => h) hvb) (hW.cell (p := ⟨K, 0, none⟩) (fun h => h) hkc6) hx hy)
      refine hcla.mono ?_
      rintro e w7 ⟨g7, cl7, a7, rfl, hcl7, hO7, hg7, hC7⟩
      have hCo7 := hCo6.trans hC7 (fun _ _ h => h)
      have hkc7 := hCo7.cell (p := ⟨K, 0, none⟩) (fun h => h) hkc
      have HCo7 := Bx.mk hCo7
      have HCL7 := Bx.mk hcl7
      have HO7 := Bx.mk hO7
      have HO57 := Bx.mk ((HO5.out.keep hC6).keep hC7)
      have HG7 : Bx (w.heap.size ≤ g7) := ⟨by have := HST.out.ch.size; have := hCo6.size; omega⟩
      have hkk : (k : Int) * 2 = ((k + k : Nat) : Int) := by omega
      have HKK := Bx.mk hkk
      clear hvb hC6 hCo6 hkc6 hcl6 hcla hcl7 hO7 hg7 hC7 hCo7 hV HO5 HC5 hkk
      go_wp2_with fail
      have hb := box_new w7 (.int .i64 ((k : Int) * 2)) 3
      have hA := (Ch.refl (fun _ => False) w7).alloc (.cells #[.int .i64 ((k : Int) * 2)] 3)
      rw [HKK.out] at hb hA ⊢
      have hw := HST.out.ch.size
      have hw2 := HCo7.out.size
      refine ⟨⟨k + k, w7.heap.size, g5, g7, M, cl7, a7, rfl, rfl, rfl, rfl, ⟨by omega, by omega, hb, HO57.out.keep hA, HO7.out.keep hA, HOrd5.out, HCL7.out, (HST.out.ch.trans HCo7.out (fun _ _ h => h)).trans hA (fun _ _ h => h), HG5.out, HG7.out, by omega⟩⟩, ?_⟩
      rw [kOf_eq hb, kOf_eq hkc]
      omega
end
end Go.Proofs.Ytgboobjmafdieaa
