/-
  The contract of suffix.byClass: endings in the order of their classes, those of one class as they stood.
-/
import Derived.Test.YtgboobjmafdieaaSvClass
namespace Go.Proofs.Ytgboobjmafdieaa
open Go.RowKit Go.Oct Go.Su

/-- What byClass leaves. -/
def Laid (f : Nat → Nat) (R : List Nat) (n : Nat) (w : World) (e : Ending) (w' : World) : Prop := ∃ (g : Nat) (M : List Nat), e = .returned (.slice (some ⟨g, 0, none⟩) n n) ∧ Put f R n M ∧ Own w' 3 1 g n n (vals M) ∧ w.heap.size ≤ g ∧ Ch (fun _ => False) w w'
theorem nxt_zero {f : Nat → Nat} {R : List Nat} (n : Nat) : nxt n f R 0 = List.range n := by
  apply List.ext_getElem?
  intro q
  rcases Nat.lt_or_ge q n with h | h
  · rw [nxt_at h, List.getElem?_range h]
    unfold upTo
    simp
  · rw [List.getElem?_eq_none (by rw [nxt_len]; exact h), List.getElem?_eq_none (by rw [List.length_range]; exact h)]
section
variable {F G : Nat → Prop}
set_option maxHeartbeats 4000000 in
theorem byclass_any (R cl : List Nat) (A B : Option Addr) (n c d : Nat) (w : World) (hs : Sl w F .i64 A n (asI R)) (hb : Sl w G .i64 B n (asI cl)) (hn : n ≤ 65536) (hR : ∀ x ∈ R, x < n) (hcl : ∀ x, x < n → gn cl x < n) (hc : Cnt (gn cl) R) :
    Calls Try.prog 37 #[.slice A n c, .slice B n d] w (Laid (gn cl) R n w) := by
  have hl : R.length = n := by have := hs.len; rwa [asI_len] at this
  have hl2 : cl.length = n := by have := hb.len; rwa [asI_len] at this
  have HL := Bx.mk hl
  have HL2 := Bx.mk hl2
  have HS := Bx.mk (hs.mono (G := fun b => b < w.heap.size) (fun b h _ => h))
  have HB := Bx.mk (hb.mono (G := fun b => b < w.heap.size) (fun b h _ => h))
  have HR := Bx.mk hR
  have HCL := Bx.mk hcl
  have HC := Bx.mk hc
  clear hs hb hR hcl hc hl hl2
  go_enter Try.func37, Try.ntmps37
  go_wp2_with fail
  refine (upto_any n _ (by omega)).mono ?_
  rintro e w1 ⟨g, rfl, hO1, hg, hC1⟩
  rw [← nxt_zero (f := gn cl) (R := R)] at hO1
  have hmk := mkI w1 n (by omega)
  have HO1 := Bx.mk hO1
  have HG1 := Bx.mk hg
  have HC1 := Bx.mk hC1
  have HGL := Bx.mk hO1.lt
  clear hO1 hg hC1
  go_wp2_with fail
  obtain ⟨H, hH⟩ : ∃ H, w1.heap.size = H := ⟨_, rfl⟩
  obtain ⟨w2, hw2⟩ : ∃ w2, w1.alloc (.cells (madeCells #[.int .i64 0] n) 3) = w2 := ⟨_, rfl⟩
  have hC2 : Ch (fun _ => False) w1 w2 := by rw [← hw2]; exact (Ch.refl (fun _ => False) w1).alloc _
  have hO2 : Own w2 3 1 H n n (vals (List.replicate R.length 0)) := by
    unfold vals
    rw [HL.out, List.map_replicate, ← hw2, ← hH]
    exact own_made1 w1 3 (.int .i64 0) n (by omega)
  have HO1' := Bx.mk (HO1.out.keep hC2)
  have HO2 := Bx.mk hO2
  have HC2 := Bx.mk (HC1.out.trans hC2 (fun _ _ h => h))
  have HHG : Bx (g < H ∧ w.heap.size ≤ g ∧ w.heap.size ≤ H) := ⟨by
    have h1 := HGL.out
    have h2 := HG1.out
    omega⟩
  have HS2 : Bx (Sl w2 (fun b => b < w.heap.size) .i64 A n (asI R)) := ⟨HS.out.ch HC2.out (fun _ _ _ h => h)⟩
  have HB2 : Bx (Sl w2 (fun b => b < w.heap.size) .i64 B n (asI cl)) := ⟨HB.out.ch HC2.out (fun _ _ _ h => h)⟩
  rw [hw2, hH]
  clear hw2 hH hC2 hO2 hmk HO1 HC1 HS HB HGL HG1
  go_loopw [8, 9, 18] (fun _ _ i wr => ∃ (j : Nat) (M : List Nat), j ≤ n ∧ i = .int .i64 j ∧ Own wr 3 1 g n n (vals (nxt n (gn cl) R j)) ∧ Own wr 3 1 H n n (vals M) ∧ Put (gn cl) R j M ∧ Ch (fun b => b = g ∨ b = H) w2 wr) (fun _ _ i _ => n - (intOf i).toNat)
  case atStart => exact ⟨0, _, Nat.zero_le _, rfl, HO1'.out, HO2.out, put_start, Ch.refl _ _⟩
  case round =>
    obtain ⟨j, M, hj, rfl, hON, hOM, hP, hCr⟩ := hrel
    have hhg := HHG.out
    by_cases hjn : j < n
    · have hSr := HS2.out.ch hCr (fun b hb _ h => by omega)
      have hBr := HB2.out.ch hCr (fun b hb _ h => by omega)
      obtain ⟨b, off, x0, rfl, hbG, hx0, hcx⟩ := hSr.at_ hjn
      obtain ⟨x, rfl, hx⟩ := asI_at hx0.out
      have hxn : x < n := HR.out x (List.mem_of_getElem? hx)
      obtain ⟨b2, off2, q0, rfl, hb2G, hq0, hcq⟩ := hBr.at_ hxn
      obtain ⟨q, rfl, hq⟩ := asI_at hq0.out
      have hqv := gn_at hq
      have hqn : q < n := by have := HCL.out x hxn; omega
      have hcn := hON.cellN hqn
      have hnq : gn (nxt n (gn cl) R j) q = pos (gn cl) R j x := by
        rw [gn_at (nxt_at hqn)]
        unfold pos
        rw [hqv]
      have hpl := pos_lt HC.out hx
      rw [HL.out] at hpl
      have hnn := nxt_next (n := n) (f := gn cl) hx
      have hPn := hP.next HC.out hx
      have hpe : gn cl x + Go.Su.upTo (gn cl) R j (gn cl x) = pos (gn cl) R j x := rfl
      rw [hpe, hqv] at hnn
      rw [hnq] at hcn
      generalize pos (gn cl) R j x = p at *
      have hco := hOM.cellN hpl
      have hfo := hOM.frozenAt p
      have hst1 := hOM.storedN p x
      have hON1 := hON.ch hst1.2 (fun h => by have h' : g = H := h; omega)
      have hcn1 := hst1.2.cell (p := ⟨g, q, none⟩) (fun h => by have h' : g = H := h; omega) hcn
      have hfn := hON1.frozenAt q
      have hst2 := hON1.storedN q (p + 1)
      rw [hnn] at hst2
      have pc : ((p + 1 : Nat) : Int) = (p : Int) + 1 := by omega
      rw [pc] at hst2
      have hOM2 := hst1.1.ch hst2.2 (fun h => by have h' : H = g := h; omega)
      have hCn := (hCr.trans hst1.2 (S := fun b => b = g ∨ b = H) (fun i hi (e : i = H) => .inr e)).trans hst2.2 (S := fun b => b = g ∨ b = H) (fun i hi (e : i = g) => .inl e)
      generalize gn M p = old at *
      have HA := Bx.mk hst2.1
      have HB' := Bx.mk hOM2
      have HPN := Bx.mk hPn
      have HCN := Bx.mk hCn
      have i1 : (0 : Int) ≤ (x : Int) := by omega
      have i2 : (x : Int) < (n : Int) := by omega
      have i3 : (0 : Int) ≤ (q : Int) := by omega
      have i4 : (q : Int) < (n : Int) := by omega
      have i5 : (0 : Int) ≤ (p : Int) := by omega
      have i6 : (p : Int) < (n : Int) := by omega
      clear hON hOM hP hCr hSr hBr hx0 hx hq0 hq hqv hnq hnn hPn hpe hst1 hst2 hON1 hOM2 hCn hhg
      go_wp2
      go_roundw
      case rel => exact ⟨j + 1, _, by omega, by go_num, HA.out, HB'.out, HPN.out, HCN.out⟩
      case measure => simp [intOf]; omega
    · have hjn' : j = n := by omega
      have dj : decide ((j : Int) < (n : Int)) = false := by simp; omega
      have HPF : Bx (Put (gn cl) R n M) := ⟨by rw [hjn'] at hP; exact hP⟩
      have HOM := Bx.mk hOM
      have HCF := Bx.mk (HC2.out.trans hCr (S := fun _ => False) (fun i hi h => by omega))
      clear hON hOM hP hCr hjn' hhg
      go_wp2
      go_ret
      exact ⟨H, M, rfl, HPF.out, HOM.out, HHG.out.2.2, HCF.out⟩
end
end Go.Proofs.Ytgboobjmafdieaa
