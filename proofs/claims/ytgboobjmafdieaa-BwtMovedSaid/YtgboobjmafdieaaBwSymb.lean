/-
  The contracts of bwt.bySymbol, with its comparison, and follow.
  Conditions: the row reads as it says.
-/
import Derived.Test.YtgboobjmafdieaaBwSymStb
import Derived.Test.YtgboobjmafdieaaSvSame
import Derived.Test.YtgboobjmafdieaaBwFol
namespace Go.Proofs.Ytgboobjmafdieaa
open Go.RowKit Go.Oct Go.Su

section
variable {F : Nat → Prop}
theorem bcmp_any (s : List Int) (A : Option Addr) (n c a b B : Nat) (w : World) (hs : Sl w F .i64 A n s) (hbx : w.cell? ⟨B, 0, none⟩ = some (.slice A n c)) (ha : a < n) (hb : b < n) :
    Calls Try.prog 32 #[.int .i64 a, .int .i64 b, .pointer (some ⟨B, 0, none⟩)] w fun e w' => e = .returned (.int .i64 (cv s a b)) ∧ ∃ q, w' = w.drewN q := by
  unfold cv
  obtain ⟨b1, o1, rfl, _, hca⟩ := Sl.gsAt hs ha
  obtain ⟨b2, o2, hA, _, hcb⟩ := Sl.gsAt hs hb
  injection hA with hA
  injection hA with hA1 hA2
  subst hA1 hA2
  generalize gs s a = x at *
  generalize gs s b = y at *
  have i1 : (0 : Int) ≤ (a : Int) := by omega
  have i2 : (a : Int) < (n : Int) := by omega
  have i3 : (0 : Int) ≤ (b : Int) := by omega
  have i4 : (b : Int) < (n : Int) := by omega
  have hcc := fun m => cmp_val x y w m
  generalize Lib.compareInt x y = r at *
  clear hs
  go_enter Try.func32, Try.ntmps32
  go_wp2_with fail
  go_quiet ((go_at_call 33; exact hcc _))
  go_wp2
  go_ret
  exact ⟨rfl, _, rfl⟩
/-- What bySymbol leaves. -/
def BySym (s : List Int) (n : Nat) (w : World) (e : Ending) (w' : World) : Prop := ∃ (g : Nat) (P : List Nat), e = .returned (.slice (some ⟨g, 0, none⟩) n n) ∧ Srt s P ∧ Own w' 3 1 g n n (vals P) ∧ w.heap.size ≤ g ∧ Ch (fun _ => False) w w'
theorem rng_vals (n : Nat) : (rng n).map (Value.int .i64) = vals (List.range n) := by unfold rng; exact vals_asI _
set_option maxHeartbeats 1000000 in
theorem bysymb_any (s : List Int) (A : Option Addr) (n c : Nat) (w : World) (hs : Sl w F .i64 A n s) (hn : n ≤ 65536) :
    Calls Try.prog 23 #[.slice A n c] w (BySym s n w) := by
  have hl := hs.len
  have HL := Bx.mk hl
  have HS := Bx.mk (hs.mono (G := fun b => b < w.heap.size) (fun b h _ => h))
  clear hs hl
  go_enter Try.func23, Try.ntmps23
  go_upto_region 1 with fail
  obtain ⟨B, hB⟩ : ∃ B, w.heap.size = B := ⟨_, rfl⟩
  have hbx0 : (w.alloc (.cells #[.slice A n c] 22)).cell? ⟨w.heap.size, 0, none⟩ = some (.slice A n c) := by
    rw [World.cell?_alloc_at _ _ _ _ rfl]
    rfl
  have hC0 : Ch (fun _ => False) w (w.alloc (.cells #[.slice A n c] 22)) := (Ch.refl (fun _ => False) w).alloc _
  have hsz : (w.alloc (.cells #[.slice A n c] 22)).heap.size = w.heap.size + 1 := World.size_alloc ..
  rw [hB] at hbx0 hsz
  obtain ⟨w0, hw0⟩ : ∃ w0, w.alloc (.cells #[.slice A n c] 22) = w0 := ⟨_, rfl⟩
  rw [hw0] at hbx0 hC0 hsz
  have HS0 : Bx (Sl w0 (fun b => b < B) .i64 A n s) := ⟨by rw [← hB]; exact HS.out.ch hC0 (fun _ _ _ h => h)⟩
  have HC0 := Bx.mk hC0
  have HBX := Bx.mk hbx0
  have HSZ := Bx.mk hsz
  have HBW := Bx.mk hB
  rw [hw0, hB]
  have hbx1 := hbx0
  clear hw0 hB hbx0 hC0 hsz HS
  have hmk := mkI w0 n (by omega)
  go_wp2_with fail
  obtain ⟨G, hG⟩ : ∃ G, w0.heap.size = G := ⟨_, rfl⟩
  obtain ⟨w1, hw1⟩ : ∃ w1, w0.alloc (.cells (madeCells #[.int .i64 0] n) 3) = w1 := ⟨_, rfl⟩
  have hC1 : Ch (fun _ => False) w0 w1 := by rw [← hw1]; exact (Ch.refl (fun _ => False) w0).alloc _
  have hO1 : Own w1 3 1 G n n ((upZ (rng n) 0).map (Value.int .i64)) := by
    rw [upZ_zero, rng_len, List.map_replicate, ← hw1, ← hG]
    exact own_made1 w0 3 (.int .i64 0) n (by omega)
  have HGB : Bx (B < G) := ⟨by have := HSZ.out; omega⟩
  have HS1 := Bx.mk (HS0.out.ch hC1 (fun _ _ _ h => h))
  have HBX1 := Bx.mk (hC1.cell (p := ⟨B, 0, none⟩) (fun h => h) HBX.out)
  have HC1 := Bx.mk (HC0.out.trans hC1 (fun _ _ h => h))
  have HO1 := Bx.mk hO1
  rw [hw1, hG]
  clear hw1 hG hC1 hO1 hmk hbx1 HS0 HC0 HBX HSZ
  go_loopw [4, 10] (fun _ i wr => ∃ k : Nat, k ≤ n ∧ i = .int .i64 k ∧ Own wr 3 1 G n n ((upZ (rng n) k).map (Value.int .i64)) ∧ Ch (fun b => b = G) w1 wr) (fun _ i _ => n - (intOf i).toNat)
  case atStart => exact ⟨0, Nat.zero_le _, rfl, HO1.out, Ch.refl _ _⟩
  case round =>
    obtain ⟨k, hk, rfl, hO, hC⟩ := hrel
    by_cases hlt : k < n
    · have hcell := hO.cellI hlt
      have hfz := hO.frozenAt k
      have hst := hO.storedI k (k : Int)
      rw [upZ_next (rng_at hlt)] at hst
      have HST := Bx.mk hst
      have HC := Bx.mk (hC.trans hst.2 (fun _ _ h => h))
      generalize (upZ (rng n) k).getD k 0 = old at *
      clear hC hst hO
      go_wp2
      go_roundw
      case rel => exact ⟨k + 1, by omega, by go_num, HST.out.1, HC.out⟩
      case measure => simp [intOf]; omega
    · have hkn : k = n := by omega
      have dk : decide ((k : Int) < (n : Int)) = false := by simp; omega
      have hu := upZ_all (rng n)
      rw [rng_len] at hu
      rw [hkn, hu, rng_vals] at hO
      have hR : Rw wr G n (fun p => p) := ⟨by
        have : tb n (fun p => p) = List.range n := by unfold tb; simp
        rw [this]
        exact hO⟩
      have hS2 := HS1.out.ch hC (fun b hb _ (e : b = G) => by have := HGB.out; omega)
      have hbx2 := hC.cell (p := ⟨B, 0, none⟩) (fun (e : B = G) => by have := HGB.out; omega) HBX1.out
      have eg : ∀ args w, (callFunc 32 args).run Try.prog w = .ok (.enter 32 args) w := enters_of Try.func32 (by kernel_rfl) rfl
      have hcm : CmpOk s n G 32 #[.pointer (some ⟨B, 0, none⟩)] wr := ⟨eg, fun W hW x y hx hy =>
        bcmp_any s A n c x y B W (hS2.ch hW (fun b hb _ (e : b = G) => by have := HGB.out; omega)) (hW.cell (p := ⟨B, 0, none⟩) (fun (e : B = G) => by have := HGB.out; omega) hbx2) hx hy⟩
      have hss := sortstable_any s G n 32 #[.pointer (some ⟨B, 0, none⟩)] (fun p => p) wr hR hcm (by omega) (fun _ _ => rfl) HL.out
      have HSS := Bx.mk hss
      have HC2 := Bx.mk (HC1.out.trans hC (S := fun _ => False) (fun i hi (e : i = G) => by have := HGB.out; have := HBW.out; omega))
      clear hO hC hkn hu hR hS2 hbx2 eg hcm hss
      go_wp2_with fail
      refine HSS.out.mono ?_
      rintro e w3 ⟨rfl, f, hq, hO3, hC3⟩
      have HQ := Bx.mk hq
      have HO3 := Bx.mk hO3.own
      have HC3 := Bx.mk (HC2.out.trans hC3 (S := fun _ => False) (fun i hi (e : i = G) => by have := HGB.out; have := HBW.out; omega))
      clear hq hO3 hC3 HSS
      go_wp2
      go_ret
      exact ⟨G, tb n f, rfl, HQ.out, HO3.out, by have := HGB.out; have := HBW.out; omega, HC3.out⟩
end
end Go.Proofs.Ytgboobjmafdieaa
