/-
  The contract of octet.Sum.
-/
import Derived.Test.YtppplchllnalpaaDoorOcWords
import Derived.Test.YtppplchllnalpaaDoorOcMath
import Derived.Test.YtppplchllnalpaaDoorProg
import Derived.Lib.Hide
import Derived.Handy
import Derived.Laws.BitsAllLaws
import Derived.Laws.BitsLemmas
namespace Go.Proofs.YtppplchllnalpaaDoor
open Go.RowKit Go.Oct

theorem ofInt_u32 (a : Nat) (ha : a < 4294967296) : (BitVec.ofInt 32 (a : Int)).toNat = a := by
  rw [BitVec.ofInt_natCast, BitVec.toNat_ofNat]; exact Nat.mod_eq_of_lt (by omega)
theorem u32_xor (a b : Nat) (ha : a < 4294967296) (hb : b < 4294967296) : bits .xor .u32 (a : Int) (b : Int) = ((a ^^^ b : Nat) : Int) := by
  have hx : a ^^^ b < 4294967296 := xor_lt32 ha hb
  show IntKind.u32.wrap ((BitVec.ofInt 32 (a : Int) ^^^ BitVec.ofInt 32 (b : Int)).toNat : Int) = _
  rw [BitVec.toNat_xor, ofInt_u32 a ha, ofInt_u32 b hb, IntKind.wrap_u32]
  omega

theorem not_u32 (t : Nat) (ht : t < 4294967296) : bits .xor .u32 IntKind.u32.max (t : Int) = ((4294967295 - t : Nat) : Int) := by
  have e : IntKind.u32.max = ((4294967295 : Nat) : Int) := rfl
  rw [e, u32_xor 4294967295 t (by omega) ht]
  have h : 4294967295 ^^^ t = 4294967295 - t := by
    have h1 : (BitVec.allOnes 32 ^^^ BitVec.ofNat 32 t).toNat = (~~~ BitVec.ofNat 32 t).toNat := by rw [BitVec.allOnes_xor]
    rw [BitVec.toNat_xor, BitVec.toNat_not, BitVec.toNat_allOnes, BitVec.toNat_ofNat, Nat.mod_eq_of_lt (by omega)] at h1
    simpa using h1
  rw [h]

/-- The table as start-up lays it. -/
def Tab (w : World) : Prop := ∀ i, i < 16 → w.cell? ⟨0, i, none⟩ = some (.int .u32 (tabN.getD i 0 : Nat))

def SumRel (xss : List (List Int)) (k : Nat) (row : List Int) (j : Nat) (t : Nat) : Prop := t = sumFrom (sumFrom 4294967295 (cat (xss.take k))) (row.take j)

theorem sum_step {xss : List (List Int)} {k j s u x : Nat} {row : List Int} (ex : row[j]? = some (x : Int)) (h : SumRel xss k row j s) (hu : u = stepN s x) : SumRel xss k row (j + 1) u := by
  unfold SumRel at h ⊢
  rw [sumFrom_more _ ex, ← h, hu]
  simp
theorem sum_row {xss : List (List Int)} {k s : Nat} {row : List Int} (ex : xss[k]? = some row) (h : SumRel xss k row row.length s) : SumRel xss (k + 1) [] 0 s := by
  unfold SumRel at h ⊢
  rw [cat_more ex, sumFrom_app, h, List.take_of_length_le (Nat.le_refl _)]
  rfl

set_option maxHeartbeats 400000 in
set_option maxRecDepth 100000 in
theorem sum_any (xss : List (List Int)) (A : Option Addr) (n c : Nat) (w : World) (F : Nat → Prop) (hn : n ≤ 1000000000) (ht : Tab w)
    (hz : Sls w F A n xss) (hb : (cat xss).length ≤ 100000000000000) (hby : ∀ xs ∈ xss, Byt xs) :
    Calls Tryd.prog 38 #[.slice A n c] w fun e w' => e = .returned (.int .u32 (sumN (cat xss) : Nat)) ∧ w = w' := by
  have HB := Lib.hid hby
  have HT := Lib.hid ht
  clear hby ht
  go_enter Tryd.func38, Tryd.ntmps38
  go_wp2
  go_loop [3, 10] (fun s i => ∃ k : Nat, k ≤ n ∧ i = .int .i64 k ∧ ∃ t : Nat, t < 4294967296 ∧ s = .int .u32 t ∧ SumRel xss k [] 0 t) (fun _ i => n - (intOf i).toNat)
  case atStart => exact ⟨0, Nat.zero_le _, rfl, _, by decide, rfl, rfl⟩
  case round =>
    obtain ⟨k, hk, rfl, t, ht1, rfl, hrel⟩ := hrel
    by_cases hlt : k < n
    · obtain ⟨b0, off0, A', c', row, rfl, hFb, ex, hc, hsl, _, hcm⟩ := hz.at_ hlt
      have hl : row.length ≤ 100000000000000 := by have := cat_room ex.out; omega
      have hbr : Byt row := HB.out row (List.mem_of_getElem? ex.out)
      have HR := Lib.hid hrel
      clear hrel
      go_wp2
      go_loop [3, 16] (fun s i => ∃ j : Nat, j ≤ row.length ∧ i = .int .i64 j ∧ ∃ t : Nat, t < 4294967296 ∧ s = .int .u32 t ∧ SumRel xss k row j t) (fun _ i => row.length - (intOf i).toNat)
      case atStart => exact ⟨0, Nat.zero_le _, rfl, _, ht1, rfl, HR.out⟩
      case round =>
        obtain ⟨j, hj, rfl, s, hs1, rfl, hrel⟩ := hrel
        have HS := Lib.hid hrel
        clear hrel
        by_cases hlt : j < row.length
        · obtain ⟨b, off, x, rfl, _, ey, hcx⟩ := hsl.at_ hlt
          have hx := hbr.at_ ey.out
          obtain ⟨x, rfl⟩ : ∃ y : Nat, x = (y : Int) := ⟨x.toNat, by omega⟩
          obtain ⟨y, ey1⟩ : ∃ y, y = s ^^^ x := ⟨_, rfl⟩
          have h1 : bits .xor .u32 (s : Int) (x : Int) = (y : Int) := by rw [u32_xor s x hs1 (by omega), ey1]
          have hy : y < 4294967296 := by rw [ey1]; exact xor_lt32 hs1 (by omega)
          obtain ⟨t1, et1⟩ : ∃ t1, t1 = tabN.getD (y % 16) 0 := ⟨_, rfl⟩
          have hc1 : w.cell? ⟨0, y % 16, none⟩ = some (.int .u32 (t1 : Int)) := by rw [et1]; exact HT.out (y % 16) (by omega)
          have ht1' : t1 < 4294967296 := by rw [et1]; exact tab_lt _ (by omega)
          obtain ⟨z, ez1⟩ : ∃ z, z = (y / 16) ^^^ t1 := ⟨_, rfl⟩
          have h2 : bits .xor .u32 ((y : Int) / 16) (t1 : Int) = (z : Int) := by rw [ez1, ← u32_xor (y / 16) t1 (by omega) ht1']; simp
          have hz1 : z < 4294967296 := by rw [ez1]; exact xor_lt32 (by omega) ht1'
          obtain ⟨t2, et2⟩ : ∃ t2, t2 = tabN.getD (z % 16) 0 := ⟨_, rfl⟩
          have hc2 : w.cell? ⟨0, z % 16, none⟩ = some (.int .u32 (t2 : Int)) := by rw [et2]; exact HT.out (z % 16) (by omega)
          have ht2' : t2 < 4294967296 := by rw [et2]; exact tab_lt _ (by omega)
          obtain ⟨u, eu⟩ : ∃ u, u = (z / 16) ^^^ t2 := ⟨_, rfl⟩
          have h3 : bits .xor .u32 ((z : Int) / 16) (t2 : Int) = (u : Int) := by rw [eu, ← u32_xor (z / 16) t2 (by omega) ht2']; simp
          have hu : u < 4294967296 := by rw [eu]; exact xor_lt32 (by omega) ht2'
          have hstep : u = stepN s x := by rw [eu, et2, ez1, et1, ey1]; rfl
          have HST := Lib.hid hstep
          clear hstep ey1 et1 ez1 et2 eu
          go_wp2
          exact ⟨⟨j + 1, by omega, by go_num, u, hu, rfl, sum_step ey.out HS.out HST.out⟩, by simp [intOf]; omega⟩
        · obtain rfl : j = row.length := by omega
          have HS2 : Hid (SumRel xss (k + 1) [] 0 s) := sum_row ex.out HS.out
          go_wp2
          go_round
          case rel => exact ⟨k + 1, by omega, by go_num, s, hs1, rfl, HS2.out⟩
          case measure => simp [intOf]; omega
    · obtain rfl : k = n := by omega
      have HR := Lib.hid hrel
      clear hrel
      go_wp2
      go_ret
      refine ⟨?_, rfl⟩
      show Ending.returned (.int .u32 (bits .xor .u32 IntKind.u32.max (t : Int))) = _
      rw [not_u32 t ht1]
      have hs := HR.out
      unfold SumRel at hs
      rw [List.take_of_length_le (by rw [hz.len]; omega)] at hs
      have e : t = sumFrom 4294967295 (cat xss) := hs
      unfold sumN
      rw [← e]
end Go.Proofs.YtppplchllnalpaaDoor
