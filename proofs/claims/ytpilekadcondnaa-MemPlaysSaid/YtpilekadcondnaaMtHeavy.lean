/-
  Scripts of steps in memory; the contract of the law's heavy: what is not heavy is small.
  Conditions: the script reads as it says; no key and no text beyond the form's own reach.
-/
import Derived.Test.YtpilekadcondnaaMtNew
import Derived.BigQuiet
namespace Go.Sg
open Go.Oct Go.Su Go.RowKit
/-- A step: its kind, key, text. -/
abbrev Sp := Int × Key × List Int
def StpE (w : World) (F : Nat → Prop) (cs : List Value) (s : Sp) : Prop := ∃ A c, cs = [.int .i64 s.1, kv s.2.1, .slice A s.2.2.length c] ∧ Sl w F .u8 A s.2.2.length s.2.2 ∧ s.2.2.length ≤ c ∧ c ≤ maxLen
/-- A script. -/
def Stps (w : World) (F : Nat → Prop) (A : Option Addr) (n : Nat) (l : List Sp) : Prop := Ro w F 3 (StpE w F) A n l
section
variable {w w' : World} {F G S : Nat → Prop} {A : Option Addr} {n : Nat} {l : List Sp} {s : Sp} {cs : List Value}
theorem StpE.ch (h : StpE w F cs s) (hc : Ch S w w') (hF : ∀ b, F b → b < w.heap.size → ¬ S b) : StpE w' F cs s := by
  obtain ⟨A, c, e, hs, h1, h2⟩ := h
  exact ⟨A, c, e, hs.ch hc hF, h1, h2⟩
theorem Stps.len (h : Stps w F A n l) : l.length = n := Ro.len h
theorem Stps.ch (h : Stps w F A n l) (hc : Ch S w w') (hF : ∀ b, F b → b < w.heap.size → ¬ S b) : Stps w' F A n l := Ro.ch h (by omega) hc hF fun _ _ _ he => he.ch hc hF
theorem Stps.keep (h : Stps w F A n l) (hc : Ch (fun _ => False) w w') : Stps w' F A n l := h.ch hc (fun _ _ _ h => h)
/-- The j-th step. -/
theorem Stps.get (h : Stps w F A n l) {j : Nat} (hj : j < n) : ∃ b off s B c, A = some ⟨b, off, none⟩ ∧ F b ∧ Hid (l[j]? = some s) ∧ w.cell? ⟨b, off + j * 3, none⟩ = some (.int .i64 s.1) ∧ w.cell? ⟨b, off + j * 3 + 1, none⟩ = some (kv s.2.1) ∧ w.cell? ⟨b, off + j * 3 + 2, none⟩ = some (.slice B s.2.2.length c) ∧ Sl w F .u8 B s.2.2.length s.2.2 ∧ s.2.2.length ≤ c ∧ c ≤ maxLen := by
  obtain ⟨b, off, d, cs, e, hb, hd, hl, ⟨B, c, rfl, hs, h1, h2⟩, hi⟩ := Ro.get h hj
  exact ⟨b, off, d, B, c, e, hb, hd, hi 0 _ rfl, hi 1 _ rfl, hi 2 _ rfl, hs, h1, h2⟩
end
/-- May a step stand in an argument? -/
structure SpOk (s : Sp) : Prop where
  kl : s.2.1.length ≤ 140737488351232
  tl : s.2.2.length ≤ 140737488351232
  byte : ∀ x ∈ s.2.2, 0 ≤ x ∧ x < 256
  kind : -9223372036854775808 ≤ s.1 ∧ s.1 ≤ 9223372036854775807
/-- How heavy a script is. -/
def wSp (l : List Sp) : Nat := (l.map fun s => 5 + s.2.1.length + s.2.2.length).sum
theorem wSp_app (a b : List Sp) : wSp (a ++ b) = wSp a + wSp b := by simp [wSp]
theorem wSp_mem {l : List Sp} {s : Sp} (h : s ∈ l) : 5 + s.2.1.length + s.2.2.length ≤ wSp l := by
  induction l with
  | nil => simp at h
  | cons a l ih =>
    have e : wSp (a :: l) = (5 + a.2.1.length + a.2.2.length) + wSp l := rfl
    rcases List.mem_cons.1 h with rfl | h
    · omega
    · have := ih h
      omega
end Go.Sg
namespace Go.Proofs.Ytpilekadcondnaa
open Go.RowKit Go.Oct Go.Su Go.Sg Go.Mt Go.Maps

/-- What heavy leaves. -/
def HeavyOf (l : List Sp) (w : World) (e : Ending) (w' : World) : Prop := ∃ o : Bool, e = .returned (.bool o) ∧ Ch (fun _ => False) w w' ∧ (o = false → wSp (l.take 120) ≤ 6000)
theorem HeavyOf.yes {l : List Sp} {w w' : World} (hc : Ch (fun _ => False) w w') : HeavyOf l w (.returned (.bool true)) w' := ⟨true, rfl, hc, fun h => by simp at h⟩
section
variable {F : Nat → Prop}
set_option maxHeartbeats 4000000 in
set_option maxRecDepth 100000 in
theorem mheavy_any (l : List Sp) (A : Option Addr) (n c : Nat) (w : World) (hz : Stps w F A n l) (hok : ∀ s ∈ l, SpOk s) (_ : n ≤ 9223372036854775807) :
    Calls Try.prog 6 #[.slice A n c] w (HeavyOf l w) := by
  have HL := Bx.mk hz.len
  have HZ := Bx.mk hz
  have HOK := Bx.mk hok
  clear hz hok
  go_enter Try.func6, Try.ntmps6
  go_wp2_with fail
  go_loopw [3, 4] (fun q i wr => ∃ k N : Nat, k ≤ n ∧ k ≤ 120 ∧ q = .int .i64 N ∧ i = .int .i64 k ∧ N ≤ 6000 ∧ Bx (wSp (l.take k) = N) ∧ ∃ g, wr = w.drewN g) (fun _ i _ => 120 - (intOf i).toNat)
  case atStart => exact ⟨0, 0, Nat.zero_le _, Nat.zero_le _, rfl, rfl, Nat.zero_le _, ⟨rfl⟩, 0, rfl⟩
  case round =>
    obtain ⟨k, N, hk, hk2, rfl, rfl, hN, hS, g, rfl⟩ := hrel
    by_cases hkn : k < n
    · have dk : decide ((k : Int) < (n : Int)) = true := decide_eq_true (by omega)
      have i1 : (k : Int) < (n : Int) := by omega
      by_cases hk3 : k < 120
      · have dk2 : decide ((k : Int) < 120) = true := decide_eq_true (by omega)
        obtain ⟨b, off, s, B, c1, rfl, _, hs, k0, k1, k2, _, hc1, hcm1⟩ := HZ.out.get hkn
        have HT := Bx.mk (Oct.take_more hs.out)
        have hso := HOK.out s (List.mem_of_getElem? hs.out)
        have hkl := hso.kl
        have htl := hso.tl
        obtain ⟨a, ha⟩ : ∃ a, s.2.1.length = a := ⟨_, rfl⟩
        obtain ⟨t, ht⟩ : ∃ t, s.2.2.length = t := ⟨_, rfl⟩
        rw [ht] at k2 htl hc1
        rw [ha] at hkl
        obtain ⟨SK, hSK⟩ : ∃ SK, kv s.2.1 = .string SK := ⟨_, rfl⟩
        have hsz : SK.size = a := by
          have := kv_size s.2.1
          unfold kv at hSK
          injection hSK with hSK
          rw [← hSK, this, ha]
        rw [hSK] at k1
        have HS2 : Bx (wSp (l.take (k + 1)) = N + 5 + a + t) := ⟨by
          rw [HT.out, wSp_app, hS.out, ← ha, ← ht]
          have : wSp [s] = 5 + s.2.1.length + s.2.2.length + 0 := rfl
          rw [this]
          omega⟩
        obtain ⟨N2, hN2⟩ : ∃ N2, N + 5 + a + t = N2 := ⟨_, rfl⟩
        rw [hN2] at HS2
        have hcm63 : c1 ≤ 9223372036854775807 := by unfold maxLen at hcm1; omega
        have f1 : IntKind.i64.wrap ((N : Int) + 5) = (N : Int) + 5 := IntWalk.i64_in _ (by omega)
        have f2 : IntKind.i64.wrap ((N : Int) + 5 + (a : Int)) = (N : Int) + 5 + (a : Int) := IntWalk.i64_in _ (by omega)
        have f3 : IntKind.i64.wrap ((N : Int) + 5 + (a : Int) + (t : Int)) = (N2 : Int) := by rw [← hN2]; exact (IntWalk.i64_in _ (by omega)).trans (by omega)
        clear hs hso hS ha ht hSK hcm1 hkl htl hN2 k0
        go_wp2_with fail
        go_quiet (fail)
        clear f1 f2 f3
        by_cases h6 : 6000 < N2
        · have d6 : decide (6000 < (N2 : Int)) = true := decide_eq_true (by omega)
          go_wp2
          go_ret
          exact .yes ((Ch.refl _ _).drewN _)
        · have d6 : decide (6000 < (N2 : Int)) = false := decide_eq_false (by omega)
          go_wp2
          go_roundw
          case rel => exact ⟨k + 1, N2, by omega, by omega, rfl, by go_num, by omega, HS2, _, rfl⟩
          case measure => simp [intOf]; omega
      · obtain rfl : k = 120 := by omega
        have HR : Bx (wSp (l.take 120) ≤ 6000) := ⟨by rw [hS.out]; exact hN⟩
        clear hS
        go_wp2
        go_ret
        exact ⟨false, rfl, (Ch.refl _ _).drewN _, fun _ => HR.out⟩
    · have hkn2 : n = k := by omega
      have dk : decide ((k : Int) < (n : Int)) = false := decide_eq_false (by omega)
      have HR : Bx (wSp (l.take 120) ≤ 6000) := ⟨by
        have h1 : l.take 120 = l.take k := by rw [List.take_of_length_le (by have := HL.out; omega), List.take_of_length_le (by have := HL.out; omega)]
        rw [h1, hS.out]
        exact hN⟩
      clear hS
      go_wp2
      go_ret
      exact ⟨false, rfl, (Ch.refl _ _).drewN _, fun _ => HR.out⟩
end
end Go.Proofs.Ytpilekadcondnaa
