/-
  Contracts of a table that is nil; the law MemOfNothing walked.
  Conditions: none of the contracts; of the law: what came in reads as it says.
-/
import Derived.Test.YtpilekadcondnaaMtKnown
namespace Go.Proofs.Ytpilekadcondnaa
open Go.RowKit Go.Oct Go.Su Go.Sg Go.Mt Go.Maps

section
variable {F : Nat → Prop}
theorem nget_any (V : Value) (w : World) : Calls Try.prog 18 #[.pointer none, V] w fun e w' => e = .returned (.tuple #[.slice none 0 0, .bool false, .bool false]) ∧ w = w' := by
  go_enter Try.func18, Try.ntmps18
  go_wp2
  go_returns
  exact ⟨rfl, rfl⟩
theorem nput_any (V : Value) (A : Option Addr) (n c : Nat) (w : World) : Calls Try.prog 12 #[.pointer none, V, .slice A n c] w fun e w' => e = .returned (.int .i64 1) ∧ w = w' := by
  go_enter Try.func12, Try.ntmps12
  go_wp2
  go_ret
  exact ⟨rfl, rfl⟩
theorem ndel_any (V : Value) (w : World) : Calls Try.prog 13 #[.pointer none, V] w fun e w' => e = .returned (.int .i64 1) ∧ w = w' := by
  go_enter Try.func13, Try.ntmps13
  go_wp2
  go_ret
  exact ⟨rfl, rfl⟩
theorem nlen_any (w : World) : Calls Try.prog 22 #[.pointer none] w fun e w' => e = .returned (.int .i64 0) ∧ w = w' := by
  go_enter Try.func22, Try.ntmps22
  go_wp2
  go_ret
  exact ⟨rfl, rfl⟩
theorem nkeys_any (b : Bool) (w : World) : Calls Try.prog 33 #[.pointer none, .bool b] w fun e w' => e = .returned (.slice none 0 0) ∧ Ch (fun _ => False) w w' := by
  go_enter Try.func33, Try.ntmps33
  go_wp2
  go_ret
  exact ⟨rfl, ((Ch.refl _ w).alloc _).alloc _⟩
theorem ngone_any (w : World) : Calls Try.prog 27 #[.pointer none] w fun e w' => e = .returned (.slice none 0 0) ∧ Ch (fun _ => False) w w' := by
  have HK := Bx.mk (nkeys_any false w)
  go_enter Try.func27, Try.ntmps27
  go_wp2_with fail
  refine HK.out.mono ?_
  rintro e w1 ⟨rfl, hc⟩
  have HC := Bx.mk hc
  clear hc
  go_wp2
  go_ret
  exact ⟨rfl, HC.out⟩
theorem nfind_any (A : Option Addr) (n c : Nat) (w : World) : Calls Try.prog 16 #[.pointer none, .slice A n c] w fun e w' => e = .returned (.slice none 0 0) ∧ Ch (fun _ => False) w w' := by
  have HK := Bx.mk (nkeys_any true w)
  go_enter Try.func16, Try.ntmps16
  go_wp2_with fail
  refine HK.out.mono ?_
  rintro e w1 ⟨rfl, hc⟩
  have HC := Bx.mk hc
  clear hc
  go_wp2_with fail
  go_loopw [5, 13] (fun v i wr => v = .slice none 0 0 ∧ i = .int .i64 0 ∧ wr = w1) (fun _ _ _ => 0)
  case atStart => exact ⟨rfl, rfl, rfl⟩
  case round =>
    obtain ⟨rfl, rfl, rfl⟩ := hrel
    go_wp2
    go_ret
    exact ⟨rfl, HC.out⟩
theorem ndocs_any (w : World) : Calls Try.prog 25 #[.pointer none] w fun e w' => e = .returned (.slice none 0 0) ∧ Ch (fun _ => False) w w' := by
  have HK := Bx.mk (nkeys_any true w)
  go_enter Try.func25, Try.ntmps25
  go_wp2_with fail
  refine HK.out.mono ?_
  rintro e w1 ⟨rfl, hc⟩
  have HC := Bx.mk hc
  clear hc
  go_wp2_with fail
  go_loopw [3, 9] (fun v i wr => v = .slice none 0 0 ∧ i = .int .i64 0 ∧ wr = w1) (fun _ _ _ => 0)
  case atStart => exact ⟨rfl, rfl, rfl⟩
  case round =>
    obtain ⟨rfl, rfl, rfl⟩ := hrel
    go_wp2
    go_ret
    exact ⟨rfl, HC.out⟩
set_option maxHeartbeats 4000000 in
set_option maxRecDepth 100000 in
theorem nothing_law (k : Key) (xs : List Int) (A : Option Addr) (n c : Nat) (w : World) (_ : Sl w F .u8 A n xs) (hk : k.length ≤ 140737488351232) (hn : n ≤ 140737488351232) (hmx : ∃ m, w.cell? ⟨0, 0, none⟩ = some (.int .i64 m)) :
    Calls Try.prog 4 #[kv k, .slice A n c] w fun e w' => e = .returned (.bool true) ∧ Ch (fun _ => False) w w' := by
  obtain ⟨S, hS, hz⟩ : ∃ S : ByteArray, kv k = .string S ∧ S.size = k.length := ⟨_, rfl, kv_size k⟩
  have HMX := Bx.mk hmx
  rw [hS]
  clear hS hmx
  obtain ⟨a, ha⟩ : ∃ a, k.length = a := ⟨_, rfl⟩
  rw [ha] at hz hk
  clear ha
  have hw : IntKind.i64.wrap ((a : Int) + (n : Int)) = (a : Int) + (n : Int) := IntWalk.i64_in _ (by omega)
  have HKN : Bx (∀ W, Ch (fun _ => False) w W → Calls Try.prog 7 #[] W fun e w' => e = .returned (.bool true) ∧ Ch (fun _ => False) w w') := ⟨fun W hc => by
    obtain ⟨m, hm⟩ := HMX.out
    exact (mknown_any W ⟨m, hc.cell (p := ⟨0, 0, none⟩) (fun h => h) hm⟩).mono fun e w' ⟨h1, h2⟩ => ⟨h1, hc.trans h2 (fun _ _ h => h)⟩⟩
  by_cases h6 : 6000 < a + n
  · have d6 : decide (6000 < (a : Int) + (n : Int)) = true := decide_eq_true (by omega)
    go_enter Try.func4, Try.ntmps4
    go_wp2_with fail
    go_ret
    exact ⟨rfl, Ch.refl _ _⟩
  · have d6 : decide (6000 < (a : Int) + (n : Int)) = false := decide_eq_false (by omega)
    go_enter Try.func4, Try.ntmps4
    go_wp2_with fail
    refine (nget_any _ _).mono ?_
    rintro e w1 ⟨rfl, rfl⟩
    go_wp2_with fail
    refine (nput_any _ _ _ _ _).mono ?_
    rintro e w1 ⟨rfl, rfl⟩
    go_wp2_with fail
    refine (ndel_any _ _).mono ?_
    rintro e w1 ⟨rfl, rfl⟩
    go_wp2_with fail
    refine (nfind_any _ _ _ _).mono ?_
    rintro e w1 ⟨rfl, hc1⟩
    have HC1 := Bx.mk hc1
    clear hc1
    go_wp2_with fail
    refine (ndocs_any _).mono ?_
    rintro e w2 ⟨rfl, hc2⟩
    have HC2 := Bx.mk (HC1.out.trans hc2 (fun _ _ h => h))
    clear hc2 HC1
    go_wp2_with fail
    refine (ngone_any _).mono ?_
    rintro e w3 ⟨rfl, hc3⟩
    have HC3 := Bx.mk (HC2.out.trans hc3 (fun _ _ h => h))
    clear hc3 HC2
    go_wp2_with fail
    refine (nlen_any _).mono ?_
    rintro e w4 ⟨rfl, rfl⟩
    have HK := Bx.mk (HKN.out w3 HC3.out)
    go_wp2_with fail
    refine HK.out.mono ?_
    rintro e w5 ⟨rfl, hc5⟩
    have HC5 := Bx.mk hc5
    clear hc5
    go_wp2_with fail
    go_ret
    exact ⟨rfl, HC5.out⟩
end
end Go.Proofs.Ytpilekadcondnaa
