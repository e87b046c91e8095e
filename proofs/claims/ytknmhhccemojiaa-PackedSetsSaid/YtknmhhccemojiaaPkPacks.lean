/-
  The walk of haystacklaw3.PackedPacks: true, whatever the row. Conditions: none.
-/
import Derived.Test.YtknmhhccemojiaaPkOne
namespace Go.Proofs.Ytknmhhccemojiaa
open Go.RowKit Go.Oct Go.Pk

theorem xor_nat {a b c : Nat} (h : a ^^^ b = c) (ha : a < 18446744073709551616) (hb : b < 18446744073709551616) : bits .xor .u64 (a : Int) (b : Int) = (c : Int) := by rw [bits_xor_u64_nat a b ha hb, h]
theorem xor_lt {a b : Nat} (ha : a < 18446744073709551616) (hb : b < 18446744073709551616) : a ^^^ b < 18446744073709551616 := Nat.xor_lt_two_pow (n := 64) ha hb
theorem set_64 {xs : List Nat} {k x : Nat} (h : ∀ j, xs.getD j 0 < 18446744073709551616) (hx : x < 18446744073709551616) : ∀ j, (xs.set k x).getD j 0 < 18446744073709551616 := by
  intro j
  rw [getD_set]
  split
  · exact hx
  · exact h j
theorem ref_Pack_is (l : List Nat) (n wd : Nat) (A : Option Addr) (c : Nat) (w : World) (F : Nat → Prop) (hs : Sn w F A l) (hn : l.length = n) (hw : widN l = wd) (hl : n ≤ 1048576) (h64 : ∀ x ∈ l, x < 18446744073709551616) :
    Calls Try.prog 10 #[.slice A n c] w fun e w' => ∃ g c', e = .returned (.tuple #[.int .i64 wd, .slice (some ⟨g, 0, none⟩) n c']) ∧ Ow w' g c' l ∧ n ≤ c' ∧ c' ≤ maxLen ∧ Ch (fun _ => False) w w' := by
  subst hn hw
  exact ref_Pack l A c w F hs hl h64
theorem alike_is (bv bw wd n : Nat) (ws l : List Nat) (A : Option Addr) (c : Nat) (wI : Int) (w : World) (F : Nat → Prop) (hr : Raw w bv bw wd n ws) (hp : Pk ws wd l) (hl : l.length = n) (hs : Sn w F A l) (hw : wI = wd) :
    Calls Try.prog 11 #[.pointer (some ⟨bv, 0, none⟩), .int .i64 wI, .slice A n c] w fun e w' => e = .returned (.bool true) ∧ Ch (fun _ => False) w w' := by
  subst hw
  exact alike_any bv bw wd n ws l A c w F hr hp hl hs
theorem Ow.drewN {w : World} {g c : Nat} {xs : List Nat} (h : Ow w g c xs) (m : Nat) : Ow (w.drewN m) g c xs := h.keep ((Ch.refl _ _).drewN m)

set_option maxHeartbeats 4000000 in
theorem packs_in (l : List Nat) (A : Option Addr) (c : Nat) (w : World) (F : Nat → Prop) (hs : Sn w F A l) (hl : l.length ≤ 500) (h64 : ∀ x ∈ l, x < 18446744073709551616) :
    Calls Try.prog 3 #[.slice A l.length c] w fun e w' => e = .returned (.bool true) ∧ Ch (fun _ => False) w w' := by
  obtain ⟨n, hn⟩ : ∃ n, l.length = n := ⟨_, rfl⟩
  obtain ⟨wd, hwd⟩ : ∃ wd, widN l = wd := ⟨_, rfl⟩
  have HS := Bx.mk hs.low
  have H64 := Bx.mk h64
  have HN := Bx.mk hn
  have HWD := Bx.mk hwd
  have HA := Bx.mk (own_none w)
  have hv := (hs.alloc (.cells #[] 25)).vs
  rw [hn] at hv
  have HV := Bx.mk hv
  rw [hn] at hl ⊢
  clear hs h64 hn hwd hv
  go_enter Try.func3, Try.ntmps3
  go_wp2_with (at_builtin; refine wp_app rfl (.tmp 11) (.tmp 12) elem64 rfl rfl HA.out rfl HV.out ?c1 ?c2 ?c3 ?_)
  case c1 => exact nats_cells l
  case c2 => omega
  case c3 => omega
  intro v' w1 ho1 hg1 hb1
  have hcl := clone_post (l := l) (by rw [HN.out]; simpa using ho1) hg1 hb1
  rw [HN.out] at hcl
  obtain ⟨g, c', rfl, hO, hgs, hc1, hc2, hC⟩ := hcl
  have HO := Bx.mk hO
  have HC := Bx.mk hC
  have HGL := Bx.mk hO.lt
  clear ho1 hg1 hb1 hO hC
  go_wp2_with fail
  refine (pack_is l n wd _ c' _ _ HO.out.sn HN.out HWD.out (by omega) hc1 H64.out).mono ?_
  rintro e w2 ⟨bv, bw, ws, rfl, hbw, hbv, hr, hp, hC2⟩
  have HR := Bx.mk hr
  have HP := Bx.mk hp
  have HC2 := Bx.mk (HC.out.trans hC2 (fun _ _ h => h))
  have HO2 := Bx.mk (HO.out.keep hC2)
  clear hr hp hC2
  go_wp2
  go_loopw [5] (fun a wr => ∃ (k : Nat) (xs : List Nat), k ≤ n ∧ a = .int .i64 k ∧ xs.length = n ∧ Ow wr g c' xs ∧ (∀ j, xs.getD j 0 < 18446744073709551616) ∧ Ch (fun b => b = g) w2 wr) (fun a _ => n - (intOf a).toNat)
  case atStart => exact ⟨0, l, Nat.zero_le _, rfl, HN.out, HO2.out, getD_64 H64.out, Ch.refl _ _⟩
  case round =>
    obtain ⟨k, xs, hk, rfl, hxl, hO, hx64, hC⟩ := hrel
    have HX64 := Bx.mk hx64
    have HCC := Bx.mk hC
    by_cases hlt : k < n
    · have hcx := hO.cellAt (j := k) (by omega)
      have hfx := hO.frozenAt k
      have hx := hx64 k
      have hst := hO.stored k (xs.getD k 0 ^^^ 1)
      have hxn := set_64 (k := k) hx64 (xor_lt hx (show (1 : Nat) < 18446744073709551616 by omega))
      have hsl : (xs.set k (xs.getD k 0 ^^^ 1)).length = n := by rw [set_len]; exact hxl
      obtain ⟨y, hy⟩ : ∃ y, xs.getD k 0 ^^^ 1 = y := ⟨_, rfl⟩
      rw [hy] at hst hxn hsl
      have hxor := xor_nat hy hx (show (1 : Nat) < 18446744073709551616 by omega)
      rw [show ((1 : Nat) : Int) = 1 from rfl] at hxor
      generalize xs.getD k 0 = x at *
      have HST := Bx.mk hst
      have HXN := Bx.mk hxn
      have HSL := Bx.mk hsl
      clear hx64 hC hO hst hxn hsl hy
      go_wp2
      go_roundw
      case rel => exact ⟨k + 1, xs.set k y, by omega, by go_num, HSL.out, HST.out.1, HXN.out, HCC.out.trans HST.out.2 (fun _ _ h => h)⟩
      case measure => simp [intOf]; omega
    · obtain rfl : k = n := by omega
      have HR3 := Bx.mk (HR.out.ch hC (by have := HGL.out; omega) (by have := HGL.out; omega))
      have HC3 := Bx.mk (HC2.out.trans hC (fun i hi (e : i = g) => absurd hi (by omega)))
      have HS3 := Bx.mk (HS.out.keep HC3.out)
      clear hx64 hC hO
      go_wp2_with fail
      refine (ref_Pack_is l _ wd A c _ _ HS3.out HN.out HWD.out (by omega) H64.out).mono ?_
      rintro e w4 ⟨g4, c4, rfl, hO4, hc4, hc4m, hC4⟩
      have HO4 := Bx.mk hO4
      have HR4 := Bx.mk (HR3.out.keep hC4)
      have HC4 := Bx.mk (HC3.out.trans hC4 (fun _ _ h => h))
      clear hO4 hC4
      go_wp2_with fail
      refine (alike_is _ _ wd _ ws l _ _ _ _ _ HR4.out HP.out HN.out HO4.out.sn rfl).mono ?_
      rintro e w5 ⟨rfl, hC5⟩
      have HC5 := Bx.mk (HC4.out.trans hC5 (fun _ _ h => h))
      clear hC5
      go_wp2_with fail
      refine (known_any _).mono ?_
      rintro e w6 ⟨rfl, hC6⟩
      go_wp2
      go_ret
      exact ⟨rfl, HC5.out.trans hC6 (fun _ _ h => h)⟩
theorem packs_law (l : List Nat) (A : Option Addr) (c : Nat) (w : World) (F : Nat → Prop) (hs : Sn w F A l) (h64 : ∀ x ∈ l, x < 18446744073709551616) :
    Calls Try.prog 3 #[.slice A l.length c] w fun e w' => e = .returned (.bool true) ∧ Ch (fun _ => False) w w' := by
  by_cases h1 : 500 < l.length
  · clear hs h64
    go_enter Try.func3, Try.ntmps3
    go_wp2
    go_ret
    exact ⟨rfl, Ch.refl _ _⟩
  · exact packs_in l A c w F hs (by omega) h64
end Go.Proofs.Ytknmhhccemojiaa
