/-
  The walk of haystacklaw3.PackedFrom: true, whatever the sizes and the words. Conditions: none.
-/
import Derived.Test.YtknmhhccemojiaaPkLeast
namespace Go.Proofs.Ytknmhhccemojiaa
open Go.RowKit Go.Oct Go.Pk

def flip64 (x : Nat) : Nat := 18446744073709551615 - x
theorem flip_lt (x : Nat) : flip64 x < 18446744073709551616 := by unfold flip64; omega
theorem xor_all (x : Nat) (hx : x < 18446744073709551616) : bits .xor .u64 (if IntKind.u64.signed = true then (-1 : Int) else IntKind.u64.max) (x : Int) = (flip64 x : Nat) := by
  have h : 18446744073709551615 ^^^ x = flip64 x := by
    refine Nat.eq_of_testBit_eq fun j => ?_
    unfold flip64
    rw [Nat.testBit_xor, show 18446744073709551615 - x = 2 ^ 64 - (x + 1) by omega, Nat.testBit_two_pow_sub_succ (by simpa using hx), show (18446744073709551615 : Nat) = 2 ^ 64 - 1 by omega, Nat.testBit_two_pow_sub_one]
    by_cases hj : j < 64
    · simp [hj]
    · simp [hj, big_bit hx (Nat.le_of_not_lt hj)]
  rw [if_neg (by decide)]
  have e := xor_nat h (show (18446744073709551615 : Nat) < 18446744073709551616 by omega) hx
  exact e

/-- What From refuses, and why. -/
def Bad (ws : List Nat) (wd n e0 : Int) : Prop := (chk wd n = e0 ∧ e0 ≠ 0) ∨ (e0 = 3 ∧ ∃ a b : Nat, wd = a ∧ n = b ∧ 1 ≤ a ∧ a ≤ 64 ∧ b ≤ 1048576 ∧ (ws.length ≠ need a b ∨ (ws.length = need a b ∧ tailN ws (a * b) ≠ 0)))
theorem Bad.ne {ws : List Nat} {wd n e0 : Int} (h : Bad ws wd n e0) : e0 ≠ 0 := by
  rcases h with h | h
  · exact h.2
  · omega
theorem bad_or (ws : List Nat) (wd n : Int) : (∃ e0, Bad ws wd n e0) ∨ ∃ a b : Nat, wd = a ∧ n = b ∧ 1 ≤ a ∧ a ≤ 64 ∧ b ≤ 1048576 ∧ ws.length = need a b ∧ tailN ws (a * b) = 0 := by
  by_cases h0 : chk wd n = 0
  · obtain ⟨a, b, h1, h2, h3, h4, h5⟩ := chk_ok h0
    by_cases h6 : ws.length = need a b
    · by_cases h7 : tailN ws (a * b) = 0
      · exact .inr ⟨a, b, h1, h2, h3, h4, h5, h6, h7⟩
      · exact .inl ⟨3, .inr ⟨rfl, a, b, h1, h2, h3, h4, h5, .inr ⟨h6, h7⟩⟩⟩
    · exact .inl ⟨3, .inr ⟨rfl, a, b, h1, h2, h3, h4, h5, .inl h6⟩⟩
  · exact .inl ⟨_, .inl ⟨rfl, h0⟩⟩
theorem from_no (ws : List Nat) (wd n e0 : Int) (m : Nat) (A : Option Addr) (c : Nat) (w : World) (F : Nat → Prop) (hs : Sn w F A ws) (hm : ws.length = m) (h : Bad ws wd n e0) :
    Calls Try.prog 18 #[.int .i64 wd, .int .i64 n, .slice A m c] w fun e w' => e = .returned (.tuple #[.pointer none, .int .i64 e0]) ∧ w = w' := by
  subst hm
  rcases h with ⟨h1, h2⟩ | ⟨rfl, a, b, rfl, rfl, h1, h2, h3, h4⟩
  · exact from_bad wd n e0 _ w h1 h2
  · rcases h4 with h4 | ⟨h4, h5⟩
    · exact from_len ws a b A c w h1 h2 h3 h4
    · exact from_tail ws a b A c w F hs h1 h2 h3 h4 h5
theorem ref_from_no (ws : List Nat) (wd n e0 : Int) (m : Nat) (A : Option Addr) (c : Nat) (w : World) (F : Nat → Prop) (hs : Sn w F A ws) (hm : ws.length = m) (h64 : ∀ k, ws.getD k 0 < 18446744073709551616) (h : Bad ws wd n e0) :
    Calls Try.prog 19 #[.int .i64 wd, .int .i64 n, .slice A m c] w fun e w' => e = .returned (.tuple #[.slice none 0 0, .int .i64 e0]) ∧ Ch (fun _ => False) w w' := by
  subst hm
  rcases h with ⟨h1, h2⟩ | ⟨rfl, a, b, rfl, rfl, h1, h2, h3, h4⟩
  · exact (ref_from_bad wd n e0 _ w h1 h2).mono fun e w' ⟨h1, h2⟩ => ⟨h1, by rw [h2]; exact Ch.refl _ _⟩
  · rcases h4 with h4 | ⟨h4, h5⟩
    · exact ref_from_len ws a b A c w h1 h2 h3 h4
    · refine (ref_from ws a b A c w F hs h1 h2 h3 h4 h64).mono fun e w' hp => ?_
      rcases hp with ⟨_, h7⟩ | ⟨h6, _⟩
      · exact h7
      · exact absurd (by simpa [tailB, tailN] using h6) h5
theorem ref_from_yes (ws : List Nat) (wd n : Nat) (m : Nat) (A : Option Addr) (c : Nat) (w : World) (F : Nat → Prop) (hs : Sn w F A ws) (hm : ws.length = m) (h64 : ∀ k, ws.getD k 0 < 18446744073709551616) (h1 : 1 ≤ wd) (h2 : wd ≤ 64) (hn : n ≤ 1048576) (hl : m = need wd n) (ht : tailN ws (wd * n) = 0) :
    Calls Try.prog 19 #[.int .i64 wd, .int .i64 n, .slice A m c] w fun e w' => ∃ (g : Nat) (l : List Nat), w.heap.size ≤ g ∧ l.length = n ∧ e = .returned (.tuple #[.slice (some ⟨g, 0, none⟩) n n, .int .i64 0]) ∧ Ow w' g n l ∧ Pk ws wd l ∧ Ch (fun _ => False) w w' := by
  subst hm
  refine (ref_from ws wd n A c w F hs h1 h2 hn hl h64).mono fun e w' hp => ?_
  rcases hp with ⟨h6, _⟩ | ⟨_, h7⟩
  · exact absurd ht (by simpa [tailB, tailN] using h6)
  · exact h7

set_option maxHeartbeats 4000000 in
theorem from_in (ws : List Nat) (z n : Int) (A : Option Addr) (c : Nat) (w : World) (F : Nat → Prop) (hs : Sn w F A ws) (hl : ws.length ≤ 600) (hn : n ≤ 500) (h64 : ∀ x ∈ ws, x < 18446744073709551616) :
    Calls Try.prog 5 #[.int .i64 z, .int .i64 n, .slice A ws.length c] w fun e w' => e = .returned (.bool true) ∧ Ch (fun _ => False) w w' := by
  obtain ⟨N, hN⟩ : ∃ N, ws.length = N := ⟨_, rfl⟩
  have HS := Bx.mk hs.low
  have H64 := Bx.mk (getD_64 h64)
  have HN := Bx.mk hN
  have HA := Bx.mk (own_none w)
  have hv := (hs.alloc (.cells #[] 25)).vs
  rw [hN] at hv
  have HV := Bx.mk hv
  have HB := Bx.mk (bad_or ws z n)
  rw [hN] at hl ⊢
  clear hs h64 hN hv
  go_enter Try.func5, Try.ntmps5
  go_wp2_with (at_builtin; refine wp_app rfl (.tmp 20) (.tmp 21) elem64 rfl rfl HA.out rfl HV.out ?c1 ?c2 ?c3 ?_)
  case c1 => exact nats_cells ws
  case c2 => omega
  case c3 => omega
  intro v' w1 ho1 hg1 hb1
  have hcl := clone_post (l := ws) (by rw [HN.out]; simpa using ho1) hg1 hb1
  rw [HN.out] at hcl
  obtain ⟨g, c', rfl, hO, hgs, hc1, hc2, hC⟩ := hcl
  have HO := Bx.mk hO
  have HC := Bx.mk hC
  have HGL := Bx.mk hO.lt
  clear ho1 hg1 hb1 hO hC
  rcases HB.out with ⟨e0, hbad⟩ | ⟨wd, b, rfl, rfl, h1, h2, h3, h4, h5⟩
  · have hne := hbad.ne
    have HBAD := Bx.mk hbad
    have hb1 : (e0 != e0) = false := by simp
    have hb2 : (e0 != 0) = true := by simpa using hne
    clear hbad hne HB
    go_wp2_with fail
    refine (from_no ws z n e0 N _ c' _ _ HO.out.sn HN.out HBAD.out).mono ?_
    rintro e w' ⟨rfl, rfl⟩
    go_wp2_with fail
    refine (ref_from_no ws z n e0 N A c _ _ (HS.out.keep HC.out) HN.out H64.out HBAD.out).mono ?_
    rintro e w2 ⟨rfl, hC2⟩
    have HC2 := Bx.mk (HC.out.trans hC2 (fun _ _ h => h))
    have HO2 := Bx.mk (HO.out.keep hC2)
    clear hC2
    go_wp2
    go_loopw [12] (fun a wr => ∃ (k : Nat) (xs : List Nat), k ≤ N ∧ a = .int .i64 k ∧ xs.length = N ∧ Ow wr g c' xs ∧ (∀ j, xs.getD j 0 < 18446744073709551616) ∧ Ch (fun b => b = g) w2 wr) (fun a _ => N - (intOf a).toNat)
    case atStart => exact ⟨0, ws, Nat.zero_le _, rfl, HN.out, HO2.out, H64.out, Ch.refl _ _⟩
    case round =>
      obtain ⟨k, xs, hk, rfl, hxl, hO, hx64, hC⟩ := hrel
      have HX64 := Bx.mk hx64
      have HCC := Bx.mk hC
      by_cases hlt : k < N
      · have hcx := hO.cellAt (j := k) (by omega)
        have hfx := hO.frozenAt k
        have hx := hx64 k
        have hxx := xor_all _ hx
        have hst := hO.stored k (flip64 (xs.getD k 0))
        have hxn := set_64 (k := k) hx64 (flip_lt (xs.getD k 0))
        have hsl : (xs.set k (flip64 (xs.getD k 0))).length = N := by rw [set_len]; exact hxl
        generalize flip64 (xs.getD k 0) = y at *
        generalize xs.getD k 0 = x at *
        have HST := Bx.mk hst
        have HXN := Bx.mk hxn
        have HSL := Bx.mk hsl
        have HXX := Bx.mk hxx
        clear hx64 hC hO hst hxn hsl hxx
        go_wp2
        go_roundw
        case rel =>
          refine ⟨k + 1, xs.set k y, by omega, by go_num, HSL.out, ?_⟩
          rw [HXX.out]
          exact ⟨HST.out.1, HXN.out, HCC.out.trans HST.out.2 (fun _ _ h => h)⟩
        case measure => simp [intOf]; omega
      · obtain rfl : k = N := by omega
        have HC3 := Bx.mk (HC2.out.trans hC (fun i hi (e : i = g) => absurd hi (by omega)))
        clear hx64 hC hO
        go_wp2_with fail
        refine (known_any _).mono ?_
        rintro e w6 ⟨rfl, hC6⟩
        go_wp2
        go_ret
        exact ⟨rfl, HC3.out.trans hC6 (fun _ _ h => h)⟩
  · have H4 := Bx.mk h4
    have H5 := Bx.mk h5
    rw [HN.out] at H4
    clear HB h4 h5
    go_wp2_with fail
    refine (from_is ws wd b N _ c' _ _ HO.out.sn HN.out h1 h2 h3 H4.out H5.out H64.out).mono ?_
    rintro e w2 ⟨bv, bw, rfl, hbw, hbv, hr, hC2⟩
    have HR := Bx.mk hr
    have HC2 := Bx.mk (HC.out.trans hC2 (fun _ _ h => h))
    have HO2 := Bx.mk (HO.out.keep hC2)
    clear hr hC2
    go_wp2_with fail
    refine (ref_from_yes ws wd b N A c _ _ (HS.out.keep HC2.out) HN.out H64.out h1 h2 h3 H4.out H5.out).mono ?_
    rintro e w3 ⟨g3, l, hg3, hll, rfl, hO3, hp, hC3⟩
    have HR2 := Bx.mk (HR.out.keep hC3)
    have HLL := Bx.mk hll
    have HP := Bx.mk hp
    have HO3 := Bx.mk hO3
    have HG3 := Bx.mk hO3.lt
    have HO4 := Bx.mk (HO2.out.keep hC3)
    have HC3 := Bx.mk (HC2.out.trans hC3 (fun _ _ h => h))
    have HNE : Bx (g3 ≠ g) := ⟨by have := HGL.out; have := HR.out.lts.1; omega⟩
    clear hll hp hO3 hC3
    go_wp2
    go_loopw [12] (fun a wr => ∃ (k : Nat) (xs : List Nat), k ≤ N ∧ a = .int .i64 k ∧ xs.length = N ∧ Ow wr g c' xs ∧ (∀ j, xs.getD j 0 < 18446744073709551616) ∧ Ch (fun b => b = g) w3 wr) (fun a _ => N - (intOf a).toNat)
    case atStart => exact ⟨0, ws, Nat.zero_le _, rfl, HN.out, HO4.out, H64.out, Ch.refl _ _⟩
    case round =>
      obtain ⟨k, xs, hk, rfl, hxl, hO, hx64, hC⟩ := hrel
      have HX64 := Bx.mk hx64
      have HCC := Bx.mk hC
      by_cases hlt : k < N
      · have hcx := hO.cellAt (j := k) (by omega)
        have hfx := hO.frozenAt k
        have hx := hx64 k
        have hxx := xor_all _ hx
        have hst := hO.stored k (flip64 (xs.getD k 0))
        have hxn := set_64 (k := k) hx64 (flip_lt (xs.getD k 0))
        have hsl : (xs.set k (flip64 (xs.getD k 0))).length = N := by rw [set_len]; exact hxl
        generalize flip64 (xs.getD k 0) = y at *
        generalize xs.getD k 0 = x at *
        have HST := Bx.mk hst
        have HXN := Bx.mk hxn
        have HSL := Bx.mk hsl
        have HXX := Bx.mk hxx
        clear hx64 hC hO hst hxn hsl hxx
        go_wp2
        go_roundw
        case rel =>
          refine ⟨k + 1, xs.set k y, by omega, by go_num, HSL.out, ?_⟩
          rw [HXX.out]
          exact ⟨HST.out.1, HXN.out, HCC.out.trans HST.out.2 (fun _ _ h => h)⟩
        case measure => simp [intOf]; omega
      · obtain rfl : k = N := by omega
        have hgl := HGL.out
        have HC5 := Bx.mk (HC3.out.trans hC (fun i hi (e : i = g) => absurd hi (by omega)))
        have HR5 := Bx.mk (HR2.out.ch hC (by omega) (by omega))
        have HO5 := Bx.mk (HO3.out.ch hC HNE.out)
        have HS5 := Bx.mk (HS.out.keep HC5.out)
        clear hx64 hC hO hgl
        go_wp2_with fail
        refine (alike_is _ _ wd b ws l _ _ _ _ _ HR5.out HP.out HLL.out HO5.out.sn rfl).mono ?_
        rintro e w6 ⟨rfl, hC6⟩
        have HC6 := Bx.mk (HC5.out.trans hC6 (fun _ _ h => h))
        have HR6 := Bx.mk (HR5.out.keep hC6)
        clear hC6
        go_wp2_with fail
        refine (words_is _ _ _ _ _ _ _ HR6.out HN.out).mono ?_
        rintro e w7 ⟨g7, _, rfl, hO7, hC7⟩
        have HO7 := Bx.mk hO7
        have HC7 := Bx.mk (HC6.out.trans hC7 (fun _ _ h => h))
        clear hO7 hC7
        go_wp2_with fail
        refine (same_is ws _ _ _ _ _ _ _ _ HN.out (by omega) HO7.out.sn (HS.out.keep HC7.out)).mono ?_
        rintro e w8 ⟨rfl, m8, rfl⟩
        have HC8 := Bx.mk (HC7.out.drewN m8)
        go_wp2_with fail
        refine (known_any _).mono ?_
        rintro e w9 ⟨rfl, hC9⟩
        go_wp2
        go_ret
        exact ⟨rfl, HC8.out.trans hC9 (fun _ _ h => h)⟩
theorem from_law (ws : List Nat) (z n : Int) (A : Option Addr) (c : Nat) (w : World) (F : Nat → Prop) (hs : Sn w F A ws) (h64 : ∀ x ∈ ws, x < 18446744073709551616) :
    Calls Try.prog 5 #[.int .i64 z, .int .i64 n, .slice A ws.length c] w fun e w' => e = .returned (.bool true) ∧ Ch (fun _ => False) w w' := by
  by_cases h1 : 500 < n
  · clear hs h64
    go_enter Try.func5, Try.ntmps5
    go_wp2
    go_ret
    exact ⟨rfl, Ch.refl _ _⟩
  · by_cases h2 : 600 < ws.length
    · clear hs h64
      go_enter Try.func5, Try.ntmps5
      go_wp2
      go_ret
      exact ⟨rfl, Ch.refl _ _⟩
    · exact from_in ws z n A c w F hs (by omega) (by omega) h64
end Go.Proofs.Ytknmhhccemojiaa
