/-
  The walk of haystacklaw3.PackedSets: true, whatever the sizes and the steps. Conditions: none.
-/
import Derived.Test.YtknmhhccemojiaaPkFromLaw
import Derived.Test.YtknmhhccemojiaaPkOpen
import Derived.Deep.RegionHeld3
namespace Go.Proofs.Ytknmhhccemojiaa
open Go.RowKit Go.Oct Go.Pk

/-- A row behind Set, and what Set tells. -/
def setL (wd : Nat) (l : List Nat) (i : Int) (v : Nat) : List Nat := if 0 ≤ i ∧ i < l.length ∧ v < 2 ^ wd then l.set i.toNat v else l
def setE (wd : Nat) (l : List Nat) (i : Int) (v : Nat) : Int := if 0 ≤ i ∧ i < l.length ∧ v < 2 ^ wd then 0 else 1
theorem setL_len (wd : Nat) (l : List Nat) (i : Int) (v : Nat) : (setL wd l i v).length = l.length := by
  unfold setL
  split
  · rw [set_len]
  · rfl
theorem set_step (bv bw wd n : Nat) (ws l l' : List Nat) (i e0 : Int) (v : Nat) (w : World) (h : Raw w bv bw wd n ws) (hp : Pk ws wd l) (hl : l.length = n) (hL : setL wd l i v = l') (hE : setE wd l i v = e0) :
    Calls Try.prog 15 #[.pointer (some ⟨bv, 0, none⟩), .int .i64 i, .int .u64 v] w fun e w' => e = .returned (.int .i64 e0) ∧ (∃ ws', Raw w' bv bw wd n ws' ∧ Pk ws' wd l') ∧ Ch (fun k => k = bw) w w' := by
  subst hL hE
  by_cases h0 : 0 ≤ i ∧ i < l.length
  · obtain ⟨k, rfl⟩ : ∃ k : Nat, i = k := ⟨i.toNat, by omega⟩
    by_cases hv : v < 2 ^ wd
    · have e1 : setL wd l k v = l.set k v := by unfold setL; rw [if_pos ⟨h0.1, h0.2, hv⟩, Int.toNat_natCast]
      have e2 : setE wd l k v = 0 := by unfold setE; rw [if_pos ⟨h0.1, h0.2, hv⟩]
      rw [e1, e2]
      exact set_in bv bw wd n ws l k v w h hp hl (by omega) hv
    · have e1 : setL wd l k v = l := by unfold setL; rw [if_neg (fun h => hv h.2.2)]
      have e2 : setE wd l k v = 1 := by unfold setE; rw [if_neg (fun h => hv h.2.2)]
      rw [e1, e2]
      exact (set_big bv bw wd n ws k v w h (by omega) (by omega)).mono fun e w' ⟨h1, h2⟩ => ⟨h1, ⟨ws, by rw [← h2]; exact h, hp⟩, by rw [← h2]; exact Ch.refl _ _⟩
  · have e1 : setL wd l i v = l := by unfold setL; rw [if_neg (fun h => h0 ⟨h.1, h.2.1⟩)]
    have e2 : setE wd l i v = 1 := by unfold setE; rw [if_neg (fun h => h0 ⟨h.1, h.2.1⟩)]
    rw [e1, e2]
    exact (set_out bv bw wd n ws i v w h (by omega)).mono fun e w' ⟨h1, h2⟩ => ⟨h1, ⟨ws, by rw [← h2]; exact h, hp⟩, by rw [← h2]; exact Ch.refl _ _⟩
theorem ref_set_step (wd g n c : Nat) (l l' : List Nat) (i e0 : Int) (v : Nat) (w : World) (h : Ow w g c l) (hl : l.length = n) (hw : wd ≤ 64) (hv64 : v < 18446744073709551616) (hL : setL wd l i v = l') (hE : setE wd l i v = e0) :
    Calls Try.prog 16 #[.int .i64 wd, .slice (some ⟨g, 0, none⟩) n c, .int .i64 i, .int .u64 v] w fun e w' => e = .returned (.int .i64 e0) ∧ Ow w' g c l' ∧ Ch (fun k => k = g) w w' := by
  subst hL hE hl
  by_cases h0 : 0 ≤ i ∧ i < l.length
  · obtain ⟨k, rfl⟩ : ∃ k : Nat, i = k := ⟨i.toNat, by omega⟩
    by_cases hv : v < 2 ^ wd
    · have e1 : setL wd l k v = l.set k v := by unfold setL; rw [if_pos ⟨h0.1, h0.2, hv⟩, Int.toNat_natCast]
      have e2 : setE wd l k v = 0 := by unfold setE; rw [if_pos ⟨h0.1, h0.2, hv⟩]
      rw [e1, e2]
      exact ref_set_in wd g c l k v w h (by omega) hw hv64 hv
    · have e1 : setL wd l k v = l := by unfold setL; rw [if_neg (fun h => hv h.2.2)]
      have e2 : setE wd l k v = 1 := by unfold setE; rw [if_neg (fun h => hv h.2.2)]
      rw [e1, e2]
      exact (ref_set_big wd _ l.length c k v w (by omega) hw hv64 (by omega)).mono fun e w' ⟨h1, h2⟩ => ⟨h1, by rw [← h2]; exact h, by rw [← h2]; exact Ch.refl _ _⟩
  · have e1 : setL wd l i v = l := by unfold setL; rw [if_neg (fun h => h0 ⟨h.1, h.2.1⟩)]
    have e2 : setE wd l i v = 1 := by unfold setE; rw [if_neg (fun h => h0 ⟨h.1, h.2.1⟩)]
    rw [e1, e2]
    exact (ref_set_out wd _ l.length c i v w (by omega)).mono fun e w' ⟨h1, h2⟩ => ⟨h1, by rw [← h2]; exact h, by rw [← h2]; exact Ch.refl _ _⟩
theorem stp_low {w : World} {F : Nat → Prop} {A : Option Addr} {n : Nat} {ss : List (Int × Nat)} (h : Stp w F A n ss) : Stp w (fun b => b < w.heap.size) A n ss :=
  ⟨h.len, fun hn => by
    obtain ⟨b, off, e, _, hj⟩ := h.at_ hn
    refine ⟨b, off, e, ?_, hj⟩
    have hl : 0 < ss.length := by rw [h.len]; exact hn
    exact lt_of_cell (hj 0 _ (List.getElem?_eq_getElem hl)).1⟩
theorem new_is (wd n : Nat) (w : World) (h1 : 1 ≤ wd) (h2 : wd ≤ 64) (hn : n ≤ 1048576) :
    Calls Try.prog 13 #[.int .i64 wd, .int .i64 n] w fun e w' => ∃ (bv bw : Nat) (ws : List Nat), e = .returned (.tuple #[.pointer (some ⟨bv, 0, none⟩), .int .i64 0]) ∧ w.heap.size ≤ bw ∧ w.heap.size ≤ bv ∧ Raw w' bv bw wd n ws ∧ Pk ws wd (List.replicate n 0) ∧ Ch (fun _ => False) w w' :=
  (new_ok wd n w h1 h2 hn).mono fun _ _ ⟨g1, ⟨ws, g2, g3⟩, g4⟩ => ⟨_, _, ws, g1, Nat.le_refl _, Nat.le_succ _, g2, g3, g4⟩
theorem ref_new_is (wd n : Nat) (w : World) (h1 : 1 ≤ wd) (h2 : wd ≤ 64) (hn : n ≤ 1048576) :
    Calls Try.prog 14 #[.int .i64 wd, .int .i64 n] w fun e w' => ∃ g : Nat, w.heap.size ≤ g ∧ e = .returned (.tuple #[.slice (some ⟨g, 0, none⟩) n n, .int .i64 0]) ∧ Ow w' g n (List.replicate n 0) ∧ Ch (fun _ => False) w w' :=
  (ref_new_ok wd n w h1 h2 hn).mono fun _ _ ⟨g1, g2, g3⟩ => ⟨_, Nat.le_refl _, g1, g2, g3⟩

set_option maxHeartbeats 1000000 in
theorem sets_bad (z n e0 : Int) (A : Option Addr) (m c : Nat) (w : World) (hn : n ≤ 500) (hm : m ≤ 200) (hb : chk z n = e0) (h0 : e0 ≠ 0) :
    Calls Try.prog 4 #[.int .i64 z, .int .i64 n, .slice A m c] w fun e w' => e = .returned (.bool true) ∧ Ch (fun _ => False) w w' := by
  have HB := Bx.mk hb
  have H0 := Bx.mk h0
  have hb1 : (e0 != e0) = false := by simp
  have hb2 : (e0 != 0) = true := by simpa using h0
  clear hb h0
  go_enter Try.func4, Try.ntmps4
  go_wp2_with fail
  refine (new_bad z n e0 _ HB.out H0.out).mono ?_
  rintro e w' ⟨rfl, rfl⟩
  go_wp2_with fail
  refine (ref_new_bad z n e0 _ HB.out H0.out).mono ?_
  rintro e w' ⟨rfl, rfl⟩
  go_wp2_with fail
  refine (known_any _).mono ?_
  rintro e w6 ⟨rfl, hC6⟩
  go_wp2
  go_ret
  exact ⟨rfl, hC6⟩

set_option maxHeartbeats 4000000 in
theorem sets_in (wd n : Nat) (ss : List (Int × Nat)) (A : Option Addr) (m c : Nat) (w : World) (F : Nat → Prop) (hs : Stp w F A m ss) (hn : n ≤ 500) (hm : m ≤ 200) (h1 : 1 ≤ wd) (h2 : wd ≤ 64)
    (hss : ∀ s ∈ ss, (-9223372036854775808 ≤ s.1 ∧ s.1 ≤ 9223372036854775807) ∧ s.2 < 18446744073709551616) :
    Calls Try.prog 4 #[.int .i64 wd, .int .i64 n, .slice A m c] w fun e w' => e = .returned (.bool true) ∧ Ch (fun _ => False) w w' := by
  have HS := Bx.mk (stp_low hs)
  have HSS := Bx.mk hss
  have HML := Bx.mk hs.len
  clear hs hss
  go_enter Try.func4, Try.ntmps4
  go_wp2_with fail
  refine (new_is wd n _ h1 h2 (by omega)).mono ?_
  rintro e w1 ⟨bv, bw, ws0, rfl, hbw, hbv, hr, hp, hC⟩
  have HR := Bx.mk hr
  have HP := Bx.mk hp
  have HC := Bx.mk hC
  have HLT := Bx.mk hr.lts
  have HNE := Bx.mk hr.ne
  clear hr hp hC
  go_wp2_with fail
  refine (ref_new_is wd n _ h1 h2 (by omega)).mono ?_
  rintro e w2 ⟨g, hg, rfl, hO, hC2⟩
  have HO := Bx.mk hO
  have HR2 := Bx.mk (HR.out.keep hC2)
  have HC2 := Bx.mk (HC.out.trans hC2 (fun _ _ h => h))
  have hgb : bw < g ∧ bv < g := by have := HLT.out; omega
  have hgw : w.heap.size ≤ g := by omega
  clear hO hC2
  go_wp2
  go_loopw [11, 12, 13] (fun a _ _ wr => ∃ (k : Nat) (l ws : List Nat), k ≤ m ∧ a = .int .i64 k ∧ l.length = n ∧ Raw wr bv bw wd n ws ∧ Pk ws wd l ∧ Ow wr g n l ∧ Ch (fun _ => False) w wr) (fun a _ _ _ => m - (intOf a).toNat)
  case atStart => exact ⟨0, _, ws0, Nat.zero_le _, rfl, List.length_replicate, HR2.out, HP.out, HO.out, HC2.out⟩
  case round =>
    obtain ⟨k, l, ws, hk, rfl, hll, hr, hp, hO, hC⟩ := hrel
    have HLL := Bx.mk hll
    have HRR := Bx.mk hr
    have HPP := Bx.mk hp
    have HOO := Bx.mk hO
    have HCC := Bx.mk hC
    clear hll hr hp hO hC
    by_cases hlt : k < m
    · obtain ⟨wo, rfl⟩ : ∃ wo : World, wo = wr := ⟨_, rfl⟩
      obtain ⟨b, off, rfl, hbl, hj⟩ := (HS.out.ch HCC.out (fun _ _ _ h => h)).at_ (by omega)
      obtain ⟨⟨i, v⟩, hsk⟩ : ∃ s, ss[k]? = some s := ⟨_, List.getElem?_eq_getElem (by rw [HML.out]; exact hlt)⟩
      obtain ⟨hci, hcv⟩ := hj k _ hsk
      obtain ⟨⟨hi1, hi2⟩, hv⟩ := HSS.out _ (List.mem_of_getElem? hsk)
      simp only at hci hcv hi1 hi2 hv
      obtain ⟨l', hL⟩ : ∃ l', setL wd l i v = l' := ⟨_, rfl⟩
      obtain ⟨e0, hE⟩ : ∃ e0, setE wd l i v = e0 := ⟨_, rfl⟩
      have hll' : l'.length = n := by rw [← hL, setL_len]; exact HLL.out
      have HL := Bx.mk hL
      have HE := Bx.mk hE
      have HLL' := Bx.mk hll'
      have hb1 : (e0 != e0) = false := by simp
      have i0 : (0 : Int) ≤ (k : Int) := by omega
      have i1 : (k : Int) < (m : Int) := by omega
      clear hj hsk hL hE hll'
      have hbb : b ≠ bw ∧ b ≠ g := by omega
      go_wp2_with fail
      go_region_held3 (fun w' => w'.cell? ⟨b, off + k * 2, none⟩ = some (.int .i64 i) ∧ w'.cell? ⟨b, off + k * 2 + 1, none⟩ = some (.int .u64 v)) (first | go_keep | exact s2 | exact s1 | exact ⟨hci, hcv⟩) (first | (go_at_call 15; refine (set_step bv bw wd n ws l l' i e0 v _ (by exact HRR.out.drewN 1) HPP.out HLL.out HL.out HE.out).mono ?_; rintro e w4 ⟨rfl, ⟨ws4, hr4, hp4⟩, hc4⟩; have s1 : w4.cell? ⟨b, off + k * 2, none⟩ = some (.int .i64 i) ∧ w4.cell? ⟨b, off + k * 2 + 1, none⟩ = some (.int .u64 v) := ⟨Ch.cell (p := ⟨b, off + k * 2, none⟩) hc4 (fun h => hbb.1 h) hci, Ch.cell (p := ⟨b, off + k * 2 + 1, none⟩) hc4 (fun h => hbb.1 h) hcv⟩; have hO4 : Ow w4 g n l := Ow.ch (show Ow wo.drew g n l from HOO.out.drewN 1) hc4 (fun h => by have h' : g = bw := h; omega)) | (go_at_call 16; refine (ref_set_step wd g n n l l' i e0 v _ hO4 HLL.out h2 hv HL.out HE.out).mono ?_; rintro e w5 ⟨rfl, hO5, hc5⟩; have s2 : w5.cell? ⟨b, off + k * 2, none⟩ = some (.int .i64 i) ∧ w5.cell? ⟨b, off + k * 2 + 1, none⟩ = some (.int .u64 v) := ⟨Ch.cell (p := ⟨b, off + k * 2, none⟩) hc5 (fun h => hbb.2 h) s1.1, Ch.cell (p := ⟨b, off + k * 2 + 1, none⟩) hc5 (fun h => hbb.2 h) s1.2⟩))
      all_goals
        have hR5 : Raw w5 bv bw wd n ws4 := hr4.ch hc5 (fun h => by have h' : bv = g := h; omega) (fun h => by have h' : bw = g := h; omega)
        have hC5 : Ch (fun _ => False) w w5 := (HCC.out.drew.trans hc4 (fun i hi h => by have h' : i = bw := h; omega)).trans hc5 (fun i hi h => by have h' : i = g := h; omega)
        obtain ⟨N, hN⟩ : ∃ N, ws4.length = N := ⟨_, rfl⟩
        have hN20 := hR5.words_short
        rw [hN] at hN20
        have HN := Bx.mk hN
        have HR5 := Bx.mk hR5
        have HP5 := Bx.mk hp4
        have HO5 := Bx.mk hO5
        have HC5 := Bx.mk hC5
        have HL5 := Bx.mk hR5.lts
        have HG5 := Bx.mk hO5.lt
        clear hc4 hr4 hp4 s1 hO4 hO5 hc5 s2 hR5 hC5 hN
        go_wp2_with fail
        refine (words_is _ _ wd _ N _ _ HR5.out HN.out).mono ?_
        rintro e w6 ⟨g6, hg6, rfl, hO6, hC6⟩
        have HR6 := Bx.mk (HR5.out.keep hC6)
        have HOG6 := Bx.mk (HO5.out.keep hC6)
        have HC6 := Bx.mk (HC5.out.trans hC6 (fun _ _ h => h))
        have HO6 := Bx.mk hO6
        have hg6b : bv < g6 ∧ bw < g6 ∧ g < g6 := by have := HL5.out; have := HG5.out; omega
        clear hO6 hC6
        go_wp2
        go_loopw [13] (fun a wr => ∃ (j : Nat) (xs : List Nat), j ≤ N ∧ a = .int .i64 j ∧ xs.length = N ∧ Ow wr g6 N xs ∧ (∀ q, xs.getD q 0 < 18446744073709551616) ∧ Ch (fun b => b = g6) w6 wr) (fun a _ => N - (intOf a).toNat)
        case atStart => exact ⟨0, ws4, Nat.zero_le _, rfl, HN.out, HO6.out, HP5.out.lt, Ch.refl _ _⟩
        case round =>
          obtain ⟨j, xs, hj, rfl, hxl, hO, hx64, hC⟩ := hrel
          have HX64 := Bx.mk hx64
          have HCR := Bx.mk hC
          by_cases hjt : j < N
          · have hcx := hO.cellAt (j := j) (by omega)
            have hfx := hO.frozenAt j
            have hx := hx64 j
            have hxx := xor_all _ hx
            have hst := hO.stored j (flip64 (xs.getD j 0))
            have hxn := set_64 (k := j) hx64 (flip_lt (xs.getD j 0))
            have hsl : (xs.set j (flip64 (xs.getD j 0))).length = N := by rw [set_len]; exact hxl
            generalize flip64 (xs.getD j 0) = y at *
            generalize xs.getD j 0 = x at *
            have HST := Bx.mk hst
            have HXN := Bx.mk hxn
            have HSL := Bx.mk hsl
            have HXX := Bx.mk hxx
            clear hx64 hC hO hst hxn hsl hxx
            go_wp2
            go_roundw
            case rel =>
              refine ⟨j + 1, xs.set j y, by omega, by go_num, HSL.out, ?_⟩
              rw [HXX.out]
              exact ⟨HST.out.1, HXN.out, HCR.out.trans HST.out.2 (fun _ _ h => h)⟩
            case measure => simp [intOf]; omega
          · obtain rfl : j = N := by omega
            have HR7 := Bx.mk (HR6.out.ch hC (fun h => by have h' : bv = g6 := h; omega) (fun h => by have h' : bw = g6 := h; omega))
            have HO7 := Bx.mk (HOG6.out.ch hC (fun h => by have h' : g = g6 := h; omega))
            have HC7 := Bx.mk (HC6.out.trans hC (fun i hi h => by have h' : i = g6 := h; omega))
            clear hx64 hC hO
            go_wp2
            go_roundw
            case rel => exact ⟨k + 1, l', ws4, by omega, by go_num, HLL'.out, HR7.out, HP5.out, HO7.out, HC7.out⟩
            case measure => simp [intOf]; omega
    · obtain rfl : k = m := by omega
      go_wp2_with fail
      refine (alike_is _ _ wd n ws l _ _ _ _ _ HRR.out HPP.out HLL.out HOO.out.sn rfl).mono ?_
      rintro e w5 ⟨rfl, hC5⟩
      have HC5 := Bx.mk (HCC.out.trans hC5 (fun _ _ h => h))
      clear hC5
      go_wp2_with fail
      refine (known_any _).mono ?_
      rintro e w6 ⟨rfl, hC6⟩
      go_wp2
      go_ret
      exact ⟨rfl, HC5.out.trans hC6 (fun _ _ h => h)⟩
theorem sets_law (z n : Int) (ss : List (Int × Nat)) (A : Option Addr) (m c : Nat) (w : World) (F : Nat → Prop) (hs : Stp w F A m ss)
    (hss : ∀ s ∈ ss, (-9223372036854775808 ≤ s.1 ∧ s.1 ≤ 9223372036854775807) ∧ s.2 < 18446744073709551616) :
    Calls Try.prog 4 #[.int .i64 z, .int .i64 n, .slice A m c] w fun e w' => e = .returned (.bool true) ∧ Ch (fun _ => False) w w' := by
  by_cases h1 : 500 < n
  · clear hs hss
    go_enter Try.func4, Try.ntmps4
    go_wp2
    go_ret
    exact ⟨rfl, Ch.refl _ _⟩
  · by_cases h2 : 200 < m
    · clear hs hss
      go_enter Try.func4, Try.ntmps4
      go_wp2
      go_ret
      exact ⟨rfl, Ch.refl _ _⟩
    · by_cases h3 : chk z n = 0
      · obtain ⟨a, b, rfl, rfl, g1, g2, g3⟩ := chk_ok h3
        exact sets_in a b ss A m c w F hs (by omega) (by omega) g1 g2 hss
      · exact sets_bad z n _ A m c w (by omega) (by omega) rfl h3
end Go.Proofs.Ytknmhhccemojiaa
