/- Lemmas and contracts of this proof. Conditions: said at each. -/
import Derived.Test.YtbkakhfepiooaaaGreatDoorQGOcSame
namespace Go.Proofs.YtbkakhfepiooaaaGreatDoor.O
section
open Go.RowKit Go.Oct
theorem u8_and127 (x : Nat) (hx : x < 256) : bits .and .u8 (x : Int) 127 = ((x % 128 : Nat) : Int) := by
  have : ∀ x : Fin 256, bits .and .u8 ((x.val : Nat) : Int) 127 = ((x.val % 128 : Nat) : Int) := by decide +kernel
  exact this ⟨x, hx⟩
theorem u64_digit {m q k : Nat} (hm : m < 128 ^ k) (hk : k ≤ 9) (hq : q * 128 ^ k < 18446744073709551616) : bits .or .u64 (m : Int) (IntKind.u64.wrap ((q : Int) * 2 ^ (7 * k))) = ((m + q * 128 ^ k : Nat) : Int) := by
  have e : (q : Int) * 2 ^ (7 * k) = ((q * 128 ^ k : Nat) : Int) := by
    rw [pow_cast]
    simp
  have e2 : IntKind.u64.wrap ((q * 128 ^ k : Nat) : Int) = ((q * 128 ^ k : Nat) : Int) := by
    rw [IntKind.wrap_u64]
    omega
  have h9 : 128 ^ k ≤ 9223372036854775808 := by
    have h : 128 ^ k ≤ 128 ^ 9 := Nat.pow_le_pow_right (by omega) hk
    have e9 : 128 ^ 9 = 9223372036854775808 := by decide
    omega
  have hor : m ||| q * 128 ^ k = m + q * 128 ^ k := by
    have e7 : (128 : Nat) ^ k = 2 ^ (7 * k) := by rw [Nat.pow_mul]
    have h := Nat.two_pow_add_eq_or_of_lt (i := 7 * k) (b := m) (by rw [← e7]; exact hm) q
    rw [← e7] at h
    rw [Nat.or_comm, Nat.mul_comm q, ← h, Nat.add_comm]
  rw [e, e2]
  show IntKind.u64.wrap ((BitVec.ofInt 64 (m : Int) ||| BitVec.ofInt 64 ((q * 128 ^ k : Nat) : Int)).toNat : Int) = _
  rw [BitVec.toNat_or, ofInt_u64 m (by omega), ofInt_u64 _ hq, hor, IntKind.wrap_u64]
  have hlt : m + q * 128 ^ k < 18446744073709551616 := by
    rw [← hor]
    exact Nat.or_lt_two_pow (n := 64) (by omega) hq
  omega
section
variable {Q : Nat → Prop}
/-- What Num leaves. -/
def RfPost (Q : Nat → Prop) (w : World) (bf : Nat) (xs : List Int) (e : Ending) (w' : World) : Prop :=
  match takeN 0 0 xs with
  | none => e = .returned (.int .i64 0) ∧ Rf Q w' bf true [] ∧ Ch (RS bf) w w'
  | some (m, r) => e = .returned (.int .i64 m) ∧ Rf Q w' bf false r ∧ Ch (RS bf) w w'
theorem RfPost.none_ {w w' : World} {bf : Nat} {xs : List Int} (h : takeN 0 0 xs = none) (h1 : Rf Q w' bf true []) (h2 : Ch (RS bf) w w') : RfPost Q w bf xs (.returned (.int .i64 0)) w' := by
  unfold RfPost
  rw [h]
  exact ⟨rfl, h1, h2⟩
theorem RfPost.some_ {w w' : World} {bf m : Nat} {xs r : List Int} (h : takeN 0 0 xs = some (m, r)) (h1 : Rf Q w' bf false r) (h2 : Ch (RS bf) w w') : RfPost Q w bf xs (.returned (.int .i64 m)) w' := by
  unfold RfPost
  rw [h]
  exact ⟨rfl, h1, h2⟩
theorem rf_cell {w : World} {bf : Nat} {bad : Bool} {xs : List Int} (h : Rf Q w bf bad xs) : w.cell? ⟨bf, 1, none⟩ = some (.bool bad) := by
  obtain ⟨_, _, _, hb, _⟩ := h
  exact (rd_cells hb).2.1
set_option maxHeartbeats 2000000 in
set_option maxRecDepth 100000 in
theorem rfnum_good (bf : Nat) (xs : List Int) (w : World) (hr : Rf Q w bf false xs) (hm : xs.length ≤ 100000000000000) (hby : Byt xs) :
    Calls Tryz.prog 159 #[.pointer (some ⟨bf, 0, none⟩)] w (RfPost Q w bf xs) := by
  have HB := Lib.hid hby
  clear hby
  go_enter Tryz.func159, Tryz.ntmps159
  go_wp2
  go_loopw [3, 4] (fun u i wr => ∃ k m : Nat, k ≤ 9 ∧ k ≤ xs.length ∧ i = .int .i64 k ∧ u = .int .u64 m ∧ m < 128 ^ k ∧ takeN 0 0 xs = takeN k m (xs.drop k) ∧ Rf Q wr bf false (xs.drop k) ∧ Ch (RS bf) w wr) (fun _ i _ => 10 - (intOf i).toNat)
  case atStart => exact ⟨0, 0, by omega, by omega, rfl, rfl, by omega, by simp, by simpa using hr, Ch.refl _ _⟩
  case round =>
    obtain ⟨k, m, hk, hkn, rfl, rfl, hm1, htk, hrf, hch⟩ := hrel
    have HM := Lib.hid hm1
    have HT := Lib.hid htk
    have HRF := Lib.hid hrf
    have HCH := Lib.hid hch
    clear hm1 htk hrf hch
    by_cases hlt : k < xs.length
    · have hrw := rfraw_yes bf (xs.drop k) 1 wr HRF.out (by rw [List.length_drop]; omega) (by rw [List.length_drop]; omega)
      have ex : xs[k]? = some xs[k] := List.getElem?_eq_getElem hlt
      have hx := HB.out.at_ ex
      obtain ⟨x, hxx⟩ := Int.cast_of hx.1
      rw [hxx] at ex hx
      rw [List.drop_eq_getElem_cons hlt, hxx] at hrw
      simp only [List.take_succ_cons, List.take_zero, List.drop_succ_cons, List.drop_zero] at hrw
      have HRW := Lib.hid hrw
      have EX := Lib.hid ex
      clear hrw ex hxx
      obtain ⟨wo, rfl⟩ : ∃ wo : World, wo = wr := ⟨_, rfl⟩
      go_wp2_with fail
      refine HRW.out.mono ?_
      rintro e w1 ⟨v1, rfl, hrow, hrf1, hc1⟩
      clear HRW
      obtain ⟨A1, c1, rfl, _, _⟩ := own_shape hrow.1
      obtain ⟨b1, off1, x1, rfl, _, ex1, hcell⟩ := (Sl.of_own hrow.1).at_ (k := 0) (by simp)
      obtain rfl : x1 = (x : Int) := by have := ex1.out; simpa using this.symm
      have hE := rf_cell hrf1
      rw [Nat.add_zero] at hcell
      have hch1 := HCH.out.trans hc1 fun _ _ h => h
      have HRF1 := Lib.hid hrf1
      have HCH1 := Lib.hid hch1
      clear hrow hrf1 hc1 hch1 ex1
      obtain ⟨q, eq⟩ : ∃ q, q = x % 128 := ⟨_, rfl⟩
      have hq : q < 128 := by omega
      have hand : bits .and .u8 (x : Int) 127 = (q : Int) := by rw [eq]; exact u8_and127 x (by omega)
      have EQ := Lib.hid eq
      clear eq
      by_cases h9 : k = 9
      · have hb9 : ((k : Int) == 9) = true := by rw [beq_iff_eq]; omega
        have hN : takeN 0 0 xs = none := by
          rw [HT.out, h9]
          exact takeN_nine _ _
        have hk0 : 0 < k := by omega
        have H9 := Lib.hid h9
        have HN := Lib.hid hN
        clear hN h9
        have hcase : 127 < x ∨ (1 < x ∧ x ≤ 127) ∨ x = 0 ∨ x = 1 := by omega
        rcases hcase with h | ⟨h, h'⟩ | h | h
        · go_wp2_with fail
          refine (rfbad_any bf false _ w1 HRF1.out).mono ?_
          rintro e w2 ⟨rfl, g1, g2⟩
          go_wp2
          go_ret
          exact RfPost.none_ HN.out g1 (HCH1.out.trans g2 fun _ _ h => h)
        · go_wp2_with fail
          refine (rfbad_any bf false _ w1 HRF1.out).mono ?_
          rintro e w2 ⟨rfl, g1, g2⟩
          go_wp2
          go_ret
          exact RfPost.none_ HN.out g1 (HCH1.out.trans g2 fun _ _ h => h)
        · have hxb : ((x : Int) == 0) = true := by rw [beq_iff_eq]; omega
          have h1 : ¬ 127 < x := by omega
          have h2 : ¬ 1 < x := by omega
          clear h
          go_wp2_with fail
          refine (rfbad_any bf false _ w1 HRF1.out).mono ?_
          rintro e w2 ⟨rfl, g1, g2⟩
          go_wp2
          go_ret
          exact RfPost.none_ HN.out g1 (HCH1.out.trans g2 fun _ _ h => h)
        · have hxb : ((x : Int) == 0) = false := by rw [beq_eq_false_iff_ne]; omega
          have h1 : ¬ 127 < x := by omega
          have h2 : ¬ 1 < x := by omega
          have hq1 : q = 1 := by rw [EQ.out, h]
          have hp9 : q * 128 ^ k = 9223372036854775808 := by rw [hq1, H9.out]
          obtain ⟨s, es⟩ : ∃ s, s = m + q * 128 ^ k := ⟨_, rfl⟩
          have hwr : bits .or .u64 (m : Int) (IntKind.u64.wrap ((q : Int) * 2 ^ (7 * k))) = (s : Int) := by rw [es]; exact u64_digit HM.out hk (by omega)
          have htop : 4611686018427387904 < s := by omega
          clear h hq1 hp9 es
          go_wp2_with fail
          refine (rfbad_any bf false _ w1 HRF1.out).mono ?_
          rintro e w2 ⟨rfl, g1, g2⟩
          go_wp2
          go_ret
          exact RfPost.none_ HN.out g1 (HCH1.out.trans g2 fun _ _ h => h)
      · have hb9 : ((k : Int) == 9) = false := by rw [beq_eq_false_iff_ne]; omega
        obtain ⟨s, es⟩ : ∃ s, s = m + x % 128 * 128 ^ k := ⟨_, rfl⟩
        have hp8 := pow_le8 (show k ≤ 8 by omega)
        have hqp : q * 128 ^ k < 18446744073709551616 := by
          have : q * 128 ^ k ≤ 127 * 72057594037927936 := Nat.mul_le_mul (by omega) hp8
          omega
        have hwr : bits .or .u64 (m : Int) (IntKind.u64.wrap ((q : Int) * 2 ^ (7 * k))) = (s : Int) := by rw [es, ← EQ.out]; exact u64_digit HM.out hk hqp
        have hs1 : s < 128 ^ (k + 1) := by rw [es]; exact digit_lt HM.out
        have HS1 := Lib.hid hs1
        have ES := Lib.hid es
        clear hs1 es hp8 hqp
        by_cases hbig : 128 ≤ x
        · have hT : takeN 0 0 xs = takeN (k + 1) s (xs.drop (k + 1)) := by rw [HT.out, takeN_more EX.out h9 hbig, ES.out]
          have HT2 := Lib.hid hT
          have h1 : 127 < x := by omega
          clear hT
          go_wp2
          exact ⟨⟨k + 1, s, by omega, by omega, by go_num, rfl, HS1.out, HT2.out, HRF1.out, HCH1.out⟩, by simp [intOf]; omega⟩
        · have hbig' : x < 128 := by omega
          have h1 : ¬ 127 < x := by omega
          clear hbig
          by_cases hz : x = 0 ∧ 0 < k
          · obtain ⟨hx0, hk0⟩ := hz
            have hN : takeN 0 0 xs = none := by
              rw [HT.out]
              exact takeN_bad EX.out hbig' (.inr ⟨hx0, hk0⟩)
            have hxb : ((x : Int) == 0) = true := by rw [beq_iff_eq]; omega
            have HN := Lib.hid hN
            clear hN hx0
            go_wp2_with fail
            refine (rfbad_any bf false _ w1 HRF1.out).mono ?_
            rintro e w2 ⟨rfl, g1, g2⟩
            go_wp2
            go_ret
            exact RfPost.none_ HN.out g1 (HCH1.out.trans g2 fun _ _ h => h)
          · by_cases htop : 4611686018427387904 < s
            · have hN : takeN 0 0 xs = none := by
                rw [HT.out]
                exact takeN_bad EX.out hbig' (.inl (by rw [← ES.out, top62_eq]; exact htop))
              have HN := Lib.hid hN
              clear hN
              by_cases hk0 : 0 < k
              · have hxb : ((x : Int) == 0) = false := by rw [beq_eq_false_iff_ne]; omega
                clear hz
                go_wp2_with fail
                refine (rfbad_any bf false _ w1 HRF1.out).mono ?_
                rintro e w2 ⟨rfl, g1, g2⟩
                go_wp2
                go_ret
                exact RfPost.none_ HN.out g1 (HCH1.out.trans g2 fun _ _ h => h)
              · clear hz
                go_wp2_with fail
                refine (rfbad_any bf false _ w1 HRF1.out).mono ?_
                rintro e w2 ⟨rfl, g1, g2⟩
                go_wp2
                go_ret
                exact RfPost.none_ HN.out g1 (HCH1.out.trans g2 fun _ _ h => h)
            · have hS : takeN 0 0 xs = some (s, xs.drop (k + 1)) := by
                rw [HT.out, takeN_done EX.out h9 hbig' (by rw [← ES.out, top62_eq]; omega) (fun h => by omega), ← ES.out]
              have HS := Lib.hid hS
              clear hS
              by_cases hk0 : 0 < k
              · have hxb : ((x : Int) == 0) = false := by rw [beq_eq_false_iff_ne]; omega
                clear hz
                go_wp2
                go_ret
                exact RfPost.some_ HS.out HRF1.out HCH1.out
              · clear hz
                go_wp2
                go_ret
                exact RfPost.some_ HS.out HRF1.out HCH1.out
    · obtain rfl : k = xs.length := by omega
      have hN : takeN 0 0 xs = none := by
        rw [HT.out, List.drop_of_length_le (Nat.le_refl _)]
        rfl
      have HN := Lib.hid hN
      have hno := rfraw_no bf false _ 1 wr HRF.out (.inr (by rw [List.length_drop]; omega))
      have HNO := Lib.hid hno
      clear hN hno
      go_wp2_with fail
      refine HNO.out.mono ?_
      rintro e w1 ⟨rfl, g1, g2⟩
      have hE := rf_cell g1
      have G1 := Lib.hid g1
      have G2 := Lib.hid g2
      clear g1 g2 HNO
      go_wp2
      go_ret
      exact RfPost.none_ HN.out G1.out (HCH.out.trans G2.out fun _ _ h => h)
theorem Rf.byt {w : World} {bf : Nat} {bad : Bool} {xs : List Int} (h : Rf Q w bf bad xs) : Byt xs := by
  obtain ⟨A, n, c, _, _, _, _, hb, _⟩ := h
  exact hb
set_option maxHeartbeats 400000 in
theorem rfnum_any (bf : Nat) (bad : Bool) (xs : List Int) (w : World) (hr : Rf Q w bf bad xs) (hm : xs.length ≤ 100000000000000) :
    Calls Tryz.prog 159 #[.pointer (some ⟨bf, 0, none⟩)] w (RfPost Q w bf xs) := by
  cases bad
  · exact rfnum_good bf xs w hr hm hr.byt
  · obtain rfl := hr.nil_
    have hno := rfraw_no bf true [] 1 w hr (.inr (by simp))
    have HNO := Lib.hid hno
    clear hno hr
    go_enter Tryz.func159, Tryz.ntmps159
    go_wp2
    refine wp_loop_rounds 1 ?_
    rw [rounds_succ]
    go_wp2_with fail
    refine HNO.out.mono ?_
    rintro e w1 ⟨rfl, g1, g2⟩
    have hE := rf_cell g1
    have G1 := Lib.hid g1
    have G2 := Lib.hid g2
    clear g1 g2 HNO
    go_wp2
    go_ret
    exact RfPost.none_ rfl G1.out G2.out
/-- What Bytes leaves. -/
def RfRow (Q : Nat → Prop) (w : World) (bf : Nat) (xs : List Int) (e : Ending) (w' : World) : Prop :=
  match takeN 0 0 xs with
  | none => e = .returned (.slice none 0 0) ∧ Rf Q w' bf true [] ∧ Ch (RS bf) w w'
  | some (m, r) => if r.length < m then e = .returned (.slice none 0 0) ∧ Rf Q w' bf true [] ∧ Ch (RS bf) w w'
    else ∃ v, e = .returned v ∧ Row w v (r.take m) w' ∧ Rf Q w' bf false (r.drop m) ∧ Ch (RS bf) w w'
set_option maxHeartbeats 400000 in
theorem rfbytes_any (bf : Nat) (bad : Bool) (xs : List Int) (w : World) (hr : Rf Q w bf bad xs) (hm : xs.length ≤ 100000000000000) :
    Calls Tryz.prog 224 #[.pointer (some ⟨bf, 0, none⟩)] w (RfRow Q w bf xs) := by
  have hnum := rfnum_any bf bad xs w hr hm
  have HNUM := Lib.hid hnum
  clear hnum hr
  go_enter Tryz.func224, Tryz.ntmps224
  go_wp2_with fail
  refine HNUM.out.mono ?_
  intro e w1 h1
  clear HNUM
  unfold RfPost at h1
  cases ht : takeN 0 0 xs with
  | none =>
    have HT := Lib.hid ht
    rw [ht] at h1
    obtain ⟨rfl, g1, g2⟩ := h1
    have hE := rf_cell g1
    have G1 := Lib.hid g1
    have G2 := Lib.hid g2
    clear g1 g2 ht
    go_wp2
    go_ret
    unfold RfRow
    rw [HT.out]
    exact ⟨rfl, G1.out, G2.out⟩
  | some y =>
    obtain ⟨m, r⟩ := y
    have hlr := takeN_len _ _ _ _ _ ht
    have HT := Lib.hid ht
    rw [ht] at h1
    obtain ⟨rfl, g1, g2⟩ := h1
    have hE := rf_cell g1
    have G1 := Lib.hid g1
    have G2 := Lib.hid g2
    clear g1 g2 ht
    by_cases hbig : r.length < m
    · go_wp2_with fail
      refine (rfraw_no bf false r m _ G1.out (.inr (by omega))).mono ?_
      rintro e w2 ⟨rfl, k1, k2⟩
      have hc := G2.out.trans k2 fun _ _ h => h
      clear k2
      go_wp2
      go_ret
      unfold RfRow
      rw [HT.out]
      simp only [if_pos hbig]
      exact ⟨rfl, k1, hc⟩
    · go_wp2_with fail
      refine (rfraw_yes bf r m _ G1.out (by omega) (by omega)).mono ?_
      rintro e w2 ⟨v, rfl, k0, k1, k2⟩
      have hc := G2.out.trans k2 fun _ _ h => h
      have hsz := G2.out.size
      clear k2
      go_wp2
      go_ret
      unfold RfRow
      rw [HT.out]
      simp only [if_neg hbig]
      exact ⟨_, rfl, ⟨k0.1, fun g hg => by have := k0.2 g hg; omega⟩, k1, hc⟩
end
end
end Go.Proofs.YtbkakhfepiooaaaGreatDoor.O
namespace Go.Oct
/-- Of bytes that are left: the number that is taken, whether that errs, what is left then. -/
def nv (xs : List Int) : Nat := match takeN 0 0 xs with | none => 0 | some (m, _) => m
def nb (xs : List Int) : Bool := match takeN 0 0 xs with | none => true | some _ => false
def nr (xs : List Int) : List Int := match takeN 0 0 xs with | none => [] | some (_, r) => r
/-- .. the row. -/
def bv (xs : List Int) : List Int := match takeN 0 0 xs with | none => [] | some (m, r) => if r.length < m then [] else r.take m
def bb (xs : List Int) : Bool := match takeN 0 0 xs with | none => true | some (m, r) => if r.length < m then true else false
def br_ (xs : List Int) : List Int := match takeN 0 0 xs with | none => [] | some (m, r) => if r.length < m then [] else r.drop m
/-- .. so many bytes. -/
def rv (xs : List Int) (n : Int) : List Int := if n < 0 ∨ (xs.length : Int) < n then [] else xs.take n.toNat
def rb (bad : Bool) (xs : List Int) (n : Int) : Bool := if n < 0 ∨ (xs.length : Int) < n then true else bad
def rr (xs : List Int) (n : Int) : List Int := if n < 0 ∨ (xs.length : Int) < n then [] else xs.drop n.toNat
theorem nr_len (xs : List Int) : (nr xs).length ≤ xs.length := by
  unfold nr
  cases h : takeN 0 0 xs with
  | none => simp
  | some y => exact Nat.le_of_lt (Go.Proofs.YtbkakhfepiooaaaGreatDoor.O.takeN_len _ _ _ _ _ h)
theorem br_len (xs : List Int) : (br_ xs).length ≤ xs.length := by
  unfold br_
  cases h : takeN 0 0 xs with
  | none => simp
  | some y =>
    obtain ⟨m, r⟩ := y
    have := Go.Proofs.YtbkakhfepiooaaaGreatDoor.O.takeN_len _ _ _ _ _ h
    simp only
    split
    · simp
    · rw [List.length_drop]; omega
theorem rr_len (xs : List Int) (n : Int) : (rr xs n).length ≤ xs.length := by
  unfold rr
  split
  · simp
  · rw [List.length_drop]; omega
end Go.Oct
namespace Go.Proofs.YtbkakhfepiooaaaGreatDoor.O
open Go.RowKit Go.Oct
section
variable {Q : Nat → Prop}
theorem num_step (br : Nat) (bad : Bool) (xs : List Int) (w : World) (hr : RdQ Q w br bad xs) :
    Calls Tryz.prog 133 #[.pointer (some ⟨br, 0, none⟩)] w fun e w' => e = .returned (.int .i64 (nv xs)) ∧ RdQ Q w' br (nb xs) (nr xs) ∧ Ch (RS br) w w' :=
  (num_any br bad xs w hr).mono fun e w' h => by
    unfold NumPost at h
    unfold nv nb nr
    cases ht : takeN 0 0 xs with
    | none => rw [ht] at h; exact h
    | some y => rw [ht] at h; exact h
theorem rfnum_step (bf : Nat) (bad : Bool) (xs : List Int) (w : World) (hm : xs.length ≤ 100000) (hr : Rf Q w bf bad xs) :
    Calls Tryz.prog 159 #[.pointer (some ⟨bf, 0, none⟩)] w fun e w' => e = .returned (.int .i64 (nv xs)) ∧ Rf Q w' bf (nb xs) (nr xs) ∧ Ch (RS bf) w w' :=
  (rfnum_any bf bad xs w hr (by omega)).mono fun e w' h => by
    unfold RfPost at h
    unfold nv nb nr
    cases ht : takeN 0 0 xs with
    | none => rw [ht] at h; exact h
    | some y => rw [ht] at h; exact h
theorem row_nil (w w' : World) : Row w (.slice none 0 0) [] w' := ⟨World.ownsRow_nil _ _ _ _, fun g hg => by simp [Value.ownBlock] at hg⟩
theorem bytes_step (br : Nat) (bad : Bool) (xs : List Int) (w : World) (hm : xs.length ≤ 100000) (hr : RdQ Q w br bad xs) :
    Calls Tryz.prog 123 #[.pointer (some ⟨br, 0, none⟩)] w fun e w' => ∃ v, e = .returned v ∧ Row w v (bv xs) w' ∧ RdQ Q w' br (bb xs) (br_ xs) ∧ Ch (RS br) w w' :=
  (rbytes_any br bad xs w hr (by omega)).mono fun e w' h => by
    unfold RowPost at h
    unfold bv bb br_
    cases ht : takeN 0 0 xs with
    | none =>
      rw [ht] at h
      exact ⟨_, h.1, row_nil _ _, h.2.1, h.2.2⟩
    | some y =>
      obtain ⟨m, r⟩ := y
      rw [ht] at h
      by_cases hlt : r.length < m
      · simp only [if_pos hlt] at h ⊢
        exact ⟨_, h.1, row_nil _ _, h.2.1, h.2.2⟩
      · simp only [if_neg hlt] at h ⊢
        exact h
theorem rfbytes_step (bf : Nat) (bad : Bool) (xs : List Int) (w : World) (hm : xs.length ≤ 100000) (hr : Rf Q w bf bad xs) :
    Calls Tryz.prog 224 #[.pointer (some ⟨bf, 0, none⟩)] w fun e w' => ∃ v, e = .returned v ∧ Row w v (bv xs) w' ∧ Rf Q w' bf (bb xs) (br_ xs) ∧ Ch (RS bf) w w' :=
  (rfbytes_any bf bad xs w hr (by omega)).mono fun e w' h => by
    unfold RfRow at h
    unfold bv bb br_
    cases ht : takeN 0 0 xs with
    | none =>
      rw [ht] at h
      exact ⟨_, h.1, row_nil _ _, h.2.1, h.2.2⟩
    | some y =>
      obtain ⟨m, r⟩ := y
      rw [ht] at h
      by_cases hlt : r.length < m
      · simp only [if_pos hlt] at h ⊢
        exact ⟨_, h.1, row_nil _ _, h.2.1, h.2.2⟩
      · simp only [if_neg hlt] at h ⊢
        exact h
theorem raw_step (br : Nat) (bad : Bool) (xs : List Int) (n : Int) (w : World) (hm : xs.length ≤ 100000) (hr : RdQ Q w br bad xs) :
    Calls Tryz.prog 173 #[.pointer (some ⟨br, 0, none⟩), .int .i64 n] w fun e w' => ∃ v, e = .returned v ∧ Row w v (rv xs n) w' ∧ RdQ Q w' br (rb bad xs n) (rr xs n) ∧ Ch (RS br) w w' := by
  unfold rv rb rr
  by_cases h : n < 0 ∨ (xs.length : Int) < n
  · simp only [if_pos h]
    exact (rraw_no br bad xs n w hr h).mono fun e w' ⟨he, h1, h2⟩ => ⟨_, he, row_nil _ _, h1, h2⟩
  · simp only [if_neg h]
    obtain ⟨k, rfl⟩ := Int.cast_of (show 0 ≤ n by omega)
    rw [Int.toNat_natCast]
    by_cases h0 : k = 0
    · subst h0
      exact (rraw_zero br bad xs w hr).mono fun e w' ⟨he, hw⟩ => ⟨_, he, by simpa using row_nil _ _, by rw [← hw]; simpa using hr, by rw [← hw]; exact Ch.refl _ _⟩
    · cases bad
      · exact rraw_some br xs k w hr (by omega) (by omega) (by omega)
      · obtain rfl := hr.nil_
        simp only [List.length_nil] at h
        omega
theorem rfraw_step (bf : Nat) (bad : Bool) (xs : List Int) (n : Int) (w : World) (hm : xs.length ≤ 100000) (hr : Rf Q w bf bad xs) :
    Calls Tryz.prog 223 #[.pointer (some ⟨bf, 0, none⟩), .int .i64 n] w fun e w' => ∃ v, e = .returned v ∧ Row w v (rv xs n) w' ∧ Rf Q w' bf (rb bad xs n) (rr xs n) ∧ Ch (RS bf) w w' := by
  unfold rv rb rr
  by_cases h : n < 0 ∨ (xs.length : Int) < n
  · simp only [if_pos h]
    exact (rfraw_no bf bad xs n w hr h).mono fun e w' ⟨he, h1, h2⟩ => ⟨_, he, row_nil _ _, h1, h2⟩
  · simp only [if_neg h]
    obtain ⟨k, rfl⟩ := Int.cast_of (show 0 ≤ n by omega)
    rw [Int.toNat_natCast]
    cases bad
    · exact rfraw_yes bf xs k w hr (by omega) (by omega)
    · obtain rfl := hr.nil_
      obtain rfl : k = 0 := by simp only [List.length_nil] at h; omega
      exact (rfraw_err bf w hr).mono fun e w' ⟨he, hw⟩ => ⟨_, he, row_nil _ _, by rw [← hw]; exact hr, by rw [← hw]; exact Ch.refl _ _⟩
end
end Go.Proofs.YtbkakhfepiooaaaGreatDoor.O
