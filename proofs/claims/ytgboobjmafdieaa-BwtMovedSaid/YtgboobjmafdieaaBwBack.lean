/-
  The contract of the document's answer haystackref6.Back: the row whose Turn a row is, or refused.
-/
import Derived.Test.YtgboobjmafdieaaBwStab
import Derived.Test.YtgboobjmafdieaaBwMath2
namespace Go.Proofs.Ytgboobjmafdieaa
open Go.RowKit Go.Oct Go.Su

/-- What both Backs answer, refusals too. -/
def BRes (l : List Int) (n : Nat) (ec : Int) (m : Nat) (s : List Int) : Prop := (65536 < n ∧ ec = 5 ∧ m = 0 ∧ s = []) ∨ (n ≤ 65536 ∧ (∀ s, ¬ Turned s l) ∧ ec = 3 ∧ m = 0 ∧ s = []) ∨ (n ≤ 65536 ∧ ec = 0 ∧ m = n ∧ Turned s l)
def BackAny (l : List Int) (n : Nat) (w : World) (e : Ending) (w' : World) : Prop := ∃ (A : Option Addr) (c m : Nat) (ec : Int) (s : List Int), e = .returned (.tuple #[.slice A m c, .int .i64 ec]) ∧ Sl w' (fun b => w.heap.size ≤ b) .i64 A m s ∧ BRes l n ec m s ∧ Ch (fun _ => False) w w'
theorem back_no {l : List Int} {n : Nat} {w w' : World} (hn : n ≤ 65536) (h : ∀ s, ¬ Turned s l) (hc : Ch (fun _ => False) w w') : BackAny l n w (.returned (.tuple #[.slice none 0 0, .int .i64 3])) w' :=
  ⟨none, 0, 0, 3, [], rfl, Sl.nil _ _ _ _, .inr (.inl ⟨hn, h, rfl, rfl, rfl⟩), hc⟩
/-- Where each one goes, of the first i of an order. -/
structure Goes (l : List Int) (P : List Nat) (i : Nat) (G : List Nat) : Prop where
  len : G.length = l.length
  at_ : ∀ j x, j < i → P[j]? = some x → G[x]? = some j
theorem goes_start (l : List Int) (P : List Nat) : Goes l P 0 (List.replicate l.length 0) := ⟨List.length_replicate .., fun _ _ h => absurd h (by omega)⟩
theorem Goes.next {l : List Int} {P G : List Nat} {i x : Nat} (h : Goes l P i G) (s : Srt l P) (hx : P[i]? = some x) : Goes l P (i + 1) (G.set x i) := by
  refine ⟨by rw [List.length_set]; exact h.len, fun j y hj hy => ?_⟩
  by_cases e : j = i
  · subst e
    obtain rfl : y = x := Option.some.inj (hy.symm.trans hx)
    rw [List.getElem?_set_self (by rw [h.len]; exact s.lt y (List.mem_of_getElem? hx))]
  · rw [List.getElem?_set_ne (fun e2 => e (by subst e2; exact at_one s.nodup hy hx))]
    exact h.at_ j y (by omega) hy
theorem Goes.all {l : List Int} {P G : List Nat} (h : Goes l P l.length G) (s : Srt l P) {x : Nat} (hx : x < l.length) : G[x]? = some (lf l x) := by
  obtain ⟨i, hi⟩ := s.find hx
  rw [s.lf hi]
  obtain ⟨h1, _⟩ := List.getElem?_eq_some_iff.1 hi
  exact h.at_ i x (by rw [← s.len]; exact h1) hi
/-- The row on the way back, its last j symbols but one laid. -/
structure Bk (l : List Int) (j : Nat) (S : List Int) : Prop where
  len : S.length = l.length
  at_ : ∀ p, l.length ≤ p + j + 1 → p < l.length → gs S p = gs (bck l) p
theorem bk_start (l : List Int) : Bk l 0 (List.replicate l.length 0) := by
  refine ⟨List.length_replicate .., fun p h1 h2 => ?_⟩
  rw [bck_at h2, if_pos (by omega)]
  exact gs_at (by rw [List.getElem?_replicate, if_pos h2])
theorem Bk.next {l : List Int} {j : Nat} {S : List Int} (h : Bk l j S) (hj : j + 2 ≤ l.length) : Bk l (j + 1) (S.set (l.length - 2 - j) (gs l (way l j))) := by
  refine ⟨by rw [List.length_set]; exact h.len, fun p h1 h2 => ?_⟩
  rw [gs_set (by rw [h.len]; omega)]
  by_cases e : l.length - 2 - j = p
  · rw [if_pos e, bck_at h2, if_neg (by omega), show l.length - 2 - p = j by omega]
  · rw [if_neg e]
    exact h.at_ p (by omega) h2
theorem Bk.all {l : List Int} {j : Nat} {S : List Int} (h : Bk l j S) (hj : l.length ≤ j + 1) : S = bck l :=
  gs_ext (by rw [h.len, bck_len]) fun p hp => h.at_ p (by omega) (by rw [← h.len]; exact hp)
section
variable {F : Nat → Prop}
set_option maxRecDepth 100000 in
set_option maxHeartbeats 8000000 in
theorem refback_any (l : List Int) (A : Option Addr) (n c : Nat) (w : World) (hs : Sl w F .i64 A n l) (hn : n ≤ 65536) :
    Calls Try.prog 14 #[.slice A n c] w (BackAny l n w) := by
  have HL := Bx.mk hs.len
  have HS := Bx.mk (hs.mono (G := fun b => b < w.heap.size) (fun b h _ => h))
  have d1 : decide (65536 < (n : Int)) = false := by simp; omega
  clear hs
  go_enter Try.func14, Try.ntmps14
  go_wp2_with fail
  go_loop [5, 6] (fun x i => ∃ k : Nat, k ≤ n ∧ i = .int .i64 k ∧ x = .int .i64 (noughts l k : Nat) ∧ Bx (∀ p, p < k → 0 ≤ gs l p)) (fun _ i => n - (intOf i).toNat)
  case atStart => exact ⟨0, Nat.zero_le _, rfl, rfl, ⟨fun _ h => absurd h (by omega)⟩⟩
  case round =>
    obtain ⟨k, hk, rfl, rfl, hA⟩ := hrel
    by_cases hlt : k < n
    · obtain ⟨b, off, x, rfl, _, hx, hcx⟩ := HS.out.at_ hlt
      have hgx := gs_at hx.out
      have hnn := noughts_next hx.out
      have hle := noughts_le l k
      have dk : decide ((k : Int) < (n : Int)) = true := by simp; omega
      by_cases h0 : x < 0
      · have HN : Bx (∀ s, ¬ Turned s l) := ⟨fun s t => by
          have := gs_pos t.rnd.pos (p := k) (by rw [HL.out]; exact hlt)
          omega⟩
        have dx : decide (x < 0) = true := by simpa using h0
        clear hx hgx hnn
        go_wp2
        go_returns
        exact back_no hn HN.out (Ch.refl _ _)
      · have dx : decide (x < 0) = false := by simpa using h0
        have HAN : Bx (∀ p, p < k + 1 → 0 ≤ gs l p) := ⟨fun p hp => by
          by_cases e : p = k
          · subst e
            omega
          · exact hA.out p (by omega)⟩
        have HNN := Bx.mk hnn
        by_cases hx0 : x = 0
        · have b1 : (x == 0) = true := by simpa using hx0
          have HX0 := Bx.mk hx0
          obtain ⟨y, hy⟩ : ∃ y, noughts l k = y := ⟨_, rfl⟩
          have HY := Bx.mk hy
          rw [hy] at hle ⊢
          clear hx hgx hnn hx0 h0 hy hA
          go_wp2
          go_round
          case rel => exact ⟨k + 1, by omega, by go_num, by rw [HNN.out, HY.out, if_pos HX0.out]; go_num, HAN⟩
          case measure => simp [intOf]; omega
        · have b1 : (x == 0) = false := by simpa using hx0
          have HX0 := Bx.mk hx0
          clear hx hgx hnn hx0 h0 hA
          go_wp2
          go_round
          case rel => exact ⟨k + 1, by omega, by go_num, by rw [HNN.out, if_neg HX0.out, Nat.add_zero], HAN⟩
          case measure => simp [intOf]; omega
    · have hkn : k = n := by omega
      have dk : decide ((k : Int) < (n : Int)) = false := by simp; omega
      by_cases h1 : noughts l n = 1
      · have hn0 : 0 < n := by
          rcases Nat.eq_zero_or_pos n with h | h
          · subst h
            unfold noughts at h1
            simp at h1
          · exact h
        have HN1 := Bx.mk h1
        have b1 : (((noughts l k : Nat) : Int) != 1) = false := by rw [hkn, h1]; rfl
        have hst : Calls Try.prog 24 #[.slice A n c] w (Stab l n w) := by
          rcases Nat.lt_or_ge n 2 with h2 | h2
          · exact stable_few l A n c w HL.out h2
          · exact stable_many l A n c w HS.out hn h2
        clear hA hkn h1
        go_wp2_with fail
        refine hst.mono ?_
        rintro e w1 ⟨A1, c1, P, rfl, hSP, hT, hC1⟩
        have hmk := mkI w1 n (by omega)
        have HT := Bx.mk hT
        have HPl : Bx (P.length = n) := ⟨by rw [hT.len, HL.out]⟩
        have HSP : Bx (Sl w1 (fun b => b < w1.heap.size) .i64 A1 n (asI P)) := ⟨hSP.mono (fun b h _ => h)⟩
        have HS1 : Bx (Sl w1 (fun b => b < w1.heap.size) .i64 A n l) := ⟨(HS.out.ch hC1 (fun _ _ _ h => h)).mono (fun b h _ => h)⟩
        have HC1 := Bx.mk hC1
        clear hSP hT hC1 hst
        go_wp2_with fail
        obtain ⟨H, hH⟩ : ∃ H, w1.heap.size = H := ⟨_, rfl⟩
        obtain ⟨w2, hw2⟩ : ∃ w2, w1.alloc (.cells (madeCells #[.int .i64 0] n) 3) = w2 := ⟨_, rfl⟩
        have hC2 : Ch (fun _ => False) w1 w2 := by rw [← hw2]; exact (Ch.refl (fun _ => False) w1).alloc _
        have hO2 : Own w2 3 1 H n n (vals (List.replicate l.length 0)) := by
          unfold vals
          rw [HL.out, List.map_replicate, ← hw2, ← hH]
          exact own_made1 w1 3 (.int .i64 0) n (by omega)
        rw [hH] at HSP HS1
        have HSP2 : Bx (Sl w2 (fun b => b < H) .i64 A1 n (asI P)) := ⟨HSP.out.ch hC2 (fun _ _ _ h => h)⟩
        have HS2 : Bx (Sl w2 (fun b => b < H) .i64 A n l) := ⟨HS1.out.ch hC2 (fun _ _ _ h => h)⟩
        have HO2 := Bx.mk hO2
        have HHW : Bx (w.heap.size ≤ H) := ⟨by rw [← hH]; exact HC1.out.size⟩
        have HC2 := Bx.mk (HC1.out.trans hC2 (fun _ _ h => h))
        rw [hw2, hH]
        clear hw2 hH hC2 hO2 HSP HS1 HC1 hmk
        go_loopw [9] (fun i wr => ∃ (j : Nat) (G : List Nat), j ≤ n ∧ i = .int .i64 j ∧ Own wr 3 1 H n n (vals G) ∧ Goes l P j G ∧ Ch (fun b => b = H) w2 wr) (fun i _ => n - (intOf i).toNat)
        case atStart => exact ⟨0, _, Nat.zero_le _, rfl, HO2.out, goes_start l P, Ch.refl _ _⟩
        case round =>
          obtain ⟨j, G, hj, rfl, hO, hG, hC⟩ := hrel
          by_cases hjn : j < n
          · have dj : decide ((j : Int) < (n : Int)) = true := by simp; omega
            obtain ⟨b1, o1, x0, rfl, _, hx0, hcx⟩ := (HSP2.out.ch hC (fun b hb _ (e : b = H) => by omega)).at_ hjn
            obtain ⟨x, rfl, hx⟩ := asI_at hx0.out
            have hxn : x < n := by rw [← HL.out]; exact HT.out.lt x (List.mem_of_getElem? hx)
            have hco := hO.cellN hxn
            have hfo := hO.frozenAt x
            have hst := hO.storedN x j
            generalize gn G x = old at *
            have HGN := Bx.mk (hG.next HT.out hx)
            have HST := Bx.mk hst
            have HCC := Bx.mk (hC.trans hst.2 (fun _ _ h => h))
            have i1 : (0 : Int) ≤ (x : Int) := by omega
            have i2 : (x : Int) < (n : Int) := by omega
            clear hO hG hC hx0 hx hst
            go_wp2
            go_roundw
            case rel => exact ⟨j + 1, _, by omega, by go_num, HST.out.1, HGN.out, HCC.out⟩
            case measure => simp [intOf]; omega
          · have hjn' : j = n := by omega
            have dj : decide ((j : Int) < (n : Int)) = false := by simp; omega
            have HGA : Bx (∀ x, x < n → G[x]? = some (lf l x)) := ⟨fun x hx => by
              rw [hjn', ← HL.out] at hG
              exact hG.all HT.out (by rw [HL.out]; exact hx)⟩
            have hmk := mkI wr n (by omega)
            have HO := Bx.mk hO
            have HHr : Bx (H < wr.heap.size) := ⟨hO.lt⟩
            have HC3 := Bx.mk (HC2.out.trans hC (S := fun _ => False) (fun i hi (e : i = H) => by have := HHW.out; omega))
            have HS3 : Bx (Sl wr (fun b => b < H) .i64 A n l) := ⟨HS2.out.ch hC (fun b hb _ (e : b = H) => by omega)⟩
            obtain ⟨w3, rfl⟩ : ∃ w3 : World, w3 = wr := ⟨_, rfl⟩
            clear hO hG hC hjn' HSP2 HS2 HO2 HC2
            go_wp2_with fail
            obtain ⟨K, hK⟩ : ∃ K, w3.heap.size = K := ⟨_, rfl⟩
            obtain ⟨w4, hw4⟩ : ∃ w4, w3.alloc (.cells (madeCells #[.int .i64 0] n) 3) = w4 := ⟨_, rfl⟩
            have hC4 : Ch (fun _ => False) w3 w4 := by rw [← hw4]; exact (Ch.refl (fun _ => False) w3).alloc _
            have hO4 : Own w4 3 1 K n n ((List.replicate l.length 0).map (Value.int .i64)) := by
              rw [HL.out, List.map_replicate, ← hw4, ← hK]
              exact own_made1 w3 3 (.int .i64 0) n (by omega)
            have HHK : Bx (H < K) := ⟨by rw [← hK]; exact HHr.out⟩
            have HO4 := Bx.mk hO4
            have HG4 := Bx.mk (HO.out.keep hC4)
            have HS4 : Bx (Sl w4 (fun b => b < H) .i64 A n l) := ⟨HS3.out.ch hC4 (fun _ _ _ h => h)⟩
            have HC4 := Bx.mk (HC3.out.trans hC4 (fun _ _ h => h))
            rw [hw4, hK]
            have hj2 : (n : Int) - 2 = (n : Int) - 2 - ((0 : Nat) : Int) := by omega
            clear hw4 hK hC4 hO4 hmk HO HC3 HS3 HHr
            go_loopw [11, 12] (fun x i wr => ∃ (j : Nat) (S : List Int), j + 1 ≤ n ∧ i = .int .i64 ((n : Int) - 2 - (j : Int)) ∧ x = .int .i64 (way l j : Nat) ∧ Own wr 3 1 K n n (S.map (Value.int .i64)) ∧ Bk l j S ∧ Ch (fun b => b = K) w4 wr) (fun _ i _ => (intOf i + 1).toNat)
            case atStart => exact ⟨0, _, by omega, by first | rfl | (congr 1 <;> omega), rfl, HO4.out, bk_start l, Ch.refl _ _⟩
            case round =>
              obtain ⟨j, S, hj, rfl, rfl, hO, hB, hC⟩ := hrel
              have hwl : way l j < n := by rw [← HL.out]; exact way_lt (by rw [HL.out]; exact hn0) j
              by_cases hjn : j + 2 ≤ n
              · obtain ⟨p, hp⟩ : ∃ p : Nat, n - 2 - j = p := ⟨_, rfl⟩
                have hpi : (n : Int) - 2 - (j : Int) = (p : Int) := by omega
                have hpn : p < n := by omega
                have hBn := hB.next (by rw [HL.out]; exact hjn)
                rw [HL.out, hp] at hBn
                have hway : way l (j + 1) = lf l (way l j) := rfl
                obtain ⟨y, hy⟩ : ∃ y, lf l (way l j) = y := ⟨_, rfl⟩
                rw [hy] at hway
                have HWY := Bx.mk hway
                obtain ⟨b2, o2, rfl, _, hcl⟩ := Sl.gsAt (HS4.out.ch hC (fun b hb _ (e : b = K) => by have := HHK.out; omega)) hwl
                have hcg := (HG4.out.ch hC (fun e => by have e' : H = K := e; have := HHK.out; omega)).cellN hwl
                rw [gn_at (HGA.out _ hwl), hy] at hcg
                have hco := hO.cellI hpn
                have hfo := hO.frozenAt p
                generalize gs l (way l j) = v at *
                generalize way l j = u at *
                have hst := hO.storedI p v
                have hcg2 := hst.2.cell (p := ⟨H, u, none⟩) (fun e => by have e' : H = K := e; have := HHK.out; omega) hcg
                generalize S.getD p 0 = old at *
                have HBN := Bx.mk hBn
                have HST := Bx.mk hst
                have HCC := Bx.mk (hC.trans hst.2 (fun _ _ h => h))
                have i1 : (0 : Int) ≤ (p : Int) := by omega
                have i2 : (p : Int) < (n : Int) := by omega
                have i3 : (0 : Int) ≤ (u : Int) := by omega
                have i4 : (u : Int) < (n : Int) := by omega
                have HPI := Bx.mk hpi
                rw [hpi]
                clear hO hB hC hBn hst hp hpi hway hy hj2
                go_wp2
                go_roundw
                case rel => exact ⟨j + 1, _, by omega, by first | (congr 1; have := HPI.out; omega) | (have := HPI.out; go_num), by rw [HWY.out], HST.out.1, HBN.out, HCC.out⟩
                case measure => first | (simp [intOf]; done) | (simp [intOf]; omega)
              · have hneg : (n : Int) - 2 - (j : Int) = -1 := by omega
                have hSe := hB.all (by rw [HL.out]; omega)
                rw [hSe] at hO
                have htu := refturn_any (bck l) (some ⟨K, 0, none⟩) n n wr hO.sl hn
                have HO := Bx.mk hO
                have HC5 := Bx.mk (HC4.out.trans hC (S := fun _ => False) (fun i hi (e : i = K) => by have := HHK.out; have := HHW.out; omega))
                have HS5 : Bx (Sl wr (fun b => b < H) .i64 A n l) := ⟨HS4.out.ch hC (fun b hb _ (e : b = K) => by have := HHK.out; omega)⟩
                rw [hneg]
                clear hO hB hC hSe hneg hj2
                go_wp2_with fail
                refine htu.mono ?_
                rintro e w6 ⟨A6, c6, m6, ec, t, rfl, hS6, hr, hC6⟩
                rcases hr with ⟨h, _⟩ | ⟨_, hnc, rfl, rfl, rfl⟩ | ⟨_, rfl, rfl, ht⟩
                · omega
                · have HN : Bx (∀ s, ¬ Turned s l) := ⟨fun s t => hnc (by rw [t.bck]; exact t.closed)⟩
                  have HC6 := Bx.mk (HC5.out.trans hC6 (fun _ _ h => h))
                  clear hS6 hnc hC6 htu
                  go_wp2
                  go_returns
                  exact back_no hn HN.out HC6.out
                · have HTT := Bx.mk ht
                  have HS6 := Bx.mk hS6
                  have HL6 := Bx.mk (HS5.out.ch hC6 (fun _ _ _ h => h))
                  have HO6 := Bx.mk (HO.out.keep hC6)
                  have HC6 := Bx.mk (HC5.out.trans hC6 (fun _ _ h => h))
                  have HKW : Bx (w.heap.size ≤ K) := ⟨by have := HHK.out; have := HHW.out; omega⟩
                  clear hS6 ht hC6 htu HO HC5 HS5
                  go_wp2_with fail
                  go_loopw [15] (fun i wr => ∃ k d : Nat, k ≤ m6 ∧ i = .int .i64 k ∧ Bx (t.take k = l.take k) ∧ wr = w6.drewN d) (fun i _ => m6 - (intOf i).toNat)
                  case atStart => exact ⟨0, 0, Nat.zero_le _, rfl, ⟨rfl⟩, rfl⟩
                  case round =>
                    obtain ⟨k, d, hk, rfl, hT, rfl⟩ := hrel
                    by_cases hlt : k < m6
                    · obtain ⟨b1, o1, x, rfl, _, ex, hc1⟩ := HS6.out.at_ hlt
                      obtain ⟨b2, o2, y, rfl, _, ey, hc2⟩ := HL6.out.at_ hlt
                      have dk : decide ((k : Int) < (m6 : Int)) = true := by simp; omega
                      by_cases hxy : x = y
                      · subst hxy
                        have hb : (x != x) = false := by simp
                        have HT2 : Bx (t.take (k + 1) = l.take (k + 1)) := ⟨by rw [List.take_add_one, List.take_add_one, hT.out, ex.out, ey.out]⟩
                        clear ex ey hT
                        go_wp2
                        go_quiet (fail)
                        go_wp2
                        go_roundw
                        case rel => exact ⟨k + 1, _, by omega, by go_num, HT2, by first | rfl | exact World.drewN_drewN ..⟩
                        case measure => simp [intOf]; omega
                      · have hb : (x != y) = true := by simpa using hxy
                        have HN : Bx (∀ s, ¬ Turned s l) := ⟨fun s ts => by
                          have h1 := HTT.out
                          rw [ts.bck] at h1
                          have h2 := h1.det ts
                          rw [h2] at ex
                          exact hxy (Option.some.inj (ex.out.symm.trans ey.out))⟩
                        clear ex ey hT hxy
                        go_wp2
                        go_quiet (fail)
                        go_wp2
                        go_returns
                        exact back_no hn HN.out (by first | exact HC6.out.drewN _ | exact (HC6.out.drewN _).drewN _)
                    · have h1 := hT.out
                      have dk : decide ((k : Int) < (m6 : Int)) = false := by simp; omega
                      rw [List.take_of_length_le (by rw [HS6.out.len]; omega), List.take_of_length_le (by rw [HL.out]; omega)] at h1
                      have HTF : Bx (Turned (bck l) l) := ⟨by
                        have h2 := HTT.out
                        rw [h1] at h2
                        exact h2⟩
                      have HOF : Bx (Own (w6.drewN d) 3 1 K m6 m6 ((bck l).map (Value.int .i64))) := ⟨HO6.out.keep ((Ch.refl (fun _ => False) w6).drewN d)⟩
                      have HCF := Bx.mk (HC6.out.drewN d)
                      clear h1 hT
                      go_wp2
                      go_returns
                      exact ⟨_, m6, m6, 0, bck l, rfl, HOF.out.sl.mono (fun b _ hb => by have := HKW.out; omega), .inr (.inr ⟨hn, rfl, rfl, HTF.out⟩), HCF.out⟩
      · have HN : Bx (∀ s, ¬ Turned s l) := ⟨fun s t => h1 (by rw [← HL.out]; exact t.rnd.count)⟩
        have b1 : (((noughts l k : Nat) : Int) != 1) = true := by
          rw [hkn]
          simp
          omega
        clear hA h1 hkn
        go_wp2
        go_returns
        exact back_no hn HN.out (Ch.refl _ _)
end
end Go.Proofs.Ytgboobjmafdieaa
