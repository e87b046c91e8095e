/-
  The contracts of suffix.Array and suffix.Common.
-/
import Derived.Test.YtmkhndajogcojaaSvSorted
import Derived.Test.YtmkhndajogcojaaSvPlaces
import Derived.Test.YtmkhndajogcojaaSvAlike
namespace Go.Su
theorem tail_lt {g : Nat → Int} {h k i : Nat} (hh : EqK g h k i) (h1 : 1 ≤ h) (l : Lt g k i) : Lt g (k + 1) (i + 1) := by
  obtain ⟨q, g1, g2⟩ := l
  have hq : h ≤ q := by
    rcases Nat.lt_or_ge q h with h3 | h3
    · rw [hh q h3] at g2
      omega
    · exact h3
  refine ⟨q - 1, ?_, ?_⟩
  · have : EqK g (1 + (q - 1)) k i := g1.mono (by omega)
    exact this.tail
  · rw [show k + 1 + (q - 1) = k + q by omega, show i + 1 + (q - 1) = i + q by omega]
    exact g2
/-- .. and nothing is carried to the first in the order. -/
structure KInv2 (s : List Int) (L hs : List Nat) (i h : Nat) : Prop where
  inv : KInv s L hs i h
  none : L[0]? = some i → h = 0
theorem kinv2_start {s : List Int} {L : List Nat} : KInv2 s L (List.replicate s.length 0) 0 0 := ⟨kinv_start, fun _ => rfl⟩
theorem KInv2.first {s : List Int} {L hs : List Nat} {i h : Nat} (a : KInv2 s L hs i h) (hSA : IsSA s L) (hi : L[0]? = some i) : KInv2 s L hs (i + 1) h := by
  have h0 := a.none hi
  subst h0
  exact ⟨a.inv.first hSA hi, fun _ => rfl⟩
theorem KInv2.next {s : List Int} {L hs : List Nat} {i h j k m : Nat} (a : KInv2 s L hs i h) (hp : Pos s) (hSA : IsSA s L) (hk : L[j]? = some k) (hi : L[j + 1]? = some i) (hm : Lcp s k i m) : KInv2 s L (hs.set (j + 1) m) (i + 1) (m - 1) := by
  refine ⟨a.inv.next hp hSA hk hi hm, fun h0 => ?_⟩
  rcases Nat.lt_or_ge m 2 with h2 | h2
  · omega
  · exfalso
    have hlt := tail_lt hm.1 (by omega) (hSA.lt (Nat.lt_succ_self j) hk hi)
    have hin : i + 1 < s.length := (hSA.mem _).1 (List.mem_of_getElem? h0)
    have he := hm.1 1 (by omega)
    have hkn : k + 1 < s.length := by
      rcases Nat.lt_or_ge (k + 1) s.length with h3 | h3
      · exact h3
      · rw [gs_out h3] at he
        have := gs_pos hp hin
        omega
    obtain ⟨q, hq⟩ := hSA.find hkn
    rcases Nat.eq_zero_or_pos q with h4 | h4
    · subst h4
      have := Option.some.inj (hq.symm.trans h0)
      rw [this] at hlt
      exact hlt.irrefl
    · exact hlt.asymm (hSA.lt h4 h0 hq)
end Go.Su
namespace Go.Proofs.Ytmkhndajogcojaa
open Go.RowKit Go.Oct Go.Su

section
variable {F G : Nat → Prop}
theorem array_err (s : List Int) (A : Option Addr) (n c : Nat) (w : World) (hs : Sl w F .i64 A n s) (hn : n ≤ 9223372036854775807) (h : aErr s ≠ 0) :
    Calls Try.prog 10 #[.slice A n c] w fun e w' => e = .returned (.tuple #[.slice none 0 0, .int .i64 (aErr s)]) ∧ w = w' := by
  have hch := check_any s A n c w hs hn
  generalize aErr s = v at *
  have hb : (v != 0) = true := by simpa using h
  clear hs h
  go_enter Try.func10, Try.ntmps10
  go_wp2_with fail
  refine hch.mono ?_
  rintro e w' ⟨rfl, rfl⟩
  go_wp2
  go_returns
  exact ⟨rfl, rfl⟩
theorem aErr_zero {s : List Int} (hn : s.length ≤ 65536) (hp : Pos s) : aErr s = 0 := by
  unfold aErr
  rw [if_neg (by omega), if_pos]
  rw [List.all_eq_true]
  intro x hx
  simpa using hp x hx
theorem array_ok (s : List Int) (A : Option Addr) (n c : Nat) (w : World) (hs : Sl w F .i64 A n s) (hn : n ≤ 65536) (hp : Pos s) :
    Calls Try.prog 10 #[.slice A n c] w (Sufs s n w) := by
  have hl := hs.len
  have hch := check_any s A n c w hs (by omega)
  rw [aErr_zero (by omega) hp] at hch
  have hsort := sorted_any s A n c w hs hn hp
  clear hs hp hl
  go_enter Try.func10, Try.ntmps10
  go_wp2_with fail
  refine hch.mono ?_
  rintro e w' ⟨rfl, rfl⟩
  go_wp2_with fail
  refine hsort.mono ?_
  rintro e w2 ⟨g, L, rfl, hSA, hO, hg, hC⟩
  have HSA := Bx.mk hSA
  have HO := Bx.mk hO
  have HC := Bx.mk hC
  have HG := Bx.mk hg
  clear hSA hO hC hg hsort hch
  go_wp2
  go_returns
  exact ⟨some ⟨g, 0, none⟩, n, L, rfl, HSA.out, HO.out.slN.mono (fun b _ hb => by have := HG.out; omega), Nat.le_refl _, by unfold maxLen; omega, HC.out⟩

theorem common_err (s : List Int) (A B : Option Addr) (n m c d : Nat) (w : World) (hs : Sl w F .i64 A n s) (hn : n ≤ 9223372036854775807) (h : aErr s ≠ 0) :
    Calls Try.prog 17 #[.slice A n c, .slice B m d] w fun e w' => e = .returned (.tuple #[.slice none 0 0, .int .i64 (aErr s)]) ∧ w = w' := by
  have har := array_err s A n c w hs hn h
  generalize aErr s = v at *
  have hb : (v != 0) = true := by simpa using h
  clear hs h
  go_enter Try.func17, Try.ntmps17
  go_wp2_with fail
  refine har.mono ?_
  rintro e w' ⟨rfl, rfl⟩
  go_wp2
  go_returns
  exact ⟨rfl, rfl⟩
theorem common_len (s : List Int) (A B : Option Addr) (n m c d : Nat) (w : World) (hs : Sl w F .i64 A n s) (hn : n ≤ 65536) (hp : Pos s) (h : n ≠ m) :
    Calls Try.prog 17 #[.slice A n c, .slice B m d] w fun e w' => e = .returned (.tuple #[.slice none 0 0, .int .i64 1]) ∧ Ch (fun _ => False) w w' := by
  have har := array_ok s A n c w hs hn hp
  have HNE := Bx.mk h
  clear hs hp h
  go_enter Try.func17, Try.ntmps17
  go_wp2_with fail
  refine har.mono ?_
  rintro e w1 ⟨A1, c1, L, rfl, _, _, _, _, hC1⟩
  have HC := Bx.mk hC1
  clear hC1 har
  go_wp2_with fail
  refine (equal_len B A1 m n d c1 w1 (fun e => HNE.out e.symm)).mono ?_
  rintro e w2 ⟨rfl, rfl⟩
  go_wp2
  go_returns
  exact ⟨rfl, HC.out⟩
theorem common_diff (s xs : List Int) (A B : Option Addr) (n c d : Nat) (w : World) (hs : Sl w F .i64 A n s) (hx : Sl w G .i64 B n xs) (hn : n ≤ 65536) (hp : Pos s) (h : ∀ L, IsSA s L → xs ≠ asI L) :
    Calls Try.prog 17 #[.slice A n c, .slice B n d] w fun e w' => e = .returned (.tuple #[.slice none 0 0, .int .i64 1]) ∧ Ch (fun _ => False) w w' := by
  have har := array_ok s A n c w hs hn hp
  have HX := Bx.mk hx
  have HNE := Bx.mk h
  clear hs hp h hx
  go_enter Try.func17, Try.ntmps17
  go_wp2_with fail
  refine har.mono ?_
  rintro e w1 ⟨A1, c1, L, rfl, hSA, hS1, _, _, hC1⟩
  have heq := equal_no xs (asI L) B A1 n d c1 w1 (HX.out.ch hC1 (fun _ _ _ h => h)) hS1 (by omega) (HNE.out L hSA)
  have HC := Bx.mk hC1
  clear hC1 har hS1 hSA
  go_wp2_with fail
  refine heq.mono ?_
  rintro e w2 ⟨rfl, hC2⟩
  have HC2 := Bx.mk (HC.out.trans hC2 (fun _ _ h => h))
  clear heq hC2
  go_wp2
  go_returns
  exact ⟨rfl, HC2.out⟩
set_option maxHeartbeats 4000000 in
theorem common_ok (s : List Int) (L : List Nat) (A B : Option Addr) (n c d : Nat) (w : World) (hs : Sl w F .i64 A n s) (hb : Sl w G .i64 B n (asI L)) (hn : n ≤ 65536) (hp : Pos s) (hSA : IsSA s L) :
    Calls Try.prog 17 #[.slice A n c, .slice B n d] w (Commons s n L w) := by
  have hl := hs.len
  have HS := Bx.mk (hs.mono (G := fun b => b < w.heap.size) (fun b h _ => h))
  have HB := Bx.mk (hb.mono (G := fun b => b < w.heap.size) (fun b h _ => h))
  have HP := Bx.mk hp
  have HL := Bx.mk hl
  have HSA := Bx.mk hSA
  have har := array_ok s A n c w hs hn hp
  clear hs hb hp hl hSA
  go_enter Try.func17, Try.ntmps17
  go_wp2_with fail
  refine har.mono ?_
  rintro e w1 ⟨A1, c1, L', rfl, hSA', hS1, hc1, hcm1, hC1⟩
  obtain rfl : L' = L := hSA'.uniq HSA.out
  have heq := equal_yes (asI L') B A1 n d c1 w1 (HB.out.ch hC1 (fun _ _ _ h => h)) hS1 (by omega)
  have HS1 := Bx.mk hS1
  have HC1 := Bx.mk hC1
  clear hSA' hS1 hC1 HB har
  go_wp2_with fail
  refine heq.mono ?_
  rintro e w2 ⟨rfl, hC2⟩
  have hpl := places_any (asI L') A1 n c1 w2 (HS1.out.ch hC2 (fun _ _ _ h => h)) (by omega)
  have HS2 := Bx.mk (HS1.out.ch hC2 (fun _ _ _ h => h))
  have HC2 := Bx.mk (HC1.out.trans hC2 (fun _ _ h => h))
  clear heq hC2 HS1 HC1
  go_wp2_with fail
  refine hpl.mono ?_
  rintro e w3 ⟨hgood, _, hC3⟩
  obtain ⟨g, rfl, hat, hg⟩ := hgood (by rw [← HL.out]; exact good_sa HSA.out)
  have hmk := mkI w3 n (by omega)
  have HS3 : Bx (Sl w3 (fun b => b < w3.heap.size) .i64 A1 n (asI L')) := ⟨(HS2.out.ch hC3 (fun _ _ _ h => h)).mono (fun b h _ => h)⟩
  have HA3 : Bx (Sl w3 (fun b => b < w3.heap.size) .i64 A n s) := ⟨(HS.out.ch (HC2.out.trans hC3 (fun _ _ h => h)) (fun _ _ _ h => h)).mono (fun b h _ => h)⟩
  have HAT := Bx.mk hat
  have HC3 := Bx.mk (HC2.out.trans hC3 (fun _ _ h => h))
  clear hgood hat hC3 hg hpl HS2 HC2 HS
  go_wp2_with fail
  obtain ⟨H, hH⟩ : ∃ H, w3.heap.size = H := ⟨_, rfl⟩
  obtain ⟨w4, hw4⟩ : ∃ w4, w3.alloc (.cells (madeCells #[.int .i64 0] n) 3) = w4 := ⟨_, rfl⟩
  have hC4 : Ch (fun _ => False) w3 w4 := by rw [← hw4]; exact (Ch.refl (fun _ => False) w3).alloc _
  have hO4 : Own w4 3 1 H n n (vals (List.replicate s.length 0)) := by
    unfold vals
    rw [HL.out, List.map_replicate, ← hw4, ← hH]
    exact own_made1 w3 3 (.int .i64 0) n (by omega)
  have HHW : Bx (w.heap.size ≤ H ∧ g < H) := ⟨by have := HC3.out.size; have := HAT.out.lt; omega⟩
  rw [hw4, hH]
  rw [hH] at HS3 HA3
  have HS4 : Bx (Sl w4 (fun b => b < H) .i64 A1 n (asI L')) := ⟨HS3.out.ch hC4 (fun _ _ _ h => h)⟩
  have HA4 : Bx (Sl w4 (fun b => b < H) .i64 A n s) := ⟨HA3.out.ch hC4 (fun _ _ _ h => h)⟩
  have HAT4 := Bx.mk (HAT.out.keep hC4)
  have HO4 := Bx.mk hO4
  have HC4 := Bx.mk (HC3.out.trans hC4 (fun _ _ h => h))
  clear hmk hw4 hH hC4 hO4 HS3 HA3 HAT HC3
  go_loopw [11, 12, 13, 38] (fun h _ _ i wr => ∃ (hh ii : Nat) (hs : List Nat), h = .int .i64 hh ∧ i = .int .i64 ii ∧ ii ≤ n ∧ hh ≤ n ∧ KInv2 s L' hs ii hh ∧ Own wr 3 1 H n n (vals hs) ∧ Ch (fun b => b = H) w4 wr) (fun _ _ _ i _ => n - (intOf i).toNat)
  case atStart => exact ⟨0, 0, _, rfl, rfl, Nat.zero_le _, Nat.zero_le _, kinv2_start, HO4.out, Ch.refl _ _⟩
  case round =>
    obtain ⟨hh, ii, hs, rfl, rfl, hii, hhn, hK, hO, hC⟩ := hrel
    have hhw := HHW.out
    by_cases hin : ii < n
    · obtain ⟨j, hj⟩ := HSA.out.find (x := ii) (by rw [HL.out]; exact hin)
      have hca := (HAT4.out.ch hC (fun h => by have h' : g = H := h; omega)).cellI hin
      rw [plc_gs HSA.out hj] at hca
      have hjn : j < n := by
        obtain ⟨h1, _⟩ := List.getElem?_eq_some_iff.1 hj
        have := HSA.out.len
        rw [← HL.out]
        omega
      have q1 : (0 : Int) ≤ (ii : Int) := by omega
      have q2 : (ii : Int) < (n : Int) := by omega
      cases j with
      | zero =>
        have hca0 : wr.cell? ⟨g, ii, none⟩ = some (.int .i64 0) := hca
        have HK2 := Bx.mk (hK.first HSA.out hj)
        have HO := Bx.mk hO
        have HC := Bx.mk hC
        clear hca hj hK hO hC hhw
        go_wp2
        go_roundw
        case rel => exact ⟨hh, ii + 1, hs, rfl, by go_num, by omega, hhn, HK2.out, HO.out, HC.out⟩
        case measure => simp [intOf]; omega
      | succ j =>
        have jc : ((j + 1 : Nat) : Int) = (j : Int) + 1 := by omega
        rw [jc] at hca
        obtain ⟨bb, ob, k0, rfl, hbb, hk0, hcb⟩ := (HS4.out.ch hC (fun b hb _ (e : b = H) => by omega)).at_ (k := j) (by omega)
        obtain ⟨k, rfl, hk⟩ := asI_at hk0.out
        have hkn : k < n := by rw [← HL.out]; exact (HSA.out.mem k).1 (List.mem_of_getElem? hk)
        have hki : k ≠ ii := fun e => by subst e; have := at_one HSA.out.nodup hk hj; omega
        have hE := hK.inv.carry j k hk hj
        have hAo : Sl wr (fun b => b < H) .i64 A n s := HA4.out.ch hC (fun b hb _ (e : b = H) => by omega)
        have hali := alike_any s A n c ii k hh wr hAo hn HP.out hin hkn hki hE
        have HJ := Bx.mk hj
        have HKK := Bx.mk hk
        have HKI := Bx.mk hK
        have HO := Bx.mk hO
        have HC := Bx.mk hC
        have d0 : decide ((0 : Int) < (j : Int) + 1) = true := by first | (simp; done) | (simp; omega)
        have j1 : (j : Int) + 1 - 1 = (j : Int) := by omega
        have i1 : (0 : Int) ≤ (j : Int) := by omega
        have i2 : (j : Int) < (n : Int) := by omega
        have i3 : (0 : Int) ≤ (j : Int) + 1 := by omega
        have i4 : (j : Int) + 1 < (n : Int) := by omega
        obtain ⟨wo, rfl⟩ : ∃ wo : World, wo = wr := ⟨_, rfl⟩
        clear hk0 hE hj hk hK hO hC hAo hhw jc
        go_wp2_with fail
        refine hali.mono ?_
        rintro e w5 ⟨m, rfl, hm, hmn, q, rfl⟩
        have HKN := Bx.mk (HKI.out.next HP.out HSA.out HKK.out HJ.out hm)
        have hOq := HO.out.keep ((Ch.refl (fun _ => False) wo).drewN q)
        have hCq := HC.out.drewN q
        have hst := hOq.storedN (j + 1) m
        have hco := hOq.cellN (j := j + 1) (by omega)
        have hfo := hOq.frozenAt (j + 1)
        have HST := Bx.mk hst
        have HCQ := Bx.mk hCq
        generalize gn hs (j + 1) = old at *
        generalize wo.drewN q = w6 at *
        clear hst hOq hCq hali hm hca hcb
        rcases Nat.eq_zero_or_pos m with hm0 | hm0
        · subst hm0
          go_wp2
          go_roundw
          case rel => exact ⟨0, ii + 1, _, by go_num, by go_num, by omega, Nat.zero_le _, HKN.out, HST.out.1, HCQ.out.trans HST.out.2 (fun _ _ h => h)⟩
          case measure => simp [intOf]; omega
        · go_wp2
          go_roundw
          case rel => exact ⟨m - 1, ii + 1, _, by go_num, by go_num, by omega, by omega, HKN.out, HST.out.1, HCQ.out.trans HST.out.2 (fun _ _ h => h)⟩
          case measure => simp [intOf]; omega
    · have di : decide ((ii : Int) < (n : Int)) = false := by simp; omega
      have HF := Bx.mk (hK.inv.all HSA.out (by rw [HL.out]; omega))
      have HCF : Bx (Ch (fun _ => False) w wr) := ⟨HC4.out.trans hC (fun i hi (h : i = H) => by omega)⟩
      have HO := Bx.mk hO
      clear hK hO hC hhw
      go_wp2
      go_returns
      exact ⟨H, hs, rfl, HF.out, HO.out, HHW.out.1, HCF.out⟩
end
end Go.Proofs.Ytmkhndajogcojaa
