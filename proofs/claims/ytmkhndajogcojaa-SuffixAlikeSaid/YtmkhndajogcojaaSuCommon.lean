/-
  The contract of the document's answer haystackref5.Common.
-/
import Derived.Test.YtmkhndajogcojaaSuArray
import Derived.Test.YtmkhndajogcojaaSuPlaces
import Derived.Test.YtmkhndajogcojaaSuKasai
namespace Go.Proofs.Ytmkhndajogcojaa
open Go.RowKit Go.Oct Go.Su

theorem good_sa {s : List Int} {L : List Nat} (h : IsSA s L) : Good (asI L) s.length := by
  refine ⟨fun x hx => ?_, ?_⟩
  · unfold asI at hx
    obtain ⟨y, hy, rfl⟩ := List.mem_map.1 hx
    have := (h.mem y).1 hy
    omega
  · unfold asI
    rw [List.Nodup, List.pairwise_map]
    exact h.nodup.imp fun h e => h (by omega)
theorem plc_gs {s : List Int} {L : List Nat} (h : IsSA s L) {j p : Nat} (hj : L[j]? = some p) : (plc (asI L)).getD p 0 = (j : Int) := by
  have hl : (asI L).length = s.length := by rw [asI_len, h.len]
  obtain ⟨hjl, _⟩ := List.getElem?_eq_some_iff.1 hj
  have hp : p < s.length := (h.mem p).1 (List.mem_of_getElem? hj)
  have h1 := plc_at hl (good_sa h) s.length j p (by have := h.len; omega) (Nat.le_refl _) (by unfold asI; rw [List.getElem?_map, hj]; rfl)
  have h2 : p < (plcUp (asI L) s.length).length := by rw [plcUp_len, hl]; exact hp
  unfold plc
  rw [hl]
  unfold gs at h1
  rw [List.getD_eq_getElem?_getD, List.getElem?_eq_getElem h2] at h1 ⊢
  exact h1
theorem Own.storedN {w : World} {e : TypeId} {g n c : Nat} {xs : List Nat} (h : Own w e 1 g n c (vals xs)) (j x : Nat) : Own (w.setCell ⟨g, j, none⟩ (.int .i64 (x : Int))) e 1 g n c (vals (xs.set j x)) ∧ Ch (fun k => k = g) w (w.setCell ⟨g, j, none⟩ (.int .i64 (x : Int))) := by
  have := h.stored j (.int .i64 (x : Int))
  unfold vals at *
  rwa [← List.map_set] at this

/-- What Common leaves. -/
def Commons (s : List Int) (n : Nat) (L : List Nat) (w : World) (e : Ending) (w' : World) : Prop := ∃ (g : Nat) (hs : List Nat), e = .returned (.tuple #[.slice (some ⟨g, 0, none⟩) n n, .int .i64 0]) ∧ Cmn s L hs ∧ Own w' 3 1 g n n (vals hs) ∧ w.heap.size ≤ g ∧ Ch (fun _ => False) w w'
section
variable {F : Nat → Prop}
set_option maxRecDepth 100000 in
set_option maxHeartbeats 8000000 in
theorem refcom_ok {G : Nat → Prop} (s : List Int) (L : List Nat) (A B : Option Addr) (n c d : Nat) (w : World) (hs : Sl w F .i64 A n s) (hb : Sl w G .i64 B n (asI L)) (hn : n ≤ 65536) (hp : Pos s) (hSA : IsSA s L) :
    Calls Try.prog 18 #[.slice A n c, .slice B n d] w (Commons s n L w) := by
  have hl := hs.len
  have HS := Bx.mk (hs.mono (G := fun b => b < w.heap.size) (fun b h _ => h))
  have HB := Bx.mk (hb.mono (G := fun b => b < w.heap.size) (fun b h _ => h))
  have HP := Bx.mk hp
  have HL := Bx.mk hl
  have HSA := Bx.mk hSA
  have hnn : ((n : Int) != (n : Int)) = false := by simp
  clear hs hb hp hl hSA
  go_enter Try.func18, Try.ntmps18
  go_wp2_with fail
  refine (refarr_ok s A n c _ HS.out hn HP.out).mono ?_
  rintro e w1 ⟨A1, c1, L', rfl, hSA', hS1, hc1, hcm1, hC1⟩
  obtain rfl : L' = L := hSA'.uniq HSA.out
  have HS1 := Bx.mk hS1
  have HA1 : Bx (Sl w1 (fun b => b < w.heap.size) .i64 A n s) := ⟨HS.out.ch hC1 (fun _ _ _ h => h)⟩
  have HB1 : Bx (Sl w1 (fun b => b < w.heap.size) .i64 B n (asI L')) := ⟨HB.out.ch hC1 (fun _ _ _ h => h)⟩
  have HC1 := Bx.mk hC1
  clear hSA' hS1 hC1 HS HB
  go_wp2_with fail
  go_loopw [8] (fun i wr => ∃ k : Nat, k ≤ n ∧ i = .int .i64 k ∧ Ch (fun _ => False) w1 wr) (fun i _ => n - (intOf i).toNat)
  case atStart => exact ⟨0, Nat.zero_le _, rfl, Ch.refl _ _⟩
  case round =>
    obtain ⟨k, hk, rfl, hC⟩ := hrel
    by_cases hlt : k < n
    · obtain ⟨b, off, x, rfl, _, ex, hc⟩ := (HB1.out.ch hC (fun _ _ _ h => h)).at_ hlt
      obtain ⟨b', off', y, rfl, _, ey, hc'⟩ := (HS1.out.ch hC (fun _ _ _ h => h)).at_ hlt
      obtain rfl : x = y := Option.some.inj (ex.out.symm.trans ey.out)
      have hb : (x != x) = false := by simp
      have HCC := Bx.mk hC
      clear ex ey hC
      go_wp2
      go_quiet (fail)
      go_wp2
      go_roundw
      case rel => exact ⟨k + 1, by omega, by go_num, HCC.out.drewN _⟩
      case measure => simp [intOf]; omega
    · have dk : decide ((k : Int) < (n : Int)) = false := by simp; omega
      have hmk := mkI wr n (by omega)
      go_wp2_with fail
      obtain ⟨G, hG⟩ : ∃ G, wr.heap.size = G := ⟨_, rfl⟩
      obtain ⟨w2, hw2⟩ : ∃ w2, wr.alloc (.cells (madeCells #[.int .i64 0] n) 3) = w2 := ⟨_, rfl⟩
      have hCr : Ch (fun _ => False) wr w2 := by rw [← hw2]; exact (Ch.refl (fun _ => False) wr).alloc _
      have hwG : w.heap.size ≤ G := by rw [← hG]; exact Nat.le_trans HC1.out.size hC.size
      have hw2s : w2.heap.size = G + 1 := by rw [← hw2, World.size_alloc, hG]
      have hO2 : Own w2 3 1 G n n (vals (List.replicate s.length 0)) := by
        unfold vals
        rw [HL.out, List.map_replicate, ← hw2, ← hG]
        exact own_made1 wr 3 (.int .i64 0) n (by omega)
      have hC2 := hC.trans hCr (fun _ _ h => h)
      have HA2 : Bx (Sl w2 (fun b => b < w.heap.size) .i64 A n s) := ⟨HA1.out.ch hC2 (fun _ _ _ h => h)⟩
      have HB2 : Bx (Sl w2 (fun b => b < w.heap.size) .i64 B n (asI L')) := ⟨HB1.out.ch hC2 (fun _ _ _ h => h)⟩
      have HO2 := Bx.mk hO2
      have HC2 := Bx.mk (HC1.out.trans hC2 (fun _ _ h => h))
      rw [hw2, hG]
      clear hmk hC hCr hC2 hO2 hG hw2
      refine (refplaces_any (asI L') B n d w2 HB2.out (by omega)).mono ?_
      rintro e w3 ⟨hgood, _, hC3⟩
      obtain ⟨g, rfl, hat, hg⟩ := hgood (by rw [← HL.out]; exact good_sa HSA.out)
      have hgG : G < g := by omega
      have HA3 : Bx (Sl w3 (fun b => b < w.heap.size) .i64 A n s) := ⟨HA2.out.ch hC3 (fun _ _ _ h => h)⟩
      have HB3 : Bx (Sl w3 (fun b => b < w.heap.size) .i64 B n (asI L')) := ⟨HB2.out.ch hC3 (fun _ _ _ h => h)⟩
      have HO3 := Bx.mk (HO2.out.keep hC3)
      have HAT := Bx.mk hat
      have HC3 := Bx.mk (HC2.out.trans hC3 (fun _ _ h => h))
      have HK : Bx (KInv s L' (List.replicate s.length 0) 0 0) := ⟨kinv_start⟩
      clear hgood hat hC3 hg hw2s HA2 HB2 HO2 HC2 HA1 HB1 HS1 HC1
      go_wp2_with fail
      go_loopw [12, 13, 14] (fun h i _ wr => ∃ (hh ii : Nat) (hs : List Nat), h = .int .i64 hh ∧ i = .int .i64 ii ∧ ii ≤ n ∧ hh ≤ n ∧ KInv s L' hs ii hh ∧ Own wr 3 1 G n n (vals hs) ∧ Ch (fun b => b = G) w3 wr) (fun _ i _ _ => n - (intOf i).toNat)
      case atStart => exact ⟨0, 0, _, rfl, rfl, Nat.zero_le _, Nat.zero_le _, HK.out, HO3.out, Ch.refl _ _⟩
      case round =>
        obtain ⟨hh, ii, hs, rfl, rfl, hii, hhn, hK, hO, hC⟩ := hrel
        by_cases hin : ii < n
        · obtain ⟨j, hj⟩ := HSA.out.find (x := ii) (by rw [HL.out]; exact hin)
          have hca := (HAT.out.ch hC (fun h => by have h' : g = G := h; omega)).cellI hin
          rw [plc_gs HSA.out hj] at hca
          have hjn : j < n := by
            obtain ⟨h1, _⟩ := List.getElem?_eq_some_iff.1 hj
            have := HSA.out.len
            rw [← HL.out]
            omega
          cases j with
          | zero =>
            have hca0 : wr.cell? ⟨g, ii, none⟩ = some (.int .i64 0) := hca
            have HK2 := Bx.mk (hK.first HSA.out hj)
            have HO := Bx.mk hO
            have HC := Bx.mk hC
            clear hca hj hK hO hC
            go_wp2
            go_roundw
            case rel => exact ⟨0, ii + 1, hs, by go_num, by go_num, by omega, Nat.zero_le _, HK2.out, HO.out, HC.out⟩
            case measure => simp [intOf]; omega
          | succ j =>
            have hb0 : (((j + 1 : Nat) : Int) == 0) = false := by simp; omega
            obtain ⟨bb, ob, k0, rfl, hbb, hk0, hcb⟩ := (HB3.out.ch hC (fun b hb _ (e : b = G) => by omega)).at_ (k := j) (by omega)
            obtain ⟨k, rfl, hk⟩ := asI_at hk0.out
            have hkn : k < n := by rw [← HL.out]; exact (HSA.out.mem k).1 (List.mem_of_getElem? hk)
            have hki : k ≠ ii := fun e => by subst e; have := at_one HSA.out.nodup hk hj; omega
            have hE := hK.carry j k hk hj
            have HAo : Bx (Sl wr (fun b => b < w.heap.size) .i64 A n s) := ⟨HA3.out.ch hC (fun b hb _ (e : b = G) => by omega)⟩
            have HE := Bx.mk hE
            have HJ := Bx.mk hj
            have HKK := Bx.mk hk
            have HKI := Bx.mk hK
            have HO := Bx.mk hO
            have HC := Bx.mk hC
            have j1 : ((j + 1 : Nat) : Int) - 1 = (j : Int) := by omega
            clear hk0 hE hj hk hK hO hC
            obtain ⟨wo, rfl⟩ : ∃ wo : World, wo = wr := ⟨_, rfl⟩
            obtain ⟨old, hco⟩ : ∃ old : Value, wo.cell? ⟨G, j + 1, none⟩ = some old := ⟨_, HO.out.cellAt (List.getElem?_eq_getElem (by rw [HO.out.len]; omega))⟩
            have hfo := HO.out.frozenAt (j + 1)
            have i1 : (0 : Int) ≤ ((j + 1 : Nat) : Int) := by omega
            have i2 : ((j + 1 : Nat) : Int) < (n : Int) := by omega
            go_wp2_with fail
            go_loopw [12] (fun h wr => ∃ m q : Nat, m ≤ n ∧ h = .int .i64 m ∧ EqK (gs s) m k ii ∧ wr = wo.drewN q) (fun h _ => n - (intOf h).toNat)
            case atStart => exact ⟨hh, 0, hhn, rfl, HE.out, rfl⟩
            case round =>
              obtain ⟨m, q, hmn, rfl, hem, rfl⟩ := hrel
              have hin2 := eqk_in HP.out (by rw [HL.out]; exact hkn) (by rw [HL.out]; exact hin) hki hem
              rw [HL.out] at hin2
              have hD : (n ≤ ii + m) ∨ (ii + m < n ∧ n ≤ k + m) ∨ (ii + m < n ∧ k + m < n ∧ gs s (ii + m) ≠ gs s (k + m)) ∨ (ii + m < n ∧ k + m < n ∧ gs s (ii + m) = gs s (k + m)) := by
                rcases Nat.lt_or_ge (ii + m) n with h1 | h1
                · rcases Nat.lt_or_ge (k + m) n with h2 | h2
                  · by_cases h3 : gs s (ii + m) = gs s (k + m)
                    · exact .inr (.inr (.inr ⟨h1, h2, h3⟩))
                    · exact .inr (.inr (.inl ⟨h1, h2, h3⟩))
                  · exact .inr (.inl ⟨h1, h2⟩)
                · exact .inl h1
              have hend : (n ≤ ii + m ∨ n ≤ k + m ∨ gs s (ii + m) ≠ gs s (k + m)) → Bx (Lcp s k ii m) := fun h => ⟨lcp_end HP.out (by rw [HL.out]; exact hkn) (by rw [HL.out]; exact hin) hki hem (by rw [HL.out]; exact h)⟩
              have HEM := Bx.mk hem
              have hmx : max (0 : Int) ((m : Int) - 1) = ((m - 1 : Nat) : Int) := by omega
              clear hem
              rcases hD with h1 | ⟨h1, h2⟩ | ⟨h1, h2, h3⟩ | ⟨h1, h2, h3⟩
              · have HM := hend (.inl h1)
                have HKN := Bx.mk (HKI.out.next HP.out HSA.out HKK.out HJ.out HM.out)
                have e1 : decide (((ii : Int) + (m : Int)) < (n : Int)) = false := by simp; omega
                clear hend
                go_wp2_with fail
                go_quiet (fail)
                have hOq := HO.out.keep ((Ch.refl (fun _ => False) wo).drewN (q + nq))
                have hst := hOq.storedN (j + 1) m
                have HST := Bx.mk hst
                clear hOq hst
                go_wp2
                go_roundw
                case rel => exact ⟨m - 1, ii + 1, _, by first | rfl | rw [hmx] | go_num, by go_num, by omega, by omega, HKN.out, HST.out.1, (HC.out.drewN _).trans HST.out.2 (fun _ _ h => h)⟩
                case measure => simp [intOf]; omega
              · have HM := hend (.inr (.inl h2))
                have HKN := Bx.mk (HKI.out.next HP.out HSA.out HKK.out HJ.out HM.out)
                have e1 : decide (((ii : Int) + (m : Int)) < (n : Int)) = true := by simp; omega
                have e2 : decide (((k : Int) + (m : Int)) < (n : Int)) = false := by simp; omega
                clear hend
                go_wp2_with fail
                go_quiet (fail)
                have hOq := HO.out.keep ((Ch.refl (fun _ => False) wo).drewN (q + nq))
                have hst := hOq.storedN (j + 1) m
                have HST := Bx.mk hst
                clear hOq hst
                go_wp2
                go_roundw
                case rel => exact ⟨m - 1, ii + 1, _, by first | rfl | rw [hmx] | go_num, by go_num, by omega, by omega, HKN.out, HST.out.1, (HC.out.drewN _).trans HST.out.2 (fun _ _ h => h)⟩
                case measure => simp [intOf]; omega
              · have HM := hend (.inr (.inr h3))
                have HKN := Bx.mk (HKI.out.next HP.out HSA.out HKK.out HJ.out HM.out)
                obtain ⟨b1, o1, x, rfl, _, hx, hcx⟩ := HAo.out.at_ h1
                obtain ⟨b2, o2, y, hA2, _, hy, hcy⟩ := HAo.out.at_ h2
                injection hA2 with hA2
                injection hA2 with e1 e2
                subst e1 e2
                have hxy : x ≠ y := by rw [gs_at hx.out, gs_at hy.out] at h3; exact h3
                have hb3 : (x == y) = false := by simpa using hxy
                have e1 : decide (((ii : Int) + (m : Int)) < (n : Int)) = true := by simp; omega
                have e2 : decide (((k : Int) + (m : Int)) < (n : Int)) = true := by simp; omega
                have i5 : (0 : Int) ≤ (ii : Int) + (m : Int) := by omega
                have i6 : (ii : Int) + (m : Int) < (n : Int) := by omega
                have i7 : (0 : Int) ≤ (k : Int) + (m : Int) := by omega
                have i8 : (k : Int) + (m : Int) < (n : Int) := by omega
                clear hend hx hy h3 hxy
                go_wp2_with fail
                go_quiet (fail)
                have hOq := HO.out.keep ((Ch.refl (fun _ => False) wo).drewN (q + nq))
                have hst := hOq.storedN (j + 1) m
                have HST := Bx.mk hst
                clear hOq hst
                go_wp2
                go_roundw
                case rel => exact ⟨m - 1, ii + 1, _, by first | rfl | rw [hmx] | go_num, by go_num, by omega, by omega, HKN.out, HST.out.1, (HC.out.drewN _).trans HST.out.2 (fun _ _ h => h)⟩
                case measure => simp [intOf]; omega
              · obtain ⟨b1, o1, x, rfl, _, hx, hcx⟩ := HAo.out.at_ h1
                obtain ⟨b2, o2, y, hA2, _, hy, hcy⟩ := HAo.out.at_ h2
                injection hA2 with hA2
                injection hA2 with e1 e2
                subst e1 e2
                have hxy : x = y := by rw [gs_at hx.out, gs_at hy.out] at h3; exact h3
                subst hxy
                have HEN : Bx (EqK (gs s) (m + 1) k ii) := ⟨EqK.succ HEM.out h3.symm⟩
                have e1 : decide (((ii : Int) + (m : Int)) < (n : Int)) = true := by simp; omega
                have e2 : decide (((k : Int) + (m : Int)) < (n : Int)) = true := by simp; omega
                have i5 : (0 : Int) ≤ (ii : Int) + (m : Int) := by omega
                have i6 : (ii : Int) + (m : Int) < (n : Int) := by omega
                have i7 : (0 : Int) ≤ (k : Int) + (m : Int) := by omega
                have i8 : (k : Int) + (m : Int) < (n : Int) := by omega
                clear hend hx hy h3
                go_wp2_with fail
                go_quiet (fail)
                go_wp2
                go_roundw
                case rel =>
                  repeat apply Exists.intro
                  refine ⟨⟨m + 1, _, by omega, ?hv, HEN.out, rfl⟩, ?hf⟩
                  case hf => congr 1
                  case hv => go_num
                case measure => simp [intOf]; omega
        · have di : decide ((ii : Int) < (n : Int)) = false := by simp; omega
          have HF := Bx.mk (hK.all HSA.out (by rw [HL.out]; omega))
          have HCF : Bx (Ch (fun _ => False) w wr) := ⟨HC3.out.trans hC (fun i hi (h : i = G) => by omega)⟩
          have HO := Bx.mk hO
          clear hK hO hC
          go_wp2
          go_returns
          exact ⟨G, hs, rfl, HF.out, HO.out, hwG, HCF.out⟩
end
end Go.Proofs.Ytmkhndajogcojaa
