/-
  The law OpMatches: any places as bytes, and back.
  Conditions: the places read as they say; nothing is longer than the form's own reach.
-/
import Derived.Test.YtanhnaohmaepoaaOpKnown
import Derived.Test.YtanhnaohmaepoaaOpMat
import Derived.Test.YtanhnaohmaepoaaOpRefMat
import Derived.Test.YtanhnaohmaepoaaOpDecM
import Derived.Test.YtanhnaohmaepoaaOpMats
import Derived.Test.YtanhnaohmaepoaaOpLawW
namespace Go.Proofs.Ytanhnaohmaepoaa
open Go.RowKit Go.Oct Go.Su Go.Sg Go.Om

theorem w64_three {q p q5 q6 : Nat} (h5 : q + 5 = q5) (h6 : q5 + p = q6) (hs : q6 ≤ 1000000000000000000) : wrap64 ((q : Int) + 5 + (p : Int)) = (q6 : Int) := by
  unfold wrap64
  omega
/-- What the law adds up. -/
def wM (l : List (Key × Int)) : Nat := (l.map fun m => 5 + m.1.length).sum
theorem wM_more {l : List (Key × Int)} {k : Nat} {m : Key × Int} (h : l[k]? = some m) : wM (l.take (k + 1)) = wM (l.take k) + (5 + m.1.length) := by
  unfold wM
  rw [Oct.take_more h, List.map_append, List.sum_append]
  simp
theorem wM_len (l : List (Key × Int)) : 5 * l.length ≤ wM l := by
  induction l with
  | nil => simp [wM]
  | cons a l ih =>
    have e : wM (a :: l) = 5 + a.1.length + wM l := by simp [wM]
    rw [e, List.length_cons]
    omega
theorem wM_le {l : List (Key × Int)} {N : Nat} (h : wM l ≤ N) (hN : N ≤ 1000000) : (l.flatMap mB).length ≤ 6 * N := by
  induction l generalizing N with
  | nil => simp
  | cons a l ih =>
    have e : wM (a :: l) = 5 + a.1.length + wM l := by simp [wM]
    have h1 := ih (N := N - (5 + a.1.length)) (by omega) (by omega)
    rw [List.flatMap_cons, List.length_append]
    have h2 : (mB a).length ≤ a.1.length + 18 := by
      unfold mB
      rw [List.length_append]
      have h3 := rowB_len (xs := kI a.1) rfl (by rw [kI_len]; omega)
      have h4 := encI_len a.2
      rw [kI_len] at h3
      omega
    omega
theorem mat_len {l : List (Key × Int)} {N : Nat} (h : wM l ≤ N) (hN : N ≤ 10000) : (matB l).length ≤ 90000 := by
  unfold matB
  rw [List.length_append]
  have h1 := wM_le h (by omega)
  have h2 := encI_len (l.length : Int)
  omega
/-- What ReadMatches told, whoever told it. -/
def Told (xs : List Int) (w w' : World) (er : Int) (A : Option Addr) (k c : Nat) : Prop := Ch (fun _ => False) w w' ∧ ((er = 0 ∧ ∃ l, GoodM l xs ∧ l.length = k ∧ Gs 59 2 w w' (.slice A k c) k (valM l)) ∨ (er = 3 ∧ ∀ l, ¬ GoodM l xs))
theorem DMatPost.view {xs : List Int} {w w' : World} {e : Ending} (h : DMatPost xs w e w') : ∃ (er : Int) (A : Option Addr) (k c : Nat), e = .returned (.tuple #[.slice A k c, .int .i64 er]) ∧ Told xs w w' er A k c := by
  rcases h with ⟨l, A, c, hg, he, hr⟩ | ⟨hno, he, hc⟩
  · exact ⟨0, A, l.length, c, he, hr.ch, .inl ⟨rfl, l, hg, rfl, hr⟩⟩
  · exact ⟨3, none, 0, 0, he, hc, .inr ⟨rfl, hno⟩⟩
theorem Told.same {xs : List Int} {w w' u u' : World} {er er' : Int} {A A' : Option Addr} {k k' c c' : Nat} (h : Told xs w w' er A k c) (h' : Told xs u u' er' A' k' c') : er = er' := by
  rcases h.2 with ⟨e, l, hg, _⟩ | ⟨e, hno⟩ <;> rcases h'.2 with ⟨e', l', hg', _⟩ | ⟨e', hno'⟩
  · rw [e, e']
  · exact absurd hg (hno' l)
  · exact absurd hg' (hno l')
  · rw [e, e']
instance (m : Key × Int) : Decidable (OkM m) := by unfold OkM; exact inferInstance
section
variable {F : Nat → Prop}
set_option maxHeartbeats 4000000 in
set_option maxRecDepth 100000 in
theorem opmatches_any (l : List (Key × Int)) (A : Option Addr) (n c : Nat) (w : World) (hz : Mts w F A n l) (hnc : n ≤ c) (hc : c ≤ maxLen) (hn : n ≤ 140737488351232) (hk : ∀ m ∈ l, m.1.length ≤ 140737488351232) :
    Calls Try.prog 6 #[.slice A n c] w fun e w' => e = .returned (.bool true) ∧ Ch (fun _ => False) w w' := by
  have HZ := Bx.mk hz
  have HC := Bx.mk (And.intro hnc hc)
  have HL : Bx (l.length = n) := ⟨Ro.len hz⟩
  have HK := Bx.mk hk
  clear hz hnc hc hk
  go_enter Try.func6, Try.ntmps6
  go_wp2_with fail
  go_loopw [3, 4] (fun s i wr => ∃ k q : Nat, k ≤ n ∧ i = .int .i64 k ∧ s = .int .i64 q ∧ wr = w ∧ q ≤ 140737488357245 ∧ Bx (q = wM (l.take k))) (fun _ i _ => n - (intOf i).toNat)
  case atStart => exact ⟨0, 0, Nat.zero_le _, rfl, rfl, rfl, by omega, ⟨rfl⟩⟩
  case round =>
    obtain ⟨k, q, hk, rfl, rfl, rfl, hq, HQ⟩ := hrel
    by_cases hgo : k < n ∧ q ≤ 6000
    · obtain ⟨hkn, hq6⟩ := hgo
      have dk : decide ((k : Int) < (n : Int)) = true := decide_eq_true (by omega)
      have i1 : (k : Int) < (n : Int) := by omega
      have dq : decide ((q : Int) ≤ 6000) = true := decide_eq_true (by omega)
      obtain ⟨b, off, m, rfl, _, hx, hcx, _⟩ := HZ.out.get hkn
      obtain ⟨S, p, hS, hz, hp⟩ : ∃ (S : ByteArray) (p : Nat), kv m.1 = .string S ∧ S.size = p ∧ m.1.length = p := ⟨_, _, rfl, kv_size m.1, rfl⟩
      rw [hS] at hcx
      have hpl : p ≤ 140737488351232 := by rw [← hp]; exact HK.out m (List.mem_of_getElem? hx.out)
      obtain ⟨q5, hq5⟩ : ∃ s, q + 5 = s := ⟨_, rfl⟩
      obtain ⟨q6, hq6'⟩ : ∃ s, q5 + p = s := ⟨_, rfl⟩
      have HQ6 : Bx (q6 = wM (l.take (k + 1))) := ⟨by rw [wM_more hx.out, ← HQ.out, hp]; omega⟩
      have l5 : q5 ≤ 1000000000000000000 := by omega
      have l6 : q6 ≤ 1000000000000000000 := by omega
      have l7 : q6 ≤ 140737488357245 := by omega
      have HE7 : Bx (wrap64 ((q : Int) + 5 + (p : Int)) = (q6 : Int)) := ⟨w64_three hq5 hq6' l6⟩
      have HL7 := Bx.mk l7
      clear hx hS hp hpl hq5 hq6' l5 l6 l7
      go_wp2_with fail
      go_roundw
      case rel => exact ⟨k + 1, q6, by omega, by go_num, by first | rfl | exact congrArg (Value.int .i64) HE7.out, by first | rfl | trivial, HL7.out, HQ6⟩
      case measure => simp [intOf]; omega
    · by_cases hbig : 6000 < q
      · have dq : decide ((q : Int) ≤ 6000) = false := decide_eq_false (by omega)
        have dq2 : decide (q ≤ 6000) = false := decide_eq_false (by omega)
        have dt : decide ((6000 : Int) < (q : Int)) = true := decide_eq_true (by omega)
        by_cases hkn : k < n
        · have dk : decide ((k : Int) < (n : Int)) = true := decide_eq_true (by omega)
          clear hgo
          go_wp2_with fail
          go_ret
          exact ⟨rfl, Ch.refl _ _⟩
        · have dk : decide ((k : Int) < (n : Int)) = false := decide_eq_false (by omega)
          have dk2 : decide (k < n) = false := decide_eq_false (by omega)
          clear hgo
          go_wp2_with fail
          go_ret
          exact ⟨rfl, Ch.refl _ _⟩
      · obtain rfl : n = k := by omega
        have dk : decide ((n : Int) < (n : Int)) = false := decide_eq_false (by omega)
        have dk2 : decide (n < n) = false := decide_eq_false (by omega)
        have dt : decide ((6000 : Int) < (q : Int)) = false := decide_eq_false (by omega)
        have dt2 : decide (6000 < q) = false := decide_eq_false (by omega)
        have hw : wM l ≤ 6000 := by
          have h := HQ.out
          rw [List.take_of_length_le (Nat.le_of_eq HL.out)] at h
          omega
        have hn6 : n ≤ 6000 := by have := wM_len l; have := HL.out; omega
        have HW := Bx.mk hw
        have HM := Bx.mk (mats_any l A n c wr HZ.out (by omega) (by have := wM_le hw (by omega); omega))
        clear hgo hbig hw
        go_wp2_with fail
        refine HM.out.mono ?_
        rintro e w2 ⟨v2, rfl, hf2⟩
        obtain ⟨A2, c2, rfl, h21, h22⟩ := own_shape hf2.1
        obtain ⟨R, hR⟩ : ∃ R, matB l = R := ⟨_, rfl⟩
        have HRR := Bx.mk hR
        obtain ⟨r, hr⟩ : ∃ r, R.length = r := ⟨_, rfl⟩
        have hr90 : r ≤ 90000 := by rw [← hr, ← hR]; exact mat_len HW.out (by omega)
        rw [hR] at hf2 h21 ⊢
        have HS2 := Bx.mk (Fresh.sl hf2 rfl)
        rw [hr] at HS2 h21 ⊢
        have HC2 := Bx.mk hf2.2.2
        have HD2 := Bx.mk (And.intro h21 h22)
        have HRF := Bx.mk (refmat_any l A n c w2 (HZ.out.ch HC2.out (fun _ _ _ h => h)) (by omega) (by have := wM_le HW.out (by omega); omega))
        rw [HRR.out] at HRF
        have HRL := Bx.mk hr
        clear hf2 hr h21 h22 hR HM
        go_wp2_with fail
        refine HRF.out.mono ?_
        rintro e w3 ⟨v3, rfl, hf3⟩
        obtain ⟨A3, c3, rfl, _, _⟩ := own_shape hf3.1
        have hS3 := Fresh.sl hf3 rfl
        rw [HRL.out] at hS3 ⊢
        have HC3 := Bx.mk (HC2.out.trans hf3.2.2 (fun _ _ h => h))
        have HS23 := Bx.mk (HS2.out.ch hf3.2.2 (fun _ _ _ h => h))
        have HSM := Bx.mk (same_o A2 A3 r r c2 c3 R R _ _ w3 (by omega) (by omega) HS23.out hS3 true (by simp))
        clear hf3 hS3 HRF HS2
        go_wp2_with fail
        refine HSM.out.mono ?_
        rintro e w4 ⟨rfl, hC4⟩
        have HC4 := Bx.mk (HC3.out.trans hC4 (fun _ _ h => h))
        have HS4 := Bx.mk (HS23.out.ch hC4 (fun _ _ _ h => h))
        have HRD := Bx.mk (decmat_any R A2 r c2 w4 HS4.out (by rw [← HRR.out]; exact byt_mat l) (by omega) HD2.out.1 HD2.out.2)
        clear hC4 HSM HS23 HC3 HC2
        go_wp2_with fail
        refine HRD.out.mono ?_
        rintro e w5 he5
        obtain ⟨er, A5, n5, c5, rfl, hT5⟩ := he5.view
        have HT5 := Bx.mk hT5
        have HC5 := Bx.mk (HC4.out.trans hT5.1 (fun _ _ h => h))
        have HS5 := Bx.mk (HS4.out.ch hT5.1 (fun _ _ _ h => h))
        clear he5 hT5 HRD HS4
        go_wp2_with fail
        go_loopw [8] (fun i wq => ∃ k : Nat, k ≤ n ∧ i = .int .i64 k ∧ wq = w5 ∧ Bx (∀ m ∈ l.take k, OkM m)) (fun i _ => n - (intOf i).toNat)
        case atStart => exact ⟨0, Nat.zero_le _, rfl, rfl, ⟨fun m hm => by simp at hm⟩⟩
        case round =>
          obtain ⟨k, hk, rfl, rfl, HO⟩ := hrel
          by_cases hkn : k < n
          · have dk : decide ((k : Int) < (n : Int)) = true := decide_eq_true (by omega)
            have i1 : (k : Int) < (n : Int) := by omega
            obtain ⟨b, off, m, rfl, _, hx, hcx0, hcx1⟩ := HZ.out.get hkn
            have g0 := HC5.out.cell (fun h => h) hcx0
            have g1 := HC5.out.cell (fun h => h) hcx1
            have HX := Bx.mk hx.out
            obtain ⟨S, p, hS, hz, hp⟩ : ∃ (S : ByteArray) (p : Nat), kv m.1 = .string S ∧ S.size = p ∧ m.1.length = p := ⟨_, _, rfl, kv_size m.1, rfl⟩
            rw [hS] at g0
            obtain ⟨a, ha⟩ : ∃ a, m.2 = a := ⟨_, rfl⟩
            rw [ha] at g1
            have HOM : Bx (OkM m ↔ 1 ≤ p ∧ p ≤ 64 ∧ 0 ≤ a ∧ a ≤ 4611686018427387904) := ⟨by
              unfold OkM
              rw [ha, ← hp]
              exact ⟨fun ⟨h1, h2, h3⟩ => ⟨h1.1, h1.2, h2, h3⟩, fun ⟨h1, h2, h3, h4⟩ => ⟨⟨h1, h2⟩, h3, h4⟩⟩⟩
            obtain ⟨bad, hbad⟩ : ∃ bad : Bool, decide (¬ (1 ≤ p ∧ p ≤ 64 ∧ 0 ≤ a ∧ a ≤ 4611686018427387904)) = bad := ⟨_, rfl⟩
            have HBAD := Bx.mk hbad
            clear hx hS hp ha hcx0 hcx1 hbad
            go_upto_region 15 with fail
            go_cut [81] from 50 to 81 (fun s wx => s = .bool bad ∧ wr = wx)
            case first =>
              by_cases h1 : p < 1
              · have e1 : decide ((p : Int) < 1) = true := decide_eq_true (by omega)
                obtain rfl : true = bad := by rw [← HBAD.out]; exact (decide_eq_true (by omega)).symm
                clear h1
                go_wp2_with fail
                all_goals
                  go_meet
                  exact ⟨rfl, rfl⟩
              · have e1 : decide ((p : Int) < 1) = false := decide_eq_false (by omega)
                by_cases h2 : 64 < p
                · have e2 : decide ((64 : Int) < (p : Int)) = true := decide_eq_true (by omega)
                  obtain rfl : true = bad := by rw [← HBAD.out]; exact (decide_eq_true (by omega)).symm
                  clear h1 h2
                  go_wp2_with fail
                  all_goals
                    go_meet
                    exact ⟨rfl, rfl⟩
                · have e2 : decide ((64 : Int) < (p : Int)) = false := decide_eq_false (by omega)
                  by_cases h3 : a < 0
                  · have e3 : decide (a < 0) = true := decide_eq_true h3
                    obtain rfl : true = bad := by rw [← HBAD.out]; exact (decide_eq_true (by omega)).symm
                    clear h1 h2 h3
                    go_wp2_with fail
                    all_goals
                      go_meet
                      exact ⟨rfl, rfl⟩
                  · have e3 : decide (a < 0) = false := decide_eq_false h3
                    have hb : decide ((4611686018427387904 : Int) < a) = bad := by
                      rw [← HBAD.out]
                      exact decide_eq_decide.2 (by omega)
                    clear h1 h2 h3
                    go_wp2_with fail
                    all_goals
                      go_meet
                      exact ⟨rfl, rfl⟩
            case rest =>
            obtain ⟨rfl, rfl⟩ := hcut
            cases bad with
            | true =>
              have HRF := Bx.mk (refdmat_any R A2 r c2 wr HS5.out (by rw [← HRR.out]; exact byt_mat l) (by omega) HD2.out.1 HD2.out.2)
              clear g0 g1 hz
              go_wp2_with fail
              refine HRF.out.mono ?_
              rintro e w6 he6
              obtain ⟨er', A6, n6, c6, rfl, hT6⟩ := he6.view
              obtain rfl := HT5.out.same hT6
              have hee : (er == er) = true := by simp
              have HC6 := Bx.mk (HC5.out.trans hT6.1 (fun _ _ h => h))
              clear he6 hT6 HRF
              go_wp2_with fail
              refine (known_any _).mono ?_
              rintro e w7 ⟨rfl, hC7⟩
              have HC7 := Bx.mk (HC6.out.trans hC7 (fun _ _ h => h))
              clear hC7
              go_wp2
              go_ret
              exact ⟨rfl, HC7.out⟩
            | false =>
              have HO2 : Bx (∀ y ∈ l.take (k + 1), OkM y) := ⟨fun y hy => by
                rw [Oct.take_more HX.out] at hy
                rcases List.mem_append.1 hy with h | h
                · exact HO.out y h
                · simp at h
                  subst h
                  have := HBAD.out
                  exact HOM.out.2 (by simpa using of_decide_eq_false this)⟩
              clear g0 g1 hz
              go_wp2_with fail
              go_roundw
              case rel => exact ⟨k + 1, by omega, by go_num, by first | rfl | trivial, HO2⟩
              case measure => simp [intOf]; omega
          · obtain rfl : n = k := by omega
            have dk : decide ((n : Int) < (n : Int)) = false := decide_eq_false (by omega)
            have dk2 : decide (n < n) = false := decide_eq_false (by omega)
            have hall : ∀ m ∈ l, OkM m := by
              have h := HO.out
              rwa [List.take_of_length_le (Nat.le_of_eq HL.out)] at h
            have hg : GoodM l R := by
              have h := matB_good hall (by have ht : (top62 : Nat) = 4611686018427387904 := rfl; rw [HL.out]; omega)
              rw [HRR.out] at h
              exact h
            rcases HT5.out.2 with ⟨rfl, l', hg', hl', hr'⟩ | ⟨_, hno⟩
            case inr => exact absurd hg (hno l)
            case inl =>
            obtain rfl := hg'.uniq hg
            have hM5 := Gs.mts hr' hl'
            have HMT := Bx.mk (lawmatches_any l' l' A5 A n5 n c5 c wr hM5 (HZ.out.ch HC5.out (fun _ _ _ h => h)) (by have := HL.out; omega) true (by simp))
            clear hall hg hg' hl' hr' hM5 HO HT5
            go_wp2_with fail
            refine HMT.out.mono ?_
            rintro e w6 ⟨rfl, q6, hq6⟩
            have HC6 := Bx.mk (HC5.out.drewN q6)
            rw [← hq6] at HC6
            clear hq6 HMT
            go_wp2_with fail
            refine (known_any _).mono ?_
            rintro e w7 ⟨rfl, hC7⟩
            have HC7 := Bx.mk (HC6.out.trans hC7 (fun _ _ h => h))
            clear hC7
            go_wp2
            go_ret
            exact ⟨rfl, HC7.out⟩
end
end Go.Proofs.Ytanhnaohmaepoaa
