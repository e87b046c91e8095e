/-
  The law OpReplies: any reply as bytes, and back.
  Conditions: the numbers read as they say.
-/
import Derived.Test.YtanhnaohmaepoaaOpKnown
import Derived.Test.YtanhnaohmaepoaaOpRep
import Derived.Test.YtanhnaohmaepoaaOpRefRep
import Derived.Test.YtanhnaohmaepoaaOpDecR
import Derived.Test.YtanhnaohmaepoaaOpLawW
namespace Go.Proofs.Ytanhnaohmaepoaa
open Go.RowKit Go.Oct Go.Su Go.Sg Go.Om

/-- A number that comes back. -/
def Fin62 (x : Int) : Prop := 0 ≤ x ∧ x ≤ 4611686018427387904
theorem cast_nat {l : List Int} (h : ∀ x ∈ l, Fin62 x) : (l.map Int.toNat).map (fun x : Nat => (x : Int)) = l := by
  rw [List.map_map]
  refine (List.map_congr_left (g := id) fun x hx => ?_).trans (List.map_id l)
  have := (h x hx).1
  show ((x.toNat : Nat) : Int) = x
  omega
section
variable {F : Nat → Prop}
set_option maxHeartbeats 4000000 in
theorem opreplies_any (er : Int) (l : List Int) (A : Option Addr) (n c : Nat) (w : World) (hz : Sl w F .i64 A n l) (hnc : n ≤ c) (hc : c ≤ maxLen) :
    Calls Try.prog 5 #[.int .i64 er, .slice A n c] w fun e w' => e = .returned (.bool true) ∧ Ch (fun _ => False) w w' := by
  have HZ := Bx.mk hz
  have HC := Bx.mk (And.intro hnc hc)
  have HL := Bx.mk hz.len
  have hn63 : n ≤ 9223372036854775807 := by unfold maxLen at hc; omega
  clear hz hnc hc
  by_cases hbad : er < 0 ∨ 100 < er ∨ 100 < n
  · by_cases h1 : er < 0
    · have d1 : decide (er < 0) = true := decide_eq_true h1
      clear hbad
      go_enter Try.func5, Try.ntmps5
      go_wp2_with fail
      refine (known_any w).mono ?_
      rintro e w1 ⟨rfl, hC⟩
      have HC1 := Bx.mk hC
      clear hC
      go_wp2
      go_ret
      exact ⟨rfl, HC1.out⟩
    · have d1 : decide (er < 0) = false := decide_eq_false h1
      by_cases h2 : 100 < er
      · have d2 : decide (100 < er) = true := decide_eq_true h2
        clear hbad
        go_enter Try.func5, Try.ntmps5
        go_wp2_with fail
        refine (known_any w).mono ?_
        rintro e w1 ⟨rfl, hC⟩
        have HC1 := Bx.mk hC
        clear hC
        go_wp2
        go_ret
        exact ⟨rfl, HC1.out⟩
      · have d2 : decide (100 < er) = false := decide_eq_false h2
        have d3 : decide ((100 : Int) < (n : Int)) = true := decide_eq_true (by omega)
        clear hbad
        go_enter Try.func5, Try.ntmps5
        go_wp2_with fail
        refine (known_any w).mono ?_
        rintro e w1 ⟨rfl, hC⟩
        have HC1 := Bx.mk hC
        clear hC
        go_wp2
        go_ret
        exact ⟨rfl, HC1.out⟩
  · have d1 : decide (er < 0) = false := decide_eq_false (by omega)
    have d2 : decide (100 < er) = false := decide_eq_false (by omega)
    have d3 : decide ((100 : Int) < (n : Int)) = false := decide_eq_false (by omega)
    have d32 : decide (100 < n) = false := decide_eq_false (by omega)
    have hn100 : n ≤ 100 := by omega
    have HER : Bx (0 ≤ er ∧ er ≤ 100) := ⟨by omega⟩
    have HO : Bx ((w.alloc (.cells #[] 3)).ownsRow 0 3 1 (.slice (some ⟨w.heap.size, 0, none⟩) 0 0) 0 []) := ⟨own_emptyB w _⟩
    have hC0 : Ch (fun _ => False) w (w.alloc (.cells #[] 3)) := (Ch.refl _ _).alloc _
    have HZ0 := Bx.mk (HZ.out.ch hC0 (fun _ _ _ h => h))
    have HG0 : Bx (Gs 3 1 w (w.alloc (.cells #[] 3)) (.slice (some ⟨w.heap.size, 0, none⟩) 0 0) 0 []) := ⟨HO.out, fun g hg => by simp [Value.ownBlock] at hg; omega, hC0⟩
    clear hbad hC0
    go_enter Try.func5, Try.ntmps5
    go_wp2_with (at_builtin; refine wp_app rfl (.tmp 22) (.tmp 23) elemI rfl rfl HO.out rfl HZ0.out ?c1 ?c2 ?c3 ?_)
    case c1 => exact ints_cells _ _
    case c2 => omega
    case c3 => omega
    intro v1 w1 ho hg hb
    have hG1 : Gs 3 1 w w1 v1 n (l.map (Value.int .i64)) := by
      have h := HG0.out.app (m := n) (news := l.map (Value.int .i64)) (Ch.refl _ _) (by rw [Nat.zero_add]; exact ho) hg (by rw [World.size_alloc]; exact hb)
      rw [Nat.zero_add] at h
      exact h
    obtain ⟨A1, c1, rfl, h11, h12⟩ := hG1.shape
    have hS1 : Sl w1 (fun b => w.heap.size ≤ b) .i64 A1 n l := hG1.vs
    have HS1 := Bx.mk hS1
    have HC1 := Bx.mk hG1.ch
    have HE := Bx.mk (erep_any er l A1 n c1 w1 hS1 (by omega) h11 h12)
    obtain ⟨R, hR⟩ : ∃ R, repB er l = R := ⟨_, rfl⟩
    have HRR := Bx.mk hR
    rw [hR] at HE
    clear ho hg hb HG0 HZ0 HO hG1 hS1 hR h11 h12
    go_wp2_with fail
    refine HE.out.mono ?_
    rintro e w2 ⟨v2, rfl, hf2⟩
    obtain ⟨A2, c2, rfl, h21, h22⟩ := own_shape hf2.1
    obtain ⟨r, hr⟩ : ∃ r, R.length = r := ⟨_, rfl⟩
    have hr90 : r ≤ 90 := by rw [← hr, ← HRR.out]; exact rep_len er l
    have HS2 := Bx.mk (Fresh.sl hf2 rfl)
    rw [hr] at HS2 h21 ⊢
    have HC2 := Bx.mk (HC1.out.trans hf2.2.2 (fun _ _ h => h))
    have HSW2 := Bx.mk (HS1.out.ch hf2.2.2 (fun _ _ _ h => h))
    have HD2 := Bx.mk (And.intro h21 h22)
    have HRF := Bx.mk (refrep_any er l A n c w2 (HZ.out.ch HC2.out (fun _ _ _ h => h)) (by omega) HC.out.1 HC.out.2)
    rw [HRR.out] at HRF
    have HRL := Bx.mk hr
    clear hf2 HE hr h21 h22
    go_wp2_with fail
    refine HRF.out.mono ?_
    rintro e w3 ⟨v3, rfl, hf3⟩
    obtain ⟨A3, c3, rfl, _, _⟩ := own_shape hf3.1
    have hS3 := Fresh.sl hf3 rfl
    rw [HRL.out] at hS3 ⊢
    have HC3 := Bx.mk (HC2.out.trans hf3.2.2 (fun _ _ h => h))
    have HS23 := Bx.mk (HS2.out.ch hf3.2.2 (fun _ _ _ h => h))
    have HSM := Bx.mk (same_o A2 A3 r r c2 c3 R R _ _ w3 (by omega) (by omega) HS23.out hS3 true (by simp))
    have HSW3 := Bx.mk (HSW2.out.ch hf3.2.2 (fun _ _ _ h => h))
    clear hf3 hS3 HRF HS2
    go_wp2_with fail
    refine HSM.out.mono ?_
    rintro e w4 ⟨rfl, hC4⟩
    have HC4 := Bx.mk (HC3.out.trans hC4 (fun _ _ h => h))
    have HS4 := Bx.mk (HS23.out.ch hC4 (fun _ _ _ h => h))
    have HIN := Bx.mk (ints_o A1 A n n c1 c l l _ _ w4 (by omega) (by omega) (HSW3.out.ch hC4 (fun _ _ _ h => h)) (HZ.out.ch HC4.out (fun _ _ _ h => h)) true (by simp))
    clear hC4 HSM HS23
    go_wp2_with fail
    refine HIN.out.mono ?_
    rintro e w5 ⟨rfl, hC5⟩
    have HC5 := Bx.mk (HC4.out.trans hC5 (fun _ _ h => h))
    have HS5 := Bx.mk (HS4.out.ch hC5 (fun _ _ _ h => h))
    clear hC5 HIN HS4 HSW3 HSW2 HS1 HC1 HC2 HC3 HC4
    go_wp2_with fail
    go_loopw [7] (fun i wr => ∃ k : Nat, k ≤ n ∧ i = .int .i64 k ∧ wr = w5 ∧ Bx (∀ x ∈ l.take k, Fin62 x)) (fun i _ => n - (intOf i).toNat)
    case atStart => exact ⟨0, Nat.zero_le _, rfl, rfl, ⟨fun x hx => by simp at hx⟩⟩
    case round =>
      obtain ⟨k, hk, rfl, rfl, HK⟩ := hrel
      by_cases hkn : k < n
      · have dk : decide ((k : Int) < (n : Int)) = true := decide_eq_true (by omega)
        have i1 : (k : Int) < (n : Int) := by omega
        obtain ⟨b, off, x, rfl, _, hx, hcx⟩ := HZ.out.at_ hkn
        have hcx5 := HC5.out.cell (fun h => h) hcx
        have HX := Bx.mk hx.out
        clear hx
        by_cases hx1 : x < 0
        · have dx : decide (x < 0) = true := decide_eq_true hx1
          clear hx1
          go_wp2_with fail
          refine (known_any _).mono ?_
          rintro e w6 ⟨rfl, hC⟩
          have HC6 := Bx.mk (HC5.out.trans hC (fun _ _ h => h))
          clear hC
          go_wp2
          go_ret
          exact ⟨rfl, HC6.out⟩
        · have dx : decide (x < 0) = false := decide_eq_false hx1
          by_cases hx2 : 4611686018427387904 < x
          · have dx2 : decide ((4611686018427387904 : Int) < x) = true := decide_eq_true hx2
            clear hx1 hx2
            go_wp2_with fail
            refine (known_any _).mono ?_
            rintro e w6 ⟨rfl, hC⟩
            have HC6 := Bx.mk (HC5.out.trans hC (fun _ _ h => h))
            clear hC
            go_wp2
            go_ret
            exact ⟨rfl, HC6.out⟩
          · have dx2 : decide ((4611686018427387904 : Int) < x) = false := decide_eq_false hx2
            have HK2 : Bx (∀ y ∈ l.take (k + 1), Fin62 y) := ⟨fun y hy => by
              rw [Oct.take_more HX.out] at hy
              rcases List.mem_append.1 hy with h | h
              · exact HK.out y h
              · simp at h
                subst h
                exact ⟨by omega, by omega⟩⟩
            clear hx1 hx2
            go_wp2_with fail
            go_roundw
            case rel => exact ⟨k + 1, by omega, by go_num, trivial, HK2⟩
            case measure => simp [intOf]; omega
      · obtain rfl : n = k := by omega
        have dk : decide ((n : Int) < (n : Int)) = false := decide_eq_false (by omega)
        have dk2 : decide (n < n) = false := decide_eq_false (by omega)
        have HALL : Bx (∀ x ∈ l, Fin62 x) := ⟨by
          have h := HK.out
          rwa [List.take_of_length_le (Nat.le_of_eq HL.out)] at h⟩
        have HD := Bx.mk (decrep_any R A2 r c2 wr HS5.out (by rw [← HRR.out]; exact byt_rep er l) (by omega) HD2.out.1 HD2.out.2)
        clear HK
        go_wp2_with fail
        refine HD.out.mono ?_
        have hmine : GoodR er.toNat ((l.take 8).map Int.toNat) R := by
          have h := repB_good (e := er.toNat) (l := l) (by have := HER.out; omega) (fun x hx => HALL.out x hx)
          rw [show ((er.toNat : Nat) : Int) = er by have := HER.out; omega, HRR.out] at h
          exact h
        have HMINE := Bx.mk hmine
        clear hmine
        rintro e w6 (⟨er', l', A6, c6, hg, rfl, hrow⟩ | ⟨hno, _⟩)
        case inr => exact absurd HMINE.out (hno _ _)
        case inl =>
        obtain ⟨he, hl⟩ := hg.uniq HMINE.out
        subst hl
        have hee : ((er' : Nat) : Int) = er := by rw [he]; have := HER.out; omega
        rw [hee]
        have hS6 : Sl w6 (fun b => wr.heap.size ≤ b) .i64 A6 ((l.take 8).map Int.toNat).length (l.take 8) := by
          have h := hrow.vs
          unfold Sl
          have e : vals ((l.take 8).map Int.toNat) = (l.take 8).map (Value.int .i64) := by
            unfold vals
            rw [show (((l.take 8).map Int.toNat).map fun x : Nat => Value.int .i64 (x : Int)) = (((l.take 8).map Int.toNat).map (fun x : Nat => (x : Int))).map (Value.int .i64) by simp [Function.comp_def], cast_nat (fun x hx => HALL.out x (List.mem_of_mem_take hx))]
          rw [← e]
          exact h
        obtain ⟨m, hm⟩ : ∃ m, ((l.take 8).map Int.toNat).length = m := ⟨_, rfl⟩
        have hm2 : m = if 8 < n then 8 else n := by rw [← hm, List.length_map, List.length_take, HL.out]; split <;> omega
        have HT6 : Bx (Sl w6 F .i64 A m (l.take 8)) := ⟨by
          have hz := HZ.out.ch (HC5.out.trans hrow.ch (fun _ _ h => h)) (fun _ _ _ h => h)
          unfold Sl
          rw [List.map_take]
          have h := Vs.take hz (show m ≤ n by rw [hm2]; split <;> omega)
          have e : (l.map (Value.int .i64)).take 8 = (l.map (Value.int .i64)).take m := by
            rw [hm2]
            by_cases h8 : 8 < n
            · rw [if_pos h8]
            · rw [if_neg h8]
              rw [List.take_of_length_le (by rw [List.length_map, HL.out]; omega), List.take_of_length_le (by rw [List.length_map, HL.out]; omega)]
          rw [e]
          exact h⟩
        rw [hm] at hS6 ⊢
        obtain ⟨L8, hL8⟩ : ∃ L, l.take 8 = L := ⟨_, rfl⟩
        rw [hL8] at hS6 HT6
        obtain ⟨w7, hw7⟩ : ∃ w7, w6.alloc (.cells #[.int .i64 er, .slice A6 m c6] 41) = w7 := ⟨_, rfl⟩
        obtain ⟨b8, hb8⟩ : ∃ b, w6.heap.size = b := ⟨_, rfl⟩
        have hR7 : RpB w7 b8 er (.slice A6 m c6) := by rw [← hw7, ← hb8]; exact heap_alloc_new w6 _
        have hC67 : Ch (fun _ => False) w6 w7 := by rw [← hw7]; exact (Ch.refl _ _).alloc _
        have HC7 := Bx.mk ((HC5.out.trans hrow.ch (fun _ _ h => h)).trans hC67 (fun _ _ h => h))
        have HS7 := Bx.mk (hS6.ch hC67 (fun _ _ _ h => h))
        have HT7 := Bx.mk (HT6.out.ch hC67 (fun _ _ _ h => h))
        obtain ⟨y0, y1, _, _⟩ := hR7.facts
        have hee2 : ((er : Int) == er) = true := by simp
        have hc63 : c ≤ 9223372036854775807 := by have := HC.out.2; unfold maxLen at this; omega
        have hnc := HC.out.1
        clear hg hrow he hee hS6 HT6 hm hL8 hR7 hC67 HD HMINE
        by_cases h8 : 8 < n
        · rw [if_pos h8] at hm2
          subst hm2
          have d8 : decide ((8 : Int) < (n : Int)) = true := decide_eq_true (by omega)
          have hq : (if (n : Int) < 8 then (n : Int) else 8) = 8 := if_neg (by omega)
          have hq2 : (8 : Int) ≤ (c : Int) := by omega
          have hq3 : 8 ≤ c := by omega
          have HINT := Bx.mk (ints_o A6 A 8 8 c6 c L8 L8 _ _ w7.drew (by omega) (by omega) (HS7.out.ch ((Ch.refl (fun _ => False) w7).drew) (fun _ _ _ h => h)) (HT7.out.ch ((Ch.refl (fun _ => False) w7).drew) (fun _ _ _ h => h)) true (by simp))
          go_upto_region 13 with fail
          go_region_law ((first
            | (go_simp; go_at_call 13; refine (known_any w8).mono ?_; rintro e w9 ⟨rfl, hC9⟩; have HC9 := Bx.mk (HC8.out.trans hC9 (fun _ _ h => h)); clear hC9)
            | (go_simp; go_at_call 21; refine (HINT.out).mono ?_; rintro e w8 ⟨rfl, hC8⟩; have HC8 := Bx.mk ((HC7.out.drew).trans hC8 (fun _ _ h => h)); clear hC8)))
          all_goals
            go_wp2
            go_ret
            exact ⟨rfl, HC9.out⟩
        · rw [if_neg h8] at hm2
          subst hm2
          have hq : (if (m : Int) < 8 then (m : Int) else 8) = (m : Int) := by split <;> omega
          have hq2 : (m : Int) ≤ (c : Int) := by omega
          have HINT := Bx.mk (ints_o A6 A m m c6 c L8 L8 _ _ w7.drew (by omega) (by omega) (HS7.out.ch ((Ch.refl (fun _ => False) w7).drew) (fun _ _ _ h => h)) (HT7.out.ch ((Ch.refl (fun _ => False) w7).drew) (fun _ _ _ h => h)) true (by simp))
          go_upto_region 13 with fail
          go_region_law ((first
            | (go_simp; go_at_call 13; refine (known_any w8).mono ?_; rintro e w9 ⟨rfl, hC9⟩; have HC9 := Bx.mk (HC8.out.trans hC9 (fun _ _ h => h)); clear hC9)
            | (go_simp; go_at_call 21; refine (HINT.out).mono ?_; rintro e w8 ⟨rfl, hC8⟩; have HC8 := Bx.mk ((HC7.out.drew).trans hC8 (fun _ _ h => h)); clear hC8)))
          all_goals
            go_wp2
            go_ret
            exact ⟨rfl, HC9.out⟩
end
end Go.Proofs.Ytanhnaohmaepoaa
