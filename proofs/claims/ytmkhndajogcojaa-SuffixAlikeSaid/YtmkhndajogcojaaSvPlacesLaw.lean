/-
  The walk of the law SuffixPlaces: true for every input.
-/
import Derived.Test.YtmkhndajogcojaaSvKnown
namespace Go.Proofs.Ytmkhndajogcojaa
open Go.RowKit Go.Oct Go.Su
/-- What both Places answer, refusals too. -/
def PlcAny (xs : List Int) (n : Nat) (w : World) (e : Ending) (w' : World) : Prop := ∃ (A : Option Addr) (c m : Nat) (q : List Int) (ec : Int), e = .returned (.tuple #[.slice A m c, .int .i64 ec]) ∧ Sl w' (fun b => w.heap.size ≤ b) .i64 A m q ∧ ((Good xs n ∧ ec = 0 ∧ m = n ∧ q = plc xs) ∨ (¬ Good xs n ∧ ec = 1 ∧ m = 0 ∧ q = [])) ∧ Ch (fun _ => False) w w'
theorem plc_any {xs : List Int} {n : Nat} {w w' : World} {e : Ending} (h : Placed xs n w e w') : PlcAny xs n w e w' := by
  obtain ⟨h1, h2, h3⟩ := h
  by_cases g : Good xs n
  · obtain ⟨b, rfl, hO, hb⟩ := h1 g
    exact ⟨_, n, n, _, 0, rfl, hO.sl.mono (fun k _ hk => by omega), .inl ⟨g, rfl, rfl, rfl⟩, h3⟩
  · rw [h2 g]
    exact ⟨none, 0, 0, [], 1, rfl, Sl.nil _ _ _ _, .inr ⟨g, rfl, rfl, rfl⟩, h3⟩
theorem plc_one {xs : List Int} {n m m' : Nat} {ec ec' : Int} {q q' : List Int} (a : (Good xs n ∧ ec = 0 ∧ m = n ∧ q = plc xs) ∨ (¬ Good xs n ∧ ec = 1 ∧ m = 0 ∧ q = [])) (b : (Good xs n ∧ ec' = 0 ∧ m' = n ∧ q' = plc xs) ∨ (¬ Good xs n ∧ ec' = 1 ∧ m' = 0 ∧ q' = [])) : ec' = ec ∧ m' = m ∧ q' = q := by
  rcases a with ⟨a1, a2, a3, a4⟩ | ⟨a1, a2, a3, a4⟩ <;> rcases b with ⟨b1, b2, b3, b4⟩ | ⟨b1, b2, b3, b4⟩
  · exact ⟨by omega, by omega, by rw [a4, b4]⟩
  · exact absurd a1 b1
  · exact absurd b1 a1
  · exact ⟨by omega, by omega, by rw [a4, b4]⟩
/-- The order at the place that is told. -/
theorem plc_back {xs : List Int} {n p : Nat} (hn : xs.length = n) (g : Good xs n) (hp : p < n) : ∃ i : Nat, i < n ∧ xs[i]? = some (p : Int) ∧ (plc xs)[p]? = some (i : Int) := by
  obtain ⟨i, hi, e⟩ := List.getElem_of_mem (good_all hn g hp)
  have h1 : xs[i]? = some (p : Int) := by rw [List.getElem?_eq_getElem hi, e]
  refine ⟨i, by omega, h1, ?_⟩
  have h2 := plc_at hn g n i p (by omega) (Nat.le_refl _) h1
  unfold plc
  rw [hn]
  have h3 : p < (plcUp xs n).length := by rw [plcUp_len, hn]; exact hp
  rw [gs_some h3, h2]
section
set_option maxHeartbeats 2000000 in
theorem placeslaw_any (s : List Int) (A : Option Addr) (n c : Nat) (w : World) (hs : Sl w (fun _ => True) .i64 A n s) :
    Calls Try.prog 5 #[.slice A n c] w fun e w' => e = .returned (.bool true) ∧ Ch (fun _ => False) w w' := by
  by_cases hlong : 600 < n
  · go_enter Try.func5, Try.ntmps5
    go_wp2
    go_ret
    exact ⟨rfl, Ch.refl _ _⟩
  · have hn : n ≤ 600 := by omega
    have d1 : decide (600 < (n : Int)) = false := by simp; omega
    have d2 : decide (600 < n) = false := by simp; omega
    have hsa : Vs (w.alloc (.cells #[] 3)) (fun _ => True) A n (s.map (Value.int .i64)) := Sl.alloc hs _
    have HS := Bx.mk hs
    have HSA := Bx.mk hsa
    have HLEN := Bx.mk hs.len
    clear hs hsa hlong
    go_enter Try.func5, Try.ntmps5
    go_wp2_with (at_builtin; refine wp_app rfl (.tmp 12) (.tmp 13) elemI rfl rfl (own_nil w) rfl HSA.out ?c1 ?c2 ?c3 ?_)
    case c1 => exact ints_cells .i64 s
    case c2 => omega
    case c3 => omega
    intro v1 w1 ho1 hg1 hb1
    obtain ⟨A1, c1, rfl, hS1, hC1⟩ := copied ho1 hg1 hb1
    have har := (places_any s A1 n c1 w1 hS1 (by omega)).mono fun _ _ => plc_any
    have HS1 := Bx.mk hS1
    have HC1 := Bx.mk hC1
    clear ho1 hg1 hb1 hS1 hC1 HSA
    go_wp2_with fail
    refine har.mono ?_
    rintro e w2 ⟨A2, c2, m, q, ec, rfl, hS2, hr, hC2⟩
    have hC2w := HC1.out.trans hC2 (fun _ _ h => h)
    have har2 := (refplaces_any s A n c w2 (HS.out.ch hC2w (fun _ _ _ h => h)) (by omega)).mono fun _ _ => plc_any
    have HS2 := Bx.mk hS2
    have HR := Bx.mk hr
    have HC2 := Bx.mk hC2
    have HC2w := Bx.mk hC2w
    clear hS2 hr hC2 hC2w har
    go_wp2_with fail
    refine har2.mono ?_
    rintro e w3 ⟨A3, c3, m', q', ec', rfl, hS3, hr3, hC3⟩
    obtain ⟨rfl, rfl, rfl⟩ := plc_one HR.out hr3
    have hmn : m' ≤ n := by
      rcases hr3 with ⟨_, _, h, _⟩ | ⟨_, _, h, _⟩ <;> omega
    have hS23 := HS2.out.ch hC3 (fun _ _ _ h => h)
    have hin := ints_any q' A2 A3 m' c2 c3 w3 hS23 hS3 (by omega)
    have HC3 := Bx.mk (HC2w.out.trans hC3 (fun _ _ h => h))
    have HS13 : Bx (Sl w3 (fun b => w.heap.size ≤ b) .i64 A1 n s) := ⟨HS1.out.ch (HC2.out.trans hC3 (S := fun _ => False) (fun _ _ h => h)) (fun _ _ _ h => h)⟩
    have HS23 := Bx.mk hS23
    have HR3 := Bx.mk hr3
    have hee : (ec' != ec') = false := by simp
    clear hS3 hr3 hC3 har2 HS2 HR HC2 HC2w HS1 hS23
    go_wp2_with fail
    refine hin.mono ?_
    rintro e w4 ⟨rfl, hC4⟩
    have hC4w := HC3.out.trans hC4 (fun _ _ h => h)
    have hin2 := ints_any s A1 A n c1 c w4 (HS13.out.ch hC4 (fun _ _ _ h => h)) (HS.out.ch hC4w (fun _ _ _ h => h)) (by omega)
    have HS24 := Bx.mk (HS23.out.ch hC4 (fun _ _ _ h => h))
    have HC4 := Bx.mk hC4w
    clear hC4 hC4w hin HC3 HS13 HS23
    go_wp2_with fail
    refine hin2.mono ?_
    rintro e w5 ⟨rfl, hC5⟩
    have HS25 := Bx.mk (HS24.out.ch hC5 (fun _ _ _ h => h))
    have HC5 := Bx.mk (HC4.out.trans hC5 (fun _ _ h => h))
    clear hC5 hin2 HC4 HS24
    go_wp2_with fail
    go_loopw [8] (fun i wr => ∃ k : Nat, k ≤ m' ∧ i = .int .i64 k ∧ wr = w5) (fun i _ => m' - (intOf i).toNat)
    case atStart => exact ⟨0, Nat.zero_le _, rfl, rfl⟩
    case round =>
      obtain ⟨k, hk, rfl, rfl⟩ := hrel
      by_cases hlt : k < m'
      · have hg : Good s n ∧ m' = n ∧ q' = plc s := by
          rcases HR3.out with ⟨h1, _, h2, h3⟩ | ⟨_, _, h, _⟩
          · exact ⟨h1, h2, h3⟩
          · omega
        obtain ⟨i, hin, h1, h2⟩ := plc_back HLEN.out hg.1 (p := k) (by omega)
        obtain ⟨b2, o2, x, rfl, _, hx, hcx⟩ := HS25.out.at_ hlt
        obtain rfl : x = (i : Int) := by
          have := hx.out
          rw [hg.2.2] at this
          exact Option.some.inj (this.symm.trans h2)
        obtain ⟨b1, o1, y, rfl, _, hy, hcy⟩ := (HS.out.ch HC5.out (fun _ _ _ h => h)).at_ hin
        obtain rfl : y = (k : Int) := Option.some.inj (hy.out.symm.trans h1)
        have i1 : (0 : Int) ≤ (i : Int) := by omega
        have i2 : (i : Int) < (n : Int) := by omega
        have i3 : (0 : Int) ≤ (k : Int) := by omega
        have i4 : (k : Int) < (m' : Int) := by omega
        have hkk : ((k : Int) != (k : Int)) = false := by simp
        clear hg h1 h2 hx hy
        go_wp2
        go_roundw
        case rel => exact ⟨k + 1, by omega, by go_num, by first | rfl | trivial⟩
        case measure => simp [intOf]; omega
      · have dk : decide ((k : Int) < (m' : Int)) = false := by simp; omega
        go_wp2_with fail
        refine (known_any _).mono ?_
        rintro e w6 ⟨rfl, hC6⟩
        have HC6 := Bx.mk (HC5.out.trans hC6 (fun _ _ h => h))
        clear hC6
        go_wp2
        go_ret
        exact ⟨rfl, HC6.out⟩
end
end Go.Proofs.Ytmkhndajogcojaa
