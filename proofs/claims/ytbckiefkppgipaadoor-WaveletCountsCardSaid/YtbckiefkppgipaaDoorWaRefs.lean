/-
  The contracts of the document's answers haystackref4.Rank, Select and Below, and of haystacklaw4.ints.
-/
import Derived.Test.YtbckiefkppgipaaDoorWaVals
import Derived.Test.YtbckiefkppgipaaDoorWaOpen
namespace Go.Proofs.YtbckiefkppgipaaDoor
open Go.RowKit Go.Oct Go.Bi Go.Wa

theorem asI_at {l : List Nat} {k : Nat} {x : Int} (h : (asI l)[k]? = some x) : ∃ y : Nat, x = y ∧ l[k]? = some y := by
  unfold asI at h
  rw [List.getElem?_map] at h
  cases hy : l[k]? with
  | none => rw [hy] at h; cases h
  | some y =>
    rw [hy] at h
    simp only [Option.map_some, Option.some.injEq] at h
    exact ⟨y, h.symm, rfl⟩
theorem hit_row {l : List Nat} {k y : Nat} (h : l[k]? = some y) (q : Int) : (hit l q)[k]? = some (decide ((y : Int) = q)) := by unfold hit; rw [List.getElem?_map, h]; rfl
theorem low_row {l : List Nat} {k y : Nat} (h : l[k]? = some y) (q : Int) : (low l q)[k]? = some (decide ((y : Int) < q)) := by unfold low; rw [List.getElem?_map, h]; rfl

section
variable {F : Nat → Prop}
set_option maxHeartbeats 400000 in
theorem ref_rank (l : List Nat) (A : Option Addr) (n c : Nat) (q i : Int) (w : World) (hs : Sl w F .i64 A n (asI l)) (hn : n ≤ 1048576) :
    Calls Tryd.prog 17 #[.slice A n c, .int .i64 q, .int .i64 i] w fun e w' => e = .returned (.int .i64 (rk (hit l q) true i : Nat)) ∧ w = w' := by
  have hl : l.length = n := by rw [← asI_len]; exact hs.len
  have HL : Bx ((hit l q).length = n) := ⟨by rw [hit_len]; exact hl⟩
  have HS := Bx.mk hs
  clear hs hl
  go_enter Tryd.func17, Tryd.ntmps17
  go_wp2
  go_loop [7, 8] (fun x y => ∃ k r : Nat, k ≤ n ∧ ((k : Int) ≤ i ∨ k = 0) ∧ y = .int .i64 k ∧ x = .int .i64 r ∧ r ≤ k ∧ ((hit l q).take k).count true = r) (fun _ y => n - (intOf y).toNat)
  case atStart => exact ⟨0, 0, Nat.zero_le _, .inr rfl, rfl, rfl, Nat.le_refl _, by simp⟩
  case round =>
    obtain ⟨k, r, hk, hki, rfl, rfl, hqk, hq⟩ := hrel
    have HQ := Bx.mk hq
    clear hq
    by_cases h1 : (k : Int) < i
    · by_cases h2 : k < n
      · obtain ⟨b, off, x, rfl, _, hx0, hc⟩ := HS.out.at_ h2
        obtain ⟨y, rfl, hy⟩ := asI_at hx0.out
        have hx := hit_row hy q
        clear hx0 hy
        by_cases e : (y : Int) = q
        · rw [decide_eq_true e] at hx
          have hq2 : ((hit l q).take (k + 1)).count true = r + 1 := by rw [take_next hx, List.count_append, HQ.out]; simp
          have HQ2 := Bx.mk hq2
          have hb : ((y : Int) == q) = true := by simpa using e
          have HE := Bx.mk e
          clear hx hq2 e
          go_wp2
          go_round
          case rel => exact ⟨k + 1, r + 1, by omega, .inl (by omega), by go_num, by go_num, by omega, HQ2.out⟩
          case measure => simp [intOf]; omega
        · rw [decide_eq_false e] at hx
          have hq2 : ((hit l q).take (k + 1)).count true = r := by rw [take_next hx, List.count_append, HQ.out]; simp
          have HQ2 := Bx.mk hq2
          have hb : ((y : Int) == q) = false := by simpa using e
          have HE := Bx.mk e
          clear hx hq2 e
          go_wp2
          go_round
          case rel => exact ⟨k + 1, r, by omega, .inl (by omega), by go_num, rfl, by omega, HQ2.out⟩
          case measure => simp [intOf]; omega
      · have hr : rk (hit l q) true i = r := by
          unfold rk
          rw [← HQ.out, List.take_of_length_le (by rw [HL.out]; omega), List.take_of_length_le (by rw [HL.out]; omega)]
        have HR := Bx.mk hr
        clear hr
        go_wp2
        go_ret
        exact ⟨ret_int (by rw [HR.out]), rfl⟩
    · have hr : rk (hit l q) true i = r := by
        unfold rk
        rw [← HQ.out]
        congr 2
        omega
      have HR := Bx.mk hr
      clear hr
      go_wp2
      go_ret
      exact ⟨ret_int (by rw [HR.out]), rfl⟩

theorem wrap64_zero {k : Int} {c : Nat} (h1 : -9223372036854775808 ≤ k) (h2 : k ≤ 9223372036854775807) (hc : c ≤ 1048576) : wrap64 (k - (c : Int)) = 0 ↔ k = c := by
  unfold wrap64
  omega
theorem wrap64_less (k : Int) (c : Nat) : wrap64 (wrap64 (k - (c : Int)) - 1) = wrap64 (k - ((c + 1 : Nat) : Int)) := by
  unfold wrap64
  omega
set_option maxHeartbeats 400000 in
theorem ref_select (l : List Nat) (A : Option Addr) (n c : Nat) (q k : Int) (w : World) (hs : Sl w F .i64 A n (asI l)) (hn : n ≤ 1048576) (hk : Wf k) :
    Calls Tryd.prog 19 #[.slice A n c, .int .i64 q, .int .i64 k] w fun e w' => e = .returned (.int .i64 (sel (hit l q) true k)) ∧ w = w' := by
  have hl : l.length = n := by rw [← asI_len]; exact hs.len
  have HL : Bx ((hit l q).length = n) := ⟨by rw [hit_len]; exact hl⟩
  have HS := Bx.mk hs
  have HK1 := Bx.mk hk.1
  have HK2 := Bx.mk hk.2
  clear hs hl hk
  go_enter Tryd.func19, Tryd.ntmps19
  go_wp2
  go_loop [2, 7] (fun x y => ∃ (i : Nat) (z : Int), i ≤ n ∧ y = .int .i64 i ∧ x = .int .i64 z ∧ z = wrap64 (k - (((hit l q).take i).count true : Nat)) ∧ (k < 0 ∨ (((hit l q).take i).count true : Int) ≤ k)) (fun _ y => n - (intOf y).toNat)
  case atStart => exact ⟨0, k, Nat.zero_le _, rfl, rfl, by have := HK1.out; have := HK2.out; simp [wrap64]; omega, by simp; omega⟩
  case round =>
    obtain ⟨i, z, hi, rfl, rfl, hz, hle⟩ := hrel
    have hci : ((hit l q).take i).count true ≤ 1048576 := by have := count_take_le true (hit l q) i; omega
    have hw := wrap64_less k (((hit l q).take i).count true)
    have hzero := wrap64_zero HK1.out HK2.out hci
    rw [← hz] at hzero hw
    have HZ := Bx.mk hz
    have HLE := Bx.mk hle
    have HW := Bx.mk hw
    have H0 := Bx.mk hzero
    clear hz hle hw hzero
    by_cases h2 : i < n
    · obtain ⟨b, off, x, rfl, _, hx0, hc⟩ := HS.out.at_ h2
      obtain ⟨y, rfl, hy⟩ := asI_at hx0.out
      have hx := hit_row hy q
      clear hx0 hy
      by_cases e : (y : Int) = q
      · rw [decide_eq_true e] at hx
        have hcn : ((hit l q).take (i + 1)).count true = ((hit l q).take i).count true + 1 := by rw [take_next hx, List.count_append]; simp
        have HX := Bx.mk hx
        have HCN := Bx.mk hcn
        have hb : ((y : Int) == q) = true := by simpa using e
        have HE := Bx.mk e
        clear hx hcn e
        by_cases ez : z = 0
        · have hkc := H0.out.1 ez
          have hse : sel (hit l q) true k = i := sel_eq (.inl ⟨i, rfl, HX.out, hkc.symm⟩)
          have HSE := Bx.mk hse
          subst ez
          clear hkc hse
          go_wp2
          go_ret
          exact ⟨ret_int HSE.out.symm, rfl⟩
        · have hne : (z == 0) = false := by simpa using ez
          have HNE := Bx.mk ez
          clear ez
          go_wp2
          go_round
          case rel => exact ⟨i + 1, wrap64 (z - 1), by omega, by go_num, rfl, by rw [HW.out, HCN.out], by
            rcases HLE.out with h | h
            · exact .inl h
            · right
              have h3 : ¬ k = (((hit l q).take i).count true : Nat) := fun h4 => HNE.out (H0.out.2 h4)
              rw [HCN.out]
              omega⟩
          case measure => simp [intOf]; omega
      · rw [decide_eq_false e] at hx
        have hcn : ((hit l q).take (i + 1)).count true = ((hit l q).take i).count true := by rw [take_next hx, List.count_append]; simp
        have HCN := Bx.mk hcn
        have hb : ((y : Int) == q) = false := by simpa using e
        have HE := Bx.mk e
        clear hx hcn e
        go_wp2
        go_round
        case rel => exact ⟨i + 1, z, by omega, by go_num, rfl, by rw [HCN.out]; exact HZ.out, by rw [HCN.out]; exact HLE.out⟩
        case measure => simp [intOf]; omega
    · have hse : sel (hit l q) true k = -1 := by
        have h := HLE.out
        rw [List.take_of_length_le (by rw [HL.out]; omega)] at h
        exact sel_eq (.inr ⟨rfl, h⟩)
      have HSE := Bx.mk hse
      clear hse
      go_wp2
      go_ret
      exact ⟨ret_int HSE.out.symm, rfl⟩

/-- Below's walk from a place on. -/
theorem bel_end {b : List Bool} {n k0 k r : Nat} {f t : Int} (hb : b.length = n) (hf : f.toNat = k0) (hk : k = k0 ∨ (k0 < k ∧ k ≤ n ∧ (k : Int) ≤ t)) (hr : (b.take k).count true = (b.take k0).count true + r) (he : t ≤ k ∨ n ≤ k) (hft : 0 < f ∨ k0 = 0) : rk b true t - rk b true f = r := by
  have h1 : rk b true f = (b.take k0).count true := by unfold rk; rw [hf]
  rw [h1]
  rcases he with h | h
  · rcases hk with rfl | ⟨g1, g2, g3⟩
    · have h2 : (b.take t.toNat).count true ≤ (b.take k).count true := count_mono true b (by omega)
      unfold rk
      omega
    · have h2 : rk b true t = (b.take k).count true := by unfold rk; rw [show t.toNat = k by omega]
      omega
  · rw [List.take_of_length_le (by omega)] at hr
    rcases hk with rfl | ⟨g1, g2, g3⟩
    · have h2 := rk_le b true t
      have h3 : rk b true t ≤ b.count true := List.Sublist.count_le _ (List.take_sublist _ _)
      have h4 : (b.take k).count true = b.count true := by rw [List.take_of_length_le (by omega)]
      omega
    · have h2 : rk b true t = b.count true := rk_all (by omega)
      omega
set_option maxHeartbeats 1000000 in
theorem ref_below_at (l : List Nat) (A : Option Addr) (n c k0 : Nat) (q f t : Int) (w : World) (hs : Sl w F .i64 A n (asI l)) (hn : n ≤ 1048576) (hf : (f ≤ 0 ∧ k0 = 0) ∨ (0 < f ∧ f = (k0 : Int))) (hk0 : k0 ≤ 9223372036854775807) :
    Calls Tryd.prog 21 #[.slice A n c, .int .i64 q, .int .i64 f, .int .i64 t] w fun e w' => e = .returned (.int .i64 (bel l q f t : Nat)) ∧ w = w' := by
  have hl : l.length = n := by rw [← asI_len]; exact hs.len
  have HL : Bx ((low l q).length = n) := ⟨by rw [low_len]; exact hl⟩
  have HS := Bx.mk hs
  have HF : Bx (f.toNat = k0) := ⟨by omega⟩
  have HF2 : Bx (0 < f ∨ k0 = 0) := ⟨by omega⟩
  have hmax : max (0 : Int) f = (k0 : Int) := by omega
  have hBE : ∀ r : Nat, rk (low l q) true t - rk (low l q) true f = r → ((bel l q f t : Nat) : Int) = r := fun r h => by unfold bel; rw [h]
  have HBE := Bx.mk hBE
  clear hs hl hBE
  rcases hf with ⟨hf1, hf2⟩ | ⟨hf1, hf2⟩
  all_goals
    have HF1 := Bx.mk hf2
    go_enter Tryd.func21, Tryd.ntmps21
    go_wp2_with fail
    go_loopw [9, 10] (fun x y wr => ∃ k r : Nat, wr = w ∧ (k = k0 ∨ (k0 < k ∧ k ≤ n ∧ (k : Int) ≤ t)) ∧ y = .int .i64 k ∧ x = .int .i64 r ∧ (r ≤ k ∧ r ≤ n) ∧ ((low l q).take k).count true = ((low l q).take k0).count true + r) (fun _ y _ => n - (intOf y).toNat)
    case atStart => exact ⟨k0, 0, by first | trivial | rfl, .inl rfl, by first | rfl | (rw [HF1.out]; rfl), rfl, ⟨Nat.zero_le _, Nat.zero_le _⟩, rfl⟩
    case round =>
      obtain ⟨k, r, rfl, hk, rfl, rfl, ⟨hrk, hrn⟩, hq⟩ := hrel
      have hkm : k ≤ 9223372036854775807 := by omega
      by_cases h1 : (k : Int) < t
      · by_cases h2 : k < n
        · obtain ⟨b, off, x, rfl, _, hx0, hc⟩ := HS.out.at_ h2
          obtain ⟨y, rfl, hy⟩ := asI_at hx0.out
          have hx := low_row hy q
          have hrn2 : r + 1 ≤ n ∨ r = n := by omega
          have hcl := count_take_le true (low l q) (k + 1)
          clear hx0 hy
          by_cases e : (y : Int) < q
          · rw [decide_eq_true e] at hx
            have hq2 : ((low l q).take (k + 1)).count true = ((low l q).take k0).count true + (r + 1) := by rw [take_next hx, List.count_append, hq]; simp; omega
            have hrk2 : r + 1 ≤ n := by omega
            have HQ2 := Bx.mk hq2
            have HE := Bx.mk e
            clear hx hq2 hq hcl
            go_wp2
            go_roundw
            case rel => exact ⟨k + 1, r + 1, by first | trivial | rfl, .inr ⟨by omega, by omega, by omega⟩, by go_num, by go_num, ⟨by omega, by omega⟩, HQ2.out⟩
            case measure => simp [intOf]; omega
          · rw [decide_eq_false e] at hx
            have hq2 : ((low l q).take (k + 1)).count true = ((low l q).take k0).count true + r := by rw [take_next hx, List.count_append, hq]; simp
            have HQ2 := Bx.mk hq2
            have HE := Bx.mk e
            clear hx hq2 hq hcl
            go_wp2
            go_roundw
            case rel => exact ⟨k + 1, r, by first | trivial | rfl, .inr ⟨by omega, by omega, by omega⟩, by go_num, rfl, ⟨by omega, by omega⟩, HQ2.out⟩
            case measure => simp [intOf]; omega
        · have HR := Bx.mk (HBE.out r (bel_end HL.out HF.out hk hq (.inr (by omega)) HF2.out))
          clear hq
          go_wp2
          go_ret
          exact ⟨ret_int (by have h := HR.out; first | exact h.symm | (rw [HF1.out] at h; exact h.symm)), rfl⟩
      · have HR := Bx.mk (HBE.out r (bel_end HL.out HF.out hk hq (.inl (by omega)) HF2.out))
        clear hq
        go_wp2
        go_ret
        exact ⟨ret_int (by have h := HR.out; first | exact h.symm | (rw [HF1.out] at h; exact h.symm)), rfl⟩
theorem ref_below (l : List Nat) (A : Option Addr) (n c : Nat) (q f t : Int) (w : World) (hs : Sl w F .i64 A n (asI l)) (hn : n ≤ 1048576) (hf : Wf f) :
    Calls Tryd.prog 21 #[.slice A n c, .int .i64 q, .int .i64 f, .int .i64 t] w fun e w' => e = .returned (.int .i64 (bel l q f t : Nat)) ∧ w = w' :=
  ref_below_at l A n c f.toNat q f t w hs hn (by omega) (by have := hf.2; omega)

/-- Two slices of the same numbers. -/
theorem ints_any {G : Nat → Prop} (xs : List Int) (A A' : Option Addr) (n c c' : Nat) (w : World) (hx : Sl w F .i64 A n xs) (hy : Sl w G .i64 A' n xs) (hn : n ≤ 1048576) :
    Calls Tryd.prog 10 #[.slice A n c, .slice A' n c'] w fun e w' => e = .returned (.bool true) ∧ Ch (fun _ => False) w w' := by
  have HX := Bx.mk hx
  have HY := Bx.mk hy
  have hnn : ((n : Int) != (n : Int)) = false := by simp
  clear hx hy
  go_enter Tryd.func10, Tryd.ntmps10
  go_wp2
  go_loopw [5] (fun i wr => ∃ k m : Nat, k ≤ n ∧ i = .int .i64 k ∧ wr = w.drewN m) (fun i _ => n - (intOf i).toNat)
  case atStart => exact ⟨0, 0, Nat.zero_le _, rfl, rfl⟩
  case round =>
    obtain ⟨k, m, hk, rfl, rfl⟩ := hrel
    by_cases hlt : k < n
    · obtain ⟨b, off, x, rfl, _, ex, hc⟩ := HX.out.at_ hlt
      obtain ⟨b', off', y, rfl, _, ey, hc'⟩ := HY.out.at_ hlt
      obtain rfl : x = y := Option.some.inj (ex.out.symm.trans ey.out)
      have hb : (x != x) = false := by simp
      clear ex ey
      go_wp2
      go_quiet (fail)
      go_wp2
      go_roundw
      case rel => exact ⟨k + 1, _, by omega, by go_num, rfl⟩
      case measure => simp [intOf]; omega
    · go_wp2
      go_ret
      exact ⟨rfl, (Ch.refl _ w).drewN m⟩
end
end Go.Proofs.YtbckiefkppgipaaDoor
