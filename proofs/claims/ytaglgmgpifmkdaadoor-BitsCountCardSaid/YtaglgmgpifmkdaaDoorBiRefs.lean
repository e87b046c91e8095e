/-
  The contracts of the document's answers haystackref2.Rank, Select and New.
-/
import Derived.Test.YtaglgmgpifmkdaaDoorBiKnown
namespace Go.Proofs.YtaglgmgpifmkdaaDoor
open Go.RowKit Go.Oct Go.Bi

theorem getD_some {l : List Bool} {k : Nat} (h : k < l.length) : l[k]? = some (l.getD k false) := by
  rw [List.getD_eq_getElem?_getD, List.getElem?_eq_getElem h]
  rfl
set_option maxHeartbeats 400000 in
theorem ref_rank (l : List Bool) (A : Option Addr) (n c : Nat) (o : Bool) (i : Int) (w : World) (F : Nat → Prop) (hs : Sb w F A n l) (hn : n ≤ 9223372036854775807) :
    Calls Tryd.prog 24 #[.slice A n c, .bool o, .int .i64 i] w fun e w' => e = .returned (.int .i64 (rk l o i : Nat)) ∧ w = w' := by
  have HL := Bx.mk (Sb.len hs)
  have HS := Bx.mk hs
  clear hs
  go_enter Tryd.func24, Tryd.ntmps24
  go_wp2
  go_loop [7, 8] (fun x y => ∃ k q : Nat, k ≤ n ∧ ((k : Int) ≤ i ∨ k = 0) ∧ y = .int .i64 k ∧ x = .int .i64 q ∧ q ≤ k ∧ (l.take k).count o = q) (fun _ y => n - (intOf y).toNat)
  case atStart => exact ⟨0, 0, Nat.zero_le _, .inr rfl, rfl, rfl, Nat.le_refl _, by simp⟩
  case round =>
    obtain ⟨k, q, hk, hki, rfl, rfl, hqk, hq⟩ := hrel
    have HQ := Bx.mk hq
    clear hq
    by_cases h1 : (k : Int) < i
    · by_cases h2 : k < n
      · obtain ⟨b, off, rfl, _, hc⟩ := HS.out.at_ h2
        have hx := getD_some (l := l) (k := k) (by rw [HL.out]; exact h2)
        generalize l.getD k false = y at *
        by_cases e : y = o
        · subst e
          have hq2 : (l.take (k + 1)).count y = q + 1 := by rw [take_next hx, List.count_append, HQ.out]; simp
          have HQ2 := Bx.mk hq2
          have hb : (y == y) = true := by simp
          clear hx hq2
          go_wp2
          go_round
          case rel => exact ⟨k + 1, q + 1, by omega, .inl (by omega), by go_num, by go_num, by omega, HQ2.out⟩
          case measure => simp [intOf]; omega
        · have hq2 : (l.take (k + 1)).count o = q := by rw [take_next hx, List.count_append, HQ.out]; simp [e]
          have HQ2 := Bx.mk hq2
          have hb : (y == o) = false := by simpa using e
          have HE := Bx.mk e
          clear hx hq2 e
          go_wp2
          go_round
          case rel => exact ⟨k + 1, q, by omega, .inl (by omega), by go_num, rfl, by omega, HQ2.out⟩
          case measure => simp [intOf]; omega
      · have hr : rk l o i = q := by
          unfold rk
          rw [← HQ.out, List.take_of_length_le (by rw [HL.out]; omega), List.take_of_length_le (by rw [HL.out]; omega)]
        have HR := Bx.mk hr
        clear hr
        go_wp2
        go_ret
        exact ⟨ret_int (by rw [HR.out]), rfl⟩
    · have hr : rk l o i = q := by
        unfold rk
        rw [← HQ.out]
        congr 2
        omega
      have HR := Bx.mk hr
      clear hr
      go_wp2
      go_ret
      exact ⟨ret_int (by rw [HR.out]), rfl⟩

theorem wrap64_zero {k : Int} {c : Nat} (h1 : -9223372036854775808 ≤ k) (h2 : k ≤ 9223372036854775807) (hc : c ≤ 1048576) : wrap64 (k - (c : Int)) = 0 ↔ k = c := by
  unfold wrap64
  omega
theorem wrap64_less (k : Int) (c : Nat) : wrap64 (wrap64 (k - (c : Int)) - 1) = wrap64 (k - ((c + 1 : Nat) : Int)) := by
  unfold wrap64
  omega
set_option maxHeartbeats 400000 in
theorem ref_select (l : List Bool) (A : Option Addr) (n c : Nat) (o : Bool) (k : Int) (w : World) (F : Nat → Prop) (hs : Sb w F A n l) (hn : n ≤ 1048576) (hk1 : -9223372036854775808 ≤ k) (hk2 : k ≤ 9223372036854775807) :
    Calls Tryd.prog 25 #[.slice A n c, .bool o, .int .i64 k] w fun e w' => e = .returned (.int .i64 (sel l o k)) ∧ w = w' := by
  have HL := Bx.mk (Sb.len hs)
  have HS := Bx.mk hs
  have HK1 := Bx.mk hk1
  have HK2 := Bx.mk hk2
  clear hs hk1 hk2
  go_enter Tryd.func25, Tryd.ntmps25
  go_wp2
  go_loop [2, 7] (fun x y => ∃ (i : Nat) (z : Int), i ≤ n ∧ y = .int .i64 i ∧ x = .int .i64 z ∧ z = wrap64 (k - ((l.take i).count o : Nat)) ∧ (k < 0 ∨ ((l.take i).count o : Int) ≤ k)) (fun _ y => n - (intOf y).toNat)
  case atStart => exact ⟨0, k, Nat.zero_le _, rfl, rfl, by have := HK1.out; have := HK2.out; simp [wrap64]; omega, by simp; omega⟩
  case round =>
    obtain ⟨i, z, hi, rfl, rfl, hz, hle⟩ := hrel
    have hci : (l.take i).count o ≤ 1048576 := by have := count_take_le o l i; omega
    have hw := wrap64_less k ((l.take i).count o)
    have hzero := wrap64_zero HK1.out HK2.out hci
    rw [← hz] at hzero hw
    have HZ := Bx.mk hz
    have HLE := Bx.mk hle
    have HW := Bx.mk hw
    have H0 := Bx.mk hzero
    clear hz hle hw hzero
    by_cases h2 : i < n
    · obtain ⟨b, off, rfl, _, hc⟩ := HS.out.at_ h2
      have hx := getD_some (l := l) (k := i) (by rw [HL.out]; exact h2)
      generalize l.getD i false = y at *
      by_cases e : y = o
      · subst e
        have hcn : (l.take (i + 1)).count y = (l.take i).count y + 1 := by rw [take_next hx, List.count_append]; simp
        have HX := Bx.mk hx
        have HCN := Bx.mk hcn
        have hb : (y == y) = true := by simp
        clear hx hcn
        by_cases ez : z = 0
        · have hkc := H0.out.1 ez
          have hse : sel l y k = i := sel_eq (.inl ⟨i, rfl, HX.out, hkc.symm⟩)
          have HSE := Bx.mk hse
          subst ez
          clear hkc hse
          go_wp2
          go_ret
          exact ⟨ret_int HSE.out.symm, rfl⟩
        · have hne : (z == 0) = false := by simpa using ez
          have HNE := Bx.mk ez
          clear ez
          go_wp2
          go_round
          case rel => exact ⟨i + 1, wrap64 (z - 1), by omega, by go_num, rfl, by rw [HW.out, HCN.out], by
            rcases HLE.out with h | h
            · exact .inl h
            · right
              have h3 : ¬ k = ((l.take i).count y : Nat) := fun h4 => HNE.out (H0.out.2 h4)
              rw [HCN.out]
              omega⟩
          case measure => simp [intOf]; omega
      · have hcn : (l.take (i + 1)).count o = (l.take i).count o := by rw [take_next hx, List.count_append]; simp [e]
        have HCN := Bx.mk hcn
        have hb : (y == o) = false := by simpa using e
        have HE := Bx.mk e
        clear hx hcn e
        go_wp2
        go_round
        case rel => exact ⟨i + 1, z, by omega, by go_num, rfl, by rw [HCN.out]; exact HZ.out, by rw [HCN.out]; exact HLE.out⟩
        case measure => simp [intOf]; omega
    · have hse : sel l o k = -1 := by
        have h := HLE.out
        rw [List.take_of_length_le (by rw [HL.out]; omega)] at h
        exact sel_eq (.inr ⟨rfl, h⟩)
      have HSE := Bx.mk hse
      clear hse
      go_wp2
      go_ret
      exact ⟨ret_int HSE.out.symm, rfl⟩

theorem elemO : Elem Tryd.prog 26 4 (.bool false) 1 := ⟨Tryd.underlying26, by kernel_rfl, rfl⟩
/-- A row of bools of the call's own. -/
structure Own (w : World) (g : Nat) (l : List Bool) : Prop where
  own : w.ownsRow 0 4 1 (.slice (some ⟨g, 0, none⟩) l.length l.length) l.length (l.map Value.bool)
theorem Own.stored {w : World} {g : Nat} {l : List Bool} (h : Own w g l) (j : Nat) (b : Bool) : Own (w.setCell ⟨g, j, none⟩ (.bool b)) g (l.set j b) ∧ Ch (fun k => k = g) w (w.setCell ⟨g, j, none⟩ (.bool b)) := by
  have hC : Ch (fun k => k = g) w (w.setCell ⟨g, j, none⟩ (.bool b)) := (Ch.refl (fun k => k = g) w).setCell (p := ⟨g, j, none⟩) (.inl rfl) _
  obtain ⟨ho, _⟩ := h.own.stored j (.bool b)
  refine ⟨⟨?_⟩, hC⟩
  rw [List.length_set, List.map_set]
  exact ho
theorem Own.cellAt {w : World} {g : Nat} {l : List Bool} (h : Own w g l) {j : Nat} (hj : j < l.length) : w.cell? ⟨g, j, none⟩ = some (.bool (l.getD j false)) := by
  have := h.own.cellAt j (by omega)
  rw [List.getElem?_map, List.getElem?_eq_getElem hj] at this
  rw [this, List.getD_eq_getElem?_getD, List.getElem?_eq_getElem hj]
  rfl
theorem Own.frozenAt {w : World} {g : Nat} {l : List Bool} (h : Own w g l) (j : Nat) : w.frozen? ⟨g, j, none⟩ = false := h.own.frozenAt j
theorem Own.sb {w : World} {g : Nat} {l : List Bool} (h : Own w g l) : Sb w (fun b => b = g) (some ⟨g, 0, none⟩) l.length l :=
  (Vs.of_own h.own).mono fun b _ hb => by simp [Value.ownBlock] at hb; exact hb.symm
theorem own_made (w : World) (n : Nat) (hn : n ≤ 1048576) : Own (w.alloc (.cells (madeCells #[.bool false] n) 4)) w.heap.size (List.replicate n false) := by
  refine ⟨?_⟩
  rw [List.length_replicate]
  have h := World.ownsRow_lit (base := 0) (e := 4) (size := 1) w (madeCells #[.bool false] n) n (Nat.zero_le _) (by unfold maxLen; omega) (by simp [madeCells])
  rw [made_list] at h
  rw [List.map_replicate]
  exact h

/-- What the document's New leaves. -/
def RowPost (l : List Bool) (w : World) (e : Ending) (w' : World) : Prop := ∃ g : Nat, e = .returned (.slice (some ⟨g, 0, none⟩) l.length l.length) ∧ Sb w' (fun b => b = g) (some ⟨g, 0, none⟩) l.length l ∧ Ch (fun _ => False) w w'

theorem mk_is (N : Nat) (z : Int) (hN : N ≤ 1048576) (hz : z = N) (w : World) :
    (Instr.makeSlice 26 (.int .i64 z) (.int .i64 z)).run Tryd.prog w = .ok (.slice (some ⟨w.heap.size, 0, none⟩) N N) (w.alloc (.cells (madeCells (Value.bool false).cells N) 4)) := by
  subst hz
  exact run_mk2 elemO N (by omega) (by omega) w
set_option maxHeartbeats 4000000 in
theorem ref_new (n : Int) (xs : List Int) (A : Option Addr) (m c : Nat) (w : World) (F : Nat → Prop) (hs : Sl w F .i64 A m xs) (hm : m ≤ 9223372036854775807) :
    Calls Tryd.prog 12 #[.int .i64 n, .slice A m c] w (RowPost (newL n xs) w) := by
  have hN : (n ≤ 0 ∧ lim n = 0) ∨ (0 < n ∧ n ≤ 1048576 ∧ lim n = n.toNat) ∨ (1048576 < n ∧ lim n = 1048576) := by
    unfold lim
    split
    · exact .inl ⟨by omega, rfl⟩
    · split
      · exact .inr (.inr ⟨by assumption, rfl⟩)
      · by_cases h0 : n = 0
        · subst h0
          exact .inl ⟨by omega, rfl⟩
        · exact .inr (.inl ⟨by omega, by omega, rfl⟩)
  have hle := lim_le n
  have HL := Bx.mk (newL_len n xs)
  have HD : Bx (newL n xs = puts (List.replicate (lim n) false) xs) := ⟨rfl⟩
  have HS := Bx.mk hs
  generalize newL n xs = L at *
  clear hs
  generalize lim n = N at *
  rcases hN with ⟨h1, h2⟩ | ⟨h1, h1b, h2⟩ | ⟨h1, h2⟩
  case' inl => have hmk := mk_is N 0 hle (by omega)
  case' inr.inl =>
    obtain rfl : n = (N : Int) := by omega
    have hmk := mk_is N N hle rfl
  case' inr.inr => have hmk := mk_is N 1048576 hle (by omega)
  all_goals
    have H2 := Bx.mk h2
    clear h2
    go_enter Tryd.func12, Tryd.ntmps12
    go_wp2
  all_goals
    clear hmk
    go_loopw [6] (fun i wr => ∃ k : Nat, k ≤ m ∧ i = .int .i64 k ∧ Own wr w.heap.size (puts (List.replicate N false) (xs.take k)) ∧ Ch (fun _ => False) w wr) (fun i _ => m - (intOf i).toNat)
    case atStart => exact ⟨0, Nat.zero_le _, rfl, own_made w N hle, (Ch.refl _ _).alloc _⟩
    case round =>
      obtain ⟨k, hk, rfl, ho, hC⟩ := hrel
      have hpl : (puts (List.replicate N false) (xs.take k)).length = N := by rw [puts_len, List.length_replicate]
      by_cases hlt : k < m
      · obtain ⟨b, off, x, rfl, _, ex, hcx⟩ := (Sl.ch HS.out hC (fun _ _ _ h => h)).at_ hlt
        have hpn := puts_next (l := List.replicate N false) ex.out
        generalize puts (List.replicate N false) (xs.take k) = P at *
        have HPL := Bx.mk hpl
        have HPN := Bx.mk hpn
        have HCC := Bx.mk hC
        by_cases hx : 0 ≤ x ∧ x < N
        · obtain ⟨j, rfl⟩ : ∃ j : Nat, x = j := ⟨x.toNat, by omega⟩
          have hj : j < N := by omega
          have hcc := ho.cellAt (j := j) (by omega)
          have hfz := ho.frozenAt j
          have hst := ho.stored j true
          have hp1 : put1 P j = P.set j true := by
            unfold put1
            rw [if_pos ⟨by omega, by omega⟩, Int.toNat_natCast]
          rw [← hp1, ← hpn] at hst
          have HST := Bx.mk hst
          clear hst ho hC hpl hpn hp1 hx
          generalize P.getD j false = y at *
          go_wp2
          go_roundw
          case rel => exact ⟨k + 1, by omega, by go_num, HST.out.1, HCC.out.trans HST.out.2 (fun i hi (e : i = w.heap.size) => absurd hi (by omega))⟩
          case measure => simp [intOf]; omega
        · have hp1 : put1 P x = P := by
            unfold put1
            rw [if_neg (by omega)]
          rw [hp1] at hpn
          have HO : Bx (Own wr w.heap.size (puts (List.replicate N false) (xs.take (k + 1)))) := ⟨by rw [hpn]; exact ho⟩
          clear ho hC hpl hpn hp1
          by_cases hx0 : 0 ≤ x
          · have hxN : (N : Int) ≤ x := by omega
            clear hx
            go_wp2
            go_roundw
            case rel => exact ⟨k + 1, by omega, by go_num, HO.out, HCC.out⟩
            case measure => simp [intOf]; omega
          · have hxN : x < 0 := by omega
            clear hx hx0
            go_wp2
            go_roundw
            case rel => exact ⟨k + 1, by omega, by go_num, HO.out, HCC.out⟩
            case measure => simp [intOf]; omega
      · obtain rfl : k = m := by omega
        rw [List.take_of_length_le (by rw [HS.out.len]; omega), ← HD.out] at ho
        have HO := Bx.mk ho
        have HCC := Bx.mk hC
        have hLN := HL.out
        clear ho hC hpl
        go_wp2
        go_ret
        exact ⟨_, by rw [hLN]; rfl, HO.out.sb, HCC.out⟩
end Go.Proofs.YtaglgmgpifmkdaaDoor
