/-
  The contracts of (*octet.Writer).Raw and (*octet.Writer).Bytes.
-/
import Derived.Test.YtanhnaohmaepoaaOcNums
namespace Go.Proofs.Ytanhnaohmaepoaa.O
open Go.RowKit Go.Oct

theorem raw_nil (A : Option Addr) (n c : Nat) (w : World) : Calls Try.prog 47 #[.pointer none, .slice A n c] w fun e w' => e = .returned (.tuple #[]) ∧ w = w' := by
  go_enter Try.func47, Try.ntmps47
  go_wp2
  go_returns
  exact ⟨rfl, rfl⟩

/-- What a Writer's call leaves: it has laid ys, only it and its row have turned. -/
def Laid (w : World) (bw : Nat) (v : Value) (ys : List Int) (w' : World) : Prop := ∃ v', Wr w' bw v' ys ∧ Ch (WS bw v) w w' ∧ Newer w v v'
theorem Laid.trans {w w1 w2 : World} {bw : Nat} {v v1 : Value} {ys : List Int} (h : Laid w1 bw v1 ys w2) (hch : Ch (WS bw v) w w1) (hnew : Newer w v v1) : Laid w bw v ys w2 := by
  obtain ⟨v2, h1, h2, h3⟩ := h
  exact ⟨v2, h1, hch.trans h2 (WS.of hnew), hnew.trans h3 hch.size⟩

set_option maxHeartbeats 400000 in
theorem raw_any (bw : Nat) (v : Value) (xs zs : List Int) (A : Option Addr) (n c : Nat) (w : World) (F : Nat → Prop)
    (hw : Wr w bw v xs) (hz : Sl w F .u8 A n zs) (hb : xs.length + n ≤ 100000000000000) :
    Calls Try.prog 47 #[.pointer (some ⟨bw, 0, none⟩), .slice A n c] w fun e w' => e = .returned (.tuple #[]) ∧ Laid w bw v (xs ++ zs) w' := by
  have hc1 := hw.cell
  have hc2 := hw.frozen
  obtain ⟨A', c', rfl, _, _⟩ := own_shape hw.2
  go_enter Try.func47, Try.ntmps47
  go_wp2_with (at_builtin; refine wp_app rfl (.tmp 10) (.tmp 11) Tb rfl rfl hw.2 rfl hz ?c1 ?c2 ?c3 ?_)
  case c1 => exact ints_cells _ _
  case c2 => omega
  case c3 => omega
  intro v'' w1 hown1 hg1 hb1
  obtain ⟨A2, c2, rfl, _, _⟩ := own_shape hown1
  obtain ⟨k1, k2, k3, k4, k5⟩ := wr_app hw (Ch.refl _ _) hg1 hown1 hb1
  clear hc1 hc2
  go_wp2
  go_returns
  exact ⟨rfl, _, k3, k4, k5⟩

theorem row_done {w w2 : World} {bw k : Nat} {v : Value} {xs row : List Int} {xss : List (List Int)} (ex : xss[k]? = some row) (hr : (row.length : Int) ≤ 4611686018427387904)
    (h : Laid w bw v (xs ++ (xss.take k).flatMap rowB ++ (List.take 1 [(row.length : Int)]).flatMap encI ++ row) w2) : Laid w bw v (xs ++ (xss.take (k + 1)).flatMap rowB) w2 := by
  have e : encI (row.length : Int) = encN row.length := by unfold encI; rw [clampI_nat hr]
  simp only [List.take_succ_cons, List.take_zero, List.flatMap_cons, List.flatMap_nil, List.append_nil, e] at h
  rw [flat_more rowB ex]
  simpa [rowB] using h
theorem one_len (z : Int) : ((List.take 1 [z]).flatMap encI).length ≤ 9 := by
  have := encI_len z
  simpa using this

set_option maxHeartbeats 400000 in
theorem bytes_any (bw : Nat) (v : Value) (xs : List Int) (xss : List (List Int)) (A : Option Addr) (n c : Nat) (w : World) (F : Nat → Prop) (hn : n ≤ 1000000000)
    (hw : Wr w bw v xs) (hz : Sls w F A n xss) (hF : ∀ b, F b → b < w.heap.size → ¬ WS bw v b) (hb : xs.length + (xss.flatMap rowB).length ≤ 90000000000000) :
    Calls Try.prog 29 #[.pointer (some ⟨bw, 0, none⟩), .slice A n c] w fun e w' => e = .returned (.tuple #[]) ∧ Laid w bw v (xs ++ xss.flatMap rowB) w' := by
  go_enter Try.func29, Try.ntmps29
  go_wp2
  go_loopw [8] (fun i wr => ∃ k : Nat, k ≤ n ∧ i = .int .i64 k ∧ Laid w bw v (xs ++ (xss.take k).flatMap rowB) wr) (fun i _ => n - (intOf i).toNat)
  case atStart => exact ⟨0, Nat.zero_le _, rfl, v, by simpa using hw, Ch.refl _ _, Newer.refl _ _⟩
  case round =>
    obtain ⟨k, hk, rfl, v1, hw1, hch, hnew⟩ := hrel
    by_cases hlt : k < n
    · obtain ⟨b, off, A', c', row, rfl, hFb, ex, hcw, hsl, _, hcm⟩ := hz.at_ hlt
      have hc := hch.cell (hF b hFb (lt_of_cell hcw)) hcw
      clear hcw
      have hroom := flat_room rowB ex.out
      have hrl : row.length ≤ (rowB row).length := by simp [rowB]
      obtain ⟨wo, rfl⟩ : ∃ wo : World, wo = wr := ⟨_, rfl⟩
      have hlen : ((xs ++ (xss.take k).flatMap rowB).length) + (rowB row).length ≤ 90000000000000 := by rw [List.length_append]; omega
      have hrow : row.length ≤ 90000000000000 := by omega
      go_wp2_with fail
      refine (nums_any bw v1 (xs ++ (xss.take k).flatMap rowB) [(row.length : Int)] _ 1 1 _ (fun b => b = wo.heap.size) (by omega) (hw1.ch ((Ch.refl (fun _ => False) wo).alloc _) (fun _ _ h => h)) (Vs.one _ _ _) ?f ?b).mono ?_
      case f =>
        rintro _ rfl h
        rcases h with h | h
        · have := hw1.lt; omega
        · have := hw1.row_lt h; omega
      case b => omega
      rintro e w1 ⟨rfl, h1⟩
      obtain ⟨v2, g1, g2, g3⟩ := h1
      have hC : Ch (WS bw v) w w1 := (hch.alloc _).trans g2 (WS.of hnew)
      have hN : Newer w v v2 := hnew.trans g3 (hch.alloc _).size
      go_wp2_with fail
      refine (raw_any bw v2 _ row A' row.length c' _ F g1 (hsl.ch hC hF) ?b).mono ?_
      case b =>
        have := one_len (row.length : Int)
        rw [List.length_append]
        omega
      rintro e w2 ⟨rfl, h2⟩
      go_wp2
      go_roundw
      case rel => exact ⟨k + 1, by omega, by go_num, row_done ex.out (by omega) (h2.trans hC hN)⟩
      case measure => simp [intOf]; omega
    · go_wp2
      go_returns
      obtain rfl : k = n := by omega
      refine ⟨rfl, v1, ?_, hch, hnew⟩
      rw [List.take_of_length_le (by rw [hz.len]; omega)] at hw1
      exact hw1
end Go.Proofs.Ytanhnaohmaepoaa.O
