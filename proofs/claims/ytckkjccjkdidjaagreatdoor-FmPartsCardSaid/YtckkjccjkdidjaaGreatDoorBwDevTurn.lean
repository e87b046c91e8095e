/-
  The contract of bwt.Turn: the symbols ahead of the endings, in their order, or refused.
  Conditions: the row reads as it says.
-/
import Derived.Test.YtckkjccjkdidjaaGreatDoorSvB
import Derived.Test.YtckkjccjkdidjaaGreatDoorBwD
namespace Go.Proofs.YtckkjccjkdidjaaGreatDoor
open Go.RowKit Go.Oct Go.Su

section
variable {F : Nat → Prop}
/-- The Turn under way: what has come, then the order. -/
def tup (s : List Int) (L : List Nat) (j : Nat) : List Int := (trn s L).take j ++ (asI L).drop j
theorem tup_len (s : List Int) (L : List Nat) (j : Nat) : (tup s L j).length = L.length := by
  unfold tup
  rw [List.length_append, List.length_take, List.length_drop, trn_len, asI_len]
  omega
theorem tup_zero (s : List Int) (L : List Nat) : tup s L 0 = asI L := by unfold tup; simp
theorem tup_all (s : List Int) (L : List Nat) : tup s L L.length = trn s L := by
  unfold tup
  rw [List.take_of_length_le (by rw [trn_len]; exact Nat.le_refl _), List.drop_of_length_le (by rw [asI_len]; exact Nat.le_refl _), List.append_nil]
theorem tup_here {s : List Int} {L : List Nat} {j x : Nat} (h : L[j]? = some x) : (tup s L j).getD j 0 = (x : Int) := by
  obtain ⟨h1, _⟩ := List.getElem?_eq_some_iff.1 h
  unfold tup
  rw [List.getD_eq_getElem?_getD, List.getElem?_append_right (by rw [List.length_take, trn_len]; omega), List.length_take, trn_len, show j - min j L.length = 0 by omega, List.getElem?_drop, Nat.add_zero]
  unfold asI
  rw [List.getElem?_map, h]
  rfl
theorem tup_next {s : List Int} {L : List Nat} {j x : Nat} (h : L[j]? = some x) : (tup s L j).set j (gs s (prv s.length x)) = tup s L (j + 1) := by
  obtain ⟨h1, _⟩ := List.getElem?_eq_some_iff.1 h
  have h2 := trn_at (s := s) h
  unfold tup
  rw [List.set_append_right _ _ (by rw [List.length_take, trn_len]; omega), List.length_take, trn_len, show j - min j L.length = 0 by omega, List.take_add_one, h2, Option.toList_some, List.append_assoc]
  congr 1
  rw [List.drop_eq_getElem_cons (by rw [asI_len]; exact h1), List.set_cons_zero]
  rfl
/-- What Turn leaves, the slice's room too. -/
def TurnCap (s : List Int) (n : Nat) (w : World) (e : Ending) (w' : World) : Prop := ∃ (A : Option Addr) (c m : Nat) (ec : Int) (l : List Int), e = .returned (.tuple #[.slice A m c, .int .i64 ec]) ∧ Sl w' (fun b => w.heap.size ≤ b) .i64 A m l ∧ TRes s n ec m l ∧ m ≤ c ∧ c ≤ maxLen ∧ Ch (fun _ => False) w w'
set_option maxHeartbeats 1000000 in
theorem turn_cap (s : List Int) (A : Option Addr) (n c : Nat) (w : World) (hs : Sl w F .i64 A n s) (hn : n ≤ 65536) :
    Calls Tryz.prog 29 #[.slice A n c] w (TurnCap s n w) := by
  have HS := Bx.mk (hs.mono (G := fun b => b < w.heap.size) (fun b h _ => h))
  have HL := Bx.mk hs.len
  have hcl := closed_any s A n c w hs (by omega)
  have d1 : decide (65536 < (n : Int)) = false := by simp; omega
  clear hs
  go_enter Tryz.func29, Tryz.ntmps29
  go_wp2_with fail
  refine hcl.mono ?_
  rintro e w' ⟨b, rfl, hb, rfl⟩
  cases b with
  | false =>
    have HN : Bx (¬ Closed s) := ⟨fun h => by have := hb.2 h; cases this⟩
    clear hb
    go_wp2
    go_returns
    exact ⟨none, 0, 0, 1, [], rfl, Sl.nil _ _ _ _, .inr (.inl ⟨hn, HN.out, rfl, rfl, rfl⟩), Nat.le_refl _, Nat.zero_le _, Ch.refl _ _⟩
  | true =>
    have HC := Bx.mk (hb.1 rfl)
    have har := array_own s A n c w HS.out hn HC.out.pos
    have hn0 : 0 < n := by rw [← HL.out]; exact HC.out.full
    clear hb hcl
    go_wp2_with fail
    refine har.mono ?_
    rintro e w1 ⟨H, L, rfl, hSA, hO1, hg, hC1⟩
    have HSA := Bx.mk hSA
    have HLn : Bx (L.length = n) := ⟨by rw [hSA.len, HL.out]⟩
    have HA1 : Bx (Sl w1 (fun b => b < w.heap.size) .i64 A n s) := ⟨HS.out.ch hC1 (fun _ _ _ h => h)⟩
    have HO1 : Bx (Own w1 3 1 H n n ((tup s L 0).map (Value.int .i64))) := ⟨by rw [tup_zero, vals_asI]; exact hO1⟩
    have HC1 := Bx.mk hC1
    have HG := Bx.mk hg
    clear hSA hO1 hC1 har hg
    go_wp2_with fail
    go_loopw [6, 7, 23] (fun _ _ i wr => ∃ j : Nat, j ≤ n ∧ i = .int .i64 j ∧ Own wr 3 1 H n n ((tup s L j).map (Value.int .i64)) ∧ Ch (fun b => b = H) w1 wr) (fun _ _ i _ => n - (intOf i).toNat)
    case atStart => exact ⟨0, Nat.zero_le _, rfl, HO1.out, Ch.refl _ _⟩
    case round =>
      obtain ⟨j, hj, rfl, hO, hC⟩ := hrel
      by_cases hjn : j < n
      · have dj : decide ((j : Int) < (n : Int)) = true := by simp; omega
        obtain ⟨x, hx⟩ : ∃ x, L[j]? = some x := ⟨_, List.getElem?_eq_getElem (by rw [HLn.out]; exact hjn)⟩
        have hxn : x < n := by rw [← HL.out]; exact (HSA.out.mem x).1 (List.mem_of_getElem? hx)
        have hcx := hO.cellI hjn
        rw [tup_here hx] at hcx
        have hfo := hO.frozenAt j
        have hah := ahead_any s A n c x wr (HA1.out.ch hC (fun b hb _ (e : b = H) => by have := HG.out; omega)) (by omega) hxn
        have hst := hO.storedI j (gs s (prv s.length x))
        rw [tup_next hx, HL.out] at hst
        obtain ⟨v, hv⟩ : ∃ v, gs s (prv n x) = v := ⟨_, rfl⟩
        rw [hv] at hst hah
        have HST := Bx.mk hst.1
        have HCC := Bx.mk (hC.trans hst.2 (fun _ _ h => h))
        have HAH := Bx.mk hah
        have i2 : (j : Int) < (n : Int) := by omega
        clear hO hC hx hst hv hah
        go_wp2_with fail
        refine HAH.out.mono ?_
        rintro e w2 ⟨rfl, rfl⟩
        clear HAH
        go_wp2
        go_roundw
        case rel => exact ⟨j + 1, by omega, by go_num, HST.out, HCC.out⟩
        case measure => simp [intOf]; omega
      · have hjn' : j = n := by omega
        have dj : decide ((j : Int) < (n : Int)) = false := by simp; omega
        have e1 := tup_all s L
        rw [HLn.out] at e1
        rw [hjn', e1] at hO
        have HO := Bx.mk hO
        have HCF := Bx.mk (HC1.out.trans hC (S := fun _ => False) (fun i hi (e : i = H) => by have := HG.out; omega))
        clear hO hC hjn' e1
        go_wp2
        go_returns
        exact ⟨_, n, n, 0, trn s L, rfl, HO.out.sl.mono (fun b _ hb => by have := HG.out; omega), .inr (.inr ⟨hn, rfl, rfl, trn_turned HC.out HSA.out⟩), Nat.le_refl _, by unfold maxLen; omega, HCF.out⟩
theorem turn_any (s : List Int) (A : Option Addr) (n c : Nat) (w : World) (hs : Sl w F .i64 A n s) (hn : n ≤ 65536) :
    Calls Tryz.prog 29 #[.slice A n c] w (TurnAny s n w) :=
  (turn_cap s A n c w hs hn).mono fun _ _ ⟨A', c', m, ec, l, h1, h2, h3, _, _, h4⟩ => ⟨A', c', m, ec, l, h1, h2, h3, h4⟩
end
end Go.Proofs.YtckkjccjkdidjaaGreatDoor
