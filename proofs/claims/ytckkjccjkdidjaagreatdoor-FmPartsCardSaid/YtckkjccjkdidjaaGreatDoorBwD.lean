/-
  The contracts of the document's answers haystackref6.closed and Turn.
-/
/-
  The contracts of slices.Min and Index over a row of ints, and of bwt.closed and ahead.
  Conditions: the row reads as it says.
-/
import Derived.Test.YtckkjccjkdidjaaGreatDoorSuArray
import Derived.Test.YtckkjccjkdidjaaGreatDoorMaSu
import Derived.Deep.DeepCutAuto
namespace Go.Proofs.YtckkjccjkdidjaaGreatDoor
open Go.RowKit Go.Oct Go.Su

/-- The Turn of a row, by an order. -/
def trn (s : List Int) (L : List Nat) : List Int := L.map fun x => gs s (prv s.length x)
theorem trn_len (s : List Int) (L : List Nat) : (trn s L).length = L.length := List.length_map ..
theorem trn_at {s : List Int} {L : List Nat} {i x : Nat} (h : L[i]? = some x) : (trn s L)[i]? = some (gs s (prv s.length x)) := by
  unfold trn
  rw [List.getElem?_map, h]
  rfl
theorem trn_turned {s : List Int} {L : List Nat} (hc : Closed s) (h : IsSA s L) : Turned s (trn s L) := by
  refine ⟨hc, by rw [trn_len, h.len], fun L' hL' i x hx => ?_⟩
  obtain rfl := hL'.uniq h
  exact gs_at (trn_at hx)
theorem turned_trn {s l : List Int} {L : List Nat} (t : Turned s l) (h : IsSA s L) : l = trn s L := by
  refine gs_ext (by rw [trn_len, h.len, t.len]) fun p hp => ?_
  rw [t.len] at hp
  obtain ⟨x, hx, _⟩ := h.has hp
  rw [t.at_ L h p x hx, gs_at (trn_at hx)]
/-- So far the row is one that is closed. -/
def ClosedTo (s : List Int) (k : Nat) : Prop := ∀ p, p < k → 0 ≤ gs s p ∧ (gs s p = 0 ↔ p = s.length - 1)
theorem closed_to {s : List Int} (h : ClosedTo s s.length) (hn : 0 < s.length) : Closed s := by
  refine ⟨fun x hx => ?_, hn, ?_, fun p hp => ?_⟩
  · obtain ⟨p, hp, e⟩ := List.getElem_of_mem hx
    have h1 : gs s p = x := gs_at (by rw [List.getElem?_eq_getElem hp, e])
    have := (h p hp).1
    omega
  · exact ((h (s.length - 1) (by omega)).2).2 rfl
  · intro e
    have := ((h p (by omega)).2).1 e
    omega
/-- What closed leaves. -/
def TellsClosed (s : List Int) (w : World) (e : Ending) (w' : World) : Prop := ∃ b : Bool, e = .returned (.bool b) ∧ (b = true ↔ Closed s) ∧ w = w'
section
variable {F : Nat → Prop}
theorem refclosed_any (s : List Int) (A : Option Addr) (n c : Nat) (w : World) (hs : Sl w F .i64 A n s) (hn : n ≤ 65536) :
    Calls Tryz.prog 90 #[.slice A n c] w (TellsClosed s w) := by
  have HS := Bx.mk hs
  have HL := Bx.mk hs.len
  clear hs
  go_enter Tryz.func90, Tryz.ntmps90
  go_wp2_with fail
  go_loop [3] (fun i => ∃ k : Nat, k ≤ n ∧ i = .int .i64 k ∧ Bx (ClosedTo s k)) (fun i => n - (intOf i).toNat)
  case atStart => exact ⟨0, Nat.zero_le _, rfl, ⟨fun _ h => absurd h (by omega)⟩⟩
  case round =>
    obtain ⟨k, hk, rfl, hA⟩ := hrel
    by_cases hlt : k < n
    · obtain ⟨b, off, x, rfl, _, hx, hcx⟩ := HS.out.at_ hlt
      have hgx := gs_at hx.out
      have HGX := Bx.mk hgx
      have dk : decide ((k : Int) < (n : Int)) = true := by simp; omega
      have i1 : (0 : Int) ≤ (k : Int) := by omega
      have i2 : (k : Int) < (n : Int) := by omega
      by_cases h0 : x < 0
      · have HN : Bx (¬ Closed s) := ⟨fun hc => by
          have := gs_pos hc.pos (p := k) (by rw [HL.out]; exact hlt)
          omega⟩
        have dx : decide (x < 0) = true := by simpa using h0
        clear hx hgx
        go_wp2
        go_ret
        exact ⟨false, rfl, ⟨fun h => (by cases h), fun h => absurd h HN.out⟩, rfl⟩
      · have dx : decide (x < 0) = false := by simpa using h0
        by_cases hx0 : x = 0 <;> by_cases hkn : k = n - 1
        · have HAN : Bx (ClosedTo s (k + 1)) := ⟨fun p hp => by
            by_cases e : p = k
            · subst e
              rw [HGX.out, HL.out]
              exact ⟨by omega, by omega⟩
            · exact hA.out p (by omega)⟩
          have b1 : (x == 0) = true := by simpa using hx0
          have b2 : ((k : Int) == (n : Int) - 1) = true := by simp; omega
          clear hx hgx hx0 hkn h0
          go_wp2
          go_round
          case rel => exact ⟨k + 1, by omega, by go_num, HAN⟩
          case measure => simp [intOf]; omega
        · have HN : Bx (¬ Closed s) := ⟨fun hc => hc.only k (by rw [HL.out]; omega) (by rw [HGX.out]; exact hx0)⟩
          have b1 : (x == 0) = true := by simpa using hx0
          have b2 : ((k : Int) == (n : Int) - 1) = false := by simp; omega
          clear hx hgx hx0 hkn h0
          go_wp2
          go_ret
          exact ⟨false, rfl, ⟨fun h => (by cases h), fun h => absurd h HN.out⟩, rfl⟩
        · have HN : Bx (¬ Closed s) := ⟨fun hc => hx0 (by
            have := hc.last
            rw [HL.out, ← hkn, HGX.out] at this
            exact this)⟩
          have b1 : (x == 0) = false := by simpa using hx0
          have b2 : ((k : Int) == (n : Int) - 1) = true := by simp; omega
          clear hx hgx hx0 hkn h0
          go_wp2
          go_ret
          exact ⟨false, rfl, ⟨fun h => (by cases h), fun h => absurd h HN.out⟩, rfl⟩
        · have HAN : Bx (ClosedTo s (k + 1)) := ⟨fun p hp => by
            by_cases e : p = k
            · subst e
              rw [HGX.out, HL.out]
              exact ⟨by omega, by omega⟩
            · exact hA.out p (by omega)⟩
          have b1 : (x == 0) = false := by simpa using hx0
          have b2 : ((k : Int) == (n : Int) - 1) = false := by simp; omega
          clear hx hgx hx0 hkn h0
          go_wp2
          go_round
          case rel => exact ⟨k + 1, by omega, by go_num, HAN⟩
          case measure => simp [intOf]; omega
    · have hkn : k = n := by omega
      have dk : decide ((k : Int) < (n : Int)) = false := by simp; omega
      have HR : Bx (decide ((0 : Int) < (n : Int)) = true ↔ Closed s) := ⟨by
        constructor
        · intro h
          have h1 : 0 < n := by simpa using h
          have h2 := hA.out
          rw [hkn, ← HL.out] at h2
          exact closed_to h2 (by rw [HL.out]; exact h1)
        · intro hc
          have := hc.full
          rw [HL.out] at this
          simpa using this⟩
      clear hA hkn
      obtain ⟨r, hr⟩ : ∃ r, decide ((0 : Int) < (n : Int)) = r := ⟨_, rfl⟩
      have hr2 : decide (0 < n) = r := by rw [← hr]; by_cases h : 0 < n <;> simp [h]
      rw [hr] at HR
      go_wp2
      go_ret
      exact ⟨r, rfl, HR.out, rfl⟩

/-- What both Turns answer, refusals too. -/
def TRes (s : List Int) (n : Nat) (ec : Int) (m : Nat) (l : List Int) : Prop := (65536 < n ∧ ec = 5 ∧ m = 0 ∧ l = []) ∨ (n ≤ 65536 ∧ ¬ Closed s ∧ ec = 1 ∧ m = 0 ∧ l = []) ∨ (n ≤ 65536 ∧ ec = 0 ∧ m = n ∧ Turned s l)
def TurnAny (s : List Int) (n : Nat) (w : World) (e : Ending) (w' : World) : Prop := ∃ (A : Option Addr) (c m : Nat) (ec : Int) (l : List Int), e = .returned (.tuple #[.slice A m c, .int .i64 ec]) ∧ Sl w' (fun b => w.heap.size ≤ b) .i64 A m l ∧ TRes s n ec m l ∧ Ch (fun _ => False) w w'
set_option maxHeartbeats 1000000 in
theorem refturn_any (s : List Int) (A : Option Addr) (n c : Nat) (w : World) (hs : Sl w F .i64 A n s) (hn : n ≤ 65536) :
    Calls Tryz.prog 58 #[.slice A n c] w (TurnAny s n w) := by
  have HS := Bx.mk hs
  have HL := Bx.mk hs.len
  have hcl := refclosed_any s A n c w hs hn
  have d1 : decide (65536 < (n : Int)) = false := by simp; omega
  clear hs
  go_enter Tryz.func58, Tryz.ntmps58
  go_wp2_with fail
  refine hcl.mono ?_
  rintro e w' ⟨b, rfl, hb, rfl⟩
  cases b with
  | false =>
    have HN : Bx (¬ Closed s) := ⟨fun h => by have := hb.2 h; cases this⟩
    clear hb
    go_wp2
    go_returns
    exact ⟨none, 0, 0, 1, [], rfl, Sl.nil _ _ _ _, .inr (.inl ⟨hn, HN.out, rfl, rfl, rfl⟩), Ch.refl _ _⟩
  | true =>
    have HC := Bx.mk (hb.1 rfl)
    have har := refarr_ok s A n c w HS.out hn HC.out.pos
    have hn0 : 0 < n := by rw [← HL.out]; exact HC.out.full
    clear hb hcl
    go_wp2_with fail
    refine har.mono ?_
    rintro e w1 ⟨A1, c1, L, rfl, hSA, hS1, _, _, hC1⟩
    have hmk := mkI w1 n (by omega)
    have HSA := Bx.mk hSA
    have HS1 : Bx (Sl w1 (fun b => b < w1.heap.size) .i64 A1 n (asI L)) := ⟨hS1.mono (fun b h _ => h)⟩
    have HA1 : Bx (Sl w1 (fun b => b < w1.heap.size) .i64 A n s) := ⟨(HS.out.ch hC1 (fun _ _ _ h => h)).mono (fun b h _ => h)⟩
    have HC1 := Bx.mk hC1
    have HLn : Bx (L.length = n) := ⟨by rw [hSA.len, HL.out]⟩
    clear hSA hS1 hC1 har
    go_wp2_with fail
    obtain ⟨H, hH⟩ : ∃ H, w1.heap.size = H := ⟨_, rfl⟩
    obtain ⟨w2, hw2⟩ : ∃ w2, w1.alloc (.cells (madeCells #[.int .i64 0] n) 3) = w2 := ⟨_, rfl⟩
    have hC2 : Ch (fun _ => False) w1 w2 := by rw [← hw2]; exact (Ch.refl (fun _ => False) w1).alloc _
    have hO2 : Own w2 3 1 H n n ((upZ (trn s L) 0).map (Value.int .i64)) := by
      rw [upZ_zero, trn_len, HLn.out, List.map_replicate, ← hw2, ← hH]
      exact own_made1 w1 3 (.int .i64 0) n (by omega)
    rw [hH] at HS1 HA1
    have HS2 : Bx (Sl w2 (fun b => b < H) .i64 A1 n (asI L)) := ⟨HS1.out.ch hC2 (fun _ _ _ h => h)⟩
    have HA2 : Bx (Sl w2 (fun b => b < H) .i64 A n s) := ⟨HA1.out.ch hC2 (fun _ _ _ h => h)⟩
    have HO2 := Bx.mk hO2
    have HHW : Bx (w.heap.size ≤ H) := ⟨by rw [← hH]; exact HC1.out.size⟩
    have HC2 := Bx.mk (HC1.out.trans hC2 (fun _ _ h => h))
    rw [hw2, hH]
    clear hw2 hH hC2 hO2 HS1 HA1 HC1 hmk
    go_loopw [7] (fun i wr => ∃ j : Nat, j ≤ n ∧ i = .int .i64 j ∧ Own wr 3 1 H n n ((upZ (trn s L) j).map (Value.int .i64)) ∧ Ch (fun b => b = H) w2 wr) (fun i _ => n - (intOf i).toNat)
    case atStart => exact ⟨0, Nat.zero_le _, rfl, HO2.out, Ch.refl _ _⟩
    case round =>
      obtain ⟨j, hj, rfl, hO, hC⟩ := hrel
      by_cases hjn : j < n
      · have dj : decide ((j : Int) < (n : Int)) = true := by simp; omega
        obtain ⟨b1, o1, x0, rfl, _, hx0, hcx⟩ := (HS2.out.ch hC (fun b hb _ (e : b = H) => by omega)).at_ hjn
        obtain ⟨x, rfl, hx⟩ := asI_at hx0.out
        have hxn : x < n := by rw [← HL.out]; exact (HSA.out.mem x).1 (List.mem_of_getElem? hx)
        have hpn : prv n x < n := prv_lt hn0 hxn
        obtain ⟨b2, o2, rfl, _, hcy⟩ := Sl.gsAt (HA2.out.ch hC (fun b hb _ (e : b = H) => by omega)) hpn
        have htr := trn_at (s := s) hx
        rw [HL.out] at htr
        have htm : ((x : Int) + (n : Int) - 1).tmod (n : Int) = ((prv n x : Nat) : Int) := by
          rw [Int.tmod_eq_emod_of_nonneg (by omega)]
          unfold prv
          by_cases h0 : x = 0
          · subst h0
            rw [if_pos rfl, Int.emod_eq_of_lt (by omega) (by omega)]
            omega
          · rw [if_neg h0, show (x : Int) + (n : Int) - 1 = ((x - 1 : Nat) : Int) + (n : Int) by omega, Int.add_emod_right, Int.emod_eq_of_lt (by omega) (by omega)]
        generalize prv n x = p at *
        generalize gs s p = v at *
        have hco := hO.cellI hjn
        have hfo := hO.frozenAt j
        have hst := hO.storedI j v
        rw [upZ_next htr] at hst
        generalize (upZ (trn s L) j).getD j 0 = old at *
        have HST := Bx.mk hst
        have HCC := Bx.mk (hC.trans hst.2 (fun _ _ h => h))
        have i1 : (0 : Int) ≤ (j : Int) := by omega
        have i2 : (j : Int) < (n : Int) := by omega
        have i3 : (0 : Int) ≤ (p : Int) := by omega
        have i4 : (p : Int) < (n : Int) := by omega
        have hnz : (n : Int) ≠ 0 := by omega
        clear hO hC hx0 hx htr hst
        go_wp2
        go_roundw
        case rel => exact ⟨j + 1, by omega, by go_num, HST.out.1, HCC.out⟩
        case measure => simp [intOf]; omega
      · have hjn' : j = n := by omega
        have dj : decide ((j : Int) < (n : Int)) = false := by simp; omega
        have e1 : upZ (trn s L) n = trn s L := by
          have := upZ_all (trn s L)
          rwa [trn_len, HLn.out] at this
        have HO : Bx (Own wr 3 1 H n n ((trn s L).map (Value.int .i64))) := ⟨by rw [hjn', e1] at hO; exact hO⟩
        have HCF : Bx (Ch (fun _ => False) w wr) := ⟨HC2.out.trans hC (fun i hi (e : i = H) => by have := HHW.out; omega)⟩
        clear hO hC hjn' e1
        go_wp2
        go_returns
        exact ⟨_, n, n, 0, trn s L, rfl, HO.out.sl.mono (fun b _ hb => by have := HHW.out; omega), .inr (.inr ⟨hn, rfl, rfl, trn_turned HC.out HSA.out⟩), HCF.out⟩
end
end Go.Proofs.YtckkjccjkdidjaaGreatDoor

namespace Go.Proofs.YtckkjccjkdidjaaGreatDoor
open Go.RowKit Go.Oct Go.Su

/-- The least. -/
def Least (s : List Int) (w : World) (e : Ending) (w' : World) : Prop := ∃ v : Int, e = .returned (.int .i64 v) ∧ (∃ p, p < s.length ∧ gs s p = v) ∧ (∀ p, p < s.length → v ≤ gs s p) ∧ w = w'
/-- The first place that has it. -/
def IsIdx (s : List Int) (x : Int) (v : Int) : Prop := (∃ k : Nat, v = k ∧ k < s.length ∧ gs s k = x ∧ ∀ p, p < k → gs s p ≠ x) ∨ (v = -1 ∧ ∀ p, p < s.length → gs s p ≠ x)
def Idx (s : List Int) (x : Int) (w : World) (e : Ending) (w' : World) : Prop := ∃ v : Int, e = .returned (.int .i64 v) ∧ IsIdx s x v ∧ w = w'
section
variable {F : Nat → Prop}
theorem min_any (s : List Int) (A : Option Addr) (n c : Nat) (w : World) (hs : Sl w F .i64 A n s) (hn : n ≤ 1048576) (h0 : 0 < n) :
    Calls Tryz.prog 78 #[.slice A n c] w (Least s w) := by
  have HS := Bx.mk hs
  have HL := Bx.mk hs.len
  obtain ⟨b, off, x0, rfl, _, hx, hcx⟩ := hs.at_ h0
  have hg := gs_at hx.out
  have HG := Bx.mk hg
  have HST : Bx ((∃ p, p < n ∧ gs s p = x0) ∧ ∀ p, p < 1 → x0 ≤ gs s p) := ⟨⟨0, h0, hg⟩, fun p hp => by
    obtain rfl : p = 0 := by omega
    rw [hg]
    exact Int.le_refl _⟩
  rw [Nat.add_zero] at hcx
  have d1 : decide ((n : Int) < 1) = false := by simp; omega
  have i0 : (0 : Int) < (n : Int) := by omega
  clear hs hx hg
  go_enter Tryz.func78, Tryz.ntmps78
  go_wp2_with fail
  go_loop [3, 4] (fun m i => ∃ (k : Nat) (v : Int), 1 ≤ k ∧ k ≤ n ∧ i = .int .i64 k ∧ m = .int .i64 v ∧ Bx ((∃ p, p < n ∧ gs s p = v) ∧ ∀ p, p < k → v ≤ gs s p)) (fun _ i => n - (intOf i).toNat)
  case atStart => exact ⟨1, x0, Nat.le_refl _, h0, rfl, rfl, HST⟩
  case round =>
    obtain ⟨k, v, hk1, hk, rfl, rfl, hM⟩ := hrel
    by_cases hlt : k < n
    · have dk : decide ((k : Int) < (n : Int)) = true := by simp; omega
      obtain ⟨b', off', y, hA, _, hy, hcy⟩ := HS.out.at_ hlt
      injection hA with hA
      injection hA with e1 e2
      subst e1 e2
      have hgy := gs_at hy.out
      have HGY := Bx.mk hgy
      have i1 : (k : Int) < (n : Int) := by omega
      clear hy hgy
      by_cases hv : y < v
      · have HN : Bx ((∃ p, p < n ∧ gs s p = y) ∧ ∀ p, p < k + 1 → y ≤ gs s p) := ⟨⟨k, hlt, HGY.out⟩, fun p hp => by
          by_cases e : p = k
          · rw [e, HGY.out]
            exact Int.le_refl _
          · have := hM.out.2 p (by omega)
            omega⟩
        clear hM
        go_wp2
        go_round
        case rel => exact ⟨k + 1, y, by omega, by omega, by go_num, rfl, HN⟩
        case measure => simp [intOf]; omega
      · have HN : Bx ((∃ p, p < n ∧ gs s p = v) ∧ ∀ p, p < k + 1 → v ≤ gs s p) := ⟨hM.out.1, fun p hp => by
          by_cases e : p = k
          · rw [e, HGY.out]
            omega
          · exact hM.out.2 p (by omega)⟩
        clear hM
        go_wp2
        go_round
        case rel => exact ⟨k + 1, v, by omega, by omega, by go_num, rfl, HN⟩
        case measure => simp [intOf]; omega
    · have dk : decide ((k : Int) < (n : Int)) = false := by simp; omega
      have HN : Bx ((∃ p, p < s.length ∧ gs s p = v) ∧ ∀ p, p < s.length → v ≤ gs s p) := ⟨by
        rw [HL.out]
        exact ⟨hM.out.1, fun p hp => hM.out.2 p (by omega)⟩⟩
      clear hM
      go_wp2
      go_ret
      exact ⟨v, rfl, HN.out.1, HN.out.2, rfl⟩
theorem index_any (s : List Int) (A : Option Addr) (n c : Nat) (x : Int) (w : World) (hs : Sl w F .i64 A n s) (hn : n ≤ 1048576) :
    Calls Tryz.prog 79 #[.slice A n c, .int .i64 x] w (Idx s x w) := by
  have HS := Bx.mk hs
  have HL := Bx.mk hs.len
  clear hs
  go_enter Tryz.func79, Tryz.ntmps79
  go_wp2_with fail
  go_loop [5, 8] (fun _ i => ∃ k : Nat, k ≤ n ∧ i = .int .i64 k ∧ Bx (∀ p, p < k → gs s p ≠ x)) (fun _ i => n - (intOf i).toNat)
  case atStart => exact ⟨0, Nat.zero_le _, rfl, ⟨fun p hp => absurd hp (by omega)⟩⟩
  case round =>
    obtain ⟨k, hk, rfl, hM⟩ := hrel
    by_cases hlt : k < n
    · have dk : decide ((k : Int) < (n : Int)) = true := by simp; omega
      obtain ⟨b, off, y, rfl, _, hy, hcy⟩ := HS.out.at_ hlt
      have hgy := gs_at hy.out
      have HGY := Bx.mk hgy
      have i1 : (k : Int) < (n : Int) := by omega
      clear hy hgy
      by_cases hv : x = y
      · have HN : Bx (IsIdx s x (k : Int)) := ⟨.inl ⟨k, rfl, by rw [HL.out]; exact hlt, by rw [HGY.out]; exact hv.symm, hM.out⟩⟩
        have hb : (x == y) = true := by simpa using hv
        clear hM hv
        go_wp2
        go_ret
        exact ⟨_, rfl, HN.out, rfl⟩
      · have HN : Bx (∀ p, p < k + 1 → gs s p ≠ x) := ⟨fun p hp => by
          by_cases e : p = k
          · rw [e, HGY.out]
            exact fun e => hv e.symm
          · exact hM.out p (by omega)⟩
        have hb : (x == y) = false := by simpa using hv
        clear hM hv
        go_wp2
        go_round
        case rel => exact ⟨k + 1, by omega, by go_num, HN⟩
        case measure => simp [intOf]; omega
    · have dk : decide ((k : Int) < (n : Int)) = false := by simp; omega
      have HN : Bx (IsIdx s x (-1)) := ⟨.inr ⟨rfl, fun p hp => hM.out p (by rw [HL.out] at hp; omega)⟩⟩
      clear hM
      go_wp2
      go_ret
      exact ⟨_, rfl, HN.out, rfl⟩
theorem closed_iff {s : List Int} {n : Nat} {v i : Int} (hl : s.length = n) (h0 : 0 < n) (hv1 : ∃ p, p < s.length ∧ gs s p = v) (hv2 : ∀ p, p < s.length → v ≤ gs s p) (hi : IsIdx s 0 i) : Closed s ↔ (v = 0 ∧ i = (n : Int) - 1) := by
  constructor
  · intro hc
    have h1 := hv2 (s.length - 1) (by omega)
    rw [hc.last] at h1
    obtain ⟨p, hp, e⟩ := hv1
    have h2 := gs_pos hc.pos hp
    refine ⟨by omega, ?_⟩
    rcases hi with ⟨k, rfl, hk, hk0, _⟩ | ⟨_, h3⟩
    · rcases Nat.lt_or_ge k (s.length - 1) with h4 | h4
      · exact absurd hk0 (hc.only k h4)
      · omega
    · exact absurd hc.last (h3 _ (by omega))
  · rintro ⟨rfl, rfl⟩
    rcases hi with ⟨k, hk1, hk, hk0, hk2⟩ | ⟨h3, _⟩
    · refine ⟨fun x hx => ?_, by omega, by rw [show s.length - 1 = k by omega]; exact hk0, fun p hp => hk2 p (by omega)⟩
      obtain ⟨p, hp, e⟩ := List.getElem_of_mem hx
      have := hv2 p hp
      rwa [gs_at (by rw [List.getElem?_eq_getElem hp, e])] at this
    · omega
theorem closed_any (s : List Int) (A : Option Addr) (n c : Nat) (w : World) (hs : Sl w F .i64 A n s) (hn : n ≤ 1048576) :
    Calls Tryz.prog 51 #[.slice A n c] w (TellsClosed s w) := by
  have hl := hs.len
  have HL := Bx.mk hl
  by_cases h0 : n = 0
  · have d0 : decide ((0 : Int) < (n : Int)) = false := by simp; omega
    have d1 : decide (0 < n) = false := by simp; omega
    have HN : Bx (¬ Closed s) := ⟨fun hc => by have := hc.full; omega⟩
    clear hs h0 hl
    go_enter Tryz.func51, Tryz.ntmps51
    go_wp2
    go_ret
    exact ⟨false, rfl, ⟨fun h => (by cases h), fun h => absurd h HN.out⟩, rfl⟩
  · have d0 : decide ((0 : Int) < (n : Int)) = true := by simp; omega
    have d1 : decide (0 < n) = true := by simp; omega
    have H0 : Bx (0 < n) := ⟨by omega⟩
    have hmin := min_any s A n c w hs hn (by omega)
    have hidx := index_any s A n c 0 w hs hn
    have HIX := Bx.mk hidx
    clear hs h0 hidx hl
    go_enter Tryz.func51, Tryz.ntmps51
    go_wp2_with fail
    refine hmin.mono ?_
    rintro e w1 ⟨v, rfl, hv1, hv2, rfl⟩
    have HV := Bx.mk (And.intro hv1 hv2)
    clear hv1 hv2 hmin
    by_cases hv : v = 0
    · have hb : (v == 0) = true := by simpa using hv
      go_wp2_with fail
      refine HIX.out.mono ?_
      rintro e w2 ⟨i, rfl, hi, rfl⟩
      have HC := Bx.mk (closed_iff HL.out H0.out HV.out.1 HV.out.2 hi)
      obtain ⟨r, hr⟩ : ∃ r, (i == (n : Int) - 1) = r := ⟨_, rfl⟩
      have HR : Bx (r = true ↔ Closed s) := ⟨by
        rw [HC.out, ← hr]
        simp [hv]⟩
      clear hi hv
      go_wp2
      go_ret
      exact ⟨r, rfl, HR.out, rfl⟩
    · have hb : (v == 0) = false := by simpa using hv
      have HN : Bx (¬ Closed s) := ⟨fun hc => by
        have h1 := HV.out.2 (s.length - 1) (by have := hc.full; omega)
        rw [hc.last] at h1
        obtain ⟨p, hp, e⟩ := HV.out.1
        have := gs_pos hc.pos hp
        omega⟩
      clear hv
      go_wp2
      go_ret
      exact ⟨false, rfl, ⟨fun h => (by cases h), fun h => absurd h HN.out⟩, rfl⟩
theorem ahead_any (s : List Int) (A : Option Addr) (n c x : Nat) (w : World) (hs : Sl w F .i64 A n s) (hn : n ≤ 1048576) (hx : x < n) :
    Calls Tryz.prog 53 #[.slice A n c, .int .i64 x] w fun e w' => e = .returned (.int .i64 (gs s (prv n x))) ∧ w = w' := by
  obtain ⟨p, hp⟩ : ∃ p, prv n x = p := ⟨_, rfl⟩
  have hpn : p < n := by rw [← hp]; exact prv_lt (by omega) hx
  obtain ⟨b, off, rfl, _, hc⟩ := Sl.gsAt hs hpn
  rw [hp]
  generalize gs s p = v at *
  have i1 : (p : Int) < (n : Int) := by omega
  by_cases h0 : x = 0
  · subst h0
    have e1 : (n : Int) - 1 = (p : Int) := by unfold prv at hp; rw [if_pos rfl] at hp; omega
    clear hp hs
    go_enter Tryz.func53, Tryz.ntmps53
    go_wp2
    go_ret
    exact ⟨rfl, rfl⟩
  · have e1 : (x : Int) - 1 = (p : Int) := by unfold prv at hp; rw [if_neg h0] at hp; omega
    have hb : ((x : Int) == 0) = false := by simp; omega
    clear hp hs h0
    go_enter Tryz.func53, Tryz.ntmps53
    go_wp2
    go_ret
    exact ⟨rfl, rfl⟩
end
end Go.Proofs.YtckkjccjkdidjaaGreatDoor
