/-
  The contract of (*bits.Vector).Select, with its closure and sort.Search.
-/
import Derived.Test.YtbckiefkppgipaaDoorBiVec
import Derived.IntWalk
namespace Go.Proofs.YtbckiefkppgipaaDoor
open Go.RowKit Go.Oct Go.Bi

section
variable {F : Nat → Prop}
theorem Vec.drewN {w : World} {b : Nat} {l : List Bool} (h : Vec w F b l) (n : Nat) : Vec (w.drewN n) F b l := h.keep ((Ch.refl _ _).drewN n)
theorem Vec.alloc {w : World} {b : Nat} {l : List Bool} (h : Vec w F b l) (o : Obj) : Vec (w.alloc o) F b l := h.keep ((Ch.refl _ _).alloc o)
theorem rank_quiet (b : Nat) (l : List Bool) (o : Bool) (i : Int) (w : World) (n : Nat) (h : Vec w F b l) :
    Calls Tryd.prog 33 #[.pointer (some ⟨b, 0, none⟩), .bool o, .int .i64 i] (w.drewN n) fun e w' => e = .returned (.int .i64 (rk l o i : Nat)) ∧ ∃ m, w' = w.drewN m :=
  Calls.quiet_of_same ((rank_any b l o i (w.drewN n) (h.drewN n)).mono fun _ _ h => ⟨h.1, h.2.symm⟩)
theorem len_quiet (b : Nat) (l : List Bool) (w : World) (n : Nat) (h : Vec w F b l) :
    Calls Tryd.prog 26 #[.pointer (some ⟨b, 0, none⟩)] (w.drewN n) fun e w' => e = .returned (.int .i64 l.length) ∧ ∃ m, w' = w.drewN m :=
  Calls.quiet_of_same ((len_any b l (w.drewN n) (h.drewN n)).mono fun _ _ h => ⟨h.1, h.2.symm⟩)

/-- Does the first word's end and what is ahead of it have more than k? -/
def moreB (l : List Bool) (o : Bool) (k : Nat) (i : Nat) : Bool := decide (k < rk l o (((i : Int) + 1) * 64))

set_option maxHeartbeats 400000 in
theorem clos_any (b b3 b4 b5 : Nat) (l : List Bool) (o : Bool) (k i : Nat) (w : World) (h : Vec w F b l) (hi : i ≤ 1048576)
    (c3 : w.cell? ⟨b3, 0, none⟩ = some (.pointer (some ⟨b, 0, none⟩))) (c4 : w.cell? ⟨b4, 0, none⟩ = some (.bool o)) (c5 : w.cell? ⟨b5, 0, none⟩ = some (.int .i64 k)) :
    Calls Tryd.prog 43 #[.int .i64 i, .pointer (some ⟨b3, 0, none⟩), .pointer (some ⟨b4, 0, none⟩), .pointer (some ⟨b5, 0, none⟩)] w fun e w' => e = .returned (.bool (moreB l o k i)) ∧ ∃ n, w' = w.drewN n := by
  have H := Bx.mk h
  clear h
  go_enter Tryd.func43, Tryd.ntmps43
  go_wp2
  go_quiet ((go_at_call 33; exact rank_quiet b l o _ _ _ H.out))
  go_wp2
  go_ret
  exact ⟨rfl, _, rfl⟩

/-- What a search between lo and hi has found out. -/
def Found (p : Nat → Bool) (m lo hi : Nat) : Prop := lo ≤ hi ∧ hi ≤ m ∧ (∀ x, lo = x + 1 → p x = false) ∧ (hi < m → p hi = true)
/-- What sort.Search leaves. -/
def SearchPost (p : Nat → Bool) (m : Nat) (w : World) (e : Ending) (w' : World) : Prop := ∃ a : Nat, e = .returned (.int .i64 a) ∧ Found p m a a ∧ ∃ n, w' = w.drewN n

set_option maxHeartbeats 400000 in
theorem search_any (b b3 b4 b5 : Nat) (l : List Bool) (o : Bool) (k m : Nat) (w : World) (h : Vec w F b l) (hm : m ≤ 1048576)
    (c3 : w.cell? ⟨b3, 0, none⟩ = some (.pointer (some ⟨b, 0, none⟩))) (c4 : w.cell? ⟨b4, 0, none⟩ = some (.bool o)) (c5 : w.cell? ⟨b5, 0, none⟩ = some (.int .i64 k)) :
    Calls Tryd.prog 42 #[.int .i64 m, .func (.func 43) #[] #[.pointer (some ⟨b3, 0, none⟩), .pointer (some ⟨b4, 0, none⟩), .pointer (some ⟨b5, 0, none⟩)]] w (SearchPost (moreB l o k) m w) := by
  have H := Bx.mk h
  have H3 := Bx.mk c3
  have H4 := Bx.mk c4
  have H5 := Bx.mk c5
  clear h c3 c4 c5
  go_enter Tryd.func42, Tryd.ntmps42
  go_wp2
  go_loopw [5, 6] (fun x y wr => ∃ lo hi n : Nat, x = .int .i64 lo ∧ y = .int .i64 hi ∧ wr = w.drewN n ∧ Found (moreB l o k) m lo hi) (fun x y _ => (intOf y).toNat - (intOf x).toNat)
  case atStart => exact ⟨0, m, 0, rfl, rfl, rfl, Nat.zero_le _, Nat.le_refl _, fun x hx => by omega, fun h => by omega⟩
  case round =>
    obtain ⟨lo, hi, n, rfl, rfl, rfl, hf⟩ := hrel
    obtain ⟨hlh, hhm, hf1, hf2⟩ := hf
    have HF1 := Bx.mk hf1
    have HF2 := Bx.mk hf2
    clear hf1 hf2
    by_cases hlt : lo < hi
    · have hc := clos_any (F := F) b b3 b4 b5 l o k ((lo + hi) / 2) (w.drewN n) (H.out.drewN n) (by omega) H3.out H4.out H5.out
      rw [show (((lo + hi) / 2 : Nat) : Int) = ((lo : Int) + (hi : Int)) / 2 by omega] at hc
      have HC := Bx.mk hc
      clear hc
      cases hp : moreB l o k ((lo + hi) / 2)
      · rw [hp] at HC
        have HP := Bx.mk hp
        clear hp
        go_wp2_with fail
        refine HC.out.mono ?_
        rintro e w' ⟨rfl, nq, rfl⟩
        go_wp2
        go_roundw
        case rel => exact ⟨(lo + hi) / 2 + 1, hi, n + nq, by rw [show ((lo : Int) + (hi : Int)) / 2 + 1 = (((lo + hi) / 2 + 1 : Nat) : Int) by omega], rfl, rfl, by omega, hhm, fun x hx => by rw [show x = (lo + hi) / 2 by omega]; exact HP.out, HF2.out⟩
        case measure => simp [intOf]; omega
      · rw [hp] at HC
        have HP := Bx.mk hp
        clear hp
        go_wp2_with fail
        refine HC.out.mono ?_
        rintro e w' ⟨rfl, nq, rfl⟩
        go_wp2
        go_roundw
        case rel => exact ⟨lo, (lo + hi) / 2, n + nq, rfl, by rw [show ((lo : Int) + (hi : Int)) / 2 = (((lo + hi) / 2 : Nat) : Int) by omega], rfl, by omega, by omega, HF1.out, fun _ => HP.out⟩
        case measure => simp [intOf]; omega
    · obtain rfl : lo = hi := by omega
      go_wp2
      go_ret
      exact ⟨lo, rfl, ⟨Nat.le_refl _, hhm, HF1.out, HF2.out⟩, n, rfl⟩

theorem select_nil (o : Bool) (k : Int) (w : World) :
    Calls Tryd.prog 37 #[.pointer none, .bool o, .int .i64 k] w fun e w' => e = .returned (.int .i64 (-1)) ∧ Ch (fun _ => False) w w' := by
  by_cases hk : k < 0
  · have hk' : decide (k < 0) = true := by simpa using hk
    go_enter Tryd.func37, Tryd.ntmps37
    go_wp2
    go_quiet (fail)
    go_wp2
    go_ret
    exact ⟨rfl, ((((Ch.refl _ w).alloc _).alloc _).alloc _).drewN _⟩
  · have hk' : decide (k < 0) = false := by simpa using hk
    have hk0 : 0 ≤ k := by omega
    clear hk
    go_enter Tryd.func37, Tryd.ntmps37
    go_wp2
    go_quiet ((first | (go_at_call 33; exact Calls.quiet_of_same ((rank_nil _ _ _).mono fun _ _ h => ⟨h.1, h.2.symm⟩)) | (go_at_call 26; exact Calls.quiet_of_same ((len_nil _).mono fun _ _ h => ⟨h.1, h.2.symm⟩))))
    go_wp2
    go_ret
    exact ⟨rfl, ((((Ch.refl _ w).alloc _).alloc _).alloc _).drewN _⟩

theorem rk_end {l : List Bool} {o : Bool} {a : Nat} (h : l.length ≤ 64 * (a + 1)) : (l.take (64 * (a + 1))).count o = l.count o := by rw [List.take_of_length_le h]
/-- Where the search ends there is a word, and it holds the bit. -/
theorem found_at {ws : List Nat} {l : List Bool} {o : Bool} {k a : Nat} (hW : Wd ws l) (hf : Found (moreB l o k) ws.length a a) (hk : k < l.count o) :
    a < ws.length ∧ 64 * a < l.length ∧ (l.take (64 * a)).count o ≤ k ∧ k < (l.take (64 * (a + 1))).count o := by
  obtain ⟨_, h1, h2, h3⟩ := hf
  have hl := hW.len
  have hr : ∀ i : Nat, rk l o (((i : Int) + 1) * 64) = (l.take (64 * (i + 1))).count o := fun i => by
    rw [show ((i : Int) + 1) * 64 = ((64 * (i + 1) : Nat) : Int) by omega]
    rfl
  have hlow : ∀ x, a = x + 1 → (l.take (64 * a)).count o ≤ k := fun x hx => by
    have := h2 x hx
    unfold moreB at this
    rw [hr x] at this
    subst hx
    have := of_decide_eq_false this
    omega
  have ha : a < ws.length := by
    rcases Nat.lt_or_ge a ws.length with h | h
    · exact h
    · exfalso
      cases a with
      | zero =>
        have : l.length = 0 := by omega
        have := List.length_eq_zero_iff.1 this
        subst this
        simp at hk
      | succ x =>
        have h4 := hlow x rfl
        rw [rk_end (by omega)] at h4
        omega
  have h4 : k < (l.take (64 * (a + 1))).count o := by
    have := h3 ha
    unfold moreB at this
    rw [hr a] at this
    exact of_decide_eq_true this
  refine ⟨ha, by omega, ?_, h4⟩
  cases a with
  | zero => simp
  | succ x => exact hlow x rfl

theorem xor_all (x : Nat) (h : x < 18446744073709551616) : bits .xor .u64 IntKind.u64.max (x : Int) = ((flip64 x : Nat) : Int) := by
  have e : IntKind.u64.max = ((18446744073709551615 : Nat) : Int) := by decide
  rw [e, bits_xor_u64_nat _ _ (by omega) h]
  congr 1
  apply Nat.eq_of_testBit_eq
  intro j
  rw [Nat.testBit_xor, show (18446744073709551615 : Nat) = 2 ^ 64 - 1 from rfl, Nat.testBit_two_pow_sub_one]
  rcases Nat.lt_or_ge j 64 with hj | hj
  · rw [flip_bit h hj]
    simp [hj]
  · have h1 : x.testBit j = false := Nat.testBit_lt_two_pow (Nat.lt_of_lt_of_le (show x < 2 ^ 64 from h) (Nat.pow_le_pow_right (by omega) hj))
    have h2 : (flip64 x).testBit j = false := Nat.testBit_lt_two_pow (Nat.lt_of_lt_of_le (show flip64 x < 2 ^ 64 by unfold flip64; omega) (Nat.pow_le_pow_right (by omega) hj))
    rw [h1, h2]
    simp [show ¬ j < 64 by omega]

theorem TabAt.keep {w w' : World} {S : Nat → Prop} (hc : Ch S w w') {g : Nat} {tab : List Nat} (h : TabAt g tab w) (hS : ¬ S g := by exact fun h => h) : TabAt g tab w' := fun j hj => hc.cell hS (h j hj)
theorem cell_new (w : World) (u : Value) (e : TypeId) : (w.alloc (.cells #[u] e)).cell? ⟨w.heap.size, 0, none⟩ = some u := by
  rw [World.cell?_alloc_at _ _ _ _ rfl]
  rfl
theorem cell_new_at {w : World} {u : Value} {e : TypeId} {n : Nat} (h : w.heap.size = n) : (w.alloc (.cells #[u] e)).cell? ⟨n, 0, none⟩ = some u := by
  subst h
  exact cell_new w u e
set_option maxHeartbeats 1000000 in
theorem select_in (b : Nat) (l : List Bool) (o : Bool) (k : Nat) (w : World) (h : Vec w F b l) (hT : Tab w) (hk : k < l.count o) :
    Calls Tryd.prog 37 #[.pointer (some ⟨b, 0, none⟩), .bool o, .int .i64 k] w fun e w' => e = .returned (.int .i64 (sel l o k)) ∧ Ch (fun _ => False) w w' := by
  have H := Bx.mk h
  have HT := Bx.mk hT
  have HK := Bx.mk hk
  have hl := h.short
  have hkl : k < l.length := Nat.lt_of_lt_of_le hk List.count_le_length
  have hra : rk l o (l.length : Nat) = l.count o := rk_all (Int.le_refl _)
  have hd1 : decide ((k : Int) < 0) = false := by simp
  have hd2 : decide (rk l o (l.length : Nat) ≤ k) = false := by rw [hra]; simp; omega
  obtain ⟨Aw, Aa, cw, ca, ws, us, hc0, hc1, hc2, hb, hw, ha, _, hW, hA⟩ := h
  have HW := Bx.mk hW
  have HWS := Bx.mk hw
  have hlw := hW.len
  have hlm : ws.length ≤ 1048576 := by omega
  clear hT hk hra hW hw ha hA hc2 hlw
  have hb0 := lt_of_cell hc0
  go_enter Tryd.func37, Tryd.ntmps37
  go_wp2
  go_quiet ((first | (go_at_call 33; exact rank_quiet b l _ _ _ _ (((H.out.alloc _).alloc _).alloc _)) | (go_at_call 26; exact len_quiet b l _ _ (((H.out.alloc _).alloc _).alloc _))))
  generalize hw1 : World.drewN (World.alloc (World.alloc (World.alloc w _) _) _) nq = w1
  have hC : Ch (fun _ => False) w w1 := by
    rw [← hw1]
    exact (((Ch.refl _ w).alloc _).alloc _).alloc _ |>.drewN _
  have c3 : w1.cell? ⟨w.heap.size, 0, none⟩ = some (.pointer (some ⟨b, 0, none⟩)) := by
    rw [← hw1]
    exact ((((Ch.refl (fun _ => False) _).alloc _).alloc _).drewN nq).cell (fun h => h) (cell_new w _ _)
  have c4 : w1.cell? ⟨w.heap.size + 1, 0, none⟩ = some (.bool o) := by
    rw [← hw1]
    exact (((Ch.refl (fun _ => False) _).alloc _).drewN nq).cell (fun h => h) (cell_new_at (by simp))
  have c5 : w1.cell? ⟨w.heap.size + 1 + 1, 0, none⟩ = some (.int .i64 k) := by
    rw [← hw1]
    exact ((Ch.refl (fun _ => False) _).drewN nq).cell (fun h => h) (cell_new_at (by simp))
  clear hw1
  have HC := Bx.mk hC
  have hc1' := hC.cell (fun h => h) hc1
  clear hC hc1 hc0
  go_wp2_with fail
  refine (search_any (F := F) b w.heap.size (w.heap.size + 1) (w.heap.size + 1 + 1) l o k ws.length _ (H.out.keep HC.out) hlm c3 c4 c5).mono ?_
  rintro e w2 ⟨a, rfl, hf, nq2, hw2⟩
  have hC2 : Ch (fun _ => False) w w2 := by rw [hw2]; exact HC.out.drewN _
  replace c3 : w2.cell? ⟨w.heap.size, 0, none⟩ = some (.pointer (some ⟨b, 0, none⟩)) := by rw [hw2]; exact c3
  replace c4 : w2.cell? ⟨w.heap.size + 1, 0, none⟩ = some (.bool o) := by rw [hw2]; exact c4
  replace c5 : w2.cell? ⟨w.heap.size + 1 + 1, 0, none⟩ = some (.int .i64 k) := by rw [hw2]; exact c5
  replace hc1' := (show w2.cell? ⟨b, 1, none⟩ = some (.slice Aw ws.length cw) by rw [hw2]; exact hc1')
  clear hw2
  clear HC
  have HC := Bx.mk hC2
  clear hC2
  obtain ⟨ha, ha2, hk1, hk2⟩ := found_at HW.out hf HK.out
  have hrk : rk l o (((a : Int)) * 64) = (l.take (64 * a)).count o := by
    rw [show (a : Int) * 64 = ((64 * a : Nat) : Int) by omega]
    rfl
  have HR := Bx.mk hrk
  obtain ⟨bw, ow, rfl, _, hcw0⟩ := HWS.out.at_ ha
  have hx := HW.out.lt a
  have hcw := HC.out.cell (fun h => h) hcw0
  have hsp := select_pop HW.out ha2 hk1 hk2
  have hsa := fun i => select_at HW.out (i := i) ha2 hk1 hk2
  generalize ws.getD a 0 = x at *
  obtain ⟨d, hd⟩ : ∃ d, d = k - (l.take (64 * a)).count o := ⟨_, rfl⟩
  rw [← hd] at hsp hsa
  have HSA := Bx.mk hsa
  have HSP := Bx.mk hsp
  have HD := Bx.mk hd
  have HK1 := Bx.mk hk1
  clear hf hrk hcw0 hsp hsa hk1 hk2 hd
  have hTT := HT.out
  have HTT := Bx.mk (fun n => (TabAt.keep (HC.out.drewN n) hTT : Tab (w2.drewN n)))
  have hpl := plN_spec HSP.out
  have HPL := Bx.mk hpl
  have hp64 := hpl.2
  have hse := sel_eq (HSA.out _ hpl.1 hpl.2)
  have HSE := Bx.mk hse
  have hkd0 : (k : Int) - (rk l o ((a : Int) * 64) : Nat) = (d : Int) := by rw [HR.out]; have := HD.out; have := HK1.out; omega
  have hdl : (d : Int) ≤ 1048576 := by omega
  have hke : IntKind.i64.wrap ((k : Int) - (rk l o ((a : Int) * 64) : Nat)) = (d : Int) := by rw [hkd0]; exact IntWalk.i64_in _ (by omega)
  have hkd : wrap64 ((k : Int) - (rk l o ((a : Int) * 64) : Nat)) = (d : Int) := by rw [hkd0]; unfold wrap64; omega
  have HKD := Bx.mk hkd
  have HKE := Bx.mk hke
  clear hTT hpl hse hkd hke hkd0
  cases o
  · have hxx := xor_all x hx
    rw [show flip64 x = selW false x from rfl] at hxx
    have hy : selW false x < 18446744073709551616 := selW_lt hx
    generalize selW false x = y at *
    go_wp2_with fail
    clear hxx
    go_quiet ((first | (go_at_call 33; exact rank_quiet b l _ _ _ _ (H.out.keep HC.out)) | (go_at_call 44; rw [HKD.out]; exact place_quiet y d _ _ hy HSP.out (HTT.out _)) | (go_at_call 44; rw [HKE.out]; exact place_quiet y d _ _ hy HSP.out (HTT.out _))))
    go_wp2
    go_ret
    exact ⟨ret_int (by rw [HSE.out]; omega), HC.out.drewN _⟩
  · have hy : selW true x < 18446744073709551616 := selW_lt hx
    have hsx : selW true x = x := rfl
    generalize selW true x = y at *
    subst hsx
    go_wp2_with fail
    go_quiet ((first | (go_at_call 33; exact rank_quiet b l _ _ _ _ (H.out.keep HC.out)) | (go_at_call 44; rw [HKD.out]; exact place_quiet _ d _ _ hy HSP.out (HTT.out _)) | (go_at_call 44; rw [HKE.out]; exact place_quiet _ d _ _ hy HSP.out (HTT.out _))))
    go_wp2
    go_ret
    exact ⟨ret_int (by rw [HSE.out]; omega), HC.out.drewN _⟩

set_option maxHeartbeats 400000 in
theorem select_out (b : Nat) (l : List Bool) (o : Bool) (k : Int) (w : World) (h : Vec w F b l) (hk : k < 0 ∨ (l.count o : Int) ≤ k) :
    Calls Tryd.prog 37 #[.pointer (some ⟨b, 0, none⟩), .bool o, .int .i64 k] w fun e w' => e = .returned (.int .i64 (-1)) ∧ Ch (fun _ => False) w w' := by
  have H := Bx.mk h
  have hl := h.short
  clear h
  by_cases hk0 : k < 0
  · have hk' : decide (k < 0) = true := by simpa using hk0
    clear hk
    go_enter Tryd.func37, Tryd.ntmps37
    go_wp2
    go_quiet (fail)
    go_wp2
    go_ret
    exact ⟨rfl, ((((Ch.refl _ w).alloc _).alloc _).alloc _).drewN _⟩
  · have hd1 : decide (k < 0) = false := by simpa using hk0
    have hra : rk l o (l.length : Nat) = l.count o := rk_all (Int.le_refl _)
    have hd2 : decide (((rk l o (l.length : Nat) : Nat) : Int) ≤ k) = true := by rw [hra]; simp; omega
    have hk1 : 0 ≤ k := by omega
    clear hk hk0 hra
    go_enter Tryd.func37, Tryd.ntmps37
    go_wp2
    go_quiet ((first | (go_at_call 33; exact rank_quiet b l _ _ _ _ (((H.out.alloc _).alloc _).alloc _)) | (go_at_call 26; exact len_quiet b l _ _ (((H.out.alloc _).alloc _).alloc _))))
    go_wp2
    go_ret
    exact ⟨rfl, ((((Ch.refl _ w).alloc _).alloc _).alloc _).drewN _⟩
/-- Select. -/
theorem select_any (b : Nat) (l : List Bool) (o : Bool) (k : Int) (w : World) (h : Vec w F b l) (hT : Tab w) :
    Calls Tryd.prog 37 #[.pointer (some ⟨b, 0, none⟩), .bool o, .int .i64 k] w fun e w' => e = .returned (.int .i64 (sel l o k)) ∧ Ch (fun _ => False) w w' := by
  by_cases hk : k < 0 ∨ (l.count o : Int) ≤ k
  · rw [sel_eq (.inr ⟨rfl, hk⟩ : SelIs l o k (-1))]
    exact select_out b l o k w h hk
  · obtain ⟨m, rfl⟩ : ∃ m : Nat, k = m := ⟨k.toNat, by omega⟩
    exact select_in b l o m w h hT (by omega)
end
end Go.Proofs.YtbckiefkppgipaaDoor
