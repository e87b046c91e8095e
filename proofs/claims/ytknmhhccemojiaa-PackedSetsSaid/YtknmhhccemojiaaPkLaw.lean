/-
  The contracts of haystacklaw3.words, known, alike; the walk of PackedOfNothing.
-/
import Derived.Test.YtknmhhccemojiaaPkRefs3
namespace Go.Proofs.Ytknmhhccemojiaa
open Go.RowKit Go.Oct Go.Pk

set_option maxHeartbeats 400000 in
theorem same_any (xs : List Nat) (A A' : Option Addr) (c c' : Nat) (w : World) (F F' : Nat → Prop) (hl : xs.length ≤ 1048576) (hx : Sn w F A xs) (hy : Sn w F' A' xs) :
    Calls Try.prog 20 #[.slice A xs.length c, .slice A' xs.length c'] w fun e w' => e = .returned (.bool true) ∧ ∃ m, w' = w.drewN m := by
  have HX := Bx.mk hx
  have HY := Bx.mk hy
  clear hx hy
  go_enter Try.func20, Try.ntmps20
  go_wp2
  go_loopw [5] (fun i wr => ∃ k m : Nat, k ≤ xs.length ∧ i = .int .i64 k ∧ wr = w.drewN m) (fun i _ => xs.length - (intOf i).toNat)
  case atStart => exact ⟨0, 0, Nat.zero_le _, rfl, rfl⟩
  case round =>
    obtain ⟨k, m, hk, rfl, rfl⟩ := hrel
    by_cases hlt : k < xs.length
    · obtain ⟨b, off, rfl, _, hc⟩ := HX.out.at_ hlt
      obtain ⟨b', off', rfl, _, hc'⟩ := HY.out.at_ hlt
      generalize xs.getD k 0 = x at *
      have hb : ((x : Int) != (x : Int)) = false := by simp
      go_wp2
      go_quiet (fail)
      go_wp2
      go_roundw
      case rel => exact ⟨k + 1, _, by omega, by go_num, rfl⟩
      case measure => simp [intOf]; omega
    · go_wp2
      go_ret
      exact ⟨rfl, m, rfl⟩

theorem get_val (bv bw wd n : Nat) (ws l : List Nat) (i : Int) (x : Nat) (w : World) (h : Raw w bv bw wd n ws) (hp : Pk ws wd l) (hl : l.length = n) (hx : gt l i = x) :
    Calls Try.prog 23 #[.pointer (some ⟨bv, 0, none⟩), .int .i64 i] w fun e w' => e = .returned (.int .u64 x) ∧ w = w' := by
  subst hx
  exact get_any bv bw wd n ws l i w h hp hl
theorem get_quiet (bv bw wd n : Nat) (ws l : List Nat) (i : Int) (x m : Nat) (w : World) (h : Raw w bv bw wd n ws) (hp : Pk ws wd l) (hl : l.length = n) (hx : gt l i = x) :
    Calls Try.prog 23 #[.pointer (some ⟨bv, 0, none⟩), .int .i64 i] (w.drewN m) fun e w' => e = .returned (.int .u64 x) ∧ ∃ m', w' = w.drewN m' :=
  Calls.quiet_of_same ((get_val bv bw wd n ws l i x _ (h.drewN m) hp hl hx).mono fun _ _ h => ⟨h.1, h.2.symm⟩)
theorem ch_drewN (w : World) (m : Nat) : Ch (fun _ => False) w (w.drewN m) := (Ch.refl _ w).drewN m

/-- The row of the document's example. -/
theorem known_wid : widN [5, 1, 7] = 3 := by decide
theorem known_pk : Pk [461] 3 [5, 1, 7] := by
  refine ⟨by omega, by omega, rfl, fun k => ?_, fun k => ?_, fun p => ?_⟩
  · match k with
    | 0 => decide
    | k + 1 => simp
  · match k with
    | 0 => decide
    | 1 => decide
    | 2 => decide
    | k + 3 => simp
  · rcases Nat.lt_or_ge p 64 with h | h
    · have key : ∀ p : Fin 64, dg 64 [461] p.val = dg 3 [5, 1, 7] p.val := by decide
      exact key ⟨p, h⟩
    · rw [dg_off (by omega) (by simp; omega), dg_off (by omega) (by simp; omega)]
/-- What a maker leaves: a new Array that is the row l. -/
def New (wd n : Nat) (l : List Nat) (w : World) (e : Ending) (w' : World) : Prop := ∃ (bv bw : Nat) (ws : List Nat), e = .returned (.pointer (some ⟨bv, 0, none⟩)) ∧ w.heap.size ≤ bw ∧ w.heap.size ≤ bv ∧ Raw w' bv bw wd n ws ∧ Pk ws wd l ∧ Ch (fun _ => False) w w'
theorem pack_is (l : List Nat) (n wd : Nat) (A : Option Addr) (c : Nat) (w : World) (F : Nat → Prop) (hs : Sn w F A l) (hn : l.length = n) (hw : widN l = wd) (hl : n ≤ 1048576) (hc : n ≤ c) (h64 : ∀ x ∈ l, x < 18446744073709551616) :
    Calls Try.prog 9 #[.slice A n c] w (New wd n l w) := by
  subst hn hw
  exact (pack_any l A c w F hs hl hc h64).mono fun e w' ⟨h1, ⟨ws, h2, h3⟩, h4⟩ => ⟨_, _, ws, h1, Nat.le_refl _, Nat.le_succ _, h2, h3, h4⟩
theorem same_is (xs : List Nat) (n : Nat) (A A' : Option Addr) (c c' : Nat) (w : World) (F F' : Nat → Prop) (hn : xs.length = n) (hl : n ≤ 1048576) (hx : Sn w F A xs) (hy : Sn w F' A' xs) :
    Calls Try.prog 20 #[.slice A n c, .slice A' n c'] w fun e w' => e = .returned (.bool true) ∧ ∃ m, w' = w.drewN m := by
  subst hn
  exact same_any xs A A' c c' w F F' hl hx hy
theorem words_is (bv bw wd n N : Nat) (ws : List Nat) (w : World) (h : Raw w bv bw wd n ws) (hN : ws.length = N) : Calls Try.prog 17 #[.pointer (some ⟨bv, 0, none⟩)] w fun e w' => ∃ g, w.heap.size ≤ g ∧ e = .returned (.slice (some ⟨g, 0, none⟩) N N) ∧ Ow w' g N ws ∧ Ch (fun _ => False) w w' := by
  subst hN
  exact (words_any bv bw wd n ws w h).mono fun e w' h => ⟨_, Nat.le_refl _, h⟩
theorem width_is (bv bw wd n : Nat) (r : Int) (ws : List Nat) (w : World) (h : Raw w bv bw wd n ws) (hr : (wd : Int) = r) : Calls Try.prog 22 #[.pointer (some ⟨bv, 0, none⟩)] w fun e w' => e = .returned (.int .i64 r) ∧ w = w' := by
  subst hr
  exact width_any bv bw wd n ws w h
theorem len_is (bv bw wd n : Nat) (r : Int) (ws : List Nat) (w : World) (h : Raw w bv bw wd n ws) (hr : (n : Int) = r) : Calls Try.prog 21 #[.pointer (some ⟨bv, 0, none⟩)] w fun e w' => e = .returned (.int .i64 r) ∧ w = w' := by
  subst hr
  exact len_any bv bw wd n ws w h
theorem get_int (bv bw wd n : Nat) (ws l : List Nat) (i x : Int) (w : World) (h : Raw w bv bw wd n ws) (hp : Pk ws wd l) (hl : l.length = n) (hx : ((gt l i : Nat) : Int) = x) :
    Calls Try.prog 23 #[.pointer (some ⟨bv, 0, none⟩), .int .i64 i] w fun e w' => e = .returned (.int .u64 x) ∧ w = w' := by
  subst hx
  exact get_any bv bw wd n ws l i w h hp hl
set_option maxHeartbeats 400000 in
theorem known_any (w : World) : Calls Try.prog 12 #[] w fun e w' => e = .returned (.bool true) ∧ Ch (fun _ => False) w w' := by
  have hs0 : Sn (w.alloc (.cells #[.int .u64 5, .int .u64 1, .int .u64 7] 25)) (fun b => b = w.heap.size) (some ⟨w.heap.size, 0, none⟩) [5, 1, 7] := Vs.built w 25 [.int .u64 5, .int .u64 1, .int .u64 7]
  have hb0 : ∀ w : World, Sn (w.alloc (.cells #[.int .u64 461] 25)) (fun b => b = w.heap.size) (some ⟨w.heap.size, 0, none⟩) [461] := fun w => Vs.built w 25 [.int .u64 461]
  have hp0 := known_pk
  have hw0 := known_wid
  have hl0 : ([5, 1, 7] : List Nat).length = 3 := rfl
  have hm0 : ([461] : List Nat).length = 1 := rfl
  have hg0 : ((gt [5, 1, 7] 2 : Nat) : Int) = 7 := rfl
  have h640 : ∀ x ∈ ([5, 1, 7] : List Nat), x < 18446744073709551616 := by simp
  generalize ([5, 1, 7] : List Nat) = l at *
  generalize ([461] : List Nat) = v at *
  have HS := Bx.mk hs0
  have HB := Bx.mk hb0
  have HP := Bx.mk hp0
  have HW := Bx.mk hw0
  have HL := Bx.mk hl0
  have HM := Bx.mk hm0
  have HG := Bx.mk hg0
  have H64 := Bx.mk h640
  clear hs0 hb0 hp0 hw0 hl0 hm0 hg0 h640
  go_enter Try.func12, Try.ntmps12
  go_wp2_with fail
  refine (pack_is l 3 3 _ 3 _ _ HS.out HL.out HW.out (by omega) (by omega) H64.out).mono ?_
  rintro e w1 ⟨bv, bw, ws, rfl, _, _, hr, hp, hC⟩
  obtain rfl := hp.words_uniq HP.out
  have HR := Bx.mk hr
  have HC := Bx.mk (((Ch.refl (fun _ => False) w).alloc (.cells #[.int .u64 5, .int .u64 1, .int .u64 7] 25)).trans hC (fun _ _ h => h))
  clear hr hC hp
  go_wp2_with fail
  refine (width_is _ _ 3 _ 3 _ _ HR.out rfl).mono ?_
  rintro e w' ⟨rfl, rfl⟩
  go_wp2_with fail
  refine (words_is _ _ 3 _ 1 _ _ HR.out HM.out).mono ?_
  rintro e w2 ⟨g, _, rfl, hO, hC2⟩
  have HO := Bx.mk hO
  have HR2 := Bx.mk (HR.out.keep hC2)
  have HC2 := Bx.mk (HC.out.trans hC2 (fun _ _ h => h))
  clear hO hC2
  go_wp2_with fail
  refine (same_is ws 1 _ _ _ _ _ _ _ HM.out (by omega) (HO.out.keep ((Ch.refl (fun _ => False) w2).alloc _)).sn (HB.out w2)).mono ?_
  rintro e w3 ⟨rfl, m, rfl⟩
  have HR3 := Bx.mk ((HR2.out.keep ((Ch.refl (fun _ => False) w2).alloc (.cells #[.int .u64 461] 25))).drewN m)
  have HC3 := Bx.mk ((HC2.out.alloc (.cells #[.int .u64 461] 25)).drewN m)
  go_wp2_with fail
  refine (get_int _ _ 3 _ _ l 2 7 _ HR3.out HP.out HL.out HG.out).mono ?_
  rintro e w' ⟨rfl, rfl⟩
  go_wp2
  go_ret
  exact ⟨rfl, HC3.out⟩

set_option maxHeartbeats 400000 in
theorem nothing_any (i : Int) (v : Nat) (w : World) :
    Calls Try.prog 6 #[.int .i64 i, .int .u64 v] w fun e w' => e = .returned (.bool true) ∧ Ch (fun _ => False) w w' := by
  go_enter Try.func6, Try.ntmps6
  go_wp2_with fail
  refine (new_bad 0 1 1 _ rfl (by decide)).mono ?_
  rintro e w' ⟨rfl, rfl⟩
  go_wp2_with fail
  refine (new_bad 65 1 1 _ rfl (by decide)).mono ?_
  rintro e w' ⟨rfl, rfl⟩
  go_wp2_with fail
  refine (new_bad 1 1048577 5 _ rfl (by decide)).mono ?_
  rintro e w' ⟨rfl, rfl⟩
  go_wp2_with (first | (go_at_call 21; refine (len_nil _).mono ?_; rintro e w' ⟨rfl, rfl⟩) | (go_at_call 22; refine (width_nil _).mono ?_; rintro e w' ⟨rfl, rfl⟩) | (go_at_call 17; refine (words_nil _).mono ?_; rintro e w' ⟨rfl, rfl⟩) | (go_at_call 23; refine (get_nil _ _).mono ?_; rintro e w' ⟨rfl, rfl⟩) | (go_at_call 15; refine (set_nil _ _ _).mono ?_; rintro e w' ⟨rfl, rfl⟩))
  refine (known_any _).mono ?_
  rintro e w3 ⟨rfl, hC3⟩
  go_wp2
  go_ret
  exact ⟨rfl, hC3⟩
end Go.Proofs.Ytknmhhccemojiaa
