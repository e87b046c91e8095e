/-
  The contracts of bits.New, bits.Of and (*bits.Vector).Flip.
-/
import Derived.Test.YtaglgmgpifmkdaaDoorBiMake
namespace Go.Proofs.YtaglgmgpifmkdaaDoor
open Go.RowKit Go.Oct Go.Bi

theorem vec_of {w : World} {F : Nat → Prop} {bv bw ba n m : Nat} {ws : List Nat} {l : List Bool} (h : Cnt w bv bw ba n m ws (ahd ws)) (hw : Wd ws l) (hl : l.length = n) (h1 : F bv) (h2 : F bw) (h3 : F ba) : Vec w F bv l := by
  obtain ⟨c0, c1, c2, _⟩ := cells3 h.raw.blk
  have hm := h.len
  have hmost := h.raw.most
  have vw := Vs.of_own h.raw.own
  have va := Vs.of_own h.own
  refine ⟨some ⟨bw, 0, none⟩, some ⟨ba, 0, none⟩, ws.length, m, ws, ahd ws, by rw [hl]; exact c0, c1, by rw [hm]; exact c2, h1, ?_, ?_, by omega, hw, ah_cum hw (by omega)⟩
  · have := vw.mono (G := F) fun b _ hb => by simp [Value.ownBlock] at hb; subst hb; exact h2
    unfold Sn Sl
    rwa [List.map_map]
  · have := va.mono (G := F) fun b _ hb => by simp [Value.ownBlock] at hb; subst hb; exact h3
    unfold Sn Sl
    rw [List.map_map, hm]
    exact this

/-- What a maker leaves: a new Vector that is the row l. -/
def Made (l : List Bool) (w : World) (e : Ending) (w' : World) : Prop := ∃ bv : Nat, e = .returned (.pointer (some ⟨bv, 0, none⟩)) ∧ Vec w' (fun k => w.heap.size ≤ k) bv l ∧ Ch (fun _ => False) w w'

/-- A row with a 1 at a place, if there is one. -/
def put1 (l : List Bool) (i : Int) : List Bool := if 0 ≤ i ∧ i < l.length then l.set i.toNat true else l
theorem put1_len (l : List Bool) (i : Int) : (put1 l i).length = l.length := by
  unfold put1
  split <;> simp
/-- .. with a 1 at each of many. -/
def puts (l : List Bool) (xs : List Int) : List Bool := xs.foldl put1 l
theorem puts_len (l : List Bool) (xs : List Int) : (puts l xs).length = l.length := by
  induction xs generalizing l with
  | nil => rfl
  | cons x xs ih => exact (ih _).trans (put1_len l x)
theorem puts_next {l : List Bool} {xs : List Int} {k : Nat} {x : Int} (h : xs[k]? = some x) : puts l (xs.take (k + 1)) = put1 (puts l (xs.take k)) x := by
  unfold puts
  rw [List.take_add_one, h, List.foldl_append]
  rfl
/-- How many bits a row has that is asked for with n. -/
def lim (n : Int) : Nat := if n < 0 then 0 else if 1048576 < n then 1048576 else n.toNat
theorem lim_le (n : Int) : lim n ≤ 1048576 := by unfold lim; split <;> (try split) <;> omega
def newL (n : Int) (xs : List Int) : List Bool := puts (List.replicate (lim n) false) xs
theorem newL_len (n : Int) (xs : List Int) : (newL n xs).length = lim n := by unfold newL; rw [puts_len, List.length_replicate]

/-- set, whatever the place. -/
theorem set_any (bv bw n : Nat) (v : Value) (ws : List Nat) (l : List Bool) (i : Int) (w : World) (h : Raw w bv bw n v ws) (hw : Wd ws l) (hl : l.length = n) :
    Calls Tryd.prog 22 #[.pointer (some ⟨bv, 0, none⟩), .int .i64 i] w fun e w' => e = .returned (.tuple #[]) ∧ (∃ ws', Raw w' bv bw n v ws' ∧ Wd ws' (put1 l i)) ∧ Ch (fun k => k = bw) w w' := by
  by_cases hi : 0 ≤ i ∧ i < l.length
  · obtain ⟨j, rfl⟩ : ∃ j : Nat, i = j := ⟨i.toNat, by omega⟩
    refine (set_in bv bw n v ws j w h (by omega) (hw.lt _)).mono fun e w' ⟨h1, h2, h3⟩ => ⟨h1, ⟨_, h2, ?_⟩, h3⟩
    unfold put1
    rw [if_pos hi]
    exact wd_set hw (by omega)
  · refine (set_out bv bw n v ws i w h (by omega)).mono fun e w' ⟨h1, h2⟩ => ⟨h1, ⟨ws, by rw [← h2]; exact h, ?_⟩, by rw [← h2]; exact Ch.refl _ _⟩
    unfold put1
    rw [if_neg hi]
    exact hw

theorem blank_is (N : Nat) (z : Int) (w : World) (hn : N ≤ 1048576) (hz : z = N) :
    Calls Tryd.prog 21 #[.int .i64 z] w fun e w' => e = .returned (.pointer (some ⟨w.heap.size + 1, 0, none⟩)) ∧ Raw w' (w.heap.size + 1) w.heap.size N (.slice none 0 0) (List.replicate ((N + 63) / 64) 0) ∧ Ch (fun _ => False) w w' := by
  subst hz
  exact blank_any N w hn
set_option maxHeartbeats 2000000 in
theorem new_any (n : Int) (xs : List Int) (A : Option Addr) (m c : Nat) (w : World) (F : Nat → Prop) (hs : Sl w F .i64 A m xs) (hm : m ≤ 9223372036854775807) :
    Calls Tryd.prog 10 #[.int .i64 n, .slice A m c] w (Made (newL n xs) w) := by
  have hN : (n < 0 ∧ lim n = 0) ∨ (0 ≤ n ∧ n ≤ 1048576 ∧ lim n = n.toNat) ∨ (1048576 < n ∧ lim n = 1048576) := by
    unfold lim
    split
    · exact .inl ⟨by assumption, rfl⟩
    · split
      · exact .inr (.inr ⟨by assumption, rfl⟩)
      · exact .inr (.inl ⟨by omega, by omega, rfl⟩)
  have hle := lim_le n
  have HL := Bx.mk (newL_len n xs)
  have HD : Bx (newL n xs = puts (List.replicate (lim n) false) xs) := ⟨rfl⟩
  have HS := Bx.mk hs
  generalize newL n xs = L at *
  clear hs
  generalize lim n = N at *
  rcases hN with ⟨h1, h2⟩ | ⟨h1, h1b, h2⟩ | ⟨h1, h2⟩
  case' inr.inl => obtain rfl : n = (N : Int) := by omega
  all_goals
    have H2 := Bx.mk h2
    clear h2
    go_enter Tryd.func10, Tryd.ntmps10
    go_wp2_with fail
    refine (blank_is N _ _ hle (by have := H2.out; omega)).mono ?_
    rintro e w1 ⟨rfl, hr, hC⟩
    have HR := Bx.mk hr
    have HC := Bx.mk hC
    clear hr hC
    go_wp2
    go_loopw [7, 14] (fun _ i wr => ∃ (k : Nat) (ws : List Nat), k ≤ m ∧ i = .int .i64 k ∧ Raw wr (w.heap.size + 1) w.heap.size N (.slice none 0 0) ws ∧ Wd ws (puts (List.replicate N false) (xs.take k)) ∧ Ch (fun _ => False) w wr) (fun _ i _ => m - (intOf i).toNat)
    case atStart => exact ⟨0, _, Nat.zero_le _, rfl, HR.out, wd_blank N, HC.out⟩
    case round =>
      obtain ⟨k, ws, hk, rfl, hr, hw, hC⟩ := hrel
      have hpl : (puts (List.replicate N false) (xs.take k)).length = N := by rw [puts_len, List.length_replicate]
      by_cases hlt : k < m
      · obtain ⟨b, off, x, rfl, _, ex, hcx⟩ := (Sl.ch HS.out hC (fun _ _ _ h => h)).at_ hlt
        have HRR := Bx.mk hr
        have HW := Bx.mk hw
        have HCC := Bx.mk hC
        have HPL := Bx.mk hpl
        clear hr hw hC hpl
        go_wp2_with fail
        refine (set_any _ _ N _ ws _ x _ HRR.out HW.out HPL.out).mono ?_
        rintro e w2 ⟨rfl, ⟨ws2, hr2, hw2⟩, hC2⟩
        rw [← puts_next ex.out] at hw2
        have HR2 := Bx.mk hr2
        have HW2 := Bx.mk hw2
        have HC2 := Bx.mk (HCC.out.trans hC2 (fun i hi (e : i = w.heap.size) => absurd hi (by omega)))
        clear hr2 hw2 hC2
        go_wp2
        go_roundw
        case rel => exact ⟨k + 1, ws2, by omega, by go_num, HR2.out, HW2.out, HC2.out⟩
        case measure => simp [intOf]; omega
      · obtain rfl : k = m := by omega
        rw [List.take_of_length_le (by rw [HS.out.len]; omega)] at hw hpl
        have HW := Bx.mk hw
        have HC1 := Bx.mk hC
        have HPL := Bx.mk hpl
        have HRR := Bx.mk hr
        clear hw hC hpl hr
        go_wp2_with fail
        refine (count_any _ _ N _ ws _ HRR.out HW.out.lt).mono ?_
        rintro e w2 ⟨rfl, hc2, hC2⟩
        have hsz := HC1.out.size
        have HC2 := Bx.mk (HC1.out.trans hC2 (fun i hi (e : i = w.heap.size + 1) => absurd hi (by omega)))
        have HV := Bx.mk (vec_of (F := fun k => w.heap.size ≤ k) hc2 HW.out HPL.out (by omega) (Nat.le_refl _) hsz)
        clear hc2 hC2
        go_wp2
        go_ret
        exact ⟨_, rfl, by rw [HD.out]; exact HV.out, HC2.out⟩
end Go.Proofs.YtaglgmgpifmkdaaDoor
