/-
  The contracts of Get and All of a Tree.
-/
import Derived.Test.YtbckiefkppgipaaDoorWaRank
import Derived.Test.YtbckiefkppgipaaDoorBiMake
namespace Go.Proofs.YtbckiefkppgipaaDoor
open Go.RowKit Go.Oct Go.Bi Go.Wa

/-- The symbol at a place; -1: there is none. -/
def symAt (l : List Nat) (i : Int) : Int := if 0 ≤ i then (match l[i.toNat]? with | some x => (x : Int) | none => -1) else -1
theorem symAt_in {l : List Nat} {i c : Nat} (h : l[i]? = some c) : symAt l i = c := by
  unfold symAt
  rw [if_pos (by omega), Int.toNat_natCast, h]
theorem symAt_out {l : List Nat} {i : Int} (h : i < 0 ∨ (l.length : Int) ≤ i) : symAt l i = -1 := by
  unfold symAt
  split
  · rw [List.getElem?_eq_none (by omega)]
  · rfl

section
variable {F : Nat → Prop}
theorem tget_nil (i : Int) (w : World) : Calls Tryd.prog 15 #[.pointer none, .int .i64 i] w fun e w' => e = .returned (.int .i64 (-1)) ∧ w = w' := by
  by_cases h : i < 0
  · go_enter Tryd.func15, Tryd.ntmps15
    go_wp2
    go_ret
    exact ⟨rfl, rfl⟩
  · have h0 : 0 ≤ i := by omega
    go_enter Tryd.func15, Tryd.ntmps15
    go_wp2_with fail
    refine (tlen_nil _).mono ?_
    rintro e w' ⟨rfl, rfl⟩
    go_wp2
    go_ret
    exact ⟨rfl, rfl⟩
theorem tget_out (b W : Nat) (l : List Nat) (i : Int) (w : World) (hT : Tr w F b W l) (h : i < 0 ∨ (l.length : Int) ≤ i) :
    Calls Tryd.prog 15 #[.pointer (some ⟨b, 0, none⟩), .int .i64 i] w fun e w' => e = .returned (.int .i64 (-1)) ∧ w = w' := by
  have H := Bx.mk hT
  clear hT
  by_cases h1 : i < 0
  · go_enter Tryd.func15, Tryd.ntmps15
    go_wp2
    go_ret
    exact ⟨rfl, rfl⟩
  · have h0 : 0 ≤ i := by omega
    have h2 : (l.length : Int) ≤ i := by omega
    clear h
    go_enter Tryd.func15, Tryd.ntmps15
    go_wp2_with fail
    refine (tlen_any b W _ l _ H.out rfl).mono ?_
    rintro e w' ⟨rfl, rfl⟩
    go_wp2
    go_ret
    exact ⟨rfl, rfl⟩
theorem bget_val (b : Nat) (l : List Bool) (i : Int) (c : Bool) (w : World) (h : Vec w F b l) (hc : bitAt l i = c) :
    Calls Tryd.prog 27 #[.pointer (some ⟨b, 0, none⟩), .int .i64 i] w fun e w' => e = .returned (.bool c) ∧ w = w' := by
  subst hc
  exact get_any b l i w h

set_option maxHeartbeats 1000000 in
theorem tget_in (b W p c : Nat) (l : List Nat) (w : World) (h : Tr w F b W l) (hp : l[p]? = some c) :
    Calls Tryd.prog 15 #[.pointer (some ⟨b, 0, none⟩), .int .i64 p] w fun e w' => e = .returned (.int .i64 c) ∧ Ch (fun _ => False) w w' := by
  have hW := h.hi
  have hs := h.short
  have hpl : p < l.length := (List.getElem?_eq_some_iff.1 hp).1
  obtain ⟨g, h5, h8⟩ := h.lvs
  have HL := Bx.mk h8
  have H := Bx.mk h
  have hc := h.lt c (List.mem_of_getElem? hp)
  have h16 := pow16 hW
  have HK : Bx (∀ d, top W d c ≤ 65536) := ⟨fun d => Nat.le_trans (Nat.div_le_self _ _) (by omega)⟩
  have HA : Bx (∀ d, d ≤ W → (bt W l d)[D W l c d p]? = some (dgt W d c)) := ⟨fun d hd => bt_at h.lt hp hd⟩
  have HT0 := Bx.mk (top_zero hc)
  have HTW := Bx.mk (top_all W c)
  obtain ⟨n, hn⟩ : ∃ n, l.length = n := ⟨_, rfl⟩
  have HN := Bx.mk hn
  rw [hn] at hpl
  have e1 : decide ((p : Int) < 0) = false := by simp
  have e2 : decide ((n : Int) ≤ (p : Int)) = false := by simp; omega
  have e3 : decide (n ≤ p) = false := by simp; omega
  clear h h8 hc h16 hp hn
  go_enter Tryd.func15, Tryd.ntmps15
  go_wp2_with fail
  refine (tlen_any b W n l _ H.out HN.out).mono ?_
  rintro e w' ⟨rfl, rfl⟩
  go_wp2_with fail
  go_loopw [1, 5, 7, 8, 22] (fun i a _ _ j wr => ∃ d : Nat, d ≤ W ∧ j = .int .i64 d ∧ i = .int .i64 (D W l c d p : Nat) ∧ a = .int .i64 (top W d c : Nat) ∧ Ch (fun _ => False) w wr) (fun _ _ _ _ j _ => W - (intOf j).toNat)
  case atStart => exact ⟨0, Nat.zero_le _, rfl, rfl, by rw [HT0.out]; rfl, Ch.refl _ _⟩
  case round =>
    obtain ⟨d, hd, rfl, rfl, rfl, hC⟩ := hrel
    by_cases hlt : d < W
    · obtain ⟨v, k1, k2, k3⟩ := (HL.out.keep hC) d hlt
      have HV := Bx.mk k3
      have HC := Bx.mk hC
      have HG : Bx (dn (bt W l d) (dgt W d c) (D W l c d p) = D W l c (d + 1) p) := ⟨rfl⟩
      have ha := HA.out d hd
      have hk0 := HK.out d
      have hk1 := HK.out (d + 1)
      have hts := top_succ hlt c
      generalize hf2 : D W l c (d + 1) p = f2 at *
      generalize hn2 : top W (d + 1) c = n2 at *
      generalize top W d c = n1 at *
      have HF2 := Bx.mk hf2
      have HN2 := Bx.mk hn2
      clear hf2 hn2
      generalize D W l c d p = f1 at *
      have hb := bitAt_in ha
      generalize hr : dgt W d c = r at *
      have HB := Bx.mk hb
      generalize hy : bt W l d = y at *
      generalize hq : y.count false = q at *
      have HZ : Bx ((q : Int) = (y.count false : Nat)) := ⟨by rw [hq]⟩
      clear hr k3 hC hq hb ha
      go_wp2_with fail
      obtain ⟨c0, c1⟩ := cells2 wr (.pointer (some ⟨v, 0, none⟩)) (.int .i64 q) 52
      have hC1 := (Ch.refl (fun _ => False) wr).alloc (.cells #[.pointer (some ⟨v, 0, none⟩), .int .i64 q] 52)
      have HC1 := Bx.mk (HC.out.trans hC1 (fun _ _ h => h))
      have HV1 := Bx.mk (HV.out.keep hC1)
      clear hC1
      generalize wr.heap.size = B at *
      generalize World.alloc wr _ = w1 at *
      refine (bget_val v y f1 r _ HV1.out HB.out).mono ?_
      rintro e w' ⟨rfl, rfl⟩
      clear hy
      go_wp2_with fail
      refine (down_is v f1 y r q _ HV1.out HZ.out).mono ?_
      rintro e w2 ⟨rfl, hc2⟩
      have HC2 := Bx.mk (HC1.out.trans hc2 (fun _ _ h => h))
      clear hc2
      rw [HG.out]
      cases r
      · have hn12 : n2 = 2 * n1 := hts
        clear hts
        go_wp2
        go_roundw
        case rel => exact ⟨d + 1, by omega, by go_num, by rw [HF2.out], by rw [HN2.out]; go_num, HC2.out⟩
        case measure => simp [intOf]; omega
      · have hn12 : n2 = 2 * n1 + 1 := hts
        clear hts
        go_wp2
        go_roundw
        case rel => exact ⟨d + 1, by omega, by go_num, by rw [HF2.out], by rw [HN2.out]; go_num, HC2.out⟩
        case measure => simp [intOf]; omega
    · obtain rfl : d = W := by omega
      rw [HTW.out]
      go_wp2
      go_ret
      exact ⟨rfl, hC⟩
end
end Go.Proofs.YtbckiefkppgipaaDoor
