/-
  The contracts of an Index's Docs, Len and Turned, and of none's.
  Conditions: the Index is what it says.
-/
/-
  The contract of an Index's Extract, and of none's.
  Conditions: the Index is what it says.
-/
import Derived.Test.YtckkjccjkdidjaaGreatDoorFxC
import Derived.Test.YtckkjccjkdidjaaGreatDoorFmTurned
namespace Go.Proofs.YtckkjccjkdidjaaGreatDoor.X
open Go.RowKit Go.Oct Go.Su

/-- How long a text is. -/
def lenOf (xss : List (List Int)) (d : Int) : Nat := if 0 ≤ d ∧ d < xss.length then (xss.getD d.toNat []).length else 0
section
variable {F G : Nat → Prop} {b : Nat} {w : World} {xss : List (List Int)}
theorem docs_same (h : Ix w F b xss) (n : Nat) (hn : xss.length = n) : Calls Tryz.prog 25 #[.pointer (some ⟨b, 0, none⟩)] w fun e w' => e = .returned (.int .i64 n) ∧ w = w' := by
  obtain ⟨l, L, T, c, vb, vk, pb, ob, A, h⟩ := h
  have HB := Bx.mk h.brd
  have HN : Bx ((brd (txt xss)).count true = n) := ⟨by rw [brd_ones h.byts.pos, hn]⟩
  have c2 := h.c2
  clear h hn
  go_enter Tryz.func25, Tryz.ntmps25
  go_wp2_with (go_at_call 48; refine (vones_val vb n (brd (txt xss)) _ HB.out HN.out).mono ?_; rintro e w' ⟨rfl, rfl⟩)
  go_ret
  exact ⟨rfl, rfl⟩
theorem docs_any (h : Ix w F b xss) : Calls Tryz.prog 25 #[.pointer (some ⟨b, 0, none⟩)] w fun e w' => e = .returned (.int .i64 (xss.length : Nat)) ∧ ∃ q, w' = w.drewN q :=
  (docs_same h _ rfl).mono fun _ _ h => ⟨h.1, 0, h.2.symm.trans (by rfl)⟩
theorem nil_docs (w : World) : Calls Tryz.prog 25 #[.pointer none] w fun e w' => e = .returned (.int .i64 0) ∧ Ch (fun _ => False) w w' := by
  go_enter Tryz.func25, Tryz.ntmps25
  go_wp2
  go_ret
  exact ⟨rfl, Ch.refl _ _⟩
set_option maxHeartbeats 1000000 in
theorem len_val (h : Ix w F b xss) (d : Int) (k : Nat) (hk : lenOf xss d = k) : Calls Tryz.prog 26 #[.pointer (some ⟨b, 0, none⟩), .int .i64 d] w fun e w' => e = .returned (.int .i64 k) ∧ Ch (fun _ => False) w w' := by
  have HI := Bx.mk h
  obtain ⟨n, hn⟩ : ∃ n, xss.length = n := ⟨_, rfl⟩
  have HN := Bx.mk hn
  unfold lenOf at hk
  rw [hn] at hk
  by_cases h0 : d < 0
  · have d0 : decide (d < 0) = true := by simpa using h0
    rw [if_neg (by omega)] at hk
    subst hk
    clear h hn
    go_enter Tryz.func26, Tryz.ntmps26
    go_wp2
    go_ret
    exact ⟨rfl, Ch.refl _ _⟩
  · have d0 : decide (d < 0) = false := by simpa using h0
    obtain ⟨d, rfl⟩ : ∃ z : Nat, d = z := ⟨d.toNat, by omega⟩
    by_cases h1 : d < n
    · have d1 : decide ((n : Int) ≤ (d : Int)) = false := by simp; omega
      have d2 : decide (n ≤ d) = false := by simp; omega
      rw [if_pos (by omega), Int.toNat_natCast] at hk
      obtain ⟨l, L, T, c, vb, vk, pb, ob, A, h⟩ := h
      have hd : d < xss.length := by omega
      have c2 := h.c2
      have hb := beg_small xss hd
      have hsm := h.small
      have HH := Bx.mk h
      obtain ⟨s, hs⟩ : ∃ s, beg xss d = s := ⟨_, rfl⟩
      have HS := Bx.mk hs
      have HSEL : Bx (Go.Bi.sel (brd (txt xss)) true (d : Nat) = ((s + k : Nat) : Int)) := ⟨by rw [brd_sel h.byts.pos hd, hs, hk]⟩
      rw [hs, hk] at hb
      have hsk : s + k ≤ 65536 := by omega
      have hd6 : d ≤ 65536 := by omega
      clear h hn hk hs hb hsm
      go_enter Tryz.func26, Tryz.ntmps26
      go_wp2_with fail
      refine (docs_same HI.out n HN.out).mono ?_
      rintro e w' ⟨rfl, rfl⟩
      go_wp2_with fail
      refine (vsel_val vb (brd (txt xss)) true d ((s + k : Nat) : Int) _ HH.out.brd HH.out.tab HSEL.out).mono ?_
      rintro e w2 ⟨rfl, hC2⟩
      have HH2 := Bx.mk (HH.out.keep hC2)
      have HC2 := Bx.mk hC2
      clear hC2
      go_wp2_with fail
      refine (start_any d s _ HH2.out hd HS.out).mono ?_
      rintro e w3 ⟨rfl, hC3⟩
      have HC3 := Bx.mk (HC2.out.trans hC3 (fun _ _ h => h))
      clear hC3
      go_wp2
      go_ret
      exact ⟨ret_int (by omega), HC3.out⟩
    · have d1 : decide ((n : Int) ≤ (d : Int)) = true := by simp; omega
      have d2 : decide (n ≤ d) = true := by simp; omega
      rw [if_neg (by omega)] at hk
      subst hk
      clear h hn
      go_enter Tryz.func26, Tryz.ntmps26
      go_wp2_with fail
      refine (docs_same HI.out n HN.out).mono ?_
      rintro e w' ⟨rfl, rfl⟩
      go_wp2
      go_ret
      exact ⟨rfl, Ch.refl _ _⟩
theorem len_any (h : Ix w F b xss) (d : Int) : Calls Tryz.prog 26 #[.pointer (some ⟨b, 0, none⟩), .int .i64 d] w fun e w' => e = .returned (.int .i64 (lenOf xss d : Nat)) ∧ Ch (fun _ => False) w w' := len_val h d _ rfl
theorem nil_len (w : World) (d : Int) : Calls Tryz.prog 26 #[.pointer none, .int .i64 d] w fun e w' => e = .returned (.int .i64 0) ∧ Ch (fun _ => False) w w' := by
  by_cases h0 : d < 0
  · have d0 : decide (d < 0) = true := by simpa using h0
    go_enter Tryz.func26, Tryz.ntmps26
    go_wp2
    go_ret
    exact ⟨rfl, Ch.refl _ _⟩
  · have d0 : decide (d < 0) = false := by simpa using h0
    have d1 : decide (0 ≤ d) = true := by simp; omega
    go_enter Tryz.func26, Tryz.ntmps26
    go_wp2_with fail
    refine (nil_docs _).mono ?_
    rintro e w' ⟨rfl, hC⟩
    have HC := Bx.mk hC
    clear hC
    go_wp2
    go_ret
    exact ⟨rfl, HC.out⟩
/-- What Turned leaves, the slice's room too. -/
def TurnedCap (xss : List (List Int)) (w : World) (e : Ending) (w' : World) : Prop := ∃ (A : Option Addr) (c n : Nat) (l : List Int), e = .returned (.slice A n c) ∧ n = (txt xss).length ∧ Sl w' (fun b => w.heap.size ≤ b) .i64 A n l ∧ Turned (txt xss) l ∧ n ≤ c ∧ c ≤ maxLen ∧ Ch (fun _ => False) w w'
theorem turnedx_cap (h : Ix w F b xss) : Calls Tryz.prog 24 #[.pointer (some ⟨b, 0, none⟩)] w (TurnedCap xss w) := by
  obtain ⟨l, L, T, c, vb, vk, pb, ob, A, h⟩ := h
  have hc := W.tall_any T 9 (txt xss).length l w h.core.tr h.size
  have HT := Bx.mk h.turned
  have HSM := Bx.mk h.small
  have c0 := h.c0
  clear h
  go_enter Tryz.func24, Tryz.ntmps24
  go_wp2_with fail
  refine hc.mono ?_
  rintro e w2 ⟨g, rfl, hO, hg, hC⟩
  have HS : Bx (Sl w2 (fun k => w.heap.size ≤ k) .i64 (some ⟨g, 0, none⟩) (txt xss).length (asI l)) := ⟨hO.sl.mono fun k _ (e : k = g) => by omega⟩
  have HC := Bx.mk hC
  clear hO hC hc
  go_wp2
  go_ret
  exact ⟨_, _, _, _, rfl, rfl, HS.out, HT.out, Nat.le_refl _, by have := HSM.out; unfold maxLen; omega, HC.out⟩
theorem turnedx_any (h : Ix w F b xss) : Calls Tryz.prog 24 #[.pointer (some ⟨b, 0, none⟩)] w (TurnedOf xss w) :=
  (turnedx_cap h).mono fun _ _ ⟨A, c, _, l, h1, h2, h3, h4, _, _, h5⟩ => by
    subst h2
    exact ⟨A, c, l, h1, h3, h4, h5⟩
theorem nil_turned (w : World) : Calls Tryz.prog 24 #[.pointer none] w fun e w' => (∃ A c, e = .returned (.slice A 0 c)) ∧ Ch (fun _ => False) w w' := by
  go_enter Tryz.func24, Tryz.ntmps24
  go_wp2
  go_ret
  exact ⟨⟨_, _, rfl⟩, Ch.refl _ _⟩
end
end Go.Proofs.YtckkjccjkdidjaaGreatDoor.X

namespace Go.Proofs.YtckkjccjkdidjaaGreatDoor.X
open Go.RowKit Go.Oct Go.Su

theorem elem8 : Elem Tryz.prog 25 5 (.int .u8 0) 1 := ⟨Tryz.underlying25, by kernel_rfl, rfl⟩
theorem mk8 (w : World) (n : Nat) (hn : n ≤ 1048576) : (Instr.makeSlice 25 (.int .i64 (n : Int)) (.int .i64 (n : Int))).run Tryz.prog w = .ok (.slice (some ⟨w.heap.size, 0, none⟩) n n) (w.alloc (.cells (madeCells #[.int .u8 0] n) 5)) := run_mk2 elem8 n (by omega) (by omega) w
/-- Bytes under way: all from j on are laid. -/
def dnB (e : List Int) (j : Nat) : List Int := List.replicate j 0 ++ e.drop j
theorem dnB_len {e : List Int} {j : Nat} (h : j ≤ e.length) : (dnB e j).length = e.length := by unfold dnB; simp; omega
theorem dnB_start (e : List Int) : dnB e e.length = List.replicate e.length 0 := by unfold dnB; simp
theorem dnB_all (e : List Int) : dnB e 0 = e := by unfold dnB; simp
theorem dnB_next {e : List Int} {j : Nat} {x : Int} (h : e[j]? = some x) : (dnB e (j + 1)).set j x = dnB e j := by
  obtain ⟨h1, h2⟩ := List.getElem?_eq_some_iff.1 h
  unfold dnB
  rw [List.set_append_left _ _ (by simp), List.replicate_succ', List.set_append_right _ _ (by simp), List.length_replicate, Nat.sub_self, List.set_cons_zero, List.append_assoc, List.drop_eq_getElem_cons h1, h2]
  rfl
/-- What Extract leaves. -/
def ExtOf (xs : List Int) (w : World) (e : Ending) (w' : World) : Prop := ∃ (A : Option Addr) (c : Nat), e = .returned (.slice A xs.length c) ∧ Sl w' (fun k => w.heap.size ≤ k) .u8 A xs.length xs ∧ xs.length ≤ c ∧ c ≤ maxLen ∧ Ch (fun _ => False) w w'
theorem extof_nil {w w' : World} (hC : Ch (fun _ => False) w w') : ExtOf [] w (.returned (.slice none 0 0)) w' := ⟨none, 0, rfl, Vs.nil _ _ _, Nat.le_refl _, Nat.zero_le _, hC⟩
section
variable {F G : Nat → Prop} {b : Nat} {xss : List (List Int)}
theorem text_in {d : Nat} {f m : Nat} {t : List Int} (hd : d < xss.length) (ht : xss.getD d [] = t) {j : Nat} (hj : j < m) (hf : f + m ≤ t.length) : ((t.drop f).take m)[j]? = some (gs t (f + j)) ∧ gs (txt xss) (beg xss d + f + j) = gs t (f + j) + 2 := by
  constructor
  · rw [List.getElem?_take_of_lt hj, List.getElem?_drop, gs_some (by omega)]
  · rw [Nat.add_assoc, txt_at hd (by rw [ht]; omega), ht]
theorem byts_get (h : Byts xss) {d : Nat} (hd : d < xss.length) {t : List Int} (ht : xss.getD d [] = t) {a : Nat} (ha : a < t.length) : 0 ≤ gs t a ∧ gs t a < 256 := by
  have e : xss.getD d [] = xss[d] := by rw [List.getD_eq_getElem?_getD, List.getElem?_eq_getElem hd]; rfl
  rw [← ht, e] at ha ⊢
  exact h xss[d] (List.getElem_mem hd) _ (List.mem_of_getElem? (gs_some ha))
set_option maxRecDepth 100000 in
set_option maxHeartbeats 4000000 in
theorem extract_in {w : World} {l L : List Nat} {T c vb vk pb ob : Nat} {A : Option Addr} (h : Ix0 w F b xss l L T c vb vk pb ob A) (d f m n : Nat) (k : Int) (t : List Int) (hd : d < xss.length) (ht : xss.getD d [] = t) (hn : t.length = n) (hf : f < n) (hk : 0 ≤ k) (hm : min k ((n : Int) - (f : Int)) = (m : Int)) :
    Calls Tryz.prog 19 #[.pointer (some ⟨b, 0, none⟩), .int .i64 d, .int .i64 f, .int .i64 k] w (ExtOf ((t.drop f).take m) w) := by
  have HH := Bx.mk h
  have HI : Bx (Ix w F b xss) := ⟨⟨l, L, T, c, vb, vk, pb, ob, A, h⟩⟩
  have hb := beg_small xss hd
  rw [ht, hn] at hb
  have hsm := h.small
  have hmn : f + m ≤ n := by omega
  have HLV : Bx (lenOf xss (d : Nat) = n) := ⟨by unfold lenOf; rw [if_pos (by omega), Int.toNat_natCast, ht, hn]⟩
  obtain ⟨s, hs⟩ : ∃ s, beg xss d = s := ⟨_, rfl⟩
  have HS := Bx.mk hs
  rw [hs] at hb
  have HEL : Bx (((t.drop f).take m).length = m) := ⟨by rw [List.length_take, List.length_drop]; omega⟩
  have HGET : Bx (∀ j, j < m → ((t.drop f).take m)[j]? = some (gs t (f + j)) ∧ gs (txt xss) (s + f + j) = gs t (f + j) + 2 ∧ 0 ≤ gs t (f + j) ∧ gs t (f + j) < 256) := ⟨fun j hj => by
    obtain ⟨g1, g2⟩ := text_in hd ht hj (f := f) (by omega)
    rw [hs] at g2
    exact ⟨g1, g2, byts_get h.byts hd ht (by omega)⟩⟩
  generalize hE : (t.drop f).take m = E at *
  obtain ⟨a0, ha0⟩ := h.sa.find (x := s + f + m) (by omega)
  have HA0 := Bx.mk ha0
  have hs6 : s + n ≤ 65536 := by omega
  have hd6 : d ≤ 65536 := by omega
  have k0 : decide (k < 0) = false := by simp; omega
  have f0 : decide ((f : Int) < 0) = false := by simp
  have g0 : decide ((n : Int) ≤ (f : Int)) = false := by simp; omega
  have g1 : decide (n ≤ f) = false := by simp; omega
  clear h hs hE ha0 hb hsm ht hn
  go_enter Tryz.func19, Tryz.ntmps19
  go_wp2_with fail
  refine (len_val HI.out d n HLV.out).mono ?_
  rintro e w1 ⟨rfl, hC1⟩
  have hmk := mk8 w1 m (by omega)
  have hO0 := own_made1 w1 5 (.int .u8 0) m (by omega)
  have HC1 := Bx.mk hC1
  have HO0 := Bx.mk hO0
  clear hC1 hO0
  go_wp2_with fail
  have HC2 : Bx (Ch (fun _ => False) w1 (w1.alloc (.cells (madeCells #[.int .u8 0] m) 5))) := ⟨(Ch.refl (fun _ => False) w1).alloc _⟩
  obtain ⟨g, hg⟩ : ∃ g, w1.heap.size = g := ⟨_, rfl⟩
  have HG := Bx.mk hg
  have HO1 := HO0
  rw [hg] at HO1 ⊢
  clear HO0 hg hmk
  generalize w1.alloc (.cells (madeCells #[.int .u8 0] m) 5) = w2 at *
  have HC3 := Bx.mk (HC1.out.trans HC2.out (fun _ _ h => h))
  have HH2 := Bx.mk (HH.out.keep HC3.out)
  refine (start_any d s _ HH2.out hd HS.out).mono ?_
  rintro e w3 ⟨rfl, hC3⟩
  have HC4 := Bx.mk (HC3.out.trans hC3 (fun _ _ h => h))
  have HO3 := Bx.mk (HO1.out.keep hC3)
  have HH3 := Bx.mk (HH.out.keep HC4.out)
  have es : ((s + f + m : Nat) : Int) = (s : Int) + (f : Int) + (m : Int) := by omega
  clear hC3 HO1 HH2 HC2 HC3
  go_wp2_with fail
  rw [← es]
  refine (order_any (s + f + m) a0 _ HH3.out HA0.out).mono ?_
  rintro e w4 ⟨rfl, hC4⟩
  have HC5 := Bx.mk (HC4.out.trans hC4 (fun _ _ h => h))
  have hO4 := HO3.out.keep hC4
  rw [show List.replicate m (Value.int .u8 0) = (dnB E m).map (Value.int .u8) by rw [← HEL.out, dnB_start, List.map_replicate]] at hO4
  have HO4 := Bx.mk hO4
  have hgw : w.heap.size ≤ g := by have := HG.out; have := HC1.out.size; omega
  clear hC4 hO4 HO3 HH3 HC4
  go_wp2_with fail
  go_loopw [11, 12, 13] (fun av iv _ wr => ∃ j a : Nat, j ≤ m ∧ iv = .int .i64 ((j : Int) - 1) ∧ av = .int .i64 a ∧ Bx (L[a]? = some (s + f + j)) ∧ Own wr 5 1 g m m ((dnB E j).map (Value.int .u8)) ∧ Ch (fun _ => False) w wr) (fun _ iv _ _ => (intOf iv + 1).toNat)
  case atStart => exact ⟨m, a0, Nat.le_refl _, rfl, rfl, HA0, HO4.out, HC5.out⟩
  case round =>
    obtain ⟨j, a, hj, rfl, rfl, ha, hO, hC⟩ := hrel
    rcases j with _ | j
    · rw [dnB_all] at hO
      have HRES : Bx (Sl wr (fun k => w.heap.size ≤ k) .u8 (some ⟨g, 0, none⟩) E.length E) := ⟨by
        rw [HEL.out]
        exact (Vs.of_own hO.own).mono fun k _ hk => by
          have : g = k := by simpa [Value.ownBlock] using hk
          omega⟩
      have HC := Bx.mk hC
      have hEL := HEL.out
      clear hO hC
      go_wp2
      go_ret
      exact ⟨some ⟨g, 0, none⟩, m, by rw [hEL]; rfl, HRES.out, by omega, by unfold maxLen; omega, HC.out⟩
    · have ej : (((j + 1 : Nat) : Int) - 1) = (j : Int) := by omega
      rw [ej]
      obtain ⟨x1, x2, x3, x4⟩ := HGET.out j (by omega)
      have HR := Bx.mk (HH.out.keep hC)
      have ha' : L[a]? = some ((s + f + j) + 1) := ha.out
      have HSYM := Bx.mk (HR.out.turned.symAt HR.out.sa ha')
      have HL := Bx.mk (HR.out.turned.longer HR.out.sa ha')
      obtain ⟨y, hy, hyg⟩ := sym_some (HR.out.lt ha').1
      have hye : (y : Int) - 2 = gs t (f + j) := by
        have := HSYM.out
        omega
      have HY := Bx.mk hy
      obtain ⟨q, hq⟩ : ∃ q, lf (asI l) a = q := ⟨_, rfl⟩
      have HQ := Bx.mk hq
      rw [hq] at HL
      have hst := hO.stored j (.int .u8 (gs t (f + j)))
      have HN := Bx.mk (dnB_next x1)
      have HC := Bx.mk hC
      have HO := Bx.mk hO
      have c0 := HR.out.c0
      have c1 := HR.out.c1
      generalize gs t (f + j) = z at *
      have i1 : (j : Int) < (m : Int) := by omega
      have i0 : (0 : Int) ≤ (j : Int) := by omega
      have hy6 : y ≤ 257 := by omega
      have hw8 : IntKind.u8.wrap ((y : Int) - 2) = z := by rw [hye, IntKind.wrap_u8]; omega
      clear hst hO hC hy hyg x1 x2 ha' ha hq HSYM
      go_wp2_with fail
      refine (ahead_any T c a y q A l _ HR.out.core HY.out HQ.out).mono ?_
      rintro e w5 ⟨rfl, hC5⟩
      have hO5 := HO.out.keep hC5
      have hul := hO5.len
      rw [Nat.mul_one] at hul
      have hcell : w5.cell? ⟨g, j, none⟩ = some (((dnB E (j + 1)).map (Value.int .u8)).getD j (.bool false)) := hO5.cellAt (by rw [List.getD_eq_getElem?_getD, List.getElem?_eq_getElem (by omega)]; rfl)
      generalize ((dnB E (j + 1)).map (Value.int .u8)).getD j (.bool false) = old at *
      have hfz := hO5.frozenAt j
      have hst := hO5.stored j (.int .u8 z)
      rw [← List.map_set, HN.out] at hst
      have HST := Bx.mk hst
      have HC6 := Bx.mk (HC.out.trans hC5 (fun _ _ h => h))
      clear hst hO5 hC5 hul
      go_wp2
      go_roundw
      case rel => exact ⟨j, q, by omega, rfl, rfl, HL, HST.out.1, HC6.out.trans HST.out.2 (fun i hi (e : i = g) => by have := HG.out; have := HC1.out.size; omega)⟩
      case measure => simp [intOf]
theorem extract_any {w : World} (h : Ix w F b xss) (d f k : Int) :
    Calls Tryz.prog 19 #[.pointer (some ⟨b, 0, none⟩), .int .i64 d, .int .i64 f, .int .i64 k] w (ExtOf (ext xss d f k) w) := by
  obtain ⟨n, hn⟩ : ∃ n, lenOf xss d = n := ⟨_, rfl⟩
  by_cases hin : 0 ≤ f ∧ 0 ≤ k ∧ f < n
  · obtain ⟨f, rfl⟩ : ∃ z : Nat, f = z := ⟨f.toNat, by omega⟩
    have hd : 0 ≤ d ∧ d < xss.length := by
      refine Decidable.byContradiction fun g => ?_
      unfold lenOf at hn
      rw [if_neg g] at hn
      omega
    obtain ⟨d, rfl⟩ : ∃ z : Nat, d = z := ⟨d.toNat, by omega⟩
    obtain ⟨t, ht⟩ : ∃ t, xss.getD d [] = t := ⟨_, rfl⟩
    have hnt : t.length = n := by
      unfold lenOf at hn
      rw [if_pos hd, Int.toNat_natCast, ht] at hn
      exact hn
    obtain ⟨m, hm⟩ : ∃ m : Nat, min k ((n : Int) - (f : Int)) = (m : Int) := ⟨(min k ((n : Int) - (f : Int))).toNat, by omega⟩
    obtain ⟨l, L, T, c, vb, vk, pb, ob, A, h⟩ := h
    have e : ext xss d f k = (t.drop f).take m := by
      unfold ext
      rw [Int.toNat_natCast, ht, if_neg (by omega), Int.toNat_natCast]
      rcases Nat.le_total k.toNat (n - f) with g | g
      · rw [show k.toNat = m by omega]
      · rw [List.take_of_length_le (by rw [List.length_drop]; omega), List.take_of_length_le (by rw [List.length_drop]; omega)]
    rw [e]
    exact extract_in h d f m n k t (by omega) ht hnt (by omega) hin.2.1 hm
  · have e : ext xss d f k = [] := by
      unfold ext
      by_cases g : d < 0 ∨ (xss.length : Int) ≤ d ∨ f < 0 ∨ k < 0 ∨ ((xss.getD d.toNat []).length : Int) < f
      · rw [if_pos g]
      · rw [if_neg g]
        unfold lenOf at hn
        rw [if_pos (by omega)] at hn
        rw [List.drop_of_length_le (by omega)]
        simp
    have hb : lenOf xss d ≤ 65536 := by
      have hsm := h.small
      unfold lenOf
      split
      · have := (beg_small xss (d := d.toNat) (by omega)).1
        omega
      · omega
    have hn6 : n ≤ 65536 := by omega
    have HL := Bx.mk hn
    have HI := Bx.mk h
    rw [e]
    clear h hn hb e
    by_cases f0 : f < 0
    · have d1 : decide (f < 0) = true := by simpa using f0
      go_enter Tryz.func19, Tryz.ntmps19
      go_wp2_with fail
      refine (len_val HI.out d n HL.out).mono ?_
      rintro e w1 ⟨rfl, hC1⟩
      have HC1 := Bx.mk hC1
      clear hC1
      go_wp2
      go_ret
      exact extof_nil HC1.out
    · have d1 : decide (f < 0) = false := by simpa using f0
      by_cases k0 : k < 0
      · have d2 : decide (k < 0) = true := by simpa using k0
        go_enter Tryz.func19, Tryz.ntmps19
        go_wp2_with fail
        refine (len_val HI.out d n HL.out).mono ?_
        rintro e w1 ⟨rfl, hC1⟩
        have HC1 := Bx.mk hC1
        clear hC1
        go_wp2
        go_ret
        exact extof_nil HC1.out
      · have d2 : decide (k < 0) = false := by simpa using k0
        have d3 : decide ((n : Int) ≤ f) = true := by simp; omega
        go_enter Tryz.func19, Tryz.ntmps19
        go_wp2_with fail
        refine (len_val HI.out d n HL.out).mono ?_
        rintro e w1 ⟨rfl, hC1⟩
        have HC1 := Bx.mk hC1
        clear hC1
        go_wp2
        go_ret
        exact extof_nil HC1.out
theorem nil_extract (w : World) (d f k : Int) : Calls Tryz.prog 19 #[.pointer none, .int .i64 d, .int .i64 f, .int .i64 k] w fun e w' => (∃ A c, e = .returned (.slice A 0 c)) ∧ Ch (fun _ => False) w w' := by
  by_cases f0 : f < 0
  · have d1 : decide (f < 0) = true := by simpa using f0
    go_enter Tryz.func19, Tryz.ntmps19
    go_wp2_with fail
    refine (nil_len _ d).mono ?_
    rintro e w1 ⟨rfl, hC1⟩
    have HC1 := Bx.mk hC1
    clear hC1
    go_wp2
    go_ret
    exact ⟨⟨_, _, rfl⟩, HC1.out⟩
  · have d1 : decide (f < 0) = false := by simpa using f0
    have d3 : decide (0 ≤ f) = true := by simp; omega
    by_cases k0 : k < 0
    · have d2 : decide (k < 0) = true := by simpa using k0
      go_enter Tryz.func19, Tryz.ntmps19
      go_wp2_with fail
      refine (nil_len _ d).mono ?_
      rintro e w1 ⟨rfl, hC1⟩
      have HC1 := Bx.mk hC1
      clear hC1
      go_wp2
      go_ret
      exact ⟨⟨_, _, rfl⟩, HC1.out⟩
    · have d2 : decide (k < 0) = false := by simpa using k0
      go_enter Tryz.func19, Tryz.ntmps19
      go_wp2_with fail
      refine (nil_len _ d).mono ?_
      rintro e w1 ⟨rfl, hC1⟩
      have HC1 := Bx.mk hC1
      clear hC1
      go_wp2
      go_ret
      exact ⟨⟨_, _, rfl⟩, HC1.out⟩
end
end Go.Proofs.YtckkjccjkdidjaaGreatDoor.X
