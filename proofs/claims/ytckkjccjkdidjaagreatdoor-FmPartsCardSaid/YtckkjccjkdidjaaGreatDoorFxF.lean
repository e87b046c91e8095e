/-
  The contracts of tooLong, lay and Build: whether texts have too many symbols; their row; their Index.
  Conditions: the texts read as they say; the table's variable starts as the program's text lays it.
-/
/-
  The contracts of slices.Max over a row of ints, of ofTexts and From: the Index of a turned row, or refused.
  Conditions: the row reads as it says; the table's variable starts as the program's text lays it.
-/
import Derived.Test.YtckkjccjkdidjaaGreatDoorFxE
import Derived.Test.YtckkjccjkdidjaaGreatDoorBwDevTurn
import Derived.Test.YtckkjccjkdidjaaGreatDoorFmC
import Derived.Test.YtckkjccjkdidjaaGreatDoorBwG
namespace Go.Proofs.YtckkjccjkdidjaaGreatDoor.X
open Go.RowKit Go.Oct Go.Su

theorem le_beg {xss : List (List Int)} {n : Nat} (hn : n ≤ xss.length) : n ≤ beg xss n := by
  have : ∀ k, k ≤ xss.length → k ≤ beg xss k := fun k => by
    induction k with
    | zero => intro _; exact Nat.zero_le _
    | succ k ih =>
      intro hk
      have := ih (by omega)
      rw [beg_next xss k (by omega)]
      omega
  exact this n hn
section
variable {F : Nat → Prop}
set_option maxHeartbeats 1000000 in
theorem toolong_any (xss : List (List Int)) (A : Option Addr) (n c : Nat) (w : World) (hz : Sls w F A n xss) (hN : (txt xss).length ≤ 1048576) (o : Bool) (ho : decide (65536 < (txt xss).length) = o) :
    Calls Tryz.prog 27 #[.slice A n c] w fun e w' => e = .returned (.bool o) ∧ w = w' := by
  have hl := hz.len
  have HL := Bx.mk hl
  have HZ := Bx.mk hz
  have HN : Bx (beg xss n < 1048576) := ⟨by rw [txt_len, hl] at hN; omega⟩
  have hn : n ≤ 1048576 := by
    have h1 := le_beg (xss := xss) (n := n) (by omega)
    have := HN.out
    omega
  have HO : Bx (decide (65536 < beg xss n + 1) = o) := ⟨by rw [txt_len, hl] at ho; exact ho⟩
  clear hz hN hl ho
  go_enter Tryz.func27, Tryz.ntmps27
  go_wp2_with fail
  go_loop [3, 5, 8] (fun v _ i => ∃ k m : Nat, k ≤ n ∧ i = .int .i64 k ∧ v = .int .i64 m ∧ Bx (m = beg xss k + 1)) (fun _ _ i => n - (intOf i).toNat)
  case atStart => exact ⟨0, 1, Nat.zero_le _, rfl, rfl, ⟨rfl⟩⟩
  case round =>
    obtain ⟨k, m, hk, rfl, rfl, hm⟩ := hrel
    by_cases hlt : k < n
    · have dk : decide ((k : Int) < (n : Int)) = true := by simp; omega
      obtain ⟨b, off, A', c', t, rfl, hFb, ex, hc, hsl, hlc, hcm⟩ := HZ.out.at_ hlt
      have hmt : m + t.length + 1 ≤ 1048576 ∧ m + t.length + 1 = beg xss (k + 1) + 1 := by
        have h1 := beg_next xss k (by rw [HL.out]; exact hlt)
        have h2 := beg_mono xss (show k + 1 ≤ n by omega) (by rw [HL.out]; exact Nat.le_refl _)
        rw [List.getD_eq_getElem?_getD, ex.out] at h1
        have h3 := HN.out
        have h4 := hm.out
        simp only [Option.getD_some] at h1
        omega
      have HMN := Bx.mk hmt.2
      have hmt1 := hmt.1
      generalize t.length = tl at *
      have i2 : (k : Int) < (n : Int) := by omega
      clear hsl ex hm hmt
      go_wp2
      go_round
      case rel => exact ⟨k + 1, m + (tl + 1), by omega, by go_num, by go_num, ⟨by have := HMN.out; omega⟩⟩
      case measure => simp [intOf]; omega
    · obtain rfl : k = n := by omega
      have dk : decide ((k : Int) < (k : Int)) = false := by simp
      have HO2 : Bx (decide ((65536 : Int) < (m : Int)) = o) := ⟨by
        rw [← HO.out, hm.out, decide_eq_decide]
        omega⟩
      clear hm
      go_wp2
      go_ret
      exact ⟨ret_bool HO2.out, rfl⟩
set_option maxHeartbeats 1000000 in
theorem lay_any (xss : List (List Int)) (A : Option Addr) (n c : Nat) (w : World) (hz : Sls w F A n xss) (hb : Byts xss) (hN : (txt xss).length ≤ 1048576) :
    Calls Tryz.prog 28 #[.slice A n c] w (NewInts (txt xss) w) := by
  have hl := hz.len
  have HL := Bx.mk hl
  have HZ := Bx.mk (hz.mono (G := fun b => b < w.heap.size) (fun b h _ => h))
  have HB := Bx.mk hb
  have HN : Bx (beg xss n < 1048576) := ⟨by rw [txt_len, hl] at hN; omega⟩
  have hn : n ≤ 1048576 := by
    have h1 : n ≤ beg xss n := by
      have : ∀ k, k ≤ xss.length → k ≤ beg xss k := fun k => by
        induction k with
        | zero => intro _; exact Nat.zero_le _
        | succ k ih =>
          intro hk
          have := ih (by omega)
          rw [beg_next xss k (by omega)]
          omega
      exact this n (by omega)
    have := HN.out
    omega
  clear hz hb hN hl
  go_enter Tryz.func28, Tryz.ntmps28
  go_wp2_with fail
  go_loopw [3, 5, 7, 10] (fun v _ _ i wr => ∃ k m : Nat, k ≤ n ∧ i = .int .i64 k ∧ Bx (m = beg xss k) ∧ Gs 3 1 w wr v m (rowTo xss k [] 0)) (fun _ _ _ i _ => n - (intOf i).toNat)
  case atStart => exact ⟨0, 0, Nat.zero_le _, rfl, ⟨rfl⟩, Gs.nil _ _ _⟩
  case round =>
    obtain ⟨k, m, hk, rfl, hm, hG⟩ := hrel
    by_cases hlt : k < n
    · have dk : decide ((k : Int) < (n : Int)) = true := by simp; omega
      obtain ⟨b, off, A', c', t, rfl, hFb, ex, hc, hsl, hlc, hcm⟩ := HZ.out.at_ hlt
      have HEX := Bx.mk ex.out
      have hmt : m + t.length + 1 ≤ 1048576 ∧ m + t.length + 1 = beg xss (k + 1) := by
        have h1 := beg_next xss k (by rw [HL.out]; exact hlt)
        have h2 := beg_mono xss (show k + 1 ≤ n by omega) (by rw [HL.out]; exact Nat.le_refl _)
        rw [List.getD_eq_getElem?_getD, ex.out] at h1
        have h3 := HN.out
        have h4 := hm.out
        simp only [Option.getD_some] at h1
        omega
      have HMN := Bx.mk hmt.2
      obtain ⟨tl, htl⟩ : ∃ tl, t.length = tl := ⟨_, rfl⟩
      have HTL := Bx.mk htl
      rw [htl] at hmt hsl hc hlc
      have hmt1 := hmt.1
      have hct : c' ≤ 9223372036854775807 := by unfold maxLen at hcm; omega
      have htc : tl ≤ 9223372036854775807 := by omega
      have HG := Bx.mk hG
      have HSL := Bx.mk hsl
      have HC := Bx.mk hc
      have HALL := Bx.mk (rowTo_all (xss := xss) ex.out)
      have i2 : (k : Int) < (n : Int) := by omega
      have hcr := hG.ch.cell (p := ⟨b, off + k, none⟩) (fun h => h) hc
      clear hG hsl ex hm hc hmt htl
      go_wp2_with fail
      clear hcr
      go_loopw [3, 7, 16] (fun v _ i wr => ∃ j : Nat, j ≤ tl ∧ i = .int .i64 j ∧ Gs 3 1 w wr v (m + j) (rowTo xss k t j)) (fun _ _ i _ => tl - (intOf i).toNat)
      case atStart => exact ⟨0, Nat.zero_le _, rfl, by rw [rowTo_zero]; have := HG.out; rwa [rowTo_zero] at this⟩
      case round =>
        obtain ⟨j, hj, rfl, hGj⟩ := hrel
        obtain ⟨A1, c1, rfl, _, _⟩ := hGj.shape
        have HGJ := Bx.mk hGj
        have hc := hGj.ch.cell (p := ⟨b, off + k, none⟩) (fun h => h) HC.out
        by_cases hjt : j < tl
        · have dj : decide ((j : Int) < (tl : Int)) = true := by simp; omega
          obtain ⟨b2, o2, x, rfl, _, hx, hcx⟩ := (HSL.out.ch hGj.ch (fun _ _ _ h => h)).at_ hjt
          obtain ⟨hx0, hx1⟩ := HB.out t (List.mem_of_getElem? HEX.out) x (List.mem_of_getElem? hx.out)
          have HNX := Bx.mk (rowTo_next (xss := xss) (k := k) hx.out)
          have i4 : (j : Int) < (tl : Int) := by omega
          clear hGj hx
          go_wp2_with fail
          refine (symbol_any x (x + 2) _ hx0 hx1 rfl).mono ?_
          rintro e w' ⟨rfl, rfl⟩
          go_wp2_with (at_builtin; refine wp_app rfl (.tmp 20) (.tmp 23) elemI rfl rfl (HGJ.out.own.alloc _) rfl (Vs.one _ _ _) ?c1 ?c2 ?c3 ?_)
          case c1 => intro u hu; simp at hu; subst hu; rfl
          case c2 => omega
          case c3 => omega
          intro v5 w5 ho1 hg1 hb1
          have HG5 := Bx.mk (HGJ.out.app ((Ch.refl (fun _ => False) wr).alloc _) ho1 hg1 (by rw [World.size_alloc]; exact hb1))
          clear ho1 hg1 hb1
          go_wp2
          go_roundw
          case rel => exact ⟨j + 1, by omega, by go_num, by rw [← HNX.out]; exact HG5.out⟩
          case measure => simp [intOf]; omega
        · have hjn : j = tl := by omega
          have dj : decide ((j : Int) < (tl : Int)) = false := by simp; omega
          have HJ := Bx.mk hjn
          clear hGj hjn
          go_wp2_with (at_builtin; refine wp_app rfl (.tmp 26) (.tmp 27) elemI rfl rfl (HGJ.out.own.alloc _) rfl (Vs.one _ _ _) ?c1 ?c2 ?c3 ?_)
          case c1 => intro u hu; simp at hu; subst hu; rfl
          case c2 => omega
          case c3 => omega
          intro v5 w5 ho1 hg1 hb1
          have HG5 := Bx.mk (HGJ.out.app ((Ch.refl (fun _ => False) wr).alloc _) ho1 hg1 (by rw [World.size_alloc]; exact hb1))
          clear ho1 hg1 hb1
          go_wp2
          go_roundw
          case rel =>
            refine ⟨k + 1, m + j + 1, by omega, by go_num, ⟨by rw [HJ.out, ← HTL.out]; exact HMN.out⟩, ?_⟩
            have := HG5.out
            rw [HJ.out, ← HTL.out] at this ⊢
            rw [HALL.out] at this
            exact this
          case measure => simp [intOf]; omega
    · have hkn : k = n := by omega
      have dk : decide ((k : Int) < (n : Int)) = false := by simp; omega
      rw [hkn] at hm hG
      have hm2 : m < 1048576 := by rw [hm.out]; exact HN.out
      have HG := Bx.mk hG
      have HML : Bx (m + 1 = (txt xss).length) := ⟨by rw [txt_len, HL.out, hm.out]⟩
      obtain ⟨A1, c1, rfl, _, _⟩ := hG.shape
      clear hG hm hkn
      go_wp2_with (at_builtin; refine wp_app rfl (.tmp 30) (.tmp 31) elemI rfl rfl (HG.out.own.alloc _) rfl (Vs.one _ _ _) ?c1 ?c2 ?c3 ?_)
      case c1 => intro u hu; simp at hu; subst hu; rfl
      case c2 => omega
      case c3 => omega
      intro v5 w5 ho1 hg1 hb1
      have HF : Bx (Gs 3 1 w w5 v5 (m + 1) ((txt xss).map (Value.int .i64))) := ⟨by
        have := HG.out.app ((Ch.refl (fun _ => False) wr).alloc _) ho1 hg1 (by rw [World.size_alloc]; exact hb1)
        rwa [rowTo_end HL.out] at this⟩
      clear ho1 hg1 hb1
      go_wp2
      go_ret
      exact ⟨v5, rfl, by rw [← HML.out]; exact HF.out⟩
/-- What Build leaves. -/
def BuildPost (xss : List (List Int)) (w : World) (e : Ending) (w' : World) : Prop := ((txt xss).length ≤ 65536 ∧ ∃ b : Nat, e = .returned (.tuple #[.pointer (some ⟨b, 0, none⟩), .int .i64 0]) ∧ Ix w' (fun k => w.heap.size ≤ k) b xss ∧ Ch (fun _ => False) w w') ∨ (65536 < (txt xss).length ∧ e = .returned (.tuple #[.pointer none, .int .i64 5]) ∧ Ch (fun _ => False) w w')
theorem txt_sym {xss : List (List Int)} (hb : Byts xss) : ∀ x ∈ txt xss, 0 ≤ x ∧ x < 512 := fun x hx => by
  unfold txt at hx
  rcases List.mem_append.1 hx with h | h
  · have := body_le hb x h
    omega
  · simp at h
    omega
/-- A Turn of small symbols as naturals. -/
theorem turned_nats {s t : List Int} (hT : Turned s t) (hs : ∀ x ∈ s, 0 ≤ x ∧ x < 512) : ∃ l : List Nat, t = asI l ∧ ∀ x ∈ l, x < 512 := by
  have hall : ∀ x ∈ t, 0 ≤ x ∧ x < 512 := fun x hx => by
    obtain ⟨i, hi⟩ := List.getElem?_of_mem hx
    obtain ⟨h1, _⟩ := List.getElem?_eq_some_iff.1 hi
    obtain ⟨L, hL⟩ := sa_exists hT.closed.pos
    have hlen := hT.len
    obtain ⟨y, hy, hlt⟩ := hL.has (i := i) (by omega)
    have h2 := hT.at' hL hy
    rw [gs_at hi] at h2
    rw [h2]
    have hp := prv_lt hT.closed.full hlt
    exact hs _ (List.mem_of_getElem? (gs_some hp))
  refine ⟨t.map Int.toNat, ?_, fun x hx => ?_⟩
  · unfold asI
    rw [List.map_map]
    refine ((List.map_congr_left (g := id) fun x hx => ?_).trans (List.map_id t)).symm
    have := hall x hx
    show ((x.toNat : Nat) : Int) = x
    omega
  · obtain ⟨y, hy, rfl⟩ := List.mem_map.1 hx
    have := hall y hy
    omega
set_option maxHeartbeats 1000000 in
theorem build_any (xss : List (List Int)) (A : Option Addr) (n c : Nat) (w : World) (hz : Sls w F A n xss) (hb : Byts xss) (hN : (txt xss).length ≤ 1048576) (htab : W.Tab w) :
    Calls Tryz.prog 13 #[.slice A n c] w (BuildPost xss w) := by
  have htl := toolong_any xss A n c w hz hN _ rfl
  have hlay := lay_any xss A n c w hz hb hN
  by_cases hbig : 65536 < (txt xss).length
  · rw [decide_eq_true hbig] at htl
    have HBIG := Bx.mk hbig
    clear hz hb hN hbig hlay
    go_enter Tryz.func13, Tryz.ntmps13
    go_wp2_with fail
    refine htl.mono ?_
    rintro e w' ⟨rfl, rfl⟩
    clear htl
    go_wp2
    go_returns
    exact .inr ⟨HBIG.out, rfl, Ch.refl _ _⟩
  · rw [decide_eq_false hbig] at htl
    have HSM : Bx ((txt xss).length ≤ 65536) := ⟨by omega⟩
    have HB := Bx.mk hb
    have HT := Bx.mk htab
    clear hz hb hN hbig htab
    go_enter Tryz.func13, Tryz.ntmps13
    go_wp2_with fail
    refine htl.mono ?_
    rintro e w' ⟨rfl, rfl⟩
    clear htl
    go_wp2_with fail
    refine hlay.mono ?_
    rintro e w1 ⟨v, rfl, hG⟩
    obtain ⟨A1, c1, rfl, hc1, hc2⟩ := hG.shape
    have HSR := Bx.mk hG.sl
    have HC1 := Bx.mk hG.ch
    have htu := turn_cap (txt xss) A1 (txt xss).length c1 w1 hG.sl HSM.out
    clear hG hlay
    obtain ⟨m, hm⟩ : ∃ m, (txt xss).length = m := ⟨_, rfl⟩
    rw [hm] at HSR htu HSM hc1 ⊢
    have HM := Bx.mk hm
    clear hm
    go_wp2_with fail
    refine htu.mono ?_
    rintro e w2 ⟨A2, c2, m2, ec, t, rfl, hsl, hres, hmc, hcm, hC2⟩
    have hT : ec = 0 ∧ m2 = m ∧ Turned (txt xss) t := by
      rcases hres with ⟨h1, _⟩ | ⟨_, h1, _⟩ | ⟨_, h1, h2, h3⟩
      · have := HSM.out; omega
      · exact absurd (txt_closed HB.out.pos) h1
      · exact ⟨h1, h2, h3⟩
    obtain ⟨rfl, rfl, hT⟩ := hT
    obtain ⟨l, rfl, hlt⟩ := turned_nats hT (txt_sym HB.out)
    have hix := index_is xss (txt xss) l A1 A2 m2 c1 c2 w2 (HSR.out.ch hC2 (fun _ _ _ h => h)) hsl rfl HB.out HSM.out hT hmc hcm hlt (HT.out.keep (HC1.out.trans hC2 (fun _ _ h => h)))
    have HC2 := Bx.mk (HC1.out.trans hC2 (fun _ _ h => h))
    clear hsl hres hC2 hT hlt htu
    go_wp2_with fail
    refine hix.mono ?_
    rintro e w3 ⟨b, rfl, hI, hC3⟩
    have HI := Bx.mk (hI.mono (G := fun k => w.heap.size ≤ k) (fun k _ (h : w2.heap.size ≤ k) => by have := HC2.out.size; omega))
    have HC3 := Bx.mk (HC2.out.trans hC3 (fun _ _ h => h))
    have HSM2 : Bx ((txt xss).length ≤ 65536) := ⟨by rw [HM.out]; exact HSM.out⟩
    clear hI hC3 hix
    go_wp2
    go_returns
    exact .inl ⟨HSM2.out, b, rfl, HI.out, HC3.out⟩
end
end Go.Proofs.YtckkjccjkdidjaaGreatDoor.X

namespace Go.Proofs.YtckkjccjkdidjaaGreatDoor.X
open Go.RowKit Go.Oct Go.Su

/-- The greatest. -/
def Most (s : List Int) (w : World) (e : Ending) (w' : World) : Prop := ∃ v : Int, e = .returned (.int .i64 v) ∧ (∃ p, p < s.length ∧ gs s p = v) ∧ (∀ p, p < s.length → gs s p ≤ v) ∧ w = w'
section
variable {F : Nat → Prop}
theorem max_any (s : List Int) (A : Option Addr) (n c : Nat) (w : World) (hs : Sl w F .i64 A n s) (hn : n ≤ 1048576) (h0 : 0 < n) :
    Calls Tryz.prog 73 #[.slice A n c] w (Most s w) := by
  have HS := Bx.mk hs
  have HL := Bx.mk hs.len
  obtain ⟨b, off, x0, rfl, _, hx, hcx⟩ := hs.at_ h0
  have hg := gs_at hx.out
  have HG := Bx.mk hg
  have HST : Bx ((∃ p, p < n ∧ gs s p = x0) ∧ ∀ p, p < 1 → gs s p ≤ x0) := ⟨⟨0, h0, hg⟩, fun p hp => by
    obtain rfl : p = 0 := by omega
    rw [hg]
    exact Int.le_refl _⟩
  rw [Nat.add_zero] at hcx
  have d1 : decide ((n : Int) < 1) = false := by simp; omega
  have i0 : (0 : Int) < (n : Int) := by omega
  clear hs hx hg
  go_enter Tryz.func73, Tryz.ntmps73
  go_wp2_with fail
  go_loop [3, 4] (fun m i => ∃ (k : Nat) (v : Int), 1 ≤ k ∧ k ≤ n ∧ i = .int .i64 k ∧ m = .int .i64 v ∧ Bx ((∃ p, p < n ∧ gs s p = v) ∧ ∀ p, p < k → gs s p ≤ v)) (fun _ i => n - (intOf i).toNat)
  case atStart => exact ⟨1, x0, Nat.le_refl _, h0, rfl, rfl, HST⟩
  case round =>
    obtain ⟨k, v, hk1, hk, rfl, rfl, hM⟩ := hrel
    by_cases hlt : k < n
    · have dk : decide ((k : Int) < (n : Int)) = true := by simp; omega
      obtain ⟨b', off', y, hA, _, hy, hcy⟩ := HS.out.at_ hlt
      injection hA with hA
      injection hA with e1 e2
      subst e1 e2
      have hgy := gs_at hy.out
      have HGY := Bx.mk hgy
      have i1 : (k : Int) < (n : Int) := by omega
      clear hy hgy
      by_cases hv : v < y
      · have HN : Bx ((∃ p, p < n ∧ gs s p = y) ∧ ∀ p, p < k + 1 → gs s p ≤ y) := ⟨⟨k, hlt, HGY.out⟩, fun p hp => by
          by_cases e : p = k
          · rw [e, HGY.out]
            exact Int.le_refl _
          · have := hM.out.2 p (by omega)
            omega⟩
        clear hM
        go_wp2
        go_round
        case rel => exact ⟨k + 1, y, by omega, by omega, by go_num, congrArg (Value.int .i64) (by omega), HN⟩
        case measure => simp [intOf]; omega
      · have HN : Bx ((∃ p, p < n ∧ gs s p = v) ∧ ∀ p, p < k + 1 → gs s p ≤ v) := ⟨hM.out.1, fun p hp => by
          by_cases e : p = k
          · rw [e, HGY.out]
            omega
          · exact hM.out.2 p (by omega)⟩
        clear hM
        go_wp2
        go_round
        case rel => exact ⟨k + 1, v, by omega, by omega, by go_num, congrArg (Value.int .i64) (by omega), HN⟩
        case measure => simp [intOf]; omega
    · have dk : decide ((k : Int) < (n : Int)) = false := by simp; omega
      have HN : Bx ((∃ p, p < s.length ∧ gs s p = v) ∧ ∀ p, p < s.length → gs s p ≤ v) := ⟨by
        rw [HL.out]
        exact ⟨hM.out.1, fun p hp => hM.out.2 p (by omega)⟩⟩
      clear hM
      go_wp2
      go_ret
      exact ⟨v, rfl, HN.out.1, HN.out.2, rfl⟩
theorem most_le {s : List Int} {v : Int} (h1 : ∃ p, p < s.length ∧ gs s p = v) (h2 : ∀ p, p < s.length → gs s p ≤ v) : (∀ x ∈ s, x ≤ 257) ↔ v ≤ 257 := by
  constructor
  · intro h
    obtain ⟨p, hp, rfl⟩ := h1
    exact h _ (List.mem_of_getElem? (gs_some hp))
  · intro h x hx
    obtain ⟨i, hi⟩ := List.getElem?_of_mem hx
    obtain ⟨h3, _⟩ := List.getElem?_eq_some_iff.1 hi
    have := h2 i h3
    rw [gs_at hi] at this
    omega
set_option maxHeartbeats 1000000 in
theorem oftexts_any (s : List Int) (A : Option Addr) (n c : Nat) (o : Bool) (w : World) (hs : Sl w F .i64 A n s) (hn : n ≤ 1048576) (h0 : 0 < n) (ho : o = true ↔ OfTxt s) :
    Calls Tryz.prog 45 #[.slice A n c] w fun e w' => e = .returned (.bool o) ∧ w = w' := by
  have hmx := max_any s A n c w hs hn h0
  have HL := Bx.mk hs.len
  have HO := Bx.mk ho
  have HS := Bx.mk hs
  clear hs ho
  go_enter Tryz.func45, Tryz.ntmps45
  go_wp2_with fail
  refine hmx.mono ?_
  rintro e w' ⟨v, rfl, hv1, hv2, rfl⟩
  have HV := Bx.mk (most_le hv1 hv2)
  clear hv1 hv2 hmx
  by_cases h257 : v ≤ 257
  · have d1 : decide (v ≤ 257) = true := by simpa using h257
    by_cases h1 : n = 1
    · subst h1
      obtain rfl : o = true := HO.out.2 ⟨HV.out.2 h257, by rw [HL.out]; exact .inl rfl⟩
      go_wp2
      go_ret
      exact ⟨rfl, rfl⟩
    · obtain ⟨b, off, x, rfl, _, hx, hcx⟩ := HS.out.at_ (show n - 2 < n by omega)
      have hg := gs_at hx.out
      have e1 : ((n : Int) - 1 == 0) = false := by simp; omega
      have e1' : ¬ (n : Int) - 1 = 0 := by omega
      have e2 : ((n : Int) - 1 - 1) = ((n - 2 : Nat) : Int) := by omega
      have HO2 : Bx (o = (x == 1)) := ⟨by
        have hb : Bord s (s.length - 1) ↔ x = 1 := by
          unfold Bord
          rw [HL.out, show n - 1 - 1 = n - 2 by omega, hg]
          omega
        rw [Bool.eq_iff_iff, HO.out]
        simp only [beq_iff_eq]
        exact ⟨fun h => hb.1 h.2, fun h => ⟨HV.out.2 h257, hb.2 h⟩⟩⟩
      have i0 : (0 : Int) ≤ (n : Int) - 1 - 1 := by omega
      have i1 : (n : Int) - 1 - 1 < (n : Int) := by omega
      clear hx hg
      go_wp2
      go_ret
      exact ⟨ret_bool (by rw [HO2.out]), rfl⟩
  · have d1 : decide (v ≤ 257) = false := by simpa using h257
    have HO2 : Bx (o = false) := ⟨by
      cases o with
      | false => rfl
      | true => exact absurd (HV.out.1 (HO.out.1 rfl).1) h257⟩
    go_wp2
    go_ret
    exact ⟨ret_bool HO2.out.symm, rfl⟩
/-- What From leaves. -/
def FromPost (l : List Int) (n : Nat) (w : World) (e : Ending) (w' : World) : Prop := (∃ (b : Nat) (xss : List (List Int)), e = .returned (.tuple #[.pointer (some ⟨b, 0, none⟩), .int .i64 0]) ∧ n ≤ 65536 ∧ Turned (txt xss) l ∧ Ix w' (fun k => w.heap.size ≤ k) b xss ∧ Ch (fun _ => False) w w') ∨ (∃ ec : Int, e = .returned (.tuple #[.pointer none, .int .i64 ec]) ∧ ((65536 < n ∧ ec = 5) ∨ (n ≤ 65536 ∧ NoTxt l ∧ ec = 3)) ∧ Ch (fun _ => False) w w')
set_option maxHeartbeats 1000000 in
theorem from_any (l : List Int) (A : Option Addr) (n c : Nat) (w : World) (hs : Sl w F .i64 A n l) (hn : n ≤ 65536) (hc : n ≤ c) (hcm : c ≤ maxLen) (htab : W.Tab w) :
    Calls Tryz.prog 21 #[.slice A n c] w (FromPost l n w) := by
  have hbk := back_any l A n c w hs hn
  have HS := Bx.mk hs
  have HT := Bx.mk htab
  clear hs htab
  go_enter Tryz.func21, Tryz.ntmps21
  go_wp2_with fail
  refine hbk.mono ?_
  rintro e w1 ⟨A1, c1, m, ec, s, rfl, hsl, hres, hC1⟩
  rcases hres with ⟨h1, _⟩ | ⟨_, h1, rfl, rfl, rfl⟩ | ⟨_, rfl, rfl, hT⟩
  · omega
  · have HNO : Bx (NoTxt l) := ⟨fun xss _ ht => h1 _ ht⟩
    have HC1 := Bx.mk hC1
    clear hsl hC1 hbk h1
    go_wp2
    go_returns
    exact .inr ⟨3, rfl, .inr ⟨hn, HNO.out, rfl⟩, HC1.out⟩
  · have h0 : 0 < m := by rw [← hsl.len]; exact hT.closed.full
    by_cases hof : OfTxt s
    · have hot := oftexts_any s A1 m c1 true w1 hsl (by omega) h0 ⟨fun _ => hof, fun _ => rfl⟩
      obtain ⟨xss, hb, hx⟩ := oftxt_yes hT hof
      subst hx
      obtain ⟨l, rfl, hlt⟩ := turned_nats hT (txt_sym hb)
      have hix := index_is xss (txt xss) l A1 A m c1 c w1 hsl (HS.out.ch hC1 (fun _ _ _ h => h)) rfl hb hn hT hc hcm hlt (HT.out.keep hC1)
      have HTT := Bx.mk hT
      have HC1 := Bx.mk hC1
      clear hsl hC1 hbk hof hb hlt hT
      go_wp2_with fail
      refine hot.mono ?_
      rintro e w' ⟨rfl, rfl⟩
      clear hot
      go_wp2_with fail
      refine hix.mono ?_
      rintro e w3 ⟨b, rfl, hI, hC3⟩
      have HI := Bx.mk (hI.mono (G := fun k => w.heap.size ≤ k) (fun k _ (h : w1.heap.size ≤ k) => by have := HC1.out.size; omega))
      have HC3 := Bx.mk (HC1.out.trans hC3 (fun _ _ h => h))
      clear hI hC3 hix
      go_wp2
      go_returns
      exact .inl ⟨b, xss, rfl, hn, HTT.out, HI.out, HC3.out⟩
    · have hot := oftexts_any s A1 m c1 false w1 hsl (by omega) h0 ⟨fun h => (by cases h), fun h => absurd h hof⟩
      have HNO := Bx.mk (oftxt_no hT hof)
      have HC1 := Bx.mk hC1
      clear hsl hC1 hbk hof hT
      go_wp2_with fail
      refine hot.mono ?_
      rintro e w' ⟨rfl, rfl⟩
      clear hot
      go_wp2
      go_returns
      exact .inr ⟨3, rfl, .inr ⟨hn, HNO.out, rfl⟩, HC1.out⟩
end
end Go.Proofs.YtckkjccjkdidjaaGreatDoor.X
