/-
  The contract of the document's answer haystackref6.stable: places in the order of their symbols, alike ones as they stand.
-/
import Derived.Test.YtgboobjmafdieaaBwTurn
import Derived.Test.YtgboobjmafdieaaBwStabMath
import Derived.Test.YtgboobjmafdieaaSvCell
import Derived.Deep.DeepCutAuto
namespace Go.Proofs.Ytgboobjmafdieaa
open Go.RowKit Go.Oct Go.Su

/-- What stable leaves. -/
def Stab (l : List Int) (n : Nat) (w : World) (e : Ending) (w' : World) : Prop := ∃ (A : Option Addr) (c : Nat) (P : List Nat), e = .returned (.slice A n c) ∧ Sl w' (fun b => w.heap.size ≤ b) .i64 A n (asI P) ∧ Srt l P ∧ Ch (fun _ => False) w w'
theorem range_srt {l : List Int} (h : l.length < 2) : Srt l (List.range l.length) :=
  (wd_start l).srt (by simp) (by omega)
section
variable {F : Nat → Prop}
theorem stable_few (l : List Int) (A : Option Addr) (n c : Nat) (w : World) (hl : l.length = n) (hn : n < 2) :
    Calls Try.prog 24 #[.slice A n c] w (Stab l n w) := by
  have hmk := mkI w n (by omega)
  have hO : Own (w.alloc (.cells (madeCells #[.int .i64 0] n) 3)) 3 1 w.heap.size n n (vals (List.range n)) := by
    have h := own_made1 w 3 (.int .i64 0) n (by omega)
    have e : List.replicate n (Value.int .i64 0) = vals (List.range n) := by
      rcases Nat.eq_zero_or_pos n with h0 | h0
      · subst h0
        rfl
      · obtain rfl : n = 1 := by omega
        rfl
    rw [e] at h
    exact h
  have hS : Sl (w.alloc (.cells (madeCells #[.int .i64 0] n) 3)) (fun b => w.heap.size ≤ b) .i64 (some ⟨w.heap.size, 0, none⟩) n (asI (List.range n)) := by
    rw [← vals_asI] at hO
    exact hO.sl.mono (fun b _ hb => by omega)
  have hsrt := range_srt (l := l) (by omega)
  rw [hl] at hsrt
  have HS := Bx.mk hS
  have HT := Bx.mk hsrt
  have d1 : decide ((n : Int) < 2) = true := by simp; omega
  clear hO hS hsrt hl
  go_enter Try.func24, Try.ntmps24
  go_wp2
  go_ret
  exact ⟨_, n, _, rfl, HS.out, HT.out, (Ch.refl _ _).alloc _⟩
set_option maxRecDepth 100000 in
set_option maxHeartbeats 8000000 in
theorem stable_many (l : List Int) (A : Option Addr) (n c : Nat) (w : World) (hs : Sl w F .i64 A n l) (hn : n ≤ 65536) (hn2 : 2 ≤ n) :
    Calls Try.prog 24 #[.slice A n c] w (Stab l n w) := by
  have HL := Bx.mk hs.len
  have HS := Bx.mk (hs.mono (G := fun b => b < w.heap.size) (fun b h _ => h))
  have hmk := mkI w n (by omega)
  have d1 : decide ((n : Int) < 2) = false := by simp; omega
  clear hs
  go_enter Try.func24, Try.ntmps24
  go_wp2_with fail
  go_loopw [4] (fun i wr => ∃ k : Nat, k ≤ n ∧ i = .int .i64 k ∧ Own wr 3 1 w.heap.size n n ((upZ (rng n) k).map (Value.int .i64)) ∧ Ch (fun _ => False) w wr) (fun i _ => n - (intOf i).toNat)
  case atStart =>
    refine ⟨0, Nat.zero_le _, rfl, ?_, (Ch.refl _ _).alloc _⟩
    have := own_made1 w 3 (.int .i64 0) n (by omega)
    rw [upZ_zero, rng_len, List.map_replicate]
    exact this
  case round =>
    obtain ⟨k, hk, rfl, hO, hC⟩ := hrel
    by_cases hlt : k < n
    · have hcell := hO.cellI hlt
      have hfz := hO.frozenAt k
      have hst := hO.storedI k (k : Int)
      rw [upZ_next (rng_at hlt)] at hst
      have HST := Bx.mk hst
      have HC := Bx.mk hC
      have dk : decide ((k : Int) < (n : Int)) = true := by simp; omega
      generalize (upZ (rng n) k).getD k 0 = old at *
      clear hC hst hO
      go_wp2
      go_roundw
      case rel => exact ⟨k + 1, by omega, by go_num, HST.out.1, HC.out.trans HST.out.2 (fun i hi (e : i = w.heap.size) => by omega)⟩
      case measure => simp [intOf]; omega
    · have hkn : k = n := by omega
      have dk : decide ((k : Int) < (n : Int)) = false := by simp; omega
      have hu := upZ_all (rng n)
      rw [rng_len] at hu
      rw [hkn, hu] at hO
      have hP0 : Sl wr (fun b => w.heap.size ≤ b) .i64 (some ⟨w.heap.size, 0, none⟩) n (asI (List.range n)) := hO.sl.mono (fun b _ hb => by omega)
      have hwd := wd_start l
      rw [HL.out] at hwd
      have HP0 := Bx.mk hP0
      have HWD := Bx.mk hwd
      have HC := Bx.mk hC
      obtain ⟨w1, rfl⟩ : ∃ w1 : World, w1 = wr := ⟨_, rfl⟩
      clear hO hC hP0 hwd hkn hu hmk
      go_wp2_with fail
      go_loopw [3, 5, 6, 7, 8, 9, 10, 11] (fun v x _ _ _ _ _ _ wr => ∃ (W : Nat) (A' : Option Addr) (c' : Nat) (p : List Nat), x = .int .i64 W ∧ 1 ≤ W ∧ W ≤ 131072 ∧ v = .slice A' n c' ∧ Sl wr (fun b => w.heap.size ≤ b) .i64 A' n (asI p) ∧ Wd l W p ∧ Ch (fun _ => False) w wr) (fun _ x _ _ _ _ _ _ _ => n - (intOf x).toNat)
      case atStart => exact ⟨1, _, n, _, rfl, Nat.le_refl _, by omega, rfl, HP0.out, HWD.out, HC.out⟩
      case round =>
        obtain ⟨W, A', c', p, rfl, hW1, hW2, rfl, hSp, hWd, hC⟩ := hrel
        have hpl : p.length = n := by have := hSp.len; rwa [asI_len] at this
        by_cases hWn : W < n
        · have dW : decide ((W : Int) < (n : Int)) = true := by simp; omega
          have hmk := run_mkI0 n (by omega) wr
          have hG0 := gr_made wr n (by omega)
          have HG0 := Bx.mk hG0
          have HSp := Bx.mk hSp
          have HWd := Bx.mk hWd
          have HPl := Bx.mk hpl
          have HC := Bx.mk hC
          obtain ⟨wo, rfl⟩ : ∃ wo : World, wo = wr := ⟨_, rfl⟩
          clear hG0 hSp hWd hpl hC
          go_wp2_with fail
          generalize hw0 : wo.alloc (.cells (madeCells #[.int .i64 0] n) 3) = w2 at *
          go_loopw [6, 7, 8, 9, 10, 11] (fun v x _ _ _ _ wr => ∃ (a : Nat) (q : List Nat), x = .int .i64 a ∧ 2 * W ∣ a ∧ a ≤ 262144 ∧ Gr wo wr v q ∧ Wd l (2 * W) q ∧ q.length = min a n) (fun _ x _ _ _ _ _ => n - (intOf x).toNat)
          case atStart => exact ⟨0, [], rfl, Nat.dvd_zero _, by omega, HG0.out, wd_nil l _, by simp⟩
          case round =>
            obtain ⟨a, q, rfl, hda, ha2, hG, hWq, hql⟩ := hrel
            by_cases han : a < n
            · have da : decide ((a : Int) < (n : Int)) = true := by simp; omega
              obtain ⟨m, hm⟩ : ∃ m, m = min (a + W) n := ⟨_, rfl⟩
              obtain ⟨z, hz⟩ : ∃ z, z = min (a + 2 * W) n := ⟨_, rfl⟩
              have hMg := mg_start (m := m) (z := z) (p := p) hWq (show q.length = a by omega) (by omega) (by omega)
              have HMg := Bx.mk hMg
              have HG := Bx.mk hG
              have HDA := Bx.mk hda
              obtain ⟨w3, rfl⟩ : ∃ w3 : World, w3 = wr := ⟨_, rfl⟩
              have HM := Bx.mk hm
              have HZ := Bx.mk hz
              clear hda hG hWq hql hMg hm hz
              go_upto_region 15 with fail
              go_cut [8, 9] (fun s8 s9 wx => s8 = .int .i64 (m : Int) ∧ s9 = .int .i64 (z : Int) ∧ wx = w3)
              case first =>
                have hm := HM.out
                have hz := HZ.out
                have hWa : (a : Int) + (W : Int) ≤ 400000 := by omega
                rcases Nat.le_total (a + 2 * W) n with h2 | h2
                · have e1 : (m : Int) = (a : Int) + (W : Int) := by omega
                  have e2 : (z : Int) = (a : Int) + 2 * (W : Int) := by omega
                  have f1 : ¬ (n : Int) < (a : Int) + (W : Int) := by omega
                  have f2 : ¬ (n : Int) < (a : Int) + 2 * (W : Int) := by omega
                  have E1 := Bx.mk e1
                  have E2 := Bx.mk e2
                  clear e1 e2 hm hz
                  go_wp2_with fail
                  all_goals
                    go_meet
                    first | exact ⟨by rw [E1.out], by rw [E2.out], rfl⟩ | (refine ⟨.int .i64 (m : Int), .int .i64 (z : Int), ⟨rfl, rfl, rfl⟩, ?_⟩; rw [E1.out, E2.out])
                · rcases Nat.lt_or_ge n (a + W) with h1 | h1
                  · have e1 : m = n := by omega
                    have e2 : z = n := by omega
                    have f1 : (n : Int) < (a : Int) + (W : Int) := by omega
                    have E1 := Bx.mk e1
                    have E2 := Bx.mk e2
                    clear e1 e2 hm hz
                    by_cases f3 : (n : Int) < (a : Int) + 2 * (W : Int)
                    · go_wp2_with fail
                      all_goals
                        go_meet
                        first | exact ⟨by rw [E1.out], by rw [E2.out], rfl⟩ | (refine ⟨.int .i64 (m : Int), .int .i64 (z : Int), ⟨rfl, rfl, rfl⟩, ?_⟩; rw [E1.out, E2.out])
                    · omega
                  · have e1 : (m : Int) = (a : Int) + (W : Int) := by omega
                    have e2 : z = n := by omega
                    have f1 : ¬ (n : Int) < (a : Int) + (W : Int) := by omega
                    have E1 := Bx.mk e1
                    have E2 := Bx.mk e2
                    clear e1 e2 hm hz
                    by_cases f3 : (n : Int) < (a : Int) + 2 * (W : Int)
                    · go_wp2_with fail
                      all_goals
                        go_meet
                        first | exact ⟨by rw [E1.out], by rw [E2.out], rfl⟩ | (refine ⟨.int .i64 (m : Int), .int .i64 (z : Int), ⟨rfl, rfl, rfl⟩, ?_⟩; rw [E1.out, E2.out])
                    · have f4 : (a : Int) + 2 * (W : Int) = (n : Int) := by omega
                      have F4 := Bx.mk f4
                      clear f4
                      go_wp2_with fail
                      all_goals
                        go_meet
                        first | exact ⟨by rw [E1.out], by rw [E2.out]; first | rfl | rw [F4.out], rfl⟩ | (refine ⟨.int .i64 (m : Int), .int .i64 (z : Int), ⟨rfl, rfl, rfl⟩, ?_⟩; rw [E1.out, E2.out]; first | done | rw [F4.out])
              case rest =>
                obtain ⟨rfl, rfl, rfl⟩ := hcut
                go_wp2_with fail
                go_loopw [6, 10, 11] (fun v x y wr => ∃ (i k' : Nat) (q : List Nat), x = .int .i64 i ∧ y = .int .i64 k' ∧ Mg l W p a m z i k' q ∧ Gr wo wr v q) (fun _ x y _ => (m - (intOf x).toNat) + (z - (intOf y).toNat))
                case atStart => exact ⟨a, m, q, rfl, rfl, HMg.out, HG.out⟩
                case round =>
                  obtain ⟨i, k', q, rfl, rfl, hMg, hG⟩ := hrel
                  have hm := HM.out
                  have hz := HZ.out
                  have hmz : (m = a + W ∨ m = n) ∧ (z = a + 2 * W ∨ z = n) ∧ m ≤ n ∧ z ≤ n ∧ m ≤ a + W ∧ z ≤ a + 2 * W := by omega
                  clear hm hz
                  have hai := hMg.ai
                  have him := hMg.im
                  have hmk2 := hMg.mk2
                  have hkz := hMg.kz
                  have hlen := hMg.len
                  have hSpr := HSp.out.ch hG.ch (fun _ _ _ h => h)
                  have hql : q.length ≤ 65536 := by omega
                  have HMr := Bx.mk hMg
                  have HGr := Bx.mk hG
                  have hpn : p.length = n := HPl.out
                  have cellp : ∀ j, j < n → ∃ (b o x : Nat), A' = some ⟨b, o, none⟩ ∧ p[j]? = some x ∧ x < n ∧ wr.cell? ⟨b, o + j, none⟩ = some (.int .i64 (x : Int)) := fun j hj => by
                    obtain ⟨b, o, x0, hA, _, hx0, hc⟩ := hSpr.at_ hj
                    obtain ⟨x, rfl, hx⟩ := asI_at hx0.out
                    exact ⟨b, o, x, hA, hx, by rw [← HL.out]; exact HWd.out.lt x (List.mem_of_getElem? hx), hc⟩
                  have cells : ∀ x, x < n → ∃ (b o : Nat), A = some ⟨b, o, none⟩ ∧ wr.cell? ⟨b, o + x, none⟩ = some (.int .i64 (gs l x)) := fun x hx => by
                    obtain ⟨b, o, hA, _, hc⟩ := Sl.gsAt (HS.out.ch (HC.out.trans hG.ch (fun _ _ h => h)) (fun _ _ _ h => h)) hx
                    exact ⟨b, o, hA, hc⟩
                  clear hMg hG hSpr
                  rcases Nat.lt_or_ge k' z with hk1 | hk1
                  · obtain ⟨bp, op, y, rfl, hy, hyn, hcy⟩ := cellp k' (by omega)
                    have HMA : Bx (m = a + W) := ⟨by omega⟩
                    have s1 : decide ((z : Int) ≤ (k' : Int)) = false := by simp; omega
                    have s2 : decide (z ≤ k') = false := by simp; omega
                    have s3 : decide ((k' : Int) < (z : Int)) = true := by simp; omega
                    have i3 : (0 : Int) ≤ (k' : Int) := by omega
                    have i4 : (k' : Int) < (n : Int) := by omega
                    rcases Nat.lt_or_ge i m with hi1 | hi1
                    · obtain ⟨bp', op', x, hA', hx, hxn, hcx⟩ := cellp i (by omega)
                      injection hA' with hA'
                      injection hA' with f1 f2
                      subst f1 f2
                      obtain ⟨bl, ol, rfl, hlx⟩ := cells x hxn
                      obtain ⟨bl', ol', hA', hly⟩ := cells y hyn
                      injection hA' with hA'
                      injection hA' with f1 f2
                      subst f1 f2
                      have r1 : decide ((i : Int) < (m : Int)) = true := by simp; omega
                      have i1 : (0 : Int) ≤ (i : Int) := by omega
                      have i2 : (i : Int) < (n : Int) := by omega
                      have i5 : (0 : Int) ≤ (x : Int) := by omega
                      have i6 : (x : Int) < (n : Int) := by omega
                      have i7 : (0 : Int) ≤ (y : Int) := by omega
                      have i8 : (y : Int) < (n : Int) := by omega
                      by_cases hle : gs l x ≤ gs l y
                      · have HMN := Bx.mk (HMr.out.takeLeft HWd.out HDA.out (by omega) (.inl HMA.out) (by omega) hi1 hx (.inr fun y' hy' => by rw [hy] at hy'; obtain rfl := Option.some.inj hy'; exact hle))
                        have c1 : decide (gs l x ≤ gs l y) = true := by simpa using hle
                        generalize gs l x = vx at *
                        generalize gs l y = vy at *
                        clear hx hy cellp cells
                        go_wp2_with fail
                        go_quiet (fail)
                        generalize hwq : World.drewN wr nq = wq
                        have HGQ : Bx (Gr wo wq _ q) := ⟨by rw [← hwq]; exact HGr.out.keep ((Ch.refl _ _).drewN nq)⟩
                        have hcx2 : wq.cell? ⟨bp, op + i, none⟩ = some (.int .i64 (x : Int)) := by rw [← hwq]; exact hcx
                        clear hwq
                        go_wp2_with (at_builtin; refine wp_app rfl (.tmp 96) (.tmp 101) elemI rfl rfl (HGQ.out.own.alloc _) rfl (Vs.one _ _ _) ?c1 ?c2 ?c3 ?_)
                        case c1 => intro u hu; simp at hu; subst hu; rfl
                        case c2 => omega
                        case c3 => omega
                        intro v5 w5 ho1 hg1 hb1
                        have HG5 := Bx.mk (HGQ.out.one ho1 hg1 hb1)
                        clear ho1 hg1 hb1
                        go_wp2
                        go_roundw
                        case rel => exact ⟨i + 1, k', _, by go_num, rfl, HMN.out, HG5.out⟩
                        case measure => simp [intOf]; omega
                      · have HMN := Bx.mk (HMr.out.takeRight HWd.out HDA.out HMA.out (by omega) hk1 hy (.inr fun x' hx' => by rw [hx] at hx'; obtain rfl := Option.some.inj hx'; omega))
                        have c1 : decide (gs l x ≤ gs l y) = false := by simp; omega
                        generalize gs l x = vx at *
                        generalize gs l y = vy at *
                        clear hx hy cellp cells
                        go_wp2_with fail
                        go_quiet (fail)
                        generalize hwq : World.drewN wr nq = wq
                        have HGQ : Bx (Gr wo wq _ q) := ⟨by rw [← hwq]; exact HGr.out.keep ((Ch.refl _ _).drewN nq)⟩
                        have hcy2 : wq.cell? ⟨bp, op + k', none⟩ = some (.int .i64 (y : Int)) := by rw [← hwq]; exact hcy
                        clear hwq
                        go_wp2_with (at_builtin; refine wp_app rfl (.tmp 105) (.tmp 110) elemI rfl rfl (HGQ.out.own.alloc _) rfl (Vs.one _ _ _) ?c1 ?c2 ?c3 ?_)
                        case c1 => intro u hu; simp at hu; subst hu; rfl
                        case c2 => omega
                        case c3 => omega
                        intro v5 w5 ho1 hg1 hb1
                        have HG5 := Bx.mk (HGQ.out.one ho1 hg1 hb1)
                        clear ho1 hg1 hb1
                        go_wp2
                        go_roundw
                        case rel => exact ⟨i, k' + 1, _, rfl, by go_num, HMN.out, HG5.out⟩
                        case measure => simp [intOf]; omega
                    · have HMN := Bx.mk (HMr.out.takeRight HWd.out HDA.out HMA.out (by omega) hk1 hy (.inl hi1))
                      have r1 : decide ((i : Int) < (m : Int)) = false := by simp; omega
                      have r2 : decide (i < m) = false := by simp; omega
                      clear hy cellp cells
                      go_wp2_with fail
                      go_quiet (fail)
                      generalize hwq : World.drewN wr nq = wq
                      have HGQ : Bx (Gr wo wq _ q) := ⟨by rw [← hwq]; exact HGr.out.keep ((Ch.refl _ _).drewN nq)⟩
                      have hcy2 : wq.cell? ⟨bp, op + k', none⟩ = some (.int .i64 (y : Int)) := by rw [← hwq]; exact hcy
                      clear hwq
                      go_wp2_with (at_builtin; refine wp_app rfl (.tmp 105) (.tmp 110) elemI rfl rfl (HGQ.out.own.alloc _) rfl (Vs.one _ _ _) ?c1 ?c2 ?c3 ?_)
                      case c1 => intro u hu; simp at hu; subst hu; rfl
                      case c2 => omega
                      case c3 => omega
                      intro v5 w5 ho1 hg1 hb1
                      have HG5 := Bx.mk (HGQ.out.one ho1 hg1 hb1)
                      clear ho1 hg1 hb1
                      go_wp2
                      go_roundw
                      case rel => exact ⟨i, k' + 1, _, rfl, by go_num, HMN.out, HG5.out⟩
                      case measure => simp [intOf]; omega
                  · have s1 : decide ((z : Int) ≤ (k' : Int)) = true := by simp; omega
                    have s3 : decide ((k' : Int) < (z : Int)) = false := by simp; omega
                    have s4 : decide (k' < z) = false := by simp; omega
                    rcases Nat.lt_or_ge i m with hi1 | hi1
                    · obtain ⟨bp, op, x, rfl, hx, hxn, hcx⟩ := cellp i (by omega)
                      have HMN := Bx.mk (HMr.out.takeLeft HWd.out HDA.out (by omega) (by omega) (by omega) hi1 hx (.inl hk1))
                      have r1 : decide ((i : Int) < (m : Int)) = true := by simp; omega
                      have i1 : (0 : Int) ≤ (i : Int) := by omega
                      have i2 : (i : Int) < (n : Int) := by omega
                      clear hx cellp cells
                      go_wp2_with fail
                      go_quiet (fail)
                      generalize hwq : World.drewN wr nq = wq
                      have HGQ : Bx (Gr wo wq _ q) := ⟨by rw [← hwq]; exact HGr.out.keep ((Ch.refl _ _).drewN nq)⟩
                      have hcx2 : wq.cell? ⟨bp, op + i, none⟩ = some (.int .i64 (x : Int)) := by rw [← hwq]; exact hcx
                      clear hwq
                      go_wp2_with (at_builtin; refine wp_app rfl (.tmp 96) (.tmp 101) elemI rfl rfl (HGQ.out.own.alloc _) rfl (Vs.one _ _ _) ?c1 ?c2 ?c3 ?_)
                      case c1 => intro u hu; simp at hu; subst hu; rfl
                      case c2 => omega
                      case c3 => omega
                      intro v5 w5 ho1 hg1 hb1
                      have HG5 := Bx.mk (HGQ.out.one ho1 hg1 hb1)
                      clear ho1 hg1 hb1
                      go_wp2
                      go_roundw
                      case rel => exact ⟨i + 1, k', _, by go_num, rfl, HMN.out, HG5.out⟩
                      case measure => simp [intOf]; omega
                    · have r1 : decide ((i : Int) < (m : Int)) = false := by simp; omega
                      have r2 : decide (i < m) = false := by simp; omega
                      have HWq := Bx.mk HMr.out.wd
                      have hqe : q.length = min (a + 2 * W) n := by have := HZ.out; omega
                      have HQE := Bx.mk hqe
                      have hda := Nat.dvd_add HDA.out (Nat.dvd_refl (2 * W))
                      have HDN := Bx.mk hda
                      clear hqe hda cellp cells
                      go_wp2_with fail
                      go_roundw
                      case rel => exact ⟨a + 2 * W, q, by go_num, HDN.out, by omega, HGr.out, HWq.out, HQE.out⟩
                      case measure => simp [intOf]; omega
            · have da : decide ((a : Int) < (n : Int)) = false := by simp; omega
              obtain ⟨A2, c2, rfl, hS2, _, _⟩ := hG.shape
              have hqn : q.length = n := by omega
              rw [hqn] at hS2 ⊢
              have HS2 : Bx (Sl wr (fun b => w.heap.size ≤ b) .i64 A2 n (asI q)) := ⟨hS2.mono (fun b _ hb => Nat.le_trans HC.out.size hb)⟩
              have HWq := Bx.mk hWq
              have HCC := Bx.mk (HC.out.trans hG.ch (fun _ _ h => h))
              clear hG hS2 hWq hql hqn
              go_wp2
              go_roundw
              case rel => exact ⟨2 * W, A2, c2, q, by go_num, by omega, by omega, rfl, HS2.out, HWq.out, HCC.out⟩
              case measure => simp [intOf]; omega
        · have dW : decide ((W : Int) < (n : Int)) = false := by simp; omega
          have HT := Bx.mk (hWd.srt (by rw [HL.out, hpl]) (by rw [HL.out]; omega))
          have HSp := Bx.mk hSp
          have HCC := Bx.mk hC
          clear hSp hWd hC
          go_wp2
          go_ret
          exact ⟨A', c', p, rfl, HSp.out, HT.out, HCC.out⟩
end
end Go.Proofs.Ytgboobjmafdieaa
