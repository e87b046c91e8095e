/-
  The contract of the document's answer haystackref7.At: at which places of a text a pattern stands.
  Conditions: both read as bytes.
-/
import Derived.Test.YtpilekadcondnaaFmGrow
import Derived.Test.YtpilekadcondnaaFmTxt
import Derived.Laws.BytesArg
namespace Go.Proofs.Ytpilekadcondnaa
open Go.RowKit Go.Oct Go.Su

theorem str_inj {xs ys : List Int} (hx : ∀ x ∈ xs, 0 ≤ x ∧ x < 256) (hy : ∀ x ∈ ys, 0 ≤ x ∧ x < 256) (h : strOfNums xs = strOfNums ys) : xs = ys := by
  have h1 : (strOfNums xs).data.toList = (strOfNums ys).data.toList := by rw [h]
  rw [strOfNums_data, strOfNums_data] at h1
  have hl : xs.length = ys.length := by
    have := congrArg List.length h1
    simpa using this
  refine List.ext_getElem hl fun i h2 h3 => ?_
  have h4 : (xs.map fun n => UInt8.ofNat n.toNat)[i]'(by simpa using h2) = (ys.map fun n => UInt8.ofNat n.toNat)[i]'(by simpa using h3) := by simp only [h1]
  rw [List.getElem_map, List.getElem_map] at h4
  have g1 := hx _ (List.getElem_mem h2)
  have g2 := hy _ (List.getElem_mem h3)
  have h5 := congrArg UInt8.toNat h4
  rw [UInt8.toNat_ofNat', UInt8.toNat_ofNat'] at h5
  omega
theorem str_ne {S1 S2 : ByteArray} (h : S1 ≠ S2) : (S1.toList == S2.toList) = false := by
  refine beq_false_of_ne fun e => h ?_
  rw [ByteArray.toList_eq, ByteArray.toList_eq] at e
  have e2 : S1.data = S2.data := Array.toList_inj.1 e
  cases S1
  cases S2
  simp at e2
  rw [e2]
/-- The places found so far. -/
def atTo (t p : List Int) (i : Nat) : List Nat := (List.range i).filter fun a => decide ((t.drop a).take p.length = p)
def valN (l : List Nat) : List Value := l.map fun a : Nat => Value.int .i64 (a : Int)
theorem atTo_yes {t p : List Int} {i : Nat} (h : (t.drop i).take p.length = p) : atTo t p (i + 1) = atTo t p i ++ [i] := by
  unfold atTo
  rw [List.range_succ, List.filter_append]
  simp [h]
theorem atTo_no {t p : List Int} {i : Nat} (h : ¬ (t.drop i).take p.length = p) : atTo t p (i + 1) = atTo t p i := by
  unfold atTo
  rw [List.range_succ, List.filter_append]
  simp [h]
theorem atTo_all {t p : List Int} (h : p ≠ []) : atTo t p (t.length + 1 - p.length) = ats t p := by
  unfold atTo ats
  rw [if_neg h]
theorem atTo_le (t p : List Int) (i : Nat) : (atTo t p i).length ≤ i := by
  unfold atTo
  have := List.length_filter_le (fun a => decide ((t.drop a).take p.length = p)) (List.range i)
  rwa [List.length_range] at this
/-- A new row of numbers of the call's own. -/
def NewNats (l : List Nat) (w : World) (e : Ending) (w' : World) : Prop := ∃ v, e = .returned v ∧ Gs 3 1 w w' v l.length (valN l)
theorem sl_cells {w : World} {F : Nat → Prop} {K : IntKind} {b off n : Nat} {xs : List Int} (h : Sl w F K (some ⟨b, off, none⟩) n xs) {i : Nat} (hi : i < n) : w.cell? ⟨b, off + i, none⟩ = some (.int K (xs.getD i 0)) := by
  obtain ⟨b', o', x, hA, _, hx, hc⟩ := h.at_ hi
  injection hA with hA
  injection hA with e1 e2
  subst e1 e2
  rw [hc, List.getD_eq_getElem?_getD, hx.out]
  rfl
section
variable {F G : Nat → Prop}
theorem conv_any {b off m c : Nat} {xs : List Int} {w : World} (h : Sl w F .u8 (some ⟨b, off, none⟩) m xs) (k : Nat) : (convert 30 9 (.slice (some ⟨b, off, none⟩) m c)).run Try.prog (w.drewN k) = .ok (.string (strOfNums xs)) (w.drewN k) :=
  run_convert_bytes_arg (w.drewN k) 30 5 Try.underlying30 Try.underlying5 b off m c xs h.len (fun _ hi => sl_cells (h.drewN k) hi) 9 Try.underlying9
set_option maxHeartbeats 1000000 in
theorem refat_any (t p : List Int) (A B : Option Addr) (n c m d : Nat) (w : World) (ht : Sl w F .u8 A n t) (hp : Sl w G .u8 B m p) (hbt : ∀ x ∈ t, 0 ≤ x ∧ x < 256) (hbp : ∀ x ∈ p, 0 ≤ x ∧ x < 256) (hn : n ≤ 1048576) (hm : m ≤ 1048576) (hc : n ≤ c) (hcm : c ≤ maxLen) :
    Calls Try.prog 35 #[.slice A n c, .slice B m d] w (NewNats (ats t p) w) := by
  have hln := ht.len
  have hlm := hp.len
  have HL := Bx.mk hln
  have HLM := Bx.mk hlm
  have HT := Bx.mk ht
  have HP := Bx.mk hp
  have HBT := Bx.mk hbt
  have HBP := Bx.mk hbp
  have hc63 : c ≤ 9223372036854775807 := by unfold maxLen at hcm; omega
  clear ht hp hbt hbp hln hlm hcm
  by_cases h0 : m = 0
  · have d0 : decide ((0 : Int) < (m : Int)) = false := by simp; omega
    have d1 : decide (0 < m) = false := by simp; omega
    have HE : Bx (ats t p = []) := ⟨by
      unfold ats
      rw [if_pos (List.eq_nil_of_length_eq_zero (by rw [HLM.out]; exact h0))]⟩
    clear h0
    go_enter Try.func35, Try.ntmps35
    go_wp2_with fail
    go_loopw [5, 6] (fun v i wr => v = .slice none 0 0 ∧ i = .int .i64 0 ∧ wr = w) (fun _ _ _ => 0)
    case atStart => exact ⟨rfl, rfl, rfl⟩
    case round =>
      obtain ⟨rfl, rfl, rfl⟩ := hrel
      go_wp2
      go_ret
      exact ⟨_, rfl, by rw [HE.out]; exact Gs.nil _ _ _⟩
  · have d0 : decide ((0 : Int) < (m : Int)) = true := by simp; omega
    have d1 : decide (0 < m) = true := by simp; omega
    obtain ⟨bp, op, xp, rfl, _, _, _⟩ := HP.out.at_ (show 0 < m by omega)
    have HM0 : Bx (0 < m) := ⟨by omega⟩
    clear h0
    go_enter Try.func35, Try.ntmps35
    go_wp2_with fail
    go_loopw [5, 6] (fun v i wr => ∃ k : Nat, k ≤ n + 1 - m ∧ i = .int .i64 k ∧ Gs 3 1 w wr v (atTo t p k).length (valN (atTo t p k))) (fun _ i _ => n + 1 - (intOf i).toNat)
    case atStart => exact ⟨0, Nat.zero_le _, rfl, Gs.nil _ _ _⟩
    case round =>
      obtain ⟨k, hk, rfl, hG⟩ := hrel
      have hle := atTo_le t p k
      obtain ⟨q, hq⟩ : ∃ q, (atTo t p k).length = q := ⟨_, rfl⟩
      rw [hq] at hle hG
      obtain ⟨A1, c1, rfl, _, _⟩ := hG.shape
      have HG := Bx.mk hG
      have HQ := Bx.mk hq
      clear hG hq
      by_cases hlt : k + m ≤ n
      · have dk : decide ((k : Int) + (m : Int) ≤ (n : Int)) = true := by simp; omega
        have hk1 : k < n := by have := HM0.out; omega
        obtain ⟨bt, ot, xt, rfl, _, _, _⟩ := HT.out.at_ hk1
        have hsub := ((HT.out.ch HG.out.ch (fun _ _ _ h => h)).drop (k := k) (by omega)).take (k := m) (by omega)
        have hcv1 := fun q => conv_any (c := c - k) hsub q
        have hcv2 := fun q => conv_any (c := d) (HP.out.ch HG.out.ch (fun _ _ _ h => h)) q
        obtain ⟨S1, hS1⟩ : ∃ S, strOfNums ((t.drop k).take m) = S := ⟨_, rfl⟩
        obtain ⟨S2, hS2⟩ : ∃ S, strOfNums p = S := ⟨_, rfl⟩
        rw [hS1] at hcv1
        rw [hS2] at hcv2
        have HEQ : Bx (S1 = S2 ↔ (t.drop k).take p.length = p) := ⟨by
          rw [← hS1, ← hS2, HLM.out]
          exact ⟨fun h => str_inj (fun x hx => HBT.out x (List.mem_of_mem_drop (List.mem_of_mem_take hx))) HBP.out h, fun h => by rw [h]⟩⟩
        have e1 : (k : Int) + (m : Int) - (k : Int) = (m : Int) := by omega
        have i1 : (k : Int) ≤ (k : Int) + (m : Int) := by omega
        have i2 : (k : Int) + (m : Int) ≤ (c : Int) := by omega
        have t1 : ((k : Int) + (m : Int)).toNat = k + m := by omega
        have t2 : k + m - k = m := by omega
        clear hsub hS1 hS2
        by_cases he : S1 = S2
        · have HNX := Bx.mk (atTo_yes (HEQ.out.1 he))
          subst he
          go_wp2_with fail
          go_quiet (fail)
          have HGQ := Bx.mk (HG.out.keep ((Ch.refl (fun _ => False) wr).drewN nq))
          clear hcv1 hcv2
          generalize wr.drewN nq = wq at *
          go_wp2_with (at_builtin; refine wp_app rfl (.tmp 32) (.tmp 34) elemI rfl rfl (HGQ.out.own.alloc _) rfl (Vs.one _ _ _) ?c1 ?c2 ?c3 ?_)
          case c1 => intro u hu; simp at hu; subst hu; rfl
          case c2 => omega
          case c3 => omega
          intro v5 w5 ho1 hg1 hb1
          have HG5 := Bx.mk (HGQ.out.app ((Ch.refl (fun _ => False) wq).alloc _) ho1 hg1 (by rw [World.size_alloc]; exact hb1))
          clear ho1 hg1 hb1
          go_wp2
          go_roundw
          case rel =>
            refine ⟨k + 1, by omega, by go_num, ?_⟩
            have := HG5.out
            rw [HNX.out, List.length_append, HQ.out]
            unfold valN at *
            rw [List.map_append]
            exact this
          case measure => simp [intOf]; omega
        · have HNX := Bx.mk (atTo_no (i := k) (fun h => he (HEQ.out.2 h)))
          have b1 : (S1.toList == S2.toList) = false := str_ne he
          go_wp2_with fail
          go_quiet (fail)
          have HGQ := Bx.mk (HG.out.keep ((Ch.refl (fun _ => False) wr).drewN nq))
          clear hcv1 hcv2
          generalize wr.drewN nq = wq at *
          go_wp2
          go_roundw
          case rel => exact ⟨k + 1, by omega, by go_num, by rw [HNX.out, HQ.out]; exact HGQ.out⟩
          case measure => simp [intOf]; omega
      · have dk : decide ((k : Int) + (m : Int) ≤ (n : Int)) = false := by simp; omega
        have HA : Bx (atTo t p k = ats t p) := ⟨by
          rw [← atTo_all (List.ne_nil_of_length_pos (by rw [HLM.out]; exact HM0.out)), HL.out, HLM.out, show k = n + 1 - m by omega]⟩
        go_wp2
        go_ret
        exact ⟨_, rfl, by rw [← HA.out, HQ.out]; exact HG.out⟩
end
end Go.Proofs.Ytpilekadcondnaa
