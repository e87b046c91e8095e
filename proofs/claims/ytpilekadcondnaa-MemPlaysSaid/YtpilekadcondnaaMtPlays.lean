/-
  The law MemPlays walked.
  Conditions: both scripts read as they say; bytealg.MaxLen's cell holds some number.
-/
import Derived.Test.YtpilekadcondnaaMtSt
import Derived.Test.YtpilekadcondnaaFrNone
import Derived.Deep.RegionLaw
import Derived.Deep.DeepCutAuto
import Derived.Deep.CutBlock
import Derived.StillTailTactics
namespace Go.Proofs.Ytpilekadcondnaa
open Go.RowKit Go.Oct Go.Su Go.Sg Go.Mt Go.Maps

/-- A new table of the document's. -/
theorem TabD.new (w : World) : TabD (w.alloc (.cells #[.slice none 0 0, .slice none 0 0] 29)) (fun _ => False) w.heap.size [] [] := by
  have c0 : (w.alloc (.cells #[.slice none 0 0, .slice none 0 0] 29)).cell? ⟨w.heap.size, 0, none⟩ = some (.slice none 0 0) := ncells_at (j := 0) rfl
  have c1 : (w.alloc (.cells #[.slice none 0 0, .slice none 0 0] 29)).cell? ⟨w.heap.size, 1, none⟩ = some (.slice none 0 0) := ncells_at (j := 1) rfl
  refine ⟨⟨none, 0, none, 0, c0, c1, Dcs.nil _ _ _, Kss.nil _ _ _, Nat.le_refl _, Nat.zero_le _, Nat.le_refl _, Nat.zero_le _⟩, fun j => ?_, fun h => h, TabOk.nil, ⟨Nat.zero_le _, Nat.zero_le _⟩, fun j A n c hj hc => ?_⟩
  · unfold World.frozen?
    rw [heap_alloc_new]
    simp
  · match j, hj with
    | 0, _ => rw [c0] at hc; injection hc with hc; injection hc with e1 e2 e3; exact .inl ⟨e1.symm, e3.symm⟩
    | 1, _ => rw [c1] at hc; injection hc with hc; injection hc with e1 e2 e3; exact .inl ⟨e1.symm, e3.symm⟩
/-- The documents of a script's beginning. -/
def scr (l : List Sp) : List Dc := (l.take 120).map fun s => (s.2.1, s.2.2)
theorem scr_len (l : List Sp) : (scr l).length ≤ 120 := by unfold scr; rw [List.length_map, List.length_take]; omega
theorem scr_at {l : List Sp} {k : Nat} {x : Sp} (h : l[k]? = some x) (hk : k < 120) : (scr l)[k]? = some (x.2.1, x.2.2) := by
  unfold scr
  rw [List.getElem?_map, List.getElem?_take, if_pos hk, h]
  rfl
theorem scr_all {l : List Sp} {n k : Nat} (hl : l.length = n) (hk : k ≤ n) (hx : ¬ (k < n ∧ k < 120)) : (scr l).take k = scr l := by
  refine List.take_of_length_le ?_
  unfold scr
  rw [List.length_map, List.length_take]
  omega
set_option maxHeartbeats 16000000 in
set_option maxRecDepth 100000 in
theorem plays_law (first l : List Sp) (A0 A1 : Option Addr) (n0 c0 n1 c1 : Nat) (W : World) (hz0 : Stps W (fun _ => True) A0 n0 first) (hz1 : Stps W (fun _ => True) A1 n1 l) (hok0 : ∀ s ∈ first, SpOk s) (hok1 : ∀ s ∈ l, SpOk s) (hn0 : n0 ≤ 9223372036854775807) (hn1 : n1 ≤ 9223372036854775807) (hmx : ∃ m, W.cell? ⟨0, 0, none⟩ = some (.int .i64 m)) :
    Calls Try.prog 3 #[.slice A0 n0 c0, .slice A1 n1 c1] W fun e w' => e = .returned (.bool true) ∧ Ch (fun _ => False) W w' := by
  have HL0 := Bx.mk hz0.len
  have HL1 := Bx.mk hz1.len
  have HZ0 := Bx.mk hz0
  have HZ1 := Bx.mk hz1
  have HOK0 := Bx.mk hok0
  have HOK1 := Bx.mk hok1
  have HG : Bx (0 < W.heap.size) := ⟨by obtain ⟨m, hm⟩ := hmx; exact lt_of_cell hm⟩
  have HMW : Bx (∀ w, Ch (fun _ => False) W w → ∃ m, w.cell? ⟨0, 0, none⟩ = some (.int .i64 m)) := ⟨fun w hc => by
    obtain ⟨m, hm⟩ := hmx
    exact ⟨m, hc.cell (p := ⟨0, 0, none⟩) (fun h => h) hm⟩⟩
  have HKN : Bx (∀ w, Ch (fun _ => False) W w → Calls Try.prog 7 #[] w fun e w' => e = .returned (.bool true) ∧ Ch (fun _ => False) W w') := ⟨fun w hc => (mknown_any w (HMW.out w hc)).mono fun e w' ⟨h1, h2⟩ => ⟨h1, hc.trans h2 (fun _ _ h => h)⟩⟩
  have HH0 := Bx.mk (mheavy_any first A0 n0 c0 W hz0 hok0 hn0)
  have HH1 : Bx (∀ w, Ch (fun _ => False) W w → Calls Try.prog 6 #[.slice A1 n1 c1] w (HeavyOf l w)) := ⟨fun w hc => mheavy_any l A1 n1 c1 w (hz1.keep hc) hok1 hn1⟩
  clear hz0 hz1 hok0 hok1 hmx
  go_enter Try.func3, Try.ntmps3
  go_wp2_with fail
  refine HH0.out.mono ?_
  rintro e w1 ⟨o, rfl, hc1, hw1⟩
  have HC1 := Bx.mk hc1
  have HW0 := Bx.mk hw1
  clear hc1 hw1 HH0
  cases o with
  | true =>
    have HK := Bx.mk (HKN.out w1 HC1.out)
    clear HH1 HW0
    go_wp2_with fail
    refine HK.out.mono ?_
    rintro e w2 ⟨rfl, hc⟩
    have HC := Bx.mk hc
    clear hc
    go_wp2
    go_ret
    exact ⟨rfl, HC.out⟩
  | false =>
    have HHV := Bx.mk (HH1.out w1 HC1.out)
    clear HH1
    go_wp2_with fail
    refine HHV.out.mono ?_
    rintro e w2 ⟨o, rfl, hc2, hw2⟩
    have HC2 := Bx.mk (HC1.out.trans hc2 (fun _ _ h => h))
    have HW1 := Bx.mk hw2
    clear hc2 hw2 HHV
    cases o with
    | true =>
      have HK := Bx.mk (HKN.out w2 HC2.out)
      clear HW0 HW1
      go_wp2_with fail
      refine HK.out.mono ?_
      rintro e w3 ⟨rfl, hc⟩
      have HC := Bx.mk hc
      clear hc
      go_wp2
      go_ret
      exact ⟨rfl, HC.out⟩
    | false =>
      have HF0 : Bx (∀ d ∈ scr first, d.1.length ≤ 6000 ∧ d.2.length ≤ 6000) := ⟨fun d hd => by
        unfold scr at hd
        obtain ⟨x, hx, rfl⟩ := List.mem_map.1 hd
        have h1 := wSp_mem hx
        have h2 := HW0.out (by first | rfl | trivial)
        exact ⟨by show x.2.1.length ≤ 6000; omega, by show x.2.2.length ≤ 6000; omega⟩⟩
      have HF1 : Bx (∀ x ∈ l.take 120, x.2.1.length ≤ 6000 ∧ x.2.2.length ≤ 6000) := ⟨fun x hx => by
        have h1 := wSp_mem hx
        have h2 := HW1.out (by first | rfl | trivial)
        omega⟩
      clear HW0 HW1
      obtain ⟨b, hb⟩ : ∃ b, w2.heap.size = b := ⟨_, rfl⟩
      obtain ⟨w3, hw3⟩ : ∃ w3, w2.alloc (.cells #[.slice none 0 0, .slice none 0 0] 29) = w3 := ⟨_, rfl⟩
      have HST : Bx (St1 W w3 (fun _ => False) b ([], []) (.slice none 0 0) 0 [] []) := ⟨by
        have hal : Ch (fun _ => False) w2 w3 := by rw [← hw3]; exact (Ch.refl _ _).alloc _
        refine ⟨Cd.after (HC2.out.trans hal (fun _ _ h => h)) (Cd.start w3), by rw [← hw3, ← hb]; exact TabD.new w2, fun x hx => hx.elim, by rw [← hb]; exact HC2.out.size, fun g hg => ?_⟩
        rcases hg with hg | ⟨i, u, hu, _⟩
        · simp [Value.ownBlock] at hg
        · simp at hu⟩
      go_upto_block 0 with fail
      clear hw3 hb
      go_cut [6] (fun s6 wx => ∃ (k : Nat) (vs : List Value) (F : Nat → Prop), Bx (St1 W wx F b (tNews ([], []) (scr first)) s6 k (scr first) vs) ∧ Bx ((tNews ([], []) (scr first)).1.length + (tNews ([], []) (scr first)).2.length ≤ 120))
      case first =>
        go_wp2_with fail
        go_loopw [6, 7] (fun v i wr => ∃ (k : Nat) (vs : List Value) (F : Nat → Prop), k ≤ n0 ∧ k ≤ 120 ∧ i = .int .i64 k ∧ Bx (St1 W wr F b (tNews ([], []) ((scr first).take k)) v k ((scr first).take k) vs) ∧ Bx ((tNews ([], []) ((scr first).take k)).1.length + (tNews ([], []) ((scr first).take k)).2.length ≤ k)) (fun _ i _ => 120 - (intOf i).toNat)
        case atStart => exact ⟨0, [], _, Nat.zero_le _, Nat.zero_le _, rfl, HST, ⟨Nat.zero_le _⟩⟩
        case round =>
          obtain ⟨k, vs, F, hk, hk2, rfl, hS, hB⟩ := hrel
          obtain ⟨Ad, cd, rfl, hkc, hkm⟩ := own_shape' hS.out.cd.dg.own
          by_cases hgo : k < n0 ∧ k < 120
          · obtain ⟨hkn, hk3⟩ := hgo
            have dk : decide ((k : Int) < (n0 : Int)) = true := decide_eq_true (by omega)
            have dk2 : decide ((k : Int) < 120) = true := decide_eq_true (by omega)
            have i1 : (k : Int) < (n0 : Int) := by omega
            obtain ⟨bd, od, x, Bt, ct, rfl, _, ex, _, e1, e2, hsl, hl1, hl2⟩ := HZ0.out.get hkn
            have HD : Bx ((scr first)[k]? = some (x.2.1, x.2.2)) := ⟨scr_at ex.out hk3⟩
            have hso := HOK0.out x (List.mem_of_getElem? ex.out)
            have hfl := HF0.out (x.2.1, x.2.2) (List.mem_of_getElem? HD.out)
            have hC := hS.out.cd.dg.ch
            have hck := hC.cell (p := ⟨bd, od + k * 3 + 1, none⟩) (fun h => h) e1
            have hct := hC.cell (p := ⟨bd, od + k * 3 + 2, none⟩) (fun h => h) e2
            have hst := hsl.ch hC (fun _ _ _ h => h)
            obtain ⟨kd, key, xs⟩ := x
            simp only at HD hck hct hst hfl hl1
            have HBY := Bx.mk hso.byte
            simp only at HBY
            have HSL : Bx (∀ w, Ch (fun _ => False) W w → Sl w (fun x => x < W.heap.size) .u8 Bt xs.length xs) := ⟨fun w hc => (hsl.mono (G := fun x => x < W.heap.size) (fun _ h1 _ => h1)).ch hc (fun _ _ _ h => h)⟩
            obtain ⟨SK, hSK⟩ : ∃ S : ByteArray, kv key = .string S := ⟨_, rfl⟩
            have HSK := Bx.mk hSK
            rw [hSK] at hck
            obtain ⟨tl, htl⟩ : ∃ tl, xs.length = tl := ⟨_, rfl⟩
            have HTL := Bx.mk htl
            have htb : tl ≤ 6000 := by rw [← htl]; exact hfl.2
            have HKL : Bx (key.length ≤ 6000) := ⟨hfl.1⟩
            rw [htl] at hct hst hl1 HSL
            have HST := Bx.mk (hst.alloc (.cells #[] 5))
            have HON := Bx.mk (own_none8 wr)
            have hct2 : ct ≤ 9223372036854775807 := by unfold maxLen at hl2; omega
            have HT5 : Bx (∀ v5 w5, w5.ownsRow 0 5 1 v5 (0 + tl) ([] ++ xs.map (Value.int .u8)) → (wr.alloc (.cells #[] 5)).drew.grownBy w5 (some wr.heap.size) → (v5.ownBlock = some wr.heap.size ∨ v5.ownBlock = some (wr.alloc (.cells #[] 5)).drew.heap.size) → Fresh wr v5 xs w5) := ⟨fun v5 w5 ho5 hg5 hb5 => ((fresh_none8 wr).past ((Ch.refl (fun _ => False) (wr.alloc (.cells #[] 5))).drew)).app8 (by rw [HTL.out]; rw [Nat.zero_add, List.nil_append] at ho5; exact ho5) hg5 (by exact hb5)⟩
            have hck1 := ((Ch.refl (fun _ => False) wr).alloc (.cells #[] 5)).cell (p := ⟨bd, od + k * 3 + 1, none⟩) (fun h => h) hck
            have hct1 := ((Ch.refl (fun _ => False) wr).alloc (.cells #[] 5)).cell (p := ⟨bd, od + k * 3 + 2, none⟩) (fun h => h) hct
            rw [hSK] at e1
            simp only [htl] at e2
            have HE1 := Bx.mk e1
            have HE2 := Bx.mk e2
            clear hst hsl htl hSK e1 e2 hso hfl hC ex
            go_wp2_with fail
            go_cut [6, 7] (fun s6 s7 wx => ∃ vs2 : List Value, s7 = .int .i64 k ∧ Bx (St1 W wx F b (tNews ([], []) ((scr first).take k)) s6 (k + 1) ((scr first).take (k + 1)) vs2))
            case first =>
              go_region_law ((first
                | (refine step_app1 rfl (.tmp 45) (.tmp 50) Tb rfl rfl HON.out rfl HST.out (ints_cells _ _) (by omega) (by omega) ?_; intro v5 w5 ho5 hg5 hb5; have HF5 := Bx.mk (HT5.out v5 w5 ho5 hg5 hb5); obtain ⟨A5, c5, rfl, h51, h52⟩ := fr_shape HF5.out HTL.out; have HD5 := Bx.mk (HF5.out.2.2.own hS.out.cd.dg.own (fun _ _ h => h)); have hck5 := HF5.out.2.2.cell (p := ⟨bd, od + k * 3 + 1, none⟩) (fun h => h) hck; have hct5 := HF5.out.2.2.cell (p := ⟨bd, od + k * 3 + 2, none⟩) (fun h => h) hct; clear ho5 hg5 hb5)
                | (refine step_appK rfl (.tmp 39) (.tmp 53) elemDt rfl rfl (HD5.out.alloc _) rfl (m := 1) rfl (doc_cellsT w5 SK A5 tl c5) (by intro u hu; simp at hu; rcases hu with hu | hu <;> (subst hu; rfl)) (by omega) (by omega) ?_; intro v7 w7 ho7 hg7 hb7; have HS7 : Bx (St1 W w7 F b (tNews ([], []) ((scr first).take k)) v7 (k + 1) ((scr first).take (k + 1)) (vs ++ [.slice A5 tl c5])) := ⟨by rw [Oct.take_more HD.out]; exact hS.out.add (d := (key, xs)) HF5.out (by rw [HSK.out]; exact ho7) hg7 hb7⟩; clear ho7 hg7 hb7)))
              all_goals
                go_wp2_with fail
                go_meet
                exact ⟨_, rfl, HS7⟩
            case rest =>
              obtain ⟨vs2, rfl, hS7⟩ := hcut
              clear hck hct hck1 hct1 HST HON HT5 hS
              obtain ⟨s, hs⟩ : ∃ s, tNews ([], []) ((scr first).take k) = s := ⟨_, rfl⟩
              have HNT : Bx (tNews ([], []) ((scr first).take (k + 1)) = (tPut s key xs).2) := ⟨by rw [Oct.take_more HD.out, tNews_snoc, hs]⟩
              rw [hs] at hS7 hB
              clear hs
              have hcw := hS7.out.cd.dg.ch
              have k1 := hcw.cell (p := ⟨bd, od + k * 3 + 1, none⟩) (fun h => h) HE1.out
              have k2 := hcw.cell (p := ⟨bd, od + k * 3 + 2, none⟩) (fun h => h) HE2.out
              have HPU : Bx (Calls Try.prog 8 #[.pointer (some ⟨b, 0, none⟩), .string SK, .slice Bt tl ct] wc.drew fun e w' => e = .returned (.int .i64 (tPut s key xs).1) ∧ TPost (tPut s key xs).2 b wc.drew F w') := ⟨by
                have hcd : Ch (fun _ => False) wc wc.drew := (Ch.refl _ _).drew
                have := put_any (c0 := ct) (hS7.out.td.keep hcd) key (by have := HKL.out; omega) (HSL.out _ (hcw.trans hcd (fun _ _ h => h))) HBY.out (fun x hx => by have := hS7.out.bl; omega) (by omega) (by have := hB.out; omega)
                rw [HSK.out] at this
                exact this⟩
              go_wp2_with fail
              refine wp_region_still_tail 11 (by kernel_rfl) (by kernel_rfl) ?_
              simp only [List.take_succ_cons, List.take_zero, List.drop_succ_cons, List.drop_zero]
              repeat still_step
              refine wpStill_nil ?_
              change wpList _ _ _ _ _ wc.drew
              go_wp2_with fail
              refine HPU.out.mono ?_
              rintro e w9 ⟨rfl, hP⟩
              have HS9 : Bx (∃ F9, St1 W w9 F9 b (tNews ([], []) ((scr first).take (k + 1))) u6 (k + 1) ((scr first).take (k + 1)) vs2) := ⟨by
                rw [HNT.out]
                exact (hS7.out.keep (Ch.refl _ _).drew).doc hP⟩
              have HB9 : Bx ((tNews ([], []) ((scr first).take (k + 1))).1.length + (tNews ([], []) ((scr first).take (k + 1))).2.length ≤ k + 1) := ⟨by
                rw [HNT.out]
                have h1 := tPut_few hS7.out.td.ok key xs
                have h2 := hB.out
                omega⟩
              clear hP HPU k1 k2 hcw hS7 hB
              obtain ⟨F9, hS9⟩ := HS9.out
              have HS10 := Bx.mk hS9
              clear hS9
              go_wp2
              go_roundw
              case rel => exact ⟨k + 1, vs2, F9, by omega, by omega, by go_num, HS10, HB9⟩
              case measure => simp [intOf]; omega
          · have hx : ¬ k < n0 ∨ (k < n0 ∧ ¬ k < 120) := by omega
            have HEND : Bx (St1 W wr F b (tNews ([], []) (scr first)) (.slice Ad k cd) k (scr first) vs ∧ (tNews ([], []) (scr first)).1.length + (tNews ([], []) (scr first)).2.length ≤ 120) := ⟨by
              have hall := scr_all HL0.out hk hgo
              have h1 := hS.out
              have h2 := hB.out
              rw [hall] at h1 h2
              exact ⟨h1, by omega⟩⟩
            clear hgo hS hB
            rcases hx with hx | ⟨hx, hx2⟩
            · have dk : decide ((k : Int) < (n0 : Int)) = false := decide_eq_false (by omega)
              go_wp2_with fail
              go_meet
              exact ⟨k, vs, F, ⟨HEND.out.1⟩, ⟨HEND.out.2⟩⟩
            · have dk : decide ((k : Int) < (n0 : Int)) = true := decide_eq_true (by omega)
              have dk2 : decide ((k : Int) < 120) = false := decide_eq_false (by omega)
              go_wp2_with fail
              go_meet
              exact ⟨k, vs, F, ⟨HEND.out.1⟩, ⟨HEND.out.2⟩⟩
      case rest =>
        obtain ⟨k, vs, F, hS, hB⟩ := hcut
        have hkl : k = (scr first).length := hS.out.cd.len
        have hk120 : k ≤ 120 := by have := scr_len first; omega
        have HBY0 : Bx (∀ d ∈ scr first, d.1.length ≤ 9223372036854775807 ∧ ∀ x ∈ d.2, 0 ≤ x ∧ x < 256) := ⟨fun d hd => by
          unfold scr at hd
          obtain ⟨x, hx, rfl⟩ := List.mem_map.1 hd
          have := HOK0.out x (List.mem_of_mem_take hx)
          exact ⟨by have := this.kl; show x.2.1.length ≤ _; omega, this.byte⟩⟩
        have HS := Bx.mk hS.out
        obtain ⟨Ad, cd, rfl, hkc, hkm⟩ := own_shape' hS.out.cd.dg.own
        have HNEW := Bx.mk (mnew_any (scr first) Ad k cd wc hS.out.cd.dcs (by omega) HBY0.out (HMW.out wc hS.out.cd.dg.ch))
        have hcd63 : cd ≤ 9223372036854775807 := by unfold maxLen at hkm; omega
        obtain ⟨s0, hs0⟩ : ∃ s0, tNews ([], []) (scr first) = s0 := ⟨_, rfl⟩
        rw [hs0] at hB HNEW HS
        clear hS hkl HBY0 hs0 hkm
        go_wp2_with fail
        refine HNEW.out.mono ?_
        rintro e w4 ⟨rfl, P, hT, hP, hC4⟩
        obtain ⟨t, ht⟩ : ∃ t, wc.heap.size = t := ⟨_, rfl⟩
        have HB4 : Bx (Bt W w4 P F (CdB (.slice Ad k cd) vs) t b s0 s0) := ⟨HS.out.both (by rw [← ht]; exact hT) hP hC4⟩
        have HC4 : Bx (Cd W w4 (.slice Ad k cd) k (scr first) vs) := ⟨HS.out.cd.keep hC4⟩
        have HS2 := Bx.mk (St2.start HB4.out HC4.out)
        rw [ht]
        clear hT hP hC4 HNEW HS ht HB4
        go_wp2_with fail
        go_loopw [9] (fun i wr => ∃ q : Nat, q ≤ k ∧ i = .int .i64 q ∧ Bx (St2 W w4 wr P F t b s0 s0 (.slice Ad k cd) k (scr first) vs q)) (fun i _ => k - (intOf i).toNat)
        case atStart => exact ⟨0, Nat.zero_le _, rfl, HS2⟩
        case round =>
          obtain ⟨q, hq, rfl, hQ⟩ := hrel
          by_cases hqk : q < k
          · have dq : decide ((q : Int) < (k : Int)) = true := decide_eq_true (by omega)
            have i4 : (q : Int) < (k : Int) := by omega
            have hqd : q < (scr first).length := by have := HC4.out.len; omega
            have hqv : q < vs.length := by rw [← HC4.out.kl]; exact hqd
            obtain ⟨u, hu⟩ : ∃ u, vs[q]? = some u := ⟨_, List.getElem?_eq_getElem hqv⟩
            obtain ⟨dd, hd⟩ : ∃ d, (scr first)[q]? = some d := ⟨_, List.getElem?_eq_getElem hqd⟩
            have hown := hQ.out.sp.rows q _ _ (Nat.le_refl _) hu hd
            obtain ⟨Au, cu, eu, hucle, hcu⟩ := own_shape' hown
            have hlen := (HF0.out _ (List.mem_of_getElem? hd)).2
            obtain ⟨g, rfl⟩ : ∃ g, Ad = some ⟨g, 0, none⟩ := by
              rcases own_form hQ.out.row with ⟨_, e2⟩ | ⟨g, c2, e1, _, _⟩
              · omega
              · injection e1 with e1
                exact ⟨g, e1⟩
            have hcell := hQ.out.row.cellAt (q * 2 + 1) (by omega)
            rw [(dcV_at (Go.Sg.ks (scr first)) vs q dd.1 _ (by unfold Go.Sg.ks; rw [List.getElem?_map, hd]; rfl) hu).2, eu] at hcell
            rw [eu] at hown hu
            have HSP := Bx.mk (spoil_any _ _ _ wr (by omega) hown)
            have HU := Bx.mk hu
            obtain ⟨lu, hlu⟩ : ∃ lu, dd.2.length = lu := ⟨_, rfl⟩
            rw [hlu] at hcell HSP HU
            have hcu63 : cu ≤ 9223372036854775807 := by unfold maxLen at hcu; omega
            clear hown hlen hlu hd hu hcu hqd hqv hucle eu
            go_wp2_with fail
            refine HSP.out.mono ?_
            rintro e w6 ⟨rfl, hc6⟩
            have HQ6 := Bx.mk (hQ.out.next HC4.out HG.out HU.out hc6)
            clear hc6 HSP hcell
            go_wp2
            go_roundw
            case rel => exact ⟨q + 1, by omega, by go_num, HQ6⟩
            case measure => simp [intOf]; omega
          · have dq : decide ((q : Int) < (k : Int)) = false := decide_eq_false (by omega)
            have HB5 : Bx (Bt W wr P F (fun _ => False) t b s0 s0) := ⟨hQ.out.bt.drop (fun x hx => hx.elim)⟩
            obtain ⟨w5, hw5⟩ : ∃ w5, wr = w5 := ⟨_, rfl⟩
            rw [hw5] at HB5 ⊢
            clear hQ HC4 HS2 hw5
            go_upto_block 4 with fail
            go_cut [] (fun wx => ∃ (P F : Nat → Prop) (s : List Dc × List Key), Bx (Bt W wx P F (fun _ => False) t b s s) ∧ Bx (s.1.length + s.2.length ≤ 240))
            case first =>
              go_wp2_with fail
              go_loopw [10] (fun i wr => ∃ (j : Nat) (P F : Nat → Prop) (s : List Dc × List Key), j ≤ n1 ∧ j ≤ 120 ∧ i = .int .i64 j ∧ Bx (Bt W wr P F (fun _ => False) t b s s) ∧ Bx (s.1.length + s.2.length ≤ 120 + j)) (fun i _ => 120 - (intOf i).toNat)
              case atStart => exact ⟨0, P, F, s0, Nat.zero_le _, Nat.zero_le _, rfl, HB5, hB⟩
              case round =>
                obtain ⟨j, P3, F3, s, hj, hj2, rfl, hB3, hN3⟩ := hrel
                by_cases hgo : j < n1 ∧ j < 120
                · obtain ⟨hjn, hj3⟩ := hgo
                  have dj : decide ((j : Int) < (n1 : Int)) = true := decide_eq_true (by omega)
                  have dj2 : decide ((j : Int) < 120) = true := decide_eq_true (by omega)
                  have i1 : (j : Int) < (n1 : Int) := by omega
                  obtain ⟨bl, ol, x, B, cB, rfl, _, ex, e0, e1, e2, hsl, hlc, hcm⟩ := HZ1.out.get hjn
                  have hso := HOK1.out x (List.mem_of_getElem? ex.out)
                  have hfl := HF1.out x (List.mem_of_getElem? (i := j) (by rw [List.getElem?_take, if_pos hj3]; exact ex.out))
                  obtain ⟨kd, key, xs⟩ := x
                  simp only at e0 e1 e2 hsl hlc hfl
                  have HBY : Bx (∀ x ∈ xs, 0 ≤ x ∧ x < 256) := ⟨hso.byte⟩
                  have HFL := Bx.mk hfl
                  have hwr := hB3.out.ch
                  have HSL : Bx (∀ w, Ch (fun _ => False) W w → Sl w (fun x => x < W.heap.size) .u8 B xs.length xs) := ⟨fun w hc => (hsl.mono (G := fun x => x < W.heap.size) (fun _ h1 _ => h1)).ch hc (fun _ _ _ h => h)⟩
                  have e0' := hwr.cell (p := ⟨bl, ol + j * 3, none⟩) (fun h => h) e0
                  have e1' := hwr.cell (p := ⟨bl, ol + j * 3 + 1, none⟩) (fun h => h) e1
                  have e2' := hwr.cell (p := ⟨bl, ol + j * 3 + 2, none⟩) (fun h => h) e2
                  obtain ⟨SK, hSK⟩ : ∃ SK : ByteArray, kv key = .string SK := ⟨_, rfl⟩
                  have HSK := Bx.mk hSK
                  obtain ⟨tl, htl⟩ : ∃ tl, xs.length = tl := ⟨_, rfl⟩
                  have HTL := Bx.mk htl
                  have htm : tl ≤ 6000 := by rw [← htl]; exact hfl.2
                  rw [htl] at e2' hlc HSL
                  rw [hSK] at e1'
                  obtain ⟨bx, hbx⟩ : ∃ bx, wr.heap.size = bx := ⟨_, rfl⟩
                  obtain ⟨w6, hw6⟩ : ∃ w6, wr.alloc (.cells #[.int .i64 kd, .string SK, .slice B tl cB] 32) = w6 := ⟨_, rfl⟩
                  have hc6 : Ch (fun _ => False) wr w6 := by rw [← hw6]; exact (Ch.refl _ _).alloc _
                  have hs6 : w6.heap.size = bx + 1 := by rw [← hw6, World.size_alloc, hbx]
                  have f0 : w6.cell? ⟨bx, 0, none⟩ = some (.int .i64 kd) := by rw [← hw6, ← hbx]; exact ncells_at (j := 0) rfl
                  have f1 : w6.cell? ⟨bx, 1, none⟩ = some (.string SK) := by rw [← hw6, ← hbx]; exact ncells_at (j := 1) rfl
                  have f2 : w6.cell? ⟨bx, 2, none⟩ = some (.slice B tl cB) := by rw [← hw6, ← hbx]; exact ncells_at (j := 2) rfl
                  have HC6 := Bx.mk hc6
                  have HS6 : Bx (w6.heap.size = bx + 1 ∧ wr.heap.size = bx) := ⟨hs6, hbx⟩
                  have HRO := Bx.mk (roomy_any xs B tl cB w6 _ (by omega) (HSL.out w6 (hwr.trans hc6 (fun _ _ h => h))))
                  have hcB63 : cB ≤ 9223372036854775807 := by unfold maxLen at hcm; omega
                  clear hwr e0 e1 e2 hsl hcm hso hfl ex htl hSK hc6 hs6
                  go_wp2_with fail
                  refine HRO.out.mono ?_
                  rintro e w7 ⟨g, kk, rfl, hgw, hk1, hk2, hown, hc7⟩
                  have HRD : Bx (Rd W w7 P3 F3 t b s s bx g tl kk cB SK B key xs) := ⟨by
                    have hcc := HC6.out.trans hc7 (fun _ _ h => h)
                    have hgl := own_lt hown g rfl
                    have h76 := hc7.size
                    refine ⟨hB3.out.more hcc (fun x hx => ?_), ⟨hc7.cell (fun h => h) f1, hc7.cell (fun h => h) f2, hown⟩, HG.out, HSK.out, HFL.out.1, HTL.out, htm, ⟨hk1, hk2⟩, HBY.out, HSL.out, ?_⟩
                    · have := HS6.out
                      rcases hx with rfl | rfl
                      · exact .inr ⟨by omega, by omega⟩
                      · exact .inr ⟨by omega, hgl⟩
                    · have := hN3.out
                      omega⟩
                  have g0 := hc7.cell (p := ⟨bx, 0, none⟩) (fun h => h) f0
                  have hkk63 : kk ≤ 9223372036854775807 := by unfold maxLen at hk2; omega
                  have HKK : Bx (tl + 1 ≤ kk) := ⟨hk1⟩
                  clear hgw hk2 hown hc7 HRO f0 f1 f2 hw6 hbx e0' e1' e2' hB3
                  go_upto_block 6 with fail
                  have hf : s.1.length + s.2.length < 1000 := by have := hN3.out; omega
                  have jk : (tl : Int) ≤ (kk : Int) := by have := HKK.out; omega
                  have jk0 : ¬ kk = 0 := by have := HKK.out; omega
                  have g1 := HRD.out.xt.f1
                  have g2 := HRD.out.xt.f2
                  go_cut [10, 11, 12, 13] (fun s10 s11 s12 s13 wx => s10 = .int .i64 j ∧ s11 = .pointer (some ⟨bx, 0, none⟩) ∧ s12 = .slice (some ⟨g, 0, none⟩) (tl + 1) kk ∧ s13 = .bool true ∧ ∃ (P F : Nat → Prop) (s : List Dc × List Key), Bx (Rd W wx P F t b s s bx g tl kk cB SK B key xs) ∧ Bx (s.1.length + s.2.length ≤ 120 + (j + 1)))
                  case first =>
                    by_cases k1 : kd = 1
                    · have t1 : (kd == 1) = true := by rw [k1]; rfl
                      clear k1
                      obtain ⟨rr, hrr⟩ : ∃ rr, (tPut s key xs).1 = rr := ⟨_, rfl⟩
                      have HFW : Bx ((tPut s key xs).2.1.length + (tPut s key xs).2.2.length ≤ 120 + (j + 1)) := ⟨by
                        have := tPut_few HRD.out.bt.tp.ok key xs
                        have := hN3.out
                        omega⟩
                      obtain ⟨s2, hs2⟩ : ∃ s2, (tPut s key xs).2 = s2 := ⟨_, rfl⟩
                      rw [hs2] at HFW
                      have HP1 : Bx (∀ w, Ch (fun _ => False) w7 w → Calls Try.prog 12 #[.pointer (some ⟨t, 0, none⟩), .string SK, .slice (some ⟨g, 0, none⟩) tl kk] w fun e w' => e = .returned (.int .i64 rr) ∧ ∃ P', Rd W w' P' F3 t b s2 s bx g tl kk cB SK B key xs) := ⟨fun w hc => by
                        have := (HRD.out.keep hc).put hf
                        rw [hrr, hs2] at this
                        exact this⟩
                      have HP2 : Bx (∀ w P', Rd W w P' F3 t b s2 s bx g tl kk cB SK B key xs → Calls Try.prog 8 #[.pointer (some ⟨b, 0, none⟩), .string SK, .slice B tl cB] w fun e w' => e = .returned (.int .i64 rr) ∧ ∃ F', Rd W w' P' F' t b s2 s2 bx g tl kk cB SK B key xs) := ⟨fun w P' h => by
                        have := h.rput hf
                        rw [hrr, hs2] at this
                        exact this⟩
                      have hb : (rr == rr) = true := by simp
                      clear hrr hs2
                      go_wp2_with fail
                      go_region_held3 (fun w' => w'.cell? ⟨bx, 1, none⟩ = some (.string SK) ∧ w'.cell? ⟨bx, 2, none⟩ = some (.slice B tl cB)) (first | go_keep | exact z2 | exact z1 | exact ⟨g1, g2⟩) (first
                        | (go_at_call 12; (with_reducible (refine (HP1.out _ ((Ch.refl (fun _ => False) w7).drew)).mono ?_)); rintro e w8 ⟨rfl, P8, hR8⟩; have z1 : w8.cell? ⟨bx, 1, none⟩ = some (.string SK) ∧ w8.cell? ⟨bx, 2, none⟩ = some (.slice B tl cB) := ⟨hR8.xt.f1, hR8.xt.f2⟩)
                        | (go_at_call 8; (with_reducible (refine (HP2.out _ _ hR8).mono ?_)); rintro e w9 ⟨rfl, F9, hR9⟩; have z2 : w9.cell? ⟨bx, 1, none⟩ = some (.string SK) ∧ w9.cell? ⟨bx, 2, none⟩ = some (.slice B tl cB) := ⟨hR9.xt.f1, hR9.xt.f2⟩))
                      all_goals (
                        go_wp2_with fail
                        go_meet
                        exact ⟨rfl, rfl, rfl, rfl, P8, F9, _, ⟨hR9⟩, HFW⟩)
                    · have t1 : (kd == 1) = false := by rw [beq_eq_false_iff_ne]; exact k1
                      by_cases k2 : kd = 2
                      · have t2 : (kd == 2) = true := by rw [k2]; rfl
                        obtain ⟨rr, hrr⟩ : ∃ rr, (tDel s key).1 = rr := ⟨_, rfl⟩
                        have HFW : Bx ((tDel s key).2.1.length + (tDel s key).2.2.length ≤ 120 + (j + 1)) := ⟨by
                          have := tDel_few HRD.out.bt.tp.ok key
                          have := hN3.out
                          omega⟩
                        obtain ⟨s2, hs2⟩ : ∃ s2, (tDel s key).2 = s2 := ⟨_, rfl⟩
                        rw [hs2] at HFW
                        have HP1 : Bx (∀ w, Ch (fun _ => False) w7 w → Calls Try.prog 13 #[.pointer (some ⟨t, 0, none⟩), .string SK] w fun e w' => e = .returned (.int .i64 rr) ∧ ∃ P', Rd W w' P' F3 t b s2 s bx g tl kk cB SK B key xs) := ⟨fun w hc => by
                          have := (HRD.out.keep hc).del hf
                          rw [hrr, hs2] at this
                          exact this⟩
                        have HP2 : Bx (∀ w P', Rd W w P' F3 t b s2 s bx g tl kk cB SK B key xs → Calls Try.prog 14 #[.pointer (some ⟨b, 0, none⟩), .string SK] w fun e w' => e = .returned (.int .i64 rr) ∧ ∃ F', Rd W w' P' F' t b s2 s2 bx g tl kk cB SK B key xs) := ⟨fun w P' h => by
                          have := h.rdel hf
                          rw [hrr, hs2] at this
                          exact this⟩
                        have hb : (rr == rr) = true := by simp
                        clear hrr hs2 k1 k2
                        go_wp2_with fail
                        go_region_held3 (fun w' => w'.cell? ⟨bx, 1, none⟩ = some (.string SK)) (first | go_keep | exact z2 | exact z1 | exact g1) (first
                          | (go_at_call 13; (with_reducible (refine (HP1.out _ ((Ch.refl (fun _ => False) w7).drew)).mono ?_)); rintro e w8 ⟨rfl, P8, hR8⟩; have z1 : w8.cell? ⟨bx, 1, none⟩ = some (.string SK) := hR8.xt.f1)
                          | (go_at_call 14; (with_reducible (refine (HP2.out _ _ hR8).mono ?_)); rintro e w9 ⟨rfl, F9, hR9⟩; have z2 : w9.cell? ⟨bx, 1, none⟩ = some (.string SK) := hR9.xt.f1))
                        all_goals (
                          go_wp2_with fail
                          go_meet
                          exact ⟨rfl, rfl, rfl, rfl, P8, F9, _, ⟨hR9⟩, HFW⟩)
                      · have t2 : (kd == 2) = false := by rw [beq_eq_false_iff_ne]; exact k2
                        have HFW : Bx (s.1.length + s.2.length ≤ 120 + (j + 1)) := ⟨by have := hN3.out; omega⟩
                        by_cases k4 : kd = 4
                        · have t4 : (kd == 4) = true := by rw [k4]; rfl
                          have hf2 : s.1.length + s.2.length ≤ 250 := by have := hN3.out; omega
                          obtain ⟨Ar, nr, cr, d0, hrf⟩ := HRD.out.rfind hf2
                          obtain ⟨FS, hFS⟩ : ∃ FS, finds s.1 xs = FS := ⟨_, rfl⟩
                          have HP1 : Bx (∀ w, Ch (fun _ => False) w7 w → Calls Try.prog 16 #[.pointer (some ⟨t, 0, none⟩), .slice (some ⟨g, 0, none⟩) tl kk] w fun e w' => ∃ A n c, e = .returned (.slice A n c) ∧ n ≤ 9223372036854775806 ∧ Mts w' (fun _ => True) A n FS ∧ Ch (fun _ => False) w w') := ⟨fun w hc => by
                            have := (HRD.out.keep hc).find hf2
                            rw [hFS] at this
                            exact this⟩
                          have HP2 : Bx (∀ w, Ch (fun _ => False) w7 w → Calls Try.prog 17 #[.slice Ar nr cr, .slice B tl cB] w fun e w' => ∃ A n c, e = .returned (.slice A n c) ∧ Mts w' (fun _ => True) A n FS ∧ Ch (fun _ => False) w w') := ⟨fun w hc => by
                            have := hrf w hc
                            rw [hFS] at this
                            exact this⟩
                          have HP3 : Bx (∀ (w : World) (A : Option Addr) (n c : Nat) (A' : Option Addr) (n' c' : Nat), n ≤ 9223372036854775806 → Mts w (fun _ => True) A n FS → Mts w (fun _ => True) A' n' FS → Calls Try.prog 15 #[.slice A n c, .slice A' n' c'] w fun e w' => e = .returned (.bool true) ∧ Ch (fun _ => False) w w') := ⟨fun w A n c A' n' c' hn h1 h2 => mlawmatches_yes FS A A' n n' c c' w h1 h2 hn⟩
                          clear hFS hrf k1 k2 k4
                          go_wp2_with fail
                          go_region_held3 (fun w' => w'.cell? ⟨bx, 2, none⟩ = some (.slice B tl cB) ∧ w'.cell? ⟨b, 0, none⟩ = some (.slice Ar nr cr)) (first | go_keep | exact z1 | exact ⟨g2, d0⟩) (first
                            | (go_at_call 16; (with_reducible (refine (HP1.out _ ((Ch.refl (fun _ => False) w7).drew)).mono ?_)); rintro e w8 ⟨A8, n8, c8, rfl, hn8, hM8, hc8⟩; have hcc : Ch (fun _ => False) w7 w8 := ((Ch.refl (fun _ => False) w7).drew).trans hc8 (fun _ _ h => h); have z1 : w8.cell? ⟨bx, 2, none⟩ = some (.slice B tl cB) ∧ w8.cell? ⟨b, 0, none⟩ = some (.slice Ar nr cr) := ⟨hcc.cell (fun h => h) g2, hcc.cell (fun h => h) d0⟩)
                            | (go_at_call 17; (with_reducible (refine (HP2.out _ hcc).mono ?_)); rintro e w9 ⟨A9, n9, c9, rfl, hM9, hc9⟩; have hM8 := hM8.ch hc9 (fun _ _ _ h => h); have hcc : Ch (fun _ => False) w7 w9 := hcc.trans hc9 (fun _ _ h => h); have z1 : w9.cell? ⟨bx, 2, none⟩ = some (.slice B tl cB) ∧ w9.cell? ⟨b, 0, none⟩ = some (.slice Ar nr cr) := ⟨hcc.cell (fun h => h) g2, hcc.cell (fun h => h) d0⟩)
                            | (go_at_call 15; (with_reducible (refine (HP3.out _ _ _ _ _ _ _ hn8 hM8 hM9).mono ?_)); rintro e w10 ⟨rfl, hc10⟩; have hcc : Ch (fun _ => False) w7 w10 := hcc.trans hc10 (fun _ _ h => h); have z1 : w10.cell? ⟨bx, 2, none⟩ = some (.slice B tl cB) ∧ w10.cell? ⟨b, 0, none⟩ = some (.slice Ar nr cr) := ⟨hcc.cell (fun h => h) g2, hcc.cell (fun h => h) d0⟩))
                          all_goals (
                            go_wp2_with fail
                            go_meet
                            exact ⟨rfl, rfl, rfl, rfl, P3, F3, _, ⟨HRD.out.keep hcc⟩, HFW⟩)
                        · have t4 : (kd == 4) = false := by rw [beq_eq_false_iff_ne]; exact k4
                          clear k1 k2 k4
                          go_wp2_with fail
                          go_meet
                          exact ⟨rfl, rfl, rfl, rfl, P3, F3, _, HRD, HFW⟩
                  case rest =>
                    obtain ⟨rfl, rfl, rfl, rfl, P8, F8, s8, hR, hN8⟩ := hcut
                    have HR8 := Bx.mk hR.out
                    have HG1 := Bx.mk hR.out.get
                    have q1 := hR.out.xt.f1
                    clear hR g1 g2 g0 HRD hN3 HC6 HS6 HSL HBY HFL
                    go_wp2_with fail
                    refine HG1.out.mono ?_
                    rintro e w9 ⟨v1, x1, h1, kn1, rfl, hf1, hg1⟩
                    obtain ⟨n9, hn9⟩ : ∃ n9, x1.length = n9 := ⟨_, rfl⟩
                    have hx1 : n9 ≤ 4096 := by
                      unfold GR at hg1
                      cases hat : at_ s8.1 key with
                      | none =>
                        rw [hat] at hg1
                        rw [← hn9, hg1.1]
                        exact Nat.zero_le _
                      | some u =>
                        rw [hat] at hg1
                        unfold at_ at hat
                        obtain ⟨d, hd, hdu⟩ := Option.map_eq_some_iff.1 hat
                        have := HR8.out.bt.tp.ok.len d (List.mem_of_find?_eq_some hd)
                        rw [← hn9, hg1.1, ← hdu]
                        exact this
                    obtain ⟨A9, c9, rfl, _, _⟩ := own_shape hf1.1
                    have HR9 := Bx.mk (HR8.out.keep hf1.2.2)
                    have HB9 : Bx (Bt W w9 P8 F8 (fun x => (x = bx ∨ x = g) ∨ (Value.slice A9 x1.length c9).ownBlock = some x) t b s8 s8) := ⟨HR8.out.bt.more hf1.2.2 (fun x hx => by
                      rcases hx with hx | hx
                      · exact .inl hx
                      · exact .inr ⟨hf1.2.1 x hx, own_lt hf1.1 x hx⟩)⟩
                    have HGR := Bx.mk hg1
                    have HF1' := Bx.mk hf1
                    have HG2 := Bx.mk HR9.out.rget
                    have q2 := HR9.out.xt.f1
                    clear hf1 hg1 HG1 q1
                    go_wp2_with fail
                    refine HG2.out.mono ?_
                    rintro e w10 ⟨v2, x2, h2, kn2, rfl, hf2, hg2⟩
                    have hsame : x2 = x1 ∧ h2 = h1 ∧ kn2 = kn1 := by
                      have h1 := HGR.out
                      unfold GR at h1 hg2
                      cases hat : at_ s8.1 key with
                      | some u =>
                        rw [hat] at h1 hg2
                        exact ⟨hg2.1.trans h1.1.symm, hg2.2.1.trans h1.2.1.symm, hg2.2.2.trans h1.2.2.symm⟩
                      | none =>
                        rw [hat] at h1 hg2
                        exact ⟨hg2.1.trans h1.1.symm, hg2.2.1.trans h1.2.1.symm, hg2.2.2.trans h1.2.2.symm⟩
                    obtain ⟨rfl, rfl, rfl⟩ := hsame
                    obtain ⟨A10, c10, rfl, _, _⟩ := own_shape hf2.1
                    have HR10 := Bx.mk (HR9.out.keep hf2.2.2)
                    have HB10 := Bx.mk (HB9.out.keep hf2.2.2)
                    have HRW : Bx (w10.ownsRow 0 5 1 (.slice A9 x2.length c9) x2.length (x2.map (Value.int .u8))) := ⟨hf2.2.2.own HF1'.out.1 (fun _ _ h => h)⟩
                    have hsm := same_any A9 A10 x2.length x2.length c9 c10 x2 x2 _ _ w10 (by omega) (by omega) (Sl.of_own HRW.out) (Sl.of_own hf2.1)
                    have HY2 : Bx (∀ w, Ch (fun _ => False) w10 w → Calls Try.prog 21 #[.slice A9 n9 c9, .slice A10 n9 c10] w fun e w' => e = .returned (.bool true) ∧ Ch (fun _ => False) w10 w') := ⟨fun w hc => by
                      have := same_any A9 A10 x2.length x2.length c9 c10 x2 x2 _ _ w (by omega) (by omega) ((Sl.of_own HRW.out).ch hc (fun _ _ _ h => h)) ((Sl.of_own hf2.1).ch hc (fun _ _ _ h => h))
                      rw [hn9] at this
                      exact this.mono fun e w' ⟨e1, k, e2⟩ => ⟨by rw [e1]; simp, hc.trans (by rw [e2]; exact (Ch.refl (fun _ => False) w).drewN k) (fun _ _ h => h)⟩⟩
                    have HY1 : Bx (∀ w, Ch (fun _ => False) w10 w → Calls Try.prog 20 #[.slice (some ⟨g, 0, none⟩) (tl + 1) kk, .slice B tl cB] w fun e w' => e = .returned (.bool true) ∧ Ch (fun _ => False) w10 w') := ⟨fun w hc => (HR10.out.keep hc).stands.mono fun e w' ⟨e1, e2⟩ => ⟨e1, hc.trans e2 (fun _ _ h => h)⟩⟩
                    obtain ⟨L, hL⟩ : ∃ L, s8.1.length + s8.2.length = L := ⟨_, rfl⟩
                    have HY3 : Bx (∀ w, Ch (fun _ => False) w10 w → Calls Try.prog 22 #[.pointer (some ⟨t, 0, none⟩)] w fun e w' => e = .returned (.int .i64 (L : Int)) ∧ Ch (fun _ => False) w10 w') := ⟨fun w hc => by
                      have := mlenp_any (HB10.out.keep hc).tp
                      rw [hL] at this
                      exact this.mono fun e w' ⟨e1, e2⟩ => ⟨e1, by rw [← e2]; exact hc⟩⟩
                    have HY4 : Bx (∀ w, Ch (fun _ => False) w10 w → Calls Try.prog 23 #[.pointer (some ⟨b, 0, none⟩)] w fun e w' => e = .returned (.int .i64 (L : Int)) ∧ Ch (fun _ => False) w10 w') := ⟨fun w hc => by
                      have := mlen_any (HB10.out.keep hc).td
                      rw [hL] at this
                      exact this.mono fun e w' ⟨e1, e2⟩ => ⟨e1, hc.trans e2 (fun _ _ h => h)⟩⟩
                    have r2 := HR10.out.xt.f2
                    have HOFF : Bx (∀ g', (Value.slice A9 x2.length c9).ownBlock = some g' → g' ≠ g) := ⟨fun g' hg' e => by
                      have := HF1'.out.2.1 g' hg'
                      have := (HR8.out.bt.ex g (.inr rfl)).2.1
                      omega⟩
                    have hb1 : (h2 != h2) = false := by simp
                    have hb2 : (kn2 != kn2) = false := by simp
                    have hb3 : ((L : Int) != (L : Int)) = false := by simp
                    rw [hn9] at HRW HB10 HOFF
                    clear hsm hf2 hg2 hL HGR HF1' HG2 HR8 HR9 HB9 q2
                    rw [hn9]
                    go_wp2_with fail
                    refine (HY1.out _ (Ch.refl _ _)).mono ?_
                    rintro e w11 ⟨rfl, hc11⟩
                    have HZ2 := Bx.mk (HY2.out _ hc11)
                    clear hc11 HY1 HY2
                    go_wp2_with fail
                    refine HZ2.out.mono ?_
                    rintro e w12 ⟨rfl, hc12⟩
                    have HZ3 := Bx.mk (HY3.out _ hc12)
                    clear hc12 HZ2 HY3
                    go_wp2_with fail
                    refine HZ3.out.mono ?_
                    rintro e w13 ⟨rfl, hc13⟩
                    have HZ4 := Bx.mk (HY4.out _ hc13)
                    clear hc13 HZ3 HY4
                    go_wp2_with fail
                    refine HZ4.out.mono ?_
                    rintro e w14 ⟨rfl, hc14⟩
                    have HB14 := Bx.mk (HB10.out.keep hc14)
                    have HRW14 := Bx.mk (hc14.own HRW.out (fun _ _ h => h))
                    have HSP1 := Bx.mk (spoil_any (.slice (some ⟨g, 0, none⟩) (tl + 1) kk) (tl + 1) _ w14 (by omega) (HR10.out.keep hc14).xt.rb)
                    clear hc14 HZ4 HR10 HB10 HRW r2
                    go_wp2_with fail
                    refine HSP1.out.mono ?_
                    rintro e w15 ⟨rfl, hc15⟩
                    have HB15 := Bx.mk (HB14.out.spoilt HG.out hc15 (fun x hx => .inl (.inl (.inr (by simpa [Value.ownBlock] using hx.symm)))))
                    have HSP2 := Bx.mk (spoil_any (.slice A9 n9 c9) n9 _ w15 (by omega) (hc15.own HRW14.out (fun g' h1 h2 => HOFF.out g' h1 (by simpa [Value.ownBlock] using h2.symm))))
                    clear hc15 HSP1 HB14 HRW14
                    go_wp2_with fail
                    refine HSP2.out.mono ?_
                    rintro e w16 ⟨rfl, hc16⟩
                    have HB16 : Bx (Bt W w16 P8 F8 (fun _ => False) t b s8 s8) := ⟨(HB15.out.spoilt HG.out hc16 (fun x hx => .inl (.inr hx))).drop (fun x hx => hx.elim)⟩
                    clear hc16 HSP2 HB15
                    go_wp2
                    go_roundw
                    case rel => exact ⟨j + 1, P8, F8, s8, by omega, by omega, by go_num, HB16, hN8⟩
                    case measure => simp [intOf]; omega
                · have hx : ¬ j < n1 ∨ (j < n1 ∧ ¬ j < 120) := by omega
                  have HEND : Bx (s.1.length + s.2.length ≤ 240) := ⟨by have := hN3.out; omega⟩
                  rcases hx with hx | ⟨hx, hx2⟩
                  · have dj : decide ((j : Int) < (n1 : Int)) = false := decide_eq_false (by omega)
                    go_wp2_with fail
                    go_meet
                    exact ⟨P3, F3, s, hB3, HEND⟩
                  · have dj : decide ((j : Int) < (n1 : Int)) = true := decide_eq_true (by omega)
                    have dj2 : decide ((j : Int) < 120) = false := decide_eq_false (by omega)
                    go_wp2_with fail
                    go_meet
                    exact ⟨P3, F3, s, hB3, HEND⟩
            case rest =>
              obtain ⟨P6, F6, s, hB5, hN5⟩ := hcut
              obtain ⟨a, ha⟩ : ∃ a, s.1.length = a := ⟨_, rfl⟩
              obtain ⟨m, hm⟩ : ∃ m, s.2.length = m := ⟨_, rfl⟩
              have ha2 : a + m ≤ 240 := by have := hN5.out; omega
              obtain ⟨Ar, cr, Br, dr, d0, d1, hdr, hkr, _⟩ := hB5.out.td.row
              rw [ha] at d0 hdr
              rw [hm] at d1 hkr
              have HX1 : Bx (∀ w, Ch (fun _ => False) wc w → Calls Try.prog 25 #[.pointer (some ⟨t, 0, none⟩)] w fun e w' => ∃ A c, e = .returned (.slice A a c) ∧ Dcs w' (fun _ => True) A a s.1 ∧ Ch (fun _ => False) wc w') := ⟨fun w hc => by
                have := mdocs_any (hB5.out.keep hc).tp
                rw [ha] at this
                exact this.mono fun e w' ⟨A, c, vs, h1, h2, _⟩ => ⟨A, c, h1, h2.dcs.mono (fun _ _ _ => trivial), hc.trans h2.dg.ch (fun _ _ h => h)⟩⟩
              have HX2 : Bx (∀ w A c, Ch (fun _ => False) wc w → Dcs w (fun _ => True) A a s.1 → Calls Try.prog 24 #[.slice A a c, .slice Ar a cr] w fun e w' => e = .returned (.bool true) ∧ Ch (fun _ => False) wc w') := ⟨fun w A c hc hd => (mlawdocs_any s.1 A Ar a c cr w hd (hdr.ch hc (fun _ _ _ h => h)) (by omega)).mono fun e w' ⟨h1, q, h2⟩ => ⟨h1, hc.trans (by rw [h2]; exact (Ch.refl (fun _ => False) w).drewN q) (fun _ _ h => h)⟩⟩
              have HX3 : Bx (∀ w, Ch (fun _ => False) wc w → Calls Try.prog 27 #[.pointer (some ⟨t, 0, none⟩)] w fun e w' => ∃ A c, e = .returned (.slice A m c) ∧ Kss w' (fun _ => True) A m s.2 ∧ Ch (fun _ => False) wc w') := ⟨fun w hc => (mgone_any (hB5.out.keep hc).tp).mono fun e w' ⟨A, n, c, h1, h2, _⟩ => by
                have hl := h2.own.1
                simp at hl
                have e2 : n = m := by omega
                subst e2
                exact ⟨A, c, h1, Vs.mono h2.vs (fun _ _ _ => trivial), hc.trans h2.ch (fun _ _ h => h)⟩⟩
              have HX4 : Bx (∀ w A c, Ch (fun _ => False) wc w → Kss w (fun _ => True) A m s.2 → Calls Try.prog 26 #[.slice A m c, .slice Br m dr] w fun e w' => e = .returned (.bool true) ∧ Ch (fun _ => False) wc w') := ⟨fun w A c hc hd => (lawtexts_any s.2 s.2 A Br m m c dr w hd (hkr.ch hc (fun _ _ _ h => h)) (by omega) true (by simp)).mono fun e w' ⟨h1, q, h2⟩ => ⟨h1, hc.trans (by rw [h2]; exact (Ch.refl (fun _ => False) w).drewN q) (fun _ _ h => h)⟩⟩
              have HX5 : Bx (∀ w, Ch (fun _ => False) wc w → Calls Try.prog 7 #[] w fun e w' => e = .returned (.bool true) ∧ Ch (fun _ => False) wc w') := ⟨fun w hc => (mknown_any w (HMW.out w (hB5.out.ch.trans hc (fun _ _ h => h)))).mono fun e w' ⟨h1, h2⟩ => ⟨h1, hc.trans h2 (fun _ _ h => h)⟩⟩
              have HCH := Bx.mk hB5.out.ch
              clear hB5 hN5 ha hm hdr hkr HB5
              go_wp2_with fail
              go_region_held3 (fun w' => w'.cell? ⟨b, 0, none⟩ = some (.slice Ar a cr) ∧ w'.cell? ⟨b, 1, none⟩ = some (.slice Br m dr)) (first | go_keep | exact s2 | exact ⟨d0, d1⟩) (first
                | (go_at_call 25; (with_reducible (refine (HX1.out _ ((Ch.refl (fun _ => False) wc).drew)).mono ?_)); rintro e w6 ⟨A6, c6, rfl, hd6, hcc⟩; have s2 : w6.cell? ⟨b, 0, none⟩ = some (.slice Ar a cr) ∧ w6.cell? ⟨b, 1, none⟩ = some (.slice Br m dr) := ⟨hcc.cell (fun h => h) d0, hcc.cell (fun h => h) d1⟩)
                | (go_at_call 24; (with_reducible (refine (HX2.out _ _ _ hcc hd6).mono ?_)); rintro e w7 ⟨rfl, hcc⟩; have s2 : w7.cell? ⟨b, 0, none⟩ = some (.slice Ar a cr) ∧ w7.cell? ⟨b, 1, none⟩ = some (.slice Br m dr) := ⟨hcc.cell (fun h => h) d0, hcc.cell (fun h => h) d1⟩)
                | (go_at_call 27; (with_reducible (refine (HX3.out _ hcc).mono ?_)); rintro e w8 ⟨A8, c8, rfl, hd8, hcc⟩; have s2 : w8.cell? ⟨b, 0, none⟩ = some (.slice Ar a cr) ∧ w8.cell? ⟨b, 1, none⟩ = some (.slice Br m dr) := ⟨hcc.cell (fun h => h) d0, hcc.cell (fun h => h) d1⟩)
                | (go_at_call 26; (with_reducible (refine (HX4.out _ _ _ hcc hd8).mono ?_)); rintro e w9 ⟨rfl, hcc⟩; have s2 : w9.cell? ⟨b, 0, none⟩ = some (.slice Ar a cr) ∧ w9.cell? ⟨b, 1, none⟩ = some (.slice Br m dr) := ⟨hcc.cell (fun h => h) d0, hcc.cell (fun h => h) d1⟩)
                | (go_at_call 7; (with_reducible (refine (HX5.out _ hcc).mono ?_)); rintro e w10 ⟨rfl, hcc⟩; have s2 : w10.cell? ⟨b, 0, none⟩ = some (.slice Ar a cr) ∧ w10.cell? ⟨b, 1, none⟩ = some (.slice Br m dr) := ⟨hcc.cell (fun h => h) d0, hcc.cell (fun h => h) d1⟩))
              all_goals (
                go_wp2
                go_ret
                exact ⟨rfl, HCH.out.trans hcc (fun _ _ h => h)⟩)
end Go.Proofs.Ytpilekadcondnaa
