/-
  The law MemLast walked.
  Conditions: the script reads as it says; bytealg.MaxLen's cell holds some number.
-/
import Derived.Test.YtpilekadcondnaaMtMl
import Derived.Test.YtpilekadcondnaaMtNil
import Derived.Shelf.Bytes.SlSmallAll
namespace Go.Proofs.Ytpilekadcondnaa
open Go.RowKit Go.Oct Go.Su Go.Sg Go.Mt Go.Maps

theorem conv_all {F : Nat → Prop} {A : Option Addr} {n c : Nat} {xs : List Int} {w : World} (h : Sl w F .u8 A n xs) : (convert 30 9 (.slice A n c)).run Try.prog w = .ok (.string (strOfNums xs)) w := by
  by_cases hn : 0 < n
  · obtain ⟨b, o, _, rfl, _, _, _⟩ := h.at_ hn
    exact conv_any h 0
  · obtain rfl : n = 0 := by omega
    obtain rfl : xs = [] := List.eq_nil_of_length_eq_zero h.len
    exact run_convert_bytes_zero w 30 5 Try.underlying30 Try.underlying5 A c 9 Try.underlying9
theorem elemSt : Elem Try.prog 27 9 (.string ByteArray.empty) 16 := ⟨Try.underlying27, by kernel_rfl, rfl⟩
/-- What the map and the keys have to do with the table. -/
structure Fit (s : List Dc × List Key) (kl : List Key) (tv : Key → Value) : Prop where
  tv : ∀ d ∈ s.1, tv d.1 = .string (strOfNums d.2)
  kn : ∀ k ∈ kl, okK k ∧ ((∃ d ∈ s.1, d.1 = k) ∨ k ∈ s.2)
section
variable {s : List Dc × List Key} {kl : List Key} {tv : Key → Value} {k : Key} {x : List Int}
theorem Fit.nil (tv : Key → Value) : Fit ([], []) [] tv := ⟨by simp, by simp⟩
theorem tPut_ok (hk : okK k) (hx : ¬ 4096 < x.length) (s : List Dc × List Key) : tPut s k x = (0, (put (·.1) s.1 (k, x), del id s.2 k)) := by unfold tPut; rw [if_neg (not_not_intro hk), if_neg hx]
theorem tDel_ok (hk : okK k) (s : List Dc × List Key) : tDel s k = (0, (del (·.1) s.1 k, put id s.2 k)) := if_neg (not_not_intro hk)
theorem Fit.put (h : Fit s kl tv) (hk : okK k) : Fit (put (·.1) s.1 (k, x), del id s.2 k) (kl ++ [k]) (upd tv k (.string (strOfNums x))) := by
  refine ⟨fun d hd => ?_, fun j hj => ?_⟩
  · rcases mem_put.1 hd with rfl | ⟨hd, hne⟩
    · exact if_pos rfl
    · rw [show upd tv k (.string (strOfNums x)) d.1 = tv d.1 from if_neg hne]
      exact h.tv d hd
  · by_cases e : j = k
    · subst e
      exact ⟨hk, .inl ⟨(j, x), mem_put.2 (.inl rfl), rfl⟩⟩
    · rcases List.mem_append.1 hj with hj | hj
      · obtain ⟨h1, h2⟩ := h.kn j hj
        refine ⟨h1, h2.imp (fun ⟨d, hd, e2⟩ => ⟨d, mem_put.2 (.inr ⟨hd, fun e3 => e (by rw [← e2]; exact e3)⟩), e2⟩) (fun hg => mem_del.2 ⟨hg, e⟩)⟩
      · exact absurd (by simpa using hj) e
theorem Fit.del (h : Fit s kl tv) (hk : okK k) : Fit (del (·.1) s.1 k, Go.Sg.put id s.2 k) (kl ++ [k]) tv := by
  refine ⟨fun d hd => h.tv d (mem_del.1 hd).1, fun j hj => ?_⟩
  by_cases e : j = k
  · subst e
    exact ⟨hk, .inr (mem_putK.2 (.inl rfl))⟩
  · rcases List.mem_append.1 hj with hj | hj
    · obtain ⟨h1, h2⟩ := h.kn j hj
      refine ⟨h1, h2.imp (fun ⟨d, hd, e2⟩ => ⟨d, mem_del.2 ⟨hd, fun e3 => e (by rw [← e2]; exact e3)⟩, e2⟩) (fun hg => mem_putK.2 (.inr hg))⟩
    · exact absurd (by simpa using hj) e
end
set_option maxHeartbeats 8000000 in
set_option maxRecDepth 100000 in
theorem last_law (l : List Sp) (A : Option Addr) (n c : Nat) (W : World) (hz : Stps W (fun _ => True) A n l) (hok : ∀ s ∈ l, SpOk s) (hn : n ≤ 9223372036854775807) (hmx : ∃ m, W.cell? ⟨0, 0, none⟩ = some (.int .i64 m)) :
    Calls Try.prog 5 #[.slice A n c] W fun e w' => e = .returned (.bool true) ∧ Ch (fun _ => False) W w' := by
  have hmm := @run_makeMap Try.prog
  have HL := Bx.mk hz.len
  have HZ := Bx.mk hz
  have HOK := Bx.mk hok
  have HMX := Bx.mk hmx
  have HG : Bx (0 < W.heap.size) := ⟨by obtain ⟨m, hm⟩ := hmx; exact lt_of_cell hm⟩
  have HHV := Bx.mk (mheavy_any l A n c W hz hok hn)
  have HMW : Bx (∀ w, Ch (fun _ => False) W w → ∃ m, w.cell? ⟨0, 0, none⟩ = some (.int .i64 m)) := ⟨fun w hc => by
    obtain ⟨m, hm⟩ := hmx
    exact ⟨m, hc.cell (p := ⟨0, 0, none⟩) (fun h => h) hm⟩⟩
  have HKN : Bx (∀ w, Ch (fun _ => False) W w → Calls Try.prog 7 #[] w fun e w' => e = .returned (.bool true) ∧ Ch (fun _ => False) W w') := ⟨fun w hc => (mknown_any w (HMW.out w hc)).mono fun e w' ⟨h1, h2⟩ => ⟨h1, hc.trans h2 (fun _ _ h => h)⟩⟩
  clear hz hok hmx
  go_enter Try.func5, Try.ntmps5
  go_wp2_with fail
  refine HHV.out.mono ?_
  rintro e w1 ⟨o, rfl, hc1, _⟩
  have HC1 := Bx.mk hc1
  clear hc1 HHV
  cases o with
  | true =>
    have HK := Bx.mk (HKN.out w1 HC1.out)
    go_wp2_with fail
    refine HK.out.mono ?_
    rintro e w2 ⟨rfl, hc⟩
    have HC := Bx.mk hc
    clear hc
    go_wp2
    go_ret
    exact ⟨rfl, HC.out⟩
  | false =>
    have HNW := Bx.mk (mnew_any (F := fun _ => True) [] none 0 0 w1 (Dcs.nil _ _ _) (by omega) (by simp) (HMW.out w1 HC1.out))
    go_wp2_with fail
    refine HNW.out.mono ?_
    rintro e w2 ⟨rfl, P, hT, hP, hC2⟩
    obtain ⟨t, ht⟩ : ∃ t, w1.heap.size = t := ⟨_, rfl⟩
    rw [ht]
    have HML : Bx (Ml W (w2.alloc (.map #[] 0)) P t w2.heap.size (.slice none 0 0) 0 [] ([], []) [] (fun _ => .bool false)) := ⟨by
      have hcw := HC1.out.trans hC2 (fun _ _ h => h)
      have hal : Ch (fun _ => False) w2 (w2.alloc (.map #[] 0)) := (Ch.refl _ _).alloc _
      rw [ht] at hT
      refine ⟨hT.keep hal, fun x hx => Nat.le_trans HC1.out.size (hP x hx), World.ownsMap_made w2 _ _ heldR, hcw.size, fun hx => ?_, Gs.nilAt _ _ (hcw.trans hal (fun _ _ h => h)), fun g hg => by simp [Value.ownBlock] at hg⟩
      have := hT.lt _ hx
      omega⟩
    clear hT hP hC2 HNW ht
    obtain ⟨w3, hw3⟩ : ∃ w3, w2.alloc (.map #[] 0) = w3 := ⟨_, rfl⟩
    obtain ⟨mt, hmt⟩ : ∃ mt, w2.heap.size = mt := ⟨_, rfl⟩
    rw [hw3, hmt] at HML
    go_wp2_with fail
    clear hw3 hmt
    go_loopw [5, 6] (fun v i wr => ∃ (k q : Nat) (P : Nat → Prop) (kl : List Key) (s : List Dc × List Key) (tv : Key → Value), k ≤ n ∧ k ≤ 120 ∧ i = .int .i64 k ∧ Bx (Ml W wr P t mt v q kl s s.1 tv) ∧ Bx (Fit s kl tv) ∧ Bx (s.1.length + s.2.length ≤ k ∧ q ≤ k)) (fun _ i _ => 120 - (intOf i).toNat)
    case atStart => exact ⟨0, 0, P, [], ([], []), _, Nat.zero_le _, Nat.zero_le _, rfl, HML, ⟨Fit.nil _⟩, ⟨Nat.zero_le _, Nat.zero_le _⟩⟩
    case round =>
      obtain ⟨k, q, P, kl, s, tv, hk, hk2, rfl, hM, hF, hB⟩ := hrel
      obtain ⟨Ak, ck, rfl, _, _⟩ := own_shape' hM.out.keys.own
      by_cases hgo : k < n ∧ k < 120
      · obtain ⟨hkn, hk3⟩ := hgo
        have dk : decide ((k : Int) < (n : Int)) = true := decide_eq_true (by omega)
        have dk2 : decide ((k : Int) < 120) = true := decide_eq_true (by omega)
        have i1 : (k : Int) < (n : Int) := by omega
        obtain ⟨bl, ol, x, B, cB, rfl, _, ex, e0, e1, e2, hsl, hlc, hcm⟩ := HZ.out.get hkn
        have hso := HOK.out x (List.mem_of_getElem? ex.out)
        obtain ⟨kd, key, xs⟩ := x
        simp only at e0 e1 e2 hsl hlc
        have HBY := Bx.mk hso.byte
        have hkl : key.length ≤ 140737488351232 := hso.kl
        have htl : xs.length ≤ 140737488351232 := hso.tl
        have hwr := hM.out.keys.ch
        have e0' := hwr.cell (p := ⟨bl, ol + k * 3, none⟩) (fun h => h) e0
        have e1' := hwr.cell (p := ⟨bl, ol + k * 3 + 1, none⟩) (fun h => h) e1
        have e2' := hwr.cell (p := ⟨bl, ol + k * 3 + 2, none⟩) (fun h => h) e2
        have HSL : Bx (∀ w, Ch (fun _ => False) W w → Sl w (fun _ => True) .u8 B xs.length xs) := ⟨fun w hc => hsl.ch hc (fun _ _ _ h => h)⟩
        obtain ⟨SK, hSK, hsz⟩ : ∃ SK : ByteArray, kv key = .string SK ∧ SK.size = key.length := ⟨_, rfl, kv_size key⟩
        have HSK := Bx.mk hSK
        obtain ⟨a, ha⟩ : ∃ a, key.length = a := ⟨_, rfl⟩
        obtain ⟨tl, hxl⟩ : ∃ tl, xs.length = tl := ⟨_, rfl⟩
        have HA := Bx.mk ha
        have HXL := Bx.mk hxl
        rw [ha] at hsz hkl
        rw [hxl] at e2' hlc htl HSL
        rw [hSK] at e1'
        obtain ⟨bx, hbx⟩ : ∃ bx, wr.heap.size = bx := ⟨_, rfl⟩
        obtain ⟨w4, hw4⟩ : ∃ w4, wr.alloc (.cells #[.int .i64 kd, .string SK, .slice B tl cB] 32) = w4 := ⟨_, rfl⟩
        have hc4 : Ch (fun _ => False) wr w4 := by rw [← hw4]; exact (Ch.refl _ _).alloc _
        have f0 : w4.cell? ⟨bx, 0, none⟩ = some (.int .i64 kd) := by rw [← hw4, ← hbx]; exact ncells_at (j := 0) rfl
        have f1 : w4.cell? ⟨bx, 1, none⟩ = some (.string SK) := by rw [← hw4, ← hbx]; exact ncells_at (j := 1) rfl
        have f2 : w4.cell? ⟨bx, 2, none⟩ = some (.slice B tl cB) := by rw [← hw4, ← hbx]; exact ncells_at (j := 2) rfl
        have HM4 := Bx.mk (hM.out.keep hc4)
        have HPB : Bx (¬ P bx ∧ (∀ g, (Value.slice Ak q ck).ownBlock = some g → g ≠ bx) ∧ mt ≠ bx) := ⟨by
          refine ⟨fun h => ?_, fun g hg => ?_, ?_⟩
          · have := hM.out.tab.lt bx h
            omega
          · have := own_lt hM.out.keys.own g hg
            omega
          · have := hM.out.map.lt
            omega⟩
        have hcB63 : cB ≤ 9223372036854775807 := by unfold maxLen at hcm; omega
        clear hwr e0 e1 e2 hsl hcm hso ex ha hxl hSK hc4
        by_cases hs1 : a < 1
        · have d1 : decide ((a : Int) < 1) = true := decide_eq_true (by omega)
          go_wp2_with fail
          go_roundw
          case rel => exact ⟨k + 1, q, P, kl, s, tv, by omega, by omega, by go_num, HM4, hF, ⟨by have := hB.out; omega⟩⟩
          case measure => simp [intOf]; omega
        · have d1 : decide ((a : Int) < 1) = false := decide_eq_false (by omega)
          by_cases hs2 : 64 < a
          · have d2 : decide (64 < (a : Int)) = true := decide_eq_true (by omega)
            go_wp2_with fail
            go_roundw
            case rel => exact ⟨k + 1, q, P, kl, s, tv, by omega, by omega, by go_num, HM4, hF, ⟨by have := hB.out; omega⟩⟩
            case measure => simp [intOf]; omega
          · have d2 : decide (64 < (a : Int)) = false := decide_eq_false (by omega)
            by_cases hs3 : 4096 < tl
            · have d3 : decide (4096 < (tl : Int)) = true := decide_eq_true (by omega)
              go_wp2_with fail
              go_roundw
              case rel => exact ⟨k + 1, q, P, kl, s, tv, by omega, by omega, by go_num, HM4, hF, ⟨by have := hB.out; omega⟩⟩
              case measure => simp [intOf]; omega
            · have d3 : decide (4096 < (tl : Int)) = false := decide_eq_false (by omega)
              have HKO : Bx (okK key) := ⟨⟨by have := HA.out; omega, by have := HA.out; omega⟩⟩
              have HTS : Bx (¬ 4096 < xs.length) := ⟨by have := HXL.out; omega⟩
              have HOW := Bx.mk HM4.out.keys.own
              have hq : q ≤ 120 := by have := hB.out; omega
              go_wp2_with (at_builtin; refine wp_app rfl (.tmp 51) (.tmp 54) elemSt rfl rfl (HOW.out.alloc _) rfl (Vs.one _ _ _) ?c1 ?c2 ?c3 ?_)
              case c1 => first | rfl | (intro u hu; simp at hu; subst hu; rfl)
              case c2 => omega
              case c3 => omega
              intro v5 w5 ho1 hg1 hb1
              have HM5 : Bx (Ml W w5 P t mt v5 (q + 1) (kl ++ [key]) s s.1 tv) := ⟨HM4.out.app HG.out ((Ch.refl (fun _ => False) w4).alloc _) (by rw [HSK.out]; exact ho1) hg1 (by rw [World.size_alloc]; exact hb1)⟩
              have hcg : Ch (fun b => (Value.slice Ak q ck).ownBlock = some b) w4 w5 := ((Ch.refl _ w4).alloc _).grown hg1 (fun j hj => .inl hj)
              have g0 := hcg.cell (p := ⟨bx, 0, none⟩) (fun h => HPB.out.2.1 bx h rfl) f0
              have g1 := hcg.cell (p := ⟨bx, 1, none⟩) (fun h => HPB.out.2.1 bx h rfl) f1
              have g2 := hcg.cell (p := ⟨bx, 2, none⟩) (fun h => HPB.out.2.1 bx h rfl) f2
              clear ho1 hg1 hb1 hcg f0 f1 f2 HOW HM4 hM hw4 hbx
              have hfw : s.1.length + s.2.length < 1000000 := by have := hB.out; omega
              have hkm : key.length ≤ maxLen := by have := HKO.out.2; unfold maxLen; omega
              have hk63 : key.length ≤ 9223372036854775807 := by have := HKO.out.2; omega
              have HDR : Bx (RiseF (·.1) s.1) := ⟨HM5.out.tab.ok.dr⟩
              have HFW2 : Bx ((put (·.1) s.1 (key, xs)).length + (del id s.2 key).length ≤ k + 1 ∧ (del (·.1) s.1 key).length + (put id s.2 key).length ≤ k + 1 ∧ q + 1 ≤ k + 1) := ⟨by
                have h1 := len_put_le HM5.out.tab.ok.dr (key, xs)
                have h2 := len_del_le HM5.out.tab.ok.gr key
                have h3 := len_put_le HM5.out.tab.ok.gr key
                have h4 := len_del_le HM5.out.tab.ok.dr key
                have := hB.out
                omega⟩
              by_cases h2 : kd = 2
              · have t1 : (kd == 2) = true := by rw [h2]; rfl
                have t2 : decide (kd = 2) = true := decide_eq_true h2
                have HDE : Bx (Calls Try.prog 13 #[.pointer (some ⟨t, 0, none⟩), .string SK] w5 fun e w' => e = .returned (.int .i64 0) ∧ MPost (del (·.1) s.1 key, put id s.2 key) t w5 P w') := ⟨by
                  have := mdel_any HM5.out.tab key hk63 hfw
                  rw [tDel_ok HKO.out s, HSK.out] at this
                  exact this⟩
                go_wp2_with fail
                refine HDE.out.mono ?_
                rintro e w6 ⟨rfl, hP⟩
                have hcP : Ch P w5 w6 := by obtain ⟨_, _, _, h⟩ := hP; exact h
                have g1' := hcP.cell (p := ⟨bx, 1, none⟩) HPB.out.1 g1
                obtain ⟨P6, hM6⟩ := HM5.out.call hP
                obtain ⟨w7, hdel, hM7⟩ := hM6.del (k := key) HDR.out HG.out hkm 0
                rw [HSK.out] at hdel
                have HM7 := Bx.mk hM7
                have HF7 := Bx.mk (hF.out.del HKO.out)
                clear hP hcP hM6 hM7 HDE g0 g1 g2
                go_wp2
                go_roundw
                case rel => exact ⟨k + 1, q + 1, P6, kl ++ [key], _, tv, by omega, by omega, by go_num, HM7, HF7, ⟨⟨HFW2.out.2.1, HFW2.out.2.2⟩⟩⟩
                case measure => simp [intOf]; omega
              · have t1 : (kd == 2) = false := by simpa using h2
                have t2 : decide (kd = 2) = false := decide_eq_false h2
                have HPU : Bx (Calls Try.prog 12 #[.pointer (some ⟨t, 0, none⟩), .string SK, .slice B tl cB] w5 fun e w' => e = .returned (.int .i64 0) ∧ MPost (put (·.1) s.1 (key, xs), del id s.2 key) t w5 P w') := ⟨by
                  have := mput_any (c0 := cB) HM5.out.tab key hk63 (HSL.out w5 HM5.out.keys.ch) HBY.out (by omega) hfw
                  rw [tPut_ok HKO.out HTS.out s, HSK.out] at this
                  exact this⟩
                go_wp2_with fail
                refine HPU.out.mono ?_
                rintro e w6 ⟨rfl, hP⟩
                have hcP : Ch P w5 w6 := by obtain ⟨_, _, _, h⟩ := hP; exact h
                have g1' := hcP.cell (p := ⟨bx, 1, none⟩) HPB.out.1 g1
                have g2' := hcP.cell (p := ⟨bx, 2, none⟩) HPB.out.1 g2
                obtain ⟨P6, hM6⟩ := HM5.out.call hP
                have hconv := conv_all (c := cB) (HSL.out w6 hM6.keys.ch)
                obtain ⟨w7, hup, hM7⟩ := hM6.put (k := key) HDR.out HG.out (by have := hB.out; unfold maxLen; omega) hkm xs (strOfNums xs)
                rw [HSK.out] at hup
                have HM7 := Bx.mk hM7
                have HF7 := Bx.mk (hF.out.put (x := xs) HKO.out)
                obtain ⟨SX, hSX⟩ : ∃ SX, strOfNums xs = SX := ⟨_, rfl⟩
                rw [hSX] at hconv hup
                clear hP hcP hM6 hM7 HPU g0 g1 g2 hSX
                go_wp2
                go_roundw
                case rel => exact ⟨k + 1, q + 1, P6, kl ++ [key], _, _, by omega, by omega, by go_num, HM7, HF7, ⟨⟨HFW2.out.1, HFW2.out.2.2⟩⟩⟩
                case measure => simp [intOf]; omega
      · have hdone : Bx (s.1.length + s.2.length ≤ 120 ∧ q ≤ 120) := ⟨by have := hB.out; omega⟩
        have hq : q ≤ 120 := hdone.out.2
        have HDR : Bx (RiseF (·.1) s.1) := ⟨hM.out.tab.ok.dr⟩
        have hx : ¬ k < n ∨ (k < n ∧ ¬ k < 120) := by omega
        have HKC : Bx (∀ key, key ∈ kl → ∃ (x : List Int) (hs : Bool), GR s.1 s.2 key x hs true ∧ (if key ∈ s.1.map (·.1) then tv key else .string ByteArray.empty) = .string (strOfNums x) ∧ decide (key ∈ s.1.map (·.1)) = hs ∧ key.length ≤ 64) := ⟨fun key hkey => by
          obtain ⟨h1, h2⟩ := hF.out.kn key hkey
          by_cases hd : ∃ d ∈ s.1, d.1 = key
          · obtain ⟨d, hd, rfl⟩ := hd
            have hmem : d.1 ∈ s.1.map (·.1) := List.mem_map.2 ⟨d, hd, rfl⟩
            obtain ⟨j, hj⟩ := List.getElem?_of_mem hd
            exact ⟨d.2, true, GR.some (at_first (fun i e hi he2 => keyne (hM.out.tab.ok.dr.at_lt hi he2 hj)) hj rfl), by rw [if_pos hmem]; exact hF.out.tv d hd, decide_eq_true hmem, h1.2⟩
          · have hmem : key ∉ s.1.map (·.1) := fun h => by
              obtain ⟨d, hd2, e⟩ := List.mem_map.1 h
              exact hd ⟨d, hd2, e⟩
            have hgs : key ∈ s.2 := h2.resolve_left hd
            exact ⟨[], false, GR.none (at_no (fun i d _ hi e => hd ⟨d, List.mem_of_getElem? hi, e⟩)) (decide_eq_true hgs), by rw [if_neg hmem]; rfl, decide_eq_false hmem, h1.2⟩⟩
        rcases hx with hx | ⟨hx, hx2⟩
        · have dk : decide ((k : Int) < (n : Int)) = false := decide_eq_false (by omega)
          clear hB hF
          go_wp2_with fail
          go_loopw [8] (fun i wx => ∃ j : Nat, j ≤ q ∧ i = .int .i64 j ∧ Bx (Ml W wx P t mt (.slice Ak q ck) q kl s s.1 tv)) (fun i _ => q - (intOf i).toNat)
          case atStart => exact ⟨0, Nat.zero_le _, rfl, hM⟩
          case round =>
            obtain ⟨j, hj, rfl, hN⟩ := hrel
            have hck63 : ck ≤ 9223372036854775807 := by
              obtain ⟨A', c', e, _, h⟩ := own_shape hN.out.keys.own
              have e3 : ck = c' := by cases e; rfl
              unfold maxLen at h
              omega
            by_cases hjq : j < q
            · have dj : decide ((j : Int) < (q : Int)) = true := decide_eq_true (by omega)
              have i4 : (j : Int) < (q : Int) := by omega
              obtain ⟨b2, o2, key, e2, _, hkey, hcu⟩ := Kss.at_ (show Kss wr _ Ak q kl from Vs.of_own hN.out.keys.own) hjq
              obtain ⟨xs, hs, hgr, hval, hhad, hkl⟩ := HKC.out key (List.mem_of_getElem? hkey.out)
              have hlk := hN.out.look (k := key) HDR.out (by unfold maxLen; omega)
              rw [hval, hhad] at hlk
              have HGT := Bx.mk (mgetp_any hN.out.tab key (by omega))
              have HGR := Bx.mk hgr
              obtain ⟨SK, hSK⟩ : ∃ SK : ByteArray, kv key = .string SK := ⟨_, rfl⟩
              rw [hSK] at hcu hlk HGT
              obtain ⟨SX, hSX⟩ : ∃ SX, strOfNums xs = SX := ⟨_, rfl⟩
              rw [hSX] at hlk
              have HSX := Bx.mk hSX
              have hb : (SX.toList != SX.toList) = false := by simp
              have hb2 : (hs != hs) = false := by simp
              subst e2
              clear hgr hval hhad hSK hSX hkey
              go_wp2_with fail
              refine HGT.out.mono ?_
              rintro e w5 ⟨v, x2, hs2, kn2, rfl, hfr, hg2⟩
              have hsame : x2 = xs ∧ hs2 = hs ∧ kn2 = true := by
                have h1 := HGR.out
                unfold GR at h1 hg2
                cases hat : at_ s.1 key with
                | some u =>
                  rw [hat] at h1 hg2
                  exact ⟨hg2.1.trans h1.1.symm, hg2.2.1.trans h1.2.1.symm, hg2.2.2⟩
                | none =>
                  rw [hat] at h1 hg2
                  exact ⟨hg2.1.trans h1.1.symm, hg2.2.1.trans h1.2.1.symm, hg2.2.2.trans h1.2.2.symm⟩
              obtain ⟨rfl, rfl, rfl⟩ := hsame
              obtain ⟨A5, c5, rfl, _, _⟩ := own_shape hfr.1
              have hconv := conv_all (c := c5) (Sl.of_own hfr.1)
              rw [HSX.out] at hconv
              have HN5 := Bx.mk (hN.out.keep hfr.2.2)
              clear hfr hg2 hlk hcu HGT HGR
              go_wp2
              go_roundw
              case rel => exact ⟨j + 1, by omega, by go_num, HN5⟩
              case measure => simp [intOf]; omega
            · have dj : decide ((j : Int) < (q : Int)) = false := decide_eq_false (by omega)
              obtain ⟨a, ha⟩ : ∃ a, s.1.length = a := ⟨_, rfl⟩
              obtain ⟨b, hbl⟩ : ∃ b, s.2.length = b := ⟨_, rfl⟩
              have hab : a + b ≤ 120 := by have := hdone.out.1; omega
              have HDO : Bx (∀ wx, Ml W wx P t mt (.slice Ak q ck) q kl s s.1 tv → Calls Try.prog 25 #[.pointer (some ⟨t, 0, none⟩)] wx fun e w' => ∃ A c, e = .returned (.slice A a c) ∧ Ml W w' P t mt (.slice Ak q ck) q kl s s.1 tv) := ⟨fun wx h => by
                have := mdocs_any h.tab
                rw [ha] at this
                exact this.mono fun e w' ⟨A, c, vs, h1, h2, _⟩ => ⟨A, c, h1, h.keep h2.dg.ch⟩⟩
              have HGO : Bx (∀ wx, Ml W wx P t mt (.slice Ak q ck) q kl s s.1 tv → Calls Try.prog 27 #[.pointer (some ⟨t, 0, none⟩)] wx fun e w' => ∃ A c, e = .returned (.slice A b c) ∧ Ml W w' P t mt (.slice Ak q ck) q kl s s.1 tv) := ⟨fun wx h => by
                refine (mgone_any h.tab).mono fun e w' ⟨A, n, c, h1, h2, _⟩ => ⟨A, c, ?_, h.keep h2.ch⟩
                have hl := h2.own.1
                simp at hl
                rw [h1, ← hbl, hl]⟩
              have HLE : Bx (∀ wx, Ml W wx P t mt (.slice Ak q ck) q kl s s.1 tv → Calls Try.prog 22 #[.pointer (some ⟨t, 0, none⟩)] wx fun e w' => e = .returned (.int .i64 ((a + b : Nat) : Int)) ∧ wx = w') := ⟨fun wx h => by
                have := mlenp_any h.tab
                rw [ha, hbl] at this
                exact this⟩
              have HML2 : Bx (∀ wx, Ml W wx P t mt (.slice Ak q ck) q kl s s.1 tv → ∀ ty, (Builtin.len_ #[58] ty #[.map (some mt)]).run Try.prog wx = .ok (.int .i64 (a : Int)) wx) := ⟨fun wx h ty => by
                have := h.map.len textT ty
                rw [size_mapK, List.length_map, ha] at this
                exact this⟩
              obtain ⟨ab, hab2⟩ : ∃ ab, a + b = ab := ⟨_, rfl⟩
              have f1 : IntKind.i64.wrap ((a : Int) + (b : Int)) = (ab : Int) := by rw [← hab2]; exact (IntWalk.i64_in _ (by omega)).trans (by omega)
              rw [hab2] at HLE
              have HD1 := Bx.mk (HDO.out _ hN.out)
              clear ha hbl hM
              go_wp2_with fail
              refine HD1.out.mono ?_
              rintro e w5 ⟨A5, c5, rfl, hN5⟩
              have HN5 := Bx.mk hN5
              have hlen := HML2.out _ hN5 3
              have HD2 := Bx.mk (HDO.out _ hN5)
              clear hN5 hN HD1
              go_wp2_with fail
              refine HD2.out.mono ?_
              rintro e w6 ⟨A6, c6, rfl, hN6⟩
              have HG6 := Bx.mk (HGO.out _ hN6)
              clear hN6 HD2 hlen
              go_wp2_with fail
              refine HG6.out.mono ?_
              rintro e w7 ⟨A7, c7, rfl, hN7⟩
              have HL7 := Bx.mk (HLE.out _ hN7)
              have HK7 := Bx.mk (HKN.out w7 hN7.keys.ch)
              clear hN7 HG6
              go_wp2_with fail
              refine HL7.out.mono ?_
              rintro e w8 ⟨rfl, rfl⟩
              go_wp2_with fail
              refine HK7.out.mono ?_
              rintro e w9 ⟨rfl, hc9⟩
              have HC9 := Bx.mk hc9
              clear hc9
              go_wp2_with fail
              go_ret
              exact ⟨rfl, HC9.out⟩
        · have dk : decide ((k : Int) < (n : Int)) = true := decide_eq_true (by omega)
          have dk2 : decide ((k : Int) < 120) = false := decide_eq_false (by omega)
          clear hB hF
          go_wp2_with fail
          go_loopw [8] (fun i wx => ∃ j : Nat, j ≤ q ∧ i = .int .i64 j ∧ Bx (Ml W wx P t mt (.slice Ak q ck) q kl s s.1 tv)) (fun i _ => q - (intOf i).toNat)
          case atStart => exact ⟨0, Nat.zero_le _, rfl, hM⟩
          case round =>
            obtain ⟨j, hj, rfl, hN⟩ := hrel
            have hck63 : ck ≤ 9223372036854775807 := by
              obtain ⟨A', c', e, _, h⟩ := own_shape hN.out.keys.own
              have e3 : ck = c' := by cases e; rfl
              unfold maxLen at h
              omega
            by_cases hjq : j < q
            · have dj : decide ((j : Int) < (q : Int)) = true := decide_eq_true (by omega)
              have i4 : (j : Int) < (q : Int) := by omega
              obtain ⟨b2, o2, key, e2, _, hkey, hcu⟩ := Kss.at_ (show Kss wr _ Ak q kl from Vs.of_own hN.out.keys.own) hjq
              obtain ⟨xs, hs, hgr, hval, hhad, hkl⟩ := HKC.out key (List.mem_of_getElem? hkey.out)
              have hlk := hN.out.look (k := key) HDR.out (by unfold maxLen; omega)
              rw [hval, hhad] at hlk
              have HGT := Bx.mk (mgetp_any hN.out.tab key (by omega))
              have HGR := Bx.mk hgr
              obtain ⟨SK, hSK⟩ : ∃ SK : ByteArray, kv key = .string SK := ⟨_, rfl⟩
              rw [hSK] at hcu hlk HGT
              obtain ⟨SX, hSX⟩ : ∃ SX, strOfNums xs = SX := ⟨_, rfl⟩
              rw [hSX] at hlk
              have HSX := Bx.mk hSX
              have hb : (SX.toList != SX.toList) = false := by simp
              have hb2 : (hs != hs) = false := by simp
              subst e2
              clear hgr hval hhad hSK hSX hkey
              go_wp2_with fail
              refine HGT.out.mono ?_
              rintro e w5 ⟨v, x2, hs2, kn2, rfl, hfr, hg2⟩
              have hsame : x2 = xs ∧ hs2 = hs ∧ kn2 = true := by
                have h1 := HGR.out
                unfold GR at h1 hg2
                cases hat : at_ s.1 key with
                | some u =>
                  rw [hat] at h1 hg2
                  exact ⟨hg2.1.trans h1.1.symm, hg2.2.1.trans h1.2.1.symm, hg2.2.2⟩
                | none =>
                  rw [hat] at h1 hg2
                  exact ⟨hg2.1.trans h1.1.symm, hg2.2.1.trans h1.2.1.symm, hg2.2.2.trans h1.2.2.symm⟩
              obtain ⟨rfl, rfl, rfl⟩ := hsame
              obtain ⟨A5, c5, rfl, _, _⟩ := own_shape hfr.1
              have hconv := conv_all (c := c5) (Sl.of_own hfr.1)
              rw [HSX.out] at hconv
              have HN5 := Bx.mk (hN.out.keep hfr.2.2)
              clear hfr hg2 hlk hcu HGT HGR
              go_wp2
              go_roundw
              case rel => exact ⟨j + 1, by omega, by go_num, HN5⟩
              case measure => simp [intOf]; omega
            · have dj : decide ((j : Int) < (q : Int)) = false := decide_eq_false (by omega)
              obtain ⟨a, ha⟩ : ∃ a, s.1.length = a := ⟨_, rfl⟩
              obtain ⟨b, hbl⟩ : ∃ b, s.2.length = b := ⟨_, rfl⟩
              have hab : a + b ≤ 120 := by have := hdone.out.1; omega
              have HDO : Bx (∀ wx, Ml W wx P t mt (.slice Ak q ck) q kl s s.1 tv → Calls Try.prog 25 #[.pointer (some ⟨t, 0, none⟩)] wx fun e w' => ∃ A c, e = .returned (.slice A a c) ∧ Ml W w' P t mt (.slice Ak q ck) q kl s s.1 tv) := ⟨fun wx h => by
                have := mdocs_any h.tab
                rw [ha] at this
                exact this.mono fun e w' ⟨A, c, vs, h1, h2, _⟩ => ⟨A, c, h1, h.keep h2.dg.ch⟩⟩
              have HGO : Bx (∀ wx, Ml W wx P t mt (.slice Ak q ck) q kl s s.1 tv → Calls Try.prog 27 #[.pointer (some ⟨t, 0, none⟩)] wx fun e w' => ∃ A c, e = .returned (.slice A b c) ∧ Ml W w' P t mt (.slice Ak q ck) q kl s s.1 tv) := ⟨fun wx h => by
                refine (mgone_any h.tab).mono fun e w' ⟨A, n, c, h1, h2, _⟩ => ⟨A, c, ?_, h.keep h2.ch⟩
                have hl := h2.own.1
                simp at hl
                rw [h1, ← hbl, hl]⟩
              have HLE : Bx (∀ wx, Ml W wx P t mt (.slice Ak q ck) q kl s s.1 tv → Calls Try.prog 22 #[.pointer (some ⟨t, 0, none⟩)] wx fun e w' => e = .returned (.int .i64 ((a + b : Nat) : Int)) ∧ wx = w') := ⟨fun wx h => by
                have := mlenp_any h.tab
                rw [ha, hbl] at this
                exact this⟩
              have HML2 : Bx (∀ wx, Ml W wx P t mt (.slice Ak q ck) q kl s s.1 tv → ∀ ty, (Builtin.len_ #[58] ty #[.map (some mt)]).run Try.prog wx = .ok (.int .i64 (a : Int)) wx) := ⟨fun wx h ty => by
                have := h.map.len textT ty
                rw [size_mapK, List.length_map, ha] at this
                exact this⟩
              obtain ⟨ab, hab2⟩ : ∃ ab, a + b = ab := ⟨_, rfl⟩
              have f1 : IntKind.i64.wrap ((a : Int) + (b : Int)) = (ab : Int) := by rw [← hab2]; exact (IntWalk.i64_in _ (by omega)).trans (by omega)
              rw [hab2] at HLE
              have HD1 := Bx.mk (HDO.out _ hN.out)
              clear ha hbl hM
              go_wp2_with fail
              refine HD1.out.mono ?_
              rintro e w5 ⟨A5, c5, rfl, hN5⟩
              have HN5 := Bx.mk hN5
              have hlen := HML2.out _ hN5 3
              have HD2 := Bx.mk (HDO.out _ hN5)
              clear hN5 hN HD1
              go_wp2_with fail
              refine HD2.out.mono ?_
              rintro e w6 ⟨A6, c6, rfl, hN6⟩
              have HG6 := Bx.mk (HGO.out _ hN6)
              clear hN6 HD2 hlen
              go_wp2_with fail
              refine HG6.out.mono ?_
              rintro e w7 ⟨A7, c7, rfl, hN7⟩
              have HL7 := Bx.mk (HLE.out _ hN7)
              have HK7 := Bx.mk (HKN.out w7 hN7.keys.ch)
              clear hN7 HG6
              go_wp2_with fail
              refine HL7.out.mono ?_
              rintro e w8 ⟨rfl, rfl⟩
              go_wp2_with fail
              refine HK7.out.mono ?_
              rintro e w9 ⟨rfl, hc9⟩
              have HC9 := Bx.mk hc9
              clear hc9
              go_wp2_with fail
              go_ret
              exact ⟨rfl, HC9.out⟩
end Go.Proofs.Ytpilekadcondnaa
