/-
  The contract of Build.
-/
import Derived.Test.YtbckiefkppgipaaDoorWaLay
namespace Go.Proofs.YtbckiefkppgipaaDoor
open Go.RowKit Go.Oct Go.Bi Go.Wa

theorem elemB : Elem Tryd.prog 48 4 (.bool false) 1 := ⟨Tryd.underlying48, by kernel_rfl, rfl⟩
theorem mkB (w : World) (n : Nat) (hn : n ≤ 1048576) : (Instr.makeSlice 48 (.int .i64 (n : Int)) (.int .i64 (n : Int))).run Tryd.prog w = .ok (.slice (some ⟨w.heap.size, 0, none⟩) n n) (w.alloc (.cells (madeCells #[.bool false] n) 4)) := run_mk2 elemB n (by omega) (by omega) w
def lvlZ : Value := .agg #[.pointer none, .int .i64 0]
theorem infoL : (Tryd.prog.info? 52).map (fun i => (i.zero, i.size, i.bytes)) = some (some lvlZ, 2, 16) := by kernel_rfl
theorem mkL (w : World) (n : Nat) (hn : n ≤ 1048576) : (Instr.makeSlice 45 (.int .i64 (n : Int)) (.int .i64 (n : Int))).run Tryd.prog w = .ok (.slice (some ⟨w.heap.size, 0, none⟩) n n) (w.alloc (.cells (madeCells lvlZ.cells (n * 2)) 52)) := by
  obtain ⟨i, hi, hz, hs, hby⟩ := info_parts infoL
  have hb' : (i.bytes : Int) * (n : Int) ≤ 281474976710656 := by
    rw [hby]
    have h : ((16 * n : Nat) : Int) ≤ 281474976710656 := by omega
    rwa [Int.natCast_mul] at h
  have hr := run_make (P := Tryd.prog) w 45 52 i lvlZ Tryd.underlying45 hi hz .i64 .i64 n n (by omega) (by omega) hb' (by omega)
  simp only [Int.toNat_natCast, hs] at hr
  exact hr
theorem ownL (w : World) (n : Nat) (hn : n ≤ 1048576) : Own (w.alloc (.cells (madeCells lvlZ.cells (n * 2)) 52)) 52 2 w.heap.size n n (madeCells lvlZ.cells (n * 2)).toList :=
  ⟨World.ownsRow_lit (base := 0) (e := 52) (size := 2) w (madeCells lvlZ.cells (n * 2)) n (Nat.zero_le _) (by unfold maxLen; omega) (by simp [madeCells])⟩

theorem ofUp_set {l : List Bool} {k : Nat} {b : Bool} (h : l[k]? = some b) : ((ofUp l k).map Value.bool).set k (.bool b) = (ofUp l (k + 1)).map Value.bool := by
  obtain ⟨h1, h2⟩ := List.getElem?_eq_some_iff.1 h
  rw [← List.map_set]
  refine congrArg (List.map Value.bool) ?_
  apply List.ext_getElem
  · simp [ofUp]
  · intro i g1 g2
    rw [List.getElem_set]
    simp only [ofUp, List.getElem_map, List.getElem_range]
    by_cases e : k = i
    · subst e
      rw [if_pos rfl, if_pos (by omega), List.getD_eq_getElem?_getD, h]
      rfl
    · rw [if_neg e]
      by_cases e2 : i < k
      · rw [if_pos e2, if_pos (by omega)]
      · rw [if_neg e2, if_neg (by omega)]

/-- A Tree under way: d levels are laid. -/
structure Way (w0 w : World) (G T W d n : Nat) (l : List Nat) (A : Option Addr) : Prop where
  ch : Ch (fun k => k = G) w0 w
  row : ∃ us : List Value, Own w 52 2 G W W us ∧ ∀ d', d' < d → ∃ v : Nat, us[d' * 2]? = some (.pointer (some ⟨v, 0, none⟩)) ∧ us[d' * 2 + 1]? = some (.int .i64 ((bt W l d').count false : Nat)) ∧ Vec w (fun k => T < k) v (bt W l d')
  syms : Sl w (fun k => k ≠ G) .i64 A n (asI (lv W l d))

theorem build_bad (W : Int) (xs : List Int) (A : Option Addr) (n c : Nat) (r : Int) (w : World) (F : Nat → Prop) (hs : Sl w F .i64 A n xs) (hn : n ≤ 9223372036854775807) (hr : bErr W xs = r) (h0 : r ≠ 0) :
    Calls Tryd.prog 8 #[.int .i64 W, .slice A n c] w fun e w' => e = .returned (.tuple #[.pointer none, .int .i64 r]) ∧ w = w' := by
  have HS := Bx.mk hs
  have HR := Bx.mk hr
  have e1 : (r != 0) = true := by simpa using h0
  clear hs hr
  go_enter Tryd.func8, Tryd.ntmps8
  go_wp2_with fail
  refine (check_any W xs A n c r _ HS.out hn HR.out).mono ?_
  rintro e w' ⟨rfl, rfl⟩
  go_wp2
  go_returns
  exact ⟨rfl, rfl⟩

set_option maxHeartbeats 4000000 in
theorem build_ok (W : Nat) (l : List Nat) (A : Option Addr) (n c : Nat) (w : World) (F : Nat → Prop) (hs : Sl w F .i64 A n (asI l)) (hW1 : 1 ≤ W) (hW2 : W ≤ 16) (hn : n ≤ 131072) (hlt : ∀ x ∈ l, x < 2 ^ W) (hc : n ≤ c) (hcm : c ≤ maxLen) (hr : bErr W (asI l) = 0) :
    Calls Tryd.prog 8 #[.int .i64 W, .slice A n c] w fun e w' => ∃ T : Nat, e = .returned (.tuple #[.pointer (some ⟨T, 0, none⟩), .int .i64 0]) ∧ Tr w' (fun k => w.heap.size ≤ k) T W l ∧ Ch (fun _ => False) w w' := by
  have hl : l.length = n := by rw [← asI_len]; exact hs.len
  have HS := Bx.mk hs
  have HR := Bx.mk hr
  have HL := Bx.mk hl
  have HLT := Bx.mk hlt
  have HCM := Bx.mk hcm
  have hmk := mkL w W (by omega)
  have ho := ownL w W (by omega)
  generalize madeCells lvlZ.cells (W * 2) = arr at *
  generalize hus : arr.toList = us0 at *
  have HO := Bx.mk ho
  clear hs hr hl hlt ho hcm
  go_enter Tryd.func8, Tryd.ntmps8
  go_wp2_with fail
  refine (check_any W (asI l) A n c 0 _ HS.out (by omega) HR.out).mono ?_
  rintro e w' ⟨rfl, rfl⟩
  go_wp2_with fail
  obtain ⟨G, hG⟩ : ∃ G, w.heap.size = G := ⟨_, rfl⟩
  obtain ⟨w0, hw0⟩ : ∃ w0, ((w.alloc (.cells arr 52)).alloc (.cells #[.slice (some ⟨w.heap.size, 0, none⟩) W W] 47)) = w0 := ⟨_, rfl⟩
  have hC0 : Ch (fun _ => False) w w0 := by rw [← hw0]; exact (((Ch.refl (fun _ => False) w).alloc _).alloc _)
  have hT0 : w0.cell? ⟨G + 1, 0, none⟩ = some (.slice (some ⟨G, 0, none⟩) W W) := by
    rw [← hw0, ← hG]
    exact cell_new_at (by rw [World.size_alloc])
  have hsz : w0.heap.size = G + 2 := by rw [← hw0, World.size_alloc, World.size_alloc, hG]
  have hO0 : Own w0 52 2 G W W us0 := by
    rw [← hw0, ← hG]
    exact HO.out.keep ((Ch.refl (fun _ => False) _).alloc _)
  have hS0 : Sl w0 (fun k => k ≠ G) .i64 A n (asI l) := (HS.out.mono (G := fun k => k ≠ G) (fun b hb _ => by omega)).ch hC0 (fun _ _ _ h => h)
  rw [hw0, hG]
  have HC0 := Bx.mk hC0
  have HT0 := Bx.mk hT0
  have HW0 : Bx (Way w0 w0 G (G + 1) W 0 n l A) := ⟨⟨Ch.refl _ _, ⟨us0, hO0, fun d' hd' => absurd hd' (by omega)⟩, hS0⟩⟩
  have HGB := Bx.mk hG
  clear hC0 hT0 hO0 hS0 hw0 hG HO HS hmk
  go_loopw [1, 8, 9, 10, 11, 27] (fun s _ _ _ _ i wr => ∃ (d : Nat) (A' : Option Addr) (c' : Nat), d ≤ W ∧ i = .int .i64 d ∧ s = .slice A' n c' ∧ n ≤ c' ∧ c' ≤ maxLen ∧ Way w0 wr G (G + 1) W d n l A') (fun _ _ _ _ _ i _ => W - (intOf i).toNat)
  case atStart => exact ⟨0, A, c, Nat.zero_le _, rfl, rfl, hc, HCM.out, HW0.out⟩
  case round =>
    obtain ⟨d, A', c', hd, rfl, rfl, hc1, hc2, hWay⟩ := hrel
    by_cases hdW : d < W
    · obtain ⟨wo, rfl⟩ : ∃ wo : World, wo = wr := ⟨_, rfl⟩
      have ek : decide ((d : Int) < (W : Int)) = true := by simp; omega
      have hmk := mkB wo n (by omega)
      have hcT := hWay.ch.cell (p := ⟨G + 1, 0, none⟩) (fun h => by have h' : G + 1 = G := h; omega) HT0.out
      have HWay := Bx.mk hWay
      have HLV : Bx (∀ x ∈ lv W l d, x < 2 ^ W) := ⟨fun x hx => HLT.out x (lv_mem hx)⟩
      have HLL : Bx ((lv W l d).length = n) := ⟨by rw [lv_len]; exact HL.out⟩
      have HBL : Bx ((bt W l d).length = n) := ⟨by rw [bt_len]; exact HL.out⟩
      have HC2 := Bx.mk hc2
      have hwsz : G + 2 ≤ wo.heap.size := by have := hWay.ch.size; omega
      obtain ⟨Dg, hDg⟩ : ∃ Dg, wo.heap.size = Dg := ⟨_, rfl⟩
      have hGD : G + 2 ≤ Dg := by omega
      obtain ⟨w1, hw1⟩ : ∃ w1, wo.alloc (.cells (madeCells #[.bool false] n) 4) = w1 := ⟨_, rfl⟩
      have hC1 : Ch (fun _ => False) wo w1 := by rw [← hw1]; exact (Ch.refl (fun _ => False) wo).alloc _
      have hO1 : Own w1 4 1 Dg n n ((ofUp (bt W l d) 0).map Value.bool) := by
        rw [ofUp_zero, HBL.out, List.map_replicate, ← hw1, ← hDg]
        exact own_made1 wo 4 (.bool false) n (by omega)
      have hS1 : Sl w1 (fun k => k ≠ Dg) .i64 A' n (asI (lv W l d)) := (hWay.syms.mono (G := fun k => k ≠ Dg) (fun b hb _ => by omega)).ch hC1 (fun _ _ _ h => h)
      have hcT1 := hC1.cell (fun h => h) hcT
      have hsz1 : w1.heap.size = Dg + 1 := by rw [← hw1, World.size_alloc, hDg]
      have HO1 := Bx.mk hO1
      have HS1 := Bx.mk hS1
      have HC1 := Bx.mk hC1
      have HDg := Bx.mk hDg
      clear hWay hc2 hO1 hS1 hC1
      go_wp2_with fail
      clear hw1 hDg hmk hcT
      go_loopw [10, 11, 35] (fun _ _ i wr => ∃ j : Nat, j ≤ n ∧ i = .int .i64 j ∧ Own wr 4 1 Dg n n ((ofUp (bt W l d) j).map Value.bool) ∧ Ch (fun k => k = Dg) w1 wr) (fun _ _ i _ => n - (intOf i).toNat)
      case atStart => exact ⟨0, Nat.zero_le _, rfl, HO1.out, Ch.refl _ _⟩
      case round =>
        obtain ⟨j, hj, rfl, hO, hC⟩ := hrel
        by_cases hjn : j < n
        · obtain ⟨b1, o1, x0, rfl, _, hx0, hcx⟩ := (HS1.out.ch hC (fun b hb _ (h : b = Dg) => hb h)).at_ hjn
          have hx : (lv W l d)[j]? = some ((lv W l d).getD j 0) := by rw [List.getD_eq_getElem?_getD, List.getElem?_eq_getElem (by rw [HLL.out]; exact hjn)]; rfl
          have hx0' := hx0.out
          unfold asI at hx0'
          rw [List.getElem?_map, hx] at hx0'
          simp only [Option.map_some, Option.some.injEq] at hx0'
          rw [← hx0'] at hcx
          have hxm := HLV.out _ (List.mem_of_getElem? hx)
          generalize (lv W l d).getD j 0 = x at *
          have hbx : (bt W l d)[j]? = some (dgt W d x) := by unfold bt; rw [List.getElem?_map, hx]; rfl
          have hst := hO.stored j (.bool (dgt W d x))
          rw [ofUp_set hbx] at hst
          obtain ⟨r, hr⟩ : ∃ r, dgt W d x = r := ⟨_, rfl⟩
          rw [hr] at hst
          have hcd := hO.cellAt (j := j) (u := .bool ((ofUp (bt W l d) j).getD j false)) (by
            rw [List.getElem?_map, List.getD_eq_getElem?_getD, List.getElem?_eq_getElem (by rw [ofUp_len, HBL.out]; exact hjn)]
            rfl)
          have hfz := hO.frozenAt j
          have hct := hC.cell (p := ⟨G + 1, 0, none⟩) (fun h => by have h' : G + 1 = Dg := h; omega) hcT1
          generalize (ofUp (bt W l d) j).getD j false = old at *
          have HST := Bx.mk hst
          have HR2 := Bx.mk hr
          have HXM := Bx.mk hxm
          have HCQ := Bx.mk hC
          clear hst hr hx hx0 hx0' hbx hO hC hxm
          go_wp2_with fail
          refine (digit_any (G + 1) W W x d _ r _ hct hW2 hdW HXM.out HR2.out).mono ?_
          rintro e w' ⟨rfl, rfl⟩
          go_wp2
          go_roundw
          case rel => exact ⟨j + 1, by omega, by go_num, HST.out.1, HCQ.out.trans HST.out.2 (fun i hi (h : i = Dg) => h)⟩
          case measure => simp [intOf]; omega
        · have hjn' : j = n := by omega
          have eAll : ofUp (bt W l d) n = bt W l d := by
            rw [← HBL.out]
            exact ofUp_all _
          rw [hjn', eAll] at hO
          have hCq : Ch (fun _ => False) wo wr := HC1.out.trans hC (fun i hi (h : i = Dg) => by have := HDg.out; omega)
          obtain ⟨us, hus, hlv⟩ := HWay.out.row
          have husq := hus.keep hCq
          have hul := hus.len
          have hg0 : us[d * 2]? = some us[d * 2] := List.getElem?_eq_getElem (by omega)
          have hg1 : us[d * 2 + 1]? = some us[d * 2 + 1] := List.getElem?_eq_getElem (by omega)
          have hc0 := husq.cellAt hg0
          have hc1' := husq.cellAt hg1
          have hf0 := husq.frozenAt (d * 2)
          have hf1 := husq.frozenAt (d * 2 + 1)
          have hcTq := hCq.cell (p := ⟨G + 1, 0, none⟩) (fun h => h) (HWay.out.ch.cell (p := ⟨G + 1, 0, none⟩) (fun h => by have h' : G + 1 = G := h; omega) HT0.out)
          have HSB : Bx (Sb wr (fun b => b = Dg) (some ⟨Dg, 0, none⟩) n (bt W l d)) := ⟨hO.vs⟩
          generalize hu0 : us[d * 2] = u0 at *
          generalize hu1 : us[d * 2 + 1] = u1 at *
          obtain ⟨z, hz⟩ : ∃ z, (bt W l d).count false = z := ⟨_, rfl⟩
          have HZ := Bx.mk hz
          have HUS := Bx.mk husq
          have HLVS := Bx.mk hlv
          have HCQ := Bx.mk hCq
          have HUL := Bx.mk hul
          have hqs := hCq.size
          have g0 : (0 : Int) ≤ (d : Int) := by omega
          have g1 : (d : Int) < (W : Int) := by omega
          have HSY : Bx (Sl wr (fun k => k ≠ G) .i64 A' n (asI (lv W l d))) := ⟨HWay.out.syms.ch hCq (fun _ _ _ h => h)⟩
          have hnm : n ≤ maxLen := by unfold maxLen; omega
          have ej : decide ((j : Int) < (n : Int)) = false := by simp; omega
          clear hO hC hCq hus husq hlv hul hg0 hg1 hu0 hu1 hz hjn' hj
          go_wp2_with fail
          go_region_held3 (fun w' => w'.cell? ⟨G + 1, 0, none⟩ = some (.slice (some ⟨G, 0, none⟩) W W)) (first | go_keep | exact s2 | exact hcTq) ((go_at_call 24; refine (lay_any (bt W l d) _ n n z _ (fun b => b = Dg) (by exact HSB.out) hn (Nat.le_refl _) hnm HZ.out).mono ?_; rintro e w2 ⟨v, rfl, hv2, hc2⟩; have s2 := hc2.cell (p := ⟨G + 1, 0, none⟩) (fun h => h) hcTq; have s3 := hc2.cell (p := ⟨G, d * 2, none⟩) (fun h => h) hc0; have s4 := hc2.cell (p := ⟨G, d * 2 + 1, none⟩) (fun h => h) hc1'; have s5 := (hc2.frozen (p := ⟨G, d * 2, none⟩) (fun h => h) (lt_of_cell hc0)).trans hf0; have s6 := (hc2.frozen (p := ⟨G, d * 2 + 1, none⟩) (fun h => h) (lt_of_cell hc1')).trans hf1))
          all_goals
            generalize hws : World.setCell (World.setCell w2 _ _) _ _ = ws at *
            have hCs : Ch (fun k => k = G) w2 ws := by rw [← hws]; exact ((Ch.refl (fun k => k = G) w2).setCell (p := ⟨G, d * 2, none⟩) (.inl rfl) _).setCell (p := ⟨G, d * 2 + 1, none⟩) (.inl rfl) _
            have hd2 : Ch (fun _ => False) wr w2 := ((Ch.refl (fun _ => False) wr).drew).trans hc2 (fun _ _ h => h)
            have hOs : Own ws 52 2 G W W ((us.set (d * 2) (.pointer (some ⟨v, 0, none⟩))).set (d * 2 + 1) (.int .i64 z)) := by
              rw [← hws]
              exact (((HUS.out.keep hd2).stored (d * 2) _).1.stored (d * 2 + 1) _).1
            have hrs : wr.heap.size ≤ w2.heap.size := hd2.size
            have hCrs : Ch (fun k => k = G) wr ws := (hd2.mono (fun _ _ h => h.elim)).trans hCs (fun _ _ h => h)
            have hVs : Vec ws (fun k => wr.heap.size ≤ k) v (bt W l d) := hv2.ch hCs (fun k hk _ (e : k = G) => by have hk' : wr.heap.size ≤ k := hk; omega)
            have hSs : Sl ws (fun k => k ≠ G) .i64 A' n (asI (lv W l d)) := HSY.out.ch hCrs (fun k hk _ e => hk e)
            have hBs : Sb ws (fun b => b = Dg) (some ⟨Dg, 0, none⟩) n ((lv W l d).map (dgt W d)) := Vs.ch HSB.out hCrs (fun k (hk : k = Dg) _ (e : k = G) => by omega)
            have HSs := Bx.mk hSs
            have HBs := Bx.mk hBs
            have HVs := Bx.mk hVs
            have HOs := Bx.mk hOs
            have HCrs := Bx.mk hCrs
            have hss : wr.heap.size ≤ ws.heap.size := hCrs.size
            clear hws hCs hd2 hOs hCrs hVs hSs hBs hc2 hv2 s2 s3 s4 s5 s6 hc0 hc1' hf0 hf1
            go_wp2_with fail
            refine (split_any (lv W l d) (dgt W d) n c' n A' _ _ HSs.out HBs.out hn).mono ?_
            rintro e w3 ⟨g, cc, rfl, hs3, hg3, hcc1, hcc2, hc3⟩
            have hWay : Way w0 w3 G (G + 1) W (d + 1) n l (some ⟨g, 0, none⟩) := by
              refine ⟨((HWay.out.ch.trans HCQ.out (fun _ _ h => h.elim)).trans HCrs.out (fun _ _ h => h)).trans hc3 (fun _ _ h => h.elim), ⟨_, HOs.out.keep hc3, fun d' hd' => ?_⟩, hs3.mono (fun b _ (hb : b = g) => by omega)⟩
              by_cases e : d' = d
              · subst e
                refine ⟨v, ?_, ?_, ?_⟩
                · rw [List.getElem?_set_ne (by omega), List.getElem?_set_self (by have := HUL.out; omega)]
                · rw [List.getElem?_set_self (by rw [List.length_set]; have := HUL.out; omega), HZ.out]
                · exact (HVs.out.keep hc3).mono (fun k _ hk => by omega)
              · obtain ⟨v', k1, k2, k3⟩ := HLVS.out d' (by omega)
                refine ⟨v', ?_, ?_, ?_⟩
                · rw [List.getElem?_set_ne (by omega), List.getElem?_set_ne (by omega)]
                  exact k1
                · rw [List.getElem?_set_ne (by omega), List.getElem?_set_ne (by omega)]
                  exact k2
                · exact ((k3.keep HCQ.out).ch HCrs.out (fun k hk _ (e : k = G) => by omega)).keep hc3
            have HWay2 := Bx.mk hWay
            have HCC := Bx.mk hcc2
            clear hWay hs3 hg3 hcc2 hc3
            go_wp2
            go_roundw
            case rel => exact ⟨d + 1, some ⟨g, 0, none⟩, cc, by omega, by go_num, rfl, hcc1, HCC.out, HWay2.out⟩
            case measure => simp [intOf]; omega
    · obtain rfl : d = W := by omega
      obtain ⟨us, hus, hlv⟩ := hWay.row
      have hT : Tr wr (fun k => w.heap.size ≤ k) (G + 1) d l := by
        refine ⟨hW1, hW2, by rw [HL.out]; exact hn, HLT.out, G, ?_, by have := HGB.out; omega, by have := HGB.out; omega, fun d' hd' => ?_⟩
        · exact hWay.ch.cell (p := ⟨G + 1, 0, none⟩) (fun h => by have h' : G + 1 = G := h; omega) HT0.out
        · obtain ⟨v, k1, k2, k3⟩ := hlv d' hd'
          exact ⟨v, hus.cellAt k1, hus.cellAt k2, k3.mono (fun k _ hk => by have := HGB.out; omega)⟩
      have hC : Ch (fun _ => False) w wr := HC0.out.trans hWay.ch (fun i hi (e : i = G) => by have := HGB.out; omega)
      have HT := Bx.mk hT
      have HC := Bx.mk hC
      clear hus hlv hT hC hWay
      go_wp2
      go_returns
      exact ⟨_, rfl, HT.out, HC.out⟩
end Go.Proofs.YtbckiefkppgipaaDoor
