/-
  The contract of an Index's write: every eighth place written down, both ways.
  Conditions: the Index's Tree and counts are what they say.
-/
/-
  The contract of index: the Index of a row of texts and its Turn.
  Conditions: the rows read as they say; the table's variable starts as the program's text lays it.
-/
import Derived.Test.YtckkjccjkdidjaaGreatDoorFxD
import Derived.Test.YtckkjccjkdidjaaGreatDoorWaE
import Derived.Test.YtckkjccjkdidjaaGreatDoorBwE
namespace Go.Proofs.YtckkjccjkdidjaaGreatDoor.X
open Go.RowKit Go.Oct Go.Su

theorem mk64 (w : World) (n : Nat) (hn : n ≤ 1048576) : (Instr.makeSlice 93 (.int .i64 (n : Int)) (.int .i64 (n : Int))).run Tryz.prog w = .ok (.slice (some ⟨w.heap.size, 0, none⟩) n n) (w.alloc (.cells (madeCells #[.int .u64 0] n) 88)) := K.run_mk2 K.elem64 n (by omega) (by omega) w
theorem mkO (w : World) (n : Nat) (hn : n ≤ 1048576) : (Instr.makeSlice 83 (.int .i64 (n : Int)) (.int .i64 (n : Int))).run Tryz.prog w = .ok (.slice (some ⟨w.heap.size, 0, none⟩) n n) (w.alloc (.cells (madeCells #[.bool false] n) 4)) := W.mkB w n hn
/-- What write leaves. -/
def Wrote (l L : List Nat) (b : Nat) (u0 u1 u2 : Value) (w : World) (e : Ending) (w' : World) : Prop := e = .returned (.tuple #[]) ∧ ∃ vk pb ob : Nat, Own w' 72 6 b 1 1 [u0, u1, u2, .pointer (some ⟨vk, 0, none⟩), .pointer (some ⟨pb, 0, none⟩), .pointer (some ⟨ob, 0, none⟩)] ∧ W.Vec w' (fun k => w.heap.size ≤ k) vk (knw L) ∧ Arr w' (fun k => w.heap.size ≤ k) pb (plcs L) ∧ Arr w' (fun k => w.heap.size ≤ k) ob (ords (asI l)) ∧ Ch (fun k => k = b) w w'
theorem two_words (w : World) (m : Nat) (hm : m ≤ 1048576) : K.Ow ((w.alloc (.cells (madeCells #[.int .u64 0] m) 88)).alloc (.cells (madeCells #[.int .u64 0] m) 88)).drew w.heap.size m (List.replicate m 0) ∧ K.Ow ((w.alloc (.cells (madeCells #[.int .u64 0] m) 88)).alloc (.cells (madeCells #[.int .u64 0] m) 88)).drew (w.heap.size + 1) m (List.replicate m 0) ∧ Ch (fun _ => False) w ((w.alloc (.cells (madeCells #[.int .u64 0] m) 88)).alloc (.cells (madeCells #[.int .u64 0] m) 88)).drew := by
  refine ⟨(K.ow_made w m hm).keep (((Ch.refl _ _).alloc _).drew), ?_, (((Ch.refl _ _).alloc _).alloc _).drew⟩
  have h := K.ow_made (w.alloc (.cells (madeCells #[.int .u64 0] m) 88)) m hm
  rw [World.size_alloc] at h
  exact h.keep ((Ch.refl _ _).drew)
theorem pack_val {F : Nat → Prop} (l : List Nat) (A : Option Addr) (n c : Nat) (w : World) (hs : K.Sn w F A l) (hn : l.length = n) (hm : n ≤ 1048576) (hc : n ≤ c) (h64 : ∀ x ∈ l, x < 18446744073709551616) :
    Calls Tryz.prog 89 #[.slice A n c] w fun e w' => ∃ pb : Nat, e = .returned (.pointer (some ⟨pb, 0, none⟩)) ∧ Arr w' (fun k => w.heap.size ≤ k) pb l ∧ Ch (fun _ => False) w w' := by
  subst hn
  refine (K.pack_any l A c w F hs hm hc h64).mono ?_
  rintro e w' ⟨rfl, ⟨ws, h1, h2⟩, hC⟩
  exact ⟨_, rfl, ⟨_, _, ws, h1, h2, by omega, Nat.le_refl _⟩, hC⟩
theorem bool_cell {w : World} {g n c : Nat} {l : List Bool} (h : Own w 4 1 g n c (l.map Value.bool)) {j : Nat} (hj : j < l.length) : ∃ o : Bool, w.cell? ⟨g, j, none⟩ = some (.bool o) := ⟨l[j], h.cellAt (by rw [List.getElem?_map, List.getElem?_eq_getElem hj]; rfl)⟩
theorem way_lt {s : List Int} {l L : List Nat} {n q : Nat} (ht : Turned s (asI l)) (hL : IsSA s L) (hn : l.length = n) (hq : q < n) : L[way (asI l) (n - 1 - q)]? = some q ∧ way (asI l) (n - 1 - q) < n := by
  have h1 := ht.len
  rw [asI_len, hn] at h1
  have h2 := way_at ht hL (x := q) (by omega)
  rw [asI_len, hn] at h2
  obtain ⟨h3, _⟩ := List.getElem?_eq_some_iff.1 h2
  have h4 := hL.len
  exact ⟨h2, by omega⟩
section
variable {F : Nat → Prop} {s : List Int} {l L : List Nat} {T c b : Nat} {A : Option Addr}
set_option maxRecDepth 100000 in
set_option maxHeartbeats 4000000 in
theorem write_any (n : Nat) (u2 u3 u4 u5 : Value) (w : World) (hc : Core w F T A c l) (ht : Turned s (asI l)) (hL : IsSA s L) (hn : l.length = n) (h6 : n ≤ 65536)
    (hO : Own w 72 6 b 1 1 [.pointer (some ⟨T, 0, none⟩), .slice A 513 c, u2, u3, u4, u5]) :
    Calls Tryz.prog 57 #[.pointer (some ⟨b, 0, none⟩)] w (Wrote l L b (.pointer (some ⟨T, 0, none⟩)) (.slice A 513 c) u2 w) := by
  have c0 := hO.cellAt (j := 0) rfl
  have HCO := Bx.mk hc
  have HT := Bx.mk ht
  have HL := Bx.mk hL
  have HN := Bx.mk hn
  have HO := Bx.mk hO
  obtain ⟨m, hm⟩ : ∃ m, smp n = m := ⟨_, rfl⟩
  have HM := Bx.mk hm
  have hm8 : m ≤ 8192 := by unfold smp at hm; omega
  have hdiv : ((n : Int) + 8 - 1) / 8 = (m : Int) := by unfold smp at hm; omega
  have hmk1 := mk64 w.drew m (by omega)
  have hmk2 := mk64 (w.alloc (.cells (madeCells #[.int .u64 0] m) 88)).drew m (by omega)
  clear hc ht hL hn hm hO
  go_enter Tryz.func57, Tryz.ntmps57
  go_wp2_with fail
  refine (W.tlen_any T 9 n l _ HCO.out.tr HN.out).mono ?_
  rintro e w' ⟨rfl, rfl⟩
  go_upto_region 2 with fail
  rw [hdiv]
  go_cut [4, 5] from 21 to 24 (fun s4 s5 wx => ∃ g1 g2 : Nat, s4 = .slice (some ⟨g1, 0, none⟩) m m ∧ s5 = .slice (some ⟨g2, 0, none⟩) m m ∧ Bx (K.Ow wx g1 m (List.replicate m 0) ∧ K.Ow wx g2 m (List.replicate m 0) ∧ w.heap.size ≤ g1 ∧ w.heap.size ≤ g2 ∧ g1 ≠ g2 ∧ Ch (fun _ => False) w wx))
  case first =>
    go_region
    all_goals
      go_wp2_with fail
      go_meet
      have h2 := two_words w m (by omega)
      first | exact ⟨_, _, rfl, rfl, ⟨h2.1, h2.2.1, Nat.le_refl _, by omega, by omega, h2.2.2⟩⟩ | exact ⟨_, _, rfl, rfl, ⟨h2.2.1, h2.1, by omega, Nat.le_refl _, by omega, h2.2.2⟩⟩
  case rest =>
    obtain ⟨g1, g2, rfl, rfl, hG⟩ := hcut
    clear hmk1 hmk2
    have hg1 := hG.out.2.2.1
    have hg2 := hG.out.2.2.2.1
    have hg12 := hG.out.2.2.2.2.1
    have HC2 := Bx.mk hG.out.2.2.2.2.2
    have HB : Bx (b < w.heap.size) := ⟨HO.out.lt⟩
    have hbw := HB.out
    obtain ⟨w2, hw2⟩ : ∃ w2 : World, w2 = wc := ⟨_, rfl⟩
    have hmk := mkO wc n (by omega)
    have hown := own_made1 wc 4 (.bool false) n (by omega)
    go_wp2_with fail
    obtain ⟨g3, hg3⟩ : ∃ g3, wc.heap.size = g3 := ⟨_, rfl⟩
    have HK0 : Bx (Own (wc.alloc (.cells (madeCells #[.bool false] n) 4)) 4 1 g3 n n ((upK L n).map Value.bool)) := ⟨by
      have e := upK_start HL.out
      rw [show s.length = n by rw [← HT.out.len, asI_len, HN.out]] at e
      rw [e, List.map_replicate, ← hg3]
      exact hown⟩
    have hC3 : Ch (fun _ => False) wc (wc.alloc (.cells (madeCells #[.bool false] n) 4)) := (Ch.refl (fun _ => False) wc).alloc _
    have HOA : Bx (K.Ow (wc.alloc (.cells (madeCells #[.bool false] n) 4)) g1 m (upO (asI l) n)) := ⟨by
      have e := upO_start (asI l)
      rw [asI_len, HN.out, HM.out] at e
      rw [e]
      exact hG.out.1.keep hC3⟩
    have HPA : Bx (K.Ow (wc.alloc (.cells (madeCells #[.bool false] n) 4)) g2 m (List.replicate m 0)) := ⟨hG.out.2.1.keep hC3⟩
    have hl1 := hG.out.1.lt
    have hl2 := hG.out.2.1.lt
    have hg31 : g1 ≠ g3 := by omega
    have hg32 : g2 ≠ g3 := by omega
    have hg3w : w.heap.size ≤ g3 := by have := HC2.out.size; omega
    have HC3 := Bx.mk (HC2.out.trans hC3 (fun _ _ h => h))
    rw [hg3]
    clear hmk hown hC3 hG hl1 hl2 hg3 hw2 HC2
    generalize wc.alloc (.cells (madeCells #[.bool false] n) 4) = w3 at *
    have HWAY : Bx (∀ q, q < n → L[way (asI l) (n - 1 - q)]? = some q ∧ way (asI l) (n - 1 - q) < n) := ⟨fun q hq => way_lt HT.out HL.out HN.out hq⟩
    go_loopw [7, 8] (fun av iv wr => ∃ p : Nat, p ≤ n ∧ iv = .int .i64 ((p : Int) - 1) ∧ av = .int .i64 (way (asI l) (n - p) : Nat) ∧ K.Ow wr g1 m (upO (asI l) p) ∧ K.Ow wr g2 m (List.replicate m 0) ∧ Own wr 4 1 g3 n n ((upK L p).map Value.bool) ∧ Ch (fun _ => False) w wr) (fun _ iv _ => (intOf iv + 1).toNat)
    case atStart => exact ⟨n, Nat.le_refl _, rfl, by rw [Nat.sub_self]; rfl, HOA.out, HPA.out, HK0.out, HC3.out⟩
    case round =>
      obtain ⟨p, hp, rfl, rfl, hOA, hPA, hK, hC⟩ := hrel
      rcases p with _ | q
      · have HK : Bx (Own wr 4 1 g3 n n ((knw L).map Value.bool)) := ⟨by rw [← upK_all]; exact hK⟩
        have HOA : Bx (K.Ow wr g1 m (ords (asI l))) := ⟨by rw [← upO_all]; exact hOA⟩
        have HPA := Bx.mk hPA
        have HC := Bx.mk hC
        have hLn : L.length = n := by rw [HL.out.len, ← HT.out.len, asI_len, HN.out]
        have hof := W.of_any (knw L) (some ⟨g3, 0, none⟩) n n wr (fun b => b = g3) HK.out.vs (by omega) (Nat.le_refl _) (by omega)
        clear hOA hPA hK hC hLn
        go_wp2_with fail
        refine hof.mono ?_
        rintro e w4 ⟨vk, rfl, hV, hC4⟩
        have hC5 := HC.out.trans hC4 (fun _ _ h => h)
        have hO5 := HO.out.keep hC5
        have k3 := hO5.cellAt (j := 3) rfl
        have f3 := hO5.frozenAt 3
        have hst := hO5.stored 3 (.pointer (some ⟨vk, 0, none⟩))
        obtain ⟨w5, hw5⟩ : ∃ w5 : World, w4.setCell ⟨b, 3, none⟩ (.pointer (some ⟨vk, 0, none⟩)) = w5 := ⟨_, rfl⟩
        rw [hw5] at hst
        have HW5 := Bx.mk hw5
        have HOB : Bx (Own w5 72 6 b 1 1 [.pointer (some ⟨T, 0, none⟩), .slice A 513 c, u2, .pointer (some ⟨vk, 0, none⟩), u4, u5]) := ⟨hst.1⟩
        have HV5 : Bx (W.Vec w5 (fun k => w.heap.size ≤ k ∧ k ≠ g2) vk (knw L)) := ⟨(hV.mono (G := fun k => w.heap.size ≤ k ∧ k ≠ g2) (fun k _ (h : wr.heap.size ≤ k) => by have h1 := HC.out.size; have h2 := HPA.out.lt; exact ⟨by omega, by omega⟩)).ch hst.2 (fun k (hk : w.heap.size ≤ k ∧ k ≠ g2) _ (e : k = b) => by omega)⟩
        have HC5 : Bx (Ch (fun k => k = b) w w5) := ⟨(hC5.mono (fun _ _ h => h.elim)).trans hst.2 (fun _ _ h => h)⟩
        have HOA5 := Bx.mk ((HOA.out.keep hC4).ch hst.2 (fun (e : g1 = b) => by omega))
        have HPA5 := Bx.mk ((HPA.out.keep hC4).ch hst.2 (fun (e : g2 = b) => by omega))
        have HPL : Bx ((plcs L).length = m) := ⟨by rw [plcs_len HL.out, ← HT.out.len, asI_len, HN.out, HM.out]⟩
        have HOL : Bx ((ords (asI l)).length = m) := ⟨by rw [ords_len, asI_len, HN.out, HM.out]⟩
        clear hV hC4 hC5 hO5 hst hw5 hof HK HOA HPA HC
        go_wp2_with fail
        rw [HW5.out]
        have HPU : Bx (K.Ow w5 g2 m (upP L 0)) := ⟨by rw [upP_start, HPL.out]; exact HPA5.out⟩
        clear HPA5
        go_loopw [9, 10, 61] (fun _ _ iv wr => ∃ k : Nat, k ≤ m ∧ iv = .int .i64 k ∧ K.Ow wr g2 m (upP L k) ∧ Ch (fun x => x = g2) w5 wr) (fun _ _ iv _ => m - (intOf iv).toNat)
        case atStart => exact ⟨0, Nat.zero_le _, rfl, HPU.out, Ch.refl _ _⟩
        case round =>
          obtain ⟨k, hk, rfl, hP, hC⟩ := hrel
          have hO6 := HOB.out.ch hC (fun (e : b = g2) => by omega)
          have HA6 := Bx.mk (HOA5.out.ch hC (fun (e : g1 = g2) => hg12 e))
          have HV6 := Bx.mk (HV5.out.ch hC (fun x (hx : w.heap.size ≤ x ∧ x ≠ g2) _ (e : x = g2) => hx.2 e))
          by_cases hlt : k < m
          · have h8k : 8 * k < n := smp_lt (by rw [HM.out]; exact hlt)
            obtain ⟨hj, hjn⟩ := HWAY.out (8 * k) h8k
            have hx : (ords (asI l))[k]? = some (way (asI l) (n - 1 - 8 * k)) := by rw [ords_get (by rw [asI_len, HN.out, HM.out]; exact hlt), asI_len, HN.out]
            have hr := plcs_at hj (by omega)
            rw [show 8 * k / 8 = k by omega] at hr
            generalize way (asI l) (n - 1 - 8 * k) = j at *
            obtain ⟨r, hrr⟩ : ∃ r : Nat, Go.Bi.rk (knw L) true j = r := ⟨_, rfl⟩
            rw [hrr] at hr
            have HRK : Bx (((Go.Bi.rk (knw L) true (j : Nat) : Nat) : Int) = (r : Nat)) := ⟨by rw [hrr]⟩
            obtain ⟨hrm, _⟩ := List.getElem?_eq_some_iff.1 hr
            rw [HPL.out] at hrm
            have cx := HA6.out.cellAt (j := k) (by rw [HOL.out]; exact hlt)
            rw [show (ords (asI l)).getD k 0 = j by rw [List.getD_eq_getElem?_getD, hx]; rfl] at cx
            have cp := hP.cellAt (j := r) (by rw [upP_len, HPL.out]; exact hrm)
            have fp := hP.frozenAt r
            have hst := hP.stored r k
            rw [upP_next HL.out hr] at hst
            have k3 := hO6.cellAt (j := 3) rfl
            have HST := Bx.mk hst
            have HC := Bx.mk hC
            generalize (upP L k).getD r 0 = old at *
            have i1 : (k : Int) < (m : Int) := by omega
            have i2 : (r : Int) < (m : Int) := by omega
            have hj6 : j ≤ 65536 := by omega
            clear hP hC hO6 hj hx hr hrr hst
            go_wp2_with fail
            refine (vrank_val vk (knw L) true j r _ HV6.out HRK.out).mono ?_
            rintro e w' ⟨rfl, rfl⟩
            go_wp2
            go_roundw
            case rel => exact ⟨k + 1, by omega, by go_num, HST.out.1, HC.out.trans HST.out.2 (fun _ _ h => h)⟩
            case measure => simp [intOf]; omega
          · obtain rfl : k = m := by omega
            have eall : upP L k = plcs L := by
              have := upP_all HL.out
              rwa [← HT.out.len, asI_len, HN.out, HM.out] at this
            rw [eall] at hP
            have HSN := Bx.mk hP.sn
            have HC := Bx.mk hC
            have HPT : Bx (∀ x ∈ plcs L, x < 18446744073709551616) := ⟨fun x hx => by
              have h1 := plcs_lt HL.out x hx
              rw [← HT.out.len, asI_len, HN.out, HM.out] at h1
              omega⟩
            have HOT : Bx (∀ x ∈ ords (asI l), x < 18446744073709551616) := ⟨fun x hx => by
              unfold ords at hx
              obtain ⟨i, hi, rfl⟩ := List.mem_map.1 hx
              rw [asI_len, HN.out] at hi ⊢
              have := (HWAY.out (8 * i) (smp_lt (List.mem_range.1 hi))).2
              omega⟩
            have HO6 := Bx.mk hO6
            clear hP hC hO6 eall
            go_wp2_with fail
            refine (pack_val (plcs L) (some ⟨g2, 0, none⟩) k k _ HSN.out HPL.out (by omega) (Nat.le_refl _) HPT.out).mono ?_
            rintro e w7 ⟨pb, rfl, hpb, hC7⟩
            have HA7 := Bx.mk (HA6.out.keep hC7)
            have HPB := Bx.mk hpb
            have HC7 := Bx.mk hC7
            clear hpb hC7
            go_wp2_with fail
            refine (pack_val (ords (asI l)) (some ⟨g1, 0, none⟩) k k _ HA7.out.sn HOL.out (by omega) (Nat.le_refl _) HOT.out).mono ?_
            rintro e w8 ⟨ob, rfl, hob, hC8⟩
            have hC9 := HC7.out.trans hC8 (fun _ _ h => h)
            have hO9 := HO6.out.keep hC9
            have k4 := hO9.cellAt (j := 4) rfl
            have f4 := hO9.frozenAt 4
            have hs4 := hO9.stored 4 (.pointer (some ⟨pb, 0, none⟩))
            have k5 := hs4.1.cellAt (j := 5) rfl
            have f5 := hs4.1.frozenAt 5
            have hs5 := hs4.1.stored 5 (.pointer (some ⟨ob, 0, none⟩))
            have hcb := hs4.2.trans hs5.2 (fun _ _ h => h)
            have hsz5 : w.heap.size ≤ w5.heap.size := HC5.out.size
            have hszr : w.heap.size ≤ wr.heap.size := by have := HC.out.size; omega
            have hsz7 : w.heap.size ≤ w7.heap.size := by have := HC7.out.size; omega
            obtain ⟨w9, hw9⟩ : ∃ w9 : World, (w8.setCell ⟨b, 4, none⟩ (.pointer (some ⟨pb, 0, none⟩))).setCell ⟨b, 5, none⟩ (.pointer (some ⟨ob, 0, none⟩)) = w9 := ⟨_, rfl⟩
            rw [hw9] at hs5 hcb
            have HW9 := Bx.mk hw9
            have HRES : Bx (Wrote l L b (.pointer (some ⟨T, 0, none⟩)) (.slice A 513 c) u2 w (.returned (.tuple #[])) w9) := ⟨rfl, vk, pb, ob, hs5.1, ((HV6.out.keep hC9).ch hcb (fun x (hx : w.heap.size ≤ x ∧ x ≠ g2) _ (e : x = b) => by omega)).mono (fun x _ hx => hx.1), (((HPB.out.ch hC8 (fun _ _ _ h => h)).ch hcb (fun x (hx : wr.heap.size ≤ x) _ (e : x = b) => by omega)).mono (fun x _ (hx : wr.heap.size ≤ x) => by omega)), ((hob.ch hcb (fun x (hx : w7.heap.size ≤ x) _ (e : x = b) => by omega)).mono (fun x _ (hx : w7.heap.size ≤ x) => by omega)), ((HC5.out.trans HC.out (fun x hx (e : x = g2) => by omega)).trans hC9 (fun _ _ h => h.elim)).trans hcb (fun _ _ h => h)⟩
            clear hob hC8 hC9 hO9 hs4 hs5 hcb hw9
            go_wp2_with fail
            rw [HW9.out]
            go_returns
            exact HRES.out
      · have ej : (((q + 1 : Nat) : Int) - 1) = (q : Int) := by omega
        rw [ej]
        obtain ⟨ha, haln⟩ := HWAY.out q (by omega)
        have en1 : n - (q + 1) = n - 1 - q := by omega
        have en2 : way (asI l) (n - q) = lf (asI l) (way (asI l) (n - 1 - q)) := by
          rw [show n - q = (n - 1 - q) + 1 by omega]
          rfl
        have HNX := Bx.mk en2
        rw [en1]
        obtain ⟨y, hy, _⟩ := sym_some (l := l) (a := way (asI l) (n - 1 - q)) (by rw [HN.out]; exact haln)
        have HY := Bx.mk hy
        have HA := Bx.mk ha
        obtain ⟨z, hz⟩ : ∃ z, lf (asI l) (way (asI l) (n - 1 - q)) = z := ⟨_, rfl⟩
        have HZ := Bx.mk hz
        rw [hz] at HNX
        have HOY := Bx.mk fun h8 => (by have := upO_yes (l := asI l) (p := q) (by rw [asI_len, HN.out]; omega) h8; rwa [asI_len, HN.out] at this : (upO (asI l) (q + 1)).set (q / 8) (way (asI l) (n - 1 - q)) = upO (asI l) q)
        have HON := Bx.mk fun h8 => upO_no (l := asI l) (p := q) h8
        have HKY := Bx.mk fun h8 => upK_yes HL.out ha h8
        have HKN := Bx.mk fun h8 => upK_no (L := L) (p := q) h8
        generalize way (asI l) (n - 1 - q) = a at *
        have i0 : (0 : Int) ≤ (q : Int) := by omega
        have ia : (a : Int) < (n : Int) := by omega
        clear ej en1 en2 hy ha hz
        by_cases h8 : q % 8 = 0
        · have hq8 : q / 8 < m := by have := lt_smp (show q < n by omega) h8; rw [HM.out] at this; exact this
          have r1 : (q : Int) % 8 = 0 := by omega
          have r2 : (q : Int) / 8 = ((q / 8 : Nat) : Int) := by omega
          have hul := upO_len (asI l) (q + 1)
          rw [asI_len, HN.out, HM.out] at hul
          have hkl := upK_len L (q + 1)
          have hLn : L.length = n := by rw [HL.out.len, ← HT.out.len, asI_len, HN.out]
          have ca := hOA.cellAt (j := q / 8) (by omega)
          have fa := hOA.frozenAt (q / 8)
          obtain ⟨o, ck⟩ := bool_cell hK (j := a) (by omega)
          have fk := hK.frozenAt a
          have HK := Bx.mk hK
          have HOA := Bx.mk hOA
          have HPA := Bx.mk hPA
          have HC := Bx.mk hC
          have HOY8 := Bx.mk (HOY.out h8)
          have HKY8 := Bx.mk (HKY.out h8)
          generalize (upO (asI l) (q + 1)).getD (q / 8) 0 = old at *
          generalize hqq : q / 8 = q8 at *
          have i1 : (q8 : Int) < (m : Int) := by omega
          clear hOA hPA hK hC HOY HON HKY HKN hul hkl hLn
          have hS1 := (HOA.out.stored q8 a)
          rw [HOY8.out] at hS1
          have hw5 : ∃ w5 : World, (wr.setCell ⟨g1, q8, none⟩ (.int .u64 (a : Nat))).setCell ⟨g3, a, none⟩ (.bool true) = w5 := ⟨_, rfl⟩
          obtain ⟨w5, hw5⟩ := hw5
          have hK5 := ((HK.out.ch hS1.2 (fun (e : g3 = g1) => hg31 e.symm)).stored a (.bool true))
          rw [hw5, ← List.map_set, HKY8.out] at hK5
          have hC5 : Ch (fun _ => False) w w5 := (HC.out.trans hS1.2 (fun i hi (e : i = g1) => by omega)).trans hK5.2 (fun i hi (e : i = g3) => by omega)
          have hO5 := HO.out.keep hC5
          have d0 := hO5.cellAt (j := 0) rfl
          have d1 := hO5.cellAt (j := 1) rfl
          rw [← hw5] at d0 d1
          have HOA5 := Bx.mk (hS1.1.ch hK5.2 (fun (e : g1 = g3) => hg31 e))
          have HPA5 := Bx.mk ((HPA.out.ch hS1.2 (fun (e : g2 = g1) => hg12 e.symm)).ch hK5.2 (fun (e : g2 = g3) => hg32 e))
          have HK5 := Bx.mk hK5.1
          have HC5 := Bx.mk hC5
          have HCO5 := Bx.mk (HCO.out.keep hC5)
          have HW5 := Bx.mk hw5
          clear hS1 hK5 hC5 hO5 hw5
          go_wp2_with fail
          rw [HW5.out]
          refine (ahead_any T c a y z A l _ HCO5.out HY.out HZ.out).mono ?_
          rintro e w6 ⟨rfl, hC6⟩
          have HC6 := Bx.mk (HC5.out.trans hC6 (fun _ _ h => h))
          have HOA6 := Bx.mk (HOA5.out.keep hC6)
          have HPA6 := Bx.mk (HPA5.out.keep hC6)
          have HK6 := Bx.mk (HK5.out.keep hC6)
          clear hC6 d0 d1 ca fa ck fk
          go_wp2
          go_roundw
          case rel => exact ⟨q, by omega, rfl, by rw [HNX.out], HOA6.out, HPA6.out, HK6.out, HC6.out⟩
          case measure => simp [intOf]
        · have r1 : ((q : Int) % 8 == 0) = false := by simp; omega
          have r2 : ¬ (q : Int) % 8 = 0 := by omega
          have HO5 := Bx.mk (HO.out.keep hC)
          have d0 := HO5.out.cellAt (j := 0) rfl
          have d1 := HO5.out.cellAt (j := 1) rfl
          have HK := Bx.mk hK
          have HOA := Bx.mk hOA
          have HPA := Bx.mk hPA
          have HC := Bx.mk hC
          have HON8 := Bx.mk (HON.out h8)
          have HKN8 := Bx.mk (HKN.out h8)
          have HCO5 := Bx.mk (HCO.out.keep hC)
          clear hOA hPA hK hC HOY HON HKY HKN
          go_wp2_with fail
          refine (ahead_any T c a y z A l _ HCO5.out HY.out HZ.out).mono ?_
          rintro e w6 ⟨rfl, hC6⟩
          have HC6 := Bx.mk (HC.out.trans hC6 (fun _ _ h => h))
          have HOA6 := Bx.mk (HOA.out.keep hC6)
          have HPA6 := Bx.mk (HPA.out.keep hC6)
          have HK6 := Bx.mk (HK.out.keep hC6)
          rw [HON8.out] at HOA6
          rw [HKN8.out] at HK6
          clear hC6 d0 d1
          go_wp2
          go_roundw
          case rel => exact ⟨q, by omega, rfl, by rw [HNX.out], HOA6.out, HPA6.out, HK6.out, HC6.out⟩
          case measure => simp [intOf]
end
end Go.Proofs.YtckkjccjkdidjaaGreatDoor.X

namespace Go.Proofs.YtckkjccjkdidjaaGreatDoor.X
open Go.RowKit Go.Oct Go.Su

theorem counts9 {F : Nat → Prop} (l : List Int) (A : Option Addr) (n c : Nat) (w : World) (hs : Sl w F .i64 A n l) (hn : n ≤ 65536) :
    Calls Tryz.prog 55 #[.slice A n c, .int .i64 9] w fun e w' => ∃ (A' : Option Addr) (c' : Nat), e = .returned (.slice A' 513 c') ∧ Sl w' (fun b => w.heap.size ≤ b) .i64 A' 513 (asI (cnts l 9)) ∧ Ch (fun _ => False) w w' := counts_any l A n c 9 9 w hs hn rfl
theorem own_box (w : World) (u0 u1 u2 u3 u4 u5 : Value) : Own (w.alloc (.cells #[u0, u1, u2, u3, u4, u5] 72)) 72 6 w.heap.size 1 1 [u0, u1, u2, u3, u4, u5] :=
  ⟨World.ownsRow_lit (base := 0) (e := 72) (size := 6) w #[u0, u1, u2, u3, u4, u5] 1 (Nat.zero_le _) (by unfold maxLen; omega) rfl⟩
/-- Which places have a border, under way. -/
def upB (s : List Int) (k : Nat) : List Bool := (List.range s.length).map fun i => if i < k then decide (gs s i = 1) else false
theorem upB_len (s : List Int) (k : Nat) : (upB s k).length = s.length := by unfold upB; simp
theorem upB_start (s : List Int) : upB s 0 = List.replicate s.length false := by
  refine List.ext_getElem? fun i => ?_
  unfold upB
  rcases Nat.lt_or_ge i s.length with h | h
  · rw [List.getElem?_map, List.getElem?_range h, List.getElem?_replicate, if_pos h]
    simp
  · rw [List.getElem?_eq_none (by simpa using h), List.getElem?_eq_none (by simpa using h)]
theorem upB_all (s : List Int) : upB s s.length = brd s := by
  refine List.ext_getElem? fun i => ?_
  unfold upB brd
  rcases Nat.lt_or_ge i s.length with h | h
  · rw [List.getElem?_map, List.getElem?_range h, List.getElem?_map, gs_some h, Option.map_some, Option.map_some, if_pos h]
  · rw [List.getElem?_eq_none (by simpa using h), List.getElem?_eq_none (by simpa using h)]
theorem upB_next {s : List Int} {k : Nat} {x : Int} (h : s[k]? = some x) : (upB s k).set k (x == 1) = upB s (k + 1) := by
  obtain ⟨h1, _⟩ := List.getElem?_eq_some_iff.1 h
  have hg := gs_at h
  refine List.ext_getElem? fun i => ?_
  rw [List.getElem?_set, upB_len]
  unfold upB
  rcases Nat.lt_or_ge i s.length with g | g
  · rw [List.getElem?_map, List.getElem?_map, List.getElem?_range g, Option.map_some, Option.map_some]
    by_cases e : k = i
    · subst e
      rw [if_pos rfl, if_pos h1, if_pos (by omega), hg]
      rfl
    · rw [if_neg e]
      by_cases e2 : i < k
      · rw [if_pos e2, if_pos (by omega)]
      · rw [if_neg e2, if_neg (by omega)]
  · rw [if_neg (by omega), List.getElem?_eq_none (by simpa using g), List.getElem?_eq_none (by simpa using g)]
/-- What index leaves. -/
def Indexed (xss : List (List Int)) (w : World) (e : Ending) (w' : World) : Prop := ∃ b : Nat, e = .returned (.pointer (some ⟨b, 0, none⟩)) ∧ Ix w' (fun k => w.heap.size ≤ k) b xss ∧ Ch (fun _ => False) w w'
section
variable {F G : Nat → Prop}
set_option maxRecDepth 100000 in
set_option maxHeartbeats 4000000 in
theorem index_is (xss : List (List Int)) (s : List Int) (l : List Nat) (A B : Option Addr) (n c d : Nat) (w : World) (hs : Sl w F .i64 A n s) (ht : Sl w G .i64 B n (asI l)) (he : txt xss = s) (hb : Byts xss) (hn : n ≤ 65536) (hT : Turned s (asI l)) (hd : n ≤ d) (hdm : d ≤ maxLen) (hlt : ∀ x ∈ l, x < 512) (htab : W.Tab w) :
    Calls Tryz.prog 30 #[.slice A n c, .slice B n d] w (Indexed xss w) := by
  have HS := Bx.mk hs
  have HTS := Bx.mk ht
  have HE := Bx.mk he
  have HB := Bx.mk hb
  have HT := Bx.mk hT
  have HLT := Bx.mk hlt
  have HTAB := Bx.mk htab
  have hsl : s.length = n := hs.len
  have HSL := Bx.mk hsl
  have hbu := W.build_val 9 9 l B n d w G rfl ht (by omega) (by omega) (by omega) hlt hd hdm
  obtain ⟨L, hL⟩ := sa_exists (s := s) hT.closed.pos
  have HL := Bx.mk hL
  clear hs ht he hb hT hlt htab hsl hL
  go_enter Tryz.func30, Tryz.ntmps30
  go_wp2_with fail
  refine hbu.mono ?_
  rintro e w1 ⟨T, rfl, hTr, hC1⟩
  have HTR := Bx.mk hTr
  have HC1 := Bx.mk hC1
  have hco := counts9 (asI l) B n d w1 (HTS.out.ch hC1 (fun _ _ _ h => h)) hn
  clear hTr hC1 hbu
  go_wp2_with fail
  refine hco.mono ?_
  rintro e w2 ⟨A2, c2, rfl, hLS, hC2⟩
  have hC12 := HC1.out.trans hC2 (fun _ _ h => h)
  have hsz1 := HC1.out.size
  have HCO : Bx (Core w2 (fun k => w.heap.size ≤ k) T A2 c2 l) := ⟨⟨HTR.out.keep hC2, hLS.mono (fun k _ hk => by have hk' : w1.heap.size ≤ k := hk; show w.heap.size ≤ k; omega)⟩⟩
  have HC2 := Bx.mk hC12
  clear hC2 hC12 hLS hco HTR
  have hown := own_box w2 (.pointer (some ⟨T, 0, none⟩)) (.slice A2 513 c2) (.pointer none) (.pointer none) (.pointer none) (.pointer none)
  have hmk := mkO (w2.alloc (.cells #[.pointer (some ⟨T, 0, none⟩), .slice A2 513 c2, .pointer none, .pointer none, .pointer none, .pointer none] 72)) n (by omega)
  have hown2 := own_made1 (w2.alloc (.cells #[.pointer (some ⟨T, 0, none⟩), .slice A2 513 c2, .pointer none, .pointer none, .pointer none, .pointer none] 72)) 4 (.bool false) n (by omega)
  go_wp2_with fail
  have hsz := World.size_alloc w2 (.cells #[.pointer (some ⟨T, 0, none⟩), .slice A2 513 c2, .pointer none, .pointer none, .pointer none, .pointer none] 72)
  have hC3 : Ch (fun _ => False) w2 (w2.alloc (.cells #[.pointer (some ⟨T, 0, none⟩), .slice A2 513 c2, .pointer none, .pointer none, .pointer none, .pointer none] 72)) := (Ch.refl _ _).alloc _
  obtain ⟨w3, hw3⟩ : ∃ w3, w2.alloc (.cells #[.pointer (some ⟨T, 0, none⟩), .slice A2 513 c2, .pointer none, .pointer none, .pointer none, .pointer none] 72) = w3 := ⟨_, rfl⟩
  rw [hw3] at hown hown2 hsz hC3 ⊢
  obtain ⟨b, hbb⟩ : ∃ b, w2.heap.size = b := ⟨_, rfl⟩
  rw [hbb] at hown hsz ⊢
  rw [hsz] at hown2
  have hC4 : Ch (fun _ => False) w3 (w3.alloc (.cells (madeCells #[.bool false] n) 4)) := (Ch.refl _ _).alloc _
  have HOB : Bx (Own (w3.alloc (.cells (madeCells #[.bool false] n) 4)) 72 6 b 1 1 [.pointer (some ⟨T, 0, none⟩), .slice A2 513 c2, .pointer none, .pointer none, .pointer none, .pointer none]) := ⟨hown.keep hC4⟩
  have HOD : Bx (Own (w3.alloc (.cells (madeCells #[.bool false] n) 4)) 4 1 (b + 1) n n ((upB s 0).map Value.bool)) := ⟨by rw [upB_start, HSL.out, List.map_replicate]; exact hown2⟩
  have HC4 : Bx (Ch (fun _ => False) w2 (w3.alloc (.cells (madeCells #[.bool false] n) 4))) := ⟨hC3.trans hC4 (fun _ _ h => h)⟩
  have hwb : w.heap.size ≤ b := by have := HC2.out.size; omega
  have HBB := Bx.mk hbb
  clear hown hown2 hmk hsz hC3 hC4 hw3 hbb
  generalize w3.alloc (.cells (madeCells #[.bool false] n) 4) = w4 at *
  go_loopw [9, 10, 27] (fun _ _ iv wr => ∃ k : Nat, k ≤ n ∧ iv = .int .i64 k ∧ Own wr 4 1 (b + 1) n n ((upB s k).map Value.bool) ∧ Ch (fun x => x = b + 1) w4 wr) (fun _ _ iv _ => n - (intOf iv).toNat)
  case atStart => exact ⟨0, Nat.zero_le _, rfl, HOD.out, Ch.refl _ _⟩
  case round =>
    obtain ⟨k, hk, rfl, hD, hC⟩ := hrel
    by_cases hlt : k < n
    · have dk : decide ((k : Int) < (n : Int)) = true := by simp; omega
      have hCw : Ch (fun _ => False) w wr := (HC2.out.trans HC4.out (fun _ _ h => h)).trans hC (fun i hi (e : i = b + 1) => by omega)
      obtain ⟨b1, o1, x, rfl, _, hx, hcx⟩ := (HS.out.ch hCw (fun _ _ _ h => h)).at_ hlt
      obtain ⟨o, co⟩ := bool_cell hD (j := k) (by rw [upB_len, HSL.out]; exact hlt)
      have fo := hD.frozenAt k
      have hst := hD.stored k (.bool (x == 1))
      rw [← List.map_set, upB_next hx.out] at hst
      have HST := Bx.mk hst
      have HC := Bx.mk hC
      have i1 : (k : Int) < (n : Int) := by omega
      clear hx hD hC hCw hst
      by_cases e1 : x = 1
      · have e2 : (x == 1) = true := by simpa using e1
        rw [e2] at HST
        go_wp2
        go_roundw
        case rel => exact ⟨k + 1, by omega, by go_num, HST.out.1, HC.out.trans HST.out.2 (fun _ _ h => h)⟩
        case measure => simp [intOf]; omega
      · have e2 : (x == 1) = false := by simpa using e1
        rw [e2] at HST
        go_wp2
        go_roundw
        case rel => exact ⟨k + 1, by omega, by go_num, HST.out.1, HC.out.trans HST.out.2 (fun _ _ h => h)⟩
        case measure => simp [intOf]; omega
    · obtain rfl : k = n := by omega
      have dk : decide ((k : Int) < (k : Int)) = false := by simp
      have eall : upB s k = brd s := by
        have := upB_all s
        rwa [HSL.out] at this
      rw [eall] at hD
      have hC5 : Ch (fun _ => False) w2 wr := HC4.out.trans hC (fun i hi (e : i = b + 1) => by have := HBB.out; omega)
      have HO5 := Bx.mk (HOB.out.ch hC (fun (e : b = b + 1) => by omega))
      have HC5 := Bx.mk hC5
      have hof := W.of_any (brd s) (some ⟨b + 1, 0, none⟩) k k wr (fun x => x = b + 1) hD.vs (by omega) (Nat.le_refl _) (by omega)
      have hszr : w.heap.size ≤ wr.heap.size := by have h1 := HC2.out.size; have h2 := hC5.size; omega
      clear hD hC hC5 eall
      go_wp2_with fail
      refine hof.mono ?_
      rintro e w6 ⟨vb, rfl, hV, hC6⟩
      have hO6 := HO5.out.keep hC6
      have k2 := hO6.cellAt (j := 2) rfl
      have f2 := hO6.frozenAt 2
      have hst := hO6.stored 2 (.pointer (some ⟨vb, 0, none⟩))
      obtain ⟨w7, hw7⟩ : ∃ w7 : World, w6.setCell ⟨b, 2, none⟩ (.pointer (some ⟨vb, 0, none⟩)) = w7 := ⟨_, rfl⟩
      rw [hw7] at hst
      have HW7 := Bx.mk hw7
      have hC26 := HC5.out.trans hC6 (fun _ _ h => h)
      have HCO7 : Bx (Core w7 (fun k => w.heap.size ≤ k ∧ k ≠ b) T A2 c2 l) := ⟨by
        have h1 := HBB.out
        have hco : Core w2 (fun k => w.heap.size ≤ k ∧ k ≠ b) T A2 c2 l := ⟨HCO.out.tr.mono (fun x hx h => ⟨h, by omega⟩), HCO.out.less.mono (fun x hx h => ⟨h, by omega⟩)⟩
        exact (hco.keep hC26).ch hst.2 (fun x hx _ (e : x = b) => hx.2 e)⟩
      have HV7 : Bx (W.Vec w7 (fun k => w.heap.size ≤ k ∧ k ≠ b) vb (brd s)) := ⟨(hV.mono (G := fun k => w.heap.size ≤ k ∧ k ≠ b) (fun x _ (h : wr.heap.size ≤ x) => by have := HO5.out.lt; exact ⟨by omega, by omega⟩)).ch hst.2 (fun x hx _ (e : x = b) => hx.2 e)⟩
      have HC7 : Bx (Ch (fun _ => False) w w7) := ⟨(HC2.out.trans hC26 (fun _ _ h => h)).trans hst.2 (fun i hi (e : i = b) => by omega)⟩
      have HO7 := Bx.mk hst.1
      have hbsz := hst.1.lt
      have hwr := write_any k (.pointer (some ⟨vb, 0, none⟩)) (.pointer none) (.pointer none) (.pointer none) w7 HCO7.out HT.out HL.out (by have := HT.out.len; rw [asI_len, HSL.out] at this; exact this) hn hst.1
      clear hV hC6 hO6 hst hw7 hC26 hof
      go_wp2_with fail
      rw [HW7.out]
      refine hwr.mono ?_
      rintro e w8 ⟨rfl, vk, pb, ob, hO8, hK8, hP8, hOr8, hC8⟩
      have hsz7 : w.heap.size ≤ w7.heap.size := HC7.out.size
      have hCw8 : Ch (fun _ => False) w w8 := HC7.out.trans hC8 (fun i hi (e : i = b) => by omega)
      have HIX : Bx (Ix0 w8 (fun k => w.heap.size ≤ k) b xss l L T c2 vb vk pb ob A2) := ⟨by
        have hs65 : (txt xss).length ≤ 65536 := by rw [HE.out, HSL.out]; exact hn
        have hco8 : Core w8 (fun k => w.heap.size ≤ k) T A2 c2 l := by
          have := HCO7.out.ch hC8 (fun x hx _ (e : x = b) => hx.2 e)
          exact ⟨this.tr.mono (fun x _ hx => hx.1), this.less.mono (fun x _ hx => hx.1)⟩
        exact ⟨W.TabAt.keep hCw8 HTAB.out (fun h => h), HB.out, hs65, by rw [HE.out]; exact HT.out, by rw [HE.out]; exact HL.out, hco8, hwb, hO8.cellAt (j := 0) rfl, hO8.cellAt (j := 1) rfl, hO8.cellAt (j := 2) rfl, hO8.cellAt (j := 3) rfl, hO8.cellAt (j := 4) rfl, hO8.cellAt (j := 5) rfl, by rw [HE.out]; exact (HV7.out.ch hC8 (fun x hx _ (e : x = b) => hx.2 e)).mono (fun x _ hx => hx.1), hK8.mono (fun x _ (hx : w7.heap.size ≤ x) => by omega), hP8.mono (fun x _ (hx : w7.heap.size ≤ x) => by omega), hOr8.mono (fun x _ (hx : w7.heap.size ≤ x) => by omega)⟩⟩
      have HCW := Bx.mk hCw8
      clear hO8 hK8 hP8 hOr8 hC8 hCw8 hwr
      go_wp2
      go_ret
      exact ⟨b, rfl, ⟨l, L, T, c2, vb, vk, pb, ob, A2, HIX.out⟩, HCW.out⟩
end
end Go.Proofs.YtckkjccjkdidjaaGreatDoor.X
