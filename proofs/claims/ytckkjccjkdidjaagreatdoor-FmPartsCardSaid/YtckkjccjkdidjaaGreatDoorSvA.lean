/-
  The contracts of suffix.upTo, rest and check.
  Conditions: the row reads as it says.
-/
/-
  The contract of suffix.classify: classes along an order, by whatever tells what is the same.
-/
/-
  The contract of suffix.byRest: the endings by what they have behind their first k symbols.
-/
/-
  The contract of suffix.byClass: endings in the order of their classes, those of one class as they stood.
-/
import Derived.Test.YtckkjccjkdidjaaGreatDoorSuArray
import Derived.Test.YtckkjccjkdidjaaGreatDoorSuA
import Derived.Test.YtckkjccjkdidjaaGreatDoorMaSu
namespace Go.Proofs.YtckkjccjkdidjaaGreatDoor
open Go.RowKit Go.Oct Go.Su

/-- A new row of the call's own. -/
def NewRow (n : Nat) (l : List Nat) (w : World) (e : Ending) (w' : World) : Prop := ∃ g : Nat, e = .returned (.slice (some ⟨g, 0, none⟩) n n) ∧ Own w' 3 1 g n n (vals l) ∧ w.heap.size ≤ g ∧ Ch (fun _ => False) w w'
theorem vals_rng (n : Nat) : (rng n).map (Value.int .i64) = vals (List.range n) := by unfold rng; exact vals_asI _
theorem upto_any (n : Nat) (w : World) (hn : n ≤ 1048576) : Calls Tryz.prog 136 #[.int .i64 n] w (NewRow n (List.range n) w) := by
  have hmk := mkI w n hn
  go_enter Tryz.func136, Tryz.ntmps136
  go_wp2_with fail
  go_loopw [4, 9] (fun _ i wr => ∃ k : Nat, k ≤ n ∧ i = .int .i64 k ∧ Own wr 3 1 w.heap.size n n ((upZ (rng n) k).map (Value.int .i64)) ∧ Ch (fun _ => False) w wr) (fun _ i _ => n - (intOf i).toNat)
  case atStart =>
    refine ⟨0, Nat.zero_le _, rfl, ?_, (Ch.refl _ _).alloc _⟩
    have := own_made1 w 3 (.int .i64 0) n (by omega)
    rw [upZ_zero, rng_len, List.map_replicate]
    exact this
  case round =>
    obtain ⟨k, hk, rfl, hO, hC⟩ := hrel
    by_cases hlt : k < n
    · have hcell := hO.cellI hlt
      have hfz := hO.frozenAt k
      have hst := hO.storedI k (k : Int)
      rw [upZ_next (rng_at hlt)] at hst
      have HST := Bx.mk hst
      have HC := Bx.mk hC
      generalize (upZ (rng n) k).getD k 0 = old at *
      clear hC hst hO
      go_wp2
      go_roundw
      case rel => exact ⟨k + 1, by omega, by go_num, HST.out.1, HC.out.trans HST.out.2 (fun i hi (e : i = w.heap.size) => by omega)⟩
      case measure => simp [intOf]; omega
    · obtain rfl : k = n := by omega
      have hu := upZ_all (rng k)
      rw [rng_len] at hu
      rw [hu, vals_rng] at hO
      have HO := Bx.mk hO
      have HC := Bx.mk hC
      clear hO hC hu
      go_wp2
      go_ret
      exact ⟨_, rfl, HO.out, Nat.le_refl _, HC.out⟩

section
variable {F : Nat → Prop}
/-- The class of what an ending has behind its first k symbols; -1: nothing. -/
theorem rest_any (c : List Int) (A : Option Addr) (n d a k : Nat) (w : World) (hs : Sl w F .i64 A n c) (hn : n ≤ 1048576) (hk : k ≤ 1048576) (ha : a < n) :
    Calls Tryz.prog 120 #[.slice A n d, .int .i64 a, .int .i64 k] w fun e w' => e = .returned (.int .i64 (gs c (a + k))) ∧ w = w' := by
  have hl := hs.len
  have HS := Bx.mk hs
  clear hs
  rcases Nat.lt_or_ge (a + k) n with h | h
  · obtain ⟨b, off, rfl, _, hc⟩ := Sl.gsAt HS.out h
    generalize gs c (a + k) = x at *
    have i1 : (0 : Int) ≤ (a : Int) + (k : Int) := by omega
    have i2 : (a : Int) + (k : Int) < (n : Int) := by omega
    have hc' : w.cell? ⟨b, off + ((a : Int) + (k : Int)).toNat, none⟩ = some (.int .i64 x) := by
      rw [show ((a : Int) + (k : Int)).toNat = a + k by omega]
      exact hc
    have d1 : decide ((n : Int) ≤ (a : Int) + (k : Int)) = false := by simp; omega
    go_enter Tryz.func120, Tryz.ntmps120
    go_wp2
    go_ret
    exact ⟨rfl, rfl⟩
  · rw [gs_out (by omega)]
    have d1 : decide ((n : Int) ≤ (a : Int) + (k : Int)) = true := by simp; omega
    go_enter Tryz.func120, Tryz.ntmps120
    go_wp2
    go_ret
    exact ⟨rfl, rfl⟩

/-- The error of a row that may not be. -/
theorem check_any (s : List Int) (A : Option Addr) (n c : Nat) (w : World) (hs : Sl w F .i64 A n s) (hn : n ≤ 9223372036854775807) :
    Calls Tryz.prog 80 #[.slice A n c] w fun e w' => e = .returned (.int .i64 (aErr s)) ∧ w = w' := by
  have HS := Bx.mk hs
  have HL := Bx.mk hs.len
  clear hs
  obtain ⟨v, hv0⟩ : ∃ v, aErr s = v := ⟨_, rfl⟩
  rw [hv0]
  have HV := Bx.mk hv0
  clear hv0
  by_cases hlong : 65536 < n
  · obtain rfl : 5 = v := by rw [← HV.out]; unfold aErr; rw [HL.out, if_pos hlong]
    go_enter Tryz.func80, Tryz.ntmps80
    go_wp2
    go_ret
    exact ⟨rfl, rfl⟩
  · have d1 : decide (65536 < (n : Int)) = false := by simp; omega
    go_enter Tryz.func80, Tryz.ntmps80
    go_wp2_with fail
    go_loop [4, 10] (fun _ i => ∃ k : Nat, k ≤ n ∧ i = .int .i64 k ∧ Bx ((s.take k).all (fun x => decide (0 ≤ x)) = true)) (fun _ i => n - (intOf i).toNat)
    case atStart => exact ⟨0, Nat.zero_le _, rfl, ⟨rfl⟩⟩
    case round =>
      obtain ⟨k, hk, rfl, hA⟩ := hrel
      by_cases hlt : k < n
      · obtain ⟨b, off, x, rfl, _, hx, hcx⟩ := HS.out.at_ hlt
        by_cases h0 : x < 0
        · obtain rfl : 1 = v := by
            rw [← HV.out]
            unfold aErr
            rw [HL.out, if_neg hlong, if_neg]
            intro hall
            have := List.all_eq_true.1 hall x (List.mem_of_getElem? hx.out)
            simp at this
            omega
          clear hx
          go_wp2
          go_ret
          exact ⟨rfl, rfl⟩
        · have h1 : 0 ≤ x := by omega
          have hall : (s.take (k + 1)).all (fun x => decide (0 ≤ x)) = true := by
            rw [List.take_add_one, hx.out, List.all_append, hA.out]
            simpa using h1
          have HAA := Bx.mk hall
          clear hx hall h0
          go_wp2
          go_round
          case rel => exact ⟨k + 1, by omega, by go_num, HAA⟩
          case measure => simp [intOf]; omega
      · have h2 := hA.out
        rw [List.take_of_length_le (by rw [HL.out]; omega)] at h2
        obtain rfl : 0 = v := by rw [← HV.out]; unfold aErr; rw [HL.out, if_neg hlong, if_pos h2]
        clear h2
        go_wp2
        go_ret
        exact ⟨rfl, rfl⟩
end
end Go.Proofs.YtckkjccjkdidjaaGreatDoor

namespace Go.Proofs.YtckkjccjkdidjaaGreatDoor
open Go.RowKit Go.Oct Go.Su

/-- What classify leaves. -/
def Classes (E : Nat → Nat → Prop) (n : Nat) (L : List Nat) (w : World) (e : Ending) (w' : World) : Prop := ∃ (g : Nat) (cl : List Nat) (a : Bool), e = .returned (.tuple #[.slice (some ⟨g, 0, none⟩) n n, .bool a]) ∧ ClsUp E n L L.length cl a ∧ Own w' 3 1 g n n (vals cl) ∧ w.heap.size ≤ g ∧ Ch (fun _ => False) w w'
section
variable {F : Nat → Prop}
set_option maxHeartbeats 4000000 in
theorem classify_any (E : Nat → Nat → Prop) (same : Nat → Nat → Bool) (hE : ∀ x y, same x y = true ↔ E x y) (f : Nat) (cb : Array Value) (L : List Nat) (A : Option Addr) (n c : Nat) (w : World) (hs : Sl w F .i64 A n (asI L)) (hn : n ≤ 1048576) (hnd : L.Nodup) (hL : ∀ x ∈ L, x < n) (eg : ∀ args w, (callFunc f args).run Tryz.prog w = .ok (.enter f args) w)
    (hf : ∀ W, Ch (fun _ => False) w W → ∀ x y, x < n → y < n → Calls Tryz.prog f (#[.int .i64 (x : Nat), .int .i64 (y : Nat)] ++ cb) W fun e w' => e = .returned (.bool (same x y)) ∧ ∃ q, w' = W.drewN q) :
    Calls Tryz.prog 115 #[.slice A n c, .func (.func f) #[] cb] w (Classes E n L w) := by
  have hl : L.length = n := by have := hs.len; rwa [asI_len] at this
  have HL := Bx.mk hl
  have HS := Bx.mk (hs.mono (G := fun b => b < w.heap.size) (fun b h _ => h))
  have HND := Bx.mk hnd
  have HLT := Bx.mk hL
  have HF := Bx.mk hf
  have HE := Bx.mk hE
  have hmk := mkI w n hn
  clear hs hnd hL hf hl hE
  go_enter Tryz.func115, Tryz.ntmps115
  go_wp2_with fail
  obtain ⟨G, hG⟩ : ∃ G, w.heap.size = G := ⟨_, rfl⟩
  obtain ⟨w0, hw0⟩ : ∃ w0, w.alloc (.cells (madeCells #[.int .i64 0] n) 3) = w0 := ⟨_, rfl⟩
  have hC0 : Ch (fun _ => False) w w0 := by rw [← hw0]; exact (Ch.refl (fun _ => False) w).alloc _
  have hO0 : Own w0 3 1 G n n (vals (List.replicate n 0)) := by
    unfold vals
    rw [List.map_replicate, ← hw0, ← hG]
    exact own_made1 w 3 (.int .i64 0) n (by omega)
  rw [hw0, hG]
  have HC0 := Bx.mk hC0
  have HO0 := Bx.mk hO0
  have HG := Bx.mk hG
  clear hw0 hC0 hO0 hG hmk
  go_loopw [5, 6, 7, 13] (fun a _ _ i wr => ∃ (j : Nat) (cl : List Nat) (b : Bool), j ≤ n ∧ i = .int .i64 j ∧ a = .bool b ∧ ClsUp E n L j cl b ∧ Own wr 3 1 G n n (vals cl) ∧ Ch (fun _ => False) w wr) (fun _ _ _ i _ => n - (intOf i).toNat)
  case atStart => exact ⟨0, _, true, Nat.zero_le _, rfl, rfl, clsUp_start, HO0.out, HC0.out⟩
  case round =>
    obtain ⟨j, cl, ab, hj, rfl, rfl, hcl, hO, hC⟩ := hrel
    by_cases hjn : j < n
    · have hSr := HS.out.ch hC (fun _ _ _ h => h)
      obtain ⟨b, off, y0, rfl, hbG, hy0, hcy⟩ := hSr.at_ hjn
      obtain ⟨y, rfl, hy⟩ := asI_at hy0.out
      have hyn : y < n := HLT.out y (List.mem_of_getElem? hy)
      have hco := hO.cellN hyn
      have hfo := hO.frozenAt y
      have hst := hO.storedN y j
      generalize gn cl y = old at hco
      have HCL := Bx.mk hcl
      have HY := Bx.mk hy
      have i1 : (0 : Int) ≤ (j : Int) := by omega
      have i2 : (j : Int) < (n : Int) := by omega
      have i3 : (0 : Int) ≤ (y : Int) := by omega
      have i4 : (y : Int) < (n : Int) := by omega
      cases j with
      | zero =>
        rw [Nat.add_zero] at hcy
        have HCN := Bx.mk (HCL.out.first HLT.out HY.out)
        have HST := Bx.mk hst
        have HCC := Bx.mk (hC.trans hst.2 (fun i hi (e : i = G) => by have := HG.out; omega))
        clear hcl hO hC hSr hy0 hy hst
        go_wp2
        go_roundw
        case rel => exact ⟨1, _, ab, by omega, by go_num, rfl, HCN.out, HST.out.1, HCC.out⟩
        case measure => simp [intOf]; omega
      | succ j =>
        obtain ⟨b', off', x0, hA', _, hx0, hcx⟩ := hSr.at_ (k := j) (by omega)
        injection hA' with hA'
        injection hA' with e1 e2
        subst e1 e2
        obtain ⟨x, rfl, hx⟩ := asI_at hx0.out
        have hxn : x < n := HLT.out x (List.mem_of_getElem? hx)
        have hxy : y ≠ x := fun e => by subst e; have := at_one HND.out hy hx; omega
        have jc : ((j + 1 : Nat) : Int) = (j : Int) + 1 := by omega
        rw [jc] at hst i1 i2
        have d0 : decide ((0 : Int) < (j : Int) + 1) = true := by first | (simp; done) | (simp; omega)
        have j1 : (j : Int) + 1 - 1 = (j : Int) := by omega
        have i5 : (0 : Int) ≤ (x : Int) := by omega
        have i6 : (x : Int) < (n : Int) := by omega
        have i7 : (0 : Int) ≤ (j : Int) := by omega
        have i8 : (j : Int) < (n : Int) := by omega
        have hcx1 := hst.2.cell (p := ⟨b, off + j, none⟩) (fun h => by have h' : b = G := h; have := HG.out; have := hbG; omega) hcx
        have hcy1 := hst.2.cell (p := ⟨b, off + (j + 1), none⟩) (fun h => by have h' : b = G := h; have := HG.out; have := hbG; omega) hcy
        have hC1 := hC.trans (S := fun _ => False) hst.2 (fun i hi (e : i = G) => by have := HG.out; omega)
        have hFx := HF.out _ hC1 x y hxn hyn
        have hcl1 := hst.1.cellN hxn
        have hcy2 := hst.1.cellN hyn
        have hfy := hst.1.frozenAt y
        have hgx : gn (cl.set y (j + 1)) x = gn cl x := by rw [gn_set (by rw [HCL.out.len]; exact hyn), if_neg hxy]
        rw [hgx] at hcl1
        have hmore := fun v a' => HCL.out.more HND.out HLT.out hx HY.out (v := v) (a' := a')
        generalize gn (cl.set y (j + 1)) y = old2 at hcy2
        generalize gn cl x = gx at *
        have HMORE := Bx.mk hmore
        have HST1 := Bx.mk hst.1
        have HC1 := Bx.mk hC1
        have HHG := Bx.mk (Nat.le_of_eq HG.out)
        obtain ⟨bs, hbs⟩ : ∃ bs, same x y = bs := ⟨_, rfl⟩
        have HBS : Bx (bs = true ↔ E x y) := ⟨by rw [← hbs]; exact HE.out x y⟩
        rw [hbs] at hFx
        clear hcl hO hC hSr hy0 hy hst hmore hx hx0 hC1 hbs hgx
        go_wp2_with fail
        refine hFx.mono ?_
        rintro e w2 ⟨rfl, q, rfl⟩
        generalize hw1 : World.setCell wr _ _ = w1 at *
        have HOQ := Bx.mk (HST1.out.keep ((Ch.refl (fun _ => False) w1).drewN q))
        have HCQ := Bx.mk (HC1.out.drewN q)
        have hcx2 : (w1.drewN q).cell? ⟨b, off + j, none⟩ = some (.int .i64 (x : Int)) := hcx1
        have hcl2 : (w1.drewN q).cell? ⟨G, x, none⟩ = some (.int .i64 (gx : Int)) := hcl1
        have hcy3 : (w1.drewN q).cell? ⟨G, y, none⟩ = some (.int .i64 (old2 : Int)) := hcy2
        have hfy2 : (w1.drewN q).frozen? ⟨G, y, none⟩ = false := hfy
        clear hw1 HST1 HC1 hcx1 hcy1 hcl1 hcy2 hfy hFx hcx hcy hco hfo
        cases bs
        · have HCN := Bx.mk (HMORE.out (j + 1) ab (fun h => absurd (HBS.out.2 h) (by decide)) (fun _ => ⟨rfl, rfl⟩))
          generalize w1.drewN q = w2 at *
          go_wp2
          go_roundw
          case rel => exact ⟨j + 1 + 1, _, ab, by omega, by go_num, rfl, HCN.out, HOQ.out, HCQ.out⟩
          case measure => simp [intOf]; omega
        · have HCN := Bx.mk (HMORE.out gx false (fun _ => ⟨rfl, rfl⟩) (fun h => absurd (HBS.out.1 rfl) h))
          generalize w1.drewN q = w2 at *
          have hst2 := HOQ.out.storedN y gx
          rw [List.set_set] at hst2
          have HST2 := Bx.mk hst2
          clear hst2
          go_wp2
          go_roundw
          case rel => exact ⟨j + 1 + 1, _, false, by omega, by go_num, rfl, HCN.out, HST2.out.1, HCQ.out.trans HST2.out.2 (fun i hi (e : i = G) => by have := HHG.out; omega)⟩
          case measure => simp [intOf]; omega
    · have hjn' : j = n := by omega
      have dj : decide ((j : Int) < (n : Int)) = false := by simp; omega
      have HCA : Bx (ClsUp E n L L.length cl ab) := ⟨by rw [HL.out]; rw [hjn'] at hcl; exact hcl⟩
      have HO := Bx.mk hO
      have HC := Bx.mk hC
      clear hcl hO hC hjn'
      go_wp2
      go_returns
      exact ⟨G, cl, ab, rfl, HCA.out, HO.out, Nat.le_of_eq HG.out, HC.out⟩
end
end Go.Proofs.YtckkjccjkdidjaaGreatDoor

namespace Go.Proofs.YtckkjccjkdidjaaGreatDoor
open Go.RowKit Go.Oct Go.Su

/-- .. under way, along the first j of the order. -/
def rstUp (n k : Nat) (L : List Nat) (j : Nat) : List Nat := List.range' (n - k) k ++ ((L.take j).filter (fun x => decide (k ≤ x))).map (fun x => x - k)
theorem rstUp_zero (n k : Nat) (L : List Nat) : rstUp n k L 0 = List.range' (n - k) k := by unfold rstUp; simp
theorem rstUp_all (n k : Nat) (L : List Nat) : rstUp n k L L.length = rst n k L := by unfold rstUp rst; rw [List.take_length]
theorem rstUp_in {n k : Nat} {L : List Nat} {j x : Nat} (h : L[j]? = some x) (hx : k ≤ x) : rstUp n k L (j + 1) = rstUp n k L j ++ [x - k] := by
  unfold rstUp
  rw [List.take_add_one, h, Option.toList_some, List.filter_append, List.map_append, ← List.append_assoc]
  simp [hx]
theorem rstUp_out {n k : Nat} {L : List Nat} {j x : Nat} (h : L[j]? = some x) (hx : x < k) : rstUp n k L (j + 1) = rstUp n k L j := by
  unfold rstUp
  rw [List.take_add_one, h, Option.toList_some, List.filter_append]
  simp
  omega
theorem rstUp_short {n k : Nat} {L : List Nat} (j : Nat) : (rstUp n k L j).length ≤ k + L.length := by
  unfold rstUp
  rw [List.length_append, List.length_range', List.length_map]
  have h1 := List.length_filter_le (fun x => decide (k ≤ x)) (L.take j)
  rw [List.length_take] at h1
  omega
/-- A new row, maybe with room behind it. -/
def SomeRow (n : Nat) (l : List Nat) (w : World) (e : Ending) (w' : World) : Prop := ∃ (A : Option Addr) (c : Nat), e = .returned (.slice A n c) ∧ Sl w' (fun b => w.heap.size ≤ b) .i64 A n (asI l) ∧ n ≤ c ∧ c ≤ maxLen ∧ Ch (fun _ => False) w w'
section
variable {F : Nat → Prop}
set_option maxHeartbeats 4000000 in
theorem byrest_any (L : List Nat) (A : Option Addr) (n c k : Nat) (w : World) (hs : Sl w F .i64 A n (asI L)) (hn : n ≤ 65536) (hk : k ≤ n) (hlen : (rst n k L).length = n) (hL : ∀ x ∈ L, x < n) :
    Calls Tryz.prog 118 #[.slice A n c, .int .i64 k] w (SomeRow n (rst n k L) w) := by
  have hl : L.length = n := by have := hs.len; rwa [asI_len] at this
  have HL := Bx.mk hl
  have HS := Bx.mk (hs.mono (G := fun b => b < w.heap.size) (fun b h _ => h))
  have HLEN := Bx.mk hlen
  have HLT := Bx.mk hL
  have hmk := run_mkI0 n (by omega) w
  have HG0 := Bx.mk (gr_made w n (by omega))
  obtain ⟨p0, hp0⟩ : ∃ p0 : Nat, n - k = p0 := ⟨_, rfl⟩
  have HP0 := Bx.mk hp0
  have hpk : (n : Int) - (k : Int) = (p0 : Int) := by omega
  clear hs hl hlen hp0 hL
  go_enter Tryz.func118, Tryz.ntmps118
  go_wp2_with fail
  generalize hw0 : w.alloc (.cells (madeCells #[.int .i64 0] n) 3) = w0 at *
  go_loopw [5, 6] (fun v i wr => ∃ j p : Nat, j ≤ k ∧ p = p0 + j ∧ i = .int .i64 (p : Int) ∧ Gr w wr v (List.range' p0 j)) (fun _ i _ => n - (intOf i).toNat)
  case atStart => exact ⟨0, p0, Nat.zero_le _, rfl, rfl, HG0.out⟩
  case round =>
    obtain ⟨j, p, hj, hp, rfl, hG⟩ := hrel
    have hpp := HP0.out
    have HG := Bx.mk hG
    have HPJ := Bx.mk hp
    have hpn : j ≤ n := by omega
    clear hG hp
    by_cases hlt : p < n
    · have hx : List.range' p0 (j + 1) = List.range' p0 j ++ [p] := by rw [List.range'_1_concat, HPJ.out]
      have HX := Bx.mk hx
      have hlj : (List.range' p0 j).length = j := List.length_range'
      have hown := HG.out.own
      rw [hlj] at hown
      clear hx hlj
      go_wp2_with (at_builtin; refine wp_app rfl (.tmp 22) (.tmp 24) elemI rfl rfl (hown.alloc _) rfl (Vs.one _ _ _) ?c1 ?c2 ?c3 ?_)
      case c1 => intro u hu; simp at hu; subst hu; rfl
      case c2 => omega
      case c3 => omega
      intro v5 w5 ho1 hg1 hb1
      have hG5 := HG.out.one (x := p) (by rw [List.length_range']; exact ho1) hg1 hb1
      rw [← HX.out] at hG5
      have HG5 := Bx.mk hG5
      clear ho1 hg1 hb1 hG5
      go_wp2
      go_roundw
      case rel => exact ⟨j + 1, p + 1, by have := HPJ.out; omega, by have := HPJ.out; omega, by go_num, HG5.out⟩
      case measure => simp [intOf]; omega
    · have hjk : j = k := by have := HPJ.out; omega
      have hG2 : Gr w wr u5 (rstUp n k L 0) := by
        rw [rstUp_zero, hpp, ← hjk]
        exact HG.out
      have hkk : (rstUp n k L 0).length = k := by rw [rstUp_zero, List.length_range']
      have HG2 := Bx.mk hG2
      have dp : decide ((p : Int) < (n : Int)) = false := by simp; omega
      have HS2 : Bx (Sl wr (fun b => b < w.heap.size) .i64 A n (asI L)) := ⟨HS.out.ch HG.out.ch (fun _ _ _ h => h)⟩
      obtain ⟨wo, rfl⟩ : ∃ wo : World, wo = wr := ⟨_, rfl⟩
      clear hG2 hjk hkk
      go_wp2_with fail
      go_loopw [5, 8, 28] (fun v _ i wr => ∃ j : Nat, j ≤ n ∧ i = .int .i64 (j : Int) ∧ Gr w wr v (rstUp n k L j)) (fun _ _ i _ => n - (intOf i).toNat)
      case atStart => exact ⟨0, Nat.zero_le _, rfl, HG2.out⟩
      case round =>
        obtain ⟨j, hj, rfl, hG⟩ := hrel
        have HG := Bx.mk hG
        by_cases hjn : j < n
        · obtain ⟨b, off, x0, rfl, _, hx0, hcx⟩ := (HS.out.ch hG.ch (fun _ _ _ h => h)).at_ hjn
          obtain ⟨x, rfl, hx⟩ := asI_at hx0.out
          have i1 : (0 : Int) ≤ (j : Int) := by omega
          have i2 : (j : Int) < (n : Int) := by omega
          by_cases hkx : k ≤ x
          · obtain ⟨y, hy⟩ : ∃ y : Nat, x - k = y := ⟨_, rfl⟩
            have hyn : y < n := by have := HLT.out x (List.mem_of_getElem? hx); omega
            have hnx := rstUp_in (n := n) hx hkx
            rw [hy] at hnx
            have HNX := Bx.mk hnx
            have hyk : (x : Int) - (k : Int) = (y : Int) := by omega
            have d0 : decide ((k : Int) ≤ (x : Int)) = true := by simp; omega
            have hsh := rstUp_short (n := n) (k := k) (L := L) j
            rw [HL.out] at hsh
            have hown := HG.out.own
            obtain ⟨q, hq⟩ : ∃ q, (rstUp n k L j).length = q := ⟨_, rfl⟩
            rw [hq] at hown hsh
            have HQ := Bx.mk hq
            clear hG hx hx0 hy hnx hq
            go_wp2_with (at_builtin; refine wp_app rfl (.tmp 35) (.tmp 39) elemI rfl rfl (hown.alloc _) rfl (Vs.one _ _ _) ?c1 ?c2 ?c3 ?_)
            case c1 => intro u hu; simp at hu; subst hu; rfl
            case c2 => omega
            case c3 => omega
            intro v5 w5 ho1 hg1 hb1
            clear hyk d0 hown hsh
            have hG5 := HG.out.one (x := y) (by rw [HQ.out]; exact ho1) hg1 hb1
            rw [← HNX.out] at hG5
            have HG5 := Bx.mk hG5
            clear ho1 hg1 hb1 hG5
            go_wp2
            go_roundw
            case rel => exact ⟨j + 1, by omega, by go_num, HG5.out⟩
            case measure => simp [intOf]; omega
          · have hnx := rstUp_out (n := n) hx (show x < k by omega)
            have d0 : decide ((k : Int) ≤ (x : Int)) = false := by simp; omega
            have HGN : Bx (Gr w wr u5 (rstUp n k L (j + 1))) := ⟨by rw [hnx]; exact HG.out⟩
            clear hG hx hx0 hnx
            go_wp2
            go_roundw
            case rel => exact ⟨j + 1, by omega, by go_num, HGN.out⟩
            case measure => simp [intOf]; omega
        · have hjn' : j = n := by omega
          have dj : decide ((j : Int) < (n : Int)) = false := by simp; omega
          have hGF : Gr w wr u5 (rst n k L) := by
            rw [← rstUp_all, HL.out]
            rw [hjn'] at hG
            exact hG
          obtain ⟨A5, c5, rfl, hs5, h1, h2⟩ := hGF.shape
          rw [HLEN.out] at hs5 h1 ⊢
          have HS5 := Bx.mk hs5
          have HC5 := Bx.mk hGF.ch
          clear hG hjn' hGF hs5
          go_wp2
          go_ret
          exact ⟨A5, c5, rfl, HS5.out, h1, h2, HC5.out⟩
end
end Go.Proofs.YtckkjccjkdidjaaGreatDoor

namespace Go.Proofs.YtckkjccjkdidjaaGreatDoor
open Go.RowKit Go.Oct Go.Su

/-- What byClass leaves. -/
def Laid (f : Nat → Nat) (R : List Nat) (n : Nat) (w : World) (e : Ending) (w' : World) : Prop := ∃ (g : Nat) (M : List Nat), e = .returned (.slice (some ⟨g, 0, none⟩) n n) ∧ Put f R n M ∧ Own w' 3 1 g n n (vals M) ∧ w.heap.size ≤ g ∧ Ch (fun _ => False) w w'
theorem nxt_zero {f : Nat → Nat} {R : List Nat} (n : Nat) : nxt n f R 0 = List.range n := by
  apply List.ext_getElem?
  intro q
  rcases Nat.lt_or_ge q n with h | h
  · rw [nxt_at h, List.getElem?_range h]
    unfold upTo
    simp
  · rw [List.getElem?_eq_none (by rw [nxt_len]; exact h), List.getElem?_eq_none (by rw [List.length_range]; exact h)]
section
variable {F G : Nat → Prop}
set_option maxHeartbeats 4000000 in
theorem byclass_any (R cl : List Nat) (A B : Option Addr) (n c d : Nat) (w : World) (hs : Sl w F .i64 A n (asI R)) (hb : Sl w G .i64 B n (asI cl)) (hn : n ≤ 65536) (hR : ∀ x ∈ R, x < n) (hcl : ∀ x, x < n → gn cl x < n) (hc : Cnt (gn cl) R) :
    Calls Tryz.prog 117 #[.slice A n c, .slice B n d] w (Laid (gn cl) R n w) := by
  have hl : R.length = n := by have := hs.len; rwa [asI_len] at this
  have hl2 : cl.length = n := by have := hb.len; rwa [asI_len] at this
  have HL := Bx.mk hl
  have HL2 := Bx.mk hl2
  have HS := Bx.mk (hs.mono (G := fun b => b < w.heap.size) (fun b h _ => h))
  have HB := Bx.mk (hb.mono (G := fun b => b < w.heap.size) (fun b h _ => h))
  have HR := Bx.mk hR
  have HCL := Bx.mk hcl
  have HC := Bx.mk hc
  clear hs hb hR hcl hc hl hl2
  go_enter Tryz.func117, Tryz.ntmps117
  go_wp2_with fail
  refine (upto_any n _ (by omega)).mono ?_
  rintro e w1 ⟨g, rfl, hO1, hg, hC1⟩
  rw [← nxt_zero (f := gn cl) (R := R)] at hO1
  have hmk := mkI w1 n (by omega)
  have HO1 := Bx.mk hO1
  have HG1 := Bx.mk hg
  have HC1 := Bx.mk hC1
  have HGL := Bx.mk hO1.lt
  clear hO1 hg hC1
  go_wp2_with fail
  obtain ⟨H, hH⟩ : ∃ H, w1.heap.size = H := ⟨_, rfl⟩
  obtain ⟨w2, hw2⟩ : ∃ w2, w1.alloc (.cells (madeCells #[.int .i64 0] n) 3) = w2 := ⟨_, rfl⟩
  have hC2 : Ch (fun _ => False) w1 w2 := by rw [← hw2]; exact (Ch.refl (fun _ => False) w1).alloc _
  have hO2 : Own w2 3 1 H n n (vals (List.replicate R.length 0)) := by
    unfold vals
    rw [HL.out, List.map_replicate, ← hw2, ← hH]
    exact own_made1 w1 3 (.int .i64 0) n (by omega)
  have HO1' := Bx.mk (HO1.out.keep hC2)
  have HO2 := Bx.mk hO2
  have HC2 := Bx.mk (HC1.out.trans hC2 (fun _ _ h => h))
  have HHG : Bx (g < H ∧ w.heap.size ≤ g ∧ w.heap.size ≤ H) := ⟨by
    have h1 := HGL.out
    have h2 := HG1.out
    omega⟩
  have HS2 : Bx (Sl w2 (fun b => b < w.heap.size) .i64 A n (asI R)) := ⟨HS.out.ch HC2.out (fun _ _ _ h => h)⟩
  have HB2 : Bx (Sl w2 (fun b => b < w.heap.size) .i64 B n (asI cl)) := ⟨HB.out.ch HC2.out (fun _ _ _ h => h)⟩
  rw [hw2, hH]
  clear hw2 hH hC2 hO2 hmk HO1 HC1 HS HB HGL HG1
  go_loopw [8, 9, 18] (fun _ _ i wr => ∃ (j : Nat) (M : List Nat), j ≤ n ∧ i = .int .i64 j ∧ Own wr 3 1 g n n (vals (nxt n (gn cl) R j)) ∧ Own wr 3 1 H n n (vals M) ∧ Put (gn cl) R j M ∧ Ch (fun b => b = g ∨ b = H) w2 wr) (fun _ _ i _ => n - (intOf i).toNat)
  case atStart => exact ⟨0, _, Nat.zero_le _, rfl, HO1'.out, HO2.out, put_start, Ch.refl _ _⟩
  case round =>
    obtain ⟨j, M, hj, rfl, hON, hOM, hP, hCr⟩ := hrel
    have hhg := HHG.out
    by_cases hjn : j < n
    · have hSr := HS2.out.ch hCr (fun b hb _ h => by omega)
      have hBr := HB2.out.ch hCr (fun b hb _ h => by omega)
      obtain ⟨b, off, x0, rfl, hbG, hx0, hcx⟩ := hSr.at_ hjn
      obtain ⟨x, rfl, hx⟩ := asI_at hx0.out
      have hxn : x < n := HR.out x (List.mem_of_getElem? hx)
      obtain ⟨b2, off2, q0, rfl, hb2G, hq0, hcq⟩ := hBr.at_ hxn
      obtain ⟨q, rfl, hq⟩ := asI_at hq0.out
      have hqv := gn_at hq
      have hqn : q < n := by have := HCL.out x hxn; omega
      have hcn := hON.cellN hqn
      have hnq : gn (nxt n (gn cl) R j) q = pos (gn cl) R j x := by
        rw [gn_at (nxt_at hqn)]
        unfold pos
        rw [hqv]
      have hpl := pos_lt HC.out hx
      rw [HL.out] at hpl
      have hnn := nxt_next (n := n) (f := gn cl) hx
      have hPn := hP.next HC.out hx
      have hpe : gn cl x + Go.Su.upTo (gn cl) R j (gn cl x) = pos (gn cl) R j x := rfl
      rw [hpe, hqv] at hnn
      rw [hnq] at hcn
      generalize pos (gn cl) R j x = p at *
      have hco := hOM.cellN hpl
      have hfo := hOM.frozenAt p
      have hst1 := hOM.storedN p x
      have hON1 := hON.ch hst1.2 (fun h => by have h' : g = H := h; omega)
      have hcn1 := hst1.2.cell (p := ⟨g, q, none⟩) (fun h => by have h' : g = H := h; omega) hcn
      have hfn := hON1.frozenAt q
      have hst2 := hON1.storedN q (p + 1)
      rw [hnn] at hst2
      have pc : ((p + 1 : Nat) : Int) = (p : Int) + 1 := by omega
      rw [pc] at hst2
      have hOM2 := hst1.1.ch hst2.2 (fun h => by have h' : H = g := h; omega)
      have hCn := (hCr.trans hst1.2 (S := fun b => b = g ∨ b = H) (fun i hi (e : i = H) => .inr e)).trans hst2.2 (S := fun b => b = g ∨ b = H) (fun i hi (e : i = g) => .inl e)
      generalize gn M p = old at *
      have HA := Bx.mk hst2.1
      have HB' := Bx.mk hOM2
      have HPN := Bx.mk hPn
      have HCN := Bx.mk hCn
      have i1 : (0 : Int) ≤ (x : Int) := by omega
      have i2 : (x : Int) < (n : Int) := by omega
      have i3 : (0 : Int) ≤ (q : Int) := by omega
      have i4 : (q : Int) < (n : Int) := by omega
      have i5 : (0 : Int) ≤ (p : Int) := by omega
      have i6 : (p : Int) < (n : Int) := by omega
      clear hON hOM hP hCr hSr hBr hx0 hx hq0 hq hqv hnq hnn hPn hpe hst1 hst2 hON1 hOM2 hCn hhg
      go_wp2
      go_roundw
      case rel => exact ⟨j + 1, _, by omega, by go_num, HA.out, HB'.out, HPN.out, HCN.out⟩
      case measure => simp [intOf]; omega
    · have hjn' : j = n := by omega
      have dj : decide ((j : Int) < (n : Int)) = false := by simp; omega
      have HPF : Bx (Put (gn cl) R n M) := ⟨by rw [hjn'] at hP; exact hP⟩
      have HOM := Bx.mk hOM
      have HCF := Bx.mk (HC2.out.trans hCr (S := fun _ => False) (fun i hi h => by omega))
      clear hON hOM hP hCr hjn' hhg
      go_wp2
      go_ret
      exact ⟨H, M, rfl, HPF.out, HOM.out, HHG.out.2.2, HCF.out⟩
end
end Go.Proofs.YtckkjccjkdidjaaGreatDoor
