/-
  The contract of suffix.byRest: the endings by what they have behind their first k symbols.
-/
import Derived.Test.YtgboobjmafdieaaSvUp
namespace Go.Proofs.Ytgboobjmafdieaa
open Go.RowKit Go.Oct Go.Su

/-- .. under way, along the first j of the order. -/
def rstUp (n k : Nat) (L : List Nat) (j : Nat) : List Nat := List.range' (n - k) k ++ ((L.take j).filter (fun x => decide (k ≤ x))).map (fun x => x - k)
theorem rstUp_zero (n k : Nat) (L : List Nat) : rstUp n k L 0 = List.range' (n - k) k := by unfold rstUp; simp
theorem rstUp_all (n k : Nat) (L : List Nat) : rstUp n k L L.length = rst n k L := by unfold rstUp rst; rw [List.take_length]
theorem rstUp_in {n k : Nat} {L : List Nat} {j x : Nat} (h : L[j]? = some x) (hx : k ≤ x) : rstUp n k L (j + 1) = rstUp n k L j ++ [x - k] := by
  unfold rstUp
  rw [List.take_add_one, h, Option.toList_some, List.filter_append, List.map_append, ← List.append_assoc]
  simp [hx]
theorem rstUp_out {n k : Nat} {L : List Nat} {j x : Nat} (h : L[j]? = some x) (hx : x < k) : rstUp n k L (j + 1) = rstUp n k L j := by
  unfold rstUp
  rw [List.take_add_one, h, Option.toList_some, List.filter_append]
  simp
  omega
theorem rstUp_short {n k : Nat} {L : List Nat} (j : Nat) : (rstUp n k L j).length ≤ k + L.length := by
  unfold rstUp
  rw [List.length_append, List.length_range', List.length_map]
  have h1 := List.length_filter_le (fun x => decide (k ≤ x)) (L.take j)
  rw [List.length_take] at h1
  omega
/-- A new row, maybe with room behind it. -/
def SomeRow (n : Nat) (l : List Nat) (w : World) (e : Ending) (w' : World) : Prop := ∃ (A : Option Addr) (c : Nat), e = .returned (.slice A n c) ∧ Sl w' (fun b => w.heap.size ≤ b) .i64 A n (asI l) ∧ n ≤ c ∧ c ≤ maxLen ∧ Ch (fun _ => False) w w'
section
variable {F : Nat → Prop}
set_option maxHeartbeats 4000000 in
theorem byrest_any (L : List Nat) (A : Option Addr) (n c k : Nat) (w : World) (hs : Sl w F .i64 A n (asI L)) (hn : n ≤ 65536) (hk : k ≤ n) (hlen : (rst n k L).length = n) (hL : ∀ x ∈ L, x < n) :
    Calls Try.prog 38 #[.slice A n c, .int .i64 k] w (SomeRow n (rst n k L) w) := by
  have hl : L.length = n := by have := hs.len; rwa [asI_len] at this
  have HL := Bx.mk hl
  have HS := Bx.mk (hs.mono (G := fun b => b < w.heap.size) (fun b h _ => h))
  have HLEN := Bx.mk hlen
  have HLT := Bx.mk hL
  have hmk := run_mkI0 n (by omega) w
  have HG0 := Bx.mk (gr_made w n (by omega))
  obtain ⟨p0, hp0⟩ : ∃ p0 : Nat, n - k = p0 := ⟨_, rfl⟩
  have HP0 := Bx.mk hp0
  have hpk : (n : Int) - (k : Int) = (p0 : Int) := by omega
  clear hs hl hlen hp0 hL
  go_enter Try.func38, Try.ntmps38
  go_wp2_with fail
  generalize hw0 : w.alloc (.cells (madeCells #[.int .i64 0] n) 3) = w0 at *
  go_loopw [5, 6] (fun v i wr => ∃ j p : Nat, j ≤ k ∧ p = p0 + j ∧ i = .int .i64 (p : Int) ∧ Gr w wr v (List.range' p0 j)) (fun _ i _ => n - (intOf i).toNat)
  case atStart => exact ⟨0, p0, Nat.zero_le _, rfl, rfl, HG0.out⟩
  case round =>
    obtain ⟨j, p, hj, hp, rfl, hG⟩ := hrel
    have hpp := HP0.out
    have HG := Bx.mk hG
    have HPJ := Bx.mk hp
    have hpn : j ≤ n := by omega
    clear hG hp
    by_cases hlt : p < n
    · have hx : List.range' p0 (j + 1) = List.range' p0 j ++ [p] := by rw [List.range'_1_concat, HPJ.out]
      have HX := Bx.mk hx
      have hlj : (List.range' p0 j).length = j := List.length_range'
      have hown := HG.out.own
      rw [hlj] at hown
      clear hx hlj
      go_wp2_with (at_builtin; refine wp_app rfl (.tmp 22) (.tmp 24) elemI rfl rfl (hown.alloc _) rfl (Vs.one _ _ _) ?c1 ?c2 ?c3 ?_)
      case c1 => intro u hu; simp at hu; subst hu; rfl
      case c2 => omega
      case c3 => omega
      intro v5 w5 ho1 hg1 hb1
      have hG5 := HG.out.one (x := p) (by rw [List.length_range']; exact ho1) hg1 hb1
      rw [← HX.out] at hG5
      have HG5 := Bx.mk hG5
      clear ho1 hg1 hb1 hG5
      go_wp2
      go_roundw
      case rel => exact ⟨j + 1, p + 1, by have := HPJ.out; omega, by have := HPJ.out; omega, by go_num, HG5.out⟩
      case measure => simp [intOf]; omega
    · have hjk : j = k := by have := HPJ.out; omega
      have hG2 : Gr w wr u5 (rstUp n k L 0) := by
        rw [rstUp_zero, hpp, ← hjk]
        exact HG.out
      have hkk : (rstUp n k L 0).length = k := by rw [rstUp_zero, List.length_range']
      have HG2 := Bx.mk hG2
      have dp : decide ((p : Int) < (n : Int)) = false := by simp; omega
      have HS2 : Bx (Sl wr (fun b => b < w.heap.size) .i64 A n (asI L)) := ⟨HS.out.ch HG.out.ch (fun _ _ _ h => h)⟩
      obtain ⟨wo, rfl⟩ : ∃ wo : World, wo = wr := ⟨_, rfl⟩
      clear hG2 hjk hkk
      go_wp2_with fail
      go_loopw [5, 8, 28] (fun v _ i wr => ∃ j : Nat, j ≤ n ∧ i = .int .i64 (j : Int) ∧ Gr w wr v (rstUp n k L j)) (fun _ _ i _ => n - (intOf i).toNat)
      case atStart => exact ⟨0, Nat.zero_le _, rfl, HG2.out⟩
      case round =>
        obtain ⟨j, hj, rfl, hG⟩ := hrel
        have HG := Bx.mk hG
        by_cases hjn : j < n
        · obtain ⟨b, off, x0, rfl, _, hx0, hcx⟩ := (HS.out.ch hG.ch (fun _ _ _ h => h)).at_ hjn
          obtain ⟨x, rfl, hx⟩ := asI_at hx0.out
          have i1 : (0 : Int) ≤ (j : Int) := by omega
          have i2 : (j : Int) < (n : Int) := by omega
          by_cases hkx : k ≤ x
          · obtain ⟨y, hy⟩ : ∃ y : Nat, x - k = y := ⟨_, rfl⟩
            have hyn : y < n := by have := HLT.out x (List.mem_of_getElem? hx); omega
            have hnx := rstUp_in (n := n) hx hkx
            rw [hy] at hnx
            have HNX := Bx.mk hnx
            have hyk : (x : Int) - (k : Int) = (y : Int) := by omega
            have d0 : decide ((k : Int) ≤ (x : Int)) = true := by simp; omega
            have hsh := rstUp_short (n := n) (k := k) (L := L) j
            rw [HL.out] at hsh
            have hown := HG.out.own
            obtain ⟨q, hq⟩ : ∃ q, (rstUp n k L j).length = q := ⟨_, rfl⟩
            rw [hq] at hown hsh
            have HQ := Bx.mk hq
            clear hG hx hx0 hy hnx hq
            go_wp2_with (at_builtin; refine wp_app rfl (.tmp 35) (.tmp 39) elemI rfl rfl (hown.alloc _) rfl (Vs.one _ _ _) ?c1 ?c2 ?c3 ?_)
            case c1 => intro u hu; simp at hu; subst hu; rfl
            case c2 => omega
            case c3 => omega
            intro v5 w5 ho1 hg1 hb1
            clear hyk d0 hown hsh
            have hG5 := HG.out.one (x := y) (by rw [HQ.out]; exact ho1) hg1 hb1
            rw [← HNX.out] at hG5
            have HG5 := Bx.mk hG5
            clear ho1 hg1 hb1 hG5
            go_wp2
            go_roundw
            case rel => exact ⟨j + 1, by omega, by go_num, HG5.out⟩
            case measure => simp [intOf]; omega
          · have hnx := rstUp_out (n := n) hx (show x < k by omega)
            have d0 : decide ((k : Int) ≤ (x : Int)) = false := by simp; omega
            have HGN : Bx (Gr w wr u5 (rstUp n k L (j + 1))) := ⟨by rw [hnx]; exact HG.out⟩
            clear hG hx hx0 hnx
            go_wp2
            go_roundw
            case rel => exact ⟨j + 1, by omega, by go_num, HGN.out⟩
            case measure => simp [intOf]; omega
        · have hjn' : j = n := by omega
          have dj : decide ((j : Int) < (n : Int)) = false := by simp; omega
          have hGF : Gr w wr u5 (rst n k L) := by
            rw [← rstUp_all, HL.out]
            rw [hjn'] at hG
            exact hG
          obtain ⟨A5, c5, rfl, hs5, h1, h2⟩ := hGF.shape
          rw [HLEN.out] at hs5 h1 ⊢
          have HS5 := Bx.mk hs5
          have HC5 := Bx.mk hGF.ch
          clear hG hjn' hGF hs5
          go_wp2
          go_ret
          exact ⟨A5, c5, rfl, HS5.out, h1, h2, HC5.out⟩
end
end Go.Proofs.Ytgboobjmafdieaa
