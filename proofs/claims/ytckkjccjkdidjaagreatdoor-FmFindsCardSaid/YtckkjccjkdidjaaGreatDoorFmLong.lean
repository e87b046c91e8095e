/-
  The law FmLong: texts of too many symbols are refused. Over the contracts of the Index.
-/
import Derived.Test.YtckkjccjkdidjaaGreatDoorFmKnown
import Derived.Test.YtckkjccjkdidjaaGreatDoorFmA
namespace Go.Proofs.YtckkjccjkdidjaaGreatDoor
open Go.RowKit Go.Oct Go.Su X

/-- Texts that are gathered. -/
structure Tx (w wr : World) (v : Value) (us : List Value) (xss : List (List Int)) : Prop where
  own : wr.ownsRow 0 25 1 v us.length us
  lies : ∀ g, v.ownBlock = some g → w.heap.size ≤ g
  rows : Oct.Rows wr (fun b => w.heap.size ≤ b ∧ b < wr.heap.size ∧ v.ownBlock ≠ some b) us xss
  ch : Ch (fun _ => False) w wr
theorem tx_start (w : World) : Tx w w (.slice none 0 0) [] [] := ⟨World.ownsRow_nil _ _ _ _, fun g hg => by simp [Value.ownBlock] at hg, Oct.Rows.nil_ _ _, Ch.refl _ _⟩
theorem Tx.sls {w wr : World} {v : Value} {us : List Value} {xss : List (List Int)} (h : Tx w wr v us xss) : ∃ A c, v = .slice A us.length c ∧ us.length = xss.length ∧ Sls wr (fun b => w.heap.size ≤ b) A us.length xss := by
  obtain ⟨A, c, rfl, _, _⟩ := own_shape h.own
  exact ⟨A, c, rfl, h.rows.1, us, (Vs.of_own h.own).mono (fun b _ hb => h.lies b hb), h.rows.mono (fun b _ hb => hb.1)⟩
theorem Tx.add {w wt wr w2 : World} {v v' u : Value} {us : List Value} {xss : List (List Int)} {tb : List Int} (h : Tx w wt v us xss) (h5 : Gs 5 1 wt wr u tb.length (tb.map (Value.int .u8))) (ho : w2.ownsRow 0 25 1 v' (us.length + 1) (us ++ [u])) (hg : (wr.alloc (.cells #[u] 25)).grownBy w2 v.ownBlock) (hbv : v'.ownBlock = v.ownBlock ∨ v'.ownBlock = some (wr.heap.size + 1)) : Tx w w2 v' (us ++ [u]) (xss ++ [tb]) := by
  obtain ⟨h1, h2, h3, h4⟩ := h
  have hvl : ∀ g, v.ownBlock = some g → g < wt.heap.size := own_lt h1
  have hsz := h5.ch.size
  have hsz2 := h4.size
  have hC : Ch (fun b => v.ownBlock = some b) wr w2 := ((Ch.refl (fun b => v.ownBlock = some b) wr).alloc _).grown hg (fun j hj => .inl hj)
  have hCt : Ch (fun b => v.ownBlock = some b) wt w2 := (h5.ch.mono (fun _ _ h => h.elim)).trans hC (fun _ _ h => h)
  have hsz3 := hC.size
  obtain ⟨A, c, rfl, g1, g2⟩ := h5.shape
  have hsl : Sl wr (fun b => wt.heap.size ≤ b ∧ b < wr.heap.size) .u8 A tb.length tb := by
    have h6 : Sl wr (fun b => wt.heap.size ≤ b) .u8 A tb.length tb := h5.vs
    exact h6.mono (fun b hlt hb => ⟨hb, hlt⟩)
  refine ⟨by rw [List.length_append]; exact ho, fun g hgv => ?_, ?_, (h4.trans hCt (fun i hi (e : v.ownBlock = some i) => by have := h2 i e; omega))⟩
  · rcases hbv with hb | hb
    · exact h2 g (hb ▸ hgv)
    · rw [hb] at hgv
      injection hgv with hgv
      omega
  · refine Oct.Rows.app ((h3.ch hCt (fun b hb _ e => hb.2.2 e)).mono fun b _ hb => ⟨hb.1, by omega, fun e => ?_⟩) (Oct.Rows.cons_ ((hsl.ch hC (fun b hb _ e => by have := hvl b e; omega)).mono fun b _ hb => ⟨by omega, by omega, fun e => ?_⟩) g1 g2 (Oct.Rows.nil_ _ _))
    · rcases hbv with h7 | h7
      · exact hb.2.2 (h7 ▸ e)
      · rw [h7] at e
        injection e with e
        omega
    · rcases hbv with h7 | h7
      · rw [h7] at e
        have := hvl b e
        omega
      · rw [h7] at e
        injection e with e
        omega
theorem rep_beg (s : Nat) (t : List Int) (ht : t.length = s) : ∀ k, (txt (List.replicate k t)).length = k * (s + 1) + 1 := fun k => by
  rw [txt_len, List.length_replicate]
  congr 1
  induction k with
  | zero => simp [beg]
  | succ k ih => rw [List.replicate_succ, beg_cons, ih, ht, Nat.succ_mul]; omega
theorem mkB (w : World) (n : Nat) (hn : n ≤ 1048576) : (Instr.makeSlice 25 (.int .i64 (n : Int)) (.int .i64 (n : Int))).run Tryz.prog w = .ok (.slice (some ⟨w.heap.size, 0, none⟩) n n) (w.alloc (.cells (madeCells #[.int .u8 0] n) 5)) := run_mk2 Tb n (by omega) (by omega) w
theorem gs_made (w : World) (n : Nat) (hn : n ≤ 1048576) : Gs 5 1 w (w.alloc (.cells (madeCells #[.int .u8 0] n) 5)) (.slice (some ⟨w.heap.size, 0, none⟩) n n) n ((List.replicate n (0 : Int)).map (Value.int .u8)) :=
  ⟨by rw [List.map_replicate]; exact (own_made1 w 5 (.int .u8 0) n hn).own, fun g hg => by simp [Value.ownBlock] at hg; omega, (Ch.refl _ _).alloc _⟩
set_option maxRecDepth 100000 in
set_option maxHeartbeats 2000000 in
theorem long_law (z y : Int) (w : World) (ht : W.Tab w) :
    Calls Tryz.prog 7 #[.int .i64 z, .int .i64 y] w fun e w' => e = .returned (.bool true) ∧ Ch (fun _ => False) w w' := by
  have hk := known_any w ht
  have HTAB := Bx.mk ht
  clear ht
  by_cases h1 : z < 0
  · have d1 : decide (z < 0) = true := decide_eq_true h1
    go_enter Tryz.func7, Tryz.ntmps7
    go_wp2_with fail
    refine hk.mono ?_
    rintro e0 w7 ⟨rfl, hC7⟩
    go_wp2
    go_ret
    exact ⟨rfl, hC7⟩
  · have d1 : decide (z < 0) = false := decide_eq_false h1
    by_cases h2 : 40 < z
    · have d2 : decide (40 < z) = true := decide_eq_true h2
      go_enter Tryz.func7, Tryz.ntmps7
      go_wp2_with fail
      refine hk.mono ?_
      rintro e0 w7 ⟨rfl, hC7⟩
      go_wp2
      go_ret
      exact ⟨rfl, hC7⟩
    · have d2 : decide (40 < z) = false := decide_eq_false h2
      by_cases h3 : y < 0
      · have d3 : decide (y < 0) = true := decide_eq_true h3
        go_enter Tryz.func7, Tryz.ntmps7
        go_wp2_with fail
        refine hk.mono ?_
        rintro e0 w7 ⟨rfl, hC7⟩
        go_wp2
        go_ret
        exact ⟨rfl, hC7⟩
      · have d3 : decide (y < 0) = false := decide_eq_false h3
        by_cases h4 : 4096 < y
        · have d4 : decide (4096 < y) = true := decide_eq_true h4
          go_enter Tryz.func7, Tryz.ntmps7
          go_wp2_with fail
          refine hk.mono ?_
          rintro e0 w7 ⟨rfl, hC7⟩
          go_wp2
          go_ret
          exact ⟨rfl, hC7⟩
        · have d4 : decide (4096 < y) = false := decide_eq_false h4
          obtain ⟨n, rfl⟩ : ∃ n : Nat, z = n := ⟨z.toNat, by omega⟩
          obtain ⟨s, rfl⟩ : ∃ s : Nat, y = s := ⟨y.toNat, by omega⟩
          have hn : n ≤ 40 := by omega
          have hs : s ≤ 4096 := by omega
          have hmul : n * (s + 1) ≤ 40 * 4097 := Nat.mul_le_mul hn (by omega)
          obtain ⟨N, hN⟩ : ∃ N, n * (s + 1) = N := ⟨_, rfl⟩
          have hNi : (n : Int) * ((s : Int) + 1) = (N : Int) := by rw [← hN]; simp
          rw [hN] at hmul
          have HN := Bx.mk hN
          clear hN h1 h2 h3 h4
          by_cases h5 : N + 1 ≤ 65536
          · obtain ⟨M, hM⟩ : ∃ M : Nat, N + 1 = M := ⟨_, rfl⟩
            have eM : wrap64 (wrap64 (N : Int) + 1) = (M : Int) := by unfold wrap64; omega
            have d5 : decide ((M : Int) ≤ 65536) = true := decide_eq_true (by omega)
            clear hM h5 hmul
            have HK := Bx.mk hk
            clear hk
            go_enter Tryz.func7, Tryz.ntmps7
            go_wp2_with fail
            refine HK.out.mono ?_
            rintro e0 w7 ⟨rfl, hC7⟩
            clear eM hNi
            go_wp2
            go_ret
            exact ⟨rfl, hC7⟩
          · have HBIG : Bx (65536 < N + 1 ∧ N ≤ 163880) := ⟨by omega⟩
            obtain ⟨M, hM⟩ : ∃ M : Nat, N + 1 = M := ⟨_, rfl⟩
            have eM : wrap64 (wrap64 (N : Int) + 1) = (M : Int) := by unfold wrap64; omega
            have d5 : decide ((M : Int) ≤ 65536) = false := decide_eq_false (by omega)
            have d6 : decide (M ≤ 65536) = false := decide_eq_false (by omega)
            have d7 : ¬ M ≤ 65536 := by omega
            clear hM
            clear hk h5 hmul
            go_enter Tryz.func7, Tryz.ntmps7
            go_upto_region 5 with fail
            clear hNi eM d5 d6 d7
            go_wp2_with fail
            go_loopw [5, 6] (fun v i wr => ∃ (k : Nat) (us : List Value), k ≤ n ∧ i = .int .i64 k ∧ us.length = k ∧ Bx (Tx w wr v us (List.replicate k (List.replicate s (0 : Int))))) (fun _ i _ => n - (intOf i).toNat)
            case atStart => exact ⟨0, [], Nat.zero_le _, rfl, rfl, ⟨tx_start w⟩⟩
            case round =>
              obtain ⟨k, us, hk, rfl, hul, hT⟩ := hrel
              have ho := hT.out.own
              obtain ⟨A6, c6, rfl, _, _⟩ := own_shape ho
              rw [hul] at ho hT ⊢
              have HU := Bx.mk hul
              clear hul
              by_cases hlt : k < n
              · have dk : decide ((k : Int) < (n : Int)) = true := by simp; omega
                obtain ⟨w1, hmk, hg⟩ : ∃ w1, (Instr.makeSlice 25 (.int .i64 (s : Int)) (.int .i64 (s : Int))).run Tryz.prog wr = .ok (.slice (some ⟨wr.heap.size, 0, none⟩) s s) w1 ∧ Gs 5 1 wr w1 (.slice (some ⟨wr.heap.size, 0, none⟩) s s) s ((List.replicate s (0 : Int)).map (Value.int .u8)) := ⟨_, mkB wr s (by omega), gs_made wr s (by omega)⟩
                have HO := Bx.mk (hg.ch.own ho (fun _ _ h => h))
                have HG := Bx.mk hg
                clear ho hg
                go_wp2_with (at_builtin; refine wp_app rfl (.tmp 36) (.tmp 39) elemT rfl rfl (HO.out.alloc _) rfl (Vs.one _ _ _) ?c1 ?c2 ?c3 ?_)
                case c1 => intro u hu; simp at hu; subst hu; rfl
                case c2 => omega
                case c3 => omega
                intro v5 w5 ho1 hg1 hb1
                have HT5 : Bx (Tx w w5 v5 (us ++ [.slice (some ⟨wr.heap.size, 0, none⟩) s s]) (List.replicate (k + 1) (List.replicate s (0 : Int)))) := ⟨by
                  have h := hT.out.add (tb := List.replicate s (0 : Int)) (by rw [List.length_replicate]; exact HG.out) (by rw [HU.out]; exact ho1) hg1 hb1
                  rwa [← List.replicate_succ'] at h⟩
                clear ho1 hg1 hb1 hT hmk
                go_wp2
                go_roundw
                case rel => exact ⟨k + 1, _, by omega, by go_num, by rw [List.length_append, HU.out]; rfl, HT5⟩
                case measure => simp [intOf]; omega
              · have dk : decide ((k : Int) < (n : Int)) = false := by simp; omega
                have hkn : k = n := by omega
                have HSL : Bx (Sls wr (fun b => w.heap.size ≤ b) A6 k (List.replicate n (List.replicate s (0 : Int)))) := ⟨by
                  obtain ⟨A, c, e1, e2, e3⟩ := hT.out.sls
                  injection e1 with e4 _ _
                  subst e4
                  rw [HU.out, hkn] at e3
                  rw [hkn]
                  exact e3⟩
                have hlen := rep_beg s (List.replicate s (0 : Int)) (List.length_replicate ..) n
                rw [HN.out] at hlen
                have hby : Byts (List.replicate n (List.replicate s (0 : Int))) := fun t ht x hx => by
                  obtain ⟨_, rfl⟩ := List.mem_replicate.1 ht
                  obtain ⟨_, rfl⟩ := List.mem_replicate.1 hx
                  omega
                have hbu := build_any (List.replicate n (List.replicate s (0 : Int))) A6 k c6 wr HSL.out hby (by have := HBIG.out; omega) (HTAB.out.keep hT.out.ch)
                have HC := Bx.mk hT.out.ch
                have HLEN := Bx.mk hlen
                clear ho hT hlen hby hkn
                go_wp2_with fail
                refine hbu.mono ?_
                rintro e0 w2 (⟨h, _⟩ | ⟨_, rfl, hC2⟩)
                · have h1 := HBIG.out
                  rw [HLEN.out] at h
                  omega
                · have HC2 := Bx.mk (HC.out.trans hC2 (fun _ _ h => h))
                  have hk2 := known_any w2 (HTAB.out.keep HC2.out)
                  clear hC2 hbu HC
                  go_wp2_with fail
                  refine hk2.mono ?_
                  rintro e0 w3 ⟨rfl, hC3⟩
                  have HC3 := Bx.mk (HC2.out.trans hC3 (fun _ _ h => h))
                  clear hC3 hk2
                  go_wp2
                  go_ret
                  exact ⟨rfl, HC3.out⟩
end Go.Proofs.YtckkjccjkdidjaaGreatDoor
