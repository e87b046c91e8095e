/-
  The contract of op's ReadMatches.
  Conditions: the bytes read as they say; not too many.
-/
import Derived.Test.YtanhnaohmaepoaaOpFault
import Derived.Test.YtanhnaohmaepoaaOpRd
import Derived.Test.YtanhnaohmaepoaaOpDMat
namespace Go.Proofs.Ytanhnaohmaepoaa
open Go.RowKit Go.Oct Go.Su Go.Sg Go.Om

theorem encN_pos (m : Nat) : 1 ≤ (encN m).length := by
  by_cases h : m < 128
  · rw [encN_small h]; simp
  · rw [encN_big (by omega)]; simp
theorem mB_three {m : Key × Int} (h : OkM m) : 3 ≤ (mB m).length := by
  obtain ⟨hk, h0, h1⟩ := h
  unfold mB rowB
  rw [encI_pos h0 h1]
  simp only [List.length_append]
  have e1 := encN_pos (kI m.1).length
  have e2 := encN_pos m.2.toNat
  have e3 : 1 ≤ (kI m.1).length := by rw [kI_len]; exact hk.1
  omega
theorem mat_three (l : List (Key × Int)) (h : ∀ m ∈ l, OkM m) : l.length * 3 ≤ (l.flatMap mB).length := by
  induction l with
  | nil => simp
  | cons a l ih =>
    have h1 := mB_three (h a (by simp))
    have h2 := ih (fun m hm => h m (by simp [hm]))
    rw [List.flatMap_cons, List.length_append, List.length_cons]
    omega
theorem goodM_room {l : List (Key × Int)} {xs : List Int} (h : GoodM l xs) : nv xs * 3 ≤ (nr xs).length := by
  obtain ⟨a1, a2, a3⟩ := num_take (m := l.length) h.few (l.flatMap mB ++ [])
  have e0 : xs = encN l.length ++ (l.flatMap mB ++ []) := by rw [h.eq, List.append_nil]
  rw [← e0] at a1 a3
  rw [a1, a3, List.append_nil]
  exact mat_three l h.ok
theorem goodM_keys {l : List (Key × Int)} {xs : List Int} (h : GoodM l xs) {k : Nat} (hk : k < nv xs) : okK (mv (mst (nb xs, nr xs) k).2).1 := by
  obtain ⟨a1, a2, a3⟩ := goodM_take h
  refine Classical.byContradiction fun hno => ?_
  have hs : Sane (nb xs, nr xs) := fun h => (nb_nil h).1
  have hb : (mst (nb xs, nr xs) (k + 1)).1 = true := by
    show (mst1 (mst (nb xs, nr xs) k)).1 = true
    unfold mst1
    rw [if_neg (show ¬ okK (keyI (bv (mst (nb xs, nr xs) k).2)) from hno)]
  have := mst_bad_le hs hb (by omega : k + 1 ≤ l.length)
  rw [a2] at this
  simp at this
theorem mst_len (s : Bool × List Int) : ∀ k, (mst s k).2.length ≤ s.2.length
  | 0 => Nat.le_refl _
  | k + 1 => by
    refine Nat.le_trans ?_ (mst_len s k)
    show (mst1 (mst s k)).2.length ≤ _
    unfold mst1
    split
    · exact Nat.le_trans (nr_len _) (br_len _)
    · simp
section
variable {F : Nat → Prop}
/-- The places under way: k are taken. -/
structure PM (s : Bool × List Int) (w wr : World) (br : Nat) (v : Value) (k : Nat) : Prop where
  row : Gs 59 2 w wr v k (valM (mvs s k))
  rd : O.RdQ (fun b => b < br) wr br (mst s k).1 (mst s k).2
  apart : ∀ g, v.ownBlock = some g → br < g
theorem PM.next {s : Bool × List Int} {w wr w3 w5 : World} {br k : Nat} {v v' : Value} (h : PM s w wr br v k) (hbr : w.heap.size ≤ br) {o : Obj} (hok : okK (mv (mst s k).2).1)
    (hr3 : O.RdQ (fun b => b < br) w3 br (nb (br_ (mst s k).2)) (nr (br_ (mst s k).2))) (hc3 : Ch (O.RS br) wr w3)
    (ho : w5.ownsRow 0 59 2 v' (k + 1) (valM (mvs s k) ++ [kv (mv (mst s k).2).1, .int .i64 (mv (mst s k).2).2])) (hg : (w3.alloc o).grownBy w5 v.ownBlock) (hb : v'.ownBlock = v.ownBlock ∨ v'.ownBlock = some (w3.alloc o).heap.size) : PM s w w5 br v' (k + 1) := by
  have hlt3 := O.RdQ.lt hr3
  have h3 : Gs 59 2 w w3 v k (valM (mvs s k)) := ⟨hc3.own h.row.own (fun g hg (e : g = br) => by have := h.apart g hg; omega), h.row.lies, h.row.ch.trans hc3 (fun i hi (e : i = br) => by omega)⟩
  have hC : Ch (fun b => v.ownBlock = some b) w3 w5 := ((Ch.refl (fun b => v.ownBlock = some b) w3).alloc o).grown hg (fun _ h => .inl h)
  refine ⟨?_, ?_, fun g hg => ?_⟩
  · rw [mvs_more, valM_app]
    exact h3.app (m := 1) ((Ch.refl _ _).alloc o) ho hg hb
  · have e : mst s (k + 1) = (nb (br_ (mst s k).2), nr (br_ (mst s k).2)) := by
      show mst1 (mst s k) = _
      unfold mst1
      rw [if_pos (show okK (keyI (bv (mst s k).2)) from hok)]
    rw [e]
    exact rdq_keep hr3 hC (fun e => by have := h.apart br e; omega) (fun b hb _ e => by have h1 := h.apart b e; have h2 : b < br := hb; omega)
  · rcases hb with hb | hb
    · exact h.apart g (hb ▸ hg)
    · rw [hb] at hg
      injection hg with hg
      have := World.size_alloc w3 o
      omega
set_option maxHeartbeats 2000000 in
theorem decmat_any (xs : List Int) (A : Option Addr) (n c : Nat) (w : World) (hz : Sl w F .u8 A n xs) (hby : Byt xs) (hn : n ≤ 90000) (hnc : n ≤ c) (hc : c ≤ maxLen) :
    Calls Try.prog 19 #[.slice A n c] w (DMatPost xs w) := by
  have HN : Bx (xs.length ≤ 90000) := ⟨by rw [hz.len]; omega⟩
  have HBY := Bx.mk hby
  have HR := Bx.mk (newrd_any A n c xs w F hz (by omega) hnc hc hby)
  clear hz hby
  go_enter Try.func19, Try.ntmps19
  go_wp2_with fail
  refine HR.out.mono ?_
  rintro e w4 ⟨br, rfl, hbr, hR4, hC4⟩
  have hR4 : O.RdQ (fun b => b < br) w4 br false xs := by
    obtain ⟨A', n', c', h1, h2, h3⟩ := hR4
    exact ⟨A', n', c', h1, h2.mono fun b _ hb => ⟨hb.1, hb.2.2⟩, h3⟩
  have HNUM := Bx.mk (O.num_step br false xs w4 hR4)
  have HC4 := Bx.mk hC4
  have HBR := Bx.mk hbr
  clear hR4 hC4 HR hbr
  go_wp2_with fail
  refine HNUM.out.mono ?_
  rintro e w5 ⟨rfl, hR5, hC5⟩
  have HC5 := Bx.mk (HC4.out.trans hC5 (fun i hi (h : i = br) => by have := HBR.out; omega))
  have HL := Bx.mk (O.left_any br _ _ w5 hR5)
  have HR5 := Bx.mk hR5
  obtain ⟨N, hN⟩ : ∃ N, nv xs = N := ⟨_, rfl⟩
  have HNN := Bx.mk hN
  obtain ⟨L, hL⟩ : ∃ L, (nr xs).length = L := ⟨_, rfl⟩
  have HLL := Bx.mk hL
  have hL9 : L ≤ 90000 := by rw [← hL]; exact Nat.le_trans (nr_len xs) HN.out
  rw [hL] at HL
  rw [hN]
  clear hR5 hC5 HNUM HC4 hN hL
  go_wp2_with fail
  refine HL.out.mono ?_
  rintro e w6 ⟨rfl, rfl⟩
  by_cases hbig : L / 3 < N
  · have dq : decide ((L : Int) / 3 < (N : Int)) = true := decide_eq_true (by omega)
    have HNO : Bx (∀ l, ¬ GoodM l xs) := ⟨fun l hg => by
      have h := goodM_room hg
      rw [HNN.out, HLL.out] at h
      omega⟩
    go_wp2_with fail
    go_ret2
    exact .inr ⟨HNO.out, rfl, HC5.out⟩
  · have dq : decide ((L : Int) / 3 < (N : Int)) = false := decide_eq_false (by omega)
    have hN3 : N ≤ 30000 := by omega
    obtain ⟨s, hs⟩ : ∃ s : Bool × List Int, s = (nb xs, nr xs) := ⟨_, rfl⟩
    have HSD := Bx.mk hs
    have HU0 : Bx (PM s w w5 br (.slice none 0 0) 0) := ⟨⟨Gs.nilAt _ _ HC5.out, by rw [hs]; exact HR5.out, fun g hg => by simp [Value.ownBlock] at hg⟩⟩
    clear hs hbig
    go_wp2_with fail
    go_loopw [6, 7, 18] (fun v _ i wr => ∃ k : Nat, k ≤ N ∧ i = .int .i64 k ∧ Bx (PM s w wr br v k)) (fun _ _ i _ => N - (intOf i).toNat)
    case atStart => exact ⟨0, Nat.zero_le _, rfl, HU0⟩
    case round =>
      obtain ⟨k, hk, rfl, HU⟩ := hrel
      obtain ⟨wo, rfl⟩ : ∃ wo : World, wo = wr := ⟨_, rfl⟩
      obtain ⟨A1, c1, rfl, h11, h12⟩ := HU.out.row.shape
      by_cases hlt : k < N
      · have dk : decide ((k : Int) < (N : Int)) = true := decide_eq_true (by omega)
        have dk2 : decide (k < N) = true := decide_eq_true hlt
        have hyl : (mst s k).2.length ≤ 100000 := Nat.le_trans (mst_len s k) (by rw [HSD.out]; exact Nat.le_trans (nr_len xs) (Nat.le_trans HN.out (by omega)))
        obtain ⟨ys, hys⟩ : ∃ ys, (mst s k).2 = ys := ⟨_, rfl⟩
        have HYS := Bx.mk hys
        rw [hys] at hyl
        have HB := Bx.mk (O.bytes_step br (mst s k).1 ys wo hyl (by rw [← hys]; exact HU.out.rd))
        have HYL := Bx.mk hyl
        clear hys hyl
        go_wp2_with fail
        refine HB.out.mono ?_
        rintro e w7 ⟨v7, rfl, hrow, hR7, hC7⟩
        obtain ⟨A7, c7, rfl, _, _⟩ := own_shape hrow.1
        obtain ⟨SK, hSK⟩ : ∃ S : ByteArray, kv (keyI (bv ys)) = .string S := ⟨_, rfl⟩
        have hcv := conv_rowM hSK hrow.1
        have HKL : Bx ((keyI (bv ys)).length ≤ 9223372036854775807) := ⟨by
          rw [keyI_len]
          have := bvm_len ys
          have := HYL.out
          omega⟩
        have HK := Bx.mk (fun w => nokey_any (keyI (bv ys)) w HKL.out _ rfl)
        rw [hSK] at HK
        have HSK := Bx.mk hSK
        have HR7 := Bx.mk hR7
        have HC7 := Bx.mk hC7
        obtain ⟨nk, hnk⟩ : ∃ nk : Bool, (!decide (okK (keyI (bv ys)))) = nk := ⟨_, rfl⟩
        rw [hnk] at HK
        have HNK := Bx.mk hnk
        clear hrow hR7 hC7 hSK hnk HB
        go_wp2_with fail
        refine (HK.out _).mono ?_
        rintro e w8 ⟨rfl, rfl⟩
        clear HK hcv
        cases nk with
        | true =>
          have HNO : Bx (∀ l, ¬ GoodM l xs) := ⟨fun l hg => by
            have h := goodM_keys hg (k := k) (by rw [HNN.out]; exact hlt)
            rw [← HSD.out, HYS.out] at h
            have h2 := HNK.out
            rw [show decide (okK (keyI (bv ys))) = true from decide_eq_true h] at h2
            simp at h2⟩
          go_wp2_with fail
          go_ret2
          exact .inr ⟨HNO.out, rfl, HU.out.row.ch.trans HC7.out (fun i hi (e : i = br) => by have := HBR.out; omega)⟩
        | false =>
          have HOK : Bx (okK (keyI (bv ys))) := ⟨by have := HNK.out; simpa using this⟩
          have HNM := Bx.mk (O.num_step br _ _ w7 HR7.out)
          go_wp2_with fail
          refine HNM.out.mono ?_
          rintro e w9 ⟨rfl, hR9, hC9⟩
          have hC := HC7.out.trans hC9 (fun i _ h => h)
          obtain ⟨X, hX⟩ : ∃ X, nv (br_ ys) = X := ⟨_, rfl⟩
          rw [hX]
          have HX := Bx.mk hX
          have HOW := Bx.mk (hC.own HU.out.row.own (fun g hg (e : g = br) => by have := HU.out.apart g hg; omega))
          have HVC := Bx.mk (valM_cells (mvs s k))
          have HR9 := Bx.mk hR9
          have HC9 := Bx.mk hC
          clear hR9 hC9 hC hX HNM
          go_wp2_with (at_builtin; refine wp_appK rfl (.tmp 25) (.tmp 30) elemM rfl rfl (HOW.out.alloc _) rfl (m := 1) rfl (mat_cells w9 SK _) ?c1 ?c2 ?c3 ?_)
          case c1 => intro u hu; simp at hu; rcases hu with hu | hu <;> (subst hu; rfl)
          case c2 => omega
          case c3 => omega
          intro v11 w11 ho hg hb
          have HU11 : Bx (PM s w w11 br v11 (k + 1)) := ⟨PM.next HU.out HBR.out (by rw [HYS.out]; exact HOK.out) (by rw [HYS.out]; exact HR9.out) HC9.out (by
            rw [HYS.out]
            show w11.ownsRow 0 _ 2 v11 (k + 1) (valM (mvs s k) ++ [kv (keyI (bv ys)), .int .i64 (nv (br_ ys))])
            rw [HSK.out, HX.out]
            exact ho) hg (by rw [World.size_alloc]; exact hb)⟩
          clear ho hg hb HOW
          go_wp2_with fail
          go_roundw
          case rel => exact ⟨k + 1, by omega, by go_num, HU11⟩
          case measure => simp [intOf]; omega
      · obtain rfl : N = k := by omega
        have dk : decide ((N : Int) < (N : Int)) = false := decide_eq_false (by omega)
        have dk2 : decide (N < N) = false := decide_eq_false (by omega)
        have HWH := Bx.mk (O.whole_any br _ _ wo HU.out.rd)
        obtain ⟨en, hen⟩ : ∃ en, (!(mst s N).1 && (mst s N).2.isEmpty) = en := ⟨_, rfl⟩
        have HEN := Bx.mk hen
        rw [hen] at HWH
        clear hen
        go_wp2_with fail
        refine HWH.out.mono ?_
        rintro e w8 ⟨rfl, rfl⟩
        clear HWH
        cases en with
        | false =>
          have HNO : Bx (∀ l, ¬ GoodM l xs) := ⟨fun l hg => by
            obtain ⟨a1, a2, _⟩ := goodM_take hg
            have h := HEN.out
            rw [HSD.out, ← HNN.out, a1, a2] at h
            simp at h⟩
          go_wp2_with fail
          go_ret2
          exact .inr ⟨HNO.out, rfl, HU.out.row.ch⟩
        | true =>
          have HG : Bx (GoodM (mvs s N) xs) := ⟨by
            have h := HEN.out
            rw [Bool.and_eq_true, Bool.not_eq_true', List.isEmpty_iff] at h
            rw [HSD.out] at h ⊢
            rw [← HNN.out] at h ⊢
            exact goodM_of HBY.out (Prod.ext h.1 h.2)⟩
          go_wp2_with fail
          go_ret2
          exact DMatPost.yes HG.out (mvs_len s N) HU.out.row
end
end Go.Proofs.Ytanhnaohmaepoaa
