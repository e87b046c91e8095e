/-
  The contract of op's Decode.
  Conditions: the bytes read as they say; not too many.
-/
import Derived.Test.YtanhnaohmaepoaaOpFault
import Derived.Test.YtanhnaohmaepoaaOpRd
import Derived.Test.YtanhnaohmaepoaaOpRefDec
namespace Go.Proofs.Ytanhnaohmaepoaa
open Go.RowKit Go.Oct Go.Su Go.Sg Go.Om

theorem set5_ch {w wc : World} {bq : Nat} {u0 u1 u2 u3 u4 : Value} (h : Ch (fun _ => False) w wc) (hb : w.heap.size = bq) : Ch (fun _ => False) w (((((wc.setCell ⟨bq, 0, none⟩ u0).setCell ⟨bq, 1, none⟩ u1).setCell ⟨bq, 2, none⟩ u2).setCell ⟨bq, 3, none⟩ u3).setCell ⟨bq, 4, none⟩ u4) :=
  h.trans ((((((Ch.refl (fun b => b = bq) wc).setCell (p := ⟨bq, 0, none⟩) (.inl rfl) _).setCell (p := ⟨bq, 1, none⟩) (.inl rfl) _).setCell (p := ⟨bq, 2, none⟩) (.inl rfl) _).setCell (p := ⟨bq, 3, none⟩) (.inl rfl) _).setCell (p := ⟨bq, 4, none⟩) (.inl rfl) _) (fun i hi (e : i = bq) => by omega)
theorem set5_fr {w wc : World} {bq : Nat} {v u0 u1 u2 u3 u4 : Value} {xs : List Int} (h : Fresh w v xs wc) (hb : w.heap.size = bq) (hne : ∀ g, v.ownBlock = some g → g ≠ bq) : Fresh w v xs (((((wc.setCell ⟨bq, 0, none⟩ u0).setCell ⟨bq, 1, none⟩ u1).setCell ⟨bq, 2, none⟩ u2).setCell ⟨bq, 3, none⟩ u3).setCell ⟨bq, 4, none⟩ u4) :=
  ⟨((((((Ch.refl (fun b => b = bq) wc).setCell (p := ⟨bq, 0, none⟩) (.inl rfl) _).setCell (p := ⟨bq, 1, none⟩) (.inl rfl) _).setCell (p := ⟨bq, 2, none⟩) (.inl rfl) _).setCell (p := ⟨bq, 3, none⟩) (.inl rfl) _).setCell (p := ⟨bq, 4, none⟩) (.inl rfl) _).own h.1 (fun g hg => hne g hg), h.2.1, set5_ch h.2.2 hb⟩
section
variable {F : Nat → Prop}
set_option maxHeartbeats 2000000 in
theorem decode_any (xs : List Int) (A : Option Addr) (n c : Nat) (w : World) (hz : Sl w F .u8 A n xs) (hby : Byt xs) (hn : n ≤ 90000) (hnc : n ≤ c) (hc : c ≤ maxLen) :
    Calls Try.prog 14 #[.slice A n c] w (DecPost xs w) := by
  have HN : Bx (xs.length ≤ 90000) := ⟨by rw [hz.len]; omega⟩
  obtain ⟨w1, hw1⟩ : ∃ w1, w.alloc (.cells #[.int .i64 0, .int .i64 0, .int .i64 0, .string ⟨#[]⟩, .slice none 0 0] 24) = w1 := ⟨_, rfl⟩
  obtain ⟨bq, hbq⟩ : ∃ bq, w.heap.size = bq := ⟨_, rfl⟩
  obtain ⟨w2, hw2⟩ : ∃ w2, w1.alloc (.cells #[.int .i64 0, .int .i64 0, .int .i64 0, .string ⟨#[]⟩, .slice none 0 0] 24) = w2 := ⟨_, rfl⟩
  have hs1 : w1.heap.size = bq + 1 := by rw [← hw1, ← hbq, World.size_alloc]
  have hs2 : w2.heap.size = bq + 2 := by rw [← hw2, World.size_alloc, hs1]
  have hC1 : Ch (fun _ => False) w w1 := by rw [← hw1]; exact (Ch.refl _ _).alloc _
  have hC12 : Ch (fun _ => False) w1 w2 := by rw [← hw2]; exact (Ch.refl _ _).alloc _
  have hC2 := hC1.trans hC12 (fun _ _ h => h)
  have hzq : OpB w2 bq 0 0 0 (.string ⟨#[]⟩) (.slice none 0 0) := by
    refine OpB.ch (w := w1) ?_ hC12 (fun h => h)
    rw [← hw1, ← hbq]; exact heap_alloc_new w _
  have hzo : OpB w2 (bq + 1) 0 0 0 (.string ⟨#[]⟩) (.slice none 0 0) := by
    rw [← hw2, ← hs1]; exact heap_alloc_new w1 _
  have HR := Bx.mk (newrd_any A n c xs w2 F (hz.ch hC2 (fun _ _ _ h => h)) (by omega) hnc hc hby)
  have HZQ := Bx.mk hzq
  have HZO := Bx.mk hzo
  have HC2 := Bx.mk hC2
  have HBQ := Bx.mk hbq
  clear hz hby hC1 hC12 hC2 hzq hzo
  go_enter Try.func14, Try.ntmps14
  go_wp2_with fail
  refine HR.out.mono ?_
  rintro e w3 ⟨br, rfl, hbr, hR3, hC3⟩
  rw [hs2] at hbr hR3
  have hC03 := HC2.out.trans hC3 (fun _ _ h => h)
  have hs3 := hC3.size
  obtain ⟨bs, hbs⟩ : ∃ bs, w3.heap.size = bs := ⟨_, rfl⟩
  have hlt3 := O.RdQ.lt hR3
  have hC34 := (Ch.refl (fun _ => False) w3).alloc (.cells #[.pointer (some ⟨bq + 1, 0, none⟩), .pointer (some ⟨bq + 1, 1, none⟩), .pointer (some ⟨bq + 1, 2, none⟩)] 73)
  have HM := Bx.mk (nums3_any br w3.heap.size (bq + 1) false xs 0 0 0 (.string ⟨#[]⟩) (.slice none 0 0) _ (rdq_keep hR3 hC34 (fun h => h) (fun _ _ _ h => h)) (fun b hb e => by have := hb.1; omega)
    (ncells_at (j := 0) rfl) (ncells_at (j := 1) rfl) (ncells_at (j := 2) rfl) ((HZO.out.ch hC3 (fun h => h)).ch hC34 (fun h => h)) (by omega) (by omega) (by omega))
  have HZQ4 := Bx.mk ((HZQ.out.ch hC3 (fun h => h)).ch hC34 (fun h => h))
  have HC4 := Bx.mk (hC03.alloc (.cells #[.pointer (some ⟨bq + 1, 0, none⟩), .pointer (some ⟨bq + 1, 1, none⟩), .pointer (some ⟨bq + 1, 2, none⟩)] 73))
  have HBR := Bx.mk hbr
  clear hR3 hC3 hC03 hs3 hlt3 hC34 HR HC2 HZQ HZO hbs hbr
  go_wp2_with fail
  refine HM.out.mono ?_
  rintro e w5 ⟨rfl, hR5, hO5, hC5⟩
  have hR5 : O.RdQ (fun b => bq + 2 ≤ b ∧ b < br) w5 br (nb (s2 xs)) (s3 xs) := hR5
  have hO5 : OpB w5 (bq + 1) (takO xs).kd (takO xs).cl (takO xs).sq (.string ⟨#[]⟩) (.slice none 0 0) := hO5
  have hZ5 := HZQ4.out.ch hC5 (fun h => by have := HBR.out; omega)
  have hC05 := HC4.out.trans hC5 (fun i hi h => by have := HBR.out; have := HBQ.out; omega)
  have ho5 : (s5 xs).length ≤ (s4 xs).length := br_len _
  have ho4 : (s4 xs).length ≤ (s3 xs).length := br_len _
  have ho3 : (s3 xs).length ≤ (s2 xs).length := nr_len _
  have ho2 : (s2 xs).length ≤ (s1 xs).length := nr_len _
  have ho1 : (s1 xs).length ≤ xs.length := nr_len _
  have hM := HN.out
  have HB5 := Bx.mk (O.bytes_step br _ (s3 xs) w5 (by omega) hR5)
  have HLN : Bx ((s4 xs).length ≤ 90000) := ⟨by omega⟩
  have HO5 := Bx.mk hO5
  have HZ5 := Bx.mk hZ5
  have HC5 := Bx.mk hC05
  clear hR5 hO5 hC5 hZ5 hC05 ho5 ho4 ho3 ho2 ho1 hM HM HC4 HZQ4 hw1 hw2 hs1 hs2
  go_wp2_with fail
  refine HB5.out.mono ?_
  rintro e w6 ⟨v6, rfl, hrow6, hR6, hC6⟩
  have hR6 : O.RdQ (fun b => bq + 2 ≤ b ∧ b < br) w6 br (bb (s3 xs)) (s4 xs) := hR6
  obtain ⟨A6, c6, rfl, _, _⟩ := own_shape hrow6.1
  obtain ⟨SK, hSK⟩ : ∃ S : ByteArray, kv (keyI (bv (s3 xs))) = .string S := ⟨_, rfl⟩
  have hcv := conv_rowS hSK hrow6.1
  have HSK := Bx.mk hSK
  have hO6 := HO5.out.ch hC6 (fun (h : bq + 1 = br) => by have := HBR.out; omega)
  have hZ6 := HZ5.out.ch hC6 (fun (h : bq = br) => by have := HBR.out; omega)
  have hC06 := HC5.out.trans hC6 (fun i hi (h : i = br) => by have := HBR.out; have := HBQ.out; omega)
  obtain ⟨_, _, _, z3, _, _, _, _, y3, _⟩ := hO6.facts
  obtain ⟨w7, hw7⟩ : ∃ w7, w6.setCell ⟨bq + 1, 3, none⟩ (.string SK) = w7 := ⟨_, rfl⟩
  have hC67 : Ch (fun b => b = bq + 1) w6 w7 := by rw [← hw7]; exact ch_set
  have hO7 := hO6.set3 (.string SK)
  rw [hw7] at hO7
  have hZ7 := hZ6.ch hC67 (by omega)
  have hC07 := hC06.trans hC67 (fun i hi (h : i = bq + 1) => by have := HBQ.out; omega)
  have hR7 := rdq_keep hR6 hC67 (fun (h : br = bq + 1) => by have := HBR.out; omega) (fun b hb _ (h : b = bq + 1) => by have := hb.1; omega)
  have HB7 := Bx.mk (O.bytes_step br _ (s4 xs) w7 (Nat.le_trans HLN.out (by omega)) hR7)
  have HO7 := Bx.mk hO7
  have HZ7 := Bx.mk hZ7
  have HC7 := Bx.mk hC07
  have HSZ7 : Bx (w.heap.size ≤ w7.heap.size ∧ bq + 2 ≤ w7.heap.size) := ⟨⟨hC07.size, by have := (Array.getElem?_eq_some_iff.1 hO7).1; omega⟩⟩
  clear hrow6 hR6 hC6 hO6 hZ6 hC06 hC67 hO7 hZ7 hC07 hR7 hSK HB5 HO5 HZ5 HC5
  go_wp2_with fail
  refine HB7.out.mono ?_
  rintro e w8 ⟨v8, rfl, hrow8, hR8, hC8⟩
  clear hw7 z3 y3 hcv
  have hR8 : O.RdQ (fun b => bq + 2 ≤ b ∧ b < br) w8 br (bb (s4 xs)) (s5 xs) := hR8
  obtain ⟨m, hm⟩ : ∃ m, (bv (s4 xs)).length = m := ⟨_, rfl⟩
  obtain ⟨A8, c8, rfl, h81, h82⟩ := own_shape hrow8.1
  have hO8 := HO7.out.ch hC8 (fun (h : bq + 1 = br) => by have := HBR.out; omega)
  have hZ8 := HZ7.out.ch hC8 (fun (h : bq = br) => by have := HBR.out; omega)
  have hC08 := HC7.out.trans hC8 (fun i hi (h : i = br) => by have := HBR.out; have := HBQ.out; omega)
  obtain ⟨_, _, _, _, z4, _, _, _, _, y4⟩ := hO8.facts
  rw [hm]
  obtain ⟨w9, hw9⟩ : ∃ w9, w8.setCell ⟨bq + 1, 4, none⟩ (.slice A8 m c8) = w9 := ⟨_, rfl⟩
  have hC89 : Ch (fun b => b = bq + 1) w8 w9 := by rw [← hw9]; exact ch_set
  have hO9 := hO8.set4 (.slice A8 m c8)
  rw [hw9] at hO9
  have hZ9 := hZ8.ch hC89 (by omega)
  have hC09 := hC08.trans hC89 (fun i hi (h : i = bq + 1) => by have := HBQ.out; omega)
  have hR9 := rdq_keep hR8 hC89 (fun (h : br = bq + 1) => by have := HBR.out; omega) (fun b hb _ (h : b = bq + 1) => by have := hb.1; omega)
  have hF9 : Fresh w (.slice A8 m c8) (bv (s4 xs)) w9 := by
    rw [← hm]
    refine ⟨hC89.own hrow8.1 (fun g hg (h : g = bq + 1) => ?_), fun g hg => ?_, hC09⟩
    · have := hrow8.2 g hg
      have := HSZ7.out
      omega
    · have := hrow8.2 g hg
      have := HSZ7.out
      omega
  have HNE9 : Bx (∀ g, (Value.slice A8 m c8).ownBlock = some g → g ≠ bq) := ⟨fun g hg e => by
    rw [← hm] at hg
    have := hrow8.2 g hg
    have := HSZ7.out
    omega⟩
  have HW9 := Bx.mk (O.whole_any br _ _ w9 hR9)
  have HOK9 := Bx.mk (And.intro hO9 hZ9)
  have HO9 := Bx.mk hO9
  have HZ9 := Bx.mk hZ9
  have HF9 := Bx.mk hF9
  have HM := Bx.mk hm
  clear hrow8 hR8 hC8 hO8 hZ8 hC08 hC89 hO9 hZ9 hC09 hR9 hF9 HB7 HO7 HZ7 HC7 hm h81 h82
  go_wp2_with fail
  refine HW9.out.mono ?_
  rintro e w10 ⟨rfl, rfl⟩
  obtain ⟨z0, z1, z2, z3, z4, y0, y1, y2, y3, y4⟩ := HZ9.out.facts
  have HENO : Bx (endO xs = (!bb (s4 xs) && (s5 xs).isEmpty)) := ⟨rfl⟩
  obtain ⟨en, hen⟩ : ∃ en, (!bb (s4 xs) && (s5 xs).isEmpty) = en := ⟨_, rfl⟩
  rw [hen] at HENO ⊢
  clear HW9 hen
  cases en with
  | false =>
    have HNO : Bx (decO xs = aoNo ∧ decE xs = 3) := ⟨by
      have hne : ¬ (endO xs = true ∧ errO (takO xs) = 0) := fun h => by rw [HENO.out] at h; simp at h
      unfold decO decE
      rw [if_neg hne, if_neg hne]
      exact ⟨rfl, rfl⟩⟩
    go_wp2_with fail
    refine bodyPost_ret (v := .tuple #[.agg #[.int .i64 0, .int .i64 0, .int .i64 0, .string ⟨#[]⟩, .slice none 0 0], .int .i64 3]) (by simp [results, Try.results14, go_sem, z0, z1, z2, z3, z4]) rfl ?_
    exact DecPost.no HNO.out (set5_ch HF9.out.2.2 HBQ.out)
  | true =>
    obtain ⟨kd, cl, sq, kk, txt, hO⟩ : ∃ kd cl sq kk txt, takO xs = ⟨kd, cl, sq, kk, txt⟩ := ⟨_, _, _, _, _, rfl⟩
    have htx : bv (s4 xs) = txt := by have : (takO xs).txt = txt := by rw [hO]
                                      exact this
    have hkk : keyI (bv (s3 xs)) = kk := by have : (takO xs).key = kk := by rw [hO]
                                            exact this
    obtain ⟨k0, k1, k2, k3, k4, _, _, _, _, _⟩ := HO9.out.facts
    rw [hO] at k0 k1 k2
    have k0 : w9.cell? ⟨bq + 1, 0, none⟩ = some (.int .i64 kd) := k0
    have k1 : w9.cell? ⟨bq + 1, 1, none⟩ = some (.int .i64 cl) := k1
    have k2 : w9.cell? ⟨bq + 1, 2, none⟩ = some (.int .i64 sq) := k2
    have htl := (takO_len xs).1
    rw [hO] at htl
    have HFL := Bx.mk (fault_any kd cl sq kk txt A8 m c8 w9 (by rw [← htx]; exact HM.out) (by have h : kk.length ≤ xs.length := htl; have := HN.out; omega))
    have hsk := HSK.out
    rw [hkk] at hsk
    rw [hsk] at HFL
    have HSK2 := Bx.mk hsk
    have HTX := Bx.mk htx
    have HOE := Bx.mk hO
    obtain ⟨er, her⟩ : ∃ er, errO ⟨kd, cl, sq, kk, txt⟩ = er := ⟨_, rfl⟩
    have HER := Bx.mk her
    clear htl hkk htx hO hsk her hw9
    go_wp2_with fail
    refine HFL.out.mono ?_
    rintro e w11 ⟨rfl, hC11⟩
    rw [HER.out]
    have HF11 := Bx.mk (HF9.out.keep hC11)
    obtain ⟨_, _, _, _, _, t0, t1, t2, t3, t4⟩ := (HZ9.out.ch hC11 (fun h => h)).facts
    have s0 := hC11.cell (fun h => h) z0
    have s1 := hC11.cell (fun h => h) z1
    have s2 := hC11.cell (fun h => h) z2
    have s3 := hC11.cell (fun h => h) z3
    have s4 := hC11.cell (fun h => h) z4
    have j0 := hC11.cell (fun h => h) k0
    have j1 := hC11.cell (fun h => h) k1
    have j2 := hC11.cell (fun h => h) k2
    have j3 := hC11.cell (fun h => h) k3
    have j4 := hC11.cell (fun h => h) k4
    clear z0 z1 z2 z3 z4 y0 y1 y2 y3 y4 k0 k1 k2 k3 k4 hC11 HFL
    by_cases h0 : er = 0
    · subst h0
      have HYES : Bx (decO xs = ⟨kd, cl, sq, kk, txt⟩ ∧ decE xs = 0) := ⟨by
        have h1 : endO xs = true ∧ errO (takO xs) = 0 := ⟨HENO.out, by rw [HOE.out]; exact HER.out⟩
        unfold decO decE
        rw [if_pos h1, if_pos h1]
        exact ⟨HOE.out, rfl⟩⟩
      go_wp2_with fail
      refine bodyPost_ret (v := .tuple #[.agg #[.int .i64 kd, .int .i64 cl, .int .i64 sq, .string SK, .slice A8 m c8], .int .i64 0]) (by simp [results, Try.results14, go_sem, s0, s1, s2, s3, s4]) rfl ?_
      have hfin := set5_fr (u0 := .int .i64 kd) (u1 := .int .i64 cl) (u2 := .int .i64 sq) (u3 := .string SK) (u4 := .slice A8 m c8) HF11.out HBQ.out HNE9.out
      rw [← HSK2.out] at hfin ⊢
      have hm := HM.out
      rw [HTX.out] at hm hfin
      subst hm
      exact DecPost.yes HYES.out hfin
    · have e0 : (er != 0) = true := by simpa using h0
      have HNO : Bx (decO xs = aoNo ∧ decE xs = 3) := ⟨by
        have hne : errO (takO xs) ≠ 0 := by rw [HOE.out, HER.out]; exact h0
        unfold decO decE
        rw [if_neg (fun h => hne h.2), if_neg (fun h => hne h.2)]
        exact ⟨rfl, rfl⟩⟩
      clear h0 j0 j1 j2 j3 j4
      go_wp2_with fail
      refine bodyPost_ret (v := .tuple #[.agg #[.int .i64 0, .int .i64 0, .int .i64 0, .string ⟨#[]⟩, .slice none 0 0], .int .i64 3]) (by simp [results, Try.results14, go_sem, s0, s1, s2, s3, s4]) rfl ?_
      exact DecPost.no HNO.out (set5_ch HF11.out.2.2 HBQ.out)
end
end Go.Proofs.Ytanhnaohmaepoaa
