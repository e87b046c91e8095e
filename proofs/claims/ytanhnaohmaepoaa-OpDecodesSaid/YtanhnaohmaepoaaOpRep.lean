/-
  The contract of op's EncodeReply.
  Conditions: the numbers read as they say.
-/
import Derived.Test.YtanhnaohmaepoaaOpLay
namespace Go.Proofs.Ytanhnaohmaepoaa
open Go.RowKit Go.Oct Go.Su Go.Sg Go.Om

theorem enc_flat_le (zs : List Int) (n : Nat) (h : zs.length ≤ n) : (zs.flatMap encI).length ≤ 9 * n := by
  induction zs generalizing n with
  | nil => simp
  | cons a l ih =>
    rw [List.flatMap_cons, List.length_append]
    have h1 := encI_len a
    simp only [List.length_cons] at h
    have h2 := ih (n - 1) (by omega)
    omega
section
variable {F : Nat → Prop}
set_option maxHeartbeats 1000000 in
theorem erep_any (z : Int) (l : List Int) (A : Option Addr) (n c : Nat) (w : World) (hz : Sl w F .i64 A n l) (hn : n ≤ 1000000) (hnc : n ≤ c) (hc : c ≤ maxLen) :
    Calls Try.prog 23 #[.agg #[.int .i64 z, .slice A n c]] w fun e w' => ∃ v, e = .returned v ∧ Fresh w v (repB z l) w' := by
  have hc63 : c ≤ 9223372036854775807 := by unfold maxLen at hc; omega
  obtain ⟨m, hm, hm8, hmn, hmx⟩ : ∃ m, (if 8 < n then 8 else n) = m ∧ m ≤ 8 ∧ m ≤ n ∧ (l.take 8).length = m := by
    refine ⟨_, rfl, by split <;> omega, by split <;> omega, ?_⟩
    rw [List.length_take, hz.len]
    split <;> omega
  have HT : Bx (Sl w F .i64 A m (l.take 8)) := ⟨by
    unfold Sl
    rw [List.map_take]
    have h := Vs.take hz (show m ≤ n from hmn)
    have e : (l.map (Value.int .i64)).take 8 = (l.map (Value.int .i64)).take m := by
      by_cases h8 : 8 < n
      · rw [if_pos h8] at hm; rw [hm]
      · rw [if_neg h8] at hm
        rw [List.take_of_length_le (by rw [List.length_map, hz.len]; omega), List.take_of_length_le (by rw [List.length_map, hz.len]; omega)]
    rw [e]
    exact h⟩
  have HR : Bx ([] ++ [z, (m : Int)].flatMap encI ++ (l.take 8).flatMap encI = repB z l) := ⟨by
    unfold repB
    rw [hmx, List.flatMap_append, List.nil_append]⟩
  have HRL : Bx ((repB z l).length ≤ 10000000000000) := ⟨by
    rw [← HR.out, List.nil_append, List.length_append]
    have h1 := enc_flat_le [z, (m : Int)] 2 (by simp)
    have h2 := enc_flat_le (l.take 8) 8 (by omega)
    omega⟩
  obtain ⟨L8, hL8⟩ : ∃ L, l.take 8 = L := ⟨_, rfl⟩
  rw [hL8] at HT HR
  clear hL8 hmx hz
  obtain ⟨w1, hw1⟩ : ∃ w1, w.alloc (.cells #[.int .i64 z, .slice A n c] 41) = w1 := ⟨_, rfl⟩
  have hC1 : Ch (fun _ => False) w w1 := by rw [← hw1]; exact (Ch.refl _ _).alloc _
  have hb1 : w1.heap[w.heap.size]? = some (.cells #[.int .i64 z, .slice A n c] 41 (0, 0)) := by rw [← hw1]; exact heap_alloc_new w _
  have z0 : w1.cell? ⟨w.heap.size, 0, none⟩ = some (.int .i64 z) := by simp [World.cell?, hb1]
  have z1 : w1.cell? ⟨w.heap.size, 1, none⟩ = some (.slice A n c) := by simp [World.cell?, hb1]
  obtain ⟨w2, hw2⟩ : ∃ w2, w1.alloc (.cells #[.slice none 0 0] 64) = w2 := ⟨_, rfl⟩
  obtain ⟨bw, hbw⟩ : ∃ bw, w1.heap.size = bw := ⟨_, rfl⟩
  have hL := Lay.new hC1
  rw [hw2, hbw] at hL
  have hC2 : Ch (fun _ => False) w1 w2 := by rw [← hw2]; exact (Ch.refl _ _).alloc _
  have x0 := hC2.cell (fun h => h) z0
  have hsz : w2.heap.size = bw + 1 := by rw [← hw2, ← hbw, World.size_alloc]
  have hb0 : w.heap.size < bw := by rw [← hbw, ← hw1, World.size_alloc]; omega
  have HN := Bx.mk (lay_lit hL [z, (m : Int)] (by simp) (by simp))
  rw [hsz] at HN
  have HL0 := Bx.mk hL
  have HB0 := Bx.mk hb0
  clear hb1 hL hC1 hC2 hb0
  go_enter Try.func23, Try.ntmps23
  by_cases h8 : 8 < n
  · rw [if_pos h8] at hm
    subst hm
    go_wp2_with fail
    refine HN.out.mono ?_
    rintro e w4 ⟨rfl, v4, hL4, hC4⟩
    clear HN HL0 hsz hw1 hw2 hbw x0 z0 z1 hC4
    have HN2 := Bx.mk (lay_nums hL4 L8 A 8 c ((HT.out.mono (G := fun b => b < w.heap.size) fun b hb _ => hb).ch hL4.ch (fun _ _ _ h => h)) (fun b hb hs => by have h1 := (hL4.ws hs).1; have h2 := hL4.low; omega) (by omega) (by
      have h := enc_flat_le [z, ((8 : Nat) : Int)] 2 (by simp)
      rw [List.nil_append]
      omega))
    rw [HR.out] at HN2
    clear hL4
    go_wp2_with fail
    refine HN2.out.mono ?_
    rintro e w5 ⟨rfl, v5, hL5, hC5⟩
    have HO := Bx.mk (lay_out hL5 HRL.out)
    clear HN2 hC5 hL5
    go_wp2_with fail
    refine HO.out.mono ?_
    rintro e w6 ⟨v6, rfl, hf⟩
    have HF := Bx.mk hf
    clear hf HO
    go_wp2
    go_ret
    exact ⟨v6, rfl, HF.out⟩
  · rw [if_neg h8] at hm
    subst hm
    go_wp2_with fail
    refine HN.out.mono ?_
    rintro e w4 ⟨rfl, v4, hL4, hC4⟩
    clear HN HL0 hsz hw1 hw2 hbw x0 z0 z1 hC4
    have HN2 := Bx.mk (lay_nums hL4 L8 A n c ((HT.out.mono (G := fun b => b < w.heap.size) fun b hb _ => hb).ch hL4.ch (fun _ _ _ h => h)) (fun b hb hs => by have h1 := (hL4.ws hs).1; have h2 := hL4.low; omega) (by omega) (by
      have h := enc_flat_le [z, (n : Int)] 2 (by simp)
      rw [List.nil_append]
      omega))
    rw [HR.out] at HN2
    clear hL4
    go_wp2_with fail
    refine HN2.out.mono ?_
    rintro e w5 ⟨rfl, v5, hL5, hC5⟩
    have HO := Bx.mk (lay_out hL5 HRL.out)
    clear HN2 hC5 hL5
    go_wp2_with fail
    refine HO.out.mono ?_
    rintro e w6 ⟨v6, rfl, hf⟩
    have HF := Bx.mk hf
    clear hf HO
    go_wp2
    go_ret
    exact ⟨v6, rfl, HF.out⟩
end
end Go.Proofs.Ytanhnaohmaepoaa
