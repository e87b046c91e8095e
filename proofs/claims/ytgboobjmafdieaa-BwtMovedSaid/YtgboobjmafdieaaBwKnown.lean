/-
  The contract of haystacklaw6.known: true; that two answers to one row are one; a row's copy by append.
-/
import Derived.Test.YtgboobjmafdieaaBwDevTurn
import Derived.Test.YtgboobjmafdieaaBwDevBack
import Derived.Test.YtgboobjmafdieaaBwDevCounts
import Derived.Test.YtgboobjmafdieaaBwRefs
namespace Go.Proofs.Ytgboobjmafdieaa
open Go.RowKit Go.Oct Go.Su

theorem tres_one {s : List Int} {n m m' : Nat} {ec ec' : Int} {l l' : List Int} (a : TRes s n ec m l) (b : TRes s n ec' m' l') : ec' = ec ∧ m' = m ∧ l' = l := by
  rcases a with ⟨a1, a2, a3, a4⟩ | ⟨a1, a2, a3, a4, a5⟩ | ⟨a1, a2, a3, a4⟩ <;> rcases b with ⟨b1, b2, b3, b4⟩ | ⟨b1, b2, b3, b4, b5⟩ | ⟨b1, b2, b3, b4⟩
  · exact ⟨by omega, by omega, by rw [a4, b4]⟩
  · omega
  · omega
  · omega
  · exact ⟨by omega, by omega, by rw [a5, b5]⟩
  · exact absurd b4.closed a2
  · omega
  · exact absurd a4.closed b2
  · exact ⟨by omega, by omega, b4.det a4⟩
theorem bres_one {s : List Int} {n m m' : Nat} {ec ec' : Int} {l l' : List Int} (a : BRes s n ec m l) (b : BRes s n ec' m' l') : ec' = ec ∧ m' = m ∧ l' = l := by
  rcases a with ⟨a1, a2, a3, a4⟩ | ⟨a1, a2, a3, a4, a5⟩ | ⟨a1, a2, a3, a4⟩ <;> rcases b with ⟨b1, b2, b3, b4⟩ | ⟨b1, b2, b3, b4, b5⟩ | ⟨b1, b2, b3, b4⟩
  · exact ⟨by omega, by omega, by rw [a4, b4]⟩
  · omega
  · omega
  · omega
  · exact ⟨by omega, by omega, by rw [a5, b5]⟩
  · exact absurd b4 (a2 _)
  · omega
  · exact absurd a4 (b2 _)
  · exact ⟨by omega, by omega, b4.uniq a4⟩
theorem tres_len {s l : List Int} {n m : Nat} {ec : Int} (a : TRes s n ec m l) : m ≤ n := by
  rcases a with ⟨_, _, h, _⟩ | ⟨_, _, _, h, _⟩ | ⟨_, _, h, _⟩ <;> omega
theorem bres_len {s l : List Int} {n m : Nat} {ec : Int} (a : BRes s n ec m l) : m ≤ n := by
  rcases a with ⟨_, _, h, _⟩ | ⟨_, _, _, h, _⟩ | ⟨_, _, h, _⟩ <;> omega
/-- Of a closed row there is an answer. -/
theorem tres_ok {s l : List Int} {n m : Nat} {ec : Int} (a : TRes s n ec m l) (hn : n ≤ 65536) (hc : Closed s) : ec = 0 ∧ m = n ∧ Turned s l := by
  rcases a with ⟨h, _⟩ | ⟨_, h, _⟩ | ⟨_, h1, h2, h3⟩
  · omega
  · exact absurd hc h
  · exact ⟨h1, h2, h3⟩
theorem bres_ok {s l t : List Int} {n m : Nat} {ec : Int} (a : BRes l n ec m t) (hn : n ≤ 65536) (ht : Turned s l) : ec = 0 ∧ m = n ∧ t = s := by
  rcases a with ⟨h, _⟩ | ⟨_, h, _⟩ | ⟨_, h1, h2, h3⟩
  · omega
  · exact absurd ht (h s)
  · exact ⟨h1, h2, h3.uniq ht⟩

theorem pw_cons {a b : Nat} {l : List Nat} {R : Nat → Nat → Prop} (tr : ∀ x y z, R x y → R y z → R x z) (h : R a b) (p : (b :: l).Pairwise R) : (a :: b :: l).Pairwise R :=
  List.pairwise_cons.2 ⟨fun y hy => by
    rcases List.mem_cons.1 hy with rfl | hy
    · exact h
    · exact tr _ _ _ h ((List.pairwise_cons.1 p).1 y hy), p⟩
/-- The document's row. -/
theorem row_ex : ∃ (s l : List Int), s = [2, 1, 3, 1, 3, 1, 0] ∧ l = [1, 3, 3, 2, 0, 1, 1] ∧ Turned s l := by
  have hc : Closed [2, 1, 3, 1, 3, 1, 0] := ⟨fun x hx => by simp at hx; omega, by decide, by decide, fun p hp => by
    have hp2 : p < 6 := hp
    match p, hp2 with
    | 0, _ => decide
    | 1, _ => decide
    | 2, _ => decide
    | 3, _ => decide
    | 4, _ => decide
    | 5, _ => decide⟩
  have hs : IsSA [2, 1, 3, 1, 3, 1, 0] [6, 5, 3, 1, 0, 4, 2] := by
    refine ⟨rfl, fun x => ?_, ?_⟩
    · simp
      omega
    · have tr := fun x y z (h : Lt (gs [2, 1, 3, 1, 3, 1, 0]) x y) (k : Lt (gs [2, 1, 3, 1, 3, 1, 0]) y z) => h.trans k
      have lt : ∀ (x y k : Nat), (∀ j, j < k → gs [2, 1, 3, 1, 3, 1, 0] (x + j) = gs [2, 1, 3, 1, 3, 1, 0] (y + j)) → gs [2, 1, 3, 1, 3, 1, 0] (x + k) < gs [2, 1, 3, 1, 3, 1, 0] (y + k) → Lt (gs [2, 1, 3, 1, 3, 1, 0]) x y := fun x y k h1 h2 => ⟨k, h1, h2⟩
      exact pw_cons tr (lt 6 5 0 (by decide) (by decide)) (pw_cons tr (lt 5 3 1 (by decide) (by decide)) (pw_cons tr (lt 3 1 3 (by decide) (by decide)) (pw_cons tr (lt 1 0 0 (by decide) (by decide)) (pw_cons tr (lt 0 4 0 (by decide) (by decide)) (pw_cons tr (lt 4 2 2 (by decide) (by decide)) (List.pairwise_singleton _ _))))))
  exact ⟨_, trn [2, 1, 3, 1, 3, 1, 0] [6, 5, 3, 1, 0, 4, 2], rfl, by decide, trn_turned hc hs⟩
set_option maxHeartbeats 1000000 in
theorem known_any (w : World) : Calls Try.prog 12 #[] w fun e w' => e = .returned (.bool true) ∧ Ch (fun _ => False) w w' := by
  obtain ⟨s, l, hs, hl, hT⟩ := row_ex
  have hS : ∀ W : World, Sl (W.alloc (.cells #[.int .i64 2, .int .i64 1, .int .i64 3, .int .i64 1, .int .i64 3, .int .i64 1, .int .i64 0] 3)) (fun b => b = W.heap.size) .i64 (some ⟨W.heap.size, 0, none⟩) 7 s := fun W => by
    rw [hs]
    exact Vs.built W 3 [.int .i64 2, .int .i64 1, .int .i64 3, .int .i64 1, .int .i64 3, .int .i64 1, .int .i64 0]
  have hB : ∀ W : World, Sl (W.alloc (.cells #[.int .i64 1, .int .i64 3, .int .i64 3, .int .i64 2, .int .i64 0, .int .i64 1, .int .i64 1] 3)) (fun b => b = W.heap.size) .i64 (some ⟨W.heap.size, 0, none⟩) 7 l := fun W => by
    rw [hl]
    exact Vs.built W 3 [.int .i64 1, .int .i64 3, .int .i64 3, .int .i64 2, .int .i64 0, .int .i64 1, .int .i64 1]
  have htu := turn_any s (some ⟨w.heap.size, 0, none⟩) 7 7 _ (hS w) (by omega)
  have hC0 := (Ch.refl (fun _ => False) w).alloc (.cells #[.int .i64 2, .int .i64 1, .int .i64 3, .int .i64 1, .int .i64 3, .int .i64 1, .int .i64 0] 3)
  have HT := Bx.mk hT
  have HS := Bx.mk hS
  have HB := Bx.mk hB
  have HC0 := Bx.mk hC0
  clear hs hl hT hS hB hC0
  go_enter Try.func12, Try.ntmps12
  go_wp2_with fail
  refine htu.mono ?_
  rintro e w1 ⟨A1, c1, m1, ec, t, rfl, hS1, hr, hC1⟩
  obtain ⟨rfl, rfl, ht⟩ := tres_ok hr (by omega) HT.out.closed
  obtain rfl := ht.det HT.out
  have hbk := back_any t A1 7 c1 w1 hS1 (by omega)
  have HS1 := Bx.mk hS1
  have HC1 := Bx.mk (HC0.out.trans hC1 (fun _ _ h => h))
  clear hS1 hr hC1 ht htu HC0
  go_wp2_with fail
  refine hbk.mono ?_
  rintro e w2 ⟨A2, c2, m2, ec, u, rfl, hS2, hr, hC2⟩
  obtain ⟨rfl, rfl, rfl⟩ := bres_ok hr (by omega) HT.out
  have hCa := (Ch.refl (fun _ => False) w2).alloc (.cells #[.int .i64 1, .int .i64 3, .int .i64 3, .int .i64 2, .int .i64 0, .int .i64 1, .int .i64 1] 3)
  have hin := ints6_yes t A1 (some ⟨w2.heap.size, 0, none⟩) 7 c1 7 _ ((HS1.out.ch hC2 (fun _ _ _ h => h)).ch hCa (fun _ _ _ h => h)) (HB.out w2) (by omega)
  have HS2 := Bx.mk (hS2.ch hCa (fun _ _ _ h => h))
  have HC2 := Bx.mk ((HC1.out.trans hC2 (fun _ _ h => h)).trans hCa (fun _ _ h => h))
  clear hS2 hr hC2 hCa hbk HS1 HC1 HB
  go_wp2_with fail
  refine hin.mono ?_
  rintro e w3 ⟨rfl, hC3⟩
  have hCb := (Ch.refl (fun _ => False) w3).alloc (.cells #[.int .i64 2, .int .i64 1, .int .i64 3, .int .i64 1, .int .i64 3, .int .i64 1, .int .i64 0] 3)
  have hin2 := ints6_yes u A2 (some ⟨w3.heap.size, 0, none⟩) 7 c2 7 _ ((HS2.out.ch hC3 (fun _ _ _ h => h)).ch hCb (fun _ _ _ h => h)) (HS.out w3) (by omega)
  have HC3 := Bx.mk ((HC2.out.trans hC3 (fun _ _ h => h)).trans hCb (fun _ _ h => h))
  clear hC3 hCb hin HS2 HC2 HS
  go_wp2_with fail
  refine hin2.mono ?_
  rintro e w4 ⟨rfl, hC4⟩
  have HC4 := Bx.mk (HC3.out.trans hC4 (fun _ _ h => h))
  clear hC4 hin2 HC3
  go_wp2
  go_ret
  exact ⟨rfl, HC4.out⟩
end Go.Proofs.Ytgboobjmafdieaa
