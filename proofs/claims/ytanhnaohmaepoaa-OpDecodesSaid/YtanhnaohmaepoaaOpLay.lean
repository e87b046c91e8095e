/-
  A Writer that a function makes for itself: what it has laid. Conditions: not too many bytes.
-/
import Derived.Test.YtanhnaohmaepoaaOpW
namespace Go.Proofs.Ytanhnaohmaepoaa
open Go.RowKit Go.Oct Go.Su Go.Sg Go.Om

/-- A Writer at bw that was made since w0; xs are laid. -/
structure Lay (w0 w : World) (bw : Nat) (v : Value) (xs : List Int) : Prop where
  wr : O.Wr w bw v xs
  ch : Ch (fun _ => False) w0 w
  low : w0.heap.size ≤ bw
  row : ∀ g, v.ownBlock = some g → bw < g
/-- What a call on it leaves: it has laid ys; nothing but the Writer and its row has turned. -/
def LayTo (w0 w : World) (bw : Nat) (v : Value) (ys : List Int) (w' : World) : Prop := ∃ v', Lay w0 w' bw v' ys ∧ Ch (O.WS bw v) w w'
section
variable {w0 w w1 w' : World} {bw : Nat} {v : Value} {xs ys : List Int}
theorem Lay.new (h : Ch (fun _ => False) w0 w) : Lay w0 (w.alloc (.cells #[.slice none 0 0] 64)) w.heap.size (.slice none 0 0) [] :=
  ⟨⟨heap_alloc_new w _, World.ownsRow_nil _ _ _ _⟩, h.alloc _, h.size, fun g hg => by simp [Value.ownBlock] at hg⟩
theorem Lay.keep (h : Lay w0 w bw v xs) (hc : Ch (fun _ => False) w w') : Lay w0 w' bw v xs :=
  ⟨h.wr.ch hc (fun _ _ h => h), h.ch.trans hc (fun _ _ h => h), h.low, h.row⟩
theorem Lay.ws (h : Lay w0 w bw v xs) {b : Nat} (hb : O.WS bw v b) : bw ≤ b ∧ b < w.heap.size := by
  rcases hb with rfl | hb
  · exact ⟨Nat.le_refl _, h.wr.lt⟩
  · exact ⟨Nat.le_of_lt (h.row b hb), h.wr.row_lt hb⟩
theorem Lay.laid (h : Lay w0 w bw v xs) (hl : O.Laid w bw v ys w') : LayTo w0 w bw v ys w' := by
  obtain ⟨v', h1, h2, h3⟩ := hl
  refine ⟨v', ⟨h1, h.ch.trans h2 (fun i hi hs => by have := (h.ws hs).1; have := h.low; omega), h.low, fun g hg => ?_⟩, h2⟩
  rcases h3 g hg with k | k
  · exact h.row g k
  · have := h.wr.lt; omega
theorem LayTo.after (h : LayTo w0 w1 bw v ys w') (hc : Ch (fun _ => False) w w1) : LayTo w0 w bw v ys w' := by
  obtain ⟨v', h1, h2⟩ := h
  exact ⟨v', h1, (hc.mono (S := O.WS bw v) fun _ _ h => h.elim).trans h2 (fun _ _ h => h)⟩
theorem lay_nums {F : Nat → Prop} (h : Lay w0 w bw v xs) (zs : List Int) (A : Option Addr) (n c : Nat) (hz : Sl w F .i64 A n zs) (hF : ∀ b, F b → ¬ O.WS bw v b) (hn : n ≤ 1000000) (hb : xs.length ≤ 10000000000000) :
    Calls Try.prog 28 #[.pointer (some ⟨bw, 0, none⟩), .slice A n c] w fun e w' => e = .returned (.tuple #[]) ∧ LayTo w0 w bw v (xs ++ zs.flatMap encI) w' :=
  (O.nums_any bw v xs zs A n c w F (by omega) h.wr hz hF (by omega)).mono fun e w' hp => by
    obtain ⟨he, v1, h1, h2, h3⟩ := hp
    rw [List.take_of_length_le (by rw [hz.len]; omega)] at h1
    exact ⟨he, h.laid ⟨v1, h1, h2, h3⟩⟩
theorem lay_lit (h : Lay w0 w bw v xs) (zs : List Int) (hn : zs.length ≤ 1000000) (hb : xs.length ≤ 10000000000000) :
    Calls Try.prog 28 #[.pointer (some ⟨bw, 0, none⟩), .slice (some ⟨w.heap.size, 0, none⟩) zs.length zs.length] (w.alloc (.cells (zs.map (Value.int .i64)).toArray 3)) fun e w' => e = .returned (.tuple #[]) ∧ LayTo w0 w bw v (xs ++ zs.flatMap encI) w' :=
  (lay_nums (h.keep ((Ch.refl _ _).alloc _)) zs _ _ _ (sl_lit w 3 .i64 zs) (fun b hb hs => by have := (h.ws hs).2; omega) hn hb).mono fun _ _ hp => ⟨hp.1, hp.2.after ((Ch.refl _ _).alloc _)⟩
theorem lay_bytes {F : Nat → Prop} (h : Lay w0 w bw v xs) (xss : List (List Int)) (A : Option Addr) (n c : Nat) (hz : Sls w F A n xss) (hF : ∀ b, F b → b < w.heap.size → ¬ O.WS bw v b) (hn : n ≤ 1000000) (hb : xs.length + (xss.flatMap rowB).length ≤ 10000000000000) :
    Calls Try.prog 29 #[.pointer (some ⟨bw, 0, none⟩), .slice A n c] w fun e w' => e = .returned (.tuple #[]) ∧ LayTo w0 w bw v (xs ++ xss.flatMap rowB) w' :=
  (O.bytes_any bw v xs xss A n c w F (by omega) h.wr hz hF (by omega)).mono fun e w' hp => ⟨hp.1, h.laid hp.2⟩
theorem lay_out (h : Lay w0 w bw v xs) (hb : xs.length ≤ 10000000000000) :
    Calls Try.prog 30 #[.pointer (some ⟨bw, 0, none⟩)] w fun e w' => ∃ v', e = .returned v' ∧ Fresh w0 v' xs w' :=
  (O.out_any bw v xs w h.wr (by omega)).mono fun e w' hp => by
    obtain ⟨v', he, h1, h2, h3⟩ := hp
    exact ⟨v', he, h1, fun g hg => Nat.le_trans h.ch.size (h2 g hg), h.ch.trans h3 (fun _ _ h => h)⟩
end
end Go.Proofs.Ytanhnaohmaepoaa
