/-
  The contracts of haystackref1.Reader's methods.
-/
import Derived.Test.YtanhnaohmaepoaaOcReader2
import Derived.Test.YtanhnaohmaepoaaOcRoomy
import Derived.Test.YtanhnaohmaepoaaOcRef
namespace Go.Proofs.Ytanhnaohmaepoaa.O
open Go.RowKit Go.Oct

/-- The document's Reader at block bf that has xs left. -/
def Rf (Q : Nat → Prop) (w : World) (bf : Nat) (bad : Bool) (xs : List Int) : Prop :=
  ∃ A n c, w.heap[bf]? = some (.cells #[.slice A n c, .bool bad] 76 (0, 0)) ∧ Sl w (fun b => b ≠ bf ∧ Q b) .u8 A n xs ∧ n ≤ c ∧ c ≤ 9223372036854775807 ∧ Byt xs ∧ (bad = true → xs = [])
section
variable {Q : Nat → Prop}
theorem Rf.lt {w : World} {bf : Nat} {bad : Bool} {xs : List Int} (h : Rf Q w bf bad xs) : bf < w.heap.size := by
  obtain ⟨A, n, c, hblk, _⟩ := h
  exact (Array.getElem?_eq_some_iff.1 hblk).1
theorem Rf.nil_ {w : World} {bf : Nat} {xs : List Int} (h : Rf Q w bf true xs) : xs = [] := by
  obtain ⟨A, n, c, _, _, _, _, _, hb⟩ := h
  exact hb rfl
theorem Rf.ch {w w' : World} {S : Nat → Prop} {bf : Nat} {bad : Bool} {xs : List Int} (h : Rf Q w bf bad xs) (hc : Ch S w w') (h0 : ¬ S bf) (hS : ∀ b, Q b → b < w.heap.size → ¬ S b) : Rf Q w' bf bad xs := by
  have hlt := h.lt
  obtain ⟨A, n, c, hblk, hsl, rest⟩ := h
  exact ⟨A, n, c, (hc.block bf hlt h0).trans hblk, hsl.ch hc (fun b hq hb => hS b hq.2 hb), rest⟩
theorem Rf.bad_ {w : World} {bf : Nat} {bad : Bool} {xs : List Int} (h : Rf Q w bf bad xs) :
    Rf Q ((w.setCell ⟨bf, 1, none⟩ (.bool true)).setCell ⟨bf, 0, none⟩ (.slice none 0 0)) bf true [] ∧ Ch (RS bf) w ((w.setCell ⟨bf, 1, none⟩ (.bool true)).setCell ⟨bf, 0, none⟩ (.slice none 0 0)) := by
  obtain ⟨A, n, c, hblk, _⟩ := h
  refine ⟨⟨none, 0, 0, ?_, Sl.nil _ _ _ _, Nat.le_refl _, by omega, fun x hx => by simp at hx, fun _ => rfl⟩, ((Ch.refl (RS bf) w).setCell (p := ⟨bf, 1, none⟩) (.inl rfl) _).setCell (p := ⟨bf, 0, none⟩) (.inl rfl) _⟩
  simp [World.setCell, Array.getElem?_modify, hblk]
theorem rf_cut {w : World} {bf k b off n c : Nat} {xs : List Int} (hblk : w.heap[bf]? = some (.cells #[.slice (some ⟨b, off, none⟩) n c, .bool false] 76 (0, 0))) (hsl : Sl w (fun b => b ≠ bf ∧ Q b) .u8 (some ⟨b, off, none⟩) n xs)
    (hby : Byt xs) (hk : k ≤ n) (hnc : n ≤ c) (hcm : c ≤ 9223372036854775807) {A' : Option Addr} {c' : Nat} (hA : (c = k ∧ c' = 0) ∨ (A' = some ⟨b, off + k, none⟩ ∧ c' = c - k)) :
    Rf Q (w.setCell ⟨bf, 0, none⟩ (.slice A' (n - k) c')) bf false (xs.drop k) ∧ Ch (RS bf) w (w.setCell ⟨bf, 0, none⟩ (.slice A' (n - k) c')) := by
  have hC : Ch (RS bf) w (w.setCell ⟨bf, 0, none⟩ (.slice A' (n - k) c')) := (Ch.refl (RS bf) w).setCell (p := ⟨bf, 0, none⟩) (.inl rfl) _
  refine ⟨⟨A', n - k, c', by simp [World.setCell, Array.getElem?_modify, hblk], ?_, ?_, ?_, fun x hx => hby x (List.mem_of_mem_drop hx), fun h => by cases h⟩, hC⟩
  · refine Sl.ch ?_ hC (fun b hb _ h => hb.1 h)
    rcases hA with ⟨h1, _⟩ | ⟨rfl, _⟩
    · have h0 : n - k = 0 := by omega
      have hl := hsl.len
      rw [h0, List.drop_of_length_le (by omega)]
      exact Sl.nil _ _ _ _
    · exact hsl.drop hk
  · rcases hA with ⟨h1, rfl⟩ | ⟨_, rfl⟩ <;> omega
  · rcases hA with ⟨h1, rfl⟩ | ⟨_, rfl⟩ <;> omega

theorem rfbad_any (bf : Nat) (bad : Bool) (xs : List Int) (w : World) (hr : Rf Q w bf bad xs) :
    Calls Try.prog 44 #[.pointer (some ⟨bf, 0, none⟩)] w fun e w' => e = .returned (.tuple #[]) ∧ Rf Q w' bf true [] ∧ Ch (RS bf) w w' := by
  have HR := Lib.hid hr
  obtain ⟨A, n, c, hblk, _⟩ := hr
  obtain ⟨hc0, hc1, hf0, hf1⟩ := rd_cells hblk
  clear hblk
  go_enter Try.func44, Try.ntmps44
  go_wp2
  go_returns
  exact ⟨rfl, HR.out.bad_⟩
theorem rfwhole_any (bf : Nat) (bad : Bool) (xs : List Int) (w : World) (hr : Rf Q w bf bad xs) :
    Calls Try.prog 40 #[.pointer (some ⟨bf, 0, none⟩)] w fun e w' => e = .returned (.bool (!bad && xs.isEmpty)) ∧ w = w' := by
  obtain ⟨A, n, c, hblk, hsl, _⟩ := hr
  have hl : xs.isEmpty = ((n : Int) == 0) := by
    rw [← hsl.len]
    cases xs <;> simp <;> omega
  rw [hl]
  obtain ⟨hc0, hc1, hf0, hf1⟩ := rd_cells hblk
  clear hblk hl
  cases bad
  · go_enter Try.func40, Try.ntmps40
    go_wp2
    go_ret
    exact ⟨rfl, rfl⟩
  · go_enter Try.func40, Try.ntmps40
    go_wp2
    go_ret
    exact ⟨rfl, rfl⟩

/-- Raw of too much, or of less than nothing. -/
theorem rfraw_no (bf : Nat) (bad : Bool) (xs : List Int) (n : Int) (w : World) (hr : Rf Q w bf bad xs) (hn : n < 0 ∨ (xs.length : Int) < n) :
    Calls Try.prog 51 #[.pointer (some ⟨bf, 0, none⟩), .int .i64 n] w fun e w' => e = .returned (.slice none 0 0) ∧ Rf Q w' bf true [] ∧ Ch (RS bf) w w' := by
  have HR := Lib.hid hr
  obtain ⟨A, l, c, hblk, hsl, _⟩ := hr
  obtain rfl := hsl.len
  obtain ⟨hc0, hc1, hf0, hf1⟩ := rd_cells hblk
  clear hblk hsl
  have fin : ∀ {w1 : World}, Rf Q w1 bf true [] → w1.cell? ⟨bf, 1, none⟩ = some (.bool true) := fun h => by
    obtain ⟨_, _, _, hb, _⟩ := h
    exact (rd_cells hb).2.1
  rcases hn with h | h
  · go_enter Try.func51, Try.ntmps51
    go_wp2_with fail
    refine (rfbad_any bf bad xs _ HR.out).mono ?_
    rintro e w1 ⟨rfl, h1, h2⟩
    have h3 := fin h1
    have H1 := Lib.hid h1
    have H2 := Lib.hid h2
    clear h1 h2 hc0 hc1 hf0 hf1 fin
    go_wp2
    go_ret
    exact ⟨rfl, H1.out, H2.out⟩
  · have h0 : ¬ n < 0 := by omega
    go_enter Try.func51, Try.ntmps51
    go_wp2_with fail
    refine (rfbad_any bf bad xs _ HR.out).mono ?_
    rintro e w1 ⟨rfl, h1, h2⟩
    have h3 := fin h1
    have H1 := Lib.hid h1
    have H2 := Lib.hid h2
    clear h1 h2 hc0 hc1 hf0 hf1 fin
    go_wp2
    go_ret
    exact ⟨rfl, H1.out, H2.out⟩
/-- Raw of nothing, where it has erred. -/
theorem rfraw_err (bf : Nat) (w : World) (hr : Rf Q w bf true []) :
    Calls Try.prog 51 #[.pointer (some ⟨bf, 0, none⟩), .int .i64 0] w fun e w' => e = .returned (.slice none 0 0) ∧ w = w' := by
  obtain ⟨A, l, c, hblk, hsl, _⟩ := hr
  obtain rfl := hsl.len
  obtain ⟨hc0, hc1, hf0, hf1⟩ := rd_cells hblk
  clear hblk hsl
  go_enter Try.func51, Try.ntmps51
  go_wp2
  go_ret
  exact ⟨rfl, rfl⟩

set_option maxHeartbeats 400000 in
theorem rfraw_some (bf : Nat) (xs : List Int) (n : Nat) (w : World) (hr : Rf Q w bf false xs) (h0 : 0 < xs.length) (hn : n ≤ xs.length) (hm : xs.length ≤ 100000000000000) :
    Calls Try.prog 51 #[.pointer (some ⟨bf, 0, none⟩), .int .i64 n] w fun e w' => ∃ v, e = .returned v ∧ Row w v (xs.take n) w' ∧ Rf Q w' bf false (xs.drop n) ∧ Ch (RS bf) w w' := by
  have HR := Lib.hid hr
  obtain ⟨A, l, c, hblk, hsl, hnc, hcm, hby, _⟩ := hr
  obtain rfl := hsl.len
  obtain ⟨hc0, hc1, hf0, hf1⟩ := rd_cells hblk
  obtain ⟨b, off, _, rfl, hbr, _, _⟩ := hsl.at_ (k := 0) h0
  have hlen : (xs.take n).length = n := by rw [List.length_take]; omega
  have HB := Lib.hid hby
  have HK := Lib.hid hblk
  have HL := Lib.hid hlen
  have hC0 : Ch (fun _ => False) w (w.alloc (.cells #[] 5)) := (Ch.refl _ _).alloc _
  have hst := (hsl.take hn).ch hC0 (fun _ _ _ h => h)
  have hca := hC0.cell (p := ⟨bf, 0, none⟩) (fun h => h) hc0
  clear hblk hby hlen
  go_enter Try.func51, Try.ntmps51
  go_wp2_with (at_builtin; refine wp_app rfl (.tmp 23) (.tmp 29) Tb rfl rfl (own_none w 5) rfl hst ?c1 ?c2 ?c3 ?_)
  case c1 => exact ints_cells _ _
  case c2 => omega
  case c3 => omega
  intro v1 w1 ho1 hg1 hb1
  have hf1' : Fresh w v1 (xs.take n) w1 := by
    have h0 : Fresh w (.slice (some ⟨w.heap.size, 0, none⟩) 0 0) [] (w.alloc (.cells #[] 5)) := ⟨own_none w _, fun g hg => by simp [Value.ownBlock] at hg; omega, hC0⟩
    exact h0.app (zs := xs.take n) (m := n) hg1 (by simpa using ho1) (by simpa using hb1)
  have hlt := HR.out.lt
  have hblk1 : w1.heap[bf]? = some (.cells #[.slice (some ⟨b, off, none⟩) xs.length c, .bool false] 76 (0, 0)) := (hf1'.2.2.block bf hlt (fun h => h)).trans HK.out
  obtain ⟨gc0, _, gf0, _⟩ := rd_cells hblk1
  have hsl1 := hsl.ch hf1'.2.2 (fun _ _ _ h => h)
  have fin : ∀ (A' : Option Addr) (c' : Nat), (c = n ∧ c' = 0) ∨ (A' = some ⟨b, off + n, none⟩ ∧ c' = c - n) →
      Row w v1 (xs.take n) (w1.setCell ⟨bf, 0, none⟩ (.slice A' (xs.length - n) c')) ∧ Rf Q (w1.setCell ⟨bf, 0, none⟩ (.slice A' (xs.length - n) c')) bf false (xs.drop n) ∧ Ch (RS bf) w (w1.setCell ⟨bf, 0, none⟩ (.slice A' (xs.length - n) c')) := fun A' c' hA => by
    obtain ⟨h1, h2⟩ := rf_cut hblk1 hsl1 HB.out (k := n) hn hnc hcm hA
    refine ⟨⟨h2.own hf1'.1 fun g hg hs => ?_, hf1'.2.1⟩, h1, (hf1'.2.2.mono (S := RS bf) fun _ _ h => h.elim).trans h2 fun _ _ h => h⟩
    have := hf1'.2.1 g hg
    have hs' : g = bf := hs
    omega
  obtain ⟨A1, c1, rfl, _, _⟩ := own_shape ho1
  have FIN := Lib.hid fin
  clear hf1' hblk1 hc0 hc1 hf0 hf1 fin hsl1 ho1 hg1 hb1 hst hC0 hca
  by_cases hcap : c = n
  · have hP := FIN.out (some ⟨b, off, none⟩) 0 (.inl ⟨hcap, rfl⟩)
    have HP := Lib.hid hP
    clear hP FIN
    go_wp2_with fail
    go_ret
    exact ⟨_, rfl, HP.out⟩
  · have hP := FIN.out (some ⟨b, off + n, none⟩) (c - n) (.inr ⟨rfl, rfl⟩)
    have HP := Lib.hid hP
    clear hP FIN
    go_wp2_with fail
    go_ret
    exact ⟨_, rfl, HP.out⟩

set_option maxHeartbeats 400000 in
theorem rfraw_none (bf : Nat) (w : World) (hr : Rf Q w bf false []) :
    Calls Try.prog 51 #[.pointer (some ⟨bf, 0, none⟩), .int .i64 0] w fun e w' => ∃ v, e = .returned v ∧ Row w v [] w' ∧ Rf Q w' bf false [] ∧ Ch (RS bf) w w' := by
  have HR := Lib.hid hr
  obtain ⟨A, l, c, hblk, hsl, hnc, hcm, hby, _⟩ := hr
  obtain rfl := hsl.len
  obtain ⟨hc0, hc1, hf0, hf1⟩ := rd_cells hblk
  have HK := Lib.hid hblk
  have hC0 : Ch (fun _ => False) w (w.alloc (.cells #[] 5)) := (Ch.refl _ _).alloc _
  have hca := hC0.cell (p := ⟨bf, 0, none⟩) (fun h => h) hc0
  have hst : Sl (w.alloc (.cells #[] 5)) (fun _ => True) .u8 A 0 [] := Sl.nil _ _ _ _
  have hfin : ∀ (v1 : Value) (w1 : World), w1.ownsRow 0 5 1 v1 0 [] → (w.alloc (.cells #[] 5)).grownBy w1 (Value.slice (some ⟨w.heap.size, 0, none⟩) 0 0).ownBlock → (v1.ownBlock = (Value.slice (some ⟨w.heap.size, 0, none⟩) 0 0).ownBlock ∨ v1.ownBlock = some (w.alloc (.cells #[] 5)).heap.size) →
      w1.cell? ⟨bf, 0, none⟩ = some (.slice A 0 c) ∧ w1.frozen? ⟨bf, 0, none⟩ = false ∧ ∀ (A' : Option Addr) (c' : Nat), c' ≤ 9223372036854775807 →
      Row w v1 [] (w1.setCell ⟨bf, 0, none⟩ (.slice A' 0 c')) ∧ Rf Q (w1.setCell ⟨bf, 0, none⟩ (.slice A' 0 c')) bf false [] ∧ Ch (RS bf) w (w1.setCell ⟨bf, 0, none⟩ (.slice A' 0 c')) := by
    intro v1 w1 ho1 hg1 hb1
    have hf1' : Fresh w v1 [] w1 := by
      have h0 : Fresh w (.slice (some ⟨w.heap.size, 0, none⟩) 0 0) [] (w.alloc (.cells #[] 5)) := ⟨own_none w _, fun g hg => by simp [Value.ownBlock] at hg; omega, hC0⟩
      exact h0.app (zs := []) (m := 0) hg1 (by simpa using ho1) hb1
    have hlt := HR.out.lt
    have hblk1 : w1.heap[bf]? = some (.cells #[.slice A 0 c, .bool false] 76 (0, 0)) := (hf1'.2.2.block bf hlt (fun h => h)).trans HK.out
    obtain ⟨gc0, _, gf0, _⟩ := rd_cells hblk1
    refine ⟨gc0, gf0, fun A' c' hA => ?_⟩
    have hC : Ch (RS bf) w1 (w1.setCell ⟨bf, 0, none⟩ (.slice A' 0 c')) := (Ch.refl (RS bf) w1).setCell (p := ⟨bf, 0, none⟩) (.inl rfl) _
    refine ⟨⟨hC.own hf1'.1 fun g hg hs => ?_, hf1'.2.1⟩, ⟨A', 0, c', by simp [World.setCell, Array.getElem?_modify, hblk1], Sl.nil _ _ _ _, Nat.zero_le _, hA, fun x hx => by simp at hx, fun h => by cases h⟩, (hf1'.2.2.mono (S := RS bf) fun _ _ h => h.elim).trans hC fun _ _ h => h⟩
    have := hf1'.2.1 g hg
    have hs' : g = bf := hs
    omega
  have HFIN := Lib.hid hfin
  clear hblk hby hsl hfin HK
  simp only [List.length_nil] at hc0 hca
  rcases A with _ | a
  all_goals
    go_enter Try.func51, Try.ntmps51
    go_wp2_with (at_builtin; refine wp_app rfl (.tmp 23) (.tmp 29) Tb rfl rfl (own_none w 5) rfl hst ?_ ?_ ?_ ?_)
    intro v1 w1 ho1 hg1 hb1
    obtain ⟨gc0, gf0, hA⟩ := HFIN.out v1 w1 (by simpa using ho1) hg1 (by simpa using hb1)
    obtain ⟨A1, c1, rfl, _, _⟩ := own_shape ho1
    have HA := Lib.hid hA
    clear hc0 hc1 hf0 hf1 ho1 hg1 hb1 hst hC0 hca hA
    go_wp2_with fail
    go_ret
    exact ⟨_, rfl, HA.out _ _ (by omega)⟩

/-- Raw of what there is. -/
theorem rfraw_yes (bf : Nat) (xs : List Int) (n : Nat) (w : World) (hr : Rf Q w bf false xs) (hn : n ≤ xs.length) (hm : xs.length ≤ 100000000000000) :
    Calls Try.prog 51 #[.pointer (some ⟨bf, 0, none⟩), .int .i64 n] w fun e w' => ∃ v, e = .returned v ∧ Row w v (xs.take n) w' ∧ Rf Q w' bf false (xs.drop n) ∧ Ch (RS bf) w w' := by
  rcases Nat.eq_zero_or_pos xs.length with h0 | h0
  · obtain rfl := List.eq_nil_of_length_eq_zero h0
    obtain rfl : n = 0 := by simpa using hn
    simpa using rfraw_none bf w hr
  · exact rfraw_some bf xs n w hr h0 hn hm
end
end Go.Proofs.Ytanhnaohmaepoaa.O
