/-
  More contracts of a Reader's methods: Num in any state, Raw, Bytes, NewReader.
-/
import Derived.Test.YtanhnaohmaepoaaOcReader
import Derived.Test.YtanhnaohmaepoaaOcSame
namespace Go.Proofs.Ytanhnaohmaepoaa.O
open Go.RowKit Go.Oct

section
variable {Q : Nat → Prop}
theorem RdQ.ch {w w' : World} {S : Nat → Prop} {br : Nat} {bad : Bool} {xs : List Int} (h : RdQ Q w br bad xs) (hc : Ch S w w') (hS : ∀ b, b < w.heap.size → ¬ S b) : RdQ Q w' br bad xs := by
  obtain ⟨A, n, c, hblk, hsl, rest⟩ := h
  have hlt : br < w.heap.size := (Array.getElem?_eq_some_iff.1 hblk).1
  exact ⟨A, n, c, (hc.block br hlt (hS br hlt)).trans hblk, hsl.ch hc (fun b _ hb => hS b hb), rest⟩
theorem RdQ.lt {w : World} {br : Nat} {bad : Bool} {xs : List Int} (h : RdQ Q w br bad xs) : br < w.heap.size := by
  obtain ⟨A, n, c, hblk, _⟩ := h
  exact (Array.getElem?_eq_some_iff.1 hblk).1
theorem RdQ.byt {w : World} {br : Nat} {bad : Bool} {xs : List Int} (h : RdQ Q w br bad xs) : Byt xs := by
  obtain ⟨A, n, c, _, _, _, _, hb, _⟩ := h
  exact hb
theorem RdQ.nil_ {w : World} {br : Nat} {xs : List Int} (h : RdQ Q w br true xs) : xs = [] := by
  obtain ⟨A, n, c, _, _, _, _, _, hb⟩ := h
  exact hb rfl

theorem num_any (br : Nat) (bad : Bool) (xs : List Int) (w : World) (hr : RdQ Q w br bad xs) :
    Calls Try.prog 41 #[.pointer (some ⟨br, 0, none⟩)] w (NumPost Q w br xs) := by
  cases bad
  · exact num_good br xs w hr
  · obtain rfl := hr.nil_
    have HR := Lib.hid hr
    clear hr
    go_enter Try.func41, Try.ntmps41
    go_wp2_with (go_at_call 50; refine (good_any br true [] _ HR.out).mono ?_; rintro e w' ⟨rfl, rfl⟩)
    go_ret
    exact NumPost.none_ rfl HR.out (Ch.refl _ _)

/-- NewReader of bytes. -/
theorem new_low (A : Option Addr) (n c : Nat) (xs : List Int) (w : World) (F : Nat → Prop) (hz : Sl w F .u8 A n xs) (hb : n ≤ 100000000000000) (hnc : n ≤ c) (hcm : c ≤ maxLen) (hby : Byt xs) :
    Calls Try.prog 34 #[.slice A n c] w fun e w' => ∃ br, e = .returned (.pointer (some ⟨br, 0, none⟩)) ∧ w.heap.size ≤ br ∧ RdQ (fun b => b < br) w' br false xs ∧ Ch (fun _ => False) w w' := by
  obtain rfl := hz.len
  go_enter Try.func34, Try.ntmps34
  go_wp2_with fail
  refine (join_any [xs] _ 1 1 _ (fun _ => True) (by omega) (Sls.one _ hz hnc hcm (fun _ _ _ => trivial) trivial) (by simpa [cat] using hb)).mono ?_
  rintro e w1 ⟨v, rfl, hf⟩
  have e1 : cat [xs] = xs := by simp [cat]
  rw [e1] at hf
  have hf := Fresh.after ((Ch.refl (fun _ => False) w).alloc _) hf
  obtain ⟨A2, c2, rfl, hl2, hm2⟩ := own_shape hf.1
  have hb1 := heap_alloc_new w1 (.cells #[.slice A2 xs.length c2, .bool false] 86)
  have hR : RdQ (fun b => b < w1.heap.size) (w1.alloc (.cells #[.slice A2 xs.length c2, .bool false] 86)) w1.heap.size false xs :=
    ⟨A2, xs.length, c2, hb1, Sl.alloc ((Sl.of_own hf.1).mono fun b h _ => ⟨by omega, h⟩) _, hl2, by unfold maxLen at hm2; omega, hby, fun h => by cases h⟩
  have hC := hf.2.2.alloc (.cells #[.slice A2 xs.length c2, .bool false] 86)
  have hs := hf.2.2.size
  have HR := Lib.hid hR
  have HC := Lib.hid hC
  clear hf hb1 hR hC hz
  go_wp2
  go_returns
  exact ⟨_, rfl, hs, HR.out, HC.out⟩

theorem RdQ.mono {R : Nat → Prop} {w : World} {br : Nat} {bad : Bool} {xs : List Int} (h : RdQ Q w br bad xs) (hQ : ∀ b, Q b → R b) : RdQ R w br bad xs := by
  obtain ⟨A, n, c, hblk, hsl, rest⟩ := h
  exact ⟨A, n, c, hblk, hsl.mono fun b _ hb => ⟨hb.1, hQ b hb.2⟩, rest⟩
theorem new_any (A : Option Addr) (n c : Nat) (xs : List Int) (w : World) (F : Nat → Prop) (hz : Sl w F .u8 A n xs) (hb : n ≤ 100000000000000) (hnc : n ≤ c) (hcm : c ≤ maxLen) (hby : Byt xs) :
    Calls Try.prog 34 #[.slice A n c] w fun e w' => ∃ br, e = .returned (.pointer (some ⟨br, 0, none⟩)) ∧ w.heap.size ≤ br ∧ Rd w' br false xs ∧ Ch (fun _ => False) w w' :=
  (new_low A n c xs w F hz hb hnc hcm hby).mono fun _ _ ⟨br, h1, h2, h3, h4⟩ => ⟨br, h1, h2, h3.mono fun _ _ => trivial, h4⟩

/-- Raw of too much, or of less than nothing. -/
theorem rraw_no (br : Nat) (bad : Bool) (xs : List Int) (n : Int) (w : World) (hr : RdQ Q w br bad xs) (hn : n < 0 ∨ (xs.length : Int) < n) :
    Calls Try.prog 49 #[.pointer (some ⟨br, 0, none⟩), .int .i64 n] w fun e w' => e = .returned (.slice none 0 0) ∧ RdQ Q w' br true [] ∧ Ch (RS br) w w' := by
  have HR := Lib.hid hr
  clear hr
  rcases hn with h | h
  · go_enter Try.func49, Try.ntmps49
    go_wp2_with (go_at_call 52; refine (bad_any br bad xs _ HR.out).mono ?_; rintro e w' ⟨rfl, h1, h2⟩)
    go_ret
    exact ⟨rfl, h1, h2⟩
  · have h0 : ¬ n < 0 := by omega
    go_enter Try.func49, Try.ntmps49
    go_wp2_with (first | (go_at_call 42; refine (left_any br bad xs _ HR.out).mono ?_; rintro e w' ⟨rfl, rfl⟩) | (go_at_call 52; refine (bad_any br bad xs _ HR.out).mono ?_; rintro e w' ⟨rfl, h1, h2⟩))
    go_ret
    exact ⟨rfl, h1, h2⟩
/-- v is a new row that reads as xs. -/
def Row (w : World) (v : Value) (xs : List Int) (w' : World) : Prop := w'.ownsRow 0 5 1 v xs.length (xs.map (Value.int .u8)) ∧ ∀ g, v.ownBlock = some g → w.heap.size ≤ g

theorem rraw_zero (br : Nat) (bad : Bool) (xs : List Int) (w : World) (hr : RdQ Q w br bad xs) :
    Calls Try.prog 49 #[.pointer (some ⟨br, 0, none⟩), .int .i64 0] w fun e w' => e = .returned (.slice none 0 0) ∧ w = w' := by
  have HR := Lib.hid hr
  clear hr
  go_enter Try.func49, Try.ntmps49
  go_wp2_with (first | (go_at_call 42; refine (left_any br bad xs _ HR.out).mono ?_; rintro e w' ⟨rfl, rfl⟩) | (go_at_call 52; refine (bad_any br bad xs _ HR.out).mono ?_; rintro e w' ⟨rfl, h1, h2⟩))
  go_ret
  exact ⟨rfl, rfl⟩

set_option maxHeartbeats 400000 in
theorem rraw_some (br : Nat) (xs : List Int) (n : Nat) (w : World) (hr : RdQ Q w br false xs) (h0 : 0 < n) (hn : n ≤ xs.length) (hm : n ≤ 100000000000000) :
    Calls Try.prog 49 #[.pointer (some ⟨br, 0, none⟩), .int .i64 n] w fun e w' => ∃ v, e = .returned v ∧ Row w v (xs.take n) w' ∧ RdQ Q w' br false (xs.drop n) ∧ Ch (RS br) w w' := by
  have HR := Lib.hid hr
  obtain ⟨A, l, c, hblk, hsl, hnc, hcm, hby, _⟩ := hr
  obtain rfl := hsl.len
  obtain ⟨hc0, hc1, hf0, hf1⟩ := rd_cells hblk
  obtain ⟨b, off, _, rfl, hbr, _, _⟩ := hsl.at_ (k := 0) (by omega)
  have hb0 : ((n : Int) == 0) = false := by rw [beq_eq_false_iff_ne]; omega
  have hlen : (xs.take n).length = n := by rw [List.length_take]; omega
  have HB := Lib.hid hby
  have HK := Lib.hid hblk
  have HL := Lib.hid hlen
  clear hblk hc1 hby hlen
  go_enter Try.func49, Try.ntmps49
  go_wp2_with (go_at_call 42; refine (left_any br false xs _ HR.out).mono ?_; rintro e w' ⟨rfl, rfl⟩)
  have hj : Sls (w.alloc (.cells #[.slice (some ⟨b, off, none⟩) n c] 22)) (fun _ => True) (some ⟨w.heap.size, 0, none⟩) 1 [xs.take n] := by
    have hs1 : Sl w (fun b => b ≠ br ∧ Q b) .u8 (some ⟨b, off, none⟩) (xs.take n).length (xs.take n) := by
      rw [HL.out]
      exact hsl.take hn
    have := Sls.one (G := fun _ => True) 22 hs1 (c := c) (by rw [HL.out]; omega) (by unfold maxLen; omega) (fun _ _ _ => trivial) trivial
    rw [HL.out] at this
    exact this
  refine (join_any [xs.take n] _ 1 1 _ (fun _ => True) (by omega) hj (by simp [cat]; omega)).mono ?_
  rintro e w1 ⟨v, rfl, hf⟩
  have e1 : cat [xs.take n] = xs.take n := by simp [cat]
  rw [e1] at hf
  have hf := Fresh.after ((Ch.refl (fun _ => False) w).alloc _) hf
  have hlt := HR.out.lt
  have hblk1 : w1.heap[br]? = some (.cells #[.slice (some ⟨b, off, none⟩) xs.length c, .bool false] 86 (0, 0)) := (hf.2.2.block br hlt (fun h => h)).trans HK.out
  obtain ⟨gc0, _, gf0, _⟩ := rd_cells hblk1
  have hsl1 := hsl.ch hf.2.2 (fun _ _ _ h => h)
  have fin : ∀ (A' : Option Addr) (c' : Nat), (c = n ∧ c' = 0) ∨ (A' = some ⟨b, off + n, none⟩ ∧ c' = c - n) →
      Row w v (xs.take n) (w1.setCell ⟨br, 0, none⟩ (.slice A' (xs.length - n) c')) ∧ RdQ Q (w1.setCell ⟨br, 0, none⟩ (.slice A' (xs.length - n) c')) br false (xs.drop n) ∧ Ch (RS br) w (w1.setCell ⟨br, 0, none⟩ (.slice A' (xs.length - n) c')) := fun A' c' hA => by
    obtain ⟨h1, h2⟩ := rd_cut hblk1 hsl1 HB.out (k := n) hn hnc hcm hA
    refine ⟨⟨h2.own hf.1 fun g hg hs => ?_, hf.2.1⟩, h1, (hf.2.2.mono (S := RS br) fun _ _ h => h.elim).trans h2 fun _ _ h => h⟩
    have := hf.2.1 g hg
    have hs' : g = br := hs
    omega
  have FIN := Lib.hid fin
  clear hf hblk1 hc0 hf0 hf1 hj fin e1 hsl1
  by_cases hcap : c = n
  · have hP := FIN.out (some ⟨b, off, none⟩) 0 (.inl ⟨hcap, rfl⟩)
    have HP := Lib.hid hP
    clear hP FIN
    go_wp2_with fail
    go_ret
    exact ⟨_, rfl, HP.out⟩
  · have hP := FIN.out (some ⟨b, off + n, none⟩) (c - n) (.inr ⟨rfl, rfl⟩)
    have HP := Lib.hid hP
    clear hP FIN
    go_wp2_with fail
    go_ret
    exact ⟨_, rfl, HP.out⟩

/-- What Bytes leaves. -/
def RowPost (Q : Nat → Prop) (w : World) (br : Nat) (xs : List Int) (e : Ending) (w' : World) : Prop :=
  match takeN 0 0 xs with
  | none => e = .returned (.slice none 0 0) ∧ RdQ Q w' br true [] ∧ Ch (RS br) w w'
  | some (m, r) => if r.length < m then e = .returned (.slice none 0 0) ∧ RdQ Q w' br true [] ∧ Ch (RS br) w w'
    else ∃ v, e = .returned v ∧ Row w v (r.take m) w' ∧ RdQ Q w' br false (r.drop m) ∧ Ch (RS br) w w'

theorem takeN_len : ∀ (xs : List Int) (i n m : Nat) (r : List Int), takeN i n xs = some (m, r) → r.length < xs.length := by
  intro xs
  induction xs with
  | nil => intro i n m r h; simp [takeN] at h
  | cons b l ih =>
    intro i n m r h
    unfold takeN at h
    split at h
    · cases h
    · split at h
      · have := ih _ _ _ _ h
        simp; omega
      · split at h
        · cases h
        · simp only [Option.some.injEq, Prod.mk.injEq] at h
          obtain ⟨_, rfl⟩ := h
          simp

set_option maxHeartbeats 400000 in
theorem rbytes_any (br : Nat) (bad : Bool) (xs : List Int) (w : World) (hr : RdQ Q w br bad xs) (hm : xs.length ≤ 100000000000000) :
    Calls Try.prog 36 #[.pointer (some ⟨br, 0, none⟩)] w (RowPost Q w br xs) := by
  have HR := Lib.hid hr
  clear hr
  cases ht : takeN 0 0 xs with
  | none =>
    have HT := Lib.hid ht
    clear ht
    go_enter Try.func36, Try.ntmps36
    go_wp2_with fail
    refine (num_any br bad xs _ HR.out).mono ?_
    intro e w1 h1
    unfold NumPost at h1
    rw [HT.out] at h1
    obtain ⟨rfl, h1, h2⟩ := h1
    have H1 := Lib.hid h1
    have H2 := Lib.hid h2
    clear h1 h2
    go_wp2_with fail
    refine (rraw_zero br true [] _ H1.out).mono ?_
    rintro e w2 ⟨rfl, rfl⟩
    go_wp2
    go_ret
    unfold RowPost
    rw [HT.out]
    exact ⟨rfl, H1.out, H2.out⟩
  | some y =>
    obtain ⟨m, r⟩ := y
    have hlr := takeN_len _ _ _ _ _ ht
    have HT := Lib.hid ht
    clear ht
    go_enter Try.func36, Try.ntmps36
    go_wp2_with fail
    refine (num_any br bad xs _ HR.out).mono ?_
    intro e w1 h1
    unfold NumPost at h1
    rw [HT.out] at h1
    obtain ⟨rfl, h1, h2⟩ := h1
    have H1 := Lib.hid h1
    have H2 := Lib.hid h2
    clear h1 h2
    by_cases hbig : r.length < m
    · go_wp2_with fail
      refine (rraw_no br false r m _ H1.out (.inr (by omega))).mono ?_
      rintro e w2 ⟨rfl, g1, g2⟩
      go_wp2
      go_ret
      unfold RowPost
      rw [HT.out]
      simp only [if_pos hbig]
      exact ⟨rfl, g1, H2.out.trans g2 fun _ _ h => h⟩
    · by_cases h0 : m = 0
      · subst h0
        go_wp2_with fail
        refine (rraw_zero br false r _ H1.out).mono ?_
        rintro e w2 ⟨rfl, rfl⟩
        go_wp2
        go_ret
        unfold RowPost
        rw [HT.out]
        simp only [if_neg hbig]
        exact ⟨_, rfl, ⟨World.ownsRow_nil _ _ _ _, fun g hg => by simp [Value.ownBlock] at hg⟩, H1.out, H2.out⟩
      · go_wp2_with fail
        refine (rraw_some br r m _ H1.out (by omega) (by omega) (by omega)).mono ?_
        rintro e w2 ⟨v, rfl, g1, g2, g3⟩
        have hsz := H2.out.size
        go_wp2
        go_ret
        unfold RowPost
        rw [HT.out]
        simp only [if_neg hbig]
        exact ⟨_, rfl, ⟨g1.1, fun g hg => by have := g1.2 g hg; omega⟩, g2, H2.out.trans g3 fun _ _ h => h⟩
end
end Go.Proofs.Ytanhnaohmaepoaa.O
