/- Lemmas and contracts of this proof. Conditions: said at each. -/
import Derived.Test.YtbkakhfepiooaaaGreatDoorQGOcRef
import Derived.Deep.QuietTactic
import Derived.BigQuiet
import Derived.Outline
import Derived.Deep.AppendLies
namespace Go.Proofs.YtbkakhfepiooaaaGreatDoor.O
section
open Go.RowKit Go.Oct
/-- The first k are alike. -/
def Alike (xs ys : List Int) (k : Nat) : Prop := ∀ j, j < k → xs[j]? = ys[j]?
theorem alike_all {xs ys : List Int} {n : Nat} (hx : xs.length = n) (hy : ys.length = n) (ha : Alike xs ys n) : xs = ys := by
  apply List.ext_getElem?
  intro j
  rcases Nat.lt_or_ge j n with h | h
  · exact ha j h
  · rw [List.getElem?_eq_none (by omega), List.getElem?_eq_none (by omega)]
theorem alike_succ {xs ys : List Int} {k : Nat} {x : Int} (ha : Alike xs ys k) (hx : xs[k]? = some x) (hy : ys[k]? = some x) : Alike xs ys (k + 1) := by
  intro j hj
  rcases Nat.lt_or_ge j k with h | h
  · exact ha j h
  · obtain rfl : j = k := by omega
    rw [hx, hy]
theorem alike_not {xs ys : List Int} {k : Nat} {x y : Int} (hx : xs[k]? = some x) (hy : ys[k]? = some y) (h : x ≠ y) : xs ≠ ys := by
  rintro rfl
  rw [hx] at hy
  exact h (Option.some.inj hy)
theorem ret_bool {a b : Bool} (h : a = b) : Ending.returned (.bool a) = .returned (.bool b) := by rw [h]
set_option maxHeartbeats 400000 in
theorem same_any (A A' : Option Addr) (n n' c c' : Nat) (xs ys : List Int) (F F' : Nat → Prop) (w : World) (hn : n ≤ 9223372036854775807) (hn' : n' ≤ 9223372036854775807)
    (hx : Sl w F .u8 A n xs) (hy : Sl w F' .u8 A' n' ys) :
    Calls Tryz.prog 19 #[.slice A n c, .slice A' n' c'] w fun e w' => e = .returned (.bool (decide (xs = ys))) ∧ ∃ k, w' = w.drewN k := by
  by_cases hne : n = n'
  · subst hne
    go_enter Tryz.func19, Tryz.ntmps19
    go_wp2
    go_loopw [5] (fun i wr => ∃ k : Nat, k ≤ n ∧ i = .int .i64 k ∧ Alike xs ys k ∧ ∃ m, wr = w.drewN m) (fun i _ => n - (intOf i).toNat)
    case atStart => exact ⟨0, Nat.zero_le _, rfl, fun j hj => absurd hj (by omega), 0, rfl⟩
    case round =>
      obtain ⟨k, hk, rfl, ha, m, rfl⟩ := hrel
      have HA := Lib.hid ha
      clear ha
      by_cases hlt : k < n
      · obtain ⟨b, off, x, rfl, _, ex, hc⟩ := hx.at_ hlt
        obtain ⟨b', off', y, rfl, _, ey, hc'⟩ := hy.at_ hlt
        by_cases he : x = y
        · subst he
          have hb : (x != x) = false := by simp
          go_wp2
          go_quiet (fail)
          go_wp2
          go_roundw
          case rel => exact ⟨k + 1, by omega, by go_num, alike_succ HA.out ex.out ey.out, _, rfl⟩
          case measure => simp [intOf]; omega
        · have hb : (x != y) = true := by simpa using he
          have HE := Lib.hid he
          clear he
          go_wp2
          go_quiet (fail)
          go_wp2
          go_ret
          exact ⟨ret_bool (by rw [decide_eq_false (alike_not ex.out ey.out HE.out)]), _, World.drewN_drewN _ _ _⟩
      · go_wp2
        go_ret
        obtain rfl : k = n := by omega
        exact ⟨ret_bool (by rw [decide_eq_true (alike_all hx.len hy.len HA.out)]), _, rfl⟩
  · have hb : ((n : Int) != (n' : Int)) = true := by rw [bne_iff_ne]; omega
    go_enter Tryz.func19, Tryz.ntmps19
    go_wp2
    go_ret
    exact ⟨ret_bool (by rw [decide_eq_false (fun e => hne (by rw [← hx.len, ← hy.len, e]))]), 0, rfl⟩
end
section
open Go.RowKit Go.Oct
section
variable {Q : Nat → Prop}
theorem RdQ.ch {w w' : World} {S : Nat → Prop} {br : Nat} {bad : Bool} {xs : List Int} (h : RdQ Q w br bad xs) (hc : Ch S w w') (hS : ∀ b, b < w.heap.size → ¬ S b) : RdQ Q w' br bad xs := by
  obtain ⟨A, n, c, hblk, hsl, rest⟩ := h
  have hlt : br < w.heap.size := (Array.getElem?_eq_some_iff.1 hblk).1
  exact ⟨A, n, c, (hc.block br hlt (hS br hlt)).trans hblk, hsl.ch hc (fun b _ hb => hS b hb), rest⟩
theorem RdQ.lt {w : World} {br : Nat} {bad : Bool} {xs : List Int} (h : RdQ Q w br bad xs) : br < w.heap.size := by
  obtain ⟨A, n, c, hblk, _⟩ := h
  exact (Array.getElem?_eq_some_iff.1 hblk).1
theorem RdQ.byt {w : World} {br : Nat} {bad : Bool} {xs : List Int} (h : RdQ Q w br bad xs) : Byt xs := by
  obtain ⟨A, n, c, _, _, _, _, hb, _⟩ := h
  exact hb
theorem RdQ.nil_ {w : World} {br : Nat} {xs : List Int} (h : RdQ Q w br true xs) : xs = [] := by
  obtain ⟨A, n, c, _, _, _, _, _, hb⟩ := h
  exact hb rfl
theorem num_any (br : Nat) (bad : Bool) (xs : List Int) (w : World) (hr : RdQ Q w br bad xs) :
    Calls Tryz.prog 133 #[.pointer (some ⟨br, 0, none⟩)] w (NumPost Q w br xs) := by
  cases bad
  · exact num_good br xs w hr
  · obtain rfl := hr.nil_
    have HR := Lib.hid hr
    clear hr
    go_enter Tryz.func133, Tryz.ntmps133
    go_wp2_with (go_at_call 134; refine (good_any br true [] _ HR.out).mono ?_; rintro e w' ⟨rfl, rfl⟩)
    go_ret
    exact NumPost.none_ rfl HR.out (Ch.refl _ _)
/-- NewReader of bytes. -/
theorem new_low (A : Option Addr) (n c : Nat) (xs : List Int) (w : World) (F : Nat → Prop) (hz : Sl w F .u8 A n xs) (hb : n ≤ 100000000000000) (hnc : n ≤ c) (hcm : c ≤ maxLen) (hby : Byt xs) :
    Calls Tryz.prog 76 #[.slice A n c] w fun e w' => ∃ br, e = .returned (.pointer (some ⟨br, 0, none⟩)) ∧ w.heap.size ≤ br ∧ RdQ (fun b => b < br) w' br false xs ∧ Ch (fun _ => False) w w' := by
  obtain rfl := hz.len
  go_enter Tryz.func76, Tryz.ntmps76
  go_wp2_with fail
  refine (join_any [xs] _ 1 1 _ (fun _ => True) (by omega) (Sls.one _ hz hnc hcm (fun _ _ _ => trivial) trivial) (by simpa [cat] using hb)).mono ?_
  rintro e w1 ⟨v, rfl, hf⟩
  have e1 : cat [xs] = xs := by simp [cat]
  rw [e1] at hf
  have hf := Fresh.after ((Ch.refl (fun _ => False) w).alloc _) hf
  obtain ⟨A2, c2, rfl, hl2, hm2⟩ := own_shape hf.1
  have hb1 := heap_alloc_new w1 (.cells #[.slice A2 xs.length c2, .bool false] 219)
  have hR : RdQ (fun b => b < w1.heap.size) (w1.alloc (.cells #[.slice A2 xs.length c2, .bool false] 219)) w1.heap.size false xs :=
    ⟨A2, xs.length, c2, hb1, Sl.alloc ((Sl.of_own hf.1).mono fun b h _ => ⟨by omega, h⟩) _, hl2, by unfold maxLen at hm2; omega, hby, fun h => by cases h⟩
  have hC := hf.2.2.alloc (.cells #[.slice A2 xs.length c2, .bool false] 219)
  have hs := hf.2.2.size
  have HR := Lib.hid hR
  have HC := Lib.hid hC
  clear hf hb1 hR hC hz
  go_wp2
  go_returns
  exact ⟨_, rfl, hs, HR.out, HC.out⟩
theorem RdQ.mono {R : Nat → Prop} {w : World} {br : Nat} {bad : Bool} {xs : List Int} (h : RdQ Q w br bad xs) (hQ : ∀ b, Q b → R b) : RdQ R w br bad xs := by
  obtain ⟨A, n, c, hblk, hsl, rest⟩ := h
  exact ⟨A, n, c, hblk, hsl.mono fun b _ hb => ⟨hb.1, hQ b hb.2⟩, rest⟩
theorem new_any (A : Option Addr) (n c : Nat) (xs : List Int) (w : World) (F : Nat → Prop) (hz : Sl w F .u8 A n xs) (hb : n ≤ 100000000000000) (hnc : n ≤ c) (hcm : c ≤ maxLen) (hby : Byt xs) :
    Calls Tryz.prog 76 #[.slice A n c] w fun e w' => ∃ br, e = .returned (.pointer (some ⟨br, 0, none⟩)) ∧ w.heap.size ≤ br ∧ Rd w' br false xs ∧ Ch (fun _ => False) w w' :=
  (new_low A n c xs w F hz hb hnc hcm hby).mono fun _ _ ⟨br, h1, h2, h3, h4⟩ => ⟨br, h1, h2, h3.mono fun _ _ => trivial, h4⟩
/-- Raw of too much, or of less than nothing. -/
theorem rraw_no (br : Nat) (bad : Bool) (xs : List Int) (n : Int) (w : World) (hr : RdQ Q w br bad xs) (hn : n < 0 ∨ (xs.length : Int) < n) :
    Calls Tryz.prog 173 #[.pointer (some ⟨br, 0, none⟩), .int .i64 n] w fun e w' => e = .returned (.slice none 0 0) ∧ RdQ Q w' br true [] ∧ Ch (RS br) w w' := by
  have HR := Lib.hid hr
  clear hr
  rcases hn with h | h
  · go_enter Tryz.func173, Tryz.ntmps173
    go_wp2_with (go_at_call 136; refine (bad_any br bad xs _ HR.out).mono ?_; rintro e w' ⟨rfl, h1, h2⟩)
    go_ret
    exact ⟨rfl, h1, h2⟩
  · have h0 : ¬ n < 0 := by omega
    go_enter Tryz.func173, Tryz.ntmps173
    go_wp2_with (first | (go_at_call 137; refine (left_any br bad xs _ HR.out).mono ?_; rintro e w' ⟨rfl, rfl⟩) | (go_at_call 136; refine (bad_any br bad xs _ HR.out).mono ?_; rintro e w' ⟨rfl, h1, h2⟩))
    go_ret
    exact ⟨rfl, h1, h2⟩
/-- v is a new row that reads as xs. -/
def Row (w : World) (v : Value) (xs : List Int) (w' : World) : Prop := w'.ownsRow 0 5 1 v xs.length (xs.map (Value.int .u8)) ∧ ∀ g, v.ownBlock = some g → w.heap.size ≤ g
theorem rraw_zero (br : Nat) (bad : Bool) (xs : List Int) (w : World) (hr : RdQ Q w br bad xs) :
    Calls Tryz.prog 173 #[.pointer (some ⟨br, 0, none⟩), .int .i64 0] w fun e w' => e = .returned (.slice none 0 0) ∧ w = w' := by
  have HR := Lib.hid hr
  clear hr
  go_enter Tryz.func173, Tryz.ntmps173
  go_wp2_with (first | (go_at_call 137; refine (left_any br bad xs _ HR.out).mono ?_; rintro e w' ⟨rfl, rfl⟩) | (go_at_call 136; refine (bad_any br bad xs _ HR.out).mono ?_; rintro e w' ⟨rfl, h1, h2⟩))
  go_ret
  exact ⟨rfl, rfl⟩
set_option maxHeartbeats 400000 in
theorem rraw_some (br : Nat) (xs : List Int) (n : Nat) (w : World) (hr : RdQ Q w br false xs) (h0 : 0 < n) (hn : n ≤ xs.length) (hm : n ≤ 100000000000000) :
    Calls Tryz.prog 173 #[.pointer (some ⟨br, 0, none⟩), .int .i64 n] w fun e w' => ∃ v, e = .returned v ∧ Row w v (xs.take n) w' ∧ RdQ Q w' br false (xs.drop n) ∧ Ch (RS br) w w' := by
  have HR := Lib.hid hr
  obtain ⟨A, l, c, hblk, hsl, hnc, hcm, hby, _⟩ := hr
  obtain rfl := hsl.len
  obtain ⟨hc0, hc1, hf0, hf1⟩ := rd_cells hblk
  obtain ⟨b, off, _, rfl, hbr, _, _⟩ := hsl.at_ (k := 0) (by omega)
  have hb0 : ((n : Int) == 0) = false := by rw [beq_eq_false_iff_ne]; omega
  have hlen : (xs.take n).length = n := by rw [List.length_take]; omega
  have HB := Lib.hid hby
  have HK := Lib.hid hblk
  have HL := Lib.hid hlen
  clear hblk hc1 hby hlen
  go_enter Tryz.func173, Tryz.ntmps173
  go_wp2_with (go_at_call 137; refine (left_any br false xs _ HR.out).mono ?_; rintro e w' ⟨rfl, rfl⟩)
  have hj : Sls (w.alloc (.cells #[.slice (some ⟨b, off, none⟩) n c] 22)) (fun _ => True) (some ⟨w.heap.size, 0, none⟩) 1 [xs.take n] := by
    have hs1 : Sl w (fun b => b ≠ br ∧ Q b) .u8 (some ⟨b, off, none⟩) (xs.take n).length (xs.take n) := by
      rw [HL.out]
      exact hsl.take hn
    have := Sls.one (G := fun _ => True) 22 hs1 (c := c) (by rw [HL.out]; omega) (by unfold maxLen; omega) (fun _ _ _ => trivial) trivial
    rw [HL.out] at this
    exact this
  refine (join_any [xs.take n] _ 1 1 _ (fun _ => True) (by omega) hj (by simp [cat]; omega)).mono ?_
  rintro e w1 ⟨v, rfl, hf⟩
  have e1 : cat [xs.take n] = xs.take n := by simp [cat]
  rw [e1] at hf
  have hf := Fresh.after ((Ch.refl (fun _ => False) w).alloc _) hf
  have hlt := HR.out.lt
  have hblk1 : w1.heap[br]? = some (.cells #[.slice (some ⟨b, off, none⟩) xs.length c, .bool false] 219 (0, 0)) := (hf.2.2.block br hlt (fun h => h)).trans HK.out
  obtain ⟨gc0, _, gf0, _⟩ := rd_cells hblk1
  have hsl1 := hsl.ch hf.2.2 (fun _ _ _ h => h)
  have fin : ∀ (A' : Option Addr) (c' : Nat), (c = n ∧ c' = 0) ∨ (A' = some ⟨b, off + n, none⟩ ∧ c' = c - n) →
      Row w v (xs.take n) (w1.setCell ⟨br, 0, none⟩ (.slice A' (xs.length - n) c')) ∧ RdQ Q (w1.setCell ⟨br, 0, none⟩ (.slice A' (xs.length - n) c')) br false (xs.drop n) ∧ Ch (RS br) w (w1.setCell ⟨br, 0, none⟩ (.slice A' (xs.length - n) c')) := fun A' c' hA => by
    obtain ⟨h1, h2⟩ := rd_cut hblk1 hsl1 HB.out (k := n) hn hnc hcm hA
    refine ⟨⟨h2.own hf.1 fun g hg hs => ?_, hf.2.1⟩, h1, (hf.2.2.mono (S := RS br) fun _ _ h => h.elim).trans h2 fun _ _ h => h⟩
    have := hf.2.1 g hg
    have hs' : g = br := hs
    omega
  have FIN := Lib.hid fin
  clear hf hblk1 hc0 hf0 hf1 hj fin e1 hsl1
  by_cases hcap : c = n
  · have hP := FIN.out (some ⟨b, off, none⟩) 0 (.inl ⟨hcap, rfl⟩)
    have HP := Lib.hid hP
    clear hP FIN
    go_wp2_with fail
    go_ret
    exact ⟨_, rfl, HP.out⟩
  · have hP := FIN.out (some ⟨b, off + n, none⟩) (c - n) (.inr ⟨rfl, rfl⟩)
    have HP := Lib.hid hP
    clear hP FIN
    go_wp2_with fail
    go_ret
    exact ⟨_, rfl, HP.out⟩
/-- What Bytes leaves. -/
def RowPost (Q : Nat → Prop) (w : World) (br : Nat) (xs : List Int) (e : Ending) (w' : World) : Prop :=
  match takeN 0 0 xs with
  | none => e = .returned (.slice none 0 0) ∧ RdQ Q w' br true [] ∧ Ch (RS br) w w'
  | some (m, r) => if r.length < m then e = .returned (.slice none 0 0) ∧ RdQ Q w' br true [] ∧ Ch (RS br) w w'
    else ∃ v, e = .returned v ∧ Row w v (r.take m) w' ∧ RdQ Q w' br false (r.drop m) ∧ Ch (RS br) w w'
theorem takeN_len : ∀ (xs : List Int) (i n m : Nat) (r : List Int), takeN i n xs = some (m, r) → r.length < xs.length := by
  intro xs
  induction xs with
  | nil => intro i n m r h; simp [takeN] at h
  | cons b l ih =>
    intro i n m r h
    unfold takeN at h
    split at h
    · cases h
    · split at h
      · have := ih _ _ _ _ h
        simp; omega
      · split at h
        · cases h
        · simp only [Option.some.injEq, Prod.mk.injEq] at h
          obtain ⟨_, rfl⟩ := h
          simp
set_option maxHeartbeats 400000 in
theorem rbytes_any (br : Nat) (bad : Bool) (xs : List Int) (w : World) (hr : RdQ Q w br bad xs) (hm : xs.length ≤ 100000000000000) :
    Calls Tryz.prog 123 #[.pointer (some ⟨br, 0, none⟩)] w (RowPost Q w br xs) := by
  have HR := Lib.hid hr
  clear hr
  cases ht : takeN 0 0 xs with
  | none =>
    have HT := Lib.hid ht
    clear ht
    go_enter Tryz.func123, Tryz.ntmps123
    go_wp2_with fail
    refine (num_any br bad xs _ HR.out).mono ?_
    intro e w1 h1
    unfold NumPost at h1
    rw [HT.out] at h1
    obtain ⟨rfl, h1, h2⟩ := h1
    have H1 := Lib.hid h1
    have H2 := Lib.hid h2
    clear h1 h2
    go_wp2_with fail
    refine (rraw_zero br true [] _ H1.out).mono ?_
    rintro e w2 ⟨rfl, rfl⟩
    go_wp2
    go_ret
    unfold RowPost
    rw [HT.out]
    exact ⟨rfl, H1.out, H2.out⟩
  | some y =>
    obtain ⟨m, r⟩ := y
    have hlr := takeN_len _ _ _ _ _ ht
    have HT := Lib.hid ht
    clear ht
    go_enter Tryz.func123, Tryz.ntmps123
    go_wp2_with fail
    refine (num_any br bad xs _ HR.out).mono ?_
    intro e w1 h1
    unfold NumPost at h1
    rw [HT.out] at h1
    obtain ⟨rfl, h1, h2⟩ := h1
    have H1 := Lib.hid h1
    have H2 := Lib.hid h2
    clear h1 h2
    by_cases hbig : r.length < m
    · go_wp2_with fail
      refine (rraw_no br false r m _ H1.out (.inr (by omega))).mono ?_
      rintro e w2 ⟨rfl, g1, g2⟩
      go_wp2
      go_ret
      unfold RowPost
      rw [HT.out]
      simp only [if_pos hbig]
      exact ⟨rfl, g1, H2.out.trans g2 fun _ _ h => h⟩
    · by_cases h0 : m = 0
      · subst h0
        go_wp2_with fail
        refine (rraw_zero br false r _ H1.out).mono ?_
        rintro e w2 ⟨rfl, rfl⟩
        go_wp2
        go_ret
        unfold RowPost
        rw [HT.out]
        simp only [if_neg hbig]
        exact ⟨_, rfl, ⟨World.ownsRow_nil _ _ _ _, fun g hg => by simp [Value.ownBlock] at hg⟩, H1.out, H2.out⟩
      · go_wp2_with fail
        refine (rraw_some br r m _ H1.out (by omega) (by omega) (by omega)).mono ?_
        rintro e w2 ⟨v, rfl, g1, g2, g3⟩
        have hsz := H2.out.size
        go_wp2
        go_ret
        unfold RowPost
        rw [HT.out]
        simp only [if_neg hbig]
        exact ⟨_, rfl, ⟨g1.1, fun g hg => by have := g1.2 g hg; omega⟩, g2, H2.out.trans g3 fun _ _ h => h⟩
end
end
section
open Go.RowKit Go.Oct
theorem own_none (w : World) (e : TypeId) : (w.alloc (.cells #[] e)).ownsRow 0 e 1 (.slice (some ⟨w.heap.size, 0, none⟩) 0 0) 0 [] := World.ownsRow_made w #[] 0 (Nat.zero_le _) (by unfold maxLen; omega) rfl
theorem own_take {w : World} {e : TypeId} {g n c k : Nat} {xs : List Value} (h : w.ownsRow 0 e 1 (.slice (some ⟨g, 0, none⟩) n c) n xs) (hk : k ≤ n) : w.ownsRow 0 e 1 (.slice (some ⟨g, 0, none⟩) k c) k (xs.take k) := by
  have h1 := h.1
  refine ⟨by rw [List.length_take]; omega, ?_⟩
  rcases h.2 with ⟨h', _⟩ | ⟨g', cap, cur, hv, hb, hg, hnc, hcm, hcs, htake⟩
  · cases h'
  · injection hv with hv _ hc
    injection hv with hv
    injection hv with hv
    subst hv hc
    refine .inr ⟨g, c, cur, rfl, hb, hg, by omega, hcm, hcs, ?_⟩
    rw [← htake, List.take_take]
    congr 1
    omega
end
section
open Go.RowKit Go.Oct
/-- The document's Reader at block bf that has xs left. -/
def Rf (Q : Nat → Prop) (w : World) (bf : Nat) (bad : Bool) (xs : List Int) : Prop :=
  ∃ A n c, w.heap[bf]? = some (.cells #[.slice A n c, .bool bad] 252 (0, 0)) ∧ Sl w (fun b => b ≠ bf ∧ Q b) .u8 A n xs ∧ n ≤ c ∧ c ≤ 9223372036854775807 ∧ Byt xs ∧ (bad = true → xs = [])
section
variable {Q : Nat → Prop}
theorem Rf.lt {w : World} {bf : Nat} {bad : Bool} {xs : List Int} (h : Rf Q w bf bad xs) : bf < w.heap.size := by
  obtain ⟨A, n, c, hblk, _⟩ := h
  exact (Array.getElem?_eq_some_iff.1 hblk).1
theorem Rf.nil_ {w : World} {bf : Nat} {xs : List Int} (h : Rf Q w bf true xs) : xs = [] := by
  obtain ⟨A, n, c, _, _, _, _, _, hb⟩ := h
  exact hb rfl
theorem Rf.ch {w w' : World} {S : Nat → Prop} {bf : Nat} {bad : Bool} {xs : List Int} (h : Rf Q w bf bad xs) (hc : Ch S w w') (h0 : ¬ S bf) (hS : ∀ b, Q b → b < w.heap.size → ¬ S b) : Rf Q w' bf bad xs := by
  have hlt := h.lt
  obtain ⟨A, n, c, hblk, hsl, rest⟩ := h
  exact ⟨A, n, c, (hc.block bf hlt h0).trans hblk, hsl.ch hc (fun b hq hb => hS b hq.2 hb), rest⟩
theorem Rf.bad_ {w : World} {bf : Nat} {bad : Bool} {xs : List Int} (h : Rf Q w bf bad xs) :
    Rf Q ((w.setCell ⟨bf, 1, none⟩ (.bool true)).setCell ⟨bf, 0, none⟩ (.slice none 0 0)) bf true [] ∧ Ch (RS bf) w ((w.setCell ⟨bf, 1, none⟩ (.bool true)).setCell ⟨bf, 0, none⟩ (.slice none 0 0)) := by
  obtain ⟨A, n, c, hblk, _⟩ := h
  refine ⟨⟨none, 0, 0, ?_, Sl.nil _ _ _ _, Nat.le_refl _, by omega, fun x hx => by simp at hx, fun _ => rfl⟩, ((Ch.refl (RS bf) w).setCell (p := ⟨bf, 1, none⟩) (.inl rfl) _).setCell (p := ⟨bf, 0, none⟩) (.inl rfl) _⟩
  simp [World.setCell, Array.getElem?_modify, hblk]
theorem rf_cut {w : World} {bf k b off n c : Nat} {xs : List Int} (hblk : w.heap[bf]? = some (.cells #[.slice (some ⟨b, off, none⟩) n c, .bool false] 252 (0, 0))) (hsl : Sl w (fun b => b ≠ bf ∧ Q b) .u8 (some ⟨b, off, none⟩) n xs)
    (hby : Byt xs) (hk : k ≤ n) (hnc : n ≤ c) (hcm : c ≤ 9223372036854775807) {A' : Option Addr} {c' : Nat} (hA : (c = k ∧ c' = 0) ∨ (A' = some ⟨b, off + k, none⟩ ∧ c' = c - k)) :
    Rf Q (w.setCell ⟨bf, 0, none⟩ (.slice A' (n - k) c')) bf false (xs.drop k) ∧ Ch (RS bf) w (w.setCell ⟨bf, 0, none⟩ (.slice A' (n - k) c')) := by
  have hC : Ch (RS bf) w (w.setCell ⟨bf, 0, none⟩ (.slice A' (n - k) c')) := (Ch.refl (RS bf) w).setCell (p := ⟨bf, 0, none⟩) (.inl rfl) _
  refine ⟨⟨A', n - k, c', by simp [World.setCell, Array.getElem?_modify, hblk], ?_, ?_, ?_, fun x hx => hby x (List.mem_of_mem_drop hx), fun h => by cases h⟩, hC⟩
  · refine Sl.ch ?_ hC (fun b hb _ h => hb.1 h)
    rcases hA with ⟨h1, _⟩ | ⟨rfl, _⟩
    · have h0 : n - k = 0 := by omega
      have hl := hsl.len
      rw [h0, List.drop_of_length_le (by omega)]
      exact Sl.nil _ _ _ _
    · exact hsl.drop hk
  · rcases hA with ⟨h1, rfl⟩ | ⟨_, rfl⟩ <;> omega
  · rcases hA with ⟨h1, rfl⟩ | ⟨_, rfl⟩ <;> omega
theorem rfbad_any (bf : Nat) (bad : Bool) (xs : List Int) (w : World) (hr : Rf Q w bf bad xs) :
    Calls Tryz.prog 160 #[.pointer (some ⟨bf, 0, none⟩)] w fun e w' => e = .returned (.tuple #[]) ∧ Rf Q w' bf true [] ∧ Ch (RS bf) w w' := by
  have HR := Lib.hid hr
  obtain ⟨A, n, c, hblk, _⟩ := hr
  obtain ⟨hc0, hc1, hf0, hf1⟩ := rd_cells hblk
  clear hblk
  go_enter Tryz.func160, Tryz.ntmps160
  go_wp2
  go_returns
  exact ⟨rfl, HR.out.bad_⟩
theorem rfwhole_any (bf : Nat) (bad : Bool) (xs : List Int) (w : World) (hr : Rf Q w bf bad xs) :
    Calls Tryz.prog 162 #[.pointer (some ⟨bf, 0, none⟩)] w fun e w' => e = .returned (.bool (!bad && xs.isEmpty)) ∧ w = w' := by
  obtain ⟨A, n, c, hblk, hsl, _⟩ := hr
  have hl : xs.isEmpty = ((n : Int) == 0) := by
    rw [← hsl.len]
    cases xs <;> simp <;> omega
  rw [hl]
  obtain ⟨hc0, hc1, hf0, hf1⟩ := rd_cells hblk
  clear hblk hl
  cases bad
  · go_enter Tryz.func162, Tryz.ntmps162
    go_wp2
    go_ret
    exact ⟨rfl, rfl⟩
  · go_enter Tryz.func162, Tryz.ntmps162
    go_wp2
    go_ret
    exact ⟨rfl, rfl⟩
/-- Raw of too much, or of less than nothing. -/
theorem rfraw_no (bf : Nat) (bad : Bool) (xs : List Int) (n : Int) (w : World) (hr : Rf Q w bf bad xs) (hn : n < 0 ∨ (xs.length : Int) < n) :
    Calls Tryz.prog 223 #[.pointer (some ⟨bf, 0, none⟩), .int .i64 n] w fun e w' => e = .returned (.slice none 0 0) ∧ Rf Q w' bf true [] ∧ Ch (RS bf) w w' := by
  have HR := Lib.hid hr
  obtain ⟨A, l, c, hblk, hsl, _⟩ := hr
  obtain rfl := hsl.len
  obtain ⟨hc0, hc1, hf0, hf1⟩ := rd_cells hblk
  clear hblk hsl
  have fin : ∀ {w1 : World}, Rf Q w1 bf true [] → w1.cell? ⟨bf, 1, none⟩ = some (.bool true) := fun h => by
    obtain ⟨_, _, _, hb, _⟩ := h
    exact (rd_cells hb).2.1
  rcases hn with h | h
  · go_enter Tryz.func223, Tryz.ntmps223
    go_wp2_with fail
    refine (rfbad_any bf bad xs _ HR.out).mono ?_
    rintro e w1 ⟨rfl, h1, h2⟩
    have h3 := fin h1
    have H1 := Lib.hid h1
    have H2 := Lib.hid h2
    clear h1 h2 hc0 hc1 hf0 hf1 fin
    go_wp2
    go_ret
    exact ⟨rfl, H1.out, H2.out⟩
  · have h0 : ¬ n < 0 := by omega
    go_enter Tryz.func223, Tryz.ntmps223
    go_wp2_with fail
    refine (rfbad_any bf bad xs _ HR.out).mono ?_
    rintro e w1 ⟨rfl, h1, h2⟩
    have h3 := fin h1
    have H1 := Lib.hid h1
    have H2 := Lib.hid h2
    clear h1 h2 hc0 hc1 hf0 hf1 fin
    go_wp2
    go_ret
    exact ⟨rfl, H1.out, H2.out⟩
/-- Raw of nothing, where it has erred. -/
theorem rfraw_err (bf : Nat) (w : World) (hr : Rf Q w bf true []) :
    Calls Tryz.prog 223 #[.pointer (some ⟨bf, 0, none⟩), .int .i64 0] w fun e w' => e = .returned (.slice none 0 0) ∧ w = w' := by
  obtain ⟨A, l, c, hblk, hsl, _⟩ := hr
  obtain rfl := hsl.len
  obtain ⟨hc0, hc1, hf0, hf1⟩ := rd_cells hblk
  clear hblk hsl
  go_enter Tryz.func223, Tryz.ntmps223
  go_wp2
  go_ret
  exact ⟨rfl, rfl⟩
set_option maxHeartbeats 400000 in
theorem rfraw_some (bf : Nat) (xs : List Int) (n : Nat) (w : World) (hr : Rf Q w bf false xs) (h0 : 0 < xs.length) (hn : n ≤ xs.length) (hm : xs.length ≤ 100000000000000) :
    Calls Tryz.prog 223 #[.pointer (some ⟨bf, 0, none⟩), .int .i64 n] w fun e w' => ∃ v, e = .returned v ∧ Row w v (xs.take n) w' ∧ Rf Q w' bf false (xs.drop n) ∧ Ch (RS bf) w w' := by
  have HR := Lib.hid hr
  obtain ⟨A, l, c, hblk, hsl, hnc, hcm, hby, _⟩ := hr
  obtain rfl := hsl.len
  obtain ⟨hc0, hc1, hf0, hf1⟩ := rd_cells hblk
  obtain ⟨b, off, _, rfl, hbr, _, _⟩ := hsl.at_ (k := 0) h0
  have hlen : (xs.take n).length = n := by rw [List.length_take]; omega
  have HB := Lib.hid hby
  have HK := Lib.hid hblk
  have HL := Lib.hid hlen
  have hC0 : Ch (fun _ => False) w (w.alloc (.cells #[] 5)) := (Ch.refl _ _).alloc _
  have hst := (hsl.take hn).ch hC0 (fun _ _ _ h => h)
  have hca := hC0.cell (p := ⟨bf, 0, none⟩) (fun h => h) hc0
  clear hblk hby hlen
  go_enter Tryz.func223, Tryz.ntmps223
  go_wp2_with (at_builtin; refine wp_app rfl (.tmp 23) (.tmp 29) Tb rfl rfl (own_none w 5) rfl hst ?c1 ?c2 ?c3 ?_)
  case c1 => exact ints_cells _ _
  case c2 => omega
  case c3 => omega
  intro v1 w1 ho1 hg1 hb1
  have hf1' : Fresh w v1 (xs.take n) w1 := by
    have h0 : Fresh w (.slice (some ⟨w.heap.size, 0, none⟩) 0 0) [] (w.alloc (.cells #[] 5)) := ⟨own_none w _, fun g hg => by simp [Value.ownBlock] at hg; omega, hC0⟩
    exact h0.app (zs := xs.take n) (m := n) hg1 (by simpa using ho1) (by simpa using hb1)
  have hlt := HR.out.lt
  have hblk1 : w1.heap[bf]? = some (.cells #[.slice (some ⟨b, off, none⟩) xs.length c, .bool false] 252 (0, 0)) := (hf1'.2.2.block bf hlt (fun h => h)).trans HK.out
  obtain ⟨gc0, _, gf0, _⟩ := rd_cells hblk1
  have hsl1 := hsl.ch hf1'.2.2 (fun _ _ _ h => h)
  have fin : ∀ (A' : Option Addr) (c' : Nat), (c = n ∧ c' = 0) ∨ (A' = some ⟨b, off + n, none⟩ ∧ c' = c - n) →
      Row w v1 (xs.take n) (w1.setCell ⟨bf, 0, none⟩ (.slice A' (xs.length - n) c')) ∧ Rf Q (w1.setCell ⟨bf, 0, none⟩ (.slice A' (xs.length - n) c')) bf false (xs.drop n) ∧ Ch (RS bf) w (w1.setCell ⟨bf, 0, none⟩ (.slice A' (xs.length - n) c')) := fun A' c' hA => by
    obtain ⟨h1, h2⟩ := rf_cut hblk1 hsl1 HB.out (k := n) hn hnc hcm hA
    refine ⟨⟨h2.own hf1'.1 fun g hg hs => ?_, hf1'.2.1⟩, h1, (hf1'.2.2.mono (S := RS bf) fun _ _ h => h.elim).trans h2 fun _ _ h => h⟩
    have := hf1'.2.1 g hg
    have hs' : g = bf := hs
    omega
  obtain ⟨A1, c1, rfl, _, _⟩ := own_shape ho1
  have FIN := Lib.hid fin
  clear hf1' hblk1 hc0 hc1 hf0 hf1 fin hsl1 ho1 hg1 hb1 hst hC0 hca
  by_cases hcap : c = n
  · have hP := FIN.out (some ⟨b, off, none⟩) 0 (.inl ⟨hcap, rfl⟩)
    have HP := Lib.hid hP
    clear hP FIN
    go_wp2_with fail
    go_ret
    exact ⟨_, rfl, HP.out⟩
  · have hP := FIN.out (some ⟨b, off + n, none⟩) (c - n) (.inr ⟨rfl, rfl⟩)
    have HP := Lib.hid hP
    clear hP FIN
    go_wp2_with fail
    go_ret
    exact ⟨_, rfl, HP.out⟩
set_option maxHeartbeats 400000 in
theorem rfraw_none (bf : Nat) (w : World) (hr : Rf Q w bf false []) :
    Calls Tryz.prog 223 #[.pointer (some ⟨bf, 0, none⟩), .int .i64 0] w fun e w' => ∃ v, e = .returned v ∧ Row w v [] w' ∧ Rf Q w' bf false [] ∧ Ch (RS bf) w w' := by
  have HR := Lib.hid hr
  obtain ⟨A, l, c, hblk, hsl, hnc, hcm, hby, _⟩ := hr
  obtain rfl := hsl.len
  obtain ⟨hc0, hc1, hf0, hf1⟩ := rd_cells hblk
  have HK := Lib.hid hblk
  have hC0 : Ch (fun _ => False) w (w.alloc (.cells #[] 5)) := (Ch.refl _ _).alloc _
  have hca := hC0.cell (p := ⟨bf, 0, none⟩) (fun h => h) hc0
  have hst : Sl (w.alloc (.cells #[] 5)) (fun _ => True) .u8 A 0 [] := Sl.nil _ _ _ _
  have hfin : ∀ (v1 : Value) (w1 : World), w1.ownsRow 0 5 1 v1 0 [] → (w.alloc (.cells #[] 5)).grownBy w1 (Value.slice (some ⟨w.heap.size, 0, none⟩) 0 0).ownBlock → (v1.ownBlock = (Value.slice (some ⟨w.heap.size, 0, none⟩) 0 0).ownBlock ∨ v1.ownBlock = some (w.alloc (.cells #[] 5)).heap.size) →
      w1.cell? ⟨bf, 0, none⟩ = some (.slice A 0 c) ∧ w1.frozen? ⟨bf, 0, none⟩ = false ∧ ∀ (A' : Option Addr) (c' : Nat), c' ≤ 9223372036854775807 →
      Row w v1 [] (w1.setCell ⟨bf, 0, none⟩ (.slice A' 0 c')) ∧ Rf Q (w1.setCell ⟨bf, 0, none⟩ (.slice A' 0 c')) bf false [] ∧ Ch (RS bf) w (w1.setCell ⟨bf, 0, none⟩ (.slice A' 0 c')) := by
    intro v1 w1 ho1 hg1 hb1
    have hf1' : Fresh w v1 [] w1 := by
      have h0 : Fresh w (.slice (some ⟨w.heap.size, 0, none⟩) 0 0) [] (w.alloc (.cells #[] 5)) := ⟨own_none w _, fun g hg => by simp [Value.ownBlock] at hg; omega, hC0⟩
      exact h0.app (zs := []) (m := 0) hg1 (by simpa using ho1) hb1
    have hlt := HR.out.lt
    have hblk1 : w1.heap[bf]? = some (.cells #[.slice A 0 c, .bool false] 252 (0, 0)) := (hf1'.2.2.block bf hlt (fun h => h)).trans HK.out
    obtain ⟨gc0, _, gf0, _⟩ := rd_cells hblk1
    refine ⟨gc0, gf0, fun A' c' hA => ?_⟩
    have hC : Ch (RS bf) w1 (w1.setCell ⟨bf, 0, none⟩ (.slice A' 0 c')) := (Ch.refl (RS bf) w1).setCell (p := ⟨bf, 0, none⟩) (.inl rfl) _
    refine ⟨⟨hC.own hf1'.1 fun g hg hs => ?_, hf1'.2.1⟩, ⟨A', 0, c', by simp [World.setCell, Array.getElem?_modify, hblk1], Sl.nil _ _ _ _, Nat.zero_le _, hA, fun x hx => by simp at hx, fun h => by cases h⟩, (hf1'.2.2.mono (S := RS bf) fun _ _ h => h.elim).trans hC fun _ _ h => h⟩
    have := hf1'.2.1 g hg
    have hs' : g = bf := hs
    omega
  have HFIN := Lib.hid hfin
  clear hblk hby hsl hfin HK
  simp only [List.length_nil] at hc0 hca
  rcases A with _ | a
  all_goals
    go_enter Tryz.func223, Tryz.ntmps223
    go_wp2_with (at_builtin; refine wp_app rfl (.tmp 23) (.tmp 29) Tb rfl rfl (own_none w 5) rfl hst ?_ ?_ ?_ ?_)
    intro v1 w1 ho1 hg1 hb1
    obtain ⟨gc0, gf0, hA⟩ := HFIN.out v1 w1 (by simpa using ho1) hg1 (by simpa using hb1)
    obtain ⟨A1, c1, rfl, _, _⟩ := own_shape ho1
    have HA := Lib.hid hA
    clear hc0 hc1 hf0 hf1 ho1 hg1 hb1 hst hC0 hca hA
    go_wp2_with fail
    go_ret
    exact ⟨_, rfl, HA.out _ _ (by omega)⟩
/-- Raw of what there is. -/
theorem rfraw_yes (bf : Nat) (xs : List Int) (n : Nat) (w : World) (hr : Rf Q w bf false xs) (hn : n ≤ xs.length) (hm : xs.length ≤ 100000000000000) :
    Calls Tryz.prog 223 #[.pointer (some ⟨bf, 0, none⟩), .int .i64 n] w fun e w' => ∃ v, e = .returned v ∧ Row w v (xs.take n) w' ∧ Rf Q w' bf false (xs.drop n) ∧ Ch (RS bf) w w' := by
  rcases Nat.eq_zero_or_pos xs.length with h0 | h0
  · obtain rfl := List.eq_nil_of_length_eq_zero h0
    obtain rfl : n = 0 := by simpa using hn
    simpa using rfraw_none bf w hr
  · exact rfraw_some bf xs n w hr h0 hn hm
end
end
end Go.Proofs.YtbkakhfepiooaaaGreatDoor.O
