/-
  The contract of haystacklaw5.known: true; both Arrays and both Commons, whatever they are handed; rows of low digits; a row's copy by append.
-/
import Derived.Test.YtmkhndajogcojaaSvArray
import Derived.Test.YtmkhndajogcojaaSuRefs
namespace Go.Proofs.Ytmkhndajogcojaa
open Go.RowKit Go.Oct Go.Su


/-- What both Arrays answer, refusals too. -/
def ArrAny (s : List Int) (n : Nat) (w : World) (e : Ending) (w' : World) : Prop := ∃ (A : Option Addr) (c m : Nat) (L : List Nat), e = .returned (.tuple #[.slice A m c, .int .i64 (aErr s)]) ∧ Sl w' (fun b => w.heap.size ≤ b) .i64 A m (asI L) ∧ ((aErr s = 0 ∧ m = n ∧ IsSA s L) ∨ (aErr s ≠ 0 ∧ m = 0 ∧ L = [])) ∧ Ch (fun _ => False) w w'
/-- One of two Arrays' answers is the other. -/
theorem arr_one {s : List Int} {n m m' : Nat} {L L' : List Nat} (h : (aErr s = 0 ∧ m = n ∧ IsSA s L) ∨ (aErr s ≠ 0 ∧ m = 0 ∧ L = [])) (h' : (aErr s = 0 ∧ m' = n ∧ IsSA s L') ∨ (aErr s ≠ 0 ∧ m' = 0 ∧ L' = [])) : m' = m ∧ L' = L := by
  rcases h with ⟨a, b, c⟩ | ⟨a, b, c⟩ <;> rcases h' with ⟨a', b', c'⟩ | ⟨a', b', c'⟩
  · exact ⟨by omega, c'.uniq c⟩
  · exact absurd a a'
  · exact absurd a' a
  · exact ⟨by omega, by rw [c, c']⟩
/-- What both Commons answer, refusals too. -/
def CRes (s xs : List Int) (n : Nat) (ec : Int) (m : Nat) (h : List Nat) : Prop :=
  (aErr s ≠ 0 ∧ ec = aErr s ∧ m = 0 ∧ h = []) ∨ (aErr s = 0 ∧ (∀ L, IsSA s L → xs ≠ asI L) ∧ ec = 1 ∧ m = 0 ∧ h = []) ∨ (aErr s = 0 ∧ ∃ L, IsSA s L ∧ xs = asI L ∧ ec = 0 ∧ m = n ∧ Cmn s L h)
theorem com_one {s xs : List Int} {n m m' : Nat} {ec ec' : Int} {h h' : List Nat} (a : CRes s xs n ec m h) (b : CRes s xs n ec' m' h') : ec' = ec ∧ m' = m ∧ h' = h := by
  rcases a with ⟨a1, a2, a3, a4⟩ | ⟨a1, a2, a3, a4, a5⟩ | ⟨a1, L, a2, a3, a4, a5, a6⟩ <;> rcases b with ⟨b1, b2, b3, b4⟩ | ⟨b1, b2, b3, b4, b5⟩ | ⟨b1, L', b2, b3, b4, b5, b6⟩
  · exact ⟨by rw [a2, b2], by omega, by rw [a4, b4]⟩
  · exact absurd b1 a1
  · exact absurd b1 a1
  · exact absurd a1 b1
  · exact ⟨by omega, by omega, by rw [a5, b5]⟩
  · exact absurd b3 (a2 L' b2)
  · exact absurd a1 b1
  · exact absurd a3 (b2 L a2)
  · obtain rfl := b2.uniq a2
    exact ⟨by omega, by omega, b6.uniq a2.len a6⟩
def ComAny (s xs : List Int) (n : Nat) (w : World) (e : Ending) (w' : World) : Prop := ∃ (A : Option Addr) (c m : Nat) (ec : Int) (h : List Nat), e = .returned (.tuple #[.slice A m c, .int .i64 ec]) ∧ Sl w' (fun b => w.heap.size ≤ b) .i64 A m (asI h) ∧ CRes s xs n ec m h ∧ Ch (fun _ => False) w w'
section
variable {F G : Nat → Prop}
theorem array_any (s : List Int) (A : Option Addr) (n c : Nat) (w : World) (hs : Sl w F .i64 A n s) (hn : n ≤ 65536) :
    Calls Try.prog 10 #[.slice A n c] w (ArrAny s n w) := by
  by_cases h : aErr s = 0
  · refine (array_ok s A n c w hs hn (aErr_ok h).2).mono ?_
    rintro e w' ⟨A', c', L, rfl, hSA, hS, _, _, hC⟩
    exact ⟨A', c', n, L, by rw [h], hS, .inl ⟨h, rfl, hSA⟩, hC⟩
  · refine (array_err s A n c w hs (by omega) h).mono ?_
    rintro e w' ⟨rfl, rfl⟩
    exact ⟨none, 0, 0, [], rfl, Sl.nil _ _ _ _, .inr ⟨h, rfl, rfl⟩, Ch.refl _ _⟩
theorem refarray_any (s : List Int) (A : Option Addr) (n c : Nat) (w : World) (hs : Sl w F .i64 A n s) (hn : n ≤ 65536) :
    Calls Try.prog 11 #[.slice A n c] w (ArrAny s n w) := by
  by_cases h : aErr s = 0
  · refine (refarr_ok s A n c w hs hn (aErr_ok h).2).mono ?_
    rintro e w' ⟨A', c', L, rfl, hSA, hS, _, _, hC⟩
    exact ⟨A', c', n, L, by rw [h], hS, .inl ⟨h, rfl, hSA⟩, hC⟩
  · refine (refarr_err s A n c w hs (by omega) h).mono ?_
    rintro e w' ⟨rfl, rfl⟩
    exact ⟨none, 0, 0, [], rfl, Sl.nil _ _ _ _, .inr ⟨h, rfl, rfl⟩, Ch.refl _ _⟩
theorem sa_len_ne {s xs : List Int} {n m : Nat} (hs : s.length = n) (hx : xs.length = m) (h : n ≠ m) : ∀ L, IsSA s L → xs ≠ asI L := fun L hL e => by
  rw [e, asI_len, hL.len] at hx
  omega
theorem common_any (s xs : List Int) (A B : Option Addr) (n m c d : Nat) (w : World) (hs : Sl w F .i64 A n s) (hx : Sl w G .i64 B m xs) (hn : n ≤ 65536) :
    Calls Try.prog 17 #[.slice A n c, .slice B m d] w (ComAny s xs n w) := by
  by_cases h : aErr s = 0
  · have hp := (aErr_ok h).2
    by_cases hnm : n = m
    · subst hnm
      by_cases he : ∃ L, IsSA s L ∧ xs = asI L
      · obtain ⟨L, hL, rfl⟩ := he
        refine (common_ok s L A B n c d w hs hx hn hp hL).mono ?_
        rintro e w' ⟨g, q, rfl, hq, hO, hg, hC⟩
        exact ⟨_, n, n, 0, q, rfl, hO.slN.mono (fun b _ hb => by omega), .inr (.inr ⟨h, L, hL, rfl, rfl, rfl, hq⟩), hC⟩
      · have hne : ∀ L, IsSA s L → xs ≠ asI L := fun L hL e => he ⟨L, hL, e⟩
        refine (common_diff s xs A B n c d w hs hx hn hp hne).mono ?_
        rintro e w' ⟨rfl, hC⟩
        exact ⟨none, 0, 0, 1, [], rfl, Sl.nil _ _ _ _, .inr (.inl ⟨h, hne, rfl, rfl, rfl⟩), hC⟩
    · refine (common_len s A B n m c d w hs hn hp hnm).mono ?_
      rintro e w' ⟨rfl, hC⟩
      exact ⟨none, 0, 0, 1, [], rfl, Sl.nil _ _ _ _, .inr (.inl ⟨h, sa_len_ne hs.len hx.len hnm, rfl, rfl, rfl⟩), hC⟩
  · refine (common_err s A B n m c d w hs (by omega) h).mono ?_
    rintro e w' ⟨rfl, rfl⟩
    exact ⟨none, 0, 0, _, [], rfl, Sl.nil _ _ _ _, .inl ⟨h, rfl, rfl, rfl⟩, Ch.refl _ _⟩
theorem refcommon_any (s xs : List Int) (A B : Option Addr) (n m c d : Nat) (w : World) (hs : Sl w F .i64 A n s) (hx : Sl w G .i64 B m xs) (hn : n ≤ 65536) :
    Calls Try.prog 18 #[.slice A n c, .slice B m d] w (ComAny s xs n w) := by
  by_cases h : aErr s = 0
  · have hp := (aErr_ok h).2
    by_cases hnm : n = m
    · subst hnm
      by_cases he : ∃ L, IsSA s L ∧ xs = asI L
      · obtain ⟨L, hL, rfl⟩ := he
        refine (refcom_ok s L A B n c d w hs hx hn hp hL).mono ?_
        rintro e w' ⟨g, q, rfl, hq, hO, hg, hC⟩
        exact ⟨_, n, n, 0, q, rfl, hO.slN.mono (fun b _ hb => by omega), .inr (.inr ⟨h, L, hL, rfl, rfl, rfl, hq⟩), hC⟩
      · have hne : ∀ L, IsSA s L → xs ≠ asI L := fun L hL e => he ⟨L, hL, e⟩
        refine (refcom_diff s xs A B n c d w hs hx hn hp hne).mono ?_
        rintro e w' ⟨rfl, hC⟩
        exact ⟨none, 0, 0, 1, [], rfl, Sl.nil _ _ _ _, .inr (.inl ⟨h, hne, rfl, rfl, rfl⟩), hC⟩
    · refine (refcom_len s A B n m c d w hs hn hp hnm).mono ?_
      rintro e w' ⟨rfl, hC⟩
      exact ⟨none, 0, 0, 1, [], rfl, Sl.nil _ _ _ _, .inr (.inl ⟨h, sa_len_ne hs.len hx.len hnm, rfl, rfl, rfl⟩), hC⟩
  · refine (refcom_err s A B n m c d w hs (by omega) h).mono ?_
    rintro e w' ⟨rfl, rfl⟩
    exact ⟨none, 0, 0, _, [], rfl, Sl.nil _ _ _ _, .inl ⟨h, rfl, rfl, rfl⟩, Ch.refl _ _⟩
end

theorem pw_cons {a b : Nat} {l : List Nat} {R : Nat → Nat → Prop} (tr : ∀ x y z, R x y → R y z → R x z) (h : R a b) (p : (b :: l).Pairwise R) : (a :: b :: l).Pairwise R :=
  List.pairwise_cons.2 ⟨fun y hy => by
    rcases List.mem_cons.1 hy with rfl | hy
    · exact h
    · exact tr _ _ _ h ((List.pairwise_cons.1 p).1 y hy), p⟩
/-- The document's word. -/
theorem word_ex : ∃ (s : List Int) (L : List Nat), s = [98, 97, 110, 97, 110, 97] ∧ asI L = [5, 3, 1, 0, 4, 2] ∧ Pos s ∧ IsSA s L := by
  refine ⟨[98, 97, 110, 97, 110, 97], [5, 3, 1, 0, 4, 2], rfl, rfl, fun x hx => ?_, rfl, fun x => ?_, ?_⟩
  · simp at hx
    omega
  · simp
    omega
  · have tr := fun x y z (h : Lt (gs [98, 97, 110, 97, 110, 97]) x y) (k : Lt (gs [98, 97, 110, 97, 110, 97]) y z) => h.trans k
    have lt : ∀ (x y k : Nat), (∀ j, j < k → gs [98, 97, 110, 97, 110, 97] (x + j) = gs [98, 97, 110, 97, 110, 97] (y + j)) → gs [98, 97, 110, 97, 110, 97] (x + k) < gs [98, 97, 110, 97, 110, 97] (y + k) → Lt (gs [98, 97, 110, 97, 110, 97]) x y := fun x y k h1 h2 => ⟨k, h1, h2⟩
    exact pw_cons tr (lt 5 3 1 (by decide) (by decide)) (pw_cons tr (lt 3 1 3 (by decide) (by decide)) (pw_cons tr (lt 1 0 0 (by decide) (by decide)) (pw_cons tr (lt 0 4 0 (by decide) (by decide)) (pw_cons tr (lt 4 2 2 (by decide) (by decide)) (List.pairwise_singleton _ _)))))
set_option maxHeartbeats 1000000 in
theorem known_any (w : World) : Calls Try.prog 13 #[] w fun e w' => e = .returned (.bool true) ∧ Ch (fun _ => False) w w' := by
  obtain ⟨s, L, hs, hL, hp, hSA⟩ := word_ex
  have hS : Sl (w.alloc (.cells #[.int .i64 98, .int .i64 97, .int .i64 110, .int .i64 97, .int .i64 110, .int .i64 97] 3)) (fun b => b = w.heap.size) .i64 (some ⟨w.heap.size, 0, none⟩) 6 s := by
    rw [hs]
    exact Vs.built w 3 [.int .i64 98, .int .i64 97, .int .i64 110, .int .i64 97, .int .i64 110, .int .i64 97]
  have hB : ∀ W : World, Sl (W.alloc (.cells #[.int .i64 5, .int .i64 3, .int .i64 1, .int .i64 0, .int .i64 4, .int .i64 2] 3)) (fun b => b = W.heap.size) .i64 (some ⟨W.heap.size, 0, none⟩) 6 (asI L) := fun W => by
    rw [hL]
    exact Vs.built W 3 [.int .i64 5, .int .i64 3, .int .i64 1, .int .i64 0, .int .i64 4, .int .i64 2]
  have har := array_ok s (some ⟨w.heap.size, 0, none⟩) 6 6 _ hS (by omega) hp
  have hC0 := (Ch.refl (fun _ => False) w).alloc (.cells #[.int .i64 98, .int .i64 97, .int .i64 110, .int .i64 97, .int .i64 110, .int .i64 97] 3)
  have HSA := Bx.mk hSA
  have HB := Bx.mk hB
  have HC0 := Bx.mk hC0
  clear hs hL hp hSA hS hB hC0
  go_enter Try.func13, Try.ntmps13
  go_wp2_with fail
  refine har.mono ?_
  rintro e w1 ⟨A1, c1, L', rfl, hSA', hS1, _, _, hC1⟩
  obtain rfl : L' = L := hSA'.uniq HSA.out
  have hCa := (Ch.refl (fun _ => False) w1).alloc (.cells #[.int .i64 5, .int .i64 3, .int .i64 1, .int .i64 0, .int .i64 4, .int .i64 2] 3)
  have hin := ints_any (asI L') A1 (some ⟨w1.heap.size, 0, none⟩) 6 c1 6 _ (hS1.ch hCa (fun _ _ _ h => h)) (HB.out w1) (by omega)
  have HC1 := Bx.mk ((HC0.out.trans hC1 (fun _ _ h => h)).trans hCa (fun _ _ h => h))
  clear hSA' hS1 hC1 hCa har HSA HB HC0
  go_wp2_with fail
  refine hin.mono ?_
  rintro e w2 ⟨rfl, hC2⟩
  have HC2 := Bx.mk (HC1.out.trans hC2 (fun _ _ h => h))
  clear hC2 hin HC1
  go_wp2
  go_ret
  exact ⟨rfl, HC2.out⟩

/-- append([]int{}, s...): a row of the call's own. -/
theorem copied {w w1 : World} {v : Value} {n : Nat} {s : List Int} (ho : w1.ownsRow 0 3 1 v n (s.map (Value.int .i64))) (hg : (w.alloc (.cells #[] 3)).grownBy w1 (Value.slice (some ⟨w.heap.size, 0, none⟩) 0 0).ownBlock) (hb : v.ownBlock = (Value.slice (some ⟨w.heap.size, 0, none⟩) 0 0).ownBlock ∨ v.ownBlock = some (w.heap.size + 1)) :
    ∃ A c, v = .slice A n c ∧ Sl w1 (fun b => w.heap.size ≤ b) .i64 A n s ∧ Ch (fun _ => False) w w1 := by
  obtain ⟨A, c, rfl, _, _⟩ := own_shape ho
  have hC : Ch (fun _ => False) w w1 := ((Ch.refl (fun _ => False) w).alloc _).grown hg (fun k hk => by simp [Value.ownBlock] at hk; omega)
  refine ⟨A, c, rfl, (Sl.of_own ho).mono (fun b _ hb' => ?_), hC⟩
  rcases hb with h | h
  · rw [h] at hb'
    simp [Value.ownBlock] at hb'
    omega
  · rw [h] at hb'
    injection hb' with hb'
    omega
theorem own_nil (w : World) : (w.alloc (.cells #[] 3)).ownsRow 0 3 1 (.slice (some ⟨w.heap.size, 0, none⟩) 0 0) 0 [] := own_none w

theorem and_low (x : Int) (k : Nat) (hk : k < 63) : bits .and .i64 x ((2 ^ k - 1 : Nat) : Int) = (((x % ((2 ^ k : Nat) : Int)).toNat : Nat) : Int) := by
  have hp : (2 : Nat) ^ k < 2 ^ 63 := Nat.pow_lt_pow_right (by decide) hk
  have hp0 : 0 < 2 ^ k := Nat.pow_pos (by decide)
  have hd : (2 : Nat) ^ k ∣ 18446744073709551616 := ⟨2 ^ (64 - k), by rw [← Nat.pow_add, show k + (64 - k) = 64 by omega]⟩
  have h2 : (BitVec.ofInt 64 (((2 ^ k - 1 : Nat)) : Int)).toNat = 2 ^ k - 1 := by
    rw [BitVec.ofInt_natCast, BitVec.toNat_ofNat]; exact Nat.mod_eq_of_lt (by omega)
  have h1 : (BitVec.ofInt 64 x).toNat = (x % (18446744073709551616 : Nat)).toNat := by
    rw [BitVec.toNat_ofInt]
  have h3 : (x % (18446744073709551616 : Nat)).toNat % 2 ^ k = (x % ((2 ^ k : Nat) : Int)).toNat := by
    have e1 : ((x % ((18446744073709551616 : Nat) : Int)).toNat : Int) = x % ((18446744073709551616 : Nat) : Int) := by omega
    have e2 : (((x % ((18446744073709551616 : Nat) : Int)).toNat % 2 ^ k : Nat) : Int) = x % ((2 ^ k : Nat) : Int) := by
      rw [Int.natCast_emod, e1]
      exact Int.emod_emod_of_dvd x (Int.natCast_dvd_natCast.2 hd)
    omega
  show IntKind.i64.wrap ((BitVec.ofInt 64 x &&& BitVec.ofInt 64 (((2 ^ k - 1 : Nat)) : Int)).toNat : Int) = _
  rw [BitVec.toNat_and, h1, h2, Nat.and_two_pow_sub_one_eq_mod, h3]
  have h4 : (x % ((2 ^ k : Nat) : Int)).toNat < 2 ^ k := by
    have := Int.emod_lt_of_pos x (show (0 : Int) < ((2 ^ k : Nat) : Int) by omega)
    have := Int.emod_nonneg x (show ((2 ^ k : Nat) : Int) ≠ 0 by omega)
    omega
  exact IntWalk.i64_in _ (by omega)
/-- The low digits of each. -/
def cut (p : Nat) (xs : List Int) : List Nat := xs.map fun x => (x % (p : Int)).toNat
theorem cut_len (p : Nat) (xs : List Int) : (cut p xs).length = xs.length := List.length_map ..
theorem cut_lt {p : Nat} (hp : 0 < p) {xs : List Int} : ∀ x ∈ cut p xs, x < p := fun x hx => by
  obtain ⟨y, _, rfl⟩ := List.mem_map.1 hx
  have := Int.emod_lt_of_pos y (show (0 : Int) < (p : Int) by omega)
  have := Int.emod_nonneg y (show (p : Int) ≠ 0 by omega)
  omega
theorem cut_at {p : Nat} {xs : List Int} {k : Nat} {x : Int} (h : xs[k]? = some x) : (cut p xs)[k]? = some (x % (p : Int)).toNat := by
  unfold cut
  rw [List.getElem?_map, h]
  rfl
theorem cut_app (p : Nat) (xs ys : List Int) : cut p (xs ++ ys) = cut p xs ++ cut p ys := List.map_append
end Go.Proofs.Ytmkhndajogcojaa
