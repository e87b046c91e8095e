/-
  A Reader's state and what each taking makes of it: one set of functions for both Readers; the contracts in their words.
-/
import Derived.Test.YtanhnaohmaepoaaOcRfNum
namespace Go.Oct
/-- Of bytes that are left: the number that is taken, whether that errs, what is left then. -/
def nv (xs : List Int) : Nat := match takeN 0 0 xs with | none => 0 | some (m, _) => m
def nb (xs : List Int) : Bool := match takeN 0 0 xs with | none => true | some _ => false
def nr (xs : List Int) : List Int := match takeN 0 0 xs with | none => [] | some (_, r) => r
/-- .. the row. -/
def bv (xs : List Int) : List Int := match takeN 0 0 xs with | none => [] | some (m, r) => if r.length < m then [] else r.take m
def bb (xs : List Int) : Bool := match takeN 0 0 xs with | none => true | some (m, r) => if r.length < m then true else false
def br_ (xs : List Int) : List Int := match takeN 0 0 xs with | none => [] | some (m, r) => if r.length < m then [] else r.drop m
/-- .. so many bytes. -/
def rv (xs : List Int) (n : Int) : List Int := if n < 0 ∨ (xs.length : Int) < n then [] else xs.take n.toNat
def rb (bad : Bool) (xs : List Int) (n : Int) : Bool := if n < 0 ∨ (xs.length : Int) < n then true else bad
def rr (xs : List Int) (n : Int) : List Int := if n < 0 ∨ (xs.length : Int) < n then [] else xs.drop n.toNat
theorem nr_len (xs : List Int) : (nr xs).length ≤ xs.length := by
  unfold nr
  cases h : takeN 0 0 xs with
  | none => simp
  | some y => exact Nat.le_of_lt (Go.Proofs.Ytanhnaohmaepoaa.O.takeN_len _ _ _ _ _ h)
theorem br_len (xs : List Int) : (br_ xs).length ≤ xs.length := by
  unfold br_
  cases h : takeN 0 0 xs with
  | none => simp
  | some y =>
    obtain ⟨m, r⟩ := y
    have := Go.Proofs.Ytanhnaohmaepoaa.O.takeN_len _ _ _ _ _ h
    simp only
    split
    · simp
    · rw [List.length_drop]; omega
theorem rr_len (xs : List Int) (n : Int) : (rr xs n).length ≤ xs.length := by
  unfold rr
  split
  · simp
  · rw [List.length_drop]; omega
end Go.Oct
namespace Go.Proofs.Ytanhnaohmaepoaa.O
open Go.RowKit Go.Oct
section
variable {Q : Nat → Prop}
theorem num_step (br : Nat) (bad : Bool) (xs : List Int) (w : World) (hr : RdQ Q w br bad xs) :
    Calls Try.prog 41 #[.pointer (some ⟨br, 0, none⟩)] w fun e w' => e = .returned (.int .i64 (nv xs)) ∧ RdQ Q w' br (nb xs) (nr xs) ∧ Ch (RS br) w w' :=
  (num_any br bad xs w hr).mono fun e w' h => by
    unfold NumPost at h
    unfold nv nb nr
    cases ht : takeN 0 0 xs with
    | none => rw [ht] at h; exact h
    | some y => rw [ht] at h; exact h
theorem rfnum_step (bf : Nat) (bad : Bool) (xs : List Int) (w : World) (hm : xs.length ≤ 100000) (hr : Rf Q w bf bad xs) :
    Calls Try.prog 38 #[.pointer (some ⟨bf, 0, none⟩)] w fun e w' => e = .returned (.int .i64 (nv xs)) ∧ Rf Q w' bf (nb xs) (nr xs) ∧ Ch (RS bf) w w' :=
  (rfnum_any bf bad xs w hr (by omega)).mono fun e w' h => by
    unfold RfPost at h
    unfold nv nb nr
    cases ht : takeN 0 0 xs with
    | none => rw [ht] at h; exact h
    | some y => rw [ht] at h; exact h
theorem row_nil (w w' : World) : Row w (.slice none 0 0) [] w' := ⟨World.ownsRow_nil _ _ _ _, fun g hg => by simp [Value.ownBlock] at hg⟩
theorem bytes_step (br : Nat) (bad : Bool) (xs : List Int) (w : World) (hm : xs.length ≤ 100000) (hr : RdQ Q w br bad xs) :
    Calls Try.prog 36 #[.pointer (some ⟨br, 0, none⟩)] w fun e w' => ∃ v, e = .returned v ∧ Row w v (bv xs) w' ∧ RdQ Q w' br (bb xs) (br_ xs) ∧ Ch (RS br) w w' :=
  (rbytes_any br bad xs w hr (by omega)).mono fun e w' h => by
    unfold RowPost at h
    unfold bv bb br_
    cases ht : takeN 0 0 xs with
    | none =>
      rw [ht] at h
      exact ⟨_, h.1, row_nil _ _, h.2.1, h.2.2⟩
    | some y =>
      obtain ⟨m, r⟩ := y
      rw [ht] at h
      by_cases hlt : r.length < m
      · simp only [if_pos hlt] at h ⊢
        exact ⟨_, h.1, row_nil _ _, h.2.1, h.2.2⟩
      · simp only [if_neg hlt] at h ⊢
        exact h
theorem rfbytes_step (bf : Nat) (bad : Bool) (xs : List Int) (w : World) (hm : xs.length ≤ 100000) (hr : Rf Q w bf bad xs) :
    Calls Try.prog 39 #[.pointer (some ⟨bf, 0, none⟩)] w fun e w' => ∃ v, e = .returned v ∧ Row w v (bv xs) w' ∧ Rf Q w' bf (bb xs) (br_ xs) ∧ Ch (RS bf) w w' :=
  (rfbytes_any bf bad xs w hr (by omega)).mono fun e w' h => by
    unfold RfRow at h
    unfold bv bb br_
    cases ht : takeN 0 0 xs with
    | none =>
      rw [ht] at h
      exact ⟨_, h.1, row_nil _ _, h.2.1, h.2.2⟩
    | some y =>
      obtain ⟨m, r⟩ := y
      rw [ht] at h
      by_cases hlt : r.length < m
      · simp only [if_pos hlt] at h ⊢
        exact ⟨_, h.1, row_nil _ _, h.2.1, h.2.2⟩
      · simp only [if_neg hlt] at h ⊢
        exact h
theorem raw_step (br : Nat) (bad : Bool) (xs : List Int) (n : Int) (w : World) (hm : xs.length ≤ 100000) (hr : RdQ Q w br bad xs) :
    Calls Try.prog 49 #[.pointer (some ⟨br, 0, none⟩), .int .i64 n] w fun e w' => ∃ v, e = .returned v ∧ Row w v (rv xs n) w' ∧ RdQ Q w' br (rb bad xs n) (rr xs n) ∧ Ch (RS br) w w' := by
  unfold rv rb rr
  by_cases h : n < 0 ∨ (xs.length : Int) < n
  · simp only [if_pos h]
    exact (rraw_no br bad xs n w hr h).mono fun e w' ⟨he, h1, h2⟩ => ⟨_, he, row_nil _ _, h1, h2⟩
  · simp only [if_neg h]
    obtain ⟨k, rfl⟩ := Int.cast_of (show 0 ≤ n by omega)
    rw [Int.toNat_natCast]
    by_cases h0 : k = 0
    · subst h0
      exact (rraw_zero br bad xs w hr).mono fun e w' ⟨he, hw⟩ => ⟨_, he, by simpa using row_nil _ _, by rw [← hw]; simpa using hr, by rw [← hw]; exact Ch.refl _ _⟩
    · cases bad
      · exact rraw_some br xs k w hr (by omega) (by omega) (by omega)
      · obtain rfl := hr.nil_
        simp only [List.length_nil] at h
        omega
theorem rfraw_step (bf : Nat) (bad : Bool) (xs : List Int) (n : Int) (w : World) (hm : xs.length ≤ 100000) (hr : Rf Q w bf bad xs) :
    Calls Try.prog 51 #[.pointer (some ⟨bf, 0, none⟩), .int .i64 n] w fun e w' => ∃ v, e = .returned v ∧ Row w v (rv xs n) w' ∧ Rf Q w' bf (rb bad xs n) (rr xs n) ∧ Ch (RS bf) w w' := by
  unfold rv rb rr
  by_cases h : n < 0 ∨ (xs.length : Int) < n
  · simp only [if_pos h]
    exact (rfraw_no bf bad xs n w hr h).mono fun e w' ⟨he, h1, h2⟩ => ⟨_, he, row_nil _ _, h1, h2⟩
  · simp only [if_neg h]
    obtain ⟨k, rfl⟩ := Int.cast_of (show 0 ≤ n by omega)
    rw [Int.toNat_natCast]
    cases bad
    · exact rfraw_yes bf xs k w hr (by omega) (by omega)
    · obtain rfl := hr.nil_
      obtain rfl : k = 0 := by simp only [List.length_nil] at h; omega
      exact (rfraw_err bf w hr).mono fun e w' ⟨he, hw⟩ => ⟨_, he, row_nil _ _, by rw [← hw]; exact hr, by rw [← hw]; exact Ch.refl _ _⟩
end
end Go.Proofs.Ytanhnaohmaepoaa.O
