/-
  The law's ops: are two ops the same?
  Conditions: their texts can be read; nothing old is turned.
-/
import Derived.Test.YtanhnaohmaepoaaOpW
namespace Go.Proofs.Ytanhnaohmaepoaa
open Go.RowKit Go.Oct Go.Su Go.Sg Go.Om

section
variable {F G : Nat → Prop}
set_option maxHeartbeats 4000000 in
theorem ops_any (a b c : Int) (k : Key) (xs : List Int) (A : Option Addr) (n d : Nat) (a' b' c' : Int) (k' : Key) (ys : List Int) (B : Option Addr) (m d' : Nat) (w : World) (hx : Sl w F .u8 A n xs) (hy : Sl w G .u8 B m ys)
    (hn : n ≤ 100000000000000) (hm : m ≤ 100000000000000) (o : Bool) (ho : decide ((⟨a, b, c, k, xs⟩ : Ao) = ⟨a', b', c', k', ys⟩) = o) :
    Calls Try.prog 15 #[.agg #[.int .i64 a, .int .i64 b, .int .i64 c, kv k, .slice A n d], .agg #[.int .i64 a', .int .i64 b', .int .i64 c', kv k', .slice B m d']] w fun e w' => e = .returned (.bool o) ∧ Ch (fun _ => False) w w' := by
  obtain ⟨S, hS⟩ : ∃ S : ByteArray, (⟨k.toArray⟩ : ByteArray) = S := ⟨_, rfl⟩
  obtain ⟨T, hT⟩ : ∃ S : ByteArray, (⟨k'.toArray⟩ : ByteArray) = S := ⟨_, rfl⟩
  have hk1 : kv k = .string S := by unfold kv; rw [hS]
  have hk2 : kv k' = .string T := by unfold kv; rw [hT]
  have hq : (S.toList == T.toList) = decide (k = k') := by rw [← hS, ← hT]; exact str_beq k k'
  rw [hk1, hk2]
  have HO : Bx (o = decide (a = a' ∧ b = b' ∧ c = c' ∧ k = k' ∧ xs = ys)) := ⟨by rw [← ho]; simp only [Ao.mk.injEq]⟩
  have HX := Bx.mk hx
  have HY := Bx.mk hy
  clear hS hT hk1 hk2 hx hy ho
  have hC : Ch (fun _ => False) w ((w.alloc (.cells #[.int .i64 a, .int .i64 b, .int .i64 c, .string S, .slice A n d] 24)).alloc (.cells #[.int .i64 a', .int .i64 b', .int .i64 c', .string T, .slice B m d'] 24)) := ((Ch.refl _ _).alloc _).alloc _
  have HC := Bx.mk hC
  clear hC
  have leaf : ∀ {x : Bool}, x = o → Bx (x = o) := fun h => ⟨h⟩
  by_cases h1 : a = a'
  case neg =>
    have e1 : (a == a') = false := by simpa using h1
    have HN : Bx (false = o) := ⟨by rw [HO.out]; exact (decide_eq_false fun h => h1 h.1).symm⟩
    clear h1 hq
    go_enter Try.func15, Try.ntmps15
    go_wp2
    go_ret
    exact ⟨ret_bool HN.out, HC.out⟩
  case pos =>
  have e1 : (a == a') = true := by simpa using h1
  by_cases h2 : b = b'
  case neg =>
    have e2 : (b == b') = false := by simpa using h2
    have HN : Bx (false = o) := ⟨by rw [HO.out]; exact (decide_eq_false fun h => h2 h.2.1).symm⟩
    clear h1 h2 hq
    go_enter Try.func15, Try.ntmps15
    go_wp2
    go_ret
    exact ⟨ret_bool HN.out, HC.out⟩
  case pos =>
  have e2 : (b == b') = true := by simpa using h2
  by_cases h3 : c = c'
  case neg =>
    have e3 : (c == c') = false := by simpa using h3
    have HN : Bx (false = o) := ⟨by rw [HO.out]; exact (decide_eq_false fun h => h3 h.2.2.1).symm⟩
    clear h1 h2 h3 hq
    go_enter Try.func15, Try.ntmps15
    go_wp2
    go_ret
    exact ⟨ret_bool HN.out, HC.out⟩
  case pos =>
  have e3 : (c == c') = true := by simpa using h3
  by_cases h4 : k = k'
  case neg =>
    have e4 : (S.toList == T.toList) = false := by rw [hq]; simpa using h4
    have HN : Bx (false = o) := ⟨by rw [HO.out]; exact (decide_eq_false fun h => h4 h.2.2.2.1).symm⟩
    clear h1 h2 h3 h4 hq
    go_enter Try.func15, Try.ntmps15
    go_wp2
    go_ret
    exact ⟨ret_bool HN.out, HC.out⟩
  case pos =>
  have e4 : (S.toList == T.toList) = true := by rw [hq]; simpa using h4
  have HN : Bx (decide (xs = ys) = o) := ⟨by rw [HO.out]; exact decide_eq_decide.2 ⟨fun h => ⟨h1, h2, h3, h4, h⟩, fun h => h.2.2.2.2⟩⟩
  clear h1 h2 h3 h4 hq
  go_enter Try.func15, Try.ntmps15
  go_wp2_with fail
  refine (same_any A B n m d d' xs ys F G _ (by omega) (by omega) (HX.out.ch HC.out (fun _ _ _ h => h)) (HY.out.ch HC.out (fun _ _ _ h => h))).mono ?_
  rintro e w1 ⟨rfl, q, rfl⟩
  have HCQ := Bx.mk (HC.out.drewN q)
  clear HX HY HC
  go_wp2
  go_ret
  exact ⟨ret_bool HN.out, HCQ.out⟩
end
end Go.Proofs.Ytanhnaohmaepoaa
