/-
  Words of OpDecodes: what both answers tell of bytes, the same; facts that new memory alone does not turn. Conditions: none of their own.
-/
import Derived.Test.YtanhnaohmaepoaaOpDec
import Derived.Test.YtanhnaohmaepoaaOpDecR
import Derived.Test.YtanhnaohmaepoaaOpDecM
import Derived.Test.YtanhnaohmaepoaaOpDRep
import Derived.Test.YtanhnaohmaepoaaOpLawW
namespace Go.Proofs.Ytanhnaohmaepoaa
open Go.RowKit Go.Oct Go.Su Go.Sg Go.Om

/-- What stands in each world that comes of this one by new memory alone. -/
def Kp (P : World → Prop) (w : World) : Prop := ∀ w', Ch (fun _ => False) w w' → P w'
section
variable {P Q : World → Prop} {w w' : World}
theorem Kp.now (h : Kp P w) : P w := h w (Ch.refl _ _)
theorem Kp.next (h : Kp P w) (hc : Ch (fun _ => False) w w') : Kp P w' := fun u hu => h u (hc.trans hu (fun _ _ h => h))
theorem Kp.and (h : Kp P w) (k : Kp Q w) : Kp (fun w => P w ∧ Q w) w := fun u hu => ⟨h u hu, k u hu⟩
theorem Kp.opb {bo : Nat} {a b c : Int} {k x : Value} (h : OpB w bo a b c k x) : Kp (fun w => OpB w bo a b c k x) w := fun _ hu => h.ch hu (fun h => h)
theorem Kp.rpb {b : Nat} {z : Int} {v : Value} (h : RpB w b z v) : Kp (fun w => RpB w b z v) w := fun _ hu => h.ch hu (fun h => h)
theorem Kp.sl {F : Nat → Prop} {K : IntKind} {A : Option Addr} {n : Nat} {xs : List Int} (h : Sl w F K A n xs) : Kp (fun w => Sl w F K A n xs) w := fun _ hu => h.ch hu (fun _ _ _ h => h)
theorem Kp.mts {F : Nat → Prop} {A : Option Addr} {n : Nat} {l : List (Key × Int)} (h : Mts w F A n l) : Kp (fun w => Mts w F A n l) w := fun _ hu => h.ch hu (fun _ _ _ h => h)
theorem Kp.own {e : TypeId} {n : Nat} {v : Value} {us : List Value} (h : w.ownsRow 0 e 1 v n us) : Kp (fun w => w.ownsRow 0 e 1 v n us) w := fun _ hu => hu.own h (fun _ _ h => h)
end
/-! ### replies -/
/-- A reply that bytes are, or none and an error. -/
def TellR (xs : List Int) (er : Int) (l : List Int) (code : Int) : Prop :=
  (code = 0 ∧ ∃ (e : Nat) (m : List Nat), GoodR e m xs ∧ er = (e : Int) ∧ l = m.map (fun x : Nat => (x : Int))) ∨ (code = 3 ∧ er = 0 ∧ l = [] ∧ ∀ e m, ¬ GoodR e m xs)
theorem TellR.same {xs l l' : List Int} {er er' c c' : Int} (h : TellR xs er l c) (h' : TellR xs er' l' c') : er = er' ∧ l = l' ∧ c = c' := by
  rcases h with ⟨e1, a, m, hg, e2, e3⟩ | ⟨e1, e2, e3, hno⟩ <;> rcases h' with ⟨e1', a', m', hg', e2', e3'⟩ | ⟨e1', e2', e3', hno'⟩
  · obtain ⟨rfl, rfl⟩ := hg.uniq hg'
    exact ⟨by rw [e2, e2'], by rw [e3, e3'], by rw [e1, e1']⟩
  · exact absurd hg (hno' _ _)
  · exact absurd hg' (hno _ _)
  · exact ⟨by rw [e2, e2'], by rw [e3, e3'], by rw [e1, e1']⟩
theorem TellR.code {xs l : List Int} {er c : Int} (h : TellR xs er l c) : c = 0 ∨ c = 3 := by
  rcases h with ⟨e1, _⟩ | ⟨e1, _⟩
  · exact .inl e1
  · exact .inr e1
theorem TellR.back {xs l : List Int} {er : Int} (h : TellR xs er l 0) : repB er l = xs ∧ l.length ≤ 8 := by
  rcases h with ⟨_, e, m, hg, e2, e3⟩ | ⟨e1, _⟩
  · rw [e2, e3]
    exact ⟨goodR_repB hg, by rw [List.length_map]; exact hg.few⟩
  · omega
theorem vals_sl {w : World} {F : Nat → Prop} {A : Option Addr} {n : Nat} {m : List Nat} (h : Vs w F A n (vals m)) : Sl w F .i64 A n (m.map (fun x : Nat => (x : Int))) := by
  unfold Sl
  have e : vals m = (m.map (fun x : Nat => (x : Int))).map (Value.int .i64) := by
    unfold vals
    simp [Function.comp_def]
  rw [← e]
  exact h
/-- What was told, and where it lies. -/
structure VR (xs : List Int) (w w' : World) (er : Int) (l : List Int) (A : Option Addr) (k c : Nat) (code : Int) : Prop where
  tell : TellR xs er l code
  row : Sl w' (fun b => w.heap.size ≤ b) .i64 A k l
  ch : Ch (fun _ => False) w w'
  len : l.length = k
  le : k ≤ c
  cap : c ≤ maxLen
theorem PRepPost.view {xs : List Int} {w w' : World} {e : Ending} (h : PRepPost xs w e w') : ∃ (er : Int) (l : List Int) (A : Option Addr) (k c : Nat) (code : Int), e = .returned (.tuple #[.agg #[.int .i64 er, .slice A k c], .int .i64 code]) ∧ VR xs w w' er l A k c code := by
  rcases h with ⟨er, l, A, c, hg, he, hr⟩ | ⟨hno, he, hc⟩
  · obtain ⟨A', c', ee, h1, h2⟩ := hr.shape
    injection ee with _ _ ee
    subst ee
    exact ⟨er, _, A, l.length, c, 0, he, .inl ⟨rfl, er, l, hg, rfl, rfl⟩, vals_sl hr.vs, hr.ch, by simp, h1, h2⟩
  · exact ⟨0, [], none, 0, 0, 3, he, .inr ⟨rfl, rfl, rfl, hno⟩, Sl.nil _ _ _ _, hc, rfl, Nat.le_refl _, Nat.zero_le _⟩
theorem DRepPost.view {xs : List Int} {w w' : World} {e : Ending} (h : DRepPost xs w e w') : ∃ (er : Int) (l : List Int) (A : Option Addr) (k c : Nat) (code : Int), e = .returned (.tuple #[.int .i64 er, .slice A k c, .int .i64 code]) ∧ VR xs w w' er l A k c code := by
  rcases h with ⟨er, l, A, c, hg, he, hr⟩ | ⟨hno, he, hc⟩
  · obtain ⟨A', c', ee, h1, h2⟩ := hr.shape
    injection ee with _ _ ee
    subst ee
    exact ⟨er, _, A, l.length, c, 0, he, .inl ⟨rfl, er, l, hg, rfl, rfl⟩, vals_sl hr.vs, hr.ch, by simp, h1, h2⟩
  · exact ⟨0, [], none, 0, 0, 3, he, .inr ⟨rfl, rfl, rfl, hno⟩, Sl.nil _ _ _ _, hc, rfl, Nat.le_refl _, Nat.zero_le _⟩
/-! ### places -/
/-- Places that bytes are, or none and an error. -/
def TellM (xs : List Int) (l : List (Key × Int)) (code : Int) : Prop := (code = 0 ∧ GoodM l xs) ∨ (code = 3 ∧ l = [] ∧ ∀ m, ¬ GoodM m xs)
theorem TellM.same {xs : List Int} {l l' : List (Key × Int)} {c c' : Int} (h : TellM xs l c) (h' : TellM xs l' c') : l = l' ∧ c = c' := by
  rcases h with ⟨e1, hg⟩ | ⟨e1, e3, hno⟩ <;> rcases h' with ⟨e1', hg'⟩ | ⟨e1', e3', hno'⟩
  · exact ⟨hg.uniq hg', by rw [e1, e1']⟩
  · exact absurd hg (hno' _)
  · exact absurd hg' (hno _)
  · exact ⟨by rw [e3, e3'], by rw [e1, e1']⟩
theorem TellM.code {xs : List Int} {l : List (Key × Int)} {c : Int} (h : TellM xs l c) : c = 0 ∨ c = 3 := by
  rcases h with ⟨e1, _⟩ | ⟨e1, _⟩
  · exact .inl e1
  · exact .inr e1
theorem TellM.back {xs : List Int} {l : List (Key × Int)} (h : TellM xs l 0) : matB l = xs ∧ GoodM l xs := by
  rcases h with ⟨_, hg⟩ | ⟨e1, _⟩
  · exact ⟨goodM_matB hg, hg⟩
  · omega
structure VM (xs : List Int) (w w' : World) (l : List (Key × Int)) (A : Option Addr) (k c : Nat) (code : Int) : Prop where
  tell : TellM xs l code
  row : Mts w' (fun b => w.heap.size ≤ b) A k l
  ch : Ch (fun _ => False) w w'
  len : l.length = k
theorem DMatPost.tells {xs : List Int} {w w' : World} {e : Ending} (h : DMatPost xs w e w') : ∃ (l : List (Key × Int)) (A : Option Addr) (k c : Nat) (code : Int), e = .returned (.tuple #[.slice A k c, .int .i64 code]) ∧ VM xs w w' l A k c code := by
  rcases h with ⟨l, A, c, hg, he, hr⟩ | ⟨hno, he, hc⟩
  · exact ⟨l, A, l.length, c, 0, he, .inl ⟨rfl, hg⟩, Gs.mts hr rfl, hr.ch, rfl⟩
  · exact ⟨[], none, 0, 0, 3, he, .inr ⟨rfl, rfl, hno⟩, Ro.nil _ _ _ _ _, hc, rfl⟩
theorem decE_two (xs : List Int) : decE xs = 0 ∨ decE xs = 3 := by
  unfold decE
  split
  · exact .inl rfl
  · exact .inr rfl
theorem goodM_small {l : List (Key × Int)} {xs : List Int} (h : GoodM l xs) : l.length * 3 ≤ xs.length ∧ (l.flatMap mB).length ≤ xs.length := by
  have h1 := mat_three l h.ok
  have h2 : (l.flatMap mB).length ≤ xs.length := by
    rw [h.eq, List.length_append]
    omega
  omega
theorem decO_len (xs : List Int) : (decO xs).key.length ≤ xs.length ∧ (decO xs).txt.length ≤ xs.length := by
  unfold decO
  split
  · exact takO_len xs
  · exact ⟨Nat.zero_le _, Nat.zero_le _⟩
theorem TellM.small {xs : List Int} {l : List (Key × Int)} {c : Int} (h : TellM xs l c) : l.length ≤ xs.length ∧ (l.flatMap mB).length ≤ xs.length := by
  rcases h with ⟨_, hg⟩ | ⟨_, e, _⟩
  · have := goodM_small hg
    omega
  · rw [e]
    exact ⟨Nat.zero_le _, Nat.zero_le _⟩
theorem TellR.small {xs l : List Int} {er c : Int} (h : TellR xs er l c) : l.length ≤ 8 := by
  rcases h with ⟨_, e, m, hg, _, e3⟩ | ⟨_, _, e, _⟩
  · rw [e3, List.length_map]
    exact hg.few
  · rw [e]
    exact Nat.zero_le _
theorem dec_back {xs : List Int} (hb : Byt xs) (h : decE xs = 0) : errO (decO xs) = 0 ∧ encO (decO xs) = xs := by
  obtain ⟨h1, h2⟩ := dec_inv hb h
  refine ⟨h1, ?_⟩
  unfold encO
  rw [if_pos h1]
  exact h2
end Go.Proofs.Ytanhnaohmaepoaa
