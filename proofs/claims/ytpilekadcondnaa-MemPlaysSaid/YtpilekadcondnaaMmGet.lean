/-
  Contracts of the document's table: Get, Len.
  Conditions: the table is one.
-/
import Derived.Test.YtpilekadcondnaaMmSet
import Derived.Test.YtpilekadcondnaaSgGet
namespace Go.Proofs.Ytpilekadcondnaa
open Go.RowKit Go.Oct Go.Su Go.Sg

theorem cells_atM {w : World} {cs : Array Value} {e : TypeId} {j : Nat} {u : Value} (hu : cs[j]? = some u) : (w.alloc (.cells cs e)).cell? ⟨w.heap.size, j, none⟩ = some u := by
  obtain ⟨hj, hj2⟩ := Array.getElem?_eq_some_iff.1 hu
  have hv := (Vs.built w e cs.toList).2 (by simpa using by omega)
  obtain ⟨b, off, e1, _, hc⟩ := hv
  injection e1 with e1
  injection e1 with e1 e2
  subst e1 e2
  have := hc j u (by simpa using hu)
  simpa using this
section
variable {w : World} {F : Nat → Prop} {b : Nat} {ds : List Dc} {gs : List Key}
set_option maxHeartbeats 2000000 in
theorem mlen_any (h : TabD w F b ds gs) : Calls Try.prog 23 #[.pointer (some ⟨b, 0, none⟩)] w fun e w' => e = .returned (.int .i64 ((ds.length + gs.length : Nat) : Int)) ∧ Ch (fun _ => False) w w' := by
  obtain ⟨A, c, B, d, h1, h2, h3, h4, r1, r2, r3, r4⟩ := h.row
  have hf := h.few
  obtain ⟨n, hn⟩ : ∃ n, ds.length = n := ⟨_, rfl⟩
  obtain ⟨m, hm⟩ : ∃ m, gs.length = m := ⟨_, rfl⟩
  rw [hn] at h1 hf
  rw [hm] at h2 hf
  rw [hn, hm]
  clear h3 h4 r1 r2 r3 r4 hn hm h
  have hw : IntKind.i64.wrap ((n : Int) + (m : Int)) = (n : Int) + (m : Int) := IntWalk.i64_in _ (by omega)
  go_enter Try.func23, Try.ntmps23
  go_wp2_with fail
  go_quiet (fail)
  go_wp2
  go_ret
  exact ⟨by first | rfl | (simp [Int.natCast_add]), by first | exact (Ch.refl _ w).drewN _ | exact (Ch.refl _ w).drew | exact Ch.refl _ w⟩
set_option maxHeartbeats 2000000 in
theorem mget_any (h : TabD w F b ds gs) (k : Key) : Calls Try.prog 19 #[.pointer (some ⟨b, 0, none⟩), kv k] w (GetOf ds gs k w) := by
  have HH := Bx.mk h
  obtain ⟨A, c, B, d, h1, h2, h3, h4, r1, r2, r3, r4⟩ := h.row
  obtain ⟨n, hn⟩ : ∃ n, ds.length = n := ⟨_, rfl⟩
  obtain ⟨m, hm⟩ : ∃ m, gs.length = m := ⟨_, rfl⟩
  have HRS : Bx (Calls Try.prog 36 #[.pointer (some ⟨w.heap.size, 0, none⟩), kv k] (w.alloc (.cells #[.slice A n c, .slice B m d] 75)).drew (GetOf ds gs k (w.alloc (.cells #[.slice A n c, .slice B m d] 75)).drew)) := ⟨by
    refine rget_any (F := fun x => F x ∨ x = w.heap.size) ⟨A, c, B, d, ?_, ?_, ?_, ?_, r1, by unfold maxLen at r2; omega, r3, by unfold maxLen at r4; omega, .inr rfl⟩ (by have := HH.out.few; omega) (by have := HH.out.few; omega) (fun d hd => by have := HH.out.ok.len d hd; omega) k
    · rw [hn]; exact ((Ch.refl (fun _ => False) _).drew).cell (p := ⟨w.heap.size, 0, none⟩) (fun h => h) (cells_atM rfl)
    · rw [hm]; exact ((Ch.refl (fun _ => False) _).drew).cell (p := ⟨w.heap.size, 1, none⟩) (fun h => h) (cells_atM rfl)
    · exact (h3.ch (((Ch.refl (fun _ => False) w).alloc _).drew) (fun _ _ _ h => h)).mono (fun _ _ hx => .inl hx)
    · exact (h4.ch (((Ch.refl (fun _ => False) w).alloc _).drew) (fun _ _ _ h => h)).mono (fun _ _ hx => .inl hx)⟩
  rw [hn] at h1
  rw [hm] at h2
  clear h3 h4 r1 r2 r3 r4 hn hm h
  obtain ⟨V, hV⟩ : ∃ V, kv k = V := ⟨_, rfl⟩
  rw [hV] at HRS
  rw [hV]
  clear hV
  go_enter Try.func19, Try.ntmps19
  go_wp2_with fail
  go_region
  all_goals go_wp2_with fail
  refine HRS.out.mono ?_
  rintro e w' ⟨v, t, hs, kn, rfl, hf, hg⟩
  have HF := Bx.mk hf
  have HG := Bx.mk hg
  clear hf hg
  go_wp2
  go_returns
  exact ⟨v, t, hs, kn, rfl, Fresh.after (((Ch.refl (fun _ => False) w).alloc _).drew) HF.out, HG.out⟩
end
end Go.Proofs.Ytpilekadcondnaa
