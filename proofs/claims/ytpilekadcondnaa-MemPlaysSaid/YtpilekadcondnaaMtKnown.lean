/-
  The contract of haystacklaw12.known: true.
  Conditions: bytealg.MaxLen's cell holds some number.
-/
import Derived.Test.YtpilekadcondnaaMtLaw
import Derived.Lib.SlBytesConst
import Derived.Lib.SmallJoins
namespace Go.Proofs.Ytpilekadcondnaa
open Go.RowKit Go.Oct Go.Su Go.Sg Go.Mt Go.Maps

section
variable {w w0 wr w2 : World} {s s' : List Dc × List Key} {t : Nat}
theorem NewTab.keep (h : NewTab s t w wr) (hc : Ch (fun _ => False) wr w2) : NewTab s t w w2 := by
  obtain ⟨P, h1, h2, h3⟩ := h
  exact ⟨P, h1.keep hc, h2, h3.trans hc (fun _ _ h => h)⟩
theorem NewTab.base (hc : Ch (fun _ => False) w0 w) (h : NewTab s t w wr) : NewTab s t w0 wr := by
  obtain ⟨P, h1, h2, h3⟩ := h
  exact ⟨P, h1, fun x hx => Nat.le_trans hc.size (h2 x hx), hc.trans h3 (fun _ _ h => h)⟩
theorem NewTab.ch (h : NewTab s t w wr) : Ch (fun _ => False) w wr := by
  obtain ⟨P, h1, h2, h3⟩ := h
  exact h3
/-- A call of one of the table's functions. -/
theorem NewTab.step {f : Nat} {args : Array Value} {r : Int} (h : NewTab s t w wr) (hk : ∀ P, TabP wr P t s.1 s.2 → Calls Try.prog f args wr fun e w' => e = .returned (.int .i64 r) ∧ MPost s' t wr P w') : Calls Try.prog f args wr fun e w' => e = .returned (.int .i64 r) ∧ NewTab s' t w w' := by
  obtain ⟨P, h1, h2, h3⟩ := h
  refine (hk P h1).mono fun e w' ⟨he, P', k1, k2, k3⟩ => ⟨he, P', k1, fun x hx => ?_, h3.trans k3 (fun i hi hp => ?_)⟩
  · rcases k2 x hx with h | h
    · exact h2 x h
    · exact Nat.le_trans h3.size h
  · have := h2 i hp
    omega
end
def kDocs : List Dc := [([98], [97, 97])]
def kMats : List (Key × Nat) := [([98], 0), ([98], 1)]
theorem k_news : tNews ([], []) kDocs = (kDocs, []) := by decide +kernel
theorem k_del : tDel (kDocs, []) [99] = (0, (kDocs, [[99]])) := by decide +kernel
theorem k_finds : finds kDocs [97] = kMats := by decide +kernel
theorem k_mats (w : World) : Mts (w.alloc (.cells #[.string ⟨#[98]⟩, .int .i64 0, .string ⟨#[98]⟩, .int .i64 1] 61)) (fun _ => True) (some ⟨w.heap.size, 0, none⟩) 2 kMats := by
  refine ⟨rfl, fun _ => ⟨w.heap.size, 0, rfl, trivial, fun j a ha => ?_⟩⟩
  match j, ha with
  | 0, ha =>
    simp [kMats] at ha
    subst ha
    refine ⟨[kv [98], .int .i64 0], rfl, rfl, fun i u hu => ?_⟩
    match i, hu with
    | 0, hu => simp at hu; subst hu; exact (World.cell?_alloc_at _ _ _ _ rfl).trans rfl
    | 1, hu => simp at hu; subst hu; exact (World.cell?_alloc_at _ _ _ _ rfl).trans rfl
  | 1, ha =>
    simp [kMats] at ha
    subst ha
    refine ⟨[kv [98], .int .i64 1], rfl, rfl, fun i u hu => ?_⟩
    match i, hu with
    | 0, hu => simp at hu; subst hu; exact (World.cell?_alloc_at _ _ _ _ rfl).trans rfl
    | 1, hu => simp at hu; subst hu; exact (World.cell?_alloc_at _ _ _ _ rfl).trans rfl
theorem k_built (w3 : World) (b1 : Nat) (h1 : Sl w3 (fun _ => True) .u8 (some ⟨b1, 0, none⟩) 2 [97, 97]) :
    Dcs (w3.alloc (.cells #[.string ⟨#[98]⟩, .slice (some ⟨b1, 0, none⟩) 2 2] 34)) (fun _ => True) (some ⟨w3.heap.size, 0, none⟩) 1 kDocs := by
  refine ⟨rfl, fun _ => ⟨w3.heap.size, 0, rfl, trivial, fun j a ha => ?_⟩⟩
  match j, ha with
  | 0, ha =>
    simp [kDocs] at ha
    subst ha
    refine ⟨[kv [98], .slice (some ⟨b1, 0, none⟩) 2 2], rfl, ⟨_, 2, rfl, h1.alloc _, Nat.le_refl _, by unfold maxLen; decide⟩, fun i u hu => ?_⟩
    match i, hu with
    | 0, hu => simp at hu; subst hu; exact (World.cell?_alloc_at _ _ _ _ rfl).trans rfl
    | 1, hu => simp at hu; subst hu; exact (World.cell?_alloc_at _ _ _ _ rfl).trans rfl
theorem mlawmatches_yes {F G : Nat → Prop} (a : List (Key × Nat)) (A B : Option Addr) (n m c d : Nat) (w : World) (hz : Mts w F A n a) (hy : Mts w G B m a) (hn : n ≤ 9223372036854775806) :
    Calls Try.prog 15 #[.slice A n c, .slice B m d] w fun e w' => e = .returned (.bool true) ∧ Ch (fun _ => False) w w' :=
  (lawmatches_any a a A B n m c d w hz hy hn true (by simp)).mono fun e w' ⟨h1, q, h2⟩ => ⟨h1, by rw [h2]; exact (Ch.refl _ w).drewN q⟩
set_option maxHeartbeats 4000000 in
set_option maxRecDepth 100000 in
theorem mknown_any (w : World) (hmx : ∃ m, w.cell? ⟨0, 0, none⟩ = some (.int .i64 m)) : Calls Try.prog 7 #[] w fun e w' => e = .returned (.bool true) ∧ Ch (fun _ => False) w w' := by
  have kc := fun (w : World) (C : Array Value) (n c : Nat) => Lib.run_convert_bytes_const (P := Try.prog) w 30 5 C n c Try.underlying30 Try.underlying5
  have hr1 : Sl (w.alloc (.cells #[.int .u8 97, .int .u8 97] 5 (2, 3))) (fun _ => True) .u8 (some ⟨w.heap.size, 0, none⟩) 2 [97, 97] :=
    (Vs.built w 5 [.int .u8 97, .int .u8 97] (2, 3)).mono fun _ _ _ => trivial
  obtain ⟨w1, hw1⟩ : ∃ w1, w.alloc (.cells #[.int .u8 97, .int .u8 97] 5 (2, 3)) = w1 := ⟨_, rfl⟩
  have hC1 : Ch (fun _ => False) w w1 := by rw [← hw1]; exact (Ch.refl (fun _ => False) w).alloc _
  rw [hw1] at hr1
  have hd := k_built w1 w.heap.size hr1
  obtain ⟨w2, hw2⟩ : ∃ w2, w1.alloc (.cells #[.string ⟨#[98]⟩, .slice (some ⟨w.heap.size, 0, none⟩) 2 2] 34) = w2 := ⟨_, rfl⟩
  have hC2 : Ch (fun _ => False) w w2 := by rw [← hw2]; exact hC1.alloc _
  rw [hw2] at hd
  have hmx2 : ∃ m, w2.cell? ⟨0, 0, none⟩ = some (.int .i64 m) := by
    obtain ⟨m, hm⟩ := hmx
    exact ⟨m, hC2.cell (p := ⟨0, 0, none⟩) (fun h => h) hm⟩
  have hnew := mnew_any kDocs _ 1 1 w2 hd (by omega) (by
    intro d hd
    simp [kDocs] at hd
    subst hd
    exact ⟨by decide, by intro x hx; simp at hx; omega⟩) hmx2
  rw [k_news] at hnew
  have HNEW := Bx.mk hnew
  have HC2 := Bx.mk hC2
  have HMS := Bx.mk k_mats
  obtain ⟨DS, hDS⟩ : ∃ DS, kDocs = DS := ⟨_, rfl⟩
  obtain ⟨GS, hGS⟩ : ∃ GS : List Key, [[99]] = GS := ⟨_, rfl⟩
  obtain ⟨MS, hMS⟩ : ∃ MS, kMats = MS := ⟨_, rfl⟩
  have HDEL : Bx (tDel (DS, []) [99] = (0, (DS, GS))) := ⟨by rw [← hDS, ← hGS]; exact k_del⟩
  have HFI : Bx (finds DS [97] = MS) := ⟨by rw [← hDS, ← hMS]; exact k_finds⟩
  have HLEN : Bx (DS.length = 1 ∧ GS.length = 1 ∧ beg (ts DS) DS.length ≤ 1048576) := ⟨by rw [← hDS, ← hGS]; exact ⟨rfl, rfl, by decide⟩⟩
  have HML : Bx (MS.length = 2) := ⟨by rw [← hMS]; rfl⟩
  rw [hDS] at HNEW
  rw [hMS] at HMS
  clear hr1 hd hmx2 hmx hnew hDS hGS hMS hC1 hC2
  have hk98 : kv [98] = .string ⟨#[98]⟩ := rfl
  have hk99 : kv [99] = .string ⟨#[99]⟩ := rfl
  have HD2 : Bx (∀ (t : Nat) (W : World), NewTab (DS, []) t w2 W → Calls Try.prog 13 #[.pointer (some ⟨t, 0, none⟩), .string ⟨#[99]⟩] W fun e w' => e = .returned (.int .i64 0) ∧ NewTab (DS, GS) t w2 w') := ⟨fun t W hN => hN.step fun P hT => by
    have := mdel_any hT [99] (by decide) (by rw [HLEN.out.1]; show 1 + 0 < 1000000; decide)
    rw [HDEL.out] at this
    exact this⟩
  clear HDEL hk98 hk99
  go_enter Try.func7, Try.ntmps7
  go_wp2_with fail
  refine HNEW.out.mono ?_
  rintro e w3 ⟨rfl, hN⟩
  have HD3 := Bx.mk (HD2.out _ _ hN)
  clear hN HNEW HD2 hw1 hw2
  obtain ⟨t, ht⟩ : ∃ t, w2.heap.size = t := ⟨_, rfl⟩
  rw [ht] at HD3 ⊢
  clear ht
  go_wp2_with fail
  refine HD3.out.mono ?_
  rintro e w4 ⟨rfl, hN⟩
  have HN4 := Bx.mk hN
  clear HD3 hN
  go_wp2_with fail
  have hr6 : Sl (w4.alloc (.cells #[.int .u8 97] 5 (1, 2))) (fun _ => True) .u8 (some ⟨w4.heap.size, 0, none⟩) 1 [97] :=
    (Vs.built w4 5 [.int .u8 97] (1, 2)).mono fun _ _ _ => trivial
  have HN5 := Bx.mk (HN4.out.keep ((Ch.refl (fun _ => False) w4).alloc (.cells #[.int .u8 97] 5 (1, 2))))
  generalize w4.alloc (.cells #[.int .u8 97] 5 (1, 2)) = w5 at *
  have HF : Bx (Calls Try.prog 16 #[.pointer (some ⟨t, 0, none⟩), .slice (some ⟨w4.heap.size, 0, none⟩) 1 1] w5 (FindsOf MS w5)) := ⟨by
    obtain ⟨P, hT, _, _⟩ := HN5.out
    have := mfind_any hT [97] (some ⟨w4.heap.size, 0, none⟩) 1 1 hr6 (by intro x hx; simp at hx; omega) HLEN.out.2.2 (by omega)
    rw [HFI.out] at this
    exact this⟩
  clear hr6 HN4
  refine HF.out.mono ?_
  rintro e w7 ⟨A7, n7, c7, rfl, hM, h71, h72, hC7⟩
  have HM := Bx.mk hM
  have HN7 := Bx.mk (HN5.out.keep hC7)
  clear hM hC7 HF HN5
  go_wp2_with fail
  have hC8 : Ch (fun _ => False) w7 (w7.alloc (.cells #[.string ⟨#[98]⟩, .int .i64 0, .string ⟨#[98]⟩, .int .i64 1] 61)) := (Ch.refl (fun _ => False) w7).alloc _
  have HLM := Bx.mk (mlawmatches_yes MS A7 _ n7 2 c7 2 _ (HM.out.ch hC8 (fun _ _ _ h => h)) (HMS.out w7) (by have h1 : MS.length = n7 := Ro.len HM.out; have := HML.out; omega))
  have HN8 := Bx.mk (HN7.out.keep hC8)
  clear hC8 HN7 HM HMS
  generalize w7.alloc (.cells #[.string ⟨#[98]⟩, .int .i64 0, .string ⟨#[98]⟩, .int .i64 1] 61) = w8 at *
  refine HLM.out.mono ?_
  rintro e w9 ⟨rfl, hC9⟩
  have HN9 := Bx.mk (HN8.out.keep hC9)
  have HLE : Bx (Calls Try.prog 22 #[.pointer (some ⟨t, 0, none⟩)] w9 fun e w' => e = .returned (.int .i64 2) ∧ w9 = w') := ⟨by
    obtain ⟨P, hT, _, _⟩ := HN9.out
    have := mlenp_any hT
    have e2 : DS.length + GS.length = 2 := by rw [HLEN.out.1, HLEN.out.2.1]
    rw [e2] at this
    exact this⟩
  clear hC9 HLM HN8
  go_wp2_with fail
  refine HLE.out.mono ?_
  rintro e w10 ⟨rfl, rfl⟩
  go_wp2
  go_ret
  exact ⟨rfl, HC2.out.trans HN9.out.ch (fun _ _ h => h)⟩
end Go.Proofs.Ytpilekadcondnaa
