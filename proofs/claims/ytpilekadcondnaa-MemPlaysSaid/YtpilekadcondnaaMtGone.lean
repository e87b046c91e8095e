/-
  Contracts of the program's table: keys, Gone.
  Conditions: the table is one.
-/
import Derived.Test.YtpilekadcondnaaMtSorted
namespace Go.Proofs.Ytpilekadcondnaa
open Go.RowKit Go.Oct Go.Su Go.Sg Go.Mt Go.Maps Go.Sort Go.Shelf

section
variable {w w1 w2 w' W W' : World} {P S F FA : Nat → Prop} {t bp bb : Nat} {mb : Option Nat} {ks gs gs' : List Key} {vf : Key → Value} {ds ds' : List Dc} {k : Key} {v : Value} {has : Bool}
theorem KeysOf.after {l : List Key} {w w0 w' : World} {e : Ending} (h0 : Ch (fun _ => False) w w0) (h : KeysOf l w0 e w') : KeysOf l w e w' := by
  obtain ⟨A, n, c, e1, hg, r⟩ := h
  exact ⟨A, n, c, e1, ⟨hg.own, fun g hgg => Nat.le_trans h0.size (hg.lies g hgg), h0.trans hg.ch (fun _ _ h => h)⟩, r⟩
/-- The keys that have a text, or those that are gone. -/
def keysOf (has : Bool) (ds : List Dc) (gs : List Key) : List Key := if has then ds.map (·.1) else gs
theorem keys_filter (ok : TabOk ds gs) (hr : RiseF id ks) (h : ks.Perm (ds.map (·.1) ++ gs)) (has : Bool) : (ks.filter fun k => !(isDoc ds k != has)) = keysOf has ds gs := by
  cases has with
  | true =>
    have e := keys_docs ok hr h
    unfold keysOf
    rw [if_pos rfl, ← e]
    refine List.filter_congr fun k _ => ?_
    unfold isDoc
    simp
  | false =>
    have e := keys_gone ok hr h
    unfold keysOf
    rw [if_neg (by decide), ← e]
    refine List.filter_congr fun k _ => ?_
    unfold isDoc
    simp
set_option maxRecDepth 100000 in
set_option maxHeartbeats 2000000 in
theorem mkeys_any (h : TabP w P t ds gs) (has : Bool) : Calls Try.prog 33 #[.pointer (some ⟨t, 0, none⟩), .bool has] w (KeysOf (keysOf has ds gs) w) := by
  obtain ⟨mb, ks, vf, c0, he⟩ := h.row
  have H := Bx.mk h
  have htl := h.lt_t
  obtain ⟨w1, hw1⟩ : ∃ w1, w.alloc (.cells #[.pointer (some ⟨t, 0, none⟩)] 36) = w1 := ⟨_, rfl⟩
  have hs1 : w1.heap.size = w.heap.size + 1 := by rw [← hw1, World.size_alloc]
  obtain ⟨w2, hw2⟩ : ∃ w2, w1.alloc (.cells #[.bool has] 4) = w2 := ⟨_, rfl⟩
  have hs2 : w2.heap.size = w.heap.size + 2 := by rw [← hw2, World.size_alloc, hs1]
  have hc1 : Ch (fun _ => False) w w1 := by rw [← hw1]; exact (Ch.refl _ _).alloc _
  have hc2 : Ch (fun _ => False) w1 w2 := by rw [← hw2]; exact (Ch.refl _ _).alloc _
  have hcc := hc1.trans hc2 (fun _ _ h => h)
  have hal : (w.alloc (.cells #[.pointer (some ⟨t, 0, none⟩)] 36)).heap.size = w.heap.size + 1 := World.size_alloc _ _
  have cp : w2.cell? ⟨w.heap.size, 0, none⟩ = some (.pointer (some ⟨t, 0, none⟩)) := hc2.cell (fun h => h) (by rw [← hw1]; exact ncells_at (j := 0) rfl)
  have cb : w2.cell? ⟨w.heap.size + 1, 0, none⟩ = some (.bool has) := by rw [← hw2, ← hs1]; exact ncells_at (j := 0) rfl
  have ct := hcc.cell (p := ⟨t, 0, none⟩) (fun h => h) c0
  have hE2 := he.ch hcc (fun _ _ h => h)
  have hkl : ∀ k ∈ ks, k.length ≤ maxLen := fun k hk => by
    have hle : k.length ≤ 64 := by
      rcases he.mem.1 hk with ⟨d, hd, rfl⟩ | hk
      · exact (h.ok.dk d hd).2
      · exact (h.ok.gk k hk).2
    unfold maxLen
    omega
  have hfew : ks.length ≤ 1000000 := by rw [he.len]; exact h.few
  have HKF := Bx.mk (mkeysf_any mb w2)
  have HSO := Bx.mk (msorted_any hE2 hfew)
  have HDE : Bx (∀ (W : World) (A1 : Option Addr) (m c1 : Nat), Gs 9 1 w2 W (.slice A1 m c1) m (ks.map kv) → Calls Try.prog 38 #[.slice A1 m c1, .func (.func 37) #[] #[.pointer (some ⟨w.heap.size, 0, none⟩), .pointer (some ⟨w.heap.size + 1, 0, none⟩)]] W (KeysOf (keysOf has ds gs) w2)) := ⟨fun W A1 m c1 hg => by
    have hm : m = ks.length := by have := hg.own.1; simp at this; omega
    rw [← keys_filter H.out.ok he.rise he.perm has]
    refine mdelf_any (KC.ch (S := fun _ => False) ⟨cp, cb, ct, hE2, H.out.ok⟩ hg.ch (fun h => h) (fun h => h) (fun h => h) (fun _ _ h => h)) hg (by omega) (by omega) (by omega) (fun x hx => by have := H.out.lt x hx; omega) (by omega) hkl⟩
  have HCC := Bx.mk hcc
  rw [hs2] at HKF HSO
  clear h he hE2 hkl hfew hc1 hc2 hcc
  go_enter Try.func33, Try.ntmps33
  go_wp2_with fail
  refine HKF.out.mono ?_
  rintro e w3 ⟨rfl, rfl⟩
  clear HKF hw1 hw2
  go_wp2_with fail
  refine HSO.out.mono ?_
  rintro e w3 ⟨A1, m1, c1, rfl, hg, hnc, hcm⟩
  have HD2 := Bx.mk (HDE.out w3 A1 m1 c1 hg)
  clear HDE HSO hg hnc hcm
  go_wp2_with fail
  refine HD2.out.mono ?_
  rintro e w4 ⟨A2, m2, c2, rfl, hg, hnc, hcm⟩
  have HK2 : Bx (KeysOf (keysOf has ds gs) w (.returned (.slice A2 m2 c2)) w4) := ⟨KeysOf.after HCC.out ⟨A2, m2, c2, rfl, hg, hnc, hcm⟩⟩
  clear HD2 hg hnc hcm
  go_wp2
  go_ret
  exact HK2.out
theorem mgone_any (h : TabP w P t ds gs) : Calls Try.prog 27 #[.pointer (some ⟨t, 0, none⟩)] w (KeysOf gs w) := by
  have HK := Bx.mk (mkeys_any h false)
  clear h
  go_enter Try.func27, Try.ntmps27
  go_wp2_with fail
  refine HK.out.mono ?_
  rintro e w4 ⟨A2, m2, c2, rfl, hg, hnc, hcm⟩
  have HK2 : Bx (KeysOf gs w (.returned (.slice A2 m2 c2)) w4) := ⟨⟨A2, m2, c2, rfl, hg, hnc, hcm⟩⟩
  clear hg hnc hcm HK
  go_wp2
  go_ret
  exact HK2.out
end
end Go.Proofs.Ytpilekadcondnaa
