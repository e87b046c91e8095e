/-
  The contract of suffix.bySymbol: the endings in the order of their first symbols.
-/
import Derived.Test.YtgboobjmafdieaaSvSym
import Derived.Test.YtgboobjmafdieaaSvClass
namespace Go.Proofs.Ytgboobjmafdieaa
open Go.RowKit Go.Oct Go.Su Go.Sort

section
variable {F : Nat → Prop}
theorem sortfn_any (s : List Int) (A : Option Addr) (n c B g : Nat) (w : World) (hs : Sl w F .i64 A n s) (hF : ∀ b, F b → b ≠ g) (hn : n ≤ 65536) (h0 : 0 < n) (hbx : w.cell? ⟨B, 0, none⟩ = some (.slice A n c)) (hBg : B ≠ g) (hO : Own w 3 1 g n n (vals (List.range n))) :
    Calls Try.prog 45 #[.slice (some ⟨g, 0, none⟩) n n, .func (.func 46) #[] #[.pointer (some ⟨B, 0, none⟩)]] w fun e w' =>
      e = .returned (.tuple #[]) ∧ ∃ L, Ord s L 1 ∧ Own w' 3 1 g n n (vals L) ∧ Ch (fun b => b = g) w w' := by
  have hl := hs.len
  haveI : Inhabited (Fin n) := ⟨⟨0, h0⟩⟩
  have hd : (Array.ofFn (fun i : Fin n => i)).size = n := by simp
  have hdj : ∀ j (h : j < n), (Array.ofFn (fun i : Fin n => i))[j]! = ⟨j, h⟩ := fun j h => by
    rw [getElem!_pos _ j (by rw [hd]; exact h)]
    simp
  have hHolds : Holds (fun x : Fin n => Value.int .i64 ((x.val : Nat) : Int)) w g 0 (Array.ofFn (fun i : Fin n => i)) := by
    intro j hj
    rw [hd] at hj
    refine ⟨?_, by rw [Nat.zero_add]; exact hO.frozenAt j⟩
    rw [hdj j hj, Nat.zero_add]
    have := hO.cellN hj
    rw [this, gn_at (List.getElem?_range hj)]
  have eg : ∀ args w, (callFunc 46 args).run Try.prog w = .ok (.enter 46 args) w := enters_of Try.func46 (by kernel_rfl) rfl
  have hcmp : CmpReads Try.prog 46 #[.pointer (some ⟨B, 0, none⟩)] (fun x : Fin n => Value.int .i64 ((x.val : Nat) : Int)) (fun x y : Fin n => Lib.compareInt (gs s x) (gs s y)) g 0 (Array.ofFn (fun i : Fin n => i)).size w := by
    intro m os dk _ x y
    have hC := ch_sortWorld (fun x : Fin n => Value.int .i64 ((x.val : Nat) : Int)) w g 0 m dk os
    exact cmp_any s A n c x.val y.val B _ (hs.ch hC (fun b hb _ e => hF b hb e)) (hC.cell (p := ⟨B, 0, none⟩) (fun e => hBg e) hbx) x.isLt y.isLt
  have hcon := Any.slices_SortFunc Try.suSort (fun x : Fin n => Value.int .i64 ((x.val : Nat) : Int)) (fun _ => rfl) (fun x y : Fin n => Lib.compareInt (gs s x) (gs s y)) (swoS (gs s) n) 46 #[.pointer (some ⟨B, 0, none⟩)] g 0 n (Array.ofFn (fun i : Fin n => i)) w eg hcmp.lays hHolds hO.lt (by rw [hd]; omega)
  change Calls Try.prog 45 _ _ _ at hcon
  rw [hd] at hcon
  refine hcon.mono ?_
  rintro e w' ⟨rfl, d', k, os, hp, hsrt, rfl⟩
  have hds : d'.size = n := by rw [hp.1, hd]
  have hperm : d'.toList.Perm (Array.ofFn (fun i : Fin n => i)).toList := by
    have := hp.2.2
    have e1 : d'.extract 0 n = d' := by
      apply Array.ext
      · simp [hds]
      · intro i h1 h2
        simp
    have e2 : (Array.ofFn (fun i : Fin n => i)).extract 0 n = Array.ofFn (fun i : Fin n => i) := by
      apply Array.ext
      · simp
      · intro i h1 h2
        simp
    rwa [e1, e2] at this
  refine ⟨rfl, d'.toList.map Fin.val, ord_of_perm hl d' hperm (fun i j hi hj hij => ?_), ?_, ch_sortWorld _ w g 0 k d' os⟩
  · have h1 := hsrt i j (Nat.zero_le _) hij (by rw [← hds]; exact hj)
    rw [ltS, getElem!_pos d' j hj, getElem!_pos d' i hi] at h1
    simpa using h1
  · have hw : sortWorld (fun x : Fin n => Value.int .i64 ((x.val : Nat) : Int)) w g 0 k d' os = grow ((w.drewN k).setCells g 0 (d'.toList.map (fun x : Fin n => Value.int .i64 ((x.val : Nat) : Int)))) os := by
      have := Lib.sorted_world (fun x : Fin n => Value.int .i64 ((x.val : Nat) : Int)) w g 0 k (Array.ofFn (fun i : Fin n => i)) d'.toList os hHolds (by rw [Array.length_toList, hds, hd])
      rw [Array.toArray_toList] at this
      exact this
    rw [hw]
    have hv : vals (d'.toList.map Fin.val) = d'.toList.map (fun x : Fin n => Value.int .i64 ((x.val : Nat) : Int)) := by unfold vals; rw [List.map_map]; rfl
    rw [hv]
    have hOd : Own (w.drewN k) 3 1 g n n (vals (List.range n)) := hO.keep ((Ch.refl (fun _ => False) w).drewN k)
    have hlen : (d'.toList.map (fun x : Fin n => Value.int .i64 ((x.val : Nat) : Int))).length = n := by rw [List.length_map, Array.length_toList, hds]
    have h1 := own_setCells (d'.toList.map (fun x : Fin n => Value.int .i64 ((x.val : Nat) : Int))) 0 _ _ hOd (by omega)
    rw [List.take_zero, List.nil_append, hlen, List.drop_eq_nil_of_le (by unfold vals; simp), List.append_nil] at h1
    exact h1.keep (ch_grow (Ch.refl _ _) os)
set_option maxHeartbeats 1000000 in
theorem bysym_any (s : List Int) (A : Option Addr) (n c : Nat) (w : World) (hs : Sl w F .i64 A n s) (hn : n ≤ 65536) :
    Calls Try.prog 34 #[.slice A n c] w (Ordered s n 1 w) := by
  have hl := hs.len
  have HL := Bx.mk hl
  have HS := Bx.mk (hs.mono (G := fun b => b < w.heap.size) (fun b h _ => h))
  clear hs hl
  go_enter Try.func34, Try.ntmps34
  go_wp2_with fail
  obtain ⟨B, hB⟩ : ∃ B, w.heap.size = B := ⟨_, rfl⟩
  have hbx0 : (w.alloc (.cells #[.slice A n c] 22)).cell? ⟨w.heap.size, 0, none⟩ = some (.slice A n c) := by
    rw [World.cell?_alloc_at _ _ _ _ rfl]
    rfl
  refine (upto_any n _ (by omega)).mono ?_
  rintro e w1 ⟨g, rfl, hO1, hg, hC1⟩
  rw [World.size_alloc] at hg
  have hC1w : Ch (fun _ => False) w w1 := ((Ch.refl (fun _ => False) w).alloc _).trans hC1 (fun _ _ h => h)
  have hbx := hC1.cell (p := ⟨w.heap.size, 0, none⟩) (fun h => h) hbx0
  rw [hB] at hbx hg
  have HS1 : Bx (Sl w1 (fun b => b < w.heap.size) .i64 A n s) := ⟨HS.out.ch hC1w (fun _ _ _ h => h)⟩
  have HO1 := Bx.mk hO1
  have HC1 := Bx.mk hC1w
  have HBX := Bx.mk hbx
  have HBG : Bx (B < g ∧ w.heap.size = B) := ⟨by omega⟩
  rw [hB]
  clear hO1 hg hC1 hC1w hbx hbx0 hB HS
  by_cases h0 : n = 0
  · have hnone := AnyF.slices_SortFunc_none (P := Try.prog) (ρ := Try.suSort_ren) { Try.suSort with } (some ⟨g, 0, none⟩) n (.func (.func 46) #[] #[.pointer (some ⟨B, 0, none⟩)]) w1
    change Calls Try.prog 45 _ _ _ at hnone
    have hnone2 : Calls Try.prog 45 #[.slice (some ⟨g, 0, none⟩) n n, .func (.func 46) #[] #[.pointer (some ⟨B, 0, none⟩)]] w1 fun e w' => e = .returned (.tuple #[]) ∧ w1 = w' := by
      rw [h0] at hnone ⊢
      exact hnone.mono fun _ _ h => ⟨h.1, h.2.symm⟩
    have hord : Ord s (List.range n) 1 := ⟨fun x => by rw [List.mem_range, HL.out], List.nodup_range, by rw [h0]; exact List.Pairwise.nil⟩
    have HORD := Bx.mk hord
    clear hnone hord h0
    go_wp2_with fail
    refine hnone2.mono ?_
    rintro e w2 ⟨rfl, rfl⟩
    go_wp2
    go_ret
    exact ⟨g, _, rfl, HORD.out, HO1.out, by have := HBG.out; omega, HC1.out⟩
  · have hsort := sortfn_any s A n c B g w1 HS1.out (fun b hb e => by have := HBG.out; omega) hn (by omega) HBX.out (by have := HBG.out; omega) HO1.out
    go_wp2_with fail
    refine hsort.mono ?_
    rintro e w2 ⟨rfl, L, hOrd, hO2, hC2⟩
    have HOrd := Bx.mk hOrd
    have HO2 := Bx.mk hO2
    have HC2 := Bx.mk (HC1.out.trans hC2 (S := fun _ => False) (fun i hi (e : i = g) => by have := HBG.out; omega))
    clear hOrd hO2 hC2 hsort
    go_wp2
    go_ret
    exact ⟨g, L, rfl, HOrd.out, HO2.out, by have := HBG.out; omega, HC2.out⟩
end
end Go.Proofs.Ytgboobjmafdieaa
