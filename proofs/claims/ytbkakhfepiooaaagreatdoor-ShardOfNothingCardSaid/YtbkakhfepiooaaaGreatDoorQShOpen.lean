/- Lemmas and contracts of this proof. Conditions: said at each. -/
import Derived.Test.YtbkakhfepiooaaaGreatDoorQGDkList
import Derived.Test.YtbkakhfepiooaaaGreatDoorQGMtNew
import Derived.Lib.SortBridge
namespace Go.Proofs.YtbkakhfepiooaaaGreatDoor
open Go.RowKit Go.Oct Go.Su Go.Sg Go.Om Go.Sh Go.Maps

section
variable {w w' W : World} {P PT F S : Nat → Prop} {b d room : Nat}
/-- The name of a file. -/
def fileK (pf k : Key) : Key := pf ++ [45] ++ k
theorem sfile_any (pf k : Key) (c7 : w.cell? ⟨b, 7, none⟩ = some (kv pf)) (hl : pf.length ≤ 20) (hk : k.length ≤ 20) : Calls Tryz.prog 34 #[.pointer (some ⟨b, 0, none⟩), kv k] w fun e w' => e = .returned (kv (fileK pf k)) ∧ w = w' := by
  have h1 : (⟨pf.toArray⟩ : ByteArray) ++ ⟨#[45]⟩ = (⟨(pf ++ [45]).toArray⟩ : ByteArray) := by
    apply ByteArray.ext
    simp
  have h2 : (⟨(pf ++ [45]).toArray⟩ : ByteArray) ++ ⟨k.toArray⟩ = (⟨(fileK pf k).toArray⟩ : ByteArray) := by
    apply ByteArray.ext
    simp [fileK]
  have z1 : (⟨pf.toArray⟩ : ByteArray).size = pf.length := kv_size pf
  have z2 : (⟨(pf ++ [45]).toArray⟩ : ByteArray).size = pf.length + 1 := (kv_size (pf ++ [45])).trans (by rw [List.length_append]; rfl)
  have z3 : (⟨k.toArray⟩ : ByteArray).size = k.length := kv_size k
  have e1 : kv pf = .string ⟨pf.toArray⟩ := rfl
  have e2 : kv k = .string ⟨k.toArray⟩ := rfl
  have e3 : kv (fileK pf k) = .string ⟨(fileK pf k).toArray⟩ := rfl
  rw [e1] at c7
  rw [e2, e3]
  obtain ⟨A1, hA1⟩ : ∃ A, (⟨pf.toArray⟩ : ByteArray) = A := ⟨_, rfl⟩
  obtain ⟨A2, hA2⟩ : ∃ A, (⟨(pf ++ [45]).toArray⟩ : ByteArray) = A := ⟨_, rfl⟩
  obtain ⟨A3, hA3⟩ : ∃ A, (⟨k.toArray⟩ : ByteArray) = A := ⟨_, rfl⟩
  obtain ⟨A4, hA4⟩ : ∃ A, (⟨(fileK pf k).toArray⟩ : ByteArray) = A := ⟨_, rfl⟩
  rw [hA1] at h1 z1 c7
  rw [hA2] at h1 h2 z2
  rw [hA3] at h2 z3 ⊢
  rw [hA4] at h2 ⊢
  have b1 : (A1.size : Int) + 1 ≤ 9223372036854775807 := by rw [z1]; omega
  have b2 : (A2.size : Int) + (A3.size : Int) ≤ 9223372036854775807 := by rw [z2, z3]; omega
  clear e1 e2 e3 hA1 hA2 hA3 hA4 z1 z2 z3 hl hk
  go_enter Tryz.func34, Tryz.ntmps34
  go_wp2
  go_ret
  exact ⟨rfl, rfl⟩
theorem ch_growO {S : Nat → Prop} {a w : World} (h : Ch S a w) (os : Array Obj) : Ch S a (Sort.grow w os) :=
  ⟨h.os, h.tape, h.output, Nat.le_trans h.size (by show w.heap.size ≤ (w.heap ++ os).size; rw [Array.size_append]; omega), fun k hk hS => (Sort.heap_grow_old w os (Nat.lt_of_lt_of_le hk h.size)).trans (h.block k hk hS)⟩
theorem sort0_any (g c : Nat) (hg : g < w.heap.size) : Calls Tryz.prog 62 #[.slice (some ⟨g, 0, none⟩) 0 c] w fun e w' => e = .returned (.tuple #[]) ∧ Ch (fun _ => False) w w' := by
  have hH : Sort.Holds encStr w g 0 ([] : List (List UInt8)).toArray := fun j hj => by simp at hj
  have hc := AnyM.slices_Sort_string Tryz.dkSort g 0 c [] w hH hg (by simp)
  refine hc.mono ?_
  rintro e w' ⟨rfl, m, os, rfl⟩
  refine ⟨rfl, ?_⟩
  have hw := Lib.sorted_world encStr w g 0 m ([] : List (List UInt8)).toArray ([].mergeSort fun x y => decide (x ≤ y)) os hH (by simp)
  have e : (([] : List (List UInt8)).mergeSort fun x y => decide (x ≤ y)) = [] := by simp
  rw [hw, e]
  exact ch_growO (show Ch (fun _ => False) w ((w.drewN m).setCells g 0 []) from (Ch.refl _ _).drewN m) os
theorem mk0 (w : World) : (Instr.makeSlice 81 (.int .i64 0) (.int .i64 0)).run Tryz.prog w = .ok (.slice (some ⟨w.heap.size, 0, none⟩) 0 0) (w.alloc (.cells (madeCells #[.string ⟨#[]⟩] 0) 9)) := by
  have h := run_mk2 (P := Tryz.prog) (t := 81) (e := 9) (z := .string ⟨#[]⟩) (bytes := 16) ⟨Tryz.underlying81, by kernel_rfl, rfl⟩ 0 (by omega) (by omega) w
  exact h
theorem names_none (c : Nat) (v : Option Addr) : Calls Tryz.prog 33 #[.pointer (some ⟨b, 0, none⟩), .slice v 0 c] w fun e w' => e = .returned (.slice (some ⟨w.heap.size, 0, none⟩) 0 0) ∧ w'.ownsRow 0 9 1 (.slice (some ⟨w.heap.size, 0, none⟩) 0 0) 0 [] ∧ Ch (fun _ => False) w w' := by
  have hm := mk0 w
  obtain ⟨w1, hw1⟩ : ∃ w1, w.alloc (.cells (madeCells #[.string ⟨#[]⟩] 0) 9) = w1 := ⟨_, rfl⟩
  have hlt : w.heap.size < w1.heap.size := by rw [← hw1, World.size_alloc]; omega
  have hO : w1.ownsRow 0 9 1 (.slice (some ⟨w.heap.size, 0, none⟩) 0 0) 0 [] := by
    have h := World.ownsRow_lit (base := 0) (e := 9) (size := 1) w (madeCells #[.string ⟨#[]⟩] 0) 0 (Nat.zero_le _) (by unfold maxLen; omega) (by simp [madeCells])
    rw [made_list, hw1] at h
    exact h
  have HO := Bx.mk hO
  have HC : Bx (Ch (fun _ => False) w w1) := ⟨by rw [← hw1]; exact (Ch.refl _ _).alloc _⟩
  have HS := Bx.mk (sort0_any (w := w1) w.heap.size 0 hlt)
  rw [hw1] at hm
  clear hO hlt hw1
  go_enter Tryz.func33, Tryz.ntmps33
  go_wp2_with fail
  go_loopw [13] (fun i wr => i = .int .i64 0 ∧ wr = w1) (fun _ _ => 0)
  case atStart => exact ⟨rfl, rfl⟩
  case round =>
    obtain ⟨rfl, rfl⟩ := hrel
    go_wp2_with fail
    refine HS.out.mono ?_
    rintro e w2 ⟨rfl, hc⟩
    have HC2 := Bx.mk hc
    clear hc HS hm
    go_wp2_with fail
    go_ret
    exact ⟨rfl, HC2.out.own HO.out (fun _ _ h => h), HC.out.trans HC2.out (fun _ _ h => h)⟩
theorem list_set {w1 w3 : World} {SB : Nat} (h1 : Ch (fun _ => False) w w1) (h3 : Ch (fun _ => False) w1 w3) (l0 : w3.cell? ⟨w.heap.size, 0, none⟩ = some (.int .i64 0)) (l1 : w3.cell? ⟨w.heap.size, 1, none⟩ = some (.int .i64 0)) (l2 : w3.cell? ⟨w.heap.size, 2, none⟩ = some (.slice none 0 0)) (l3 : w3.cell? ⟨w.heap.size, 3, none⟩ = some (.map none)) (hm : Mp.Mp Tryz.prog 3 w3 SB 0 (fun _ => none)) (hs : w.heap.size < SB) :
    ((((w3.setCell ⟨w.heap.size, 0, none⟩ (.int .i64 0)).setCell ⟨w.heap.size, 1, none⟩ (.int .i64 1)).setCell ⟨w.heap.size, 2, none⟩ (.slice none 0 0)).setCell ⟨w.heap.size, 3, none⟩ (.map (some SB))).cell? ⟨w.heap.size, 0, none⟩ = some (.int .i64 0) ∧
    ((((w3.setCell ⟨w.heap.size, 0, none⟩ (.int .i64 0)).setCell ⟨w.heap.size, 1, none⟩ (.int .i64 1)).setCell ⟨w.heap.size, 2, none⟩ (.slice none 0 0)).setCell ⟨w.heap.size, 3, none⟩ (.map (some SB))).cell? ⟨w.heap.size, 1, none⟩ = some (.int .i64 1) ∧
    ((((w3.setCell ⟨w.heap.size, 0, none⟩ (.int .i64 0)).setCell ⟨w.heap.size, 1, none⟩ (.int .i64 1)).setCell ⟨w.heap.size, 2, none⟩ (.slice none 0 0)).setCell ⟨w.heap.size, 3, none⟩ (.map (some SB))).cell? ⟨w.heap.size, 2, none⟩ = some (.slice none 0 0) ∧
    ((((w3.setCell ⟨w.heap.size, 0, none⟩ (.int .i64 0)).setCell ⟨w.heap.size, 1, none⟩ (.int .i64 1)).setCell ⟨w.heap.size, 2, none⟩ (.slice none 0 0)).setCell ⟨w.heap.size, 3, none⟩ (.map (some SB))).cell? ⟨w.heap.size, 3, none⟩ = some (.map (some SB)) ∧
    Mp.Mp Tryz.prog 3 ((((w3.setCell ⟨w.heap.size, 0, none⟩ (.int .i64 0)).setCell ⟨w.heap.size, 1, none⟩ (.int .i64 1)).setCell ⟨w.heap.size, 2, none⟩ (.slice none 0 0)).setCell ⟨w.heap.size, 3, none⟩ (.map (some SB))) SB 0 (fun _ => none) ∧ w.heap.size ≤ SB ∧ Ch (fun _ => False) w ((((w3.setCell ⟨w.heap.size, 0, none⟩ (.int .i64 0)).setCell ⟨w.heap.size, 1, none⟩ (.int .i64 1)).setCell ⟨w.heap.size, 2, none⟩ (.slice none 0 0)).setCell ⟨w.heap.size, 3, none⟩ (.map (some SB))) := by
  have hc : Ch (fun x => x = w.heap.size) w3 ((((w3.setCell ⟨w.heap.size, 0, none⟩ (.int .i64 0)).setCell ⟨w.heap.size, 1, none⟩ (.int .i64 1)).setCell ⟨w.heap.size, 2, none⟩ (.slice none 0 0)).setCell ⟨w.heap.size, 3, none⟩ (.map (some SB))) :=
    ((((Ch.refl (fun x => x = w.heap.size) w3).setCell (p := ⟨w.heap.size, 0, none⟩) (.inl rfl) _).setCell (p := ⟨w.heap.size, 1, none⟩) (.inl rfl) _).setCell (p := ⟨w.heap.size, 2, none⟩) (.inl rfl) _).setCell (p := ⟨w.heap.size, 3, none⟩) (.inl rfl) _
  refine ⟨(D.set_off (by decide)).trans ((D.set_off (by decide)).trans ((D.set_off (by decide)).trans (D.set_same l0))), (D.set_off (by decide)).trans ((D.set_off (by decide)).trans (D.set_same ((D.set_off (by decide)).trans l1))), (D.set_off (by decide)).trans (D.set_same ((D.set_off (by decide)).trans ((D.set_off (by decide)).trans l2))), D.set_same ((D.set_off (by decide)).trans ((D.set_off (by decide)).trans ((D.set_off (by decide)).trans l3))), hm.ch hc (by omega), by omega, (h1.trans h3 (fun _ _ h => h)).trans hc (fun i hi e => by omega)⟩
set_option maxRecDepth 100000 in
/-- No list: that of nothing. -/
theorem load_none {s : Go.Dk.Ds} {g : Nat → D.Tg} {mb : Option Nat} {ad : Key → Nat} (pf : Key) (c6 : w.cell? ⟨b, 6, none⟩ = some (.pointer (some ⟨d, 0, none⟩))) (c7 : w.cell? ⟨b, 7, none⟩ = some (kv pf)) (hl : pf.length ≤ 20) (hd : D.Dsk w g d mb ad s) (hno : Go.Dk.fnd s.fs (fileK pf [108, 105, 115, 116]) = none) :
    Calls Tryz.prog 32 #[.pointer (some ⟨b, 0, none⟩)] w fun e w' => ∃ sb, e = .returned (.tuple #[.agg #[.int .i64 0, .int .i64 1, .slice none 0 0, .map (some sb)], .int .i64 0]) ∧ Mp.Mp Tryz.prog 3 w' sb 0 (fun _ => none) ∧ w.heap.size ≤ sb ∧ Ch (fun _ => False) w w' := by
  have hlk : (fileK pf [108, 105, 115, 116]).length ≤ 9223372036854775807 := by unfold fileK; simp; omega
  obtain ⟨w1, hw1⟩ : ∃ w1, w.alloc (.cells #[.int .i64 0, .int .i64 0, .slice none 0 0, .map none] 59) = w1 := ⟨_, rfl⟩
  have hc1 : Ch (fun _ => False) w w1 := by rw [← hw1]; exact (Ch.refl _ _).alloc _
  have hs1 : w1.heap.size = w.heap.size + 1 := by rw [← hw1, World.size_alloc]
  have HF := Bx.mk (sfile_any (w := w1.drew) (b := b) pf [108, 105, 115, 116] (hc1.cell (fun h => h) c7) hl (by decide))
  have HL := Bx.mk (D.pload_none (hd.keep hc1.drew) hlk hno)
  have d6 := hc1.cell (fun h => h) c6
  have l0 : w1.cell? ⟨w.heap.size, 0, none⟩ = some (.int .i64 0) := by rw [← hw1]; exact ncells_at (j := 0) rfl
  have l1 : w1.cell? ⟨w.heap.size, 1, none⟩ = some (.int .i64 0) := by rw [← hw1]; exact ncells_at (j := 1) rfl
  have l2 : w1.cell? ⟨w.heap.size, 2, none⟩ = some (.slice none 0 0) := by rw [← hw1]; exact ncells_at (j := 2) rfl
  have l3 : w1.cell? ⟨w.heap.size, 3, none⟩ = some (.map none) := by rw [← hw1]; exact ncells_at (j := 3) rfl
  have lf : ∀ j, w1.frozen? ⟨w.heap.size, j, none⟩ = false := fun j => by
    unfold World.frozen?
    rw [← hw1, heap_alloc_new]
    simp
  have HC1 := Bx.mk hc1
  have HLF := Bx.mk lf
  have hmm := @run_makeMap Tryz.prog
  obtain ⟨V, hV⟩ : ∃ V, kv (fileK pf [108, 105, 115, 116]) = V := ⟨_, rfl⟩
  have hV2 : Go.Dk.kv (fileK pf [108, 105, 115, 116]) = V := hV
  have hpv : Go.Dk.pv d = .pointer (some ⟨d, 0, none⟩) := rfl
  have hls : kv [108, 105, 115, 116] = .string ⟨#[108, 105, 115, 116]⟩ := rfl
  rw [hV, hls] at HF
  rw [hV2, hpv] at HL
  clear hV hV2 hpv hls hd hno hlk hc1 lf c6 c7
  go_enter Tryz.func32, Tryz.ntmps32
  go_wp2_with fail
  clear hw1
  go_region_law ((first
    | (go_simp; go_at_call 58; refine HL.out.mono ?_; rintro e w2 ⟨rfl, hc2⟩)
    | (go_simp; go_at_call 34; refine HF.out.mono ?_; rintro e w9 ⟨rfl, rfl⟩)))
  all_goals
    obtain ⟨w3, hw3⟩ : ∃ w3, w2.alloc (.map #[] 0) = w3 := ⟨_, rfl⟩
    obtain ⟨SB, hSB⟩ : ∃ SB, w2.heap.size = SB := ⟨_, rfl⟩
    have hc23 : Ch (fun _ => False) w2 w3 := by rw [← hw3]; exact (Ch.refl _ _).alloc _
    have hc3 : Ch (fun _ => False) w1 w3 := (((Ch.refl (fun _ => False) w1).drew).trans hc2 (fun _ _ h => h)).trans hc23 (fun _ _ h => h)
    have HMP : Bx (Mp.Mp Tryz.prog 3 w3 SB 0 (fun _ => none)) := ⟨by rw [← hw3, ← hSB]; exact Mp.Mp.made Tryz.prog 3 w2⟩
    have l0 := hc3.cell (fun h => h) l0
    have l1 := hc3.cell (fun h => h) l1
    have l2 := hc3.cell (fun h => h) l2
    have l3 := hc3.cell (fun h => h) l3
    have lf3 : ∀ j, w3.frozen? ⟨w.heap.size, j, none⟩ = false := fun j => by rw [hc3.frozen (p := ⟨w.heap.size, j, none⟩) (fun h => h) (by show w.heap.size < w1.heap.size; omega)]; exact HLF.out j
    have f0 := lf3 0
    have f1 := lf3 1
    have f2 := lf3 2
    have f3 := lf3 3
    have HSB : Bx (w.heap.size < SB) := ⟨by have h := hc2.size; have e : w1.drew.heap.size = w1.heap.size := rfl; omega⟩
    have HEN := Bx.mk (list_set HC1.out hc3 l0 l1 l2 l3 HMP.out HSB.out)
    obtain ⟨B, hB⟩ : ∃ B, w.heap.size = B := ⟨_, rfl⟩
    have HBE := Bx.mk hB
    rw [hB] at l0 l1 l2 l3 f0 f1 f2 f3 HEN
    clear hc2 hc23 hc3 lf3 HF HL hs1
    go_wp2_with fail
    obtain ⟨k0, k1, k2, k3, hfin⟩ := HEN.out
    refine bodyPost_ret (v := .tuple #[.agg #[.int .i64 0, .int .i64 1, .slice none 0 0, .map (some SB)], .int .i64 0]) (by simp [results, Tryz.results32, go_sem, k0, k1, k2, k3]) rfl ?_
    exact ⟨SB, rfl, hfin.1, by rw [HBE.out]; exact hfin.2.1, hfin.2.2⟩
theorem set_fr (w : World) (a : Addr) (v : Value) (p : Addr) : (w.setCell a v).frozen? p = w.frozen? p := by simp
def W4 (w4 : World) (b sb : Nat) : World := ((((w4.setCell ⟨b, 0, none⟩ (.int .i64 0)).setCell ⟨b, 1, none⟩ (.int .i64 1)).setCell ⟨b, 2, none⟩ (.slice none 0 0)).setCell ⟨b, 3, none⟩ (.map (some sb))).setCell ⟨b, 4, none⟩ (.int .i64 0)
theorem W4_facts {w4 : World} {b sb : Nat} {u0 u1 u2 u3 u4 u5 u6 u7 : Value} (b0 : w4.cell? ⟨b, 0, none⟩ = some u0) (b1 : w4.cell? ⟨b, 1, none⟩ = some u1) (b2 : w4.cell? ⟨b, 2, none⟩ = some u2) (b3 : w4.cell? ⟨b, 3, none⟩ = some u3) (b4 : w4.cell? ⟨b, 4, none⟩ = some u4) (b5 : w4.cell? ⟨b, 5, none⟩ = some u5) (b6 : w4.cell? ⟨b, 6, none⟩ = some u6) (b7 : w4.cell? ⟨b, 7, none⟩ = some u7) (bz : ∀ j, w4.frozen? ⟨b, j, none⟩ = false) :
    Ch (fun x => x = b) w4 (W4 w4 b sb) ∧ (W4 w4 b sb).cell? ⟨b, 0, none⟩ = some (.int .i64 0) ∧ (W4 w4 b sb).cell? ⟨b, 1, none⟩ = some (.int .i64 1) ∧ (W4 w4 b sb).cell? ⟨b, 2, none⟩ = some (.slice none 0 0) ∧ (W4 w4 b sb).cell? ⟨b, 3, none⟩ = some (.map (some sb)) ∧ (W4 w4 b sb).cell? ⟨b, 4, none⟩ = some (.int .i64 0) ∧ (W4 w4 b sb).cell? ⟨b, 5, none⟩ = some u5 ∧ (W4 w4 b sb).cell? ⟨b, 6, none⟩ = some u6 ∧ (W4 w4 b sb).cell? ⟨b, 7, none⟩ = some u7 ∧ ∀ j, (W4 w4 b sb).frozen? ⟨b, j, none⟩ = false := by
  unfold W4
  refine ⟨?_, ?_, ?_, ?_, ?_, ?_, ?_, ?_, ?_, ?_⟩
  · exact (((((Ch.refl (fun x => x = b) w4).setCell (p := ⟨b, 0, none⟩) (.inl rfl) _).setCell (p := ⟨b, 1, none⟩) (.inl rfl) _).setCell (p := ⟨b, 2, none⟩) (.inl rfl) _).setCell (p := ⟨b, 3, none⟩) (.inl rfl) _).setCell (p := ⟨b, 4, none⟩) (.inl rfl) _
  · exact (D.set_off (by decide)).trans ((D.set_off (by decide)).trans ((D.set_off (by decide)).trans ((D.set_off (by decide)).trans (D.set_same b0))))
  · exact (D.set_off (by decide)).trans ((D.set_off (by decide)).trans ((D.set_off (by decide)).trans (D.set_same ((D.set_off (by decide)).trans b1))))
  · exact (D.set_off (by decide)).trans ((D.set_off (by decide)).trans (D.set_same ((D.set_off (by decide)).trans ((D.set_off (by decide)).trans b2))))
  · exact (D.set_off (by decide)).trans (D.set_same ((D.set_off (by decide)).trans ((D.set_off (by decide)).trans ((D.set_off (by decide)).trans b3))))
  · exact D.set_same ((D.set_off (by decide)).trans ((D.set_off (by decide)).trans ((D.set_off (by decide)).trans ((D.set_off (by decide)).trans b4))))
  · exact (D.set_off (by decide)).trans ((D.set_off (by decide)).trans ((D.set_off (by decide)).trans ((D.set_off (by decide)).trans ((D.set_off (by decide)).trans b5))))
  · exact (D.set_off (by decide)).trans ((D.set_off (by decide)).trans ((D.set_off (by decide)).trans ((D.set_off (by decide)).trans ((D.set_off (by decide)).trans b6))))
  · exact (D.set_off (by decide)).trans ((D.set_off (by decide)).trans ((D.set_off (by decide)).trans ((D.set_off (by decide)).trans ((D.set_off (by decide)).trans b7))))
  · intro j
    rw [set_fr, set_fr, set_fr, set_fr, set_fr]
    exact bz j
theorem W5_facts {w4 w5 : World} {b sb : Nat} {u0 u1 u2 u3 u4 u5 u6 u7 : Value} (b0 : w4.cell? ⟨b, 0, none⟩ = some u0) (b1 : w4.cell? ⟨b, 1, none⟩ = some u1) (b2 : w4.cell? ⟨b, 2, none⟩ = some u2) (b3 : w4.cell? ⟨b, 3, none⟩ = some u3) (b4 : w4.cell? ⟨b, 4, none⟩ = some u4) (b5 : w4.cell? ⟨b, 5, none⟩ = some u5) (b6 : w4.cell? ⟨b, 6, none⟩ = some u6) (b7 : w4.cell? ⟨b, 7, none⟩ = some u7) (bz : ∀ j, w4.frozen? ⟨b, j, none⟩ = false) (hw : (W4 w4 b sb).drew = w5) :
    Ch (fun x => x = b) w4 w5 ∧ w5.cell? ⟨b, 0, none⟩ = some (.int .i64 0) ∧ w5.cell? ⟨b, 1, none⟩ = some (.int .i64 1) ∧ w5.cell? ⟨b, 2, none⟩ = some (.slice none 0 0) ∧ w5.cell? ⟨b, 3, none⟩ = some (.map (some sb)) ∧ w5.cell? ⟨b, 4, none⟩ = some (.int .i64 0) ∧ w5.cell? ⟨b, 5, none⟩ = some u5 ∧ w5.cell? ⟨b, 6, none⟩ = some u6 ∧ w5.cell? ⟨b, 7, none⟩ = some u7 ∧ ∀ j, w5.frozen? ⟨b, j, none⟩ = false := by
  obtain ⟨hc, h⟩ := W4_facts (sb := sb) b0 b1 b2 b3 b4 b5 b6 b7 bz
  generalize W4 w4 b sb = W at *
  subst hw
  exact ⟨hc.drew, h⟩
/-- What Open leaves. -/
def OpenS (S : Nat → Prop) (w : World) (e : Ending) (w' : World) : Prop := ∃ P b, e = .returned (.tuple #[.pointer (some ⟨b, 0, none⟩), .int .i64 0]) ∧ ShP w' P b smNew ∧ (∀ x, P x → S x ∨ w.heap.size ≤ x) ∧ Ch S w w'
theorem open_end {w w1 w2 w3 w4 w5 w6 w8 wE : World} {S PT : Nat → Prop} {T b sb E d : Nat} {k : Key} {g : Nat → D.Tg} (hT : M.TabP w1 PT w.heap.size (M.tNews ([], []) []).1 (M.tNews ([], []) []).2) (hPT : ∀ x, PT x → w.heap.size ≤ x) (hTT : w.heap.size = T) (hb : w1.heap.size = b) (hTb : T < b) (hmp : Mp.Mp Tryz.prog 3 w3 sb 0 (fun _ => none)) (hsb : w2.heap.size ≤ sb) (hs2 : w2.heap.size = b + 1)
    (c12 : Ch (fun _ => False) w1 w2) (c23 : Ch (fun _ => False) w2 w3) (c34 : Ch (fun _ => False) w3 w4) (c45 : Ch (fun x => x = b) w4 w5) (c56 : Ch (fun _ => False) w5 w6) (c68 : Ch (fun x => x = E) w6 w8) (cE : Ch (fun x => g x ≠ .no) w8 wE) (hg : ∀ x, g x ≠ .no → S x) (hS : ∀ x, S x → x < w.heap.size) (hmx : MaxC w) (hms : ¬ S 4) (hE : w5.heap.size = E)
    (k0 : w5.cell? ⟨b, 0, none⟩ = some (.int .i64 0)) (k1 : w5.cell? ⟨b, 1, none⟩ = some (.int .i64 1)) (k2 : w5.cell? ⟨b, 2, none⟩ = some (.slice none 0 0)) (k3 : w5.cell? ⟨b, 3, none⟩ = some (.map (some sb))) (k4 : w5.cell? ⟨b, 4, none⟩ = some (.int .i64 0)) (k5 : w5.cell? ⟨b, 5, none⟩ = some (.pointer (some ⟨T, 0, none⟩))) (k6 : w5.cell? ⟨b, 6, none⟩ = some (.pointer (some ⟨d, 0, none⟩))) (k7 : w5.cell? ⟨b, 7, none⟩ = some (kv k)) (kz : ∀ j, w5.frozen? ⟨b, j, none⟩ = false) (hq : Ch (fun _ => False) w w8) :
    OpenS S w (.returned (.tuple #[.pointer (some ⟨b, 0, none⟩), .int .i64 0])) wE := by
  have hT : M.TabP w1 PT w.heap.size [] [] := hT
  rw [hTT] at hT
  have hMl : 4 < T := by
    obtain ⟨m, hm⟩ := hmx
    rw [← hTT]
    exact lt_of_cell hm
  have hbE : b < E := by rw [← hE]; exact lt_of_cell k0
  have hsE : sb < E := by
    have h1 := hmp.lt
    have h2 := c34.size
    have h3 := c45.size
    omega
  have hgT : ∀ x, g x ≠ .no → x < T := fun x hx => by rw [← hTT]; exact hS x (hg x hx)
  have h5E : Ch (fun x => x = E ∨ g x ≠ .no) w5 wE := ((c56.mono (fun _ _ h => h.elim)).trans c68 (fun _ _ h => .inl h)).trans cE (fun _ _ h => .inr h)
  have h3E : Ch (fun x => x = b ∨ x = E ∨ g x ≠ .no) w3 wE := ((c34.mono (fun _ _ h => h.elim)).trans c45 (fun _ _ h => .inl h)).trans h5E (fun _ _ h => .inr h)
  have h1E : Ch (fun x => x = b ∨ x = E ∨ g x ≠ .no) w1 wE := ((c12.trans c23 (fun _ _ h => h)).mono (fun _ _ h => h.elim)).trans h3E (fun _ _ h => h)
  have nb : ¬ (b = E ∨ g b ≠ .no) := fun h => by
    rcases h with h | h
    · omega
    · have := hgT b h
      omega
  have nP : ∀ x, PT x → T ≤ x ∧ x < b := fun x hx => ⟨by rw [← hTT]; exact hPT x hx, by rw [← hb]; exact hT.lt x hx⟩
  have nM : ¬ (4 = b ∨ 4 = E ∨ g 4 ≠ .no) := fun h => by
    rcases h with h | h | h
    · omega
    · omega
    · exact hms (hg _ h)
  have hsz := h5E.size
  refine ⟨fun x => PT x ∨ x = b ∨ x = sb, b, rfl, ⟨PT, ⟨T, sb, 0, 1, 0, d, k⟩, ⟨h5E.cell (p := ⟨b, 0, none⟩) nb k0, h5E.cell (p := ⟨b, 1, none⟩) nb k1, h5E.cell (p := ⟨b, 2, none⟩) nb k2, h5E.cell (p := ⟨b, 3, none⟩) nb k3, h5E.cell (p := ⟨b, 4, none⟩) nb k4, h5E.cell (p := ⟨b, 5, none⟩) nb k5, h5E.cell (p := ⟨b, 6, none⟩) nb k6, h5E.cell (p := ⟨b, 7, none⟩) nb k7, ?_, ?_, ?_, ?_, ?_, ?_, ?_, ?_, ?_, ?_, ?_, ?_⟩⟩, ?_, ?_⟩
  · intro j
    rw [h5E.frozen (p := ⟨b, j, none⟩) nb (show b < w5.heap.size by omega)]
    exact kz j
  · exact hT.ch h1E (fun x hx h => by
      have := nP x hx
      rcases h with h | h | h
      · omega
      · omega
      · have := hgT x h
        omega) nM
  · refine ⟨fun _ => none, hmp.ch h3E (fun h => ?_), fun _ _ => rfl, fun c s h => ?_⟩
    · rcases h with h | h | h
      · omega
      · omega
      · have := hgT sb h
        omega
    · cases h
  · exact .inr (.inl rfl)
  · exact .inr (.inr rfl)
  · exact fun x hx => .inl hx
  · exact fun h => by have := nP b h; omega
  · exact fun h => by have h' : PT sb := h; have := nP sb h'; omega
  · show b ≠ sb
    omega
  · rintro x (h | h | h)
    · have := nP x h
      omega
    · omega
    · omega
  · rintro (h | h | h)
    · have := nP _ h
      omega
    · omega
    · omega
  · exact Int.le_refl 0
  · rintro x (h | h | h)
    · exact .inr (hPT x h)
    · exact .inr (by omega)
    · exact .inr (by omega)
  · exact (hq.mono (fun _ _ h => h.elim)).trans cE (fun i _ h => hg i h)
theorem clear_none (s : Go.Dk.Ds) (hs : s.fs = []) (p : Key) (st : List Key) : Go.Dk.opClear s p st = (0, s) := by
  unfold Go.Dk.opClear Go.Dk.nms
  rw [hs]
  rfl
set_option maxRecDepth 100000 in
set_option maxHeartbeats 4000000 in
theorem open_new (k : Key) (hk1 : 1 ≤ k.length) (hk2 : k.length ≤ 20) (hd : D.Pd w S d ⟨room, [], none⟩) (hmx : MaxC w) (hms : ¬ S 4) :
    Calls Tryz.prog 9 #[.pointer (some ⟨d, 0, none⟩), kv k] w (OpenS S w) := by
  obtain ⟨g, mb, ad, hdk, hgS⟩ := hd.open_
  have hSl := hd.2
  have HMN := Bx.mk (M.mnew_any (F := fun _ => False) [] none 0 0 w ⟨rfl, fun h => absurd h (Nat.lt_irrefl 0)⟩ (by omega) (fun d hd => by simp at hd) hmx)
  have hne : ((⟨k.toArray⟩ : ByteArray).toList == ByteArray.empty.toList) = false := by
    have h := str_beq k []
    rw [show (⟨([] : Key).toArray⟩ : ByteArray) = ByteArray.empty from rfl] at h
    rw [h]
    exact decide_eq_false (fun e => by rw [e] at hk1; simp at hk1)
  have hsz : (⟨k.toArray⟩ : ByteArray).size = k.length := kv_size k
  have d20 : decide ((20 : Int) < (k.length : Int)) = false := decide_eq_false (by omega)
  have d20' : decide (20 < k.length) = false := decide_eq_false (by omega)
  have HDK := Bx.mk hdk
  have HGS := Bx.mk hgS
  have HSL := Bx.mk hSl
  have HMX := Bx.mk hmx
  have HMS := Bx.mk hms
  have HK := Bx.mk hk2
  obtain ⟨KS, hKS⟩ : ∃ S : ByteArray, (⟨k.toArray⟩ : ByteArray) = S := ⟨_, rfl⟩
  have ek : kv k = .string KS := by unfold kv; rw [hKS]
  have HEK := Bx.mk ek
  rw [hKS] at hne hsz
  have hie : KS.toList.isEmpty = false := by
    have e0 : ByteArray.empty.toList = [] := by simp [go_sem]
    rw [e0] at hne
    generalize KS.toList = l at hne ⊢
    cases l with
    | nil => exact absurd hne (by decide)
    | cons a r => rfl
  rw [ek]
  obtain ⟨kl, hkl⟩ : ∃ kl, k.length = kl := ⟨_, rfl⟩
  rw [hkl] at hsz d20 d20'
  clear hd hdk hgS hSl hmx hms hKS ek hkl hk1 hk2
  go_enter Tryz.func9, Tryz.ntmps9
  go_wp2_with fail
  refine HMN.out.mono ?_
  rintro e w1 ⟨rfl, PT, hT, hPT, hc1⟩
  have HT := Bx.mk hT
  have HPT := Bx.mk hPT
  obtain ⟨w2, hw2⟩ : ∃ w2, w1.alloc (.cells #[.int .i64 0, .int .i64 0, .slice none 0 0, .map none, .int .i64 0, .pointer (some ⟨w.heap.size, 0, none⟩), .pointer (some ⟨d, 0, none⟩), .string KS] 62) = w2 := ⟨_, rfl⟩
  have hc2 : Ch (fun _ => False) w1 w2 := by rw [← hw2]; exact (Ch.refl _ _).alloc _
  have hc02 := hc1.trans hc2 (fun _ _ h => h)
  obtain ⟨T, hTT⟩ : ∃ T, w.heap.size = T := ⟨_, rfl⟩
  obtain ⟨b, hb⟩ : ∃ b, w1.heap.size = b := ⟨_, rfl⟩
  have hs2 : w2.heap.size = b + 1 := by rw [← hw2, World.size_alloc, hb]
  have b0 : w2.cell? ⟨b, 0, none⟩ = some (.int .i64 0) := by rw [← hw2, ← hb]; exact ncells_at (j := 0) rfl
  have b1 : w2.cell? ⟨b, 1, none⟩ = some (.int .i64 0) := by rw [← hw2, ← hb]; exact ncells_at (j := 1) rfl
  have b2 : w2.cell? ⟨b, 2, none⟩ = some (.slice none 0 0) := by rw [← hw2, ← hb]; exact ncells_at (j := 2) rfl
  have b3 : w2.cell? ⟨b, 3, none⟩ = some (.map none) := by rw [← hw2, ← hb]; exact ncells_at (j := 3) rfl
  have b4 : w2.cell? ⟨b, 4, none⟩ = some (.int .i64 0) := by rw [← hw2, ← hb]; exact ncells_at (j := 4) rfl
  have b5 : w2.cell? ⟨b, 5, none⟩ = some (.pointer (some ⟨T, 0, none⟩)) := by rw [← hw2, ← hb, ← hTT]; exact ncells_at (j := 5) rfl
  have b6 : w2.cell? ⟨b, 6, none⟩ = some (.pointer (some ⟨d, 0, none⟩)) := by rw [← hw2, ← hb]; exact ncells_at (j := 6) rfl
  have b7 : w2.cell? ⟨b, 7, none⟩ = some (kv k) := by rw [HEK.out, ← hw2, ← hb]; exact ncells_at (j := 7) rfl
  have bz : ∀ j, w2.frozen? ⟨b, j, none⟩ = false := fun j => by
    unfold World.frozen?
    rw [← hw2, ← hb, heap_alloc_new]
    simp
  have HB7 := Bx.mk b7
  have HBZ := Bx.mk bz
  have HC2 := Bx.mk hc02
  have HC12 := Bx.mk hc2
  have hTb : T < b := by
    have h := HT.out.lt _ HT.out.own
    omega
  have HLD := Bx.mk (load_none (w := w2) k b6 b7 HK.out (HDK.out.keep hc02) rfl)
  have HTB := Bx.mk hTb
  have HTT := Bx.mk hTT
  have HB := Bx.mk hb
  have HS2 := Bx.mk hs2
  rw [hTT] at hw2
  rw [hTT]
  clear hT hPT hc1 hc2 hc02 b7 bz HMN hTb
  go_wp2_with fail
  clear hw2 hTT hb hs2
  refine HLD.out.mono ?_
  rintro e w3 ⟨sb, rfl, hmp, hsb, hc3⟩
  have HMP := Bx.mk hmp
  have HSB := Bx.mk hsb
  have HC3 := Bx.mk hc3
  have b0 := hc3.cell (fun h => h) b0
  have b1 := hc3.cell (fun h => h) b1
  have b2 := hc3.cell (fun h => h) b2
  have b3 := hc3.cell (fun h => h) b3
  have b4 := hc3.cell (fun h => h) b4
  have b5 := hc3.cell (fun h => h) b5
  have b6 := hc3.cell (fun h => h) b6
  have b7 := hc3.cell (fun h => h) HB7.out
  have bz : ∀ j, w3.frozen? ⟨b, j, none⟩ = false := fun j => by rw [hc3.frozen (p := ⟨b, j, none⟩) (fun h => h) (by show b < w2.heap.size; have := HS2.out; omega)]; exact HBZ.out j
  obtain ⟨w4, hw4⟩ : ∃ w4, w3.alloc (.cells #[.int .i64 0, .int .i64 1, .slice none 0 0, .map (some sb)] 59) = w4 := ⟨_, rfl⟩
  obtain ⟨L, hL⟩ : ∃ L, w3.heap.size = L := ⟨_, rfl⟩
  have hc4 : Ch (fun _ => False) w3 w4 := by rw [← hw4]; exact (Ch.refl _ _).alloc _
  have l0 : w4.cell? ⟨L, 0, none⟩ = some (.int .i64 0) := by rw [← hw4, ← hL]; exact ncells_at (j := 0) rfl
  have l1 : w4.cell? ⟨L, 1, none⟩ = some (.int .i64 1) := by rw [← hw4, ← hL]; exact ncells_at (j := 1) rfl
  have l2 : w4.cell? ⟨L, 2, none⟩ = some (.slice none 0 0) := by rw [← hw4, ← hL]; exact ncells_at (j := 2) rfl
  have l3 : w4.cell? ⟨L, 3, none⟩ = some (.map (some sb)) := by rw [← hw4, ← hL]; exact ncells_at (j := 3) rfl
  have b0 := hc4.cell (fun h => h) b0
  have b1 := hc4.cell (fun h => h) b1
  have b2 := hc4.cell (fun h => h) b2
  have b3 := hc4.cell (fun h => h) b3
  have b4 := hc4.cell (fun h => h) b4
  have HB5 := Bx.mk (hc4.cell (fun h => h) b5)
  have HB6 := Bx.mk (hc4.cell (fun h => h) b6)
  have HB7 := Bx.mk (hc4.cell (fun h => h) b7)
  have bz4 : ∀ j, w4.frozen? ⟨b, j, none⟩ = false := fun j => by rw [hc4.frozen (p := ⟨b, j, none⟩) (fun h => h) (show b < w3.heap.size from lt_of_cell b5)]; exact bz j
  have f0 := bz4 0
  have f1 := bz4 1
  have f2 := bz4 2
  have f3 := bz4 3
  have f4 := bz4 4
  have HBZ := Bx.mk bz4
  have HC4 := Bx.mk hc4
  have HL := Bx.mk hL
  have HBL : Bx (b < L) := ⟨by rw [← hL]; exact lt_of_cell b5⟩
  clear hmp hsb hc3 HLD bz bz4 b5 b6 b7 hc4
  go_wp2_with fail
  clear hw4 hL
  have hbL : b ≠ L := fun e => by have := HBL.out; omega
  have hLb : L ≠ b := fun e => hbL e.symm
  go_region
  obtain ⟨w5, hw5⟩ : ∃ w5, (((((w4.setCell ⟨b, 0, none⟩ (.int .i64 0)).setCell ⟨b, 1, none⟩ (.int .i64 1)).setCell ⟨b, 2, none⟩ (.slice none 0 0)).setCell ⟨b, 3, none⟩ (.map (some sb))).setCell ⟨b, 4, none⟩ (.int .i64 0)).drew = w5 := ⟨_, rfl⟩
  obtain ⟨hc5, k0, k1, k2, k3, k4, k5, k6, k7, kz⟩ := W5_facts (w5 := w5) b0 b1 b2 b3 b4 HB5.out HB6.out HB7.out HBZ.out hw5
  have l2 : w5.cell? ⟨L, 2, none⟩ = some (.slice none 0 0) := hc5.cell (p := ⟨L, 2, none⟩) (fun e => hLb e) l2
  have HC5 := Bx.mk hc5
  have HKZ := Bx.mk kz
  have HK0 := Bx.mk k0
  have HK1 := Bx.mk k1
  have HK2 := Bx.mk k2
  have HK3 := Bx.mk k3
  have HK4 := Bx.mk k4
  have HK5 := Bx.mk k5
  have HK6 := Bx.mk k6
  have HK7 := Bx.mk k7
  have HNM := Bx.mk (names_none (w := w5) (b := b) 0 none)
  rw [hw5]
  clear hw5 hc5 k0 k1 k2 k3 k4 k5 k6 k7 kz b0 b1 b2 b3 b4 l0 l1 l3 f0 f1 f2 f3 f4 HB5 HB6 HB7 HBZ
  go_wp2_with fail
  refine HNM.out.mono ?_
  rintro e w6 ⟨rfl, ho6, hc6⟩
  have HO6 := Bx.mk ho6
  have HC6 := Bx.mk hc6
  have HF1 := Bx.mk (sfile_any (w := w6) (b := b) k [108, 105, 115, 116] (hc6.cell (fun h => h) HK7.out) HK.out (by decide))
  have hls : kv [108, 105, 115, 116] = .string ⟨#[108, 105, 115, 116]⟩ := rfl
  rw [hls] at HF1
  obtain ⟨E, hE⟩ : ∃ E, w5.heap.size = E := ⟨_, rfl⟩
  rw [hE] at HO6 ⊢
  have HE := Bx.mk hE
  clear ho6 hc6 hls HNM hE
  go_wp2_with fail
  refine HF1.out.mono ?_
  rintro e w7 ⟨rfl, rfl⟩
  obtain ⟨KL, hKL⟩ : ∃ V : ByteArray, kv (fileK k [108, 105, 115, 116]) = .string V := ⟨_, rfl⟩
  rw [hKL]
  go_wp2_with (at_builtin; refine wp_app rfl (.tmp 47) (.tmp 50) elemS rfl rfl (HO6.out.alloc _) rfl (Vs.one _ _ _) ?c1 ?c2 ?c3 ?_)
  try (case c1 => intro u hu; simp at hu; subst hu; rfl)
  try (case c2 => omega)
  try (case c3 => omega)
  intro v8 w8 ho8 hg8 hb8
  obtain ⟨A8, n8, rfl, _, _⟩ := own_shape ho8
  have hc8 : Ch (fun x => x = E) w6 w8 := ((Ch.refl (fun x => x = E) w6).alloc _).grown hg8 (fun g hg => .inl (by simp [Value.ownBlock] at hg; exact hg.symm))
  have HKS : Bx (D.Kss w8 (fun b => (Value.slice A8 1 n8).ownBlock = some b) A8 1 [fileK k [108, 105, 115, 116]]) := ⟨by
    have h := Vs.of_own ho8
    rw [← hKL] at h
    exact h⟩
  have hbE : b < E := by rw [← HE.out]; exact lt_of_cell HK0.out
  have HF2 := Bx.mk (sfile_any (w := w8) (b := b) k [] (hc8.cell (fun e => by subst e; exact Nat.lt_irrefl _ hbE) (HC6.out.cell (fun h => h) HK7.out)) HK.out (by decide))
  have hls : kv [] = .string ⟨#[]⟩ := rfl
  rw [hls] at HF2
  have HC8 := Bx.mk hc8
  have HBE := Bx.mk hbE
  clear ho8 hg8 hb8 hc8 hbE hls HF1
  go_wp2_with fail
  refine HF2.out.mono ?_
  rintro e w9 ⟨rfl, rfl⟩
  have hTb : T < b := HTB.out
  have HQ : Bx (Ch (fun _ => False) w w8) := ⟨((((HC2.out.trans HC3.out (fun _ _ h => h)).trans HC4.out (fun _ _ h => h)).trans HC5.out (fun i hi e => by have := HTT.out; omega)).trans HC6.out (fun _ _ h => h)).trans HC8.out (fun i hi e => by have := HTT.out; have := HBE.out; omega)⟩
  have HCL := Bx.mk (D.pclear_any (c := n8) (HDK.out.keep HQ.out) (fileK k []) HKS.out (by omega))
  rw [clear_none _ rfl] at HCL
  have hpv : Go.Dk.pv d = .pointer (some ⟨d, 0, none⟩) := rfl
  have hkv : Go.Dk.kv (fileK k []) = kv (fileK k []) := rfl
  rw [hpv, hkv] at HCL
  obtain ⟨KP, hKP⟩ : ∃ V, kv (fileK k []) = V := ⟨_, rfl⟩
  rw [hKP] at HCL ⊢
  clear hpv hkv hKP HKS HF2
  go_wp2_with fail
  refine HCL.out.mono ?_
  rintro e wE ⟨rfl, g', mb', ad', hd', hgo⟩
  have HGO := Bx.mk hgo
  clear hd' hgo HCL
  go_wp2_with fail
  refine bodyPost_ret (v := .tuple #[.pointer (some ⟨b, 0, none⟩), .int .i64 0]) (by simp [results, Tryz.results9, go_sem]) rfl ?_
  exact open_end HT.out HPT.out HTT.out HB.out HTB.out HMP.out HSB.out HS2.out HC12.out HC3.out HC4.out HC5.out HC6.out HC8.out HGO.out.ch HGS.out HSL.out HMX.out HMS.out HE.out HK0.out HK1.out HK2.out HK3.out HK4.out HK5.out HK6.out HK7.out HKZ.out HQ.out
end
end Go.Proofs.YtbkakhfepiooaaaGreatDoor
