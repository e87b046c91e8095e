/- Lemmas and contracts of this proof. Conditions: said at each. -/
import Derived.Test.YtbkakhfepiooaaaGreatDoorQGShStart
namespace Go.Proofs.YtbkakhfepiooaaaGreatDoor
open Go.RowKit Go.Oct Go.Su Go.Sg Go.Om Go.Sh Go.Shelf

theorem zmk2 {P : Program} {t e : TypeId} {z : Value} {bytes : Nat} (T : Elem P t e z bytes) (L : Nat) (hb : bytes * L ≤ 281474976710656) (h63 : L ≤ 281474976710656) (w : World) :
    (Instr.makeSlice t (.int .i64 (L : Int)) (.int .i64 (L : Int))).run P w = .ok (.slice (some ⟨w.heap.size, 0, none⟩) L L) (w.alloc (.cells (madeCells z.cells L) e)) := by
  obtain ⟨i, hi, hz, hs, hby⟩ := info_parts T.info
  have hb' : (i.bytes : Int) * (L : Int) ≤ 281474976710656 := by
    rw [hby]
    have h : ((bytes * L : Nat) : Int) ≤ 281474976710656 := by omega
    rwa [Int.natCast_mul] at h
  have hr := run_make (P := P) w t e i z T.t hi hz .i64 .i64 L L (by omega) (by omega) hb' (by omega)
  simp only [Int.toNat_natCast, hs, Nat.mul_one] at hr
  exact hr
theorem zmade (z : Value) (n : Nat) : madeCells #[z] n = (List.replicate n z).toArray := by
  apply Array.ext'
  apply List.ext_getElem
  · simp [madeCells]
  · intro i h1 h2
    simp [madeCells, Nat.mod_one]
/-- A text of noughts. -/
def zK (L : Nat) : Key := List.replicate L 0
theorem zK_len (L : Nat) : (zK L).length = L := List.length_replicate
theorem zK_keyI (L : Nat) : keyI (List.replicate L 0) = zK L := by
  unfold keyI zK
  rw [List.map_replicate]
  rfl
theorem zconv (L : Nat) (w : World) : (convert 22 9 (.slice (some ⟨w.heap.size, 0, none⟩) L L)).run Tryz.prog (w.alloc (.cells (madeCells #[.int .u8 0] L) 5)) = .ok (kv (zK L)) (w.alloc (.cells (madeCells #[.int .u8 0] L) 5)) := by
  have hs : Sl (w.alloc (.cells (madeCells #[.int .u8 0] L) 5)) (fun b => b = w.heap.size) .u8 (some ⟨w.heap.size, 0, none⟩) L (List.replicate L 0) := by
    rw [zmade]
    have h := Vs.built w 5 (List.replicate L (.int .u8 0))
    rw [List.length_replicate] at h
    unfold Sl
    rw [List.map_replicate]
    exact h
  rw [← zK_keyI]
  exact run_convert_bytes_arg (P := Tryz.prog) _ 22 5 Tryz.underlying22 Tryz.underlying5 w.heap.size 0 L L _ hs.len (fun _ hi => sl_cells hs hi) 9 Tryz.underlying9
/-- What is told of no shard, and by Open of no disk or of a name that is none. -/
structure ShNil (ShP : World → (Nat → Prop) → Nat → Sm → Prop) : Prop where
  skip_ : ∀ (n : Int) (w : World), Calls Tryz.prog 5 #[.pointer none, .int .i64 n] w fun e w' => e = .returned (.tuple #[]) ∧ Ch (fun _ => False) w w'
  get_ : ∀ (S : ByteArray) (w : World), Calls Tryz.prog 6 #[.pointer none, .string S] w fun e w' => (∃ A c, e = .returned (.tuple #[.slice A 0 c, .bool false])) ∧ Ch (fun _ => False) w w'
  find_ : ∀ (A : Option Addr) (n c : Nat) (w : World), Calls Tryz.prog 7 #[.pointer none, .slice A n c] w fun e w' => (∃ A c, e = .returned (.tuple #[.slice A 0 c, .int .i64 10])) ∧ Ch (fun _ => False) w w'
  parts_ : ∀ (w : World), Calls Tryz.prog 8 #[.pointer none] w fun e w' => e = .returned (.tuple #[.int .i64 0, .int .i64 0, .int .i64 0]) ∧ Ch (fun _ => False) w w'
  open0_ : ∀ (S : ByteArray) (w : World), Calls Tryz.prog 9 #[.pointer none, .string S] w fun e w' => e = .returned (.tuple #[.pointer none, .int .i64 1]) ∧ Ch (fun _ => False) w w'
  openk_ : ∀ (k : Key) (w : World) (S : Nat → Prop) (d room : Nat), 1 ≤ k.length → k.length ≤ 20 → D.Pd w S d ⟨room, [], none⟩ → MaxC w → ¬ S 4 → Calls Tryz.prog 9 #[.pointer (some ⟨d, 0, none⟩), kv k] w fun e w' =>
    ∃ b, e = .returned (.tuple #[.pointer (some ⟨b, 0, none⟩), .int .i64 0]) ∧ Ch S w w'
  openn_ : ∀ (k : Key) (w : World) (S : Nat → Prop) (d room : Nat), ¬ (1 ≤ k.length ∧ k.length ≤ 20) → D.Pd w S d ⟨room, [], none⟩ → Calls Tryz.prog 9 #[.pointer (some ⟨d, 0, none⟩), kv k] w fun e w' =>
    e = .returned (.tuple #[.pointer none, .int .i64 1]) ∧ Ch S w w'
  apply_ : ∀ (i : Int) (A : Option Addr) (n c : Nat) (w : World), Calls Tryz.prog 11 #[.pointer none, .int .i64 i, .slice A n c] w fun e w' => (∃ A c, e = .returned (.slice A 0 c)) ∧ Ch (fun _ => False) w w'
  applied_ : ∀ (w : World), Calls Tryz.prog 12 #[.pointer none] w fun e w' => e = .returned (.int .i64 0) ∧ Ch (fun _ => False) w w'
  snap_ : ∀ (w : World), Calls Tryz.prog 13 #[.pointer none] w fun e w' => (∃ A c, e = .returned (.slice A 0 c)) ∧ Ch (fun _ => False) w w'
  install_ : ∀ (i : Int) (A : Option Addr) (n c : Nat) (w : World), Calls Tryz.prog 14 #[.pointer none, .int .i64 i, .slice A n c] w fun e w' => e = .returned (.int .i64 1) ∧ Ch (fun _ => False) w w'
  flush_ : ∀ (w : World), Calls Tryz.prog 15 #[.pointer none] w fun e w' => e = .returned (.int .i64 1) ∧ Ch (fun _ => False) w w'
variable {ShP : World → (Nat → Prop) → Nat → Sm → Prop}
set_option maxRecDepth 100000 in
set_option maxHeartbeats 8000000 in
theorem nothing_any (H : ShSpec ShP) (HN : ShNil ShP) (z : Int) (A : Option Addr) (n c : Nat) (L : Int) (w : World) (hmx : MaxC w) (hml : 4 < w.heap.size) :
    Calls Tryz.prog 3 #[.int .i64 z, .slice A n c, .int .i64 L] w fun e w' => e = .returned (.bool true) ∧ Ch (fun _ => False) w w' := by
  have HMX := Bx.mk hmx
  have HML := Bx.mk hml
  clear hmx hml
  by_cases h1 : 1000 < n
  · have e1 : decide ((1000 : Int) < (n : Int)) = true := decide_eq_true (by omega)
    have e1' : decide (1000 < n) = true := decide_eq_true h1
    go_enter Tryz.func3, Tryz.ntmps3
    go_wp2_with fail
    go_ret
    exact ⟨rfl, Ch.refl _ _⟩
  have e1 : decide ((1000 : Int) < (n : Int)) = false := decide_eq_false (by omega)
  have e1' : decide (1000 < n) = false := decide_eq_false h1
  by_cases h2 : L < 0
  · have e2 : decide (L < 0) = true := decide_eq_true h2
    go_enter Tryz.func3, Tryz.ntmps3
    go_wp2_with fail
    go_ret
    exact ⟨rfl, Ch.refl _ _⟩
  obtain ⟨l, rfl⟩ : ∃ l : Nat, L = (l : Int) := ⟨L.toNat, by omega⟩
  have e2 : decide ((l : Int) < 0) = false := decide_eq_false h2
  by_cases h3 : 100 < l
  · have e3 : decide ((100 : Int) < (l : Int)) = true := decide_eq_true (by omega)
    have e3' : decide (100 < l) = true := decide_eq_true h3
    go_enter Tryz.func3, Tryz.ntmps3
    go_wp2_with fail
    go_ret
    exact ⟨rfl, Ch.refl _ _⟩
  have e3 : decide ((100 : Int) < (l : Int)) = false := decide_eq_false (by omega)
  have e3' : decide (100 < l) = false := decide_eq_false h3
  have HL : Bx (l ≤ 100) := ⟨by omega⟩
  clear h1 h2 h3
  have hmk : ∀ wx : World, (Instr.makeSlice 22 (.int .i64 (l : Int)) (.int .i64 (l : Int))).run Tryz.prog wx = .ok (.slice (some ⟨wx.heap.size, 0, none⟩) l l) (wx.alloc (.cells (madeCells #[.int .u8 0] l) 5)) := fun wx => zmk2 Tb l (by have := HL.out; omega) (by have := HL.out; omega) wx
  have hcv := zconv l
  obtain ⟨S, hS⟩ : ∃ S : ByteArray, kv (zK l) = .string S := ⟨_, rfl⟩
  rw [hS] at hcv
  have HS := Bx.mk hS
  clear hS
  generalize madeCells #[Value.int .u8 0] l = mc at hcv hmk
  go_enter Tryz.func3, Tryz.ntmps3
  go_wp2_with fail
  refine (HN.skip_ z w).mono ?_
  rintro e w1 ⟨rfl, hc⟩
  have HC1 := Bx.mk hc
  clear hc
  go_wp2_with fail
  refine (HN.get_ _ w1).mono ?_
  rintro e w2 ⟨⟨A2, c2, rfl⟩, hc⟩
  have HC2 := Bx.mk (HC1.out.trans hc (fun _ _ h => h))
  clear hc HC1
  go_wp2_with fail
  refine (HN.find_ _ _ _ w2).mono ?_
  rintro e w3 ⟨⟨A3, c3, rfl⟩, hc⟩
  have HC3 := Bx.mk (HC2.out.trans hc (fun _ _ h => h))
  clear hc HC2
  go_wp2_with fail
  refine (HN.parts_ w3).mono ?_
  rintro e w4 ⟨rfl, hc⟩
  have HC4 := Bx.mk (HC3.out.trans hc (fun _ _ h => h))
  clear hc HC3
  go_wp2_with fail
  refine (HN.open0_ _ w4).mono ?_
  rintro e w5 ⟨rfl, hc⟩
  have HC5 := Bx.mk (HC4.out.trans hc (fun _ _ h => h))
  clear hc HC4
  go_wp2_with fail
  refine (D.new_any 65536 w5 (by omega)).mono ?_
  rintro e w6 (⟨h0, _⟩ | ⟨_, _, D6, rfl, hd, hD, hc⟩)
  · omega
  have HD : Bx (D.Pd w6 D6 w5.heap.size ⟨65536, [], none⟩) := ⟨hd⟩
  have HDS := Bx.mk hD
  have HC6 := Bx.mk (HC5.out.trans hc (fun _ _ h => h))
  have HC56 := Bx.mk HC5.out.size
  clear hd hD hc HC5
  have hpd : Go.Dk.pv w5.heap.size = .pointer (some ⟨w5.heap.size, 0, none⟩) := rfl
  rw [hpd]
  clear hpd
  obtain ⟨d, hd⟩ : ∃ d, w5.heap.size = d := ⟨_, rfl⟩
  rw [hd] at HD HDS HC56 ⊢
  clear hd
  go_wp2_with fail
  by_cases hk : 1 ≤ l ∧ l ≤ 20
  · have f1 : decide ((l : Int) < 1) = false := decide_eq_false (by omega)
    have f2 : decide ((20 : Int) < (l : Int)) = false := decide_eq_false (by omega)
    have f2' : decide (20 < l) = false := decide_eq_false (by omega)
    have HOK := Bx.mk (HN.openk_ (zK l) (w6.alloc (.cells mc 5)) D6 d 65536 (by rw [zK_len]; omega) (by rw [zK_len]; omega) (D.Pd.keep HD.out ((Ch.refl _ _).alloc _)) (by obtain ⟨m, hm⟩ := HMX.out; exact ⟨m, (HC6.out.alloc _).cell (fun h => h) hm⟩) (fun h => by have := HDS.out _ h; have := HML.out; have := HC56.out; omega))
    rw [HS.out] at HOK
    refine HOK.out.mono ?_
    rintro e w7 ⟨b7, rfl, hc⟩
    have HC7 : Bx (Ch (fun _ => False) w w7) := ⟨(HC6.out.alloc _).trans hc (fun i hi h => by have := HDS.out _ h; have := HC56.out; omega)⟩
    clear hc HC6 HOK HD hmk hcv
    go_wp2_with fail
    refine (HN.apply_ z A n c w7).mono ?_
    rintro e w8 ⟨⟨A8, c8, rfl⟩, hc⟩
    have HC8 := Bx.mk (HC7.out.trans hc (fun _ _ h => h))
    clear hc HC7
    go_wp2_with fail
    refine (HN.applied_ w8).mono ?_
    rintro e w9 ⟨rfl, hc⟩
    have HC9 := Bx.mk (HC8.out.trans hc (fun _ _ h => h))
    clear hc HC8
    go_wp2_with fail
    refine (HN.snap_ w9).mono ?_
    rintro e w10 ⟨⟨A10, c10, rfl⟩, hc⟩
    have HC10 := Bx.mk (HC9.out.trans hc (fun _ _ h => h))
    clear hc HC9
    go_wp2_with fail
    refine (HN.install_ z A n c w10).mono ?_
    rintro e w11 ⟨rfl, hc⟩
    have HC11 := Bx.mk (HC10.out.trans hc (fun _ _ h => h))
    clear hc HC10
    go_wp2_with fail
    refine (HN.flush_ w11).mono ?_
    rintro e w12 ⟨rfl, hc⟩
    have HC12 := Bx.mk (HC11.out.trans hc (fun _ _ h => h))
    clear hc HC11
    go_wp2_with fail
    have HKN := Bx.mk (shknown_any H w12 (by obtain ⟨m, hm⟩ := HMX.out; exact ⟨m, HC12.out.cell (fun h => h) hm⟩) (Nat.lt_of_lt_of_le HML.out HC12.out.size))
    refine HKN.out.mono ?_
    rintro e w13 ⟨rfl, hc⟩
    have HC13 := Bx.mk (HC12.out.trans hc (fun _ _ h => h))
    clear hc HC12 HKN
    go_wp2_with fail
    go_ret
    exact ⟨rfl, HC13.out⟩
  by_cases hj : l < 1
  · have f1 : decide ((l : Int) < 1) = true := decide_eq_true (by omega)
    have HOK := Bx.mk (HN.openn_ (zK l) (w6.alloc (.cells mc 5)) D6 d 65536 (by rw [zK_len]; omega) (D.Pd.keep HD.out ((Ch.refl _ _).alloc _)))
    rw [HS.out] at HOK
    refine HOK.out.mono ?_
    rintro e w7 ⟨rfl, hc⟩
    have HC7 : Bx (Ch (fun _ => False) w w7) := ⟨(HC6.out.alloc _).trans hc (fun i hi h => by have := HDS.out _ h; have := HC56.out; omega)⟩
    clear hc HC6 HOK HD hmk hcv
    go_wp2_with fail
    refine (HN.apply_ z A n c w7).mono ?_
    rintro e w8 ⟨⟨A8, c8, rfl⟩, hc⟩
    have HC8 := Bx.mk (HC7.out.trans hc (fun _ _ h => h))
    clear hc HC7
    go_wp2_with fail
    refine (HN.applied_ w8).mono ?_
    rintro e w9 ⟨rfl, hc⟩
    have HC9 := Bx.mk (HC8.out.trans hc (fun _ _ h => h))
    clear hc HC8
    go_wp2_with fail
    refine (HN.snap_ w9).mono ?_
    rintro e w10 ⟨⟨A10, c10, rfl⟩, hc⟩
    have HC10 := Bx.mk (HC9.out.trans hc (fun _ _ h => h))
    clear hc HC9
    go_wp2_with fail
    refine (HN.install_ z A n c w10).mono ?_
    rintro e w11 ⟨rfl, hc⟩
    have HC11 := Bx.mk (HC10.out.trans hc (fun _ _ h => h))
    clear hc HC10
    go_wp2_with fail
    refine (HN.flush_ w11).mono ?_
    rintro e w12 ⟨rfl, hc⟩
    have HC12 := Bx.mk (HC11.out.trans hc (fun _ _ h => h))
    clear hc HC11
    go_wp2_with fail
    have HKN := Bx.mk (shknown_any H w12 (by obtain ⟨m, hm⟩ := HMX.out; exact ⟨m, HC12.out.cell (fun h => h) hm⟩) (Nat.lt_of_lt_of_le HML.out HC12.out.size))
    refine HKN.out.mono ?_
    rintro e w13 ⟨rfl, hc⟩
    have HC13 := Bx.mk (HC12.out.trans hc (fun _ _ h => h))
    clear hc HC12 HKN
    go_wp2_with fail
    go_ret
    exact ⟨rfl, HC13.out⟩
  · have f1 : decide ((l : Int) < 1) = false := decide_eq_false (by omega)
    have f2 : decide ((20 : Int) < (l : Int)) = true := decide_eq_true (by omega)
    have f2' : decide (20 < l) = true := decide_eq_true (by omega)
    have HOK := Bx.mk (HN.openn_ (zK l) (w6.alloc (.cells mc 5)) D6 d 65536 (by rw [zK_len]; omega) (D.Pd.keep HD.out ((Ch.refl _ _).alloc _)))
    rw [HS.out] at HOK
    refine HOK.out.mono ?_
    rintro e w7 ⟨rfl, hc⟩
    have HC7 : Bx (Ch (fun _ => False) w w7) := ⟨(HC6.out.alloc _).trans hc (fun i hi h => by have := HDS.out _ h; have := HC56.out; omega)⟩
    clear hc HC6 HOK HD hmk hcv
    go_wp2_with fail
    refine (HN.apply_ z A n c w7).mono ?_
    rintro e w8 ⟨⟨A8, c8, rfl⟩, hc⟩
    have HC8 := Bx.mk (HC7.out.trans hc (fun _ _ h => h))
    clear hc HC7
    go_wp2_with fail
    refine (HN.applied_ w8).mono ?_
    rintro e w9 ⟨rfl, hc⟩
    have HC9 := Bx.mk (HC8.out.trans hc (fun _ _ h => h))
    clear hc HC8
    go_wp2_with fail
    refine (HN.snap_ w9).mono ?_
    rintro e w10 ⟨⟨A10, c10, rfl⟩, hc⟩
    have HC10 := Bx.mk (HC9.out.trans hc (fun _ _ h => h))
    clear hc HC9
    go_wp2_with fail
    refine (HN.install_ z A n c w10).mono ?_
    rintro e w11 ⟨rfl, hc⟩
    have HC11 := Bx.mk (HC10.out.trans hc (fun _ _ h => h))
    clear hc HC10
    go_wp2_with fail
    refine (HN.flush_ w11).mono ?_
    rintro e w12 ⟨rfl, hc⟩
    have HC12 := Bx.mk (HC11.out.trans hc (fun _ _ h => h))
    clear hc HC11
    go_wp2_with fail
    have HKN := Bx.mk (shknown_any H w12 (by obtain ⟨m, hm⟩ := HMX.out; exact ⟨m, HC12.out.cell (fun h => h) hm⟩) (Nat.lt_of_lt_of_le HML.out HC12.out.size))
    refine HKN.out.mono ?_
    rintro e w13 ⟨rfl, hc⟩
    have HC13 := Bx.mk (HC12.out.trans hc (fun _ _ h => h))
    clear hc HC12 HKN
    go_wp2_with fail
    go_ret
    exact ⟨rfl, HC13.out⟩
end Go.Proofs.YtbkakhfepiooaaaGreatDoor
