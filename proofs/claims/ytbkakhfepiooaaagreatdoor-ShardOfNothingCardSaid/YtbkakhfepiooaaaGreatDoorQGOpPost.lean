/- Lemmas and contracts of this proof. Conditions: said at each. -/
import Derived.Test.YtbkakhfepiooaaaGreatDoorQGOpFault
namespace Go.Proofs.YtbkakhfepiooaaaGreatDoor
section
open Go.RowKit Go.Oct Go.Su Go.Sg Go.Om
section
variable {F Q : Nat → Prop}
/-- What Decode leaves. -/
def DecPost (xs : List Int) (w : World) (e : Ending) (w' : World) : Prop := ∃ (A : Option Addr) (c : Nat), e = .returned (.tuple #[.agg #[.int .i64 (decO xs).kd, .int .i64 (decO xs).cl, .int .i64 (decO xs).sq, kv (decO xs).key, .slice A (decO xs).txt.length c], .int .i64 (decE xs)]) ∧ Fresh w (.slice A (decO xs).txt.length c) (decO xs).txt w'
/-- An op was taken: it stands at bo, the Reader at bf. -/
structure TknO (Q : Nat → Prop) (xs : List Int) (w w' : World) (bf bo : Nat) (A : Option Addr) (c : Nat) : Prop where
  cell : w'.heap[bo]? = some (.cells #[.int .i64 (takO xs).kd, .int .i64 (takO xs).cl, .int .i64 (takO xs).sq, kv (takO xs).key, .slice A (takO xs).txt.length c] 114 (0, 0))
  fr : Fresh w (.slice A (takO xs).txt.length c) (takO xs).txt w'
  rd : O.Rf Q w' bf (bb (s4 xs)) (s5 xs)
theorem rf_made {w : World} {A : Option Addr} {n c : Nat} {xs : List Int} {F : Nat → Prop} (hz : Sl w F .u8 A n xs) (hby : Byt xs) (hnc : n ≤ c) (hc : c ≤ maxLen) : O.Rf (fun b => b < w.heap.size) (w.alloc (.cells #[.slice A n c, .bool false] 252)) w.heap.size false xs := by
  refine ⟨A, n, c, heap_alloc_new w _, ?_, hnc, by unfold maxLen at hc; omega, hby, fun h => by simp at h⟩
  refine Sl.alloc (hz.mono fun b hb _ => ?_) _
  exact ⟨by omega, hb⟩
def Zb (w : World) (bo : Nat) : Prop := w.heap[bo]? = some (.cells #[.int .i64 0, .int .i64 0, .int .i64 0, .string ⟨#[]⟩, .slice none 0 0] 114 (0, 0))
theorem zb_new (w : World) : Zb (w.alloc (.cells #[.int .i64 0, .int .i64 0, .int .i64 0, .string ⟨#[]⟩, .slice none 0 0] 114)) w.heap.size := heap_alloc_new w _
theorem zb_ch {w w' : World} {bo bf : Nat} (h : Zb w bo) (hc : Ch (O.RS bf) w w') (hne : bo ≠ bf) : Zb w' bo :=
  (hc.block bo (Array.getElem?_eq_some_iff.1 h).1 hne).trans h
theorem zb_facts {w : World} {bo : Nat} (h : Zb w bo) : w.cell? ⟨bo, 0, none⟩ = some (.int .i64 0) ∧ w.cell? ⟨bo, 1, none⟩ = some (.int .i64 0) ∧ w.cell? ⟨bo, 2, none⟩ = some (.int .i64 0) ∧ w.cell? ⟨bo, 3, none⟩ = some (.string ⟨#[]⟩) ∧ w.cell? ⟨bo, 4, none⟩ = some (.slice none 0 0) ∧
    w.frozen? ⟨bo, 0, none⟩ = false ∧ w.frozen? ⟨bo, 1, none⟩ = false ∧ w.frozen? ⟨bo, 2, none⟩ = false ∧ w.frozen? ⟨bo, 3, none⟩ = false ∧ w.frozen? ⟨bo, 4, none⟩ = false := by
  unfold Zb at h
  simp [World.cell?, World.frozen?, h]
theorem ch_rs {w w1 w' : World} {bf : Nat} (h : Ch (fun _ => False) w1 w) (hc : Ch (O.RS bf) w w') (hbf : w1.heap.size ≤ bf) : Ch (fun _ => False) w1 w' :=
  h.trans hc (fun i hi (e : i = bf) => by omega)
theorem conv_rowS {w : World} {A : Option Addr} {n c : Nat} {xs : List Int} {S : ByteArray} (hS : kv (keyI xs) = .string S) (h : w.ownsRow 0 5 1 (.slice A n c) n (xs.map (Value.int .u8))) : (convert 22 9 (.slice A n c)).run Tryz.prog w = .ok (.string S) w := by
  rw [← hS]
  exact conv_row h
theorem rf_dr {w : World} {bf : Nat} {bad : Bool} {xs : List Int} (h : O.Rf Q w bf bad xs) : O.Rf Q w.drew bf bad xs :=
  O.Rf.ch h (Ch.refl (fun _ => False) w).drew (fun h => h) (fun _ _ _ h => h)
theorem rf_al {w : World} {bf : Nat} {bad : Bool} {xs : List Int} {o : Obj} (h : O.Rf Q w bf bad xs) : O.Rf Q (w.alloc o) bf bad xs :=
  O.Rf.ch h ((Ch.refl (fun _ => False) w).alloc o) (fun h => h) (fun _ _ _ h => h)
/-- All five were taken. -/
structure St5 (Q : Nat → Prop) (xs : List Int) (w1 w7 : World) (bf : Nat) (A : Option Addr) (c : Nat) : Prop where
  ch : Ch (fun _ => False) w1 w7
  rd : O.Rf Q w7 bf (bb (s4 xs)) (s5 xs)
  own : w7.ownsRow 0 5 1 (.slice A (bv (s4 xs)).length c) (bv (s4 xs)).length ((bv (s4 xs)).map (Value.int .u8))
  lies : ∀ g, (Value.slice A (bv (s4 xs)).length c).ownBlock = some g → w1.heap.size ≤ g
/-- A block that was made among them. -/
structure Zs (w1 w7 : World) (bf bo : Nat) (v : Value) : Prop where
  z : Zb w7 bo
  ne : bo ≠ bf
  low : w1.heap.size ≤ bo
  own : ∀ g, v.ownBlock = some g → g ≠ bo
theorem tkn_new {xs : List Int} {w1 w7 : World} {bf : Nat} {A : Option Addr} {c : Nat} {S : ByteArray} (h : St5 Q xs w1 w7 bf A c) (hS : kv (keyI (bv (s3 xs))) = .string S) :
    TknO Q xs w1 (w7.alloc (.cells #[.int .i64 (nv xs), .int .i64 (nv (s1 xs)), .int .i64 (nv (s2 xs)), .string S, .slice A (bv (s4 xs)).length c] 114)) bf w7.heap.size A c :=
  ⟨by rw [heap_alloc_new, ← hS]; rfl, ⟨h.own.alloc _, h.lies, h.ch.alloc _⟩, rf_al h.rd⟩
theorem tkn_old {xs : List Int} {w1 w7 : World} {bf bo : Nat} {A : Option Addr} {c : Nat} {S : ByteArray} (h : St5 Q xs w1 w7 bf A c) (hS : kv (keyI (bv (s3 xs))) = .string S) (hz : Zs w1 w7 bf bo (.slice A (bv (s4 xs)).length c)) (hQ : ∀ b, Q b → b < bf) (hbf : bf ≤ w1.heap.size) :
    TknO Q xs w1 (((((w7.setCell ⟨bo, 0, none⟩ (.int .i64 (nv xs))).setCell ⟨bo, 1, none⟩ (.int .i64 (nv (s1 xs)))).setCell ⟨bo, 2, none⟩ (.int .i64 (nv (s2 xs)))).setCell ⟨bo, 3, none⟩ (.string S)).setCell ⟨bo, 4, none⟩ (.slice A (bv (s4 xs)).length c)) bf bo A c := by
  have hC : Ch (fun b => b = bo) w7 (((((w7.setCell ⟨bo, 0, none⟩ (.int .i64 (nv xs))).setCell ⟨bo, 1, none⟩ (.int .i64 (nv (s1 xs)))).setCell ⟨bo, 2, none⟩ (.int .i64 (nv (s2 xs)))).setCell ⟨bo, 3, none⟩ (.string S)).setCell ⟨bo, 4, none⟩ (.slice A (bv (s4 xs)).length c)) :=
    (((((Ch.refl (fun b => b = bo) w7).setCell (p := ⟨bo, 0, none⟩) (.inl rfl) _).setCell (p := ⟨bo, 1, none⟩) (.inl rfl) _).setCell (p := ⟨bo, 2, none⟩) (.inl rfl) _).setCell (p := ⟨bo, 3, none⟩) (.inl rfl) _).setCell (p := ⟨bo, 4, none⟩) (.inl rfl) _
  have hb := hz.z
  unfold Zb at hb
  refine ⟨?_, ⟨hC.own h.own (fun g hg => hz.own g hg), h.lies, h.ch.trans hC (fun i hi (e : i = bo) => by have := hz.low; omega)⟩, O.Rf.ch h.rd hC (fun e => hz.ne e.symm) (fun b hq _ (e : b = bo) => by have := hQ b hq; have := hz.low; omega)⟩
  rw [show kv (takO xs).key = .string S from hS]
  simp [World.setCell, Array.getElem?_modify, hb]
  exact ⟨rfl, rfl, rfl, rfl⟩
theorem bv_len (xs : List Int) : (bv xs).length ≤ xs.length := by
  unfold bv
  cases h : takeN 0 0 xs with
  | none => simp
  | some y =>
    obtain ⟨m, r⟩ := y
    have := O.takeN_len _ _ _ _ _ h
    simp only
    split
    · simp
    · rw [List.length_take]; omega
theorem takO_len (xs : List Int) : (takO xs).key.length ≤ xs.length ∧ (takO xs).txt.length ≤ xs.length := by
  have h4 : (s4 xs).length ≤ (s3 xs).length := br_len _
  have h3 : (s3 xs).length ≤ (s2 xs).length := nr_len _
  have h2 : (s2 xs).length ≤ (s1 xs).length := nr_len _
  have h1 : (s1 xs).length ≤ xs.length := nr_len _
  have hk : (takO xs).key.length = (bv (s3 xs)).length := keyI_len _
  have ht : (takO xs).txt.length = (bv (s4 xs)).length := rfl
  have hb := bv_len (s3 xs)
  have hc := bv_len (s4 xs)
  omega
theorem op_cells {w : World} {bo : Nat} {u0 u1 u2 u3 u4 : Value} {t : TypeId} (h : w.heap[bo]? = some (.cells #[u0, u1, u2, u3, u4] t (0, 0))) :
    w.cell? ⟨bo, 0, none⟩ = some u0 ∧ w.cell? ⟨bo, 1, none⟩ = some u1 ∧ w.cell? ⟨bo, 2, none⟩ = some u2 ∧ w.cell? ⟨bo, 3, none⟩ = some u3 ∧ w.cell? ⟨bo, 4, none⟩ = some u4 := by
  simp [World.cell?, h]
theorem dec_fr {w w1 wc w4 : World} {v u0 u1 u2 u3 u4 : Value} {xs : List Int} (h : Fresh w1 v xs wc) (h4 : Ch (fun _ => False) wc w4) (hw : w.heap.size + 1 ≤ w1.heap.size) (hc1 : Ch (fun _ => False) w w1) : Fresh w v xs (((((w4.setCell ⟨w.heap.size, 0, none⟩ u0).setCell ⟨w.heap.size, 1, none⟩ u1).setCell ⟨w.heap.size, 2, none⟩ u2).setCell ⟨w.heap.size, 3, none⟩ u3).setCell ⟨w.heap.size, 4, none⟩ u4) := by
  have hC := (((((Ch.refl (fun b => b = w.heap.size) w4).setCell (p := ⟨w.heap.size, 0, none⟩) (.inl rfl) u0).setCell (p := ⟨w.heap.size, 1, none⟩) (.inl rfl) u1).setCell (p := ⟨w.heap.size, 2, none⟩) (.inl rfl) u2).setCell (p := ⟨w.heap.size, 3, none⟩) (.inl rfl) u3).setCell (p := ⟨w.heap.size, 4, none⟩) (.inl rfl) u4
  have h5 := h.keep h4
  exact ⟨hC.own h5.1 (fun g hg (e : g = w.heap.size) => by have := h5.2.1 g hg; omega), fun g hg => by have := h5.2.1 g hg; omega, (hc1.trans h5.2.2 (fun _ _ h => h)).trans hC (fun i hi (e : i = w.heap.size) => by omega)⟩
theorem DecPost.yes {xs : List Int} {w w' : World} {kd cl sq : Int} {k : Key} {txt : List Int} {A : Option Addr} {c : Nat} (h : decO xs = ⟨kd, cl, sq, k, txt⟩ ∧ decE xs = 0) (hf : Fresh w (.slice A txt.length c) txt w') : DecPost xs w (.returned (.tuple #[.agg #[.int .i64 kd, .int .i64 cl, .int .i64 sq, kv k, .slice A txt.length c], .int .i64 0])) w' := by
  unfold DecPost
  rw [h.1, h.2]
  exact ⟨A, c, rfl, hf⟩
theorem zb_ch0 {w w' : World} {bo : Nat} (h : Zb w bo) (hc : Ch (fun _ => False) w w') : Zb w' bo :=
  (hc.block bo (Array.getElem?_eq_some_iff.1 h).1 (fun h => h)).trans h
theorem dec_ch {w wc : World} {u0 u1 u2 u3 u4 : Value} (h : Ch (fun _ => False) w wc) : Ch (fun _ => False) w (((((wc.setCell ⟨w.heap.size, 0, none⟩ u0).setCell ⟨w.heap.size, 1, none⟩ u1).setCell ⟨w.heap.size, 2, none⟩ u2).setCell ⟨w.heap.size, 3, none⟩ u3).setCell ⟨w.heap.size, 4, none⟩ u4) :=
  h.trans ((((((Ch.refl (fun b => b = w.heap.size) wc).setCell (p := ⟨w.heap.size, 0, none⟩) (.inl rfl) _).setCell (p := ⟨w.heap.size, 1, none⟩) (.inl rfl) _).setCell (p := ⟨w.heap.size, 2, none⟩) (.inl rfl) _).setCell (p := ⟨w.heap.size, 3, none⟩) (.inl rfl) _).setCell (p := ⟨w.heap.size, 4, none⟩) (.inl rfl) _) (fun i hi (e : i = w.heap.size) => by omega)
theorem DecPost.no {xs : List Int} {w w' : World} (h : decO xs = aoNo ∧ decE xs = 3) (hc : Ch (fun _ => False) w w') : DecPost xs w (.returned (.tuple #[.agg #[.int .i64 0, .int .i64 0, .int .i64 0, .string ⟨#[]⟩, .slice none 0 0], .int .i64 3])) w' := by
  unfold DecPost
  rw [h.1, h.2]
  exact ⟨none, 0, rfl, fresh_none hc⟩
end
end
section
open Go.RowKit Go.Oct Go.Su Go.Sg Go.Om
theorem newrd_any (A : Option Addr) (n c : Nat) (xs : List Int) (w : World) (F : Nat → Prop) (hz : Sl w F .u8 A n xs) (hb : n ≤ 100000000000000) (hnc : n ≤ c) (hcm : c ≤ maxLen) (hby : Byt xs) :
    Calls Tryz.prog 76 #[.slice A n c] w fun e w' => ∃ br, e = .returned (.pointer (some ⟨br, 0, none⟩)) ∧ w.heap.size ≤ br ∧ O.RdQ (fun b => w.heap.size ≤ b ∧ b < br) w' br false xs ∧ Ch (fun _ => False) w w' := by
  obtain rfl := hz.len
  go_enter Tryz.func76, Tryz.ntmps76
  go_wp2_with fail
  refine (O.join_any [xs] _ 1 1 _ (fun _ => True) (by omega) (Sls.one _ hz hnc hcm (fun _ _ _ => trivial) trivial) (by simpa [cat] using hb)).mono ?_
  rintro e w1 ⟨v, rfl, hf⟩
  have e1 : cat [xs] = xs := by simp [cat]
  rw [e1] at hf
  have hf := O.Fresh.after ((Ch.refl (fun _ => False) w).alloc _) hf
  obtain ⟨A2, c2, rfl, hl2, hm2⟩ := own_shape hf.1
  have hb1 := heap_alloc_new w1 (.cells #[.slice A2 xs.length c2, .bool false] 219)
  have hR : O.RdQ (fun b => w.heap.size ≤ b ∧ b < w1.heap.size) (w1.alloc (.cells #[.slice A2 xs.length c2, .bool false] 219)) w1.heap.size false xs :=
    ⟨A2, xs.length, c2, hb1, Sl.alloc ((Sl.of_own hf.1).mono fun b h hg => ⟨by omega, hf.2.1 b hg, h⟩) _, hl2, by unfold maxLen at hm2; omega, hby, fun h => by cases h⟩
  have hC := hf.2.2.alloc (.cells #[.slice A2 xs.length c2, .bool false] 219)
  have hs := hf.2.2.size
  have HR := Bx.mk hR
  have HC := Bx.mk hC
  clear hf hb1 hR hC hz
  go_wp2
  go_returns
  exact ⟨_, rfl, hs, HR.out, HC.out⟩
theorem rdq_keep {Q S : Nat → Prop} {w w' : World} {br : Nat} {bad : Bool} {xs : List Int} (h : O.RdQ Q w br bad xs) (hc : Ch S w w') (h0 : ¬ S br) (hS : ∀ b, Q b → b < w.heap.size → ¬ S b) : O.RdQ Q w' br bad xs := by
  have hlt := O.RdQ.lt h
  obtain ⟨A, n, c, hblk, hsl, rest⟩ := h
  exact ⟨A, n, c, (hc.block br hlt h0).trans hblk, hsl.ch hc (fun b hq hb => hS b hq.2 hb), rest⟩
/-- An op's memory. -/
def OpB (w : World) (bo : Nat) (a b c : Int) (k x : Value) : Prop := w.heap[bo]? = some (.cells #[.int .i64 a, .int .i64 b, .int .i64 c, k, x] 114 (0, 0))
section
variable {w w' : World} {bo : Nat} {a b c : Int} {k x : Value}
theorem OpB.ch {S : Nat → Prop} (h : OpB w bo a b c k x) (hc : Ch S w w') (h0 : ¬ S bo) : OpB w' bo a b c k x := (hc.block bo (Array.getElem?_eq_some_iff.1 h).1 h0).trans h
theorem OpB.facts (h : OpB w bo a b c k x) : w.cell? ⟨bo, 0, none⟩ = some (.int .i64 a) ∧ w.cell? ⟨bo, 1, none⟩ = some (.int .i64 b) ∧ w.cell? ⟨bo, 2, none⟩ = some (.int .i64 c) ∧ w.cell? ⟨bo, 3, none⟩ = some k ∧ w.cell? ⟨bo, 4, none⟩ = some x ∧
    w.frozen? ⟨bo, 0, none⟩ = false ∧ w.frozen? ⟨bo, 1, none⟩ = false ∧ w.frozen? ⟨bo, 2, none⟩ = false ∧ w.frozen? ⟨bo, 3, none⟩ = false ∧ w.frozen? ⟨bo, 4, none⟩ = false := by
  unfold OpB at h
  simp [World.cell?, World.frozen?, h]
theorem OpB.set0 (h : OpB w bo a b c k x) (u : Int) : OpB (w.setCell ⟨bo, 0, none⟩ (.int .i64 u)) bo u b c k x := by
  unfold OpB at h ⊢
  simp [World.setCell, Array.getElem?_modify, h]
theorem OpB.set1 (h : OpB w bo a b c k x) (u : Int) : OpB (w.setCell ⟨bo, 1, none⟩ (.int .i64 u)) bo a u c k x := by
  unfold OpB at h ⊢
  simp [World.setCell, Array.getElem?_modify, h]
theorem OpB.set2 (h : OpB w bo a b c k x) (u : Int) : OpB (w.setCell ⟨bo, 2, none⟩ (.int .i64 u)) bo a b u k x := by
  unfold OpB at h ⊢
  simp [World.setCell, Array.getElem?_modify, h]
theorem OpB.set3 (h : OpB w bo a b c k x) (u : Value) : OpB (w.setCell ⟨bo, 3, none⟩ u) bo a b c u x := by
  unfold OpB at h ⊢
  simp [World.setCell, Array.getElem?_modify, h]
theorem OpB.set4 (h : OpB w bo a b c k x) (u : Value) : OpB (w.setCell ⟨bo, 4, none⟩ u) bo a b c k u := by
  unfold OpB at h ⊢
  simp [World.setCell, Array.getElem?_modify, h]
end
theorem ch_set {w : World} {bo i : Nat} {u : Value} : Ch (fun b => b = bo) w (w.setCell ⟨bo, i, none⟩ u) := (Ch.refl (fun b => b = bo) w).setCell (p := ⟨bo, i, none⟩) (.inl rfl) _
section
variable {Q : Nat → Prop}
set_option maxHeartbeats 1000000 in
/-- Three numbers into an op. -/
theorem nums3_any (br bs bo : Nat) (bad : Bool) (xs : List Int) (a b c : Int) (k x : Value) (w : World) (hr : O.RdQ Q w br bad xs) (hq : ∀ b, Q b → b ≠ bo)
    (h0 : w.cell? ⟨bs, 0, none⟩ = some (.pointer (some ⟨bo, 0, none⟩))) (h1 : w.cell? ⟨bs, 1, none⟩ = some (.pointer (some ⟨bo, 1, none⟩))) (h2 : w.cell? ⟨bs, 2, none⟩ = some (.pointer (some ⟨bo, 2, none⟩)))
    (ho : OpB w bo a b c k x) (n1 : br ≠ bs) (n2 : br ≠ bo) (n3 : bs ≠ bo) :
    Calls Tryz.prog 111 #[.pointer (some ⟨br, 0, none⟩), .slice (some ⟨bs, 0, none⟩) 3 3] w fun e w' => e = .returned (.tuple #[]) ∧
      O.RdQ Q w' br (nb (nr (nr xs))) (nr (nr (nr xs))) ∧ OpB w' bo (nv xs) (nv (nr xs)) (nv (nr (nr xs))) k x ∧ Ch (fun b => b = br ∨ b = bo) w w' := by
  have HA := Bx.mk (O.num_step br bad xs w hr)
  have HO := Bx.mk ho
  have HQ := Bx.mk hq
  clear hr ho hq
  go_enter Tryz.func111, Tryz.ntmps111
  go_wp2
  refine wp_loop_rounds 4 ?_
  rw [rounds_succ]
  go_wp2_with fail
  refine HA.out.mono ?_
  rintro e w1 ⟨rfl, hr1, hc1⟩
  clear HA
  have ho1 := HO.out.ch hc1 (fun h => n2 h.symm)
  have g11 := hc1.cell (p := ⟨bs, 1, none⟩) (fun h => n1 h.symm) h1
  have g12 := hc1.cell (p := ⟨bs, 2, none⟩) (fun h => n1 h.symm) h2
  obtain ⟨z0, _, _, _, _, y0, _, _, _, _⟩ := ho1.facts
  have hC2 : Ch (fun b => b = bo) w1 (w1.setCell ⟨bo, 0, none⟩ (.int .i64 (nv xs))) := ch_set
  have HO2 := Bx.mk (ho1.set0 (nv xs))
  have hr2 := rdq_keep hr1 hC2 n2 fun b hb _ h => HQ.out b hb h
  have g21 := hC2.cell (p := ⟨bs, 1, none⟩) (fun h => n3 h) g11
  have g22 := hC2.cell (p := ⟨bs, 2, none⟩) (fun h => n3 h) g12
  have HC : Bx (Ch (fun b => b = br ∨ b = bo) w (w1.setCell ⟨bo, 0, none⟩ (.int .i64 (nv xs)))) := ⟨(hc1.mono (S := fun b => b = br ∨ b = bo) fun _ _ h => .inl h).trans hC2 fun _ _ h => .inr h⟩
  have HB := Bx.mk (O.num_step br _ _ _ hr2)
  clear hr1 hc1 ho1 g11 g12 hC2 hr2 h0 h1 h2 HO
  go_wp2_with fail
  rw [rounds_succ]
  go_wp2_with fail
  refine HB.out.mono ?_
  rintro e w3 ⟨rfl, hr3, hc3⟩
  clear HB z0 y0
  have ho3 := HO2.out.ch hc3 (fun h => n2 h.symm)
  have g32 := hc3.cell (p := ⟨bs, 2, none⟩) (fun h => n1 h.symm) g22
  obtain ⟨_, z1, _, _, _, _, y1, _, _, _⟩ := ho3.facts
  have hC4 : Ch (fun b => b = bo) w3 (w3.setCell ⟨bo, 1, none⟩ (.int .i64 (nv (nr xs)))) := ch_set
  have HO4 := Bx.mk (ho3.set1 (nv (nr xs)))
  have hr4 := rdq_keep hr3 hC4 n2 fun b hb _ h => HQ.out b hb h
  have g42 := hC4.cell (p := ⟨bs, 2, none⟩) (fun h => n3 h) g32
  have HC4 := Bx.mk ((HC.out.trans hc3 fun _ _ h => .inl h).trans hC4 fun _ _ h => .inr h)
  have HB3 := Bx.mk (O.num_step br _ _ _ hr4)
  clear HO2 HC g21 g22 g32 hC4 hc3 hr3 hr4 ho3
  go_wp2_with fail
  rw [rounds_succ]
  go_wp2_with fail
  refine HB3.out.mono ?_
  rintro e w5 ⟨rfl, hr5, hc5⟩
  clear HB3 z1 y1
  have ho5 := HO4.out.ch hc5 (fun h => n2 h.symm)
  obtain ⟨_, _, z2, _, _, _, _, y2, _, _⟩ := ho5.facts
  have hC6 : Ch (fun b => b = bo) w5 (w5.setCell ⟨bo, 2, none⟩ (.int .i64 (nv (nr (nr xs))))) := ch_set
  have HO6 := Bx.mk (ho5.set2 (nv (nr (nr xs))))
  have HR6 := Bx.mk (rdq_keep hr5 hC6 n2 fun b hb _ h => HQ.out b hb h)
  have HC6 := Bx.mk ((HC4.out.trans hc5 fun _ _ h => .inl h).trans hC6 fun _ _ h => .inr h)
  clear HO4 HC4 g42 hC6 hc5 hr5 ho5
  go_wp2_with fail
  rw [rounds_succ]
  go_wp2
  go_returns
  exact ⟨rfl, HR6.out, HO6.out, HC6.out⟩
/-- A number's memory. -/
def Iv (w : World) (b : Nat) (v : Int) : Prop := w.heap[b]? = some (.cells #[.int .i64 v] 3 (0, 0))
theorem Iv.facts {w : World} {b : Nat} {v : Int} (h : Iv w b v) : w.cell? ⟨b, 0, none⟩ = some (.int .i64 v) ∧ w.frozen? ⟨b, 0, none⟩ = false := by unfold Iv at h; simp [World.cell?, World.frozen?, h]
theorem Iv.ch {w w' : World} {S : Nat → Prop} {b : Nat} {v : Int} (h : Iv w b v) (hc : Ch S w w') (hS : ¬ S b) : Iv w' b v := (hc.block b (Array.getElem?_eq_some_iff.1 h).1 hS).trans h
theorem Iv.set_ {w : World} {b : Nat} {v : Int} (h : Iv w b v) (u : Int) : Iv (w.setCell ⟨b, 0, none⟩ (.int .i64 u)) b u := by
  unfold Iv at h ⊢
  simp [World.setCell, Array.getElem?_modify, h]
set_option maxHeartbeats 1000000 in
/-- Two numbers into two places. -/
theorem nums2_any (br bs ba bc : Nat) (bad : Bool) (xs : List Int) (va vc : Int) (w : World) (hr : O.RdQ Q w br bad xs) (hq : ∀ b, Q b → b ≠ ba ∧ b ≠ bc)
    (h0 : w.cell? ⟨bs, 0, none⟩ = some (.pointer (some ⟨ba, 0, none⟩))) (h1 : w.cell? ⟨bs, 1, none⟩ = some (.pointer (some ⟨bc, 0, none⟩)))
    (ha : Iv w ba va) (hc : Iv w bc vc) (n1 : br ≠ bs) (n2 : br ≠ ba) (n3 : br ≠ bc) (n4 : bs ≠ ba) (n6 : ba ≠ bc) :
    Calls Tryz.prog 111 #[.pointer (some ⟨br, 0, none⟩), .slice (some ⟨bs, 0, none⟩) 2 2] w fun e w' => e = .returned (.tuple #[]) ∧
      O.RdQ Q w' br (nb (nr xs)) (nr (nr xs)) ∧ Iv w' ba (nv xs) ∧ Iv w' bc (nv (nr xs)) ∧ Ch (fun b => b = br ∨ b = ba ∨ b = bc) w w' := by
  have HA := Bx.mk (O.num_step br bad xs w hr)
  have HVA := Bx.mk ha
  have HVC := Bx.mk hc
  have HQ := Bx.mk hq
  clear hr ha hc hq
  go_enter Tryz.func111, Tryz.ntmps111
  go_wp2
  refine wp_loop_rounds 3 ?_
  rw [rounds_succ]
  go_wp2_with fail
  refine HA.out.mono ?_
  rintro e w1 ⟨rfl, hr1, hc1⟩
  clear HA
  have ha1 := HVA.out.ch hc1 (fun h => n2 h.symm)
  have hv1 := HVC.out.ch hc1 (fun h => n3 h.symm)
  have g11 := hc1.cell (p := ⟨bs, 1, none⟩) (fun h => n1 h.symm) h1
  obtain ⟨z0, y0⟩ := ha1.facts
  have hC2 : Ch (fun b => b = ba) w1 (w1.setCell ⟨ba, 0, none⟩ (.int .i64 (nv xs))) := ch_set
  have HA2 := Bx.mk (ha1.set_ (nv xs))
  have HV2 := Bx.mk (hv1.ch hC2 (fun h => n6 h.symm))
  have hr2 := rdq_keep hr1 hC2 n2 fun b hb _ h => (HQ.out b hb).1 h
  have g21 := hC2.cell (p := ⟨bs, 1, none⟩) (fun h => n4 h) g11
  have HC : Bx (Ch (fun b => b = br ∨ b = ba ∨ b = bc) w (w1.setCell ⟨ba, 0, none⟩ (.int .i64 (nv xs)))) := ⟨(hc1.mono (S := fun b => b = br ∨ b = ba ∨ b = bc) fun _ _ h => .inl h).trans hC2 fun _ _ h => .inr (.inl h)⟩
  have HB := Bx.mk (O.num_step br _ _ _ hr2)
  clear hr1 hc1 ha1 hv1 g11 hC2 hr2 h0 h1 HVA HVC
  go_wp2_with fail
  rw [rounds_succ]
  go_wp2_with fail
  refine HB.out.mono ?_
  rintro e w3 ⟨rfl, hr3, hc3⟩
  clear HB z0 y0
  have hv3 := HV2.out.ch hc3 (fun h => n3 h.symm)
  have ha3 := HA2.out.ch hc3 (fun h => n2 h.symm)
  obtain ⟨z1, y1⟩ := hv3.facts
  have hC4 : Ch (fun b => b = bc) w3 (w3.setCell ⟨bc, 0, none⟩ (.int .i64 (nv (nr xs)))) := ch_set
  have HV4 := Bx.mk (hv3.set_ (nv (nr xs)))
  have HA4 := Bx.mk (ha3.ch hC4 n6)
  have HR4 := Bx.mk (rdq_keep hr3 hC4 n3 fun b hb _ h => (HQ.out b hb).2 h)
  have HC4 := Bx.mk ((HC.out.trans hc3 fun _ _ h => .inl h).trans hC4 fun _ _ h => .inr (.inr h))
  clear HA2 HV2 HC g21 hC4 hc3 hr3 hv3 ha3
  go_wp2_with fail
  rw [rounds_succ]
  go_wp2
  go_returns
  exact ⟨rfl, HR4.out, HA4.out, HV4.out, HC4.out⟩
end
end
section
open Go.RowKit Go.Oct Go.Su Go.Sg Go.Om
theorem set5_ch {w wc : World} {bq : Nat} {u0 u1 u2 u3 u4 : Value} (h : Ch (fun _ => False) w wc) (hb : w.heap.size = bq) : Ch (fun _ => False) w (((((wc.setCell ⟨bq, 0, none⟩ u0).setCell ⟨bq, 1, none⟩ u1).setCell ⟨bq, 2, none⟩ u2).setCell ⟨bq, 3, none⟩ u3).setCell ⟨bq, 4, none⟩ u4) :=
  h.trans ((((((Ch.refl (fun b => b = bq) wc).setCell (p := ⟨bq, 0, none⟩) (.inl rfl) _).setCell (p := ⟨bq, 1, none⟩) (.inl rfl) _).setCell (p := ⟨bq, 2, none⟩) (.inl rfl) _).setCell (p := ⟨bq, 3, none⟩) (.inl rfl) _).setCell (p := ⟨bq, 4, none⟩) (.inl rfl) _) (fun i hi (e : i = bq) => by omega)
theorem set5_fr {w wc : World} {bq : Nat} {v u0 u1 u2 u3 u4 : Value} {xs : List Int} (h : Fresh w v xs wc) (hb : w.heap.size = bq) (hne : ∀ g, v.ownBlock = some g → g ≠ bq) : Fresh w v xs (((((wc.setCell ⟨bq, 0, none⟩ u0).setCell ⟨bq, 1, none⟩ u1).setCell ⟨bq, 2, none⟩ u2).setCell ⟨bq, 3, none⟩ u3).setCell ⟨bq, 4, none⟩ u4) :=
  ⟨((((((Ch.refl (fun b => b = bq) wc).setCell (p := ⟨bq, 0, none⟩) (.inl rfl) _).setCell (p := ⟨bq, 1, none⟩) (.inl rfl) _).setCell (p := ⟨bq, 2, none⟩) (.inl rfl) _).setCell (p := ⟨bq, 3, none⟩) (.inl rfl) _).setCell (p := ⟨bq, 4, none⟩) (.inl rfl) _).own h.1 (fun g hg => hne g hg), h.2.1, set5_ch h.2.2 hb⟩
section
variable {F : Nat → Prop}
set_option maxHeartbeats 2000000 in
theorem decode_any (xs : List Int) (A : Option Addr) (n c : Nat) (w : World) (hz : Sl w F .u8 A n xs) (hby : Byt xs) (hn : n ≤ 90000) (hnc : n ≤ c) (hc : c ≤ maxLen) :
    Calls Tryz.prog 69 #[.slice A n c] w (DecPost xs w) := by
  have HN : Bx (xs.length ≤ 90000) := ⟨by rw [hz.len]; omega⟩
  obtain ⟨w1, hw1⟩ : ∃ w1, w.alloc (.cells #[.int .i64 0, .int .i64 0, .int .i64 0, .string ⟨#[]⟩, .slice none 0 0] 114) = w1 := ⟨_, rfl⟩
  obtain ⟨bq, hbq⟩ : ∃ bq, w.heap.size = bq := ⟨_, rfl⟩
  obtain ⟨w2, hw2⟩ : ∃ w2, w1.alloc (.cells #[.int .i64 0, .int .i64 0, .int .i64 0, .string ⟨#[]⟩, .slice none 0 0] 114) = w2 := ⟨_, rfl⟩
  have hs1 : w1.heap.size = bq + 1 := by rw [← hw1, ← hbq, World.size_alloc]
  have hs2 : w2.heap.size = bq + 2 := by rw [← hw2, World.size_alloc, hs1]
  have hC1 : Ch (fun _ => False) w w1 := by rw [← hw1]; exact (Ch.refl _ _).alloc _
  have hC12 : Ch (fun _ => False) w1 w2 := by rw [← hw2]; exact (Ch.refl _ _).alloc _
  have hC2 := hC1.trans hC12 (fun _ _ h => h)
  have hzq : OpB w2 bq 0 0 0 (.string ⟨#[]⟩) (.slice none 0 0) := by
    refine OpB.ch (w := w1) ?_ hC12 (fun h => h)
    rw [← hw1, ← hbq]; exact heap_alloc_new w _
  have hzo : OpB w2 (bq + 1) 0 0 0 (.string ⟨#[]⟩) (.slice none 0 0) := by
    rw [← hw2, ← hs1]; exact heap_alloc_new w1 _
  have HR := Bx.mk (newrd_any A n c xs w2 F (hz.ch hC2 (fun _ _ _ h => h)) (by omega) hnc hc hby)
  have HZQ := Bx.mk hzq
  have HZO := Bx.mk hzo
  have HC2 := Bx.mk hC2
  have HBQ := Bx.mk hbq
  clear hz hby hC1 hC12 hC2 hzq hzo
  go_enter Tryz.func69, Tryz.ntmps69
  go_wp2_with fail
  refine HR.out.mono ?_
  rintro e w3 ⟨br, rfl, hbr, hR3, hC3⟩
  rw [hs2] at hbr hR3
  have hC03 := HC2.out.trans hC3 (fun _ _ h => h)
  have hs3 := hC3.size
  obtain ⟨bs, hbs⟩ : ∃ bs, w3.heap.size = bs := ⟨_, rfl⟩
  have hlt3 := O.RdQ.lt hR3
  have hC34 := (Ch.refl (fun _ => False) w3).alloc (.cells #[.pointer (some ⟨bq + 1, 0, none⟩), .pointer (some ⟨bq + 1, 1, none⟩), .pointer (some ⟨bq + 1, 2, none⟩)] 194)
  have HM := Bx.mk (nums3_any br w3.heap.size (bq + 1) false xs 0 0 0 (.string ⟨#[]⟩) (.slice none 0 0) _ (rdq_keep hR3 hC34 (fun h => h) (fun _ _ _ h => h)) (fun b hb e => by have := hb.1; omega)
    (ncells_at (j := 0) rfl) (ncells_at (j := 1) rfl) (ncells_at (j := 2) rfl) ((HZO.out.ch hC3 (fun h => h)).ch hC34 (fun h => h)) (by omega) (by omega) (by omega))
  have HZQ4 := Bx.mk ((HZQ.out.ch hC3 (fun h => h)).ch hC34 (fun h => h))
  have HC4 := Bx.mk (hC03.alloc (.cells #[.pointer (some ⟨bq + 1, 0, none⟩), .pointer (some ⟨bq + 1, 1, none⟩), .pointer (some ⟨bq + 1, 2, none⟩)] 194))
  have HBR := Bx.mk hbr
  clear hR3 hC3 hC03 hs3 hlt3 hC34 HR HC2 HZQ HZO hbs hbr
  go_wp2_with fail
  refine HM.out.mono ?_
  rintro e w5 ⟨rfl, hR5, hO5, hC5⟩
  have hR5 : O.RdQ (fun b => bq + 2 ≤ b ∧ b < br) w5 br (nb (s2 xs)) (s3 xs) := hR5
  have hO5 : OpB w5 (bq + 1) (takO xs).kd (takO xs).cl (takO xs).sq (.string ⟨#[]⟩) (.slice none 0 0) := hO5
  have hZ5 := HZQ4.out.ch hC5 (fun h => by have := HBR.out; omega)
  have hC05 := HC4.out.trans hC5 (fun i hi h => by have := HBR.out; have := HBQ.out; omega)
  have ho5 : (s5 xs).length ≤ (s4 xs).length := br_len _
  have ho4 : (s4 xs).length ≤ (s3 xs).length := br_len _
  have ho3 : (s3 xs).length ≤ (s2 xs).length := nr_len _
  have ho2 : (s2 xs).length ≤ (s1 xs).length := nr_len _
  have ho1 : (s1 xs).length ≤ xs.length := nr_len _
  have hM := HN.out
  have HB5 := Bx.mk (O.bytes_step br _ (s3 xs) w5 (by omega) hR5)
  have HLN : Bx ((s4 xs).length ≤ 90000) := ⟨by omega⟩
  have HO5 := Bx.mk hO5
  have HZ5 := Bx.mk hZ5
  have HC5 := Bx.mk hC05
  clear hR5 hO5 hC5 hZ5 hC05 ho5 ho4 ho3 ho2 ho1 hM HM HC4 HZQ4 hw1 hw2 hs1 hs2
  go_wp2_with fail
  refine HB5.out.mono ?_
  rintro e w6 ⟨v6, rfl, hrow6, hR6, hC6⟩
  have hR6 : O.RdQ (fun b => bq + 2 ≤ b ∧ b < br) w6 br (bb (s3 xs)) (s4 xs) := hR6
  obtain ⟨A6, c6, rfl, _, _⟩ := own_shape hrow6.1
  obtain ⟨SK, hSK⟩ : ∃ S : ByteArray, kv (keyI (bv (s3 xs))) = .string S := ⟨_, rfl⟩
  have hcv := conv_rowS hSK hrow6.1
  have HSK := Bx.mk hSK
  have hO6 := HO5.out.ch hC6 (fun (h : bq + 1 = br) => by have := HBR.out; omega)
  have hZ6 := HZ5.out.ch hC6 (fun (h : bq = br) => by have := HBR.out; omega)
  have hC06 := HC5.out.trans hC6 (fun i hi (h : i = br) => by have := HBR.out; have := HBQ.out; omega)
  obtain ⟨_, _, _, z3, _, _, _, _, y3, _⟩ := hO6.facts
  obtain ⟨w7, hw7⟩ : ∃ w7, w6.setCell ⟨bq + 1, 3, none⟩ (.string SK) = w7 := ⟨_, rfl⟩
  have hC67 : Ch (fun b => b = bq + 1) w6 w7 := by rw [← hw7]; exact ch_set
  have hO7 := hO6.set3 (.string SK)
  rw [hw7] at hO7
  have hZ7 := hZ6.ch hC67 (by omega)
  have hC07 := hC06.trans hC67 (fun i hi (h : i = bq + 1) => by have := HBQ.out; omega)
  have hR7 := rdq_keep hR6 hC67 (fun (h : br = bq + 1) => by have := HBR.out; omega) (fun b hb _ (h : b = bq + 1) => by have := hb.1; omega)
  have HB7 := Bx.mk (O.bytes_step br _ (s4 xs) w7 (Nat.le_trans HLN.out (by omega)) hR7)
  have HO7 := Bx.mk hO7
  have HZ7 := Bx.mk hZ7
  have HC7 := Bx.mk hC07
  have HSZ7 : Bx (w.heap.size ≤ w7.heap.size ∧ bq + 2 ≤ w7.heap.size) := ⟨⟨hC07.size, by have := (Array.getElem?_eq_some_iff.1 hO7).1; omega⟩⟩
  clear hrow6 hR6 hC6 hO6 hZ6 hC06 hC67 hO7 hZ7 hC07 hR7 hSK HB5 HO5 HZ5 HC5
  go_wp2_with fail
  refine HB7.out.mono ?_
  rintro e w8 ⟨v8, rfl, hrow8, hR8, hC8⟩
  clear hw7 z3 y3 hcv
  have hR8 : O.RdQ (fun b => bq + 2 ≤ b ∧ b < br) w8 br (bb (s4 xs)) (s5 xs) := hR8
  obtain ⟨m, hm⟩ : ∃ m, (bv (s4 xs)).length = m := ⟨_, rfl⟩
  obtain ⟨A8, c8, rfl, h81, h82⟩ := own_shape hrow8.1
  have hO8 := HO7.out.ch hC8 (fun (h : bq + 1 = br) => by have := HBR.out; omega)
  have hZ8 := HZ7.out.ch hC8 (fun (h : bq = br) => by have := HBR.out; omega)
  have hC08 := HC7.out.trans hC8 (fun i hi (h : i = br) => by have := HBR.out; have := HBQ.out; omega)
  obtain ⟨_, _, _, _, z4, _, _, _, _, y4⟩ := hO8.facts
  rw [hm]
  obtain ⟨w9, hw9⟩ : ∃ w9, w8.setCell ⟨bq + 1, 4, none⟩ (.slice A8 m c8) = w9 := ⟨_, rfl⟩
  have hC89 : Ch (fun b => b = bq + 1) w8 w9 := by rw [← hw9]; exact ch_set
  have hO9 := hO8.set4 (.slice A8 m c8)
  rw [hw9] at hO9
  have hZ9 := hZ8.ch hC89 (by omega)
  have hC09 := hC08.trans hC89 (fun i hi (h : i = bq + 1) => by have := HBQ.out; omega)
  have hR9 := rdq_keep hR8 hC89 (fun (h : br = bq + 1) => by have := HBR.out; omega) (fun b hb _ (h : b = bq + 1) => by have := hb.1; omega)
  have hF9 : Fresh w (.slice A8 m c8) (bv (s4 xs)) w9 := by
    rw [← hm]
    refine ⟨hC89.own hrow8.1 (fun g hg (h : g = bq + 1) => ?_), fun g hg => ?_, hC09⟩
    · have := hrow8.2 g hg
      have := HSZ7.out
      omega
    · have := hrow8.2 g hg
      have := HSZ7.out
      omega
  have HNE9 : Bx (∀ g, (Value.slice A8 m c8).ownBlock = some g → g ≠ bq) := ⟨fun g hg e => by
    rw [← hm] at hg
    have := hrow8.2 g hg
    have := HSZ7.out
    omega⟩
  have HW9 := Bx.mk (O.whole_any br _ _ w9 hR9)
  have HOK9 := Bx.mk (And.intro hO9 hZ9)
  have HO9 := Bx.mk hO9
  have HZ9 := Bx.mk hZ9
  have HF9 := Bx.mk hF9
  have HM := Bx.mk hm
  clear hrow8 hR8 hC8 hO8 hZ8 hC08 hC89 hO9 hZ9 hC09 hR9 hF9 HB7 HO7 HZ7 HC7 hm h81 h82
  go_wp2_with fail
  refine HW9.out.mono ?_
  rintro e w10 ⟨rfl, rfl⟩
  obtain ⟨z0, z1, z2, z3, z4, y0, y1, y2, y3, y4⟩ := HZ9.out.facts
  have HENO : Bx (endO xs = (!bb (s4 xs) && (s5 xs).isEmpty)) := ⟨rfl⟩
  obtain ⟨en, hen⟩ : ∃ en, (!bb (s4 xs) && (s5 xs).isEmpty) = en := ⟨_, rfl⟩
  rw [hen] at HENO ⊢
  clear HW9 hen
  cases en with
  | false =>
    have HNO : Bx (decO xs = aoNo ∧ decE xs = 3) := ⟨by
      have hne : ¬ (endO xs = true ∧ errO (takO xs) = 0) := fun h => by rw [HENO.out] at h; simp at h
      unfold decO decE
      rw [if_neg hne, if_neg hne]
      exact ⟨rfl, rfl⟩⟩
    go_wp2_with fail
    refine bodyPost_ret (v := .tuple #[.agg #[.int .i64 0, .int .i64 0, .int .i64 0, .string ⟨#[]⟩, .slice none 0 0], .int .i64 3]) (by simp [results, Tryz.results69, go_sem, z0, z1, z2, z3, z4]) rfl ?_
    exact DecPost.no HNO.out (set5_ch HF9.out.2.2 HBQ.out)
  | true =>
    obtain ⟨kd, cl, sq, kk, txt, hO⟩ : ∃ kd cl sq kk txt, takO xs = ⟨kd, cl, sq, kk, txt⟩ := ⟨_, _, _, _, _, rfl⟩
    have htx : bv (s4 xs) = txt := by have : (takO xs).txt = txt := by rw [hO]
                                      exact this
    have hkk : keyI (bv (s3 xs)) = kk := by have : (takO xs).key = kk := by rw [hO]
                                            exact this
    obtain ⟨k0, k1, k2, k3, k4, _, _, _, _, _⟩ := HO9.out.facts
    rw [hO] at k0 k1 k2
    have k0 : w9.cell? ⟨bq + 1, 0, none⟩ = some (.int .i64 kd) := k0
    have k1 : w9.cell? ⟨bq + 1, 1, none⟩ = some (.int .i64 cl) := k1
    have k2 : w9.cell? ⟨bq + 1, 2, none⟩ = some (.int .i64 sq) := k2
    have htl := (takO_len xs).1
    rw [hO] at htl
    have HFL := Bx.mk (fault_any kd cl sq kk txt A8 m c8 w9 (by rw [← htx]; exact HM.out) (by have h : kk.length ≤ xs.length := htl; have := HN.out; omega))
    have hsk := HSK.out
    rw [hkk] at hsk
    rw [hsk] at HFL
    have HSK2 := Bx.mk hsk
    have HTX := Bx.mk htx
    have HOE := Bx.mk hO
    obtain ⟨er, her⟩ : ∃ er, errO ⟨kd, cl, sq, kk, txt⟩ = er := ⟨_, rfl⟩
    have HER := Bx.mk her
    clear htl hkk htx hO hsk her hw9
    go_wp2_with fail
    refine HFL.out.mono ?_
    rintro e w11 ⟨rfl, hC11⟩
    rw [HER.out]
    have HF11 := Bx.mk (HF9.out.keep hC11)
    obtain ⟨_, _, _, _, _, t0, t1, t2, t3, t4⟩ := (HZ9.out.ch hC11 (fun h => h)).facts
    have s0 := hC11.cell (fun h => h) z0
    have s1 := hC11.cell (fun h => h) z1
    have s2 := hC11.cell (fun h => h) z2
    have s3 := hC11.cell (fun h => h) z3
    have s4 := hC11.cell (fun h => h) z4
    have j0 := hC11.cell (fun h => h) k0
    have j1 := hC11.cell (fun h => h) k1
    have j2 := hC11.cell (fun h => h) k2
    have j3 := hC11.cell (fun h => h) k3
    have j4 := hC11.cell (fun h => h) k4
    clear z0 z1 z2 z3 z4 y0 y1 y2 y3 y4 k0 k1 k2 k3 k4 hC11 HFL
    by_cases h0 : er = 0
    · subst h0
      have HYES : Bx (decO xs = ⟨kd, cl, sq, kk, txt⟩ ∧ decE xs = 0) := ⟨by
        have h1 : endO xs = true ∧ errO (takO xs) = 0 := ⟨HENO.out, by rw [HOE.out]; exact HER.out⟩
        unfold decO decE
        rw [if_pos h1, if_pos h1]
        exact ⟨HOE.out, rfl⟩⟩
      go_wp2_with fail
      refine bodyPost_ret (v := .tuple #[.agg #[.int .i64 kd, .int .i64 cl, .int .i64 sq, .string SK, .slice A8 m c8], .int .i64 0]) (by simp [results, Tryz.results69, go_sem, s0, s1, s2, s3, s4]) rfl ?_
      have hfin := set5_fr (u0 := .int .i64 kd) (u1 := .int .i64 cl) (u2 := .int .i64 sq) (u3 := .string SK) (u4 := .slice A8 m c8) HF11.out HBQ.out HNE9.out
      rw [← HSK2.out] at hfin ⊢
      have hm := HM.out
      rw [HTX.out] at hm hfin
      subst hm
      exact DecPost.yes HYES.out hfin
    · have e0 : (er != 0) = true := by simpa using h0
      have HNO : Bx (decO xs = aoNo ∧ decE xs = 3) := ⟨by
        have hne : errO (takO xs) ≠ 0 := by rw [HOE.out, HER.out]; exact h0
        unfold decO decE
        rw [if_neg (fun h => hne h.2), if_neg (fun h => hne h.2)]
        exact ⟨rfl, rfl⟩⟩
      clear h0 j0 j1 j2 j3 j4
      go_wp2_with fail
      refine bodyPost_ret (v := .tuple #[.agg #[.int .i64 0, .int .i64 0, .int .i64 0, .string ⟨#[]⟩, .slice none 0 0], .int .i64 3]) (by simp [results, Tryz.results69, go_sem, s0, s1, s2, s3, s4]) rfl ?_
      exact DecPost.no HNO.out (set5_ch HF11.out.2.2 HBQ.out)
end
end
end Go.Proofs.YtbkakhfepiooaaaGreatDoor
