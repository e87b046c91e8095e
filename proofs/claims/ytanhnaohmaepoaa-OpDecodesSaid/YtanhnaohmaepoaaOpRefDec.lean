/-
  The contract of the document's answer haystackref13.Decode.
  Conditions: the bytes read as they say; not too many.
-/
import Derived.Test.YtanhnaohmaepoaaOpRefEnc
import Derived.Deep.DeepCutAuto
import Derived.RegionTactic
import Derived.Deep.RegionLaw
namespace Go.Proofs.Ytanhnaohmaepoaa
open Go.RowKit Go.Oct Go.Su Go.Sg Go.Om

section
variable {F Q : Nat → Prop}
/-- What Decode leaves. -/
def DecPost (xs : List Int) (w : World) (e : Ending) (w' : World) : Prop := ∃ (A : Option Addr) (c : Nat), e = .returned (.tuple #[.agg #[.int .i64 (decO xs).kd, .int .i64 (decO xs).cl, .int .i64 (decO xs).sq, kv (decO xs).key, .slice A (decO xs).txt.length c], .int .i64 (decE xs)]) ∧ Fresh w (.slice A (decO xs).txt.length c) (decO xs).txt w'
/-- An op was taken: it stands at bo, the Reader at bf. -/
structure TknO (Q : Nat → Prop) (xs : List Int) (w w' : World) (bf bo : Nat) (A : Option Addr) (c : Nat) : Prop where
  cell : w'.heap[bo]? = some (.cells #[.int .i64 (takO xs).kd, .int .i64 (takO xs).cl, .int .i64 (takO xs).sq, kv (takO xs).key, .slice A (takO xs).txt.length c] 24 (0, 0))
  fr : Fresh w (.slice A (takO xs).txt.length c) (takO xs).txt w'
  rd : O.Rf Q w' bf (bb (s4 xs)) (s5 xs)
theorem rf_made {w : World} {A : Option Addr} {n c : Nat} {xs : List Int} {F : Nat → Prop} (hz : Sl w F .u8 A n xs) (hby : Byt xs) (hnc : n ≤ c) (hc : c ≤ maxLen) : O.Rf (fun b => b < w.heap.size) (w.alloc (.cells #[.slice A n c, .bool false] 76)) w.heap.size false xs := by
  refine ⟨A, n, c, heap_alloc_new w _, ?_, hnc, by unfold maxLen at hc; omega, hby, fun h => by simp at h⟩
  refine Sl.alloc (hz.mono fun b hb _ => ?_) _
  exact ⟨by omega, hb⟩
def Zb (w : World) (bo : Nat) : Prop := w.heap[bo]? = some (.cells #[.int .i64 0, .int .i64 0, .int .i64 0, .string ⟨#[]⟩, .slice none 0 0] 24 (0, 0))
theorem zb_new (w : World) : Zb (w.alloc (.cells #[.int .i64 0, .int .i64 0, .int .i64 0, .string ⟨#[]⟩, .slice none 0 0] 24)) w.heap.size := heap_alloc_new w _
theorem zb_ch {w w' : World} {bo bf : Nat} (h : Zb w bo) (hc : Ch (O.RS bf) w w') (hne : bo ≠ bf) : Zb w' bo :=
  (hc.block bo (Array.getElem?_eq_some_iff.1 h).1 hne).trans h
theorem zb_facts {w : World} {bo : Nat} (h : Zb w bo) : w.cell? ⟨bo, 0, none⟩ = some (.int .i64 0) ∧ w.cell? ⟨bo, 1, none⟩ = some (.int .i64 0) ∧ w.cell? ⟨bo, 2, none⟩ = some (.int .i64 0) ∧ w.cell? ⟨bo, 3, none⟩ = some (.string ⟨#[]⟩) ∧ w.cell? ⟨bo, 4, none⟩ = some (.slice none 0 0) ∧
    w.frozen? ⟨bo, 0, none⟩ = false ∧ w.frozen? ⟨bo, 1, none⟩ = false ∧ w.frozen? ⟨bo, 2, none⟩ = false ∧ w.frozen? ⟨bo, 3, none⟩ = false ∧ w.frozen? ⟨bo, 4, none⟩ = false := by
  unfold Zb at h
  simp [World.cell?, World.frozen?, h]
theorem ch_rs {w w1 w' : World} {bf : Nat} (h : Ch (fun _ => False) w1 w) (hc : Ch (O.RS bf) w w') (hbf : w1.heap.size ≤ bf) : Ch (fun _ => False) w1 w' :=
  h.trans hc (fun i hi (e : i = bf) => by omega)
theorem conv_rowS {w : World} {A : Option Addr} {n c : Nat} {xs : List Int} {S : ByteArray} (hS : kv (keyI xs) = .string S) (h : w.ownsRow 0 5 1 (.slice A n c) n (xs.map (Value.int .u8))) : (convert 22 9 (.slice A n c)).run Try.prog w = .ok (.string S) w := by
  rw [← hS]
  exact conv_row h
theorem rf_dr {w : World} {bf : Nat} {bad : Bool} {xs : List Int} (h : O.Rf Q w bf bad xs) : O.Rf Q w.drew bf bad xs :=
  O.Rf.ch h (Ch.refl (fun _ => False) w).drew (fun h => h) (fun _ _ _ h => h)
theorem rf_al {w : World} {bf : Nat} {bad : Bool} {xs : List Int} {o : Obj} (h : O.Rf Q w bf bad xs) : O.Rf Q (w.alloc o) bf bad xs :=
  O.Rf.ch h ((Ch.refl (fun _ => False) w).alloc o) (fun h => h) (fun _ _ _ h => h)
/-- All five were taken. -/
structure St5 (Q : Nat → Prop) (xs : List Int) (w1 w7 : World) (bf : Nat) (A : Option Addr) (c : Nat) : Prop where
  ch : Ch (fun _ => False) w1 w7
  rd : O.Rf Q w7 bf (bb (s4 xs)) (s5 xs)
  own : w7.ownsRow 0 5 1 (.slice A (bv (s4 xs)).length c) (bv (s4 xs)).length ((bv (s4 xs)).map (Value.int .u8))
  lies : ∀ g, (Value.slice A (bv (s4 xs)).length c).ownBlock = some g → w1.heap.size ≤ g
/-- A block that was made among them. -/
structure Zs (w1 w7 : World) (bf bo : Nat) (v : Value) : Prop where
  z : Zb w7 bo
  ne : bo ≠ bf
  low : w1.heap.size ≤ bo
  own : ∀ g, v.ownBlock = some g → g ≠ bo
theorem tkn_new {xs : List Int} {w1 w7 : World} {bf : Nat} {A : Option Addr} {c : Nat} {S : ByteArray} (h : St5 Q xs w1 w7 bf A c) (hS : kv (keyI (bv (s3 xs))) = .string S) :
    TknO Q xs w1 (w7.alloc (.cells #[.int .i64 (nv xs), .int .i64 (nv (s1 xs)), .int .i64 (nv (s2 xs)), .string S, .slice A (bv (s4 xs)).length c] 24)) bf w7.heap.size A c :=
  ⟨by rw [heap_alloc_new, ← hS]; rfl, ⟨h.own.alloc _, h.lies, h.ch.alloc _⟩, rf_al h.rd⟩
theorem tkn_old {xs : List Int} {w1 w7 : World} {bf bo : Nat} {A : Option Addr} {c : Nat} {S : ByteArray} (h : St5 Q xs w1 w7 bf A c) (hS : kv (keyI (bv (s3 xs))) = .string S) (hz : Zs w1 w7 bf bo (.slice A (bv (s4 xs)).length c)) (hQ : ∀ b, Q b → b < bf) (hbf : bf ≤ w1.heap.size) :
    TknO Q xs w1 (((((w7.setCell ⟨bo, 0, none⟩ (.int .i64 (nv xs))).setCell ⟨bo, 1, none⟩ (.int .i64 (nv (s1 xs)))).setCell ⟨bo, 2, none⟩ (.int .i64 (nv (s2 xs)))).setCell ⟨bo, 3, none⟩ (.string S)).setCell ⟨bo, 4, none⟩ (.slice A (bv (s4 xs)).length c)) bf bo A c := by
  have hC : Ch (fun b => b = bo) w7 (((((w7.setCell ⟨bo, 0, none⟩ (.int .i64 (nv xs))).setCell ⟨bo, 1, none⟩ (.int .i64 (nv (s1 xs)))).setCell ⟨bo, 2, none⟩ (.int .i64 (nv (s2 xs)))).setCell ⟨bo, 3, none⟩ (.string S)).setCell ⟨bo, 4, none⟩ (.slice A (bv (s4 xs)).length c)) :=
    (((((Ch.refl (fun b => b = bo) w7).setCell (p := ⟨bo, 0, none⟩) (.inl rfl) _).setCell (p := ⟨bo, 1, none⟩) (.inl rfl) _).setCell (p := ⟨bo, 2, none⟩) (.inl rfl) _).setCell (p := ⟨bo, 3, none⟩) (.inl rfl) _).setCell (p := ⟨bo, 4, none⟩) (.inl rfl) _
  have hb := hz.z
  unfold Zb at hb
  refine ⟨?_, ⟨hC.own h.own (fun g hg => hz.own g hg), h.lies, h.ch.trans hC (fun i hi (e : i = bo) => by have := hz.low; omega)⟩, O.Rf.ch h.rd hC (fun e => hz.ne e.symm) (fun b hq _ (e : b = bo) => by have := hQ b hq; have := hz.low; omega)⟩
  rw [show kv (takO xs).key = .string S from hS]
  simp [World.setCell, Array.getElem?_modify, hb]
  exact ⟨rfl, rfl, rfl, rfl⟩
theorem bv_len (xs : List Int) : (bv xs).length ≤ xs.length := by
  unfold bv
  cases h : takeN 0 0 xs with
  | none => simp
  | some y =>
    obtain ⟨m, r⟩ := y
    have := O.takeN_len _ _ _ _ _ h
    simp only
    split
    · simp
    · rw [List.length_take]; omega
theorem takO_len (xs : List Int) : (takO xs).key.length ≤ xs.length ∧ (takO xs).txt.length ≤ xs.length := by
  have h4 : (s4 xs).length ≤ (s3 xs).length := br_len _
  have h3 : (s3 xs).length ≤ (s2 xs).length := nr_len _
  have h2 : (s2 xs).length ≤ (s1 xs).length := nr_len _
  have h1 : (s1 xs).length ≤ xs.length := nr_len _
  have hk : (takO xs).key.length = (bv (s3 xs)).length := keyI_len _
  have ht : (takO xs).txt.length = (bv (s4 xs)).length := rfl
  have hb := bv_len (s3 xs)
  have hc := bv_len (s4 xs)
  omega
theorem op_cells {w : World} {bo : Nat} {u0 u1 u2 u3 u4 : Value} {t : TypeId} (h : w.heap[bo]? = some (.cells #[u0, u1, u2, u3, u4] t (0, 0))) :
    w.cell? ⟨bo, 0, none⟩ = some u0 ∧ w.cell? ⟨bo, 1, none⟩ = some u1 ∧ w.cell? ⟨bo, 2, none⟩ = some u2 ∧ w.cell? ⟨bo, 3, none⟩ = some u3 ∧ w.cell? ⟨bo, 4, none⟩ = some u4 := by
  simp [World.cell?, h]
theorem refenc_any {F : Nat → Prop} (kd cl sq : Int) (k : Key) (xs : List Int) (A : Option Addr) (n c : Nat) (w : World) (hs : Sl w F .u8 A n xs) (hn : n ≤ 100000000000000) (hk : k.length ≤ 9223372036854775807) :
    Calls Try.prog 10 #[.agg #[.int .i64 kd, .int .i64 cl, .int .i64 sq, kv k, .slice A n c]] w (EncPost ⟨kd, cl, sq, k, xs⟩ w) := by
  by_cases h : ArgNo ⟨kd, cl, sq, k, xs⟩
  · exact refenc_arg kd cl sq k xs A n c w hs.len hk h
  · exact refenc_ok kd cl sq k xs A n c w hs hn h
theorem dec_fr {w w1 wc w4 : World} {v u0 u1 u2 u3 u4 : Value} {xs : List Int} (h : Fresh w1 v xs wc) (h4 : Ch (fun _ => False) wc w4) (hw : w.heap.size + 1 ≤ w1.heap.size) (hc1 : Ch (fun _ => False) w w1) : Fresh w v xs (((((w4.setCell ⟨w.heap.size, 0, none⟩ u0).setCell ⟨w.heap.size, 1, none⟩ u1).setCell ⟨w.heap.size, 2, none⟩ u2).setCell ⟨w.heap.size, 3, none⟩ u3).setCell ⟨w.heap.size, 4, none⟩ u4) := by
  have hC := (((((Ch.refl (fun b => b = w.heap.size) w4).setCell (p := ⟨w.heap.size, 0, none⟩) (.inl rfl) u0).setCell (p := ⟨w.heap.size, 1, none⟩) (.inl rfl) u1).setCell (p := ⟨w.heap.size, 2, none⟩) (.inl rfl) u2).setCell (p := ⟨w.heap.size, 3, none⟩) (.inl rfl) u3).setCell (p := ⟨w.heap.size, 4, none⟩) (.inl rfl) u4
  have h5 := h.keep h4
  exact ⟨hC.own h5.1 (fun g hg (e : g = w.heap.size) => by have := h5.2.1 g hg; omega), fun g hg => by have := h5.2.1 g hg; omega, (hc1.trans h5.2.2 (fun _ _ h => h)).trans hC (fun i hi (e : i = w.heap.size) => by omega)⟩
theorem DecPost.yes {xs : List Int} {w w' : World} {kd cl sq : Int} {k : Key} {txt : List Int} {A : Option Addr} {c : Nat} (h : decO xs = ⟨kd, cl, sq, k, txt⟩ ∧ decE xs = 0) (hf : Fresh w (.slice A txt.length c) txt w') : DecPost xs w (.returned (.tuple #[.agg #[.int .i64 kd, .int .i64 cl, .int .i64 sq, kv k, .slice A txt.length c], .int .i64 0])) w' := by
  unfold DecPost
  rw [h.1, h.2]
  exact ⟨A, c, rfl, hf⟩
theorem zb_ch0 {w w' : World} {bo : Nat} (h : Zb w bo) (hc : Ch (fun _ => False) w w') : Zb w' bo :=
  (hc.block bo (Array.getElem?_eq_some_iff.1 h).1 (fun h => h)).trans h
theorem dec_ch {w wc : World} {u0 u1 u2 u3 u4 : Value} (h : Ch (fun _ => False) w wc) : Ch (fun _ => False) w (((((wc.setCell ⟨w.heap.size, 0, none⟩ u0).setCell ⟨w.heap.size, 1, none⟩ u1).setCell ⟨w.heap.size, 2, none⟩ u2).setCell ⟨w.heap.size, 3, none⟩ u3).setCell ⟨w.heap.size, 4, none⟩ u4) :=
  h.trans ((((((Ch.refl (fun b => b = w.heap.size) wc).setCell (p := ⟨w.heap.size, 0, none⟩) (.inl rfl) _).setCell (p := ⟨w.heap.size, 1, none⟩) (.inl rfl) _).setCell (p := ⟨w.heap.size, 2, none⟩) (.inl rfl) _).setCell (p := ⟨w.heap.size, 3, none⟩) (.inl rfl) _).setCell (p := ⟨w.heap.size, 4, none⟩) (.inl rfl) _) (fun i hi (e : i = w.heap.size) => by omega)
theorem DecPost.no {xs : List Int} {w w' : World} (h : decO xs = aoNo ∧ decE xs = 3) (hc : Ch (fun _ => False) w w') : DecPost xs w (.returned (.tuple #[.agg #[.int .i64 0, .int .i64 0, .int .i64 0, .string ⟨#[]⟩, .slice none 0 0], .int .i64 3])) w' := by
  unfold DecPost
  rw [h.1, h.2]
  exact ⟨none, 0, rfl, fresh_none hc⟩
set_option maxHeartbeats 2000000 in
theorem refdec_any (xs : List Int) (A : Option Addr) (n c : Nat) (w : World) (hz : Sl w F .u8 A n xs) (hby : Byt xs) (hn : n ≤ 6000) (hnc : n ≤ c) (hc : c ≤ maxLen) :
    Calls Try.prog 16 #[.slice A n c] w (DecPost xs w) := by
  have HN : Bx (xs.length ≤ 100000) := ⟨by rw [hz.len]; omega⟩
  obtain ⟨w1, hw1⟩ : ∃ w1, w.alloc (.cells #[.int .i64 0, .int .i64 0, .int .i64 0, .string ⟨#[]⟩, .slice none 0 0] 24) = w1 := ⟨_, rfl⟩
  have hC1 : Ch (fun _ => False) w w1 := by rw [← hw1]; exact (Ch.refl _ _).alloc _
  have HR0 := Bx.mk (rf_made (hz.ch hC1 (fun _ _ _ h => h)) hby hnc hc)
  clear hz hby
  go_enter Try.func16, Try.ntmps16
  go_upto_region 2 with fail
  obtain ⟨w2, hw2⟩ : ∃ w2, w1.alloc (.cells #[.slice A n c, .bool false] 76) = w2 := ⟨_, rfl⟩
  obtain ⟨bf, hbf⟩ : ∃ bf, w1.heap.size = bf := ⟨_, rfl⟩
  obtain ⟨Q, hQ⟩ : ∃ Q : Nat → Prop, (fun b => b < bf) = Q := ⟨_, rfl⟩
  rw [hbf, hQ, hw2] at HR0
  rw [hw2, hbf]
  have HC2 : Bx (Ch (fun _ => False) w1 w2) := ⟨by rw [← hw2]; exact (Ch.refl _ _).alloc _⟩
  have HC1 := Bx.mk hC1
  have HBF := Bx.mk hbf
  have HQB : Bx (∀ b, Q b → b < bf) := ⟨fun b hb => by rw [← hQ] at hb; exact hb⟩
  have HW1 := Bx.mk hw1
  clear hw2 hbf hQ hC1 hw1
  go_cut [5] from 11 to 22 (fun s5 wx => ∃ (bo : Nat) (A' : Option Addr) (c' : Nat), s5 = .pointer (some ⟨bo, 0, none⟩) ∧ Bx (TknO Q xs w1 wx bf bo A' c'))
  case first =>
    have HM := HN.out
    have ho5 : (s5 xs).length ≤ (s4 xs).length := br_len _
    have ho4 : (s4 xs).length ≤ (s3 xs).length := br_len _
    have ho3 : (s3 xs).length ≤ (s2 xs).length := nr_len _
    have ho2 : (s2 xs).length ≤ (s1 xs).length := nr_len _
    have ho1 : (s1 xs).length ≤ xs.length := nr_len _
    have HR0 := Bx.mk (rf_dr HR0.out)
    have HC2 : Bx (Ch (fun _ => False) w1 w2.drew) := ⟨HC2.out.drew⟩
    obtain ⟨SK, hSK⟩ : ∃ S : ByteArray, kv (keyI (bv (s3 xs))) = .string S := ⟨_, rfl⟩
    have HSK := Bx.mk hSK
    clear hSK
    have HD0 := Bx.mk HC2.out
    have HBL : Bx (w1.heap.size ≤ bf) := ⟨Nat.le_of_eq HBF.out⟩
    go_region_law ((first
      | (go_simp; go_at_call 39; have hz0 := HZ.out; refine (O.rfbytes_step bf (bb (s3 xs)) (s4 xs) w6 (by omega) HR4.out).mono ?_; rintro e w7 ⟨vv5, rfl, hrow, hR, hC⟩; obtain ⟨A5, c5, rfl, _, _⟩ := own_shape hrow.1; have HR5 := Bx.mk hR; have hlt5 := O.Rf.lt HR5.out; have HZ : Bx (Zs w1 w7 bf _ (.slice A5 (bv (s4 xs)).length c5)) := ⟨Zs.mk (zb_ch hz0.z hC hz0.ne) hz0.ne hz0.low (fun g hg e => by have h1 := hrow.2 g hg; have h2 := (Array.getElem?_eq_some_iff.1 hz0.z).1; omega)⟩; clear hz0; have HD5 := Bx.mk (ch_rs HD4.out hC HBL.out); have HS5 := Bx.mk (St5.mk HD5.out hR hrow.1 (fun g hg => Nat.le_trans HD4.out.size (hrow.2 g hg))); have hkv := conv_rowS HSK.out (hC.own HW4.out.1 (fun g hg => HNE4.out g hg)); have hkva := fun o => conv_rowS HSK.out ((hC.own HW4.out.1 (fun g hg => HNE4.out g hg)).alloc o); obtain ⟨z0, z1, z2, z3, z4, y0, y1, y2, y3, y4⟩ := zb_facts HZ.out.z; clear hR hC hrow)
      | (go_simp; go_at_call 39; refine (O.rfbytes_step bf (bb (s3 xs)) (s4 xs) (w6.alloc (.cells #[.int .i64 0, .int .i64 0, .int .i64 0, .string ⟨#[]⟩, .slice none 0 0] 24)) (by omega) (rf_al (o := (.cells #[.int .i64 0, .int .i64 0, .int .i64 0, .string ⟨#[]⟩, .slice none 0 0] 24)) HR4.out)).mono ?_; rintro e w7 ⟨vv5, rfl, hrow, hR, hC⟩; obtain ⟨A5, c5, rfl, _, _⟩ := own_shape hrow.1; have HR5 := Bx.mk hR; have hlt5 := O.Rf.lt HR5.out; have HZ : Bx (Zs w1 w7 bf w6.heap.size (.slice A5 (bv (s4 xs)).length c5)) := ⟨Zs.mk (zb_ch (zb_new w6) hC (fun e => by have := O.Rf.lt HR4.out; omega)) (fun e => by have := O.Rf.lt HR4.out; omega) (HD4.out.size) (fun g hg e => by have := hrow.2 g hg; rw [World.size_alloc] at this; omega)⟩; have HD5 := Bx.mk (ch_rs (HD4.out.alloc (.cells #[.int .i64 0, .int .i64 0, .int .i64 0, .string ⟨#[]⟩, .slice none 0 0] 24)) hC HBL.out); have HS5 := Bx.mk (St5.mk HD5.out hR hrow.1 (fun g hg => Nat.le_trans (Nat.le_trans HD4.out.size (show w6.heap.size ≤ (w6.alloc (.cells #[.int .i64 0, .int .i64 0, .int .i64 0, .string ⟨#[]⟩, .slice none 0 0] 24)).heap.size by rw [World.size_alloc]; omega)) (hrow.2 g hg))); have hkv := conv_rowS HSK.out (hC.own (HW4.out.1.alloc (.cells #[.int .i64 0, .int .i64 0, .int .i64 0, .string ⟨#[]⟩, .slice none 0 0] 24)) (fun g hg => HNE4.out g hg)); have hkva := fun o => conv_rowS HSK.out ((hC.own (HW4.out.1.alloc (.cells #[.int .i64 0, .int .i64 0, .int .i64 0, .string ⟨#[]⟩, .slice none 0 0] 24)) (fun g hg => HNE4.out g hg)).alloc o); obtain ⟨z0, z1, z2, z3, z4, y0, y1, y2, y3, y4⟩ := zb_facts HZ.out.z; clear hR hC hrow)
      | (go_simp; go_at_call 39; refine (O.rfbytes_step bf (bb (s3 xs)) (s4 xs) w6 (by omega) HR4.out).mono ?_; rintro e w7 ⟨vv5, rfl, hrow, hR, hC⟩; obtain ⟨A5, c5, rfl, _, _⟩ := own_shape hrow.1; have HR5 := Bx.mk hR; have hlt5 := O.Rf.lt HR5.out; have HD5 := Bx.mk (ch_rs HD4.out hC HBL.out); have HS5 := Bx.mk (St5.mk HD5.out hR hrow.1 (fun g hg => Nat.le_trans HD4.out.size (hrow.2 g hg))); have hkv := conv_rowS HSK.out (hC.own HW4.out.1 (fun g hg => HNE4.out g hg)); have hkva := fun o => conv_rowS HSK.out ((hC.own HW4.out.1 (fun g hg => HNE4.out g hg)).alloc o); clear hR hC hrow)
      | (go_simp; go_at_call 39; have hz0 := HZ.out; refine (O.rfbytes_step bf (nb (s2 xs)) (s3 xs) w5 (by omega) HR3.out).mono ?_; rintro e w6 ⟨vv4, rfl, hrow, hR, hC⟩; obtain ⟨A4, c4, rfl, _, _⟩ := own_shape hrow.1; have HR4 := Bx.mk hR; have hlt4 := O.Rf.lt HR4.out; have HZ : Bx (Zs w1 w6 bf _ (.slice none 0 0)) := ⟨Zs.mk (zb_ch hz0.z hC hz0.ne) hz0.ne hz0.low hz0.own⟩; clear hz0; have HD4 := Bx.mk (ch_rs HD3.out hC HBL.out); have HW4 := Bx.mk hrow; have hkv := conv_rowS HSK.out hrow.1; have hkva := fun o => conv_rowS HSK.out (hrow.1.alloc o); have HNE4 : Bx (∀ g, (Value.slice A4 (bv (s3 xs)).length c4).ownBlock = some g → g ≠ bf) := ⟨fun g hg e => by have h1 := hrow.2 g hg; have h2 := O.Rf.lt HR3.out; first | omega | (rw [World.size_alloc] at h1; omega)⟩; clear hR hC hrow)
      | (go_simp; go_at_call 39; refine (O.rfbytes_step bf (nb (s2 xs)) (s3 xs) (w5.alloc (.cells #[.int .i64 0, .int .i64 0, .int .i64 0, .string ⟨#[]⟩, .slice none 0 0] 24)) (by omega) (rf_al (o := (.cells #[.int .i64 0, .int .i64 0, .int .i64 0, .string ⟨#[]⟩, .slice none 0 0] 24)) HR3.out)).mono ?_; rintro e w6 ⟨vv4, rfl, hrow, hR, hC⟩; obtain ⟨A4, c4, rfl, _, _⟩ := own_shape hrow.1; have HR4 := Bx.mk hR; have hlt4 := O.Rf.lt HR4.out; have HZ : Bx (Zs w1 w6 bf w5.heap.size (.slice none 0 0)) := ⟨Zs.mk (zb_ch (show Zb (w5.alloc (.cells #[.int .i64 0, .int .i64 0, .int .i64 0, .string ⟨#[]⟩, .slice none 0 0] 24)) w5.heap.size from zb_new w5) hC (fun e => by have := O.Rf.lt HR3.out; omega)) (fun e => by have := O.Rf.lt HR3.out; omega) (HD3.out.size) (fun g hg => by simp [Value.ownBlock] at hg)⟩; have HD4 := Bx.mk (ch_rs (HD3.out.alloc (.cells #[.int .i64 0, .int .i64 0, .int .i64 0, .string ⟨#[]⟩, .slice none 0 0] 24)) hC HBL.out); have HW4 := Bx.mk hrow; have hkv := conv_rowS HSK.out hrow.1; have hkva := fun o => conv_rowS HSK.out (hrow.1.alloc o); have HNE4 : Bx (∀ g, (Value.slice A4 (bv (s3 xs)).length c4).ownBlock = some g → g ≠ bf) := ⟨fun g hg e => by have h1 := hrow.2 g hg; have h2 := O.Rf.lt HR3.out; first | omega | (rw [World.size_alloc] at h1; omega)⟩; clear hR hC hrow)
      | (go_simp; go_at_call 39; refine (O.rfbytes_step bf (nb (s2 xs)) (s3 xs) w5 (by omega) HR3.out).mono ?_; rintro e w6 ⟨vv4, rfl, hrow, hR, hC⟩; obtain ⟨A4, c4, rfl, _, _⟩ := own_shape hrow.1; have HR4 := Bx.mk hR; have hlt4 := O.Rf.lt HR4.out; have HD4 := Bx.mk (ch_rs HD3.out hC HBL.out); have HW4 := Bx.mk hrow; have hkv := conv_rowS HSK.out hrow.1; have hkva := fun o => conv_rowS HSK.out (hrow.1.alloc o); have HNE4 : Bx (∀ g, (Value.slice A4 (bv (s3 xs)).length c4).ownBlock = some g → g ≠ bf) := ⟨fun g hg e => by have h1 := hrow.2 g hg; have h2 := O.Rf.lt HR3.out; first | omega | (rw [World.size_alloc] at h1; omega)⟩; clear hR hC hrow)
      | (go_simp; go_at_call 38; have hz0 := HZ.out; refine (O.rfnum_step bf (nb (s1 xs)) (s2 xs) w4 (by omega) HR2.out).mono ?_; rintro e w5 ⟨rfl, hR, hC⟩; have HR3 := Bx.mk hR; have hlt3 := O.Rf.lt HR3.out; have HZ : Bx (Zs w1 w5 bf _ (.slice none 0 0)) := ⟨Zs.mk (zb_ch hz0.z hC hz0.ne) hz0.ne hz0.low hz0.own⟩; clear hz0; have HD3 := Bx.mk (ch_rs HD2.out hC HBL.out); clear hR hC)
      | (go_simp; go_at_call 38; refine (O.rfnum_step bf (nb (s1 xs)) (s2 xs) (w4.alloc (.cells #[.int .i64 0, .int .i64 0, .int .i64 0, .string ⟨#[]⟩, .slice none 0 0] 24)) (by omega) (rf_al (o := (.cells #[.int .i64 0, .int .i64 0, .int .i64 0, .string ⟨#[]⟩, .slice none 0 0] 24)) HR2.out)).mono ?_; rintro e w5 ⟨rfl, hR, hC⟩; have HR3 := Bx.mk hR; have hlt3 := O.Rf.lt HR3.out; have HZ : Bx (Zs w1 w5 bf w4.heap.size (.slice none 0 0)) := ⟨Zs.mk (zb_ch (show Zb (w4.alloc (.cells #[.int .i64 0, .int .i64 0, .int .i64 0, .string ⟨#[]⟩, .slice none 0 0] 24)) w4.heap.size from zb_new w4) hC (fun e => by have := O.Rf.lt HR2.out; omega)) (fun e => by have := O.Rf.lt HR2.out; omega) (HD2.out.size) (fun g hg => by simp [Value.ownBlock] at hg)⟩; have HD3 := Bx.mk (ch_rs (HD2.out.alloc (.cells #[.int .i64 0, .int .i64 0, .int .i64 0, .string ⟨#[]⟩, .slice none 0 0] 24)) hC HBL.out); clear hR hC)
      | (go_simp; go_at_call 38; refine (O.rfnum_step bf (nb (s1 xs)) (s2 xs) w4 (by omega) HR2.out).mono ?_; rintro e w5 ⟨rfl, hR, hC⟩; have HR3 := Bx.mk hR; have hlt3 := O.Rf.lt HR3.out; have HD3 := Bx.mk (ch_rs HD2.out hC HBL.out); clear hR hC)
      | (go_simp; go_at_call 38; have hz0 := HZ.out; refine (O.rfnum_step bf (nb xs) (s1 xs) w3 (by omega) HR1.out).mono ?_; rintro e w4 ⟨rfl, hR, hC⟩; have HR2 := Bx.mk hR; have hlt2 := O.Rf.lt HR2.out; have HZ : Bx (Zs w1 w4 bf _ (.slice none 0 0)) := ⟨Zs.mk (zb_ch hz0.z hC hz0.ne) hz0.ne hz0.low hz0.own⟩; clear hz0; have HD2 := Bx.mk (ch_rs HD1.out hC HBL.out); clear hR hC)
      | (go_simp; go_at_call 38; refine (O.rfnum_step bf (nb xs) (s1 xs) (w3.alloc (.cells #[.int .i64 0, .int .i64 0, .int .i64 0, .string ⟨#[]⟩, .slice none 0 0] 24)) (by omega) (rf_al (o := (.cells #[.int .i64 0, .int .i64 0, .int .i64 0, .string ⟨#[]⟩, .slice none 0 0] 24)) HR1.out)).mono ?_; rintro e w4 ⟨rfl, hR, hC⟩; have HR2 := Bx.mk hR; have hlt2 := O.Rf.lt HR2.out; have HZ : Bx (Zs w1 w4 bf w3.heap.size (.slice none 0 0)) := ⟨Zs.mk (zb_ch (show Zb (w3.alloc (.cells #[.int .i64 0, .int .i64 0, .int .i64 0, .string ⟨#[]⟩, .slice none 0 0] 24)) w3.heap.size from zb_new w3) hC (fun e => by have := O.Rf.lt HR1.out; omega)) (fun e => by have := O.Rf.lt HR1.out; omega) (HD1.out.size) (fun g hg => by simp [Value.ownBlock] at hg)⟩; have HD2 := Bx.mk (ch_rs (HD1.out.alloc (.cells #[.int .i64 0, .int .i64 0, .int .i64 0, .string ⟨#[]⟩, .slice none 0 0] 24)) hC HBL.out); clear hR hC)
      | (go_simp; go_at_call 38; refine (O.rfnum_step bf (nb xs) (s1 xs) w3 (by omega) HR1.out).mono ?_; rintro e w4 ⟨rfl, hR, hC⟩; have HR2 := Bx.mk hR; have hlt2 := O.Rf.lt HR2.out; have HD2 := Bx.mk (ch_rs HD1.out hC HBL.out); clear hR hC)
      | (go_simp; go_at_call 38; have hz0 := HZ.out; refine (O.rfnum_step bf false xs w2.drew (by omega) HR0.out).mono ?_; rintro e w3 ⟨rfl, hR, hC⟩; have HR1 := Bx.mk hR; have hlt1 := O.Rf.lt HR1.out; have HZ : Bx (Zs w1 w3 bf _ (.slice none 0 0)) := ⟨Zs.mk (zb_ch hz0.z hC hz0.ne) hz0.ne hz0.low hz0.own⟩; clear hz0; have HD1 := Bx.mk (ch_rs HD0.out hC HBL.out); clear hR hC)
      | (go_simp; go_at_call 38; refine (O.rfnum_step bf false xs (w2.drew.alloc (.cells #[.int .i64 0, .int .i64 0, .int .i64 0, .string ⟨#[]⟩, .slice none 0 0] 24)) (by omega) (rf_al (o := (.cells #[.int .i64 0, .int .i64 0, .int .i64 0, .string ⟨#[]⟩, .slice none 0 0] 24)) HR0.out)).mono ?_; rintro e w3 ⟨rfl, hR, hC⟩; have HR1 := Bx.mk hR; have hlt1 := O.Rf.lt HR1.out; have HZ : Bx (Zs w1 w3 bf w2.heap.size (.slice none 0 0)) := ⟨Zs.mk (zb_ch (show Zb (w2.drew.alloc (.cells #[.int .i64 0, .int .i64 0, .int .i64 0, .string ⟨#[]⟩, .slice none 0 0] 24)) w2.heap.size from zb_new w2.drew) hC (fun e => by have : bf < w2.heap.size := O.Rf.lt HR0.out; omega)) (fun e => by have : bf < w2.heap.size := O.Rf.lt HR0.out; omega) (show w1.heap.size ≤ w2.heap.size from HD0.out.size) (fun g hg => by simp [Value.ownBlock] at hg)⟩; have HD1 := Bx.mk (ch_rs (HD0.out.alloc (.cells #[.int .i64 0, .int .i64 0, .int .i64 0, .string ⟨#[]⟩, .slice none 0 0] 24)) hC HBL.out); clear hR hC)
      | (go_simp; go_at_call 38; refine (O.rfnum_step bf false xs w2.drew (by omega) HR0.out).mono ?_; rintro e w3 ⟨rfl, hR, hC⟩; have HR1 := Bx.mk hR; have hlt1 := O.Rf.lt HR1.out; have HD1 := Bx.mk (ch_rs HD0.out hC HBL.out); clear hR hC)))
    all_goals
      go_wp2_with fail
      go_meet
      first
        | (have hz := HZ.out; exact ⟨_, A5, c5, rfl, ⟨tkn_old HS5.out HSK.out hz HQB.out (Nat.le_of_eq HBF.out.symm)⟩⟩)
        | exact ⟨_, A5, c5, rfl, ⟨tkn_new HS5.out HSK.out⟩⟩
  case rest =>
    obtain ⟨bo, A5, c5, rfl, HT⟩ := hcut
    have HWH := Bx.mk (O.rfwhole_any bf (bb (s4 xs)) (s5 xs) wc HT.out.rd)
    go_wp2_with fail
    refine HWH.out.mono ?_
    rintro e w3 ⟨rfl, rfl⟩
    obtain ⟨en, hen⟩ : ∃ en, (!bb (s4 xs) && (s5 xs).isEmpty) = en := ⟨_, rfl⟩
    rw [hen]
    have HEN : Bx (endO xs = en) := ⟨hen⟩
    clear hen HWH
    have hzb : Zb wc w.heap.size := zb_ch0 (by rw [← HW1.out]; exact zb_new w) HT.out.fr.2.2
    have HZB := Bx.mk hzb
    obtain ⟨z0, z1, z2, z3, z4, y0, y1, y2, y3, y4⟩ := zb_facts hzb
    clear hzb
    have HCW : Bx (Ch (fun _ => False) w wc) := ⟨HC1.out.trans HT.out.fr.2.2 (fun _ _ h => h)⟩
    cases en with
    | false =>
      have HNO : Bx (decO xs = aoNo ∧ decE xs = 3) := ⟨by unfold decO decE; rw [HEN.out]; simp⟩
      go_wp2_with fail
      refine bodyPost_ret (v := .tuple #[.agg #[.int .i64 0, .int .i64 0, .int .i64 0, .string ⟨#[]⟩, .slice none 0 0], .int .i64 3]) (by simp [results, Try.results16, go_sem, z0, z1, z2, z3, z4]) rfl ?_
      exact DecPost.no HNO.out (dec_ch HCW.out)
    | true =>
      obtain ⟨o, ho⟩ : ∃ o, takO xs = o := ⟨_, rfl⟩
      have HTK := Bx.mk (takO_len xs)
      have hcell := HT.out.cell
      have hfr := HT.out.fr
      rw [ho] at hcell hfr HTK
      have HFR := Bx.mk hfr
      obtain ⟨k0, k1, k2, k3, k4⟩ := op_cells hcell
      have HOE := Bx.mk ho
      have HXN := Bx.mk HN.out
      clear hcell hfr ho
      obtain ⟨kd, cl, sq, k, txt⟩ := o
      simp only at k0 k1 k2 k3 k4 HFR HTK
      obtain ⟨m, hm⟩ : ∃ m, txt.length = m := ⟨_, rfl⟩
      obtain ⟨S, hS⟩ : ∃ S : ByteArray, kv k = .string S := ⟨_, rfl⟩
      rw [hm] at k4 HFR HTK
      rw [hS] at k3
      have HEC := Bx.mk (refenc_any kd cl sq k txt A5 m c5 wc (Fresh.sl HFR.out hm.symm) (by have := HTK.out.2; have := HXN.out; omega) (by have := HTK.out.1; have := HXN.out; omega))
      rw [hS] at HEC
      have HM := Bx.mk hm
      have HSS := Bx.mk hS
      clear hm hS
      go_wp2_with fail
      refine HEC.out.mono ?_
      rintro e w4 ⟨v4, rfl, hf4⟩
      obtain ⟨er, her⟩ : ∃ er, errO ⟨kd, cl, sq, k, txt⟩ = er := ⟨_, rfl⟩
      rw [her]
      have HER := Bx.mk her
      have HC4 := Bx.mk hf4.2.2
      have HZ4 := Bx.mk (zb_ch0 HZB.out hf4.2.2)
      clear her z0 z1 z2 z3 z4 y0 y1 y2 y3 y4
      obtain ⟨z0, z1, z2, z3, z4, y0, y1, y2, y3, y4⟩ := zb_facts HZ4.out
      have HCW4 : Bx (Ch (fun _ => False) w w4) := ⟨HCW.out.trans HC4.out (fun _ _ h => h)⟩
      by_cases h0 : er = 0
      · subst h0
        have j0 := HC4.out.cell (fun h => h) k0
        have j1 := HC4.out.cell (fun h => h) k1
        have j2 := HC4.out.cell (fun h => h) k2
        have j3 := HC4.out.cell (fun h => h) k3
        have j4 := HC4.out.cell (fun h => h) k4
        clear k0 k1 k2 k3 k4 hf4 HEC
        have HYES : Bx (decO xs = ⟨kd, cl, sq, k, txt⟩ ∧ decE xs = 0) := ⟨by
          have h1 : endO xs = true ∧ errO (takO xs) = 0 := ⟨HEN.out, by rw [HOE.out]; exact HER.out⟩
          unfold decO decE
          rw [if_pos h1, if_pos h1]
          exact ⟨HOE.out, rfl⟩⟩
        go_wp2_with fail
        refine bodyPost_ret (v := .tuple #[.agg #[.int .i64 kd, .int .i64 cl, .int .i64 sq, .string S, .slice A5 m c5], .int .i64 0]) (by simp [results, Try.results16, go_sem, z0, z1, z2, z3, z4]) rfl ?_
        have hfin := dec_fr (u0 := .int .i64 kd) (u1 := .int .i64 cl) (u2 := .int .i64 sq) (u3 := .string S) (u4 := .slice A5 m c5) HFR.out HC4.out (Nat.le_of_eq (by rw [← HW1.out]; exact (World.size_alloc _ _).symm)) HC1.out
        rw [← HSS.out] at hfin ⊢
        have hm := HM.out
        subst hm
        exact DecPost.yes HYES.out hfin
      · have e0 : (er != 0) = true := by simpa using h0
        have HNO : Bx (decO xs = aoNo ∧ decE xs = 3) := ⟨by
          have hne : errO (takO xs) ≠ 0 := by rw [HOE.out, HER.out]; exact h0
          unfold decO decE
          rw [if_neg (fun h => hne h.2), if_neg (fun h => hne h.2)]
          exact ⟨rfl, rfl⟩⟩
        clear k0 k1 k2 k3 k4 hf4 HEC h0
        go_wp2_with fail
        refine bodyPost_ret (v := .tuple #[.agg #[.int .i64 0, .int .i64 0, .int .i64 0, .string ⟨#[]⟩, .slice none 0 0], .int .i64 3]) (by simp [results, Try.results16, go_sem, z0, z1, z2, z3, z4]) rfl ?_
        exact DecPost.no HNO.out (dec_ch HCW4.out)
end
end Go.Proofs.Ytanhnaohmaepoaa
