/-
  Contract of the program's table: New.
  Conditions: the documents read as they say; not too many.
-/
import Derived.Test.YtpilekadcondnaaMtDocs
namespace Go.Proofs.Ytpilekadcondnaa
open Go.RowKit Go.Oct Go.Su Go.Sg Go.Mt Go.Maps

/-- Documents Put one by one. -/
def tNews (s : List Dc × List Key) : List Dc → List Dc × List Key
  | [] => s
  | d :: l => tNews (tPut s d.1 d.2).2 l
theorem tNews_snoc : ∀ (l : List Dc) (s : List Dc × List Key) (d : Dc), tNews s (l ++ [d]) = (tPut (tNews s l) d.1 d.2).2
  | [], _, _ => rfl
  | a :: l, s, d => tNews_snoc l (tPut s a.1 a.2).2 d
theorem tPut_few {s : List Dc × List Key} (ok : TabOk s.1 s.2) (k : Key) (t : List Int) : (tPut s k t).2.1.length + (tPut s k t).2.2.length ≤ s.1.length + s.2.length + 1 := by
  unfold tPut
  split
  · exact Nat.le_succ _
  · split
    · exact Nat.le_succ _
    · have h1 := len_put_le ok.dr (k, t)
      have h2 := len_del_le ok.gr k
      show (put (·.1) s.1 (k, t)).length + (del id s.2 k).length ≤ _
      omega
theorem tDel_few {s : List Dc × List Key} (ok : TabOk s.1 s.2) (k : Key) : (tDel s k).2.1.length + (tDel s k).2.2.length ≤ s.1.length + s.2.length + 1 := by
  unfold tDel
  split
  · exact Nat.le_succ _
  · have h1 := len_put_le ok.gr k
    have h2 := len_del_le ok.dr k
    show (del (·.1) s.1 k).length + (put id s.2 k).length ≤ _
    omega
section
variable {w w1 w2 w' W W' : World} {P S F G FA : Nat → Prop} {t : Nat} {gs : List Key} {ds : List Dc} {k : Key}
/-- A new table. -/
theorem TabP.new (w : World) (hmx : ∃ m, w.cell? ⟨0, 0, none⟩ = some (.int .i64 m)) : TabP (w.alloc (.cells #[.map none] 66)) (fun x => x = w.heap.size) w.heap.size [] [] := by
  obtain ⟨m, hm⟩ := hmx
  have hl : 0 < w.heap.size := lt_of_cell hm
  refine ⟨⟨none, [], fun _ => .bool false, ncells_at (j := 0) rfl, ⟨RiseF.nil, List.Perm.nil, fun _ => rfl, (fun b hb => by cases hb), (fun d hd => by simp at hd), (fun k hk => by simp at hk)⟩⟩, ?_, rfl, fun x hx => by rw [hx, World.size_alloc]; omega, TabOk.nil, Nat.zero_le _, ⟨m, ((Ch.refl (fun _ => False) w).alloc _).cell (fun h => h) hm⟩, by omega⟩
  unfold World.frozen?
  rw [heap_alloc_new]
  simp
/-- What New leaves. -/
def NewTab (s : List Dc × List Key) (t : Nat) (w w' : World) : Prop := ∃ P, TabP w' P t s.1 s.2 ∧ (∀ x, P x → w.heap.size ≤ x) ∧ Ch (fun _ => False) w w'
set_option maxHeartbeats 2000000 in
set_option maxRecDepth 100000 in
theorem mnew_any (docs : List Dc) (A : Option Addr) (n c : Nat) (w : World) (hz : Dcs w F A n docs) (hn : n ≤ 100000) (hok : ∀ d ∈ docs, d.1.length ≤ 9223372036854775807 ∧ ∀ x ∈ d.2, 0 ≤ x ∧ x < 256) (hmx : ∃ m, w.cell? ⟨0, 0, none⟩ = some (.int .i64 m)) :
    Calls Try.prog 9 #[.slice A n c] w fun e w' => e = .returned (.pointer (some ⟨w.heap.size, 0, none⟩)) ∧ NewTab (tNews ([], []) docs) w.heap.size w w' := by
  have HL := Bx.mk hz.len
  have HOK := Bx.mk hok
  have HT0 := Bx.mk (TabP.new w hmx)
  obtain ⟨t, ht⟩ : ∃ t, w.heap.size = t := ⟨_, rfl⟩
  obtain ⟨w1, hw1⟩ : ∃ w1, w.alloc (.cells #[.map none] 66) = w1 := ⟨_, rfl⟩
  have hc1 : Ch (fun _ => False) w w1 := by rw [← hw1]; exact (Ch.refl _ _).alloc _
  have HZ := Bx.mk hz
  have HC1 := Bx.mk hc1
  have HTW : Bx (w.heap.size = t) := ⟨ht⟩
  rw [hw1, ht] at HT0
  rw [ht]
  clear hz hok hmx hc1
  go_enter Try.func9, Try.ntmps9
  go_wp2_with fail
  clear hw1 ht
  go_loopw [9] (fun i wr => ∃ (k : Nat) (P : Nat → Prop), k ≤ n ∧ i = .int .i64 k ∧ Bx (TabP wr P t (tNews ([], []) (docs.take k)).1 (tNews ([], []) (docs.take k)).2) ∧ Bx ((tNews ([], []) (docs.take k)).1.length + (tNews ([], []) (docs.take k)).2.length ≤ k) ∧ Bx (∀ x, P x → t ≤ x) ∧ Bx (Ch (fun _ => False) w wr)) (fun i _ => n - (intOf i).toNat)
  case atStart => exact ⟨0, fun x => x = t, Nat.zero_le _, rfl, HT0, ⟨Nat.zero_le _⟩, ⟨fun x hx => by omega⟩, HC1⟩
  case round =>
    obtain ⟨k, P, hk, rfl, hT, hF, hP, hC⟩ := hrel
    by_cases hlt : k < n
    · have dk : decide ((k : Int) < (n : Int)) = true := decide_eq_true (by omega)
      have i2 : (k : Int) < (n : Int) := by omega
      obtain ⟨bd, od, dc, A', c', rfl, _, ex, hck0, hct0, hsl0, hlc, hcm⟩ := (HZ.out.ch hC.out (fun _ _ _ h => h)).get hlt
      have hdm := List.mem_of_getElem? ex.out
      obtain ⟨hkl, hby⟩ := HOK.out dc hdm
      have HNT : Bx (tNews ([], []) (docs.take (k + 1)) = (tPut (tNews ([], []) (docs.take k)) dc.1 dc.2).2) := ⟨by rw [Oct.take_more ex.out, tNews_snoc]⟩
      obtain ⟨s, hs⟩ : ∃ s, tNews ([], []) (docs.take k) = s := ⟨_, rfl⟩
      rw [hs] at hT hF HNT
      obtain ⟨w2, hw2⟩ : ∃ w2, wr.alloc (.cells #[kv dc.1, .slice A' dc.2.length c'] 34) = w2 := ⟨_, rfl⟩
      have hc2 : Ch (fun _ => False) wr w2 := by rw [← hw2]; exact (Ch.refl _ _).alloc _
      have hs2 : w2.heap.size = wr.heap.size + 1 := by rw [← hw2, World.size_alloc]
      have e0 : w2.cell? ⟨wr.heap.size, 0, none⟩ = some (kv dc.1) := by rw [← hw2]; exact ncells_at (j := 0) rfl
      have e1 : w2.cell? ⟨wr.heap.size, 1, none⟩ = some (.slice A' dc.2.length c') := by rw [← hw2]; exact ncells_at (j := 1) rfl
      have hn0 : dc.2.length ≤ 9223372036854775807 := by unfold maxLen at hcm; omega
      have hfw : s.1.length + s.2.length < 1000000 := by have := hF.out; omega
      have HPUT := Bx.mk (mput_any (c0 := c') (hT.out.keep hc2) dc.1 hkl (hsl0.ch hc2 (fun _ _ _ h => h)) hby hn0 hfw)
      have HC2 := Bx.mk hc2
      obtain ⟨tl, htl⟩ : ∃ tl, dc.2.length = tl := ⟨_, rfl⟩
      rw [htl] at HPUT hw2 e1 hct0 hlc
      obtain ⟨SD, hSD⟩ : ∃ S : ByteArray, kv dc.1 = .string S := ⟨_, rfl⟩
      rw [hSD] at HPUT hck0 hw2 e0
      have hc63 : c' ≤ 9223372036854775807 := by unfold maxLen at hcm; omega
      clear hdm hkl hby ex hs htl hSD hc2 hcm hsl0 hfw hn0
      go_wp2_with fail
      refine HPUT.out.mono ?_
      rintro e w5 ⟨rfl, P5, hT5, hP5, hC5⟩
      have HREL : Bx (TabP w5 P5 t (tNews ([], []) (docs.take (k + 1))).1 (tNews ([], []) (docs.take (k + 1))).2 ∧ ((tNews ([], []) (docs.take (k + 1))).1.length + (tNews ([], []) (docs.take (k + 1))).2.length ≤ k + 1) ∧ (∀ x, P5 x → t ≤ x) ∧ Ch (fun _ => False) w w5) := ⟨by
        rw [HNT.out]
        refine ⟨hT5, ?_, fun x hx => ?_, ?_⟩
        · have := tPut_few hT.out.ok dc.1 dc.2
          have := hF.out
          omega
        · rcases hP5 x hx with h | h
          · exact hP.out x h
          · have := hC.out.size
            have := HTW.out
            omega
        · refine (hC.out.trans HC2.out (fun _ _ h => h)).trans hC5 (fun i hi hp => ?_)
          have := hP.out i hp
          have := HTW.out
          omega⟩
      clear hT5 hP5 hC5 hw2
      go_wp2
      go_roundw
      case rel => exact ⟨k + 1, P5, by omega, by go_num, ⟨HREL.out.1⟩, ⟨HREL.out.2.1⟩, ⟨HREL.out.2.2.1⟩, ⟨HREL.out.2.2.2⟩⟩
      case measure => simp [intOf]; omega
    · have hkn : n = k := by omega
      have dk : decide ((k : Int) < (n : Int)) = false := decide_eq_false (by omega)
      have hall : docs.take k = docs := List.take_of_length_le (by have := HL.out; omega)
      rw [hall] at hT hF
      have HF : Bx (NewTab (tNews ([], []) docs) t w wr) := ⟨P, hT.out, fun x hx => by have := hP.out x hx; have := HTW.out; omega, hC.out⟩
      clear hall hkn
      go_wp2
      go_ret
      exact ⟨rfl, HF.out⟩
end
end Go.Proofs.Ytpilekadcondnaa
