/-
  The library's contract of bytes.Index at this program, in the words of the document's places; plain lemmas on places.
  Conditions: both rows read as bytes.
-/
import Derived.Test.YtpilekadcondnaaMtGone
import Derived.Test.YtpilekadcondnaaFmAt
namespace Go.Proofs.Ytpilekadcondnaa
open Go.RowKit Go.Oct Go.Su Go.Sg Go.Mt Go.Maps Go.Sort Go.Shelf

section
variable {F G : Nat → Prop} {s p : List Int} {w : World}
theorem bytesOf_inj {xs ys : List Int} (hx : ∀ x ∈ xs, 0 ≤ x ∧ x < 256) (hy : ∀ x ∈ ys, 0 ≤ x ∧ x < 256) (h : Lib.bytesOf xs = Lib.bytesOf ys) : xs = ys := by
  refine str_inj hx hy ?_
  have h1 : (strOfNums xs).data.toList = (strOfNums ys).data.toList := h
  have h2 : (strOfNums xs).data = (strOfNums ys).data := Array.toList_inj.1 h1
  cases h3 : strOfNums xs
  cases h4 : strOfNums ys
  rw [h3, h4] at h2
  simp at h2
  rw [h2]
theorem occ_iff (hs : ∀ x ∈ s, 0 ≤ x ∧ x < 256) (hp : ∀ x ∈ p, 0 ≤ x ∧ x < 256) (j : Nat) : Lib.occAt (Lib.bytesOf s) (Lib.bytesOf p) j = decide ((s.drop j).take p.length = p) := by
  have e : ((Lib.bytesOf s).drop j).take (Lib.bytesOf p).length = Lib.bytesOf ((s.drop j).take p.length) := by
    unfold Lib.bytesOf
    rw [List.map_take, List.map_drop, List.length_map]
  rw [Bool.eq_iff_iff]
  unfold Lib.occAt
  rw [List.isPrefixOf_iff_prefix, List.prefix_iff_eq_take, e, decide_eq_true_eq]
  constructor
  · intro h
    exact (bytesOf_inj hp (fun x hx => hs x (List.mem_of_mem_drop (List.mem_of_mem_take hx))) h).symm
  · intro h
    rw [h]
theorem bytesOf_len (s : List Int) : (Lib.bytesOf s).length = s.length := by unfold Lib.bytesOf; simp
theorem atTo_none {t p : List Int} {f : Nat} : ∀ m : Nat, (∀ a, f ≤ a → a < f + m → ¬ (t.drop a).take p.length = p) → atTo t p (f + m) = atTo t p f
  | 0, _ => rfl
  | m + 1, h => by
    rw [← Nat.add_assoc, atTo_no (h (f + m) (by omega) (by omega))]
    exact atTo_none m (fun a h1 h2 => h a h1 (by omega))
theorem atTo_end {t p : List Int} (h : p ≠ []) : atTo t p (t.length + 1) = ats t p := by
  have hp : 0 < p.length := List.length_pos_iff.2 h
  rw [← atTo_all h]
  by_cases hl : p.length ≤ t.length + 1
  · have := atTo_none (t := t) (p := p) (f := t.length + 1 - p.length) p.length (fun a h1 _ e => by
      have := congrArg List.length e
      rw [List.length_take, List.length_drop] at this
      omega)
    rw [← this]
    congr 1
    omega
  · have := atTo_none (t := t) (p := p) (f := 0) (t.length + 1) (fun a h1 _ e => by
      have := congrArg List.length e
      rw [List.length_take, List.length_drop] at this
      omega)
    rw [Nat.zero_add] at this
    rw [this]
    congr 1
    omega
/-- What bytes.Index tells of a text from a place on. -/
def IxOf (t p : List Int) (f : Nat) (r : Int) : Prop := (r = -1 ∧ atTo t p f = ats t p) ∨ ∃ i : Nat, r = i ∧ f + i + p.length ≤ t.length ∧ atTo t p (f + i + 1) = atTo t p f ++ [f + i]
theorem ix_of (hs : ∀ x ∈ s, 0 ≤ x ∧ x < 256) (hp : ∀ x ∈ p, 0 ≤ x ∧ x < 256) (h0 : p ≠ []) {f : Nat} (hf : f ≤ s.length) : IxOf s p f (Lib.index (Lib.bytesOf (s.drop f)) (Lib.bytesOf p)) := by
  have hd : ∀ x ∈ s.drop f, 0 ≤ x ∧ x < 256 := fun x hx => hs x (List.mem_of_mem_drop hx)
  have hl : (Lib.bytesOf (s.drop f)).length = s.length - f := by rw [bytesOf_len, List.length_drop]
  rcases Lib.index_spec (Lib.bytesOf (s.drop f)) (Lib.bytesOf p) with ⟨h1, h2⟩ | ⟨i, h1, h2, h3, h4⟩
  · refine .inl ⟨h1, ?_⟩
    rw [← atTo_end h0]
    have := atTo_none (t := s) (p := p) (f := f) (s.length + 1 - f) (fun a ha hb e => by
      have := h2 (a - f) (by rw [hl]; omega)
      rw [occ_iff hd hp, List.drop_drop, show f + (a - f) = a by omega] at this
      simp [e] at this)
    rw [← this]
    congr 1
    omega
  · rw [occ_iff hd hp, List.drop_drop, decide_eq_true_eq] at h3
    refine .inr ⟨i, h1, ?_, ?_⟩
    · have := congrArg List.length h3
      rw [List.length_take, List.length_drop] at this
      have hp0 : 0 < p.length := List.length_pos_iff.2 h0
      omega
    · rw [atTo_yes h3, atTo_none i (fun a ha hb e => by
        have := h4 (a - f) (by omega)
        rw [occ_iff hd hp, List.drop_drop, show f + (a - f) = a by omega] at this
        simp [e] at this)]
theorem mindex_any (s p : List Int) (A B : Option Addr) (n c k d : Nat) (w : World) (hz : Sl w F .u8 A n s) (hsh : Shp A c) (hq : Sl w G .u8 B k p) (hk : 0 < k) (hcap : n ≤ c) (hs : n < 4294967281) (hk2 : k ≤ 9223372036854775807)
    (hm : ∃ m, w.cell? ⟨0, 0, none⟩ = some (.int .i64 m)) (hbs : ∀ x ∈ s, 0 ≤ x ∧ x < 256) (hbp : ∀ x ∈ p, 0 ≤ x ∧ x < 256) :
    Calls Try.prog 41 #[.slice A n c, .slice B k d] w fun e w' => e = .returned (.int .i64 (Lib.index (Lib.bytesOf s) (Lib.bytesOf p))) ∧ ∃ q, w' = w.drewN q := by
  obtain ⟨b2, o2, x2, rfl, _, _, _⟩ := hq.at_ hk
  obtain ⟨m, hm⟩ := hm
  have hadd : ∀ b o i : Nat, (⟨b, o, none⟩ : Addr).add i = ⟨b, o + i, none⟩ := Lib.add_plain'
  rcases hsh with ⟨rfl, rfl⟩ | ⟨b1, o1, rfl⟩
  · obtain rfl : n = 0 := by omega
    obtain rfl : s = [] := List.eq_nil_of_length_eq_zero hz.len
    have hcon := Any.bytes_Index_nil (P := Try.prog) (ρ := Try.mtIndex_ren) { Try.mtIndex with } (some ⟨b2, o2, none⟩) k d w hk2 (fun h1 => by
      subst h1
      exact ⟨b2, o2, p.getD 0 0, rfl, sl_cells hq (i := 0) (by omega)⟩)
    have hi : Lib.index (Lib.bytesOf []) (Lib.bytesOf p) = -1 := by
      have hl := hq.len
      cases p with
      | nil => simp at hl; omega
      | cons a p => rfl
    rw [if_neg (by omega)] at hcon
    rw [hi]
    exact hcon.mono fun e w' ⟨h1, h2⟩ => ⟨h1, 0, h2⟩
  · exact Any.bytes_Index_at (P := Try.prog) (ρ := Try.mtIndex_ren) { Try.mtIndex with } ⟨b1, o1, none⟩ ⟨b2, o2, none⟩ n c k d s p m w hz.len hq.len hbs hbp (fun i hi => by rw [hadd]; exact sl_cells hz hi) (fun i hi => by rw [hadd]; exact sl_cells hq hi) hcap hs hk2 hm
end
end Go.Proofs.Ytpilekadcondnaa
