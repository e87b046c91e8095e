/-
  Contract of the program's table: where a pattern stands in a text, by the library's contract of bytes.Index.
  Conditions: both read as bytes; the text has at most 4096.
-/
import Derived.Test.YtpilekadcondnaaMtIndex
namespace Go.Proofs.Ytpilekadcondnaa
open Go.RowKit Go.Oct Go.Su Go.Sg Go.Mt Go.Maps

theorem elemIm : Elem Try.prog 71 3 (.int .i64 0) 8 := ⟨Try.underlying71, by kernel_rfl, rfl⟩
section
variable {F G : Nat → Prop}
/-- What Index tells at a place of the text, wherever the slice lies. -/
def IxAt (w : World) (t p : List Int) (B : Option Addr) (m d : Nat) (A2 : Option Addr) (f n2 c2 : Nat) : Prop := ∀ w1, Ch (fun _ => False) w w1 → Calls Try.prog 41 #[.slice A2 n2 c2, .slice B m d] w1 fun e w' => ∃ r : Int, e = .returned (.int .i64 r) ∧ IxOf t p f r ∧ Ch (fun _ => False) w1 w'
theorem Shp.slice {A : Option Addr} {c f : Nat} (h : Shp A c) (hf : f ≤ c) : Shp (if c = f then A else A.map (·.add f)) (c - f) := by
  rcases h with ⟨rfl, rfl⟩ | ⟨b, o, rfl⟩
  · exact .inl ⟨by split <;> rfl, by omega⟩
  · split
    · exact .inr ⟨b, o, rfl⟩
    · exact .inr ⟨b, o + f, by simp [Lib.add_plain']⟩
theorem ixat {w : World} {t p : List Int} {A B : Option Addr} {n c m d : Nat} (ht : Sl w F .u8 A n t) (hsh : Shp A c) (hnc : n ≤ c) (hp : Sl w G .u8 B m p) (hbt : ∀ x ∈ t, 0 ≤ x ∧ x < 256) (hbp : ∀ x ∈ p, 0 ≤ x ∧ x < 256) (hn : n ≤ 4096) (hm : m ≤ 9223372036854775807) (h0 : 0 < m)
    (hmx : ∃ m, w.cell? ⟨0, 0, none⟩ = some (.int .i64 m)) {f : Nat} (hf : f ≤ n) : IxAt w t p B m d (if c = f then A else A.map (·.add f)) f (n - f) (c - f) := fun w1 hc => by
  have hl := ht.len
  obtain ⟨mx, hmx⟩ := hmx
  have h1 : Sl w1 F .u8 (if c = f then A else A.map (·.add f)) (n - f) (t.drop f) := by
    split
    · have e : n - f = 0 := by omega
      rw [e, List.drop_of_length_le (by omega)]
      exact Sl.nil _ _ _ _
    · rcases hsh with ⟨rfl, rfl⟩ | ⟨b, o, rfl⟩
      · omega
      · have := (ht.ch hc (fun _ _ _ h => h)).drop (k := f) hf
        simpa [Lib.add_plain'] using this
  refine (mindex_any (t.drop f) p _ B (n - f) (c - f) m d w1 h1 (hsh.slice (by omega)) (hp.ch hc (fun _ _ _ h => h)) h0 (by omega) (by omega) hm ⟨mx, hc.cell (p := ⟨0, 0, none⟩) (fun h => h) hmx⟩ (fun x hx => hbt x (List.mem_of_mem_drop hx)) hbp).mono ?_
  rintro e w' ⟨rfl, q, rfl⟩
  exact ⟨_, rfl, ix_of hbt hbp (fun e => by have := hp.len; rw [e] at this; simp at this; omega) (by omega), (Ch.refl _ _).drewN q⟩
set_option maxRecDepth 100000 in
set_option maxHeartbeats 2000000 in
theorem mplaces_any (t p : List Int) (A B : Option Addr) (n c m d : Nat) (w : World) (ht : Sl w F .u8 A n t) (hsh : Shp A c) (hnc : n ≤ c) (hcm : c ≤ maxLen) (hp : Sl w G .u8 B m p) (hbt : ∀ x ∈ t, 0 ≤ x ∧ x < 256) (hbp : ∀ x ∈ p, 0 ≤ x ∧ x < 256) (hn : n ≤ 4096) (hm : m ≤ 9223372036854775807)
    (hmx : ∃ m, w.cell? ⟨0, 0, none⟩ = some (.int .i64 m)) :
    Calls Try.prog 34 #[.slice A n c, .slice B m d] w (NewNats (ats t p) w) := by
  have HLT := Bx.mk ht.len
  have HLM := Bx.mk hp.len
  have hc63 : c ≤ 9223372036854775807 := by unfold maxLen at hcm; omega
  by_cases h0 : m = 0
  · have HE : Bx (ats t p = []) := ⟨by
      unfold ats
      rw [if_pos (List.eq_nil_of_length_eq_zero (by rw [HLM.out]; exact h0))]⟩
    subst h0
    clear ht hsh hp hbt hbp hmx
    go_enter Try.func34, Try.ntmps34
    go_wp2
    go_ret
    exact ⟨_, rfl, by rw [HE.out]; exact Gs.nil _ _ _⟩
  · have HIX : Bx (∀ f, f ≤ n → IxAt w t p B m d (if c = f then A else A.map (·.add f)) f (n - f) (c - f)) := ⟨fun f hf => ixat ht hsh hnc hp hbt hbp hn hm (by omega) hmx hf⟩
    have d0 : decide ((m : Int) = 0) = false := decide_eq_false (by omega)
    have d1 : ((m : Int) == 0) = false := by rw [beq_eq_false_iff_ne]; omega
    clear ht hp hbt hbp hmx hcm
    have HSH := Bx.mk hsh
    clear hsh
    go_enter Try.func34, Try.ntmps34
    go_wp2_with fail
    go_loopw [5, 6] (fun v i wr => ∃ f : Nat, f ≤ n ∧ i = .int .i64 f ∧ Gs 3 1 w wr v (atTo t p f).length (valN (atTo t p f))) (fun _ i _ => n - (intOf i).toNat)
    case atStart => exact ⟨0, Nat.zero_le _, rfl, Gs.nil _ _ _⟩
    case round =>
      obtain ⟨f, hf, rfl, hG⟩ := hrel
      have hle := atTo_le t p f
      obtain ⟨q, hq⟩ : ∃ q, (atTo t p f).length = q := ⟨_, rfl⟩
      rw [hq] at hle hG
      obtain ⟨A1, c1, rfl, _, _⟩ := hG.shape
      have HG := Bx.mk hG
      have HQ := Bx.mk hq
      have HI := Bx.mk (HIX.out f hf)
      clear hG hq
      obtain ⟨A2, hA2⟩ : ∃ A2, (if c = f then A else A.map (·.add f)) = A2 := ⟨_, rfl⟩
      obtain ⟨n2, hn2⟩ : ∃ n2, n - f = n2 := ⟨_, rfl⟩
      obtain ⟨c2, hc2⟩ : ∃ c2, c - f = c2 := ⟨_, rfl⟩
      have hA3 : (if c = f then A else A.map (·.add (f * 1))) = A2 := by rw [Nat.mul_one]; exact hA2
      rw [hA2, hn2, hc2] at HI
      go_wp2_with fail
      refine (HI.out wr HG.out.ch).mono ?_
      rintro e w1 ⟨r, rfl, hx, hcx⟩
      have HG1 := Bx.mk (HG.out.keep hcx)
      clear hA2 hn2 hc2 hA3 HI hcx
      rcases hx with ⟨rfl, he⟩ | ⟨i, rfl, hroom, hnext⟩
      · have HE := Bx.mk he
        clear he
        go_wp2
        go_ret
        exact ⟨_, rfl, by rw [← HE.out, HQ.out]; exact HG1.out⟩
      · have HNX := Bx.mk hnext
        have hfi : f + i < n := by have := HLT.out; have := HLM.out; omega
        have di : decide ((i : Int) < 0) = false := decide_eq_false (by omega)
        obtain ⟨g, hg⟩ : ∃ g, f + i = g := ⟨_, rfl⟩
        have hgI : IntKind.i64.wrap ((f : Int) + (i : Int)) = (g : Int) := by rw [← hg]; exact (IntWalk.i64_in _ (by omega)).trans (by omega)
        rw [hg] at HNX hfi
        have HFG : Bx (f ≤ g) := ⟨by omega⟩
        clear hnext hroom hg
        go_wp2_with (at_builtin; refine wp_app rfl (.tmp 24) (.tmp 26) elemIm rfl rfl (HG1.out.own.alloc _) rfl (Vs.one _ _ _) ?c1 ?c2 ?c3 ?_)
        case c1 => intro u hu; simp at hu; subst hu; rfl
        case c2 => omega
        case c3 => omega
        intro v5 w5 ho1 hg1 hb1
        have HG5 := Bx.mk (HG1.out.app ((Ch.refl (fun _ => False) w1).alloc _) ho1 hg1 (by rw [World.size_alloc]; exact hb1))
        clear ho1 hg1 hb1 hgI
        go_wp2
        go_roundw
        case rel =>
          refine ⟨g + 1, by omega, by go_num, ?_⟩
          have := HG5.out
          rw [HNX.out, List.length_append, HQ.out]
          unfold valN at *
          rw [List.map_append]
          exact this
        case measure =>
          have := HFG.out
          simp [intOf]
          omega
end
end Go.Proofs.Ytpilekadcondnaa
