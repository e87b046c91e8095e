/-
  Contract of the program's table: Docs.
  Conditions: the table is one.
-/
import Derived.Test.YtpilekadcondnaaMtCd
namespace Go.Proofs.Ytpilekadcondnaa
open Go.RowKit Go.Oct Go.Su Go.Sg Go.Mt Go.Maps

section
variable {w w1 w2 w' W W' : World} {P S F G FA : Nat → Prop} {t : Nat} {gs : List Key} {ds : List Dc} {k : Key}
theorem Cd.after {w0 wr : World} {v : Value} {q : Nat} {docs : List Dc} {vs : List Value} (h0 : Ch (fun _ => False) w w0) (h : Cd w0 wr v q docs vs) : Cd w wr v q docs vs :=
  ⟨⟨h.dg.own, fun g hg => Nat.le_trans h0.size (h.dg.lies g hg), h0.trans h.dg.ch (fun _ _ h => h)⟩, h.kl, fun i u d hu hd => by
    obtain ⟨h1, h2⟩ := h.rows i u d hu hd
    exact ⟨h1, fun g hg => ⟨Nat.le_trans h0.size (h2 g hg).1, (h2 g hg).2⟩⟩, h.apart⟩
theorem Cd.keep {w0 wr w7 : World} {v : Value} {q : Nat} {docs : List Dc} {vs : List Value} (h : Cd w0 wr v q docs vs) (hc : Ch (fun _ => False) wr w7) : Cd w0 w7 v q docs vs :=
  ⟨h.dg.keep hc, h.kl, fun i u d hu hd => by
    obtain ⟨h1, h2⟩ := h.rows i u d hu hd
    exact ⟨hc.own h1 (fun _ _ h => h), h2⟩, h.apart⟩
theorem doc_cellsT (w : World) (S : ByteArray) (A : Option Addr) (n c : Nat) : ∀ j u, [Value.string S, .slice A n c][j]? = some u → (w.alloc (.cells #[.string S, .slice A n c] 34)).cell? ((⟨w.heap.size, 0, none⟩ : Addr).add j) = some u := fun j u hu => by
  rw [Lib.add_plain', Nat.zero_add]
  exact ncells_at (by simpa using hu)
/-- What Docs leaves. -/
def DocsL (ds : List Dc) (n : Nat) (w : World) (e : Ending) (w' : World) : Prop := ∃ (A : Option Addr) (c : Nat) (vs : List Value), e = .returned (.slice A n c) ∧ Cd w w' (.slice A n c) n ds vs ∧ n ≤ c ∧ c ≤ maxLen
set_option maxHeartbeats 2000000 in
set_option maxRecDepth 100000 in
theorem mdocs_any (h : TabP w P t ds gs) : Calls Try.prog 25 #[.pointer (some ⟨t, 0, none⟩)] w (DocsL ds ds.length w) := by
  have H := Bx.mk h
  have hft := fate_text
  obtain ⟨n, hnl⟩ : ∃ n, ds.length = n := ⟨_, rfl⟩
  have HL := Bx.mk hnl
  have hn : n ≤ 1000000 := by have := h.few; omega
  have HK := Bx.mk (mkeys_any h true)
  rw [hnl]
  clear h hnl
  go_enter Try.func25, Try.ntmps25
  go_wp2_with fail
  refine HK.out.mono ?_
  rintro e w1 ⟨A1, n1, c1, rfl, hg, hnc1, hcm1⟩
  have hn1 : n1 = n := by
    have h1 := hg.own.1
    have h2 := HL.out
    simp [keysOf] at h1
    omega
  subst hn1
  have HKS : Bx (Kss w1 (fun _ => True) A1 n1 (ds.map (·.1))) := ⟨Vs.mono (Vs.of_own hg.own) (fun _ _ _ => trivial)⟩
  have HC1 := Bx.mk hg.ch
  have HT1 := Bx.mk (H.out.keep hg.ch)
  have hc163 : c1 ≤ 9223372036854775807 := by unfold maxLen at hcm1; omega
  clear HK hg hcm1
  go_wp2_with fail
  go_loopw [3, 9] (fun v i wr => ∃ (k : Nat) (vs : List Value), k ≤ n1 ∧ i = .int .i64 k ∧ Bx (Cd w1 wr v k (ds.take k) vs)) (fun _ i _ => n1 - (intOf i).toNat)
  case atStart => exact ⟨0, [], Nat.zero_le _, rfl, ⟨Cd.start w1⟩⟩
  case round =>
    obtain ⟨k, vs, hk, rfl, hD⟩ := hrel
    obtain ⟨Ad, cd, rfl, hkc, hkm⟩ := own_shape' hD.out.dg.own
    by_cases hlt : k < n1
    · have dk : decide ((k : Int) < (n1 : Int)) = true := decide_eq_true (by omega)
      have hG := hD.out.dg.ch
      obtain ⟨bk, ok, key, rfl, _, hkey, hck0⟩ := (HKS.out.ch hG (fun _ _ _ h => h)).at_ hlt
      obtain ⟨dc, ex, rfl⟩ : ∃ dc, Hid (ds[k]? = some dc) ∧ dc.1 = key := by
        have := hkey.out
        rw [List.getElem?_map] at this
        cases hx : ds[k]? with
        | none => rw [hx] at this; cases this
        | some x => rw [hx] at this; injection this with this; exact ⟨x, rfl, this⟩
      have hdm := List.mem_of_getElem? ex.out
      obtain ⟨mb, f, A', c', ct0, hlk, hsl, hlc, hcm, hsh⟩ := (HT1.out.keep hG).doc hdm
      have hdl := H.out.ok.len dc hdm
      have HCL := Bx.mk (mclone_any dc.2 A' dc.2.length c' wr hsl (by omega))
      have HNT : Bx (ds.take (k + 1) = ds.take k ++ [dc]) := ⟨Oct.take_more ex.out⟩
      have i2 : (k : Int) < (n1 : Int) := by omega
      obtain ⟨tl, htl⟩ : ∃ tl, dc.2.length = tl := ⟨_, rfl⟩
      rw [htl] at HCL hlk hdl
      have HTL := Bx.mk htl
      obtain ⟨SD, hSD⟩ : ∃ S : ByteArray, kv dc.1 = .string S := ⟨_, rfl⟩
      have HSD := Bx.mk hSD
      rw [hSD] at hck0 hlk
      clear hG hsl ex hdm htl hSD hcm hlc hsh hkey
      go_wp2_with fail
      refine HCL.out.mono ?_
      rintro e w2 ⟨v2, rfl, hf2⟩
      obtain ⟨A2, c2, rfl, _, _⟩ := own_shape hf2.1
      have HF2 := Bx.mk hf2
      rw [HTL.out]
      have HOW : Bx (w2.ownsRow 0 34 2 (.slice Ad k cd) k (dcV (Go.Sg.ks (ds.take k)) vs)) := ⟨hf2.2.2.own hD.out.dg.own (fun _ _ h => h)⟩
      have HADD : Bx (∀ v5 w5, w5.ownsRow 0 34 2 v5 (k + 1) (dcV (Go.Sg.ks (ds.take k)) vs ++ [Value.string SD, .slice A2 tl c2]) → (w2.alloc (.cells #[.string SD, .slice A2 tl c2] 34)).grownBy w5 (Value.slice Ad k cd).ownBlock → (v5.ownBlock = (Value.slice Ad k cd).ownBlock ∨ v5.ownBlock = some (w2.alloc (.cells #[.string SD, .slice A2 tl c2] 34)).heap.size) → Cd w1 w5 v5 (k + 1) (ds.take (k + 1)) (vs ++ [.slice A2 tl c2])) := ⟨fun v5 w5 ho1 hg1 hb1 => by
        rw [HNT.out]
        have e1 : (Value.slice A2 dc.2.length c2) = .slice A2 tl c2 := by rw [HTL.out]
        rw [e1] at hf2
        refine hD.out.add hf2 ?_ hg1 hb1
        rw [HSD.out]
        exact ho1⟩
      clear hf2 HCL hlk hck0 ct0
      go_wp2_with (at_builtin; refine wp_appK rfl (.tmp 13) (.tmp 24) elemDt rfl rfl (HOW.out.alloc _) rfl (m := 1) rfl (doc_cellsT w2 SD A2 tl c2) (by intro u hu; simp at hu; rcases hu with hu | hu <;> (subst hu; rfl)) (by omega) (by omega) ?_)
      intro v5 w5 ho1 hg1 hb1
      have HT5 := Bx.mk (HADD.out v5 w5 ho1 hg1 (by rw [World.size_alloc]; exact hb1))
      clear ho1 hg1 hb1
      go_wp2
      go_roundw
      case rel => exact ⟨k + 1, _, by omega, by go_num, HT5⟩
      case measure => simp [intOf]; omega
    · have hkn : n1 = k := by omega
      have dk : decide ((k : Int) < (n1 : Int)) = false := decide_eq_false (by omega)
      have hall : ds.take k = ds := List.take_of_length_le (by have := HL.out; omega)
      have HF : Bx (Cd w wr (.slice Ad k cd) n1 ds vs) := ⟨by
        have := Cd.after HC1.out hD.out
        rw [hall] at this
        rw [hkn]
        exact this⟩
      clear hall
      subst hkn
      go_wp2
      go_ret
      exact ⟨Ad, cd, vs, rfl, HF.out, hkc, hkm⟩
end
end Go.Proofs.Ytpilekadcondnaa
