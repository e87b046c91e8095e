/-
  The law MemPlays' first loops: documents that are gathered beside the document's table; texts that are spoilt. Conditions: none; plain lemmas.
-/
import Derived.Test.YtpilekadcondnaaMtBt
namespace Go.Proofs.Ytpilekadcondnaa
open Go.RowKit Go.Oct Go.Su Go.Sg Go.Mt Go.Maps

theorem Fresh.past {w w1 w2 : World} {v : Value} {xs : List Int} (h : Fresh w v xs w1) (hc : Ch (fun _ => False) w1 w2) : Fresh w v xs w2 := ⟨hc.own h.1 (fun _ _ h => h), h.2.1, h.2.2.trans hc (fun _ _ h => h)⟩
theorem fr_shape {w w1 : World} {v : Value} {ys : List Int} (h : Fresh w v ys w1) {n : Nat} (hn : ys.length = n) : ∃ A c, v = .slice A n c ∧ n ≤ c ∧ c ≤ maxLen := by
  subst hn
  exact own_shape h.1
/-- The blocks of documents that are gathered. -/
def CdB (v : Value) (vs : List Value) (g : Nat) : Prop := v.ownBlock = some g ∨ SpB vs g
/-- Under way: the documents gathered, the document's table. -/
structure St1 (W w : World) (F : Nat → Prop) (b : Nat) (r : List Dc × List Key) (v : Value) (k : Nat) (docs : List Dc) (vs : List Value) : Prop where
  cd : Cd W w v k docs vs
  td : TabD w F b r.1 r.2
  fl : ∀ x, F x → W.heap.size ≤ x ∧ x < w.heap.size
  bl : W.heap.size ≤ b
  cb : ∀ g, CdB v vs g → ¬ F g ∧ g ≠ b
section
variable {W w w2 w5 w7 : World} {F S : Nat → Prop} {b k : Nat} {r r' : List Dc × List Key} {v v' u : Value} {docs : List Dc} {vs : List Value} {d : Dc}
theorem Cd.lt (h : Cd W w v k docs vs) {g : Nat} (hg : CdB v vs g) : W.heap.size ≤ g ∧ g < w.heap.size := by
  rcases hg with hg | ⟨i, u, hu, hg⟩
  · exact ⟨h.dg.lies g hg, own_lt h.dg.own g hg⟩
  · have hi : i < docs.length := by rw [h.kl]; exact (List.getElem?_eq_some_iff.1 hu).1
    obtain ⟨h1, h2⟩ := h.rows i u _ hu (List.getElem?_eq_getElem hi)
    exact ⟨(h2 g hg).1, own_lt h1 g hg⟩
theorem Cd.ch (h : Cd W w v k docs vs) (hc : Ch S w w2) (hS : ∀ g, CdB v vs g → ¬ S g) (hW : ∀ i, i < W.heap.size → ¬ S i) : Cd W w2 v k docs vs :=
  ⟨⟨hc.own h.dg.own (fun g hg => hS g (.inl hg)), h.dg.lies, h.dg.ch.trans hc (fun i hi hs => hW i hi hs)⟩, h.kl, fun i u d hu hd => by
    obtain ⟨h1, h2⟩ := h.rows i u d hu hd
    exact ⟨hc.own h1 (fun g hg => hS g (.inr ⟨i, u, hu, hg⟩)), h2⟩, h.apart⟩
theorem St1.add (h : St1 W w F b r v k docs vs) (hf : Fresh w u d.2 w5) {o : Obj} (ho : w7.ownsRow 0 34 2 v' (k + 1) (dcV (ks docs) vs ++ [kv d.1, u])) (hg : (w5.alloc o).grownBy w7 v.ownBlock) (hb : v'.ownBlock = v.ownBlock ∨ v'.ownBlock = some (w5.alloc o).heap.size) : St1 W w7 F b r v' (k + 1) (docs ++ [d]) (vs ++ [u]) := by
  have hC : Ch (fun b => v.ownBlock = some b) w5 w7 := ((Ch.refl (fun b => v.ownBlock = some b) w5).alloc o).grown hg (fun j hj => .inl hj)
  have hCt : Ch (fun b => v.ownBlock = some b) w w7 := (hf.2.2.mono (fun _ _ h => h.elim)).trans hC (fun _ _ h => h)
  have hbl := h.td.lt
  have hsz := hf.2.2.size
  have hso := World.size_alloc w5 o
  have hnew : ∀ g, w.heap.size ≤ g → ¬ F g ∧ g ≠ b := fun g hg2 => ⟨fun hF => by have := (h.fl g hF).2; omega, by omega⟩
  refine ⟨h.cd.add hf ho hg hb, h.td.ch hCt (fun e => (h.cb b (.inl e)).2 rfl) (fun x hx _ e => (h.cb x (.inl e)).1 hx), fun x hx => ⟨(h.fl x hx).1, Nat.lt_of_lt_of_le (h.fl x hx).2 hCt.size⟩, h.bl, fun g hg2 => ?_⟩
  rcases hg2 with hg2 | ⟨i, x, hx, hg2⟩
  · rcases hb with hb | hb
    · exact h.cb g (.inl (hb ▸ hg2))
    · rw [hb] at hg2
      injection hg2 with hg2
      exact hnew g (by omega)
  · rcases Nat.lt_or_ge i vs.length with hi | hi
    · rw [List.getElem?_append_left hi] at hx
      exact h.cb g (.inr ⟨i, x, hx, hg2⟩)
    · rw [List.getElem?_append_right hi] at hx
      have e1 : i - vs.length = 0 := by
        rcases Nat.eq_zero_or_pos (i - vs.length) with e | e
        · exact e
        · rw [List.getElem?_eq_none (by simp; omega)] at hx
          cases hx
      rw [e1] at hx
      obtain rfl : u = x := by simpa using hx
      exact hnew g (hf.2.1 g hg2)
theorem St1.doc (h : St1 W w F b r v k docs vs) (hp : TPost r' b w F w2) : ∃ F', St1 W w2 F' b r' v k docs vs := by
  obtain ⟨F', k1, k2, k3⟩ := hp
  have hW := h.cd.dg.ch.size
  have hbl := h.bl
  refine ⟨F', h.cd.ch k3 (fun g hg e => (h.cb g hg).2 e) (fun i hi e => by omega), k1, fun x hx => ?_, h.bl, fun g hg => ⟨fun hF => ?_, (h.cb g hg).2⟩⟩
  · rcases k2 x hx with e | e
    · exact ⟨(h.fl x e).1, Nat.lt_of_lt_of_le (h.fl x e).2 k3.size⟩
    · exact ⟨by omega, e.2⟩
  · rcases k2 g hF with e | e
    · exact (h.cb g hg).1 e
    · have := (h.cd.lt hg).2
      omega
theorem St1.keep (h : St1 W w F b r v k docs vs) (hc : Ch (fun _ => False) w w2) : St1 W w2 F b r v k docs vs :=
  ⟨h.cd.keep hc, h.td.keep hc, fun x hx => ⟨(h.fl x hx).1, Nat.lt_of_lt_of_le (h.fl x hx).2 hc.size⟩, h.bl, h.cb⟩
/-- The program's table made beside. -/
theorem St1.both {P : Nat → Prop} {t : Nat} {s : List Dc × List Key} (h : St1 W w F b r v k docs vs) (hT : TabP w2 P t s.1 s.2) (hP : ∀ x, P x → w.heap.size ≤ x) (hc : Ch (fun _ => False) w w2) : Bt W w2 P F (CdB v vs) t b s r := by
  have hW := h.cd.dg.ch.size
  have hbl := h.td.lt
  refine ⟨hT, h.td.keep hc, fun x hx => Nat.le_trans hW (hP x hx), fun x hx => ⟨(h.fl x hx).1, Nat.lt_of_lt_of_le (h.fl x hx).2 hc.size⟩, h.bl, fun x hx => ⟨fun hF => ?_, ?_⟩, fun x hx => ⟨(h.cd.lt hx).1, Nat.lt_of_lt_of_le (h.cd.lt hx).2 hc.size, fun hP2 => ?_, (h.cb x hx).1, (h.cb x hx).2⟩, h.cd.dg.ch.trans hc (fun _ _ h => h)⟩
  · have := (h.fl x hF).2
    have := hP x hx
    omega
  · have := hP x hx
    omega
  · have := (h.cd.lt hx).2
    have := hP x hP2
    omega
end
/-- Texts under way to be spoilt, both tables beside them. -/
structure St2 (W w6 w : World) (P F : Nat → Prop) (t b : Nat) (s r : List Dc × List Key) (v : Value) (k : Nat) (docs : List Dc) (vs : List Value) (q : Nat) : Prop where
  bt : Bt W w P F (CdB v vs) t b s r
  sp : Spt w6 w vs docs q
  row : w.ownsRow 0 34 2 v k (dcV (ks docs) vs)
section
variable {W w w6 w8 : World} {P F : Nat → Prop} {t b k q : Nat} {s r : List Dc × List Key} {v u : Value} {docs : List Dc} {vs : List Value}
theorem St2.start (h : Bt W w P F (CdB v vs) t b s r) (hc : Cd W w v k docs vs) : St2 W w w P F t b s r v k docs vs 0 :=
  ⟨h, ⟨Ch.refl _ _, fun i u d _ hu hd => (hc.rows i u d hu hd).1⟩, hc.dg.own⟩
theorem St2.next (h : St2 W w6 w P F t b s r v k docs vs q) (hc0 : Cd W w6 v k docs vs) (hg : 0 < W.heap.size) (hu : vs[q]? = some u) (h8 : Ch (fun k => u.ownBlock = some k) w w8) : St2 W w6 w8 P F t b s r v k docs vs (q + 1) := by
  have hqd : q < docs.length := by rw [hc0.kl]; exact (List.getElem?_eq_some_iff.1 hu).1
  obtain ⟨_, hoff⟩ := hc0.rows q u _ hu (List.getElem?_eq_getElem hqd)
  refine ⟨h.bt.spoilt hg h8 (fun x hx => .inl (.inr ⟨q, u, hu, hx⟩)), h.sp.next (Ch.refl _ _) hu h8 (fun i x hx hne g h1 h2 => hne (hc0.apart i q x u g hx hu h1 h2)), h8.own h.row (fun g hg2 hu2 => (hoff g hu2).2 hg2)⟩
end
end Go.Proofs.Ytpilekadcondnaa
