/-
  The document's table with a new row of documents, or of keys that are gone. Conditions: none; plain lemmas.
-/
import Derived.Test.YtpilekadcondnaaMmTab
namespace Go.Proofs.Ytpilekadcondnaa
open Go.RowKit Go.Oct Go.Su Go.Sg

section
variable {w w6 : World} {F : Nat → Prop} {b n : Nat} {ds es : List Dc} {gs hs : List Key} {v : Value} {us : List Value}
/-- What lies in F and what is new. -/
def And1 (w w' : World) (F : Nat → Prop) (x : Nat) : Prop := F x ∨ (w.heap.size ≤ x ∧ x < w'.heap.size)
theorem size_set (w : World) (a : Addr) (v : Value) : (w.setCell a v).heap.size = w.heap.size := by simp [World.setCell]
theorem tab_frozen {w' : World} {S : Nat → Prop} (h : TabD w F b ds gs) (hc : Ch S w w') (hb : ¬ S b) (j : Nat) : w'.frozen? ⟨b, j, none⟩ = false := by
  rw [hc.frozen (p := ⟨b, j, none⟩) hb h.lt]; exact h.zf j
theorem set_frozen (w : World) (a : Addr) (v : Value) (p : Addr) : (w.setCell a v).frozen? p = w.frozen? p := by simp
theorem TabD.setDocs (h : TabD w F b ds gs) (hG : Gs 34 2 w w6 v n us) (hR : DcR w6 (And1 w w6 F) us es) (ok : TabOk es gs) (few : es.length ≤ 1000000) : TPost (es, gs) b w F (w6.setCell ⟨b, 0, none⟩ v) := by
  obtain ⟨A, c, B, d, h1, h2, h3, h4, r1, r2, r3, r4⟩ := h.row
  have hbl := h.lt
  have hl : es.length = n := by have e1 := hG.own.1; have e2 := hR.1; omega
  obtain ⟨A6, c6, rfl, q1, q2⟩ := own_shape hG.own
  have hs : Ch (fun x => x = b) w6 (w6.setCell ⟨b, 0, none⟩ (.slice A6 n c6)) := (Ch.refl (fun x => x = b) w6).setCell (p := ⟨b, 0, none⟩) (.inl rfl) _
  have hcc : Ch (fun x => x = b) w (w6.setCell ⟨b, 0, none⟩ (.slice A6 n c6)) := (hG.ch.mono (fun _ _ h => h.elim)).trans hs (fun _ _ h => h)
  have hnew : ∀ x, And1 w w6 F x → ¬ x = b := fun x hx e => by
    subst e
    rcases hx with hx | hx
    · exact h.no hx
    · omega
  have hdc : Dcs w6 (And1 w w6 F) A6 n es := hR.dcs hG.own (fun g hg => .inr ⟨hG.lies g hg, own_lt hG.own g hg⟩)
  have k0 := hG.ch.cell (p := ⟨b, 0, none⟩) (fun h => h) h1
  have k1 := hG.ch.cell (p := ⟨b, 1, none⟩) (fun h => h) h2
  refine ⟨And1 w w6 F, ⟨⟨A6, c6, B, d, ?_, ?_, ?_, ?_, by show es.length ≤ c6; omega, q2, r3, r4⟩, fun j => by rw [set_frozen]; exact tab_frozen h hG.ch (fun h => h) j, fun hb => hnew b hb rfl, ok, ⟨few, h.few.2⟩, ?_⟩, fun x hx => by rw [size_set]; exact hx, hcc⟩
  · rw [hl]
    exact World.cell?_setCell_same _ _ _ k0
  · rw [World.cell?_setCell_other _ _ _ _ (by simp)]
    exact k1
  · rw [hl]
    exact hdc.ch hs (fun x hx _ => hnew x hx)
  · exact ((h4.ch hG.ch (fun _ _ _ h => h)).mono (G := And1 w w6 F) (fun _ _ hx => .inl hx)).ch hs (fun x hx _ => hnew x hx)
  · intro j X m x hj hX
    match j, hj with
    | 0, _ => rw [World.cell?_setCell_same _ _ _ k0] at hX; injection hX with hX; injection hX with e1 e2 e3; subst e1 e3; exact shp_own hG.own
    | 1, _ => rw [World.cell?_setCell_other _ _ _ _ (by simp), k1] at hX; injection hX with hX; injection hX with e1 e2 e3; subst e1 e3; exact h.shp 1 _ _ _ (by omega) h2
theorem TabD.setGone (h : TabD w F b ds gs) (hG : Gs 9 1 w w6 v n (hs.map kv)) (ok : TabOk ds hs) (few : hs.length ≤ 1000000) : TPost (ds, hs) b w F (w6.setCell ⟨b, 1, none⟩ v) := by
  obtain ⟨A, c, B, d, h1, h2, h3, h4, r1, r2, r3, r4⟩ := h.row
  have hbl := h.lt
  have hl : hs.length = n := by simpa using hG.own.1
  obtain ⟨A6, c6, rfl, q1, q2⟩ := own_shape hG.own
  have hst : Ch (fun x => x = b) w6 (w6.setCell ⟨b, 1, none⟩ (.slice A6 n c6)) := (Ch.refl (fun x => x = b) w6).setCell (p := ⟨b, 1, none⟩) (.inl rfl) _
  have hcc : Ch (fun x => x = b) w (w6.setCell ⟨b, 1, none⟩ (.slice A6 n c6)) := (hG.ch.mono (fun _ _ h => h.elim)).trans hst (fun _ _ h => h)
  have hnew : ∀ x, And1 w w6 F x → ¬ x = b := fun x hx e => by
    subst e
    rcases hx with hx | hx
    · exact h.no hx
    · omega
  have hkk : Kss w6 (And1 w w6 F) A6 n hs := (show Kss w6 _ A6 n hs from Vs.of_own hG.own).mono (fun x hx hg => .inr ⟨hG.lies x hg, hx⟩)
  have k0 := hG.ch.cell (p := ⟨b, 0, none⟩) (fun h => h) h1
  have k1 := hG.ch.cell (p := ⟨b, 1, none⟩) (fun h => h) h2
  refine ⟨And1 w w6 F, ⟨⟨A, c, A6, c6, ?_, ?_, ?_, ?_, r1, r2, by show hs.length ≤ c6; omega, q2⟩, fun j => by rw [set_frozen]; exact tab_frozen h hG.ch (fun h => h) j, fun hb => hnew b hb rfl, ok, ⟨h.few.1, few⟩, ?_⟩, fun x hx => by rw [size_set]; exact hx, hcc⟩
  · rw [World.cell?_setCell_other _ _ _ _ (by simp)]
    exact k0
  · rw [hl]
    exact World.cell?_setCell_same _ _ _ k1
  · exact ((h3.ch hG.ch (fun _ _ _ h => h)).mono (G := And1 w w6 F) (fun _ _ hx => .inl hx)).ch hst (fun x hx _ => hnew x hx)
  · rw [hl]
    exact hkk.ch hst (fun x hx _ => hnew x hx)
  · intro j X m x hj hX
    match j, hj with
    | 0, _ => rw [World.cell?_setCell_other _ _ _ _ (by simp), k0] at hX; injection hX with hX; injection hX with e1 e2 e3; subst e1 e3; exact h.shp 0 _ _ _ (by omega) h1
    | 1, _ => rw [World.cell?_setCell_same _ _ _ k1] at hX; injection hX with hX; injection hX with e1 e2 e3; subst e1 e3; exact shp_own hG.own
theorem TPost.refl (h : TabD w F b ds gs) : TPost (ds, gs) b w F w := ⟨F, h, fun _ h => .inl h, Ch.refl _ _⟩
theorem TPost.trans {w' w2 : World} {F' : Nat → Prop} {s : List Dc × List Key} (hF : ∀ x, F' x → F x ∨ (w.heap.size ≤ x ∧ x < w'.heap.size)) (hc : Ch (fun x => x = b) w w') (h : TPost s b w' F' w2) : TPost s b w F w2 := by
  obtain ⟨F2, h1, h2, h3⟩ := h
  refine ⟨F2, h1, fun x hx => ?_, hc.trans h3 (fun _ _ h => h)⟩
  have := hc.size
  have := h3.size
  rcases h2 x hx with h | h
  · rcases hF x h with h | h
    · exact .inl h
    · exact .inr ⟨h.1, by omega⟩
  · exact .inr ⟨by omega, h.2⟩
theorem tabok_delDocs (h : TabOk ds gs) (k : Key) : TabOk (del (·.1) ds k) gs :=
  ⟨riseF_del h.dr k, h.gr, fun d hd => h.apart d (mem_del.1 hd).1, fun d hd => h.dk d (mem_del.1 hd).1, h.gk, fun d hd => h.len d (mem_del.1 hd).1, fun d hd => h.byte d (mem_del.1 hd).1⟩
theorem tabok_delGone (h : TabOk ds gs) (k : Key) : TabOk ds (del id gs k) :=
  ⟨h.dr, riseF_del h.gr k, fun d hd hg => h.apart d hd (mem_del.1 hg).1, h.dk, fun j hj => h.gk j (mem_del.1 hj).1, h.len, h.byte⟩
end
end Go.Proofs.Ytpilekadcondnaa
