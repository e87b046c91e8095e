/- Lemmas and contracts of this proof. Conditions: said at each. -/
import Derived.Test.YtbkakhfepiooaaaGreatDoorQGSgWords
import Derived.Test.YtbkakhfepiooaaaGreatDoorQGSuRow
import Derived.Lib.Strings
import Derived.Deep.DeepCutAuto
import Derived.RegionTactic
import Derived.WalkLawsBesides
import Derived.Laws.OwnMore
import Derived.Lib.SliceRun
import Derived.StillTailTactics
namespace Go.Proofs.YtbkakhfepiooaaaGreatDoor
section
open Go.RowKit Go.Oct Go.Su Go.Sg
theorem elemS : Elem Tryz.prog 81 9 (.string ByteArray.empty) 16 := ⟨Tryz.underlying81, by kernel_rfl, rfl⟩
/-- The document's segment at block b. -/
def Rs (w : World) (F : Nat → Prop) (b : Nat) (ds : List Dc) (gs : List Key) : Prop := ∃ A c B d, w.cell? ⟨b, 0, none⟩ = some (.slice A ds.length c) ∧ w.cell? ⟨b, 1, none⟩ = some (.slice B gs.length d) ∧ Dcs w F A ds.length ds ∧ Kss w F B gs.length gs ∧ ds.length ≤ c ∧ c ≤ 9223372036854775807 ∧ gs.length ≤ d ∧ d ≤ 9223372036854775807 ∧ F b
section
variable {w w' : World} {F G S : Nat → Prop} {b : Nat} {ds : List Dc} {gs : List Key}
theorem Rs.ch (h : Rs w F b ds gs) (hc : Ch S w w') (hF : ∀ b, F b → b < w.heap.size → ¬ S b) : Rs w' F b ds gs := by
  obtain ⟨A, c, B, d, h1, h2, h3, h4, h5, h6, h7, h8, h9⟩ := h
  have hb := hF b h9 (lt_of_cell h1)
  exact ⟨A, c, B, d, hc.cell hb h1, hc.cell hb h2, h3.ch hc hF, h4.ch hc hF, h5, h6, h7, h8, h9⟩
theorem Rs.mono (h : Rs w F b ds gs) (hF : ∀ b, b < w.heap.size → F b → G b) : Rs w G b ds gs := by
  obtain ⟨A, c, B, d, h1, h2, h3, h4, h5, h6, h7, h8, h9⟩ := h
  exact ⟨A, c, B, d, h1, h2, h3.mono hF, h4.mono hF, h5, h6, h7, h8, hF b (lt_of_cell h1) h9⟩
theorem Rs.keep (h : Rs w F b ds gs) (hc : Ch (fun _ => False) w w') : Rs w' F b ds gs := h.ch hc (fun _ _ _ h => h)
end
theorem key_any (k : Key) (w : World) (hk : k.length ≤ 9223372036854775807) (o : Bool) (ho : decide (okK k) = o) : Calls Tryz.prog 91 #[kv k] w fun e w' => e = .returned (.bool o) ∧ w = w' := by
  obtain ⟨S, hS, hz⟩ : ∃ S : ByteArray, kv k = .string S ∧ S.size = k.length := ⟨_, rfl, kv_size k⟩
  have HO := Bx.mk ho
  rw [hS]
  have HOK : Bx (okK k ↔ 1 ≤ k.length ∧ k.length ≤ 64) := ⟨Iff.rfl⟩
  clear hS ho
  generalize k.length = n at *
  by_cases h1 : 1 ≤ n
  · have e1 : decide ((1 : Int) ≤ (n : Int)) = true := decide_eq_true (by omega)
    by_cases h2 : n ≤ 64
    · have e2 : decide ((n : Int) ≤ 64) = true := decide_eq_true (by omega)
      have HB : Bx (true = o) := ⟨by rw [← HO.out]; exact (decide_eq_true (HOK.out.2 ⟨h1, h2⟩)).symm⟩
      go_enter Tryz.func91, Tryz.ntmps91
      go_wp2
      go_ret
      exact ⟨ret_bool HB.out, rfl⟩
    · have e2 : decide ((n : Int) ≤ 64) = false := decide_eq_false (by omega)
      have HB : Bx (false = o) := ⟨by rw [← HO.out]; exact (decide_eq_false (fun h => h2 (HOK.out.1 h).2)).symm⟩
      go_enter Tryz.func91, Tryz.ntmps91
      go_wp2
      go_ret
      exact ⟨ret_bool HB.out, rfl⟩
  · have e1 : decide ((1 : Int) ≤ (n : Int)) = false := decide_eq_false (by omega)
    have HB : Bx (false = o) := ⟨by rw [← HO.out]; exact (decide_eq_false (fun h => h1 (HOK.out.1 h).1)).symm⟩
    go_enter Tryz.func91, Tryz.ntmps91
    go_wp2
    go_ret
    exact ⟨ret_bool HB.out, rfl⟩
section
variable {F : Nat → Prop}
theorem rows_one {w : World} {G : Nat → Prop} {us : List Value} {xss : List (List Int)} {A : Option Addr} {c : Nat} {t : List Int} (h : Oct.Rows w G us xss) (hs : Sl w G .u8 A t.length t) (h1 : t.length ≤ c) (h2 : c ≤ maxLen) : Oct.Rows w G (us ++ [.slice A t.length c]) (xss ++ [t]) :=
  Oct.Rows.app h (Oct.Rows.cons_ hs h1 h2 (Oct.Rows.nil_ _ _))
theorem ts_take {ds : List Dc} {k : Nat} {d : Dc} (h : ds[k]? = some d) : ts (ds.take (k + 1)) = ts (ds.take k) ++ [d.2] := by
  rw [Oct.take_more h, ts_app]
  rfl
theorem ks_take {ds : List Dc} {k : Nat} {d : Dc} (h : ds[k]? = some d) : ks (ds.take (k + 1)) = ks (ds.take k) ++ [d.1] := by
  rw [Oct.take_more h, ks_app]
  rfl
/-- What Texts leaves. -/
def TextsOf (F : Nat → Prop) (ds : List Dc) (w : World) (e : Ending) (w' : World) : Prop := ∃ (A : Option Addr) (c : Nat), e = .returned (.slice A ds.length c) ∧ Sls w' (fun b => F b ∨ w.heap.size ≤ b) A ds.length (ts ds) ∧ ds.length ≤ c ∧ c ≤ maxLen ∧ Ch (fun _ => False) w w'
end
end
end Go.Proofs.YtbkakhfepiooaaaGreatDoor
namespace Go.Proofs.YtbkakhfepiooaaaGreatDoor.M
section
open Go.RowKit Go.Oct Go.Su Go.Sg
/-- Cells that are documents. -/
def DcR (w : World) (F : Nat → Prop) (us : List Value) (ds : List Dc) : Prop := us.length = ds.length * 2 ∧ ∀ j d, ds[j]? = some d → ∃ A c, us[j * 2]? = some (kv d.1) ∧ us[j * 2 + 1]? = some (.slice A d.2.length c) ∧ Sl w F .u8 A d.2.length d.2 ∧ d.2.length ≤ c ∧ c ≤ maxLen
section
variable {w w' : World} {F G S : Nat → Prop} {us vs : List Value} {ds es : List Dc} {A : Option Addr} {n c : Nat}
theorem DcR.nil (w : World) (F : Nat → Prop) : DcR w F [] [] := ⟨rfl, fun j d h => by simp at h⟩
theorem DcR.ch (h : DcR w F us ds) (hc : Ch S w w') (hF : ∀ b, F b → b < w.heap.size → ¬ S b) : DcR w' F us ds := ⟨h.1, fun j d hd => by
  obtain ⟨A, c, h1, h2, h3, h4⟩ := h.2 j d hd
  exact ⟨A, c, h1, h2, h3.ch hc hF, h4⟩⟩
theorem DcR.mono (h : DcR w F us ds) (hF : ∀ b, b < w.heap.size → F b → G b) : DcR w G us ds := ⟨h.1, fun j d hd => by
  obtain ⟨A, c, h1, h2, h3, h4⟩ := h.2 j d hd
  exact ⟨A, c, h1, h2, h3.mono hF, h4⟩⟩
theorem DcR.take (h : DcR w F us ds) (i : Nat) (hi : i ≤ ds.length) : DcR w F (us.take (i * 2)) (ds.take i) := by
  have hl := h.1
  refine ⟨by rw [List.length_take, List.length_take]; omega, fun j d hd => ?_⟩
  rw [List.getElem?_take] at hd
  split at hd
  · rename_i hj
    obtain ⟨A, c, h1, h2, h3⟩ := h.2 j d hd
    exact ⟨A, c, by rw [List.getElem?_take, if_pos (by omega)]; exact h1, by rw [List.getElem?_take, if_pos (by omega)]; exact h2, h3⟩
  · cases hd
theorem DcR.drop (h : DcR w F us ds) (i : Nat) (hi : i ≤ ds.length) : DcR w F (us.drop (i * 2)) (ds.drop i) := by
  have hl := h.1
  refine ⟨by rw [List.length_drop, List.length_drop]; omega, fun j d hd => ?_⟩
  rw [List.getElem?_drop] at hd
  obtain ⟨A, c, h1, h2, h3⟩ := h.2 (i + j) d hd
  exact ⟨A, c, by rw [List.getElem?_drop, show i * 2 + j * 2 = (i + j) * 2 by omega]; exact h1, by rw [List.getElem?_drop, show i * 2 + (j * 2 + 1) = (i + j) * 2 + 1 by omega]; exact h2, h3⟩
theorem DcR.app (h : DcR w F us ds) (k : DcR w F vs es) : DcR w F (us ++ vs) (ds ++ es) := by
  have hl := h.1
  have kl := k.1
  refine ⟨by rw [List.length_append, List.length_append]; omega, fun j d hd => ?_⟩
  rcases Nat.lt_or_ge j ds.length with hj | hj
  · rw [List.getElem?_append_left hj] at hd
    obtain ⟨A, c, h1, h2, h3⟩ := h.2 j d hd
    exact ⟨A, c, by rw [List.getElem?_append_left (by omega)]; exact h1, by rw [List.getElem?_append_left (by omega)]; exact h2, h3⟩
  · rw [List.getElem?_append_right hj] at hd
    obtain ⟨A, c, h1, h2, h3⟩ := k.2 _ d hd
    exact ⟨A, c, by rw [List.getElem?_append_right (by omega), show j * 2 - us.length = (j - ds.length) * 2 by omega]; exact h1, by rw [List.getElem?_append_right (by omega), show j * 2 + 1 - us.length = (j - ds.length) * 2 + 1 by omega]; exact h2, h3⟩
theorem DcR.one {d : Dc} (h : Sl w F .u8 A d.2.length d.2) (h1 : d.2.length ≤ c) (h2 : c ≤ maxLen) : DcR w F [kv d.1, .slice A d.2.length c] [d] := ⟨rfl, fun j e he => by
  match j, he with
  | 0, he =>
    simp at he
    subst he
    exact ⟨A, c, rfl, rfl, h, h1, h2⟩⟩
theorem DcR.cells1 (h : DcR w F us ds) : ∀ u ∈ us, u.oneCell' = true := fun u hu => by
  obtain ⟨q, hq⟩ := List.getElem?_of_mem hu
  obtain ⟨hq1, _⟩ := List.getElem?_eq_some_iff.1 hq
  have hl := h.1
  have hj : q / 2 < ds.length := by omega
  obtain ⟨A, c, h1, h2, _⟩ := h.2 (q / 2) _ (List.getElem?_eq_getElem hj)
  rcases (by omega : q = q / 2 * 2 ∨ q = q / 2 * 2 + 1) with e | e
  · rw [e, h1] at hq
    injection hq with hq
    subst hq
    rfl
  · rw [e, h2] at hq
    injection hq with hq
    subst hq
    rfl
/-- Documents of a row of the call's own. -/
theorem DcR.dcs (h : DcR w F us ds) (how : w.ownsRow 0 129 2 (.slice A n c) n us) (hF : ∀ g, (Value.slice A n c).ownBlock = some g → F g) : Dcs w F A n ds := by
  have hl : ds.length = n := by
    have e1 := how.1
    have e2 := h.1
    omega
  refine ⟨hl, fun hn => ?_⟩
  rcases how.2 with ⟨_, h0⟩ | ⟨g, cap, cur, hv, _, _, _⟩
  · omega
  · injection hv with hA2
    subst hA2
    refine ⟨g, 0, rfl, hF g rfl, fun i d hd => ?_⟩
    obtain ⟨hi, _⟩ := List.getElem?_eq_some_iff.1 hd
    obtain ⟨B, cB, c1, c2, hsl, q1, q2⟩ := h.2 i d hd
    have k1 := how.cellAt (i * 2) (by omega)
    have k2 := how.cellAt (i * 2 + 1) (by omega)
    rw [c1] at k1
    rw [c2] at k2
    refine ⟨[kv d.1, .slice B d.2.length cB], rfl, ⟨B, cB, rfl, hsl, q1, q2⟩, fun z u hu => ?_⟩
    rw [Nat.zero_add]
    match z, hu with
    | 0, hu => simp at hu; subst hu; exact k1
    | 1, hu => simp at hu; subst hu; exact k2
/-- A slice of documents in the open. -/
theorem Dcs.open_ (h : Dcs w F A n ds) (hn : 0 < n) : ∃ b off us, A = some ⟨b, off, none⟩ ∧ F b ∧ DcR w F us ds ∧ ∀ q u, us[q]? = some u → w.cell? ⟨b, off + q, none⟩ = some u := by
  have hl := h.len
  obtain ⟨b, off, e, hb, hj⟩ := Ro.at_ h hn
  have key : ∀ j d, ds[j]? = some d → ∃ B c, w.cell? ⟨b, off + j * 2, none⟩ = some (kv d.1) ∧ w.cell? ⟨b, off + j * 2 + 1, none⟩ = some (.slice B d.2.length c) ∧ Sl w F .u8 B d.2.length d.2 ∧ d.2.length ≤ c ∧ c ≤ maxLen := fun j d hd => by
    obtain ⟨cs, _, ⟨B, c, rfl, r⟩, hi⟩ := hj j d hd
    exact ⟨B, c, hi 0 _ rfl, hi 1 _ rfl, r⟩
  have hus : ∀ q, q < n * 2 → ((List.range (n * 2)).map fun q => (w.cell? ⟨b, off + q, none⟩).getD default)[q]? = some ((w.cell? ⟨b, off + q, none⟩).getD default) := fun q hq => by
    rw [List.getElem?_map, List.getElem?_range hq]
    rfl
  refine ⟨b, off, (List.range (n * 2)).map fun q => (w.cell? ⟨b, off + q, none⟩).getD default, e, hb, ⟨by rw [List.length_map, List.length_range, hl], fun j d hd => ?_⟩, fun q u hu => ?_⟩
  · obtain ⟨hjl, _⟩ := List.getElem?_eq_some_iff.1 hd
    obtain ⟨B, c, k1, k2, r⟩ := key j d hd
    refine ⟨B, c, ?_, ?_, r⟩
    · rw [hus _ (by omega), k1]; rfl
    · rw [hus _ (by omega), show off + (j * 2 + 1) = off + j * 2 + 1 by omega, k2]; rfl
  · obtain ⟨hq, _⟩ := List.getElem?_eq_some_iff.1 hu
    rw [List.length_map, List.length_range] at hq
    rw [hus q hq] at hu
    injection hu with hu
    have hjl : q / 2 < ds.length := by omega
    obtain ⟨B, c, k1, k2, _⟩ := key (q / 2) _ (List.getElem?_eq_getElem hjl)
    rw [← hu]
    rcases (by omega : q = q / 2 * 2 ∨ q = q / 2 * 2 + 1) with e2 | e2
    · rw [← e2] at k1
      rw [k1]; rfl
    · rw [show off + q / 2 * 2 + 1 = off + (q / 2 * 2 + 1) by omega, ← e2] at k2
      rw [k2]; rfl
end
/-- A slice's place as every row of the call's own has it. -/
def Shp (A : Option Addr) (c : Nat) : Prop := (A = none ∧ c = 0) ∨ ∃ g o, A = some ⟨g, o, none⟩
theorem shp_own {w : World} {base s n c : Nat} {e : TypeId} {A : Option Addr} {us : List Value} (h : w.ownsRow base e s (.slice A n c) n us) : Shp A c := by
  rcases h.2 with ⟨e1, _⟩ | ⟨g, cap, cur, e1, _⟩
  · injection e1 with e1 e2 e3
    exact .inl ⟨e1, e3⟩
  · injection e1 with e1 e2 e3
    exact .inr ⟨g, 0, e1⟩
/-- The document's table at block b: its rows lie in blocks of F, not in b. -/
structure TabD (w : World) (F : Nat → Prop) (b : Nat) (ds : List Dc) (gs : List Key) : Prop where
  row : ∃ A c B d, w.cell? ⟨b, 0, none⟩ = some (.slice A ds.length c) ∧ w.cell? ⟨b, 1, none⟩ = some (.slice B gs.length d) ∧ Dcs w F A ds.length ds ∧ Kss w F B gs.length gs ∧ ds.length ≤ c ∧ c ≤ maxLen ∧ gs.length ≤ d ∧ d ≤ maxLen
  zf : ∀ j, w.frozen? ⟨b, j, none⟩ = false
  no : ¬ F b
  ok : TabOk ds gs
  few : ds.length ≤ 1000000 ∧ gs.length ≤ 1000000
  shp : ∀ j A n c, j < 2 → w.cell? ⟨b, j, none⟩ = some (.slice A n c) → Shp A c
section
variable {w w' : World} {F G S : Nat → Prop} {b : Nat} {ds : List Dc} {gs : List Key}
theorem TabD.lt (h : TabD w F b ds gs) : b < w.heap.size := by
  obtain ⟨A, c, B, d, h1, _⟩ := h.row
  exact lt_of_cell h1
theorem TabD.ch (h : TabD w F b ds gs) (hc : Ch S w w') (hb : ¬ S b) (hF : ∀ x, F x → x < w.heap.size → ¬ S x) : TabD w' F b ds gs := by
  obtain ⟨A, c, B, d, h1, h2, h3, h4, r⟩ := h.row
  refine ⟨⟨A, c, B, d, hc.cell hb h1, hc.cell hb h2, h3.ch hc hF, h4.ch hc hF, r⟩, fun j => by rw [hc.frozen (p := ⟨b, j, none⟩) hb h.lt]; exact h.zf j, h.no, h.ok, h.few, fun j X n x hj hX => ?_⟩
  match j, hj with
  | 0, _ => have e := hc.cell (p := ⟨b, 0, none⟩) hb h1; rw [e] at hX; injection hX with hX; injection hX with e1 e2 e3; subst e1 e3; exact h.shp 0 _ _ _ (by omega) h1
  | 1, _ => have e := hc.cell (p := ⟨b, 1, none⟩) hb h2; rw [e] at hX; injection hX with hX; injection hX with e1 e2 e3; subst e1 e3; exact h.shp 1 _ _ _ (by omega) h2
theorem TabD.keep (h : TabD w F b ds gs) (hc : Ch (fun _ => False) w w') : TabD w' F b ds gs := h.ch hc (fun h => h) (fun _ _ _ h => h)
/-- What a call of one of its functions leaves. -/
def TPost (s : List Dc × List Key) (b : Nat) (w : World) (F : Nat → Prop) (w' : World) : Prop := ∃ F' : Nat → Prop, TabD w' F' b s.1 s.2 ∧ (∀ x, F' x → F x ∨ (w.heap.size ≤ x ∧ x < w'.heap.size)) ∧ Ch (fun x => x = b) w w'
end
end
section
open Go.RowKit Go.Oct Go.Su Go.Sg Go.Mt Go.Maps
/-- What became of a key, as a value. -/
def fate (b : Bool) (v : Value) : Value := .agg #[.bool b, v]
theorem mapLaw : Keyed Tryz.prog 9 := string_keyed Tryz.underlying9
theorem mapT : Tryz.prog.underlying 125 = some (.map 9 190) := Tryz.underlying125
theorem zeroT (w : World) : (zeroValue 190).run Tryz.prog w = .ok (fate false (.slice none 0 0)) w := by kernel_rfl
theorem key_of {k : Key} (h : k.length ≤ maxLen) : keyOf Tryz.prog 9 (kv k) = some (.string k) := by
  unfold kv
  have := Go.WideMaps.keyOf_string_mk (P := Tryz.prog) Tryz.underlying9 (s := ⟨k.toArray⟩) (by rw [kv_size]; exact h)
  rwa [kv_list] at this
theorem own_map_ch {kt : TypeId} {b n : Nat} {D : DataW Value} {P : Program} {w w' : World} {S : Nat → Prop} (h : w.ownsMap P kt heldR b n D) (hc : Ch S w w') (hb : ¬ S b) : w'.ownsMap P kt heldR b n D := by
  have hl := h.lt
  obtain ⟨es, c, hh, r⟩ := h
  exact ⟨es, c, (hc.block b hl hb).trans hh, r⟩
/-- The table's map: keys and what became of them. -/
structure Ents (w : World) (P : Nat → Prop) (t : Nat) (mb : Option Nat) (ks : List Key) (vf : Key → Value) (ds : List Dc) (gs : List Key) : Prop where
  rise : RiseF id ks
  perm : ks.Perm (ds.map (·.1) ++ gs)
  none_ : mb = none → ks = []
  some_ : ∀ b, mb = some b → P b ∧ b ≠ t ∧ w.ownsMap Tryz.prog 9 heldR b ks.length (mapK ks vf)
  docs : ∀ d ∈ ds, ∃ A c, vf d.1 = fate true (.slice A d.2.length c) ∧ Sl w (fun x => P x ∧ x ≠ t ∧ mb ≠ some x) .u8 A d.2.length d.2 ∧ d.2.length ≤ c ∧ c ≤ maxLen ∧ Shp A c
  gone : ∀ k ∈ gs, vf k = fate false (.slice none 0 0)
/-- The program's table at block t; all its blocks are of P. -/
structure TabP (w : World) (P : Nat → Prop) (t : Nat) (ds : List Dc) (gs : List Key) : Prop where
  row : ∃ mb ks vf, w.cell? ⟨t, 0, none⟩ = some (.map mb) ∧ Ents w P t mb ks vf ds gs
  zf : w.frozen? ⟨t, 0, none⟩ = false
  own : P t
  lt : ∀ x, P x → x < w.heap.size
  ok : TabOk ds gs
  few : ds.length + gs.length ≤ 1000000
  mx : ∃ m, w.cell? ⟨4, 0, none⟩ = some (.int .i64 m)
  mxp : ¬ P 4
section
variable {w w' : World} {P S F : Nat → Prop} {t : Nat} {mb : Option Nat} {ks gs : List Key} {vf : Key → Value} {ds : List Dc} {k : Key}
theorem Ents.ch (h : Ents w P t mb ks vf ds gs) (hc : Ch S w w') (hP : ∀ x, P x → ¬ S x) : Ents w' P t mb ks vf ds gs :=
  ⟨h.rise, h.perm, h.none_, fun b hb => by
    obtain ⟨h1, h2, h3⟩ := h.some_ b hb
    exact ⟨h1, h2, own_map_ch h3 hc (hP b h1)⟩, fun d hd => by
    obtain ⟨A, c, h1, h2, h3⟩ := h.docs d hd
    exact ⟨A, c, h1, h2.ch hc (fun x hx _ => hP x hx.1), h3⟩, h.gone⟩
theorem TabP.lt_t (h : TabP w P t ds gs) : t < w.heap.size := h.lt t h.own
theorem TabP.ch (h : TabP w P t ds gs) (hc : Ch S w w') (hP : ∀ x, P x → ¬ S x) (hV : ¬ S 4) : TabP w' P t ds gs := by
  obtain ⟨mb, ks, vf, h1, h2⟩ := h.row
  obtain ⟨m, hm⟩ := h.mx
  exact ⟨⟨mb, ks, vf, hc.cell (p := ⟨t, 0, none⟩) (hP t h.own) h1, h2.ch hc hP⟩, by rw [hc.frozen (p := ⟨t, 0, none⟩) (hP t h.own) h.lt_t]; exact h.zf, h.own, fun x hx => Nat.lt_of_lt_of_le (h.lt x hx) hc.size, h.ok, h.few, ⟨m, hc.cell (p := ⟨4, 0, none⟩) hV hm⟩, h.mxp⟩
theorem TabP.keep (h : TabP w P t ds gs) (hc : Ch (fun _ => False) w w') : TabP w' P t ds gs := h.ch hc (fun _ _ h => h) (fun h => h)
/-- What a call of one of its functions leaves. -/
def MPost (s : List Dc × List Key) (t : Nat) (w : World) (P : Nat → Prop) (w' : World) : Prop := ∃ P' : Nat → Prop, TabP w' P' t s.1 s.2 ∧ (∀ x, P' x → P x ∨ w.heap.size ≤ x) ∧ Ch P w w'
theorem MPost.quiet (h : TabP w P t ds gs) (hc : Ch (fun _ => False) w w') : MPost (ds, gs) t w P w' := ⟨P, h.keep hc, fun _ h => .inl h, hc.mono (fun _ _ h => h.elim)⟩
theorem MPost.refl (h : TabP w P t ds gs) : MPost (ds, gs) t w P w := .quiet h (Ch.refl _ _)
theorem MPost.trans {w' w2 : World} {P' : Nat → Prop} {s : List Dc × List Key} (hP : ∀ x, P' x → P x ∨ w.heap.size ≤ x) (hc : Ch P w w') (h : MPost s t w' P' w2) : MPost s t w P w2 := by
  obtain ⟨P2, h1, h2, h3⟩ := h
  refine ⟨P2, h1, fun x hx => ?_, hc.trans h3 (fun i hi hs => ?_)⟩
  · rcases h2 x hx with h | h
    · exact hP x h
    · exact .inr (Nat.le_trans hc.size h)
  · rcases hP i hs with h | h
    · exact h
    · omega
/-- What the map tells of a key. -/
theorem Ents.look_ok (h : Ents w P t mb ks vf ds gs) (hk : k.length ≤ maxLen) : (Instr.lookup 125 (.map mb) (kv k) true).run Tryz.prog w = .ok (.tuple #[if k ∈ ks then vf k else fate false (.slice none 0 0), .bool (decide (k ∈ ks))]) w := by
  cases mb with
  | none =>
    have := Maps.look_nil (w := w) true mapLaw mapT (z := fate false (.slice none 0 0)) (zeroT w) (key_of hk)
    rw [h.none_ rfl]
    simpa using this
  | some b =>
    obtain ⟨_, _, ho⟩ := h.some_ b rfl
    obtain ⟨v, ps, hr, hv⟩ := ho.look_ok (z := fate false (.slice none 0 0)) (zd := .held (fate false (.slice none 0 0))) (zp := []) mapLaw mapT (zeroT w) rfl (key_of hk)
    by_cases hx : k ∈ ks
    · rw [at_mapK h.rise hx] at hv
      simp only [heldR, Option.some.injEq, Prod.mk.injEq, DataW.held.injEq] at hv
      rw [hr, hv.1, has_mapK, if_pos hx]
    · rw [at_mapK_no hx] at hv
      simp only [heldR, Option.some.injEq, Prod.mk.injEq, DataW.held.injEq] at hv
      rw [hr, hv.1, has_mapK, if_neg hx]
theorem Ents.look (h : Ents w P t mb ks vf ds gs) (hk : k.length ≤ maxLen) : (Instr.lookup 125 (.map mb) (kv k) false).run Tryz.prog w = .ok (if k ∈ ks then vf k else fate false (.slice none 0 0)) w := by
  cases mb with
  | none =>
    have := Maps.look_nil (w := w) false mapLaw mapT (z := fate false (.slice none 0 0)) (zeroT w) (key_of hk)
    rw [h.none_ rfl]
    simpa using this
  | some b =>
    obtain ⟨_, _, ho⟩ := h.some_ b rfl
    obtain ⟨v, ps, hr, hv⟩ := ho.lookup (z := fate false (.slice none 0 0)) (zd := .held (fate false (.slice none 0 0))) (zp := []) mapLaw mapT (zeroT w) rfl (key_of hk)
    by_cases hx : k ∈ ks
    · rw [at_mapK h.rise hx] at hv
      simp only [heldR, Option.some.injEq, Prod.mk.injEq, DataW.held.injEq] at hv
      rw [hr, hv.1, if_pos hx]
    · rw [at_mapK_no hx] at hv
      simp only [heldR, Option.some.injEq, Prod.mk.injEq, DataW.held.injEq] at hv
      rw [hr, hv.1, if_neg hx]
theorem Ents.mem (h : Ents w P t mb ks vf ds gs) : k ∈ ks ↔ (∃ d ∈ ds, d.1 = k) ∨ k ∈ gs := kmem h.perm
theorem Ents.len (h : Ents w P t mb ks vf ds gs) : ks.length = ds.length + gs.length := by
  have := h.perm.length_eq
  simpa using this
end
end
section
open Go.RowKit Go.Oct Go.Su Go.Sg Go.Mt Go.Maps
section
variable {w w' : World} {P S F : Nat → Prop} {t : Nat} {mb : Option Nat} {ks gs : List Key} {vf : Key → Value} {ds : List Dc} {k : Key} {A : Option Addr} {n c : Nat}
theorem mown_b0 (w : World) : (w.alloc (.cells #[] 5)).ownsRow 0 5 1 (.slice (some ⟨w.heap.size, 0, none⟩) 0 0) 0 [] := World.ownsRow_made w #[] 0 (Nat.zero_le _) (by unfold maxLen; omega) rfl
set_option maxRecDepth 100000 in
theorem mclone_any (xs : List Int) (A : Option Addr) (n c : Nat) (w : World) (hz : Sl w F .u8 A n xs) (hn : n ≤ 1073741824) :
    Calls Tryz.prog 108 #[.slice A n c] w fun e w' => ∃ v, e = .returned v ∧ Fresh w v xs w' := by
  have q22 : ∀ (w : World) (a : Option Addr) (n c n' c' : Nat), (binOp .eql 22 (.slice a n c) (.slice none n' c')).run Tryz.prog w = .ok (.bool a.isNone) w := fun w a n c n' c' => Lib.run_eql_slice_nil w _ _ a n c n' c' Tryz.underlying22
  have HZ := Bx.mk hz
  have HL := Bx.mk hz.len
  rcases A with _ | p
  · have h0 : n = 0 := by
      rcases Nat.eq_zero_or_pos n with h | h
      · exact h
      · obtain ⟨_, _, e, _⟩ := hz.2 h
        cases e
    subst h0
    obtain rfl : xs = [] := List.eq_nil_of_length_eq_zero hz.len
    clear hz HZ
    go_enter Tryz.func108, Tryz.ntmps108
    go_wp2
    go_ret
    exact ⟨_, rfl, World.ownsRow_nil _ _ _ _, fun g hg => by simp [Value.ownBlock] at hg, Ch.refl _ _⟩
  · have HF : Bx (Fresh w (.slice (some ⟨w.heap.size, 0, none⟩) 0 0) [] (w.alloc (.cells #[] 5))) := ⟨mown_b0 w, fun g hg => by simp [Value.ownBlock] at hg; omega, (Ch.refl _ _).alloc _⟩
    have HO := Bx.mk (mown_b0 w)
    have HZA := Bx.mk (HZ.out.alloc (.cells #[] 5))
    clear hz
    go_enter Tryz.func108, Tryz.ntmps108
    go_wp2_with (at_builtin; refine wp_app rfl (.tmp 5) (.tmp 6) Tb rfl rfl HO.out rfl HZA.out ?c1 ?c2 ?c3 ?_)
    case c1 => exact ints_cells _ _
    case c2 => omega
    case c3 => omega
    intro v5 w5 ho hg hb
    have HF5 := Bx.mk (HF.out.app (m := n) (zs := xs) hg (by simpa using ho) (by rw [World.size_alloc]; exact hb))
    clear ho hg hb
    go_wp2
    go_ret
    exact ⟨v5, rfl, HF5.out⟩
theorem mnokey_any (k : Key) (w : World) (hk : k.length ≤ 9223372036854775807) (o : Bool) (ho : decide (okK k) = !o) :
    Calls Tryz.prog 106 #[kv k] w fun e w' => e = .returned (.bool o) ∧ w = w' := by
  obtain ⟨S, hS, hz⟩ : ∃ S : ByteArray, kv k = .string S ∧ S.size = k.length := ⟨_, rfl, kv_size k⟩
  have HO := Bx.mk ho
  rw [hS]
  have HOK : Bx (okK k ↔ 1 ≤ k.length ∧ k.length ≤ 64) := ⟨Iff.rfl⟩
  clear hS ho
  have he : S.toList.isEmpty = decide (S.size = 0) := by
    rw [Lib.toList_data, Lib.size_eq]
    cases S.data.toList <;> simp
  generalize k.length = n at *
  have hN : S.toList.isEmpty = decide (n = 0) := by rw [he, hz]
  clear he
  by_cases h1 : 1 ≤ n
  · have e0 : S.toList.isEmpty = false := by rw [hN]; exact decide_eq_false (by omega)
    clear hN
    by_cases h2 : n ≤ 64
    · have e2 : decide (64 < (n : Int)) = false := decide_eq_false (by omega)
      have HB : Bx (false = o) := ⟨by
        have := HO.out
        rw [decide_eq_true (HOK.out.2 ⟨h1, h2⟩)] at this
        cases o
        · rfl
        · cases this⟩
      go_enter Tryz.func106, Tryz.ntmps106
      go_wp2_with fail
      go_ret
      exact ⟨ret_bool HB.out, rfl⟩
    · have e2 : decide (64 < (n : Int)) = true := decide_eq_true (by omega)
      have HB : Bx (true = o) := ⟨by
        have := HO.out
        rw [decide_eq_false (fun h => h2 (HOK.out.1 h).2)] at this
        cases o
        · cases this
        · rfl⟩
      go_enter Tryz.func106, Tryz.ntmps106
      go_wp2_with fail
      go_ret
      exact ⟨ret_bool HB.out, rfl⟩
  · have e0 : S.toList.isEmpty = true := by rw [hN]; exact decide_eq_true (by omega)
    clear hN
    have HB : Bx (true = o) := ⟨by
      have := HO.out
      rw [decide_eq_false (fun h => h1 (HOK.out.1 h).1)] at this
      cases o
      · cases this
      · rfl⟩
    go_enter Tryz.func106, Tryz.ntmps106
    go_wp2_with fail
    go_ret
    exact ⟨ret_bool HB.out, rfl⟩
theorem mrun_eqlIn_map (d : Nat) (t k e : TypeId) (P : Program) (w : World) (m : Option Nat) (h : P.underlying t = some (.map k e)) : (Op.equalIn (d + 1) t (.map m) (.map none)).run P w = .ok m.isNone w := by
  cases m <;> simp [Op.equalIn, run_underlying h]
set_option maxRecDepth 100000 in
theorem meql_map (w : World) (m : Option Nat) : (binOp .eql 125 (.map m) (.map none)).run Tryz.prog w = .ok (.bool m.isNone) w := by
  simp only [binOp]
  simp [Op.equal, Op.maxDepth, mrun_eqlIn_map 9999 _ _ _ _ w m mapT]
theorem ncells_at {w : World} {cs : Array Value} {e : TypeId} {j : Nat} {u : Value} (hu : cs[j]? = some u) : (w.alloc (.cells cs e)).cell? ⟨w.heap.size, j, none⟩ = some u := by
  unfold World.cell?
  rw [heap_alloc_new]
  exact hu
/-- What note leaves. -/
def NoteOf (t : Nat) (mb : Option Nat) (ks : List Key) (vf : Key → Value) (k : Key) (v : Value) (w w' : World) : Prop :=
  ∃ b, w'.cell? ⟨t, 0, none⟩ = some (.map (some b)) ∧ w'.frozen? ⟨t, 0, none⟩ = false ∧ b ≠ t ∧ (mb = some b ∨ (mb = none ∧ w.heap.size ≤ b)) ∧
    w'.ownsMap Tryz.prog 9 heldR b (put id ks k).length (mapK (put id ks k) (upd vf k v)) ∧ Ch (fun x => x = t ∨ mb = some x) w w'
theorem own_put {b m : Nat} {v : Value} (hr : RiseF id ks) (ho : w.ownsMap Tryz.prog 9 heldR b m ((mapK ks vf).put (.string k) (.held v))) : w.ownsMap Tryz.prog 9 heldR b (put id ks k).length (mapK (put id ks k) (upd vf k v)) := by
  have h1 := own_tight ho
  rw [put_canon mapLaw hr ho, size_mapK] at h1
  exact h1
set_option maxRecDepth 100000 in
set_option maxHeartbeats 4000000 in
theorem mnote_any (c0 : w.cell? ⟨t, 0, none⟩ = some (.map mb)) (z0 : w.frozen? ⟨t, 0, none⟩ = false) (hr : RiseF id ks) (h0 : mb = none → ks = []) (hs : ∀ b, mb = some b → b ≠ t ∧ w.ownsMap Tryz.prog 9 heldR b ks.length (mapK ks vf)) (hn : ks.length < maxLen) (hk : k.length ≤ maxLen) (f : Bool) :
    Calls Tryz.prog 107 #[.pointer (some ⟨t, 0, none⟩), kv k, fate f (.slice A n c)] w fun e w' => e = .returned (.tuple #[]) ∧ NoteOf t mb ks vf k (fate f (.slice A n c)) w w' := by
  have hmm := @run_makeMap Tryz.prog
  have hem := meql_map
  have hlt : t < w.heap.size := lt_of_cell c0
  have HKEY := Bx.mk (key_of hk)
  have hfa : fate f (.slice A n c) = .agg #[.bool f, .slice A n c] := rfl
  obtain ⟨SK, hkv⟩ : ∃ S, kv k = .string S := ⟨_, rfl⟩
  have HR := Bx.mk hr
  rw [hkv] at HKEY ⊢
  clear hk hkv hr
  obtain ⟨w1, hw1⟩ : ∃ w1, w.alloc (.cells #[.bool f, .slice A n c] 190) = w1 := ⟨_, rfl⟩
  have HCA : Bx (Ch (fun _ => False) w w1) := ⟨by rw [← hw1]; exact (Ch.refl _ _).alloc _⟩
  cases mb with
  | some b =>
    obtain ⟨hbt, ho⟩ := hs b rfl
    have ho1 : w1.drew.ownsMap Tryz.prog 9 heldR b ks.length (mapK ks vf) := own_map_ch (own_map_ch ho HCA.out (fun h => h)) (Ch.refl (fun _ => False) w1).drew (fun h => h)
    obtain ⟨w2, hup, ho2, hg2⟩ := ho1.update (val := fate f (.slice A n c)) (d := .held (fate f (.slice A n c))) (ps := []) mapLaw mapT hn HKEY.out rfl
    have hup' : (Instr.mapUpdate 125 (.map (some b)) (.string SK) (.agg #[.bool f, .slice A n c])).run Tryz.prog w1.drew = .ok () w2 := hup
    have HC : Bx (Ch (fun i => i = b) w1.drew w2) := ⟨⟨hg2.os, hg2.tape, hg2.output, hg2.size, fun i hi hn => hg2.block i hi (fun e => hn (by injection e))⟩⟩
    have HO := Bx.mk (own_put HR.out ho2)
    have c01 := HCA.out.cell (p := ⟨t, 0, none⟩) (fun h => h) c0
    have hc0 : Ch (fun x => x = t ∨ some b = some x) w w1.drew := HCA.out.drew.mono (fun _ _ h => h.elim)
    have HB : Bx (NoteOf t (some b) ks vf k (fate f (.slice A n c)) w w2) := ⟨b, by
      exact HC.out.cell (p := ⟨t, 0, none⟩) hbt.symm (((Ch.refl (fun _ => False) w1).drew).cell (fun h => h) c01), by
      rw [HC.out.frozen (p := ⟨t, 0, none⟩) hbt.symm (Nat.lt_of_lt_of_le hlt HCA.out.size), ((Ch.refl (fun _ => False) w1).drew).frozen (p := ⟨t, 0, none⟩) (fun h => h) (Nat.lt_of_lt_of_le hlt HCA.out.size), HCA.out.frozen (p := ⟨t, 0, none⟩) (fun h => h) hlt]
      exact z0, hbt, .inl rfl, HO.out, hc0.trans HC.out (fun i _ hi => .inr (by rw [hi]))⟩
    clear ho ho1 hup ho2 hg2 HC HO hs h0 hbt z0
    rw [hfa]
    clear hfa
    have hsz1 : w.heap.size < w1.heap.size := by rw [← hw1, World.size_alloc]; omega
    have d0 : w1.cell? ⟨w.heap.size, 0, none⟩ = some (.bool f) := by rw [← hw1]; exact ncells_at (j := 0) rfl
    have d1 : w1.cell? ⟨w.heap.size, 1, none⟩ = some (.slice A n c) := by rw [← hw1]; exact ncells_at (j := 1) rfl
    have c02 := c01
    rw [← hw1] at c02
    go_enter Tryz.func107, Tryz.ntmps107
    go_wp2_with fail
    clear hw1 c02
    generalize w.heap.size = B at *
    refine wp_region_still_tail 6 (by kernel_rfl) (by kernel_rfl) ?_
    simp only [List.take_succ_cons, List.take_zero, List.drop_succ_cons, List.drop_zero]
    repeat still_step
    refine wpStill_nil ?_
    change wpList _ _ _ _ _ w1.drew
    go_wp2
    go_returns
    exact ⟨rfl, HB.out⟩
  | none =>
    obtain rfl := h0 rfl
    have hsz1 : w.heap.size < w1.heap.size := by rw [← hw1, World.size_alloc]; omega
    have c01 := HCA.out.cell (p := ⟨t, 0, none⟩) (fun h => h) c0
    have z01 : w1.frozen? ⟨t, 0, none⟩ = false := by rw [HCA.out.frozen (p := ⟨t, 0, none⟩) (fun h => h) hlt]; exact z0
    have d0 : w1.cell? ⟨w.heap.size, 0, none⟩ = some (.bool f) := by rw [← hw1]; exact ncells_at (j := 0) rfl
    have d1 : w1.cell? ⟨w.heap.size, 1, none⟩ = some (.slice A n c) := by rw [← hw1]; exact ncells_at (j := 1) rfl
    have hbt : w1.heap.size ≠ t := by omega
    obtain ⟨w3, hw3⟩ : ∃ w3, (w1.alloc (.map #[] 0)).setCell ⟨t, 0, none⟩ (.map (some w1.heap.size)) = w3 := ⟨_, rfl⟩
    have hal : Ch (fun _ => False) w1 (w1.alloc (.map #[] 0)) := (Ch.refl _ w1).alloc _
    have c0a := hal.cell (p := ⟨t, 0, none⟩) (fun h => h) c01
    have z0a : (w1.alloc (.map #[] 0)).frozen? ⟨t, 0, none⟩ = false := by rw [hal.frozen (p := ⟨t, 0, none⟩) (fun h => h) (Nat.lt_trans hlt hsz1)]; exact z01
    have hal2 : Ch (fun x => x = t) w1 (w1.alloc (.map #[] 0)) := hal.mono (fun _ _ h => h.elim)
    have hc3 : Ch (fun x => x = t) w1 w3 := by rw [← hw3]; exact hal2.setCell (p := ⟨t, 0, none⟩) (.inl rfl) _
    have c03 : w3.cell? ⟨t, 0, none⟩ = some (.map (some w1.heap.size)) := by rw [← hw3]; exact World.cell?_setCell_same _ _ _ c0a
    have z03 : w3.frozen? ⟨t, 0, none⟩ = false := by rw [← hw3, World.frozen?_setCell]; exact z0a
    have hBt : w.heap.size ≠ t := by omega
    have d03 := hc3.cell (p := ⟨w.heap.size, 0, none⟩) hBt d0
    have d13 := hc3.cell (p := ⟨w.heap.size, 1, none⟩) hBt d1
    have ho : w3.drew.ownsMap Tryz.prog 9 heldR w1.heap.size 0 (mapK [] vf) := by
      rw [← hw3]
      exact own_map_ch ((World.ownsMap_made w1 _ _ heldR).setCell (a := ⟨t, 0, none⟩) (by simpa using hbt) _) ((Ch.refl (fun _ => False) _).drew) (fun h => h)
    obtain ⟨w2, hup, ho2, hg2⟩ := ho.update (val := fate f (.slice A n c)) (d := .held (fate f (.slice A n c))) (ps := []) mapLaw mapT (by unfold maxLen; omega) HKEY.out rfl
    have hup' : (Instr.mapUpdate 125 (.map (some w1.heap.size)) (.string SK) (.agg #[.bool f, .slice A n c])).run Tryz.prog w3.drew = .ok () w2 := hup
    have HC : Bx (Ch (fun i => i = w1.heap.size) w3.drew w2) := ⟨⟨hg2.os, hg2.tape, hg2.output, hg2.size, fun i hi hn => hg2.block i hi (fun e => hn (by injection e))⟩⟩
    have HO := Bx.mk (own_put HR.out ho2)
    have hc0 : Ch (fun x => x = t ∨ (none : Option Nat) = some x) w w3.drew := by
      have k0 : Ch (fun x => x = t ∨ (none : Option Nat) = some x) w w1 := HCA.out.mono (fun _ _ h => h.elim)
      exact (k0.trans hc3 (fun _ _ h => .inl h)).drew
    have HB : Bx (NoteOf t none [] vf k (fate f (.slice A n c)) w w2) := ⟨w1.heap.size, HC.out.cell (p := ⟨t, 0, none⟩) hbt.symm (((Ch.refl (fun _ => False) w3).drew).cell (fun h => h) c03), by
      rw [HC.out.frozen (p := ⟨t, 0, none⟩) hbt.symm (Nat.lt_of_lt_of_le (Nat.lt_trans hlt hsz1) hc3.size)]
      exact z03, hbt, .inr ⟨rfl, Nat.le_of_lt hsz1⟩, HO.out, hc0.trans HC.out (fun i hi hh => absurd hi (by rw [hh]; exact Nat.not_lt.2 (Nat.le_of_lt hsz1)))⟩
    clear HR ho hup ho2 hg2 HC HO hs h0 hbt z0 hc3 hc0 hal
    rw [hfa]
    clear hfa
    go_enter Tryz.func107, Tryz.ntmps107
    go_wp2_with fail
    clear hw1 hw3 c01 c0a z01 z0a d0 d1 hal2
    generalize w1.heap.size = M at *
    generalize w.heap.size = B at *
    refine wp_region_still_tail 6 (by kernel_rfl) (by kernel_rfl) ?_
    simp only [List.take_succ_cons, List.take_zero, List.drop_succ_cons, List.drop_zero]
    repeat still_step
    refine wpStill_nil ?_
    change wpList _ _ _ _ _ w3.drew
    go_wp2
    go_returns
    exact ⟨rfl, HB.out⟩
end
end
end Go.Proofs.YtbkakhfepiooaaaGreatDoor.M
