/- Lemmas and contracts of this proof. Conditions: said at each. -/
import Derived.Test.YtbkakhfepiooaaaGreatDoorQGDkMem
import Derived.StillTailTactics
namespace Go.Proofs.YtbkakhfepiooaaaGreatDoor.D
section
open Go.RowKit Go.Oct Go.Su Go.Dk Go.Maps
section
variable {w w' : World} {g g' : Nat → Tg} {d : Nat} {mb : Option Nat} {ad : Key → Nat} {s s' : Ds} {F S : Nat → Prop} {x y : Fl}
theorem mapD_put_old {fs : Fs} (h : Rise (nms fs)) (hx : x ∈ fs) (hy : y.nm = x.nm) (ad : Key → Nat) : mapD (put fs y) ad = mapD fs ad := by
  have e := split_at h hx
  have e2 : mapD fs ad = mapD (lo fs x.nm ++ x :: hi fs x.nm) ad := by rw [← e]
  rw [e2]
  unfold put mapD
  rw [hy]
  simp [hy]
/-- One file has turned. -/
theorem Dsk.turn (h : Dsk w g d mb ad s) (hx : x ∈ s.fs) (hy : y.nm = x.nm) (hg : ∀ b, g' b = g b ∨ ((g b = .rw x.nm ∨ w.heap.size ≤ b) ∧ (g' b = .no ∨ g' b = .rw x.nm)))
    (hc : Ch (fun b => b = d ∨ g b = .fl x.nm ∨ g b = .rw x.nm) w w') (hlt : ∀ b, g' b ≠ .no → b < w'.heap.size) (hfil : Fil w' g' (ad x.nm) y) (hfs : s'.fs = put s.fs y) (hok : DsOk s') (c0 : w'.cell? ⟨d, 0, none⟩ = some (.map mb)) (c1 : w'.cell? ⟨d, 1, none⟩ = some (.int .i64 (s'.room : Int)))
    (c2 : w'.cell? ⟨d, 2, none⟩ = some (.int .i64 (used s'.fs : Int))) (zf : ∀ j, w'.frozen? ⟨d, j, none⟩ = false) {fz : Bool} {lf : Int} (c3 : w'.cell? ⟨d, 3, none⟩ = some (.bool fz)) (c4 : w'.cell? ⟨d, 4, none⟩ = some (.int .i64 lf)) (hl : FuseIs s'.left fz lf) : Dsk w' g' d mb ad s' := by
  have hgd : ∀ b t, b < w.heap.size → g b = t → t ≠ .rw x.nm → g' b = t := fun b t hb ht hne => by
    rcases hg b with e | ⟨e | e, _⟩
    · rw [e]; exact ht
    · exact absurd (ht.symm.trans e) hne
    · omega
  refine ⟨hok, hlt, hgd d _ h.lt_d h.tag (fun e => by cases e), zf, c0, c1, c2, ⟨fz, lf, c3, c4, hl⟩, fun e => ?_, fun b hb => ?_, fun z hz => ?_⟩
  · have := h.none_ e
    rw [this] at hx
    simp at hx
  · obtain ⟨h1, h2⟩ := h.some_ b hb
    refine ⟨hgd b _ h2.lt h1 (fun e => by cases e), ?_⟩
    rw [hfs, mapD_put_old h.ok.fine.rise hx hy, len_put_old h.ok.fine.rise hx hy]
    exact own_map_ch h2 hc fun e => by
      rcases e with e | e | e
      · subst e; rw [h.tag] at h1; cases h1
      · rw [h1] at e; cases e
      · rw [h1] at e; cases e
  · rw [hfs] at hz
    rcases mem_put.1 hz with rfl | ⟨hz, hne⟩
    · rw [hy]; exact hfil
    · rw [hy] at hne
      have hf := h.files z hz
      have hlz : ∀ b, g b = .fl z.nm ∨ g b = .rw z.nm → b < w.heap.size := fun b hb => h.lt b (by rcases hb with e | e <;> rw [e] <;> exact fun e => by cases e)
      refine (hf.ch hc fun b hb e => ?_).tags fun b hb => ?_
      · rcases e with e | e | e
        · subst e
          rw [h.tag] at hb
          rcases hb with hb | hb <;> cases hb
        · rw [e] at hb
          rcases hb with hb | hb
          · injection hb with hb; exact hne hb.symm
          · cases hb
        · rw [e] at hb
          rcases hb with hb | hb
          · cases hb
          · injection hb with hb; exact hne hb.symm
      · rcases hb with hb | hb
        · rw [hgd b _ (hlz b (.inl hb)) hb (fun e => by cases e)]; exact hb.symm
        · rw [hgd b _ (hlz b (.inr hb)) hb (fun e => by injection e with e; exact hne e)]; exact hb.symm
theorem own_take {w : World} {base : Nat} {e : TypeId} {A : Option Addr} {n c m : Nat} {xs : List Value} (h : w.ownsRow base e 1 (.slice A n c) n xs) (hm : m ≤ n) : w.ownsRow base e 1 (.slice A m c) m (xs.take m) := by
  refine ⟨by rw [List.length_take]; have := h.1; omega, ?_⟩
  rcases h.2 with ⟨e1, e2⟩ | ⟨g, cap, cur, e1, hb, hg, h1, h2, h3, h4⟩
  · injection e1 with a b c
    subst a c
    obtain rfl : m = 0 := by omega
    exact .inl ⟨rfl, rfl⟩
  · injection e1 with a b c
    subst a c
    refine .inr ⟨g, _, cur, rfl, hb, hg, by omega, h2, h3, ?_⟩
    rw [← h4, List.take_take]
    congr 1
    omega
/-- A file cut. -/
def cutF (x : Fl) (n : Nat) : Fl := ⟨x.nm, x.bs.take n, min x.la n⟩
theorem used_cut {fs : Fs} (h : Rise (nms fs)) (hx : x ∈ fs) {n : Nat} (hn : n ≤ x.bs.length) : used (put fs (cutF x n)) = used fs - (x.bs.length - n) := by
  have e1 := used_put fs (cutF x n)
  have e2 := used_at h hx
  have e3 : (cutF x n).bs.length = n := by show (x.bs.take n).length = n; rw [List.length_take]; omega
  have e4 : del fs (cutF x n).nm = del fs x.nm := rfl
  rw [e1, e3, e4]
  omega
theorem DsOk.cut (h : DsOk s) (hx : x ∈ s.fs) {n : Nat} (hn : n ≤ x.bs.length) : DsOk ⟨s.room, put s.fs (cutF x n), s.left⟩ := by
  have e1 := used_cut h.fine.rise hx hn
  have e2 := h.used
  refine ⟨h.fine.put (h.fine.ok x hx) ?_ (fun z hz => h.fine.byte x hx z (List.mem_of_mem_take hz)), by show used (put s.fs (cutF x n)) ≤ s.room; omega, h.room, ?_⟩
  · show min x.la n ≤ (x.bs.take n).length
    rw [List.length_take]
    have := h.fine.la x hx
    omega
  · show (put s.fs (cutF x n)).length ≤ 4096
    rw [len_put_old (g := cutF x n) h.fine.rise hx rfl]
    exact h.most
set_option maxRecDepth 100000 in
set_option maxHeartbeats 4000000 in
theorem cut_any (h : Dsk w g d mb ad s) (hx : x ∈ s.fs) {n : Nat} (hn : n ≤ x.bs.length) :
    Calls Tryz.prog 244 #[pv d, pv (ad x.nm), .int .i64 (n : Int)] w fun e w' => e = .returned (.tuple #[]) ∧ Dsk w' g d mb ad ⟨s.room, put s.fs (cutF x n), s.left⟩ ∧ Ch (fun b => b = d ∨ b = ad x.nm) w w' := by
  have hp : pv d = .pointer (some ⟨d, 0, none⟩) := rfl
  have hF := h.files x hx
  obtain ⟨a, ha⟩ : ∃ a, ad x.nm = a := ⟨_, rfl⟩
  have hpa : pv (ad x.nm) = .pointer (some ⟨a, 0, none⟩) := by rw [ha]; rfl
  rw [hp, hpa]
  rw [ha] at hF ⊢
  obtain ⟨v, b0, b1, ho, hr⟩ := hF.row
  obtain ⟨A, c, rfl, h1, h2⟩ := own_shape ho
  obtain ⟨q, hq⟩ : ∃ q, x.bs.length = q := ⟨_, rfl⟩
  obtain ⟨u, hu⟩ : ∃ u, used s.fs = u := ⟨_, rfl⟩
  obtain ⟨la, hla⟩ : ∃ la, x.la = la := ⟨_, rfl⟩
  have hne : d ≠ a := fun e => by have := hF.tag; rw [← e, h.tag] at this; cases this
  have c2 := h.c2
  have k1 := h.zf 2
  have k2 := hF.zf 0
  have k3 := hF.zf 1
  have hqu : q ≤ u := by have := used_at h.ok.fine.rise hx; omega
  have hum : u ≤ 1073741824 := by have := h.ok.used; have := h.ok.room; omega
  have hlq : la ≤ q := by have := h.ok.fine.la x hx; omega
  rw [hu] at c2
  rw [hq] at b0 ho h1 hn
  rw [hla] at b1
  obtain ⟨r, hr1⟩ : ∃ r, q - n = r := ⟨_, rfl⟩
  obtain ⟨u2, hu2⟩ : ∃ u2, u - r = u2 := ⟨_, rfl⟩
  have hrm : r ≤ 1073741824 := by omega
  have hu2m : u2 ≤ 1073741824 := by omega
  obtain ⟨m, hm⟩ : ∃ m, min la n = m := ⟨_, rfl⟩
  have i1 : (q : Int) - (n : Int) = (r : Int) := by omega
  have i2 : (u : Int) - (r : Int) = (u2 : Int) := by omega
  have i5 : (0 : Int) ≤ (n : Int) := by omega
  have i6 : (n : Int) ≤ (c : Int) := by omega
  have hc9 : c ≤ 9223372036854775807 := by unfold maxLen at h2; omega
  have HR : Bx (∀ w' : World, Ch (fun b => b = d ∨ b = a) w w' → w'.cell? ⟨d, 2, none⟩ = some (.int .i64 (u2 : Int)) → (∀ j, j ≠ 2 → w'.cell? ⟨d, j, none⟩ = w.cell? ⟨d, j, none⟩) → (∀ p, w'.frozen? p = w.frozen? p) → w'.cell? ⟨a, 0, none⟩ = some (.slice A n c) → w'.cell? ⟨a, 1, none⟩ = some (.int .i64 (m : Int)) →
      Dsk w' g d mb ad ⟨s.room, put s.fs (cutF x n), s.left⟩) := ⟨fun w' hc g2 g3 g4 g5 g6 => by
    obtain ⟨fz, lf, c3, c4, hf⟩ := h.fuse
    have hob : (Value.slice A x.bs.length c).ownBlock = (Value.slice A n c).ownBlock := by cases A <;> rfl
    have hxn : n ≤ x.bs.length := by omega
    have hown : w'.ownsRow 0 5 1 (.slice A n c) n ((x.bs.take n).map (Value.int .u8)) := by
      have h3 := own_take (m := n) ho (by omega)
      rw [← List.map_take] at h3
      refine hc.own h3 fun r hv e => ?_
      have hr2 := hr r (by rw [hob]; exact hv)
      rcases e with e | e
      · subst e; rw [h.tag] at hr2; cases hr2
      · subst e; rw [hF.tag] at hr2; cases hr2
    have hfl : Fil w' g (ad x.nm) (cutF x n) := by
      rw [ha]
      refine ⟨hF.tag, fun j => by rw [g4]; exact hF.zf j, .slice A n c, g5, ?_, ?_, fun r hv => hr r (by rw [hob]; exact hv)⟩
      · rw [g6, ← hm, ← hla]; rfl
      · have e3 : (cutF x n).bs.length = n := by show (x.bs.take n).length = n; rw [List.length_take]; omega
        rw [e3]
        exact hown
    refine h.turn hx (y := cutF x n) rfl (fun b => .inl rfl) (hc.mono fun i _ hi => ?_) (fun b hb => Nat.lt_of_lt_of_le (h.lt b hb) hc.size) hfl rfl (DsOk.cut h.ok hx hxn) ((g3 0 (by decide)).trans h.c0) ((g3 1 (by decide)).trans h.c1) ?_ (fun j => by rw [g4]; exact h.zf j) ((g3 3 (by decide)).trans c3) ((g3 4 (by decide)).trans c4) hf
    · rcases hi with e | e
      · exact .inl e
      · exact .inr (.inl (by rw [e]; exact hF.tag))
    · rw [g2]
      have := used_cut h.ok.fine.rise hx hxn
      show _ = some (Value.int .i64 (used (put s.fs (cutF x n)) : Int))
      rw [this, ← hu2, ← hu, ← hr1, ← hq]⟩
  clear h hF ho hr hx hu hq hla ha hp hpa hr1 hu2
  have hne2 : a ≠ d := hne.symm
  have HW : Bx (∀ z : Nat, z = m → Dsk (((w.setCell ⟨d, 2, none⟩ (.int .i64 (u2 : Int))).setCell ⟨a, 0, none⟩ (.slice A n c)).setCell ⟨a, 1, none⟩ (.int .i64 (z : Int))).drew g d mb ad ⟨s.room, put s.fs (cutF x n), s.left⟩ ∧
      Ch (fun b => b = d ∨ b = a) w (((w.setCell ⟨d, 2, none⟩ (.int .i64 (u2 : Int))).setCell ⟨a, 0, none⟩ (.slice A n c)).setCell ⟨a, 1, none⟩ (.int .i64 (z : Int))).drew) := ⟨fun z hz => by
    subst hz
    have hc := (((((Ch.refl (fun b => b = d ∨ b = a) w)).setCell (p := ⟨d, 2, none⟩) (.inl (.inl rfl)) (.int .i64 (u2 : Int))).setCell (p := ⟨a, 0, none⟩) (.inl (.inr rfl)) (.slice A n c)).setCell (p := ⟨a, 1, none⟩) (.inl (.inr rfl)) (.int .i64 (z : Int))).drew
    refine ⟨HR.out _ hc ?_ (fun j hj => ?_) (fun p => ?_) ?_ ?_, hc⟩
    · exact ((set_far hne2).trans (set_far hne2)).trans (set_same c2)
    · exact ((set_far hne2).trans (set_far hne2)).trans (set_off hj.symm)
    · exact (World.frozen?_setCell _ _ _ _).trans ((World.frozen?_setCell _ _ _ _).trans (World.frozen?_setCell _ _ _ _))
    · exact (set_off (by decide)).trans (set_same ((set_far hne).trans b0))
    · exact set_same (((set_off (by decide)).trans (set_far hne)).trans b1)⟩
  by_cases hmn : la ≤ n
  · have HM : Bx (la = m) := ⟨by omega⟩
    have j1 : min (la : Int) (n : Int) = (la : Int) := by omega
    have j2 : decide ((la : Int) < (n : Int)) = decide (la < n) := by rw [decide_eq_decide]; omega
    clear hm HR 
    go_enter Tryz.func244, Tryz.ntmps244
    go_wp2_with fail
    have i3 : IntKind.i64.wrap (r : Int) = (r : Int) := IntWalk.i64_in _ (by omega)
    have i4 : IntKind.i64.wrap (u2 : Int) = (u2 : Int) := IntWalk.i64_in _ (by omega)
    refine wp_region_still_tail 14 (by kernel_rfl) (by kernel_rfl) ?_
    simp only [List.take_succ_cons, List.take_zero, List.drop_succ_cons, List.drop_zero]
    repeat still_step
    refine wpStill_nil ?_
    clear i3 i4
    change wpList _ _ _ _ _ w.drew
    go_wp2
    go_returns
    exact ⟨rfl, HW.out _ HM.out⟩
  · have HM : Bx (n = m) := ⟨by omega⟩
    have j1 : min (la : Int) (n : Int) = (n : Int) := by omega
    have j3 : ¬ (la : Int) ≤ (n : Int) := by omega
    clear hm HR 
    go_enter Tryz.func244, Tryz.ntmps244
    go_wp2_with fail
    have i3 : IntKind.i64.wrap (r : Int) = (r : Int) := IntWalk.i64_in _ (by omega)
    have i4 : IntKind.i64.wrap (u2 : Int) = (u2 : Int) := IntWalk.i64_in _ (by omega)
    refine wp_region_still_tail 14 (by kernel_rfl) (by kernel_rfl) ?_
    simp only [List.take_succ_cons, List.take_zero, List.drop_succ_cons, List.drop_zero]
    repeat still_step
    refine wpStill_nil ?_
    clear i3 i4
    change wpList _ _ _ _ _ w.drew
    go_wp2
    go_returns
    exact ⟨rfl, HW.out _ HM.out⟩
end
end
section
open Go.RowKit Go.Oct Go.Su Go.Dk Go.Maps
section
variable {w w' : World} {g g' : Nat → Tg} {d : Nat} {mb : Option Nat} {ad : Key → Nat} {s s' : Ds} {F S : Nat → Prop} {x y : Fl} {k : Key}
theorem Dsk.look_yes (h : Dsk w g d mb ad s) (hx : fnd s.fs k = some x) (hk : k.length ≤ maxLen) : (Instr.lookup 85 (.map mb) (kv k) true).run Tryz.prog w = .ok (.tuple #[.pointer (some ⟨ad k, 0, none⟩), .bool true]) w := by
  cases mb with
  | none => rw [h.none_ rfl] at hx; cases hx
  | some b =>
    obtain ⟨_, ho⟩ := h.some_ b rfl
    obtain ⟨v, ps, hr, hv⟩ := ho.look_ok (z := .pointer none) (zd := .held (.pointer none)) (zp := []) mapLaw mapT (zeroF w) rfl (key_of hk)
    rw [at_mapD h.ok.fine.rise hx] at hv
    simp only [heldR, Option.some.injEq, Prod.mk.injEq, DataW.held.injEq] at hv
    rw [hr, hv.1, has_mapD, hx]
    rfl
theorem Dsk.look_no (h : Dsk w g d mb ad s) (hx : fnd s.fs k = none) (hk : k.length ≤ maxLen) : (Instr.lookup 85 (.map mb) (kv k) true).run Tryz.prog w = .ok (.tuple #[.pointer none, .bool false]) w := by
  cases mb with
  | none =>
    have := Maps.look_nil (w := w) true mapLaw mapT (z := .pointer none) (zeroF w) (key_of hk)
    simpa using this
  | some b =>
    obtain ⟨_, ho⟩ := h.some_ b rfl
    obtain ⟨v, ps, hr, hv⟩ := ho.look_ok (z := .pointer none) (zd := .held (.pointer none)) (zp := []) mapLaw mapT (zeroF w) rfl (key_of hk)
    rw [at_mapD_no hx] at hv
    simp only [heldR, Option.some.injEq, Prod.mk.injEq, DataW.held.injEq] at hv
    rw [hr, hv.1, has_mapD, hx]
    rfl
/-- One name in a slice of its own. -/
theorem Kss.one (w : World) (e : TypeId) (k : Key) : Kss (w.alloc (.cells #[kv k] e)) (fun b => b = w.heap.size) (some ⟨w.heap.size, 0, none⟩) 1 [k] := Vs.one w e (kv k)
theorem may1_any (h : Dsk w g d mb ad s) (hk : k.length ≤ 9223372036854775807) :
    Calls Tryz.prog 189 #[pv d, .slice (some ⟨w.heap.size, 0, none⟩) 1 1] (w.alloc (.cells #[kv k] 9)) fun e w' => e = .returned (.int .i64 (may s k : Nat)) ∧ Ch (fun _ => False) w w' :=
  (may_any [k] _ 1 1 (w.alloc (.cells #[kv k] 9)) (h.keep ((Ch.refl (fun _ => False) w).alloc _)) (Kss.one w 9 k) (by decide) (fun j hj => by simp at hj; subst hj; exact hk)).mono fun e w' ⟨h1, h2⟩ => ⟨by rw [h1, mays_one], ((Ch.refl (fun _ => False) w).alloc _).trans h2 (fun _ _ h => h)⟩
/-- What one of the five leaves. -/
def Post (op : Nat × Ds) (d : Nat) (w : World) (g : Nat → Tg) (e : Ending) (w' : World) : Prop := e = .returned (.int .i64 (op.1 : Int)) ∧ ∃ g' mb' ad', Dsk w' g' d mb' ad' op.2 ∧ Dgo w g w' g'
theorem DsOk.last (h : DsOk s) (hx : x ∈ s.fs) : DsOk ⟨s.room, put s.fs ⟨x.nm, x.bs, x.bs.length⟩, s.left⟩ := by
  have hu := used_at h.fine.rise hx
  have hp := used_put s.fs ⟨x.nm, x.bs, x.bs.length⟩
  refine ⟨h.fine.put (h.fine.ok x hx) (Nat.le_refl _) (h.fine.byte x hx), ?_, h.room, ?_⟩
  · show used (put s.fs ⟨x.nm, x.bs, x.bs.length⟩) ≤ s.room
    rw [hp, show (Fl.mk x.nm x.bs x.bs.length).nm = x.nm from rfl, show (Fl.mk x.nm x.bs x.bs.length).bs = x.bs from rfl, ← hu]
    exact h.used
  · show (put s.fs ⟨x.nm, x.bs, x.bs.length⟩).length ≤ 4096
    rw [len_put_old (g := ⟨x.nm, x.bs, x.bs.length⟩) h.fine.rise hx rfl]
    exact h.most
theorem Dsk.last (h : Dsk w g d mb ad s) (hx : x ∈ s.fs) : Dsk (w.setCell ⟨ad x.nm, 1, none⟩ (.int .i64 (x.bs.length : Int))) g d mb ad ⟨s.room, put s.fs ⟨x.nm, x.bs, x.bs.length⟩, s.left⟩ := by
  have hF := h.files x hx
  obtain ⟨v, b0, b1, ho, hr⟩ := hF.row
  obtain ⟨fz, lf, c3, c4, hf⟩ := h.fuse
  have hne : ad x.nm ≠ d := fun e => by have := hF.tag; rw [e, h.tag] at this; cases this
  have hc := ch_set w (ad x.nm) 1 (.int .i64 (x.bs.length : Int))
  have hu := used_at h.ok.fine.rise hx
  have hp := used_put s.fs ⟨x.nm, x.bs, x.bs.length⟩
  refine h.turn hx (y := ⟨x.nm, x.bs, x.bs.length⟩) rfl (fun b => .inl rfl) (hc.mono fun i _ hi => .inr (.inl (by rw [hi]; exact hF.tag))) (fun b hb => Nat.lt_of_lt_of_le (h.lt b hb) hc.size) ⟨hF.tag, fun j => by rw [World.frozen?_setCell]; exact hF.zf j, v, ?_, set_same b1, ?_, hr⟩ rfl (DsOk.last h.ok hx)
    ((set_far hne).trans h.c0) ((set_far hne).trans h.c1) ?_ (fun j => by rw [World.frozen?_setCell]; exact h.zf j) ((set_far hne).trans c3) ((set_far hne).trans c4) hf
  · exact (set_off (by decide)).trans b0
  · exact hc.own ho (fun r hv e => by have := hr r hv; rw [e, hF.tag] at this; cases this)
  · rw [set_far hne, h.c2]
    show _ = some (Value.int .i64 (used (put s.fs ⟨x.nm, x.bs, x.bs.length⟩) : Int))
    rw [hp, show (Fl.mk x.nm x.bs x.bs.length).nm = x.nm from rfl, show (Fl.mk x.nm x.bs x.bs.length).bs = x.bs from rfl, ← hu]
set_option maxRecDepth 100000 in
set_option maxHeartbeats 4000000 in
theorem sync_any (h : Dsk w g d mb ad s) (hk : k.length ≤ 9223372036854775807) : Calls Tryz.prog 269 #[pv d, kv k] w (Post (opSync s k) d w g) := by
  have hp : pv d = .pointer (some ⟨d, 0, none⟩) := rfl
  have HM := Bx.mk (may1_any h hk)
  have H := Bx.mk h
  have HKL := Bx.mk hk
  obtain ⟨S, hkv⟩ : ∃ S, kv k = .string S := ⟨_, rfl⟩
  obtain ⟨m, hm⟩ : ∃ m, may s k = m := ⟨_, rfl⟩
  have HKV := Bx.mk hkv
  rw [hp] at HM ⊢
  rw [hkv] at HM ⊢
  rw [hm] at HM
  clear hp h hk hkv
  by_cases h0 : m = 0
  · subst h0
    have HMY := Bx.mk hm
    clear hm
    cases hf : fnd s.fs k with
    | none =>
      have HR : Bx (Ending.returned (.int .i64 7) = .returned (.int .i64 ((opSync s k).1 : Int)) ∧ (opSync s k).2 = s) := ⟨by unfold opSync; rw [if_neg (by simp [HMY.out]), hf]; exact ⟨rfl, rfl⟩⟩
      have HF := Bx.mk hf
      clear hf
      go_enter Tryz.func269, Tryz.ntmps269
      go_wp2_with fail
      refine HM.out.mono ?_
      rintro e w1 ⟨rfl, hc1⟩
      have H1 := Bx.mk (H.out.keep hc1)
      have hlk := H1.out.look_no HF.out (by unfold maxLen; exact HKL.out)
      have c0 := H1.out.c0
      rw [HKV.out] at hlk
      have HC1 := Bx.mk hc1
      clear hc1
      go_wp2
      go_ret
      exact ⟨HR.out.1, g, mb, ad, by rw [HR.out.2]; exact H1.out, Dgo.quiet HC1.out⟩
    | some x =>
      have HF := Bx.mk hf
      have HR : Bx (Ending.returned (.int .i64 0) = .returned (.int .i64 ((opSync s k).1 : Int)) ∧ (opSync s k).2 = ⟨s.room, put s.fs ⟨k, x.bs, x.bs.length⟩, tick s.left⟩) := ⟨by unfold opSync; rw [if_neg (by simp [HMY.out]), hf]; exact ⟨rfl, rfl⟩⟩
      clear hf
      go_enter Tryz.func269, Tryz.ntmps269
      go_wp2_with fail
      refine HM.out.mono ?_
      rintro e w1 ⟨rfl, hc1⟩
      have H1 := Bx.mk (H.out.keep hc1)
      have hlk := H1.out.look_yes HF.out (by unfold maxLen; exact HKL.out)
      have c0 := H1.out.c0
      rw [HKV.out] at hlk
      have HC1 := Bx.mk hc1
      obtain ⟨hxm, hxn⟩ := fnd_some HF.out
      have hF := H1.out.files x hxm
      rw [hxn] at hF
      obtain ⟨v, b0, b1, ho, hr⟩ := hF.row
      obtain ⟨A, c, rfl, h1, h2⟩ := own_shape ho
      have z1 := hF.zf 1
      have HL := Bx.mk (H1.out.last hxm)
      rw [hxn] at HL
      have HD : Bx (Calls Tryz.prog 191 #[.pointer (some ⟨d, 0, none⟩)] (w1.setCell ⟨ad k, 1, none⟩ (.int .i64 (x.bs.length : Int))) fun e w' => e = .returned (.int .i64 0) ∧ Dsk w' g d mb ad ⟨s.room, put s.fs ⟨k, x.bs, x.bs.length⟩, tick s.left⟩ ∧ Ch (fun b => b = d) (w1.setCell ⟨ad k, 1, none⟩ (.int .i64 (x.bs.length : Int))) w') := ⟨done_any HL.out (may_ok HMY.out).1⟩
      have HTG : Bx (g (ad k) ≠ .no ∧ g d ≠ .no) := ⟨by rw [hF.tag]; exact (fun e => by cases e), by rw [H.out.tag]; exact (fun e => by cases e)⟩
      obtain ⟨q, hq⟩ : ∃ q, x.bs.length = q := ⟨_, rfl⟩
      obtain ⟨a, ha⟩ : ∃ a, ad k = a := ⟨_, rfl⟩
      rw [hq] at b0 HD HL HR
      rw [ha] at b0 b1 z1 HD HL hlk HTG
      clear hc1 hxm hxn hF ho hr h1 h2 HM hq ha
      go_wp2_with fail
      refine HD.out.mono ?_
      rintro e w2 ⟨rfl, hd2, hc2⟩
      go_wp2
      go_ret
      have hcs := ch_set w1 a 1 (.int .i64 (q : Int))
      refine ⟨HR.out.1, g, mb, ad, by rw [HR.out.2]; exact hd2, ⟨?_, fun b hb => .inl hb⟩⟩
      exact ((HC1.out.mono (fun _ _ h => h.elim)).trans hcs (fun i _ hi => by rw [hi]; exact HTG.out.1)).trans hc2 (fun i _ hi => by rw [hi]; exact HTG.out.2)
  · have HR : Bx (Ending.returned (.int .i64 (m : Int)) = .returned (.int .i64 ((opSync s k).1 : Int)) ∧ (opSync s k).2 = s) := ⟨by unfold opSync; rw [if_pos (by rw [hm]; exact h0), hm]; exact ⟨rfl, rfl⟩⟩
    have h0' : ¬ (m : Int) = 0 := by omega
    clear hm
    go_enter Tryz.func269, Tryz.ntmps269
    go_wp2_with fail
    refine HM.out.mono ?_
    rintro e w1 ⟨rfl, hc1⟩
    go_wp2
    go_ret
    exact ⟨HR.out.1, g, mb, ad, by rw [HR.out.2]; exact H.out.keep hc1, Dgo.quiet hc1⟩
end
end
section
open Go.RowKit Go.Oct Go.Su Go.Dk Go.Maps
section
variable {w w' : World} {g g' : Nat → Tg} {d : Nat} {mb : Option Nat} {ad : Key → Nat} {s s' : Ds} {F S : Nat → Prop} {x y : Fl} {k : Key}
theorem ch_turned {b : Nat} (h : w.mapTurned w' b) : Ch (fun i => i = b) w w' := by
  have hg := h.grown
  exact ⟨hg.os, hg.tape, hg.output, hg.size, fun i hi hn => hg.block i hi (fun e => hn (by injection e))⟩
/-- A file is taken out of the map; it has no bytes. -/
theorem Dsk.out {b n : Nat} (h : Dsk w g d (some b) ad s) (hx : x ∈ s.fs) (h0 : x.bs.length = 0) (hc : Ch (fun i => i = b) w w') (hm : w'.ownsMap Tryz.prog 9 heldR b n ((mapD s.fs ad).del (.string x.nm))) : Dsk w' g d (some b) ad ⟨s.room, del s.fs x.nm, s.left⟩ := by
  obtain ⟨hb, ho⟩ := h.some_ b rfl
  have hdb : d ≠ b := fun e => by have := h.tag; rw [e, hb] at this; cases this
  have hu := used_at h.ok.fine.rise hx
  obtain ⟨fz, lf, c3, c4, hf⟩ := h.fuse
  have hlt : ∀ p : Addr, p.block = d → w.cell? p = w'.cell? p := fun p hp => (World.cell?_of_block (w := w) (hc.block p.block (by rw [hp]; exact h.lt_d) (by rw [hp]; exact hdb))).symm
  refine ⟨h.ok.del _ _, fun i hi => Nat.lt_of_lt_of_le (h.lt i hi) hc.size, h.tag, fun j => ?_, (hlt _ rfl).symm.trans h.c0, (hlt _ rfl).symm.trans h.c1, ?_, ⟨fz, lf, (hlt _ rfl).symm.trans c3, (hlt _ rfl).symm.trans c4, hf⟩, (fun e => by cases e), fun i hi => ?_, fun z hz => ?_⟩
  · rw [hc.frozen (p := ⟨d, j, none⟩) hdb h.lt_d]; exact h.zf j
  · rw [← hlt _ rfl, h.c2, hu, h0, Nat.add_zero]
  · injection hi with hi
    subst hi
    refine ⟨hb, ?_⟩
    have h1 := own_tight hm
    rw [del_canon mapLaw h.ok.fine.rise hm, size_mapD] at h1
    exact h1
  · exact (h.files z (mem_del.1 hz).1).ch hc fun i hi e => by
      subst e
      rw [hb] at hi
      rcases hi with hi | hi <;> cases hi
theorem put_cut_del (fs : Fs) (f : Fl) : del (put fs f) f.nm = del fs f.nm := by
  have e1 : lo (put fs f) f.nm = lo fs f.nm := by
    show (lo fs f.nm ++ f :: hi fs f.nm).filter _ = lo fs f.nm
    rw [List.filter_append, List.filter_cons_of_neg (by simp [key_irrefl]), List.filter_eq_self.2 (fun z hz => by simpa using (mem_lo.1 hz).2), List.filter_eq_nil_iff.2 (fun z hz => by simpa using key_le_of_lt (mem_hi.1 hz).2), List.append_nil]
  have e2 : hi (put fs f) f.nm = hi fs f.nm := by
    show (lo fs f.nm ++ f :: hi fs f.nm).filter _ = hi fs f.nm
    rw [List.filter_append, List.filter_cons_of_neg (by simp [key_irrefl]), List.filter_eq_nil_iff.2 (fun z hz => by simpa using key_le_of_lt (mem_lo.1 hz).2), List.filter_eq_self.2 (fun z hz => by simpa using (mem_hi.1 hz).2), List.nil_append]
  unfold del
  rw [e1, e2]
set_option maxRecDepth 100000 in
set_option maxHeartbeats 4000000 in
theorem drop_any (h : Dsk w g d mb ad s) (hk : k.length ≤ 9223372036854775807) : Calls Tryz.prog 190 #[pv d, kv k] w fun e w' => e = .returned (.tuple #[]) ∧ Dsk w' g d mb ad ⟨s.room, del s.fs k, s.left⟩ ∧ Dgo w g w' g := by
  have hp : pv d = .pointer (some ⟨d, 0, none⟩) := rfl
  have H := Bx.mk h
  have HKL := Bx.mk hk
  obtain ⟨S, hkv⟩ : ∃ S, kv k = .string S := ⟨_, rfl⟩
  have HKV := Bx.mk hkv
  have c0 := h.c0
  rw [hp]
  rw [hkv]
  clear hp h hk hkv
  cases hf : fnd s.fs k with
  | none =>
    have hlk := H.out.look_no hf (by unfold maxLen; exact HKL.out)
    rw [HKV.out] at hlk
    have HR : Bx (Dsk w g d mb ad ⟨s.room, del s.fs k, s.left⟩) := ⟨by rw [del_no H.out.ok.fine.rise (fnd_none hf)]; exact H.out⟩
    clear hf
    go_enter Tryz.func190, Tryz.ntmps190
    go_wp2
    go_returns
    exact ⟨rfl, HR.out, Dgo.refl _ _⟩
  | some x =>
    obtain ⟨hxm, hxn⟩ := fnd_some hf
    obtain ⟨b, rfl⟩ : ∃ b, mb = some b := by
      cases mb with
      | none => rw [H.out.none_ rfl] at hxm; simp at hxm
      | some b => exact ⟨b, rfl⟩
    have hlk := H.out.look_yes hf (by unfold maxLen; exact HKL.out)
    rw [HKV.out] at hlk
    have HC := Bx.mk (cut_any H.out hxm (n := 0) (Nat.zero_le _))
    rw [hxn, show pv d = .pointer (some ⟨d, 0, none⟩) from rfl, show pv (ad k) = .pointer (some ⟨ad k, 0, none⟩) from rfl] at HC
    have HTG : Bx (g (ad k) ≠ .no ∧ g d ≠ .no ∧ g b ≠ .no) := ⟨by rw [← hxn, (H.out.files x hxm).tag]; exact (fun e => by cases e), by rw [H.out.tag]; exact (fun e => by cases e), by rw [(H.out.some_ b rfl).1]; exact (fun e => by cases e)⟩
    have HXM := Bx.mk hxm
    have HXN := Bx.mk hxn
    clear hf hxm hxn
    obtain ⟨a, ha⟩ : ∃ a, ad k = a := ⟨_, rfl⟩
    rw [ha] at hlk HC HTG
    clear ha
    go_enter Tryz.func190, Tryz.ntmps190
    go_wp2_with fail
    refine HC.out.mono ?_
    rintro e w1 ⟨rfl, hd1, hc1⟩
    have HD1 := Bx.mk hd1
    have c01 := hd1.c0
    have hown := (hd1.some_ b rfl).2
    have HC1 := Bx.mk hc1
    clear hlk hd1 hc1 c0
    obtain ⟨w2, hdel, hown2, hturn2⟩ := hown.drop mapLaw mapT (key := .string S) (kl := .string k) (by rw [← HKV.out]; exact key_of (by unfold maxLen; exact HKL.out)) 0
    have HR : Bx (Dsk w2 g d (some b) ad ⟨s.room, del s.fs k, s.left⟩ ∧ Ch (fun i => i = b) w1 w2) := ⟨by
      have hc2 := ch_turned hturn2
      refine ⟨?_, hc2⟩
      have hne : (cutF x 0).nm = k := HXN.out
      have h1 := HD1.out.out (x := cutF x 0) (w' := w2) (n := (put s.fs (cutF x 0)).length) (mem_put.2 (.inl rfl)) (by simp [cutF]) hc2 (by rw [hne]; exact hown2)
      rw [put_cut_del, hne] at h1
      exact h1⟩
    clear hown hown2 hturn2
    go_wp2
    go_returns
    exact ⟨rfl, HR.out.1, ⟨(HC1.out.mono (fun i _ hi => hi.elim (fun e => e ▸ HTG.out.2.1) (fun e => e ▸ HTG.out.1))).trans HR.out.2 (fun i _ hi => by rw [hi]; exact HTG.out.2.2), fun b hb => .inl hb⟩⟩
set_option maxRecDepth 100000 in
set_option maxHeartbeats 4000000 in
theorem remove_any (h : Dsk w g d mb ad s) (hk : k.length ≤ 9223372036854775807) : Calls Tryz.prog 119 #[pv d, kv k] w (Post (opRem s k) d w g) := by
  have hp : pv d = .pointer (some ⟨d, 0, none⟩) := rfl
  have HM := Bx.mk (may1_any h hk)
  have H := Bx.mk h
  have HKL := Bx.mk hk
  have HDR : Bx (∀ w1, Ch (fun _ => False) w w1 → Calls Tryz.prog 190 #[pv d, kv k] w1 fun e w' => e = .returned (.tuple #[]) ∧ Dsk w' g d mb ad ⟨s.room, del s.fs k, s.left⟩ ∧ Dgo w1 g w' g) := ⟨fun w1 hc => drop_any (h.keep hc) hk⟩
  obtain ⟨S, hkv⟩ : ∃ S, kv k = .string S := ⟨_, rfl⟩
  obtain ⟨m, hm⟩ : ∃ m, may s k = m := ⟨_, rfl⟩
  have HKV := Bx.mk hkv
  rw [hp] at HM HDR ⊢
  rw [hkv] at HM HDR ⊢
  rw [hm] at HM
  clear hp h hk hkv
  by_cases h0 : m = 0
  · subst h0
    have HMY := Bx.mk hm
    clear hm
    cases hf : fnd s.fs k with
    | none =>
      have HR : Bx (Ending.returned (.int .i64 7) = .returned (.int .i64 ((opRem s k).1 : Int)) ∧ (opRem s k).2 = s) := ⟨by unfold opRem; rw [if_neg (by simp [HMY.out]), hf]; exact ⟨rfl, rfl⟩⟩
      have HF := Bx.mk hf
      clear hf
      go_enter Tryz.func119, Tryz.ntmps119
      go_wp2_with fail
      refine HM.out.mono ?_
      rintro e w1 ⟨rfl, hc1⟩
      have H1 := Bx.mk (H.out.keep hc1)
      have hlk := H1.out.look_no HF.out (by unfold maxLen; exact HKL.out)
      have c0 := H1.out.c0
      rw [HKV.out] at hlk
      have HC1 := Bx.mk hc1
      clear hc1
      go_wp2
      go_ret
      exact ⟨HR.out.1, g, mb, ad, by rw [HR.out.2]; exact H1.out, Dgo.quiet HC1.out⟩
    | some x =>
      have HF := Bx.mk hf
      have HR : Bx (Ending.returned (.int .i64 0) = .returned (.int .i64 ((opRem s k).1 : Int)) ∧ (opRem s k).2 = ⟨s.room, del s.fs k, tick s.left⟩) := ⟨by unfold opRem; rw [if_neg (by simp [HMY.out]), hf]; exact ⟨rfl, rfl⟩⟩
      clear hf
      go_enter Tryz.func119, Tryz.ntmps119
      go_wp2_with fail
      refine HM.out.mono ?_
      rintro e w1 ⟨rfl, hc1⟩
      have H1 := Bx.mk (H.out.keep hc1)
      have hlk := H1.out.look_yes HF.out (by unfold maxLen; exact HKL.out)
      have c0 := H1.out.c0
      rw [HKV.out] at hlk
      have HC1 := Bx.mk hc1
      have HDR1 := Bx.mk (HDR.out w1 hc1)
      clear hc1 HM HDR
      go_wp2_with fail
      refine HDR1.out.mono ?_
      rintro e w2 ⟨rfl, hd2, hg2⟩
      have HD : Bx (Calls Tryz.prog 191 #[.pointer (some ⟨d, 0, none⟩)] w2 fun e w' => e = .returned (.int .i64 0) ∧ Dsk w' g d mb ad ⟨s.room, del s.fs k, tick s.left⟩ ∧ Ch (fun b => b = d) w2 w') := ⟨done_any hd2 (may_ok HMY.out).1⟩
      have HG2 := Bx.mk hg2
      clear hd2 hg2 hlk c0
      go_wp2_with fail
      refine HD.out.mono ?_
      rintro e w3 ⟨rfl, hd3, hc3⟩
      go_wp2
      go_ret
      exact ⟨HR.out.1, g, mb, ad, by rw [HR.out.2]; exact hd3, ((Dgo.quiet HC1.out).trans HG2.out).trans ⟨hc3.mono (fun i _ hi => by rw [hi, H.out.tag]; exact (fun e => by cases e)), fun b hb => .inl hb⟩⟩
  · have HR : Bx (Ending.returned (.int .i64 (m : Int)) = .returned (.int .i64 ((opRem s k).1 : Int)) ∧ (opRem s k).2 = s) := ⟨by unfold opRem; rw [if_pos (by rw [hm]; exact h0), hm]; exact ⟨rfl, rfl⟩⟩
    have h0' : ¬ (m : Int) = 0 := by omega
    clear hm
    go_enter Tryz.func119, Tryz.ntmps119
    go_wp2_with fail
    refine HM.out.mono ?_
    rintro e w1 ⟨rfl, hc1⟩
    go_wp2
    go_ret
    exact ⟨HR.out.1, g, mb, ad, by rw [HR.out.2]; exact H.out.keep hc1, Dgo.quiet hc1⟩
end
end
end Go.Proofs.YtbkakhfepiooaaaGreatDoor.D
