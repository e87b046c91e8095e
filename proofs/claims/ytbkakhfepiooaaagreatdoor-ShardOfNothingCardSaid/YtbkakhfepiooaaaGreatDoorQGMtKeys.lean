/- Lemmas and contracts of this proof. Conditions: said at each. -/
import Derived.Test.YtbkakhfepiooaaaGreatDoorQGSgGet
import Derived.Test.YtbkakhfepiooaaaGreatDoorMtLaid
import Derived.Lib.OwnBridge
namespace Go.Proofs.YtbkakhfepiooaaaGreatDoor.M
section
open Go.RowKit Go.Oct Go.Su Go.Sg Go.Mt Go.Maps Go.Sort Go.Shelf
section
variable {w w1 w2 w' W W' : World} {P S F FA : Nat → Prop} {t bp bb : Nat} {mb : Option Nat} {ks gs gs' : List Key} {vf : Key → Value} {ds ds' : List Dc} {k : Key} {v : Value} {has : Bool}
/-- Has a key a text? -/
def isDoc (ds : List Dc) (k : Key) : Bool := decide (∃ d ∈ ds, d.1 = k)
/-- What the map tells of a key: whether it has a text, and which. -/
theorem Ents.tell (he : Ents w P t mb ks vf ds gs) (ok : TabOk ds gs) (k : Key) : ∃ A n c xs, (if k ∈ ks then vf k else fate false (.slice none 0 0)) = fate (isDoc ds k) (.slice A n c) ∧ Sl w (fun x => P x ∧ x ≠ t ∧ mb ≠ some x) .u8 A n xs ∧ n ≤ 4096 ∧ n ≤ c ∧ c ≤ maxLen ∧ Shp A c ∧ ∀ d ∈ ds, d.1 = k → xs = d.2 := by
  by_cases hd : ∃ d ∈ ds, d.1 = k
  · have hi : isDoc ds k = true := decide_eq_true hd
    obtain ⟨d, hd, rfl⟩ := hd
    obtain ⟨A, c, e1, hs, h1, h2, h3⟩ := he.docs d hd
    have hm : d.1 ∈ ks := he.mem.2 (.inl ⟨d, hd, rfl⟩)
    refine ⟨A, d.2.length, c, d.2, by rw [if_pos hm, hi]; exact e1, hs, ok.len d hd, h1, h2, h3, fun e he2 e3 => ?_⟩
    obtain ⟨i, hi⟩ := List.getElem?_of_mem hd
    obtain ⟨j, hj⟩ := List.getElem?_of_mem he2
    rcases Nat.lt_trichotomy i j with h | h | h
    · exact absurd e3.symm (keyne (ok.dr.at_lt h hi hj))
    · subst h
      rw [hi] at hj
      injection hj with hj
      rw [hj]
    · exact absurd e3 (keyne (ok.dr.at_lt h hj hi))
  · have hi : isDoc ds k = false := decide_eq_false hd
    by_cases hg : k ∈ gs
    · have hm : k ∈ ks := he.mem.2 (.inr hg)
      exact ⟨none, 0, 0, [], by rw [if_pos hm, hi]; exact he.gone k hg, Sl.nil _ _ _ _, Nat.zero_le _, Nat.le_refl _, Nat.zero_le _, .inl ⟨rfl, rfl⟩, fun d hd2 e => absurd ⟨d, hd2, e⟩ hd⟩
    · have hm : k ∉ ks := fun hm => (he.mem.1 hm).elim hd hg
      exact ⟨none, 0, 0, [], by rw [if_neg hm, hi], Sl.nil _ _ _ _, Nat.zero_le _, Nat.le_refl _, Nat.zero_le _, .inl ⟨rfl, rfl⟩, fun d hd2 e => absurd ⟨d, hd2, e⟩ hd⟩
/-- What the closure reads. -/
structure KC (W : World) (P : Nat → Prop) (bp bb t : Nat) (has : Bool) (mb : Option Nat) (ks : List Key) (vf : Key → Value) (ds : List Dc) (gs : List Key) : Prop where
  cp : W.cell? ⟨bp, 0, none⟩ = some (.pointer (some ⟨t, 0, none⟩))
  cb : W.cell? ⟨bb, 0, none⟩ = some (.bool has)
  ct : W.cell? ⟨t, 0, none⟩ = some (.map mb)
  en : Ents W P t mb ks vf ds gs
  ok : TabOk ds gs
theorem KC.ch (h : KC W P bp bb t has mb ks vf ds gs) (hc : Ch S W W') (h1 : ¬ S bp) (h2 : ¬ S bb) (h3 : ¬ S t) (h4 : ∀ x, P x → ¬ S x) : KC W' P bp bb t has mb ks vf ds gs :=
  ⟨hc.cell (p := ⟨bp, 0, none⟩) h1 h.cp, hc.cell (p := ⟨bb, 0, none⟩) h2 h.cb, hc.cell (p := ⟨t, 0, none⟩) h3 h.ct, h.en.ch hc h4, h.ok⟩
set_option maxRecDepth 100000 in
theorem fate_has (f : Bool) (A : Option Addr) (n c : Nat) (w : World) : (Instr.field 190 (.agg #[.bool f, .slice A n c]) 0).run Tryz.prog w = .ok (.bool f) w := by kernel_rfl
theorem fate_text (f : Bool) (A : Option Addr) (n c : Nat) (w : World) : (Instr.field 190 (.agg #[.bool f, .slice A n c]) 1).run Tryz.prog w = .ok (.slice A n c) w := by kernel_rfl
set_option maxRecDepth 100000 in
theorem others_any (h : KC W P bp bb t has mb ks vf ds gs) (k : Key) (hk : k.length ≤ maxLen) :
    Calls Tryz.prog 215 #[kv k, .pointer (some ⟨bp, 0, none⟩), .pointer (some ⟨bb, 0, none⟩)] W fun e w' => e = .returned (.bool (isDoc ds k != has)) ∧ ∃ q, w' = W.drewN q := by
  obtain ⟨A, n, c, xs, e1, _⟩ := h.en.tell h.ok k
  have hlk : ∀ q, (Instr.lookup 125 (.map mb) (kv k) false).run Tryz.prog (W.drewN q) = .ok (.agg #[.bool (isDoc ds k), .slice A n c]) (W.drewN q) := fun q => by
    have := (h.en.ch ((Ch.refl (fun _ => False) W).drewN q) (fun _ _ h => h)).look hk
    rw [e1] at this
    exact this
  have hl0 : (Instr.lookup 125 (.map mb) (kv k) false).run Tryz.prog W = .ok (.agg #[.bool (isDoc ds k), .slice A n c]) W := hlk 0
  have hl1 : (Instr.lookup 125 (.map mb) (kv k) false).run Tryz.prog W.drew = .ok (.agg #[.bool (isDoc ds k), .slice A n c]) W.drew := hlk 1
  obtain ⟨V, hV⟩ : ∃ V, kv k = V := ⟨_, rfl⟩
  rw [hV] at hl0 hl1 ⊢
  clear hlk
  have hfh := fate_has (isDoc ds k) A n c
  have cp := h.cp
  have cb := h.cb
  have ct := h.ct
  generalize isDoc ds k = f at *
  clear h e1 hV
  go_enter Tryz.func215, Tryz.ntmps215
  go_wp2_with fail
  go_region
  all_goals (
    go_wp2
    go_ret
    exact ⟨rfl, 1, rfl⟩)
end
end
section
open Go.RowKit Go.Oct Go.Su Go.Sg Go.Mt Go.Maps Go.Sort Go.Shelf
section
variable {w w1 w2 w' W W' : World} {P S F FA : Nat → Prop} {t bp bb : Nat} {mb : Option Nat} {ks gs gs' : List Key} {vf : Key → Value} {ds ds' : List Dc} {k : Key} {v : Value} {has : Bool}
theorem mtSorts (m : Nat) : AnyZ.SortsIn Tryz.prog Tryz.mtSorted_ren Fence.wide m :=
  ⟨fun blk off cap ss W hH hblk hsz => callsIn_wide.2 (AnyM.slices_Sort_string Tryz.mtSort blk off cap ss W hH hblk hsz),
   fun p cap W => callsIn_wide.2 (AnyM.slices_Sort_string_none Tryz.mtSort p cap W)⟩
theorem mkeysf_any (mb : Option Nat) (W : World) : Calls Tryz.prog 216 #[.map mb] W fun e w' => e = .returned (.func (.func 271) #[] #[.pointer (some ⟨W.heap.size, 0, none⟩)]) ∧ w' = W.alloc (.cells #[.map mb] 125) :=
  callsIn_wide.1 (AnyZ.keys_in Tryz.mtKeys Fence.wide 5 trivial rfl mb W)
theorem mmerge_uniq {ss l : List Key} (hp : ss.Perm l) (hl : RiseF id l) : ss.mergeSort (fun x y => decide (x ≤ y)) = l := by
  refine srt_uniq ?_ (Rise.srt hl) ((List.mergeSort_perm _ _).trans hp)
  have h := List.pairwise_mergeSort (le := fun x y : Key => decide (x ≤ y)) (fun a b c h1 h2 => by
    simp only [decide_eq_true_eq] at *
    exact List.le_trans h1 h2) (fun a b => by
    simp only [Bool.or_eq_true, decide_eq_true_eq]
    exact List.le_total a b) ss
  exact h.imp fun {a b} hab => by
    simp only [decide_eq_true_eq] at hab
    exact List.not_lt.2 hab
/-- A new row of keys. -/
def KeysOf (l : List Key) (w : World) (e : Ending) (w' : World) : Prop := ∃ A n c, e = .returned (.slice A n c) ∧ Gs 9 1 w w' (.slice A n c) n (l.map kv) ∧ n ≤ c ∧ c ≤ maxLen
set_option maxHeartbeats 2000000 in
theorem msorted_any (he : Ents w P t mb ks vf ds gs) (hfew : ks.length ≤ 1000000) : Calls Tryz.prog 121 #[.func (.func 271) #[] #[.pointer (some ⟨w.heap.size, 0, none⟩)]] (w.alloc (.cells #[.map mb] 125)) (KeysOf ks w) := by
  have hok : ∀ {v : Value} {ss : List (List UInt8)} {w' : World}, ss.Perm ks → w'.ownsRow (w.alloc (.cells #[.map mb] 125)).heap.size 9 1 v ss.length ((ss.mergeSort (fun x y => decide (x ≤ y))).map encStr) → Below (w.alloc (.cells #[.map mb] 125)).heap.size (w.alloc (.cells #[.map mb] 125)) w' → KeysOf ks w (.returned v) w' := by
    intro v ss w' hp ho hb
    rw [mmerge_uniq hp he.rise] at ho
    have hl : ss.length = ks.length := hp.length_eq
    have hch : Ch (fun _ => False) w w' := ((Ch.refl (fun _ => False) w).alloc _).trans (Ch.of_below hb (fun k h1 h2 => absurd h2 (by omega))) (fun _ _ h => h)
    obtain ⟨A, c, rfl, h1, h2⟩ := own_shape ho
    exact ⟨A, ss.length, c, rfl, ⟨⟨ho.1, ho.2.imp id (fun ⟨g, cap, cur, e, _, r⟩ => ⟨g, cap, cur, e, Nat.zero_le _, r⟩)⟩, fun q hq => by have := (ho.lt q hq).1; rw [World.size_alloc] at this; omega, hch⟩, h1, h2⟩
  cases mb with
  | none =>
    have hseq : SeqGives Fence.wide 2 Tryz.prog 271 #[.pointer (some ⟨w.heap.size, 0, none⟩)] encStr (fun ss : List (List UInt8) => ss = []) 0 (w.alloc (.cells #[.map none] 125)) :=
      AnyZ.keys_gives_nil (ρ := Tryz.mtKeys_ren) { Tryz.mtKeys with } Fence.wide _ trivial rfl w.heap.size _ (by simp) (by simp)
    refine (callsIn_wide.1 (AnyZ.sorted_in Tryz.mtSorted Fence.wide 5 trivial trivial trivial trivial rfl (by omega) (mtSorts _) (enters_of Tryz.func62 (by kernel_rfl) rfl) 271 #[.pointer (some ⟨w.heap.size, 0, none⟩)] trivial (enters_of Tryz.func271 (by kernel_rfl) rfl) _ 0 (Nat.zero_le _) (by omega) _ hseq)).mono ?_
    rintro e w' ⟨v, ss, rfl, rfl, ho, _, hb⟩
    exact hok (by rw [he.none_ rfl]) ho hb
  | some b =>
    have hown := (he.some_ b rfl).2.2
    have hbl := hown.lt
    have hsz : Maps.size (mapK ks vf) = ks.length := size_mapK _ _
    have hseq : SeqGives Fence.wide 2 Tryz.prog 271 #[.pointer (some ⟨w.heap.size, 0, none⟩)] encStr (fun ss => ss.Perm (strKeys (mapK ks vf))) (Maps.size (mapK ks vf)) (w.alloc (.cells #[.map (some b)] 125)) :=
      AnyZ.keys_gives (ρ := Tryz.mtKeys_ren) { Tryz.mtKeys with } Fence.wide _ trivial rfl (by omega) w.heap.size b ks.length (mapK ks vf) _ (by simp) (by simp) (by
        obtain ⟨es, clock, hb, Ft, hs, hD⟩ := hown
        exact ⟨es, clock, (Below.heap_alloc _ _ b hbl).trans hb, Ft, hs, hD⟩)
    refine (callsIn_wide.1 (AnyZ.sorted_in Tryz.mtSorted Fence.wide 5 trivial trivial trivial trivial rfl (by omega) (mtSorts _) (enters_of Tryz.func62 (by kernel_rfl) rfl) 271 #[.pointer (some ⟨w.heap.size, 0, none⟩)] trivial (enters_of Tryz.func271 (by kernel_rfl) rfl) _ _ (by rw [hsz]; unfold maxLen; omega) (by rw [hsz]; omega) _ hseq)).mono ?_
    rintro e w' ⟨v, ss, rfl, hS, ho, _, hb⟩
    exact hok (by rw [← strKeys_mapK ks vf]; exact hS) ho hb
/-- Keys that can be looked up. -/
abbrev LK := { k : Key // k.length ≤ maxLen }
instance : Inhabited LK := ⟨⟨[], Nat.zero_le _⟩⟩
def encK (k : LK) : Value := kv k.1
theorem lk_of {l : List Key} (h : ∀ k ∈ l, k.length ≤ maxLen) : ∃ la : List LK, la.map (·.1) = l := by
  induction l with
  | nil => exact ⟨[], rfl⟩
  | cons a l ih =>
    obtain ⟨la, e⟩ := ih (fun k hk => h k (List.mem_cons_of_mem _ hk))
    exact ⟨⟨a, h a (by simp)⟩ :: la, by simp [e]⟩
theorem mch_putRow {α : Type} [Inhabited α] (enc : α → Value) (w : World) (q blk off : Nat) (d : Array α) : Ch (fun k => k = blk) w (putRow enc (Sort.ahead w q) blk off d) :=
  ⟨rfl, rfl, rfl, by simp [putRow, mapBlock, Sort.ahead], fun k _ hS => by
    have h : ¬ blk = k := fun e => hS e.symm
    simp [putRow, mapBlock, Sort.ahead, Array.getElem?_modify, h]⟩
theorem mch_grow (w : World) (os : Array Obj) : Ch (fun _ => False) w (grow w os) :=
  ⟨rfl, rfl, rfl, by show w.heap.size ≤ (w.heap ++ os).size; rw [Array.size_append]; omega, fun k hk _ => Sort.heap_grow_old w os hk⟩
theorem midx0_any (fv : Value) (w : World) : Calls Tryz.prog 120 #[.slice none 0 0, fv] w fun e w' => e = .returned (.int .i64 (-1)) ∧ w = w' := by
  go_enter Tryz.func120, Tryz.ntmps120
  go_wp2_with fail
  go_loop [5, 8] (fun _ i => i = .int .i64 0) (fun _ _ => 0)
  case atStart => rfl
  case round =>
    obtain rfl := hrel
    go_wp2
    go_ret
    exact ⟨rfl, rfl⟩
theorem mdel0_any (fv : Value) (w : World) : Calls Tryz.prog 67 #[.slice none 0 0, fv] w fun e w' => e = .returned (.slice none 0 0) ∧ w = w' := by
  have HI := Bx.mk (midx0_any fv w)
  go_enter Tryz.func67, Tryz.ntmps67
  go_wp2_with fail
  refine HI.out.mono ?_
  rintro e w1 ⟨rfl, rfl⟩
  go_wp2
  go_ret
  exact ⟨rfl, rfl⟩
set_option maxRecDepth 100000 in
theorem mdelf_any {l : List Key} {W0 W : World} {A1 : Option Addr} {m c1 : Nat} (h : KC W P bp bb t has mb ks vf ds gs) (hg : Gs 9 1 W0 W (.slice A1 m c1) m (l.map kv))
    (hbp : bp < W0.heap.size) (hbb : bb < W0.heap.size) (htl : t < W0.heap.size) (hP : ∀ x, P x → x < W0.heap.size) (hm : m ≤ 1000000) (hl : ∀ k ∈ l, k.length ≤ maxLen) :
    Calls Tryz.prog 67 #[.slice A1 m c1, .func (.func 215) #[] #[.pointer (some ⟨bp, 0, none⟩), .pointer (some ⟨bb, 0, none⟩)]] W (KeysOf (l.filter fun k => !(isDoc ds k != has)) W0) := by
  by_cases hv : Value.slice A1 m c1 = .slice none 0 0
  · injection hv with e1 e2 e3
    subst e1; subst e2; subst e3
    have hl : l = [] := List.eq_nil_of_length_eq_zero (by simpa using hg.own.1)
    subst hl
    refine (mdel0_any _ W).mono ?_
    rintro e w' ⟨rfl, rfl⟩
    exact ⟨none, 0, 0, rfl, hg, Nat.le_refl _, Nat.zero_le _⟩
  · obtain ⟨la, rfl⟩ := lk_of hl
    have hmap : (la.map (·.1)).map kv = la.map encK := by rw [List.map_map]; rfl
    rw [hmap] at hg
    obtain ⟨b, cap, e1, _, hlt, hle, hcm, hlen, hH⟩ := Lib.holds_of_ownsRow (enc := encK) (zs := la) hg.own hv
    injection e1 with e1 _ e3
    subst e1; subst e3
    have hb0 : W0.heap.size ≤ b := hg.lies b rfl
    have hst : ∀ W', Ch (fun k => k = b) W W' → KC W' P bp bb t has mb ks vf ds gs := fun W' hc => h.ch hc (by omega) (by omega) (by omega) (fun k hk e => by have := hP k hk; omega)
    have eg : ∀ args w, (callFunc 215 args).run Tryz.prog w = .ok (.enter 215 args) w := enters_of Tryz.func215 (by kernel_rfl) rfl
    have hp : PredAt Tryz.prog 215 #[.pointer (some ⟨bp, 0, none⟩), .pointer (some ⟨bb, 0, none⟩)] encK (fun k => isDoc ds k.1 != has) W := fun W' x hb =>
      others_any (hst W' (Ch.of_below hb (fun k h1 h2 => absurd h2 (by omega)))) x.1 x.2
    have hpo : PredOver Tryz.prog 215 #[.pointer (some ⟨bp, 0, none⟩), .pointer (some ⟨bb, 0, none⟩)] encK (fun k => isDoc ds k.1 != has) b 0 la.toArray.size W := fun q os dk x _ =>
      others_any (hst _ ((mch_putRow encK W q b 0 dk).trans (mch_grow _ os) (fun _ _ h => h.elim))) x.1 x.2
    have hcon := AnyE.slices_DeleteFunc Tryz.mtDel encK (fun _ => rfl) (fun k => isDoc ds k.1 != has) 215 #[.pointer (some ⟨bp, 0, none⟩), .pointer (some ⟨bb, 0, none⟩)] eg ⟨[], Nat.zero_le _⟩ Tryz.zeroValue9 b 0 c1 la.toArray W hp hpo hH (by simp; omega) (by simp; omega)
    have hfl : ((la.map (·.1)).filter fun k => !(isDoc ds k != has)).map kv = (la.toArray.toList.filter fun x => !(fun k : LK => isDoc ds k.1 != has) x).map encK := by
      rw [List.filter_map, List.map_map]
      rfl
    unfold KeysOf
    rw [hfl]
    generalize hR : (la.toArray.toList.filter fun x => !(fun k : LK => isDoc ds k.1 != has) x) = R at *
    have hgl : R.length ≤ m := by
      rw [← hlen, ← hR]
      exact List.length_filter_le _ _
    have hsz : la.toArray.size = m := by simpa using hlen
    rw [hsz] at hcon
    refine hcon.mono ?_
    rintro e w' ⟨rfl, q, rfl⟩
    refine ⟨_, _, _, rfl, ⟨?_, fun k hk => by
      have hk : b = k := by simpa [Value.ownBlock] using hk
      omega, hg.ch.trans (mch_putRow encK W q b 0 _) (fun k hk e => by omega)⟩, by omega, hcm⟩
    have ho := Lib.ownsRow_putRow (enc := encK) (q := q) (k := R.length) (ys := R ++ List.replicate (m - R.length) ⟨[], Nat.zero_le _⟩) hg.own (by simp; omega) hgl
    rw [List.take_left] at ho
    exact ho
end
end
section
open Go.RowKit Go.Oct Go.Su Go.Sg Go.Mt Go.Maps Go.Sort Go.Shelf
section
variable {w w1 w2 w' W W' : World} {P S F FA : Nat → Prop} {t bp bb : Nat} {mb : Option Nat} {ks gs gs' : List Key} {vf : Key → Value} {ds ds' : List Dc} {k : Key} {v : Value} {has : Bool}
theorem KeysOf.after {l : List Key} {w w0 w' : World} {e : Ending} (h0 : Ch (fun _ => False) w w0) (h : KeysOf l w0 e w') : KeysOf l w e w' := by
  obtain ⟨A, n, c, e1, hg, r⟩ := h
  exact ⟨A, n, c, e1, ⟨hg.own, fun g hgg => Nat.le_trans h0.size (hg.lies g hgg), h0.trans hg.ch (fun _ _ h => h)⟩, r⟩
/-- The keys that have a text, or those that are gone. -/
def keysOf (has : Bool) (ds : List Dc) (gs : List Key) : List Key := if has then ds.map (·.1) else gs
theorem keys_filter (ok : TabOk ds gs) (hr : RiseF id ks) (h : ks.Perm (ds.map (·.1) ++ gs)) (has : Bool) : (ks.filter fun k => !(isDoc ds k != has)) = keysOf has ds gs := by
  cases has with
  | true =>
    have e := keys_docs ok hr h
    unfold keysOf
    rw [if_pos rfl, ← e]
    refine List.filter_congr fun k _ => ?_
    unfold isDoc
    simp
  | false =>
    have e := keys_gone ok hr h
    unfold keysOf
    rw [if_neg (by decide), ← e]
    refine List.filter_congr fun k _ => ?_
    unfold isDoc
    simp
set_option maxRecDepth 100000 in
set_option maxHeartbeats 2000000 in
theorem mkeys_any (h : TabP w P t ds gs) (has : Bool) : Calls Tryz.prog 150 #[.pointer (some ⟨t, 0, none⟩), .bool has] w (KeysOf (keysOf has ds gs) w) := by
  obtain ⟨mb, ks, vf, c0, he⟩ := h.row
  have H := Bx.mk h
  have htl := h.lt_t
  obtain ⟨w1, hw1⟩ : ∃ w1, w.alloc (.cells #[.pointer (some ⟨t, 0, none⟩)] 60) = w1 := ⟨_, rfl⟩
  have hs1 : w1.heap.size = w.heap.size + 1 := by rw [← hw1, World.size_alloc]
  obtain ⟨w2, hw2⟩ : ∃ w2, w1.alloc (.cells #[.bool has] 4) = w2 := ⟨_, rfl⟩
  have hs2 : w2.heap.size = w.heap.size + 2 := by rw [← hw2, World.size_alloc, hs1]
  have hc1 : Ch (fun _ => False) w w1 := by rw [← hw1]; exact (Ch.refl _ _).alloc _
  have hc2 : Ch (fun _ => False) w1 w2 := by rw [← hw2]; exact (Ch.refl _ _).alloc _
  have hcc := hc1.trans hc2 (fun _ _ h => h)
  have hal : (w.alloc (.cells #[.pointer (some ⟨t, 0, none⟩)] 60)).heap.size = w.heap.size + 1 := World.size_alloc _ _
  have cp : w2.cell? ⟨w.heap.size, 0, none⟩ = some (.pointer (some ⟨t, 0, none⟩)) := hc2.cell (fun h => h) (by rw [← hw1]; exact ncells_at (j := 0) rfl)
  have cb : w2.cell? ⟨w.heap.size + 1, 0, none⟩ = some (.bool has) := by rw [← hw2, ← hs1]; exact ncells_at (j := 0) rfl
  have ct := hcc.cell (p := ⟨t, 0, none⟩) (fun h => h) c0
  have hE2 := he.ch hcc (fun _ _ h => h)
  have hkl : ∀ k ∈ ks, k.length ≤ maxLen := fun k hk => by
    have hle : k.length ≤ 64 := by
      rcases he.mem.1 hk with ⟨d, hd, rfl⟩ | hk
      · exact (h.ok.dk d hd).2
      · exact (h.ok.gk k hk).2
    unfold maxLen
    omega
  have hfew : ks.length ≤ 1000000 := by rw [he.len]; exact h.few
  have HKF := Bx.mk (mkeysf_any mb w2)
  have HSO := Bx.mk (msorted_any hE2 hfew)
  have HDE : Bx (∀ (W : World) (A1 : Option Addr) (m c1 : Nat), Gs 9 1 w2 W (.slice A1 m c1) m (ks.map kv) → Calls Tryz.prog 67 #[.slice A1 m c1, .func (.func 215) #[] #[.pointer (some ⟨w.heap.size, 0, none⟩), .pointer (some ⟨w.heap.size + 1, 0, none⟩)]] W (KeysOf (keysOf has ds gs) w2)) := ⟨fun W A1 m c1 hg => by
    have hm : m = ks.length := by have := hg.own.1; simp at this; omega
    rw [← keys_filter H.out.ok he.rise he.perm has]
    refine mdelf_any (KC.ch (S := fun _ => False) ⟨cp, cb, ct, hE2, H.out.ok⟩ hg.ch (fun h => h) (fun h => h) (fun h => h) (fun _ _ h => h)) hg (by omega) (by omega) (by omega) (fun x hx => by have := H.out.lt x hx; omega) (by omega) hkl⟩
  have HCC := Bx.mk hcc
  rw [hs2] at HKF HSO
  clear h he hE2 hkl hfew hc1 hc2 hcc
  go_enter Tryz.func150, Tryz.ntmps150
  go_wp2_with fail
  refine HKF.out.mono ?_
  rintro e w3 ⟨rfl, rfl⟩
  clear HKF hw1 hw2
  go_wp2_with fail
  refine HSO.out.mono ?_
  rintro e w3 ⟨A1, m1, c1, rfl, hg, hnc, hcm⟩
  have HD2 := Bx.mk (HDE.out w3 A1 m1 c1 hg)
  clear HDE HSO hg hnc hcm
  go_wp2_with fail
  refine HD2.out.mono ?_
  rintro e w4 ⟨A2, m2, c2, rfl, hg, hnc, hcm⟩
  have HK2 : Bx (KeysOf (keysOf has ds gs) w (.returned (.slice A2 m2 c2)) w4) := ⟨KeysOf.after HCC.out ⟨A2, m2, c2, rfl, hg, hnc, hcm⟩⟩
  clear HD2 hg hnc hcm
  go_wp2
  go_ret
  exact HK2.out
theorem mgone_any (h : TabP w P t ds gs) : Calls Tryz.prog 88 #[.pointer (some ⟨t, 0, none⟩)] w (KeysOf gs w) := by
  have HK := Bx.mk (mkeys_any h false)
  clear h
  go_enter Tryz.func88, Tryz.ntmps88
  go_wp2_with fail
  refine HK.out.mono ?_
  rintro e w4 ⟨A2, m2, c2, rfl, hg, hnc, hcm⟩
  have HK2 : Bx (KeysOf gs w (.returned (.slice A2 m2 c2)) w4) := ⟨⟨A2, m2, c2, rfl, hg, hnc, hcm⟩⟩
  clear hg hnc hcm HK
  go_wp2
  go_ret
  exact HK2.out
end
end
section
open Go.RowKit Go.Oct Go.Su Go.Sg Go.Mt Go.Maps Go.Sort Go.Shelf
section
variable {F G : Nat → Prop} {s p : List Int} {w : World}
theorem bytesOf_inj {xs ys : List Int} (hx : ∀ x ∈ xs, 0 ≤ x ∧ x < 256) (hy : ∀ x ∈ ys, 0 ≤ x ∧ x < 256) (h : Lib.bytesOf xs = Lib.bytesOf ys) : xs = ys := by
  refine str_inj hx hy ?_
  have h1 : (strOfNums xs).data.toList = (strOfNums ys).data.toList := h
  have h2 : (strOfNums xs).data = (strOfNums ys).data := Array.toList_inj.1 h1
  cases h3 : strOfNums xs
  cases h4 : strOfNums ys
  rw [h3, h4] at h2
  simp at h2
  rw [h2]
theorem occ_iff (hs : ∀ x ∈ s, 0 ≤ x ∧ x < 256) (hp : ∀ x ∈ p, 0 ≤ x ∧ x < 256) (j : Nat) : Lib.occAt (Lib.bytesOf s) (Lib.bytesOf p) j = decide ((s.drop j).take p.length = p) := by
  have e : ((Lib.bytesOf s).drop j).take (Lib.bytesOf p).length = Lib.bytesOf ((s.drop j).take p.length) := by
    unfold Lib.bytesOf
    rw [List.map_take, List.map_drop, List.length_map]
  rw [Bool.eq_iff_iff]
  unfold Lib.occAt
  rw [List.isPrefixOf_iff_prefix, List.prefix_iff_eq_take, e, decide_eq_true_eq]
  constructor
  · intro h
    exact (bytesOf_inj hp (fun x hx => hs x (List.mem_of_mem_drop (List.mem_of_mem_take hx))) h).symm
  · intro h
    rw [h]
theorem bytesOf_len (s : List Int) : (Lib.bytesOf s).length = s.length := by unfold Lib.bytesOf; simp
theorem atTo_none {t p : List Int} {f : Nat} : ∀ m : Nat, (∀ a, f ≤ a → a < f + m → ¬ (t.drop a).take p.length = p) → atTo t p (f + m) = atTo t p f
  | 0, _ => rfl
  | m + 1, h => by
    rw [← Nat.add_assoc, atTo_no (h (f + m) (by omega) (by omega))]
    exact atTo_none m (fun a h1 h2 => h a h1 (by omega))
theorem atTo_end {t p : List Int} (h : p ≠ []) : atTo t p (t.length + 1) = ats t p := by
  have hp : 0 < p.length := List.length_pos_iff.2 h
  rw [← atTo_all h]
  by_cases hl : p.length ≤ t.length + 1
  · have := atTo_none (t := t) (p := p) (f := t.length + 1 - p.length) p.length (fun a h1 _ e => by
      have := congrArg List.length e
      rw [List.length_take, List.length_drop] at this
      omega)
    rw [← this]
    congr 1
    omega
  · have := atTo_none (t := t) (p := p) (f := 0) (t.length + 1) (fun a h1 _ e => by
      have := congrArg List.length e
      rw [List.length_take, List.length_drop] at this
      omega)
    rw [Nat.zero_add] at this
    rw [this]
    congr 1
    omega
/-- What bytes.Index tells of a text from a place on. -/
def IxOf (t p : List Int) (f : Nat) (r : Int) : Prop := (r = -1 ∧ atTo t p f = ats t p) ∨ ∃ i : Nat, r = i ∧ f + i + p.length ≤ t.length ∧ atTo t p (f + i + 1) = atTo t p f ++ [f + i]
theorem ix_of (hs : ∀ x ∈ s, 0 ≤ x ∧ x < 256) (hp : ∀ x ∈ p, 0 ≤ x ∧ x < 256) (h0 : p ≠ []) {f : Nat} (hf : f ≤ s.length) : IxOf s p f (Lib.index (Lib.bytesOf (s.drop f)) (Lib.bytesOf p)) := by
  have hd : ∀ x ∈ s.drop f, 0 ≤ x ∧ x < 256 := fun x hx => hs x (List.mem_of_mem_drop hx)
  have hl : (Lib.bytesOf (s.drop f)).length = s.length - f := by rw [bytesOf_len, List.length_drop]
  rcases Lib.index_spec (Lib.bytesOf (s.drop f)) (Lib.bytesOf p) with ⟨h1, h2⟩ | ⟨i, h1, h2, h3, h4⟩
  · refine .inl ⟨h1, ?_⟩
    rw [← atTo_end h0]
    have := atTo_none (t := s) (p := p) (f := f) (s.length + 1 - f) (fun a ha hb e => by
      have := h2 (a - f) (by rw [hl]; omega)
      rw [occ_iff hd hp, List.drop_drop, show f + (a - f) = a by omega] at this
      simp [e] at this)
    rw [← this]
    congr 1
    omega
  · rw [occ_iff hd hp, List.drop_drop, decide_eq_true_eq] at h3
    refine .inr ⟨i, h1, ?_, ?_⟩
    · have := congrArg List.length h3
      rw [List.length_take, List.length_drop] at this
      have hp0 : 0 < p.length := List.length_pos_iff.2 h0
      omega
    · rw [atTo_yes h3, atTo_none i (fun a ha hb e => by
        have := h4 (a - f) (by omega)
        rw [occ_iff hd hp, List.drop_drop, show f + (a - f) = a by omega] at this
        simp [e] at this)]
theorem mindex_any (s p : List Int) (A B : Option Addr) (n c k d : Nat) (w : World) (hz : Sl w F .u8 A n s) (hsh : Shp A c) (hq : Sl w G .u8 B k p) (hk : 0 < k) (hcap : n ≤ c) (hs : n < 4294967281) (hk2 : k ≤ 9223372036854775807)
    (hm : ∃ m, w.cell? ⟨4, 0, none⟩ = some (.int .i64 m)) (hbs : ∀ x ∈ s, 0 ≤ x ∧ x < 256) (hbp : ∀ x ∈ p, 0 ≤ x ∧ x < 256) :
    Calls Tryz.prog 426 #[.slice A n c, .slice B k d] w fun e w' => e = .returned (.int .i64 (Lib.index (Lib.bytesOf s) (Lib.bytesOf p))) ∧ ∃ q, w' = w.drewN q := by
  obtain ⟨b2, o2, x2, rfl, _, _, _⟩ := hq.at_ hk
  obtain ⟨m, hm⟩ := hm
  have hadd : ∀ b o i : Nat, (⟨b, o, none⟩ : Addr).add i = ⟨b, o + i, none⟩ := Lib.add_plain'
  rcases hsh with ⟨rfl, rfl⟩ | ⟨b1, o1, rfl⟩
  · obtain rfl : n = 0 := by omega
    obtain rfl : s = [] := List.eq_nil_of_length_eq_zero hz.len
    have hcon := Any.bytes_Index_nil (P := Tryz.prog) (ρ := Tryz.mtIndex_ren) { Tryz.mtIndex with } (some ⟨b2, o2, none⟩) k d w hk2 (fun h1 => by
      subst h1
      exact ⟨b2, o2, p.getD 0 0, rfl, sl_cells hq (i := 0) (by omega)⟩)
    have hi : Lib.index (Lib.bytesOf []) (Lib.bytesOf p) = -1 := by
      have hl := hq.len
      cases p with
      | nil => simp at hl; omega
      | cons a p => rfl
    rw [if_neg (by omega)] at hcon
    rw [hi]
    exact hcon.mono fun e w' ⟨h1, h2⟩ => ⟨h1, 0, h2⟩
  · exact Any.bytes_Index_at (P := Tryz.prog) (ρ := Tryz.mtIndex_ren) { Tryz.mtIndex with } ⟨b1, o1, none⟩ ⟨b2, o2, none⟩ n c k d s p m w hz.len hq.len hbs hbp (fun i hi => by rw [hadd]; exact sl_cells hz hi) (fun i hi => by rw [hadd]; exact sl_cells hq hi) hcap hs hk2 hm
end
end
section
open Go.RowKit Go.Oct Go.Su Go.Sg Go.Mt Go.Maps
theorem elemIm : Elem Tryz.prog 88 3 (.int .i64 0) 8 := ⟨Tryz.underlying88, by kernel_rfl, rfl⟩
section
variable {F G : Nat → Prop}
/-- What Index tells at a place of the text, wherever the slice lies. -/
def IxAt (w : World) (t p : List Int) (B : Option Addr) (m d : Nat) (A2 : Option Addr) (f n2 c2 : Nat) : Prop := ∀ w1, Ch (fun _ => False) w w1 → Calls Tryz.prog 426 #[.slice A2 n2 c2, .slice B m d] w1 fun e w' => ∃ r : Int, e = .returned (.int .i64 r) ∧ IxOf t p f r ∧ Ch (fun _ => False) w1 w'
theorem Shp.slice {A : Option Addr} {c f : Nat} (h : Shp A c) (hf : f ≤ c) : Shp (if c = f then A else A.map (·.add f)) (c - f) := by
  rcases h with ⟨rfl, rfl⟩ | ⟨b, o, rfl⟩
  · exact .inl ⟨by split <;> rfl, by omega⟩
  · split
    · exact .inr ⟨b, o, rfl⟩
    · exact .inr ⟨b, o + f, by simp [Lib.add_plain']⟩
theorem ixat {w : World} {t p : List Int} {A B : Option Addr} {n c m d : Nat} (ht : Sl w F .u8 A n t) (hsh : Shp A c) (hnc : n ≤ c) (hp : Sl w G .u8 B m p) (hbt : ∀ x ∈ t, 0 ≤ x ∧ x < 256) (hbp : ∀ x ∈ p, 0 ≤ x ∧ x < 256) (hn : n ≤ 4096) (hm : m ≤ 9223372036854775807) (h0 : 0 < m)
    (hmx : ∃ m, w.cell? ⟨4, 0, none⟩ = some (.int .i64 m)) {f : Nat} (hf : f ≤ n) : IxAt w t p B m d (if c = f then A else A.map (·.add f)) f (n - f) (c - f) := fun w1 hc => by
  have hl := ht.len
  obtain ⟨mx, hmx⟩ := hmx
  have h1 : Sl w1 F .u8 (if c = f then A else A.map (·.add f)) (n - f) (t.drop f) := by
    split
    · have e : n - f = 0 := by omega
      rw [e, List.drop_of_length_le (by omega)]
      exact Sl.nil _ _ _ _
    · rcases hsh with ⟨rfl, rfl⟩ | ⟨b, o, rfl⟩
      · omega
      · have := (ht.ch hc (fun _ _ _ h => h)).drop (k := f) hf
        simpa [Lib.add_plain'] using this
  refine (mindex_any (t.drop f) p _ B (n - f) (c - f) m d w1 h1 (hsh.slice (by omega)) (hp.ch hc (fun _ _ _ h => h)) h0 (by omega) (by omega) hm ⟨mx, hc.cell (p := ⟨4, 0, none⟩) (fun h => h) hmx⟩ (fun x hx => hbt x (List.mem_of_mem_drop hx)) hbp).mono ?_
  rintro e w' ⟨rfl, q, rfl⟩
  exact ⟨_, rfl, ix_of hbt hbp (fun e => by have := hp.len; rw [e] at this; simp at this; omega) (by omega), (Ch.refl _ _).drewN q⟩
set_option maxRecDepth 100000 in
set_option maxHeartbeats 2000000 in
theorem mplaces_any (t p : List Int) (A B : Option Addr) (n c m d : Nat) (w : World) (ht : Sl w F .u8 A n t) (hsh : Shp A c) (hnc : n ≤ c) (hcm : c ≤ maxLen) (hp : Sl w G .u8 B m p) (hbt : ∀ x ∈ t, 0 ≤ x ∧ x < 256) (hbp : ∀ x ∈ p, 0 ≤ x ∧ x < 256) (hn : n ≤ 4096) (hm : m ≤ 9223372036854775807)
    (hmx : ∃ m, w.cell? ⟨4, 0, none⟩ = some (.int .i64 m)) :
    Calls Tryz.prog 425 #[.slice A n c, .slice B m d] w (NewNats (ats t p) w) := by
  have HLT := Bx.mk ht.len
  have HLM := Bx.mk hp.len
  have hc63 : c ≤ 9223372036854775807 := by unfold maxLen at hcm; omega
  by_cases h0 : m = 0
  · have HE : Bx (ats t p = []) := ⟨by
      unfold ats
      rw [if_pos (List.eq_nil_of_length_eq_zero (by rw [HLM.out]; exact h0))]⟩
    subst h0
    clear ht hsh hp hbt hbp hmx
    go_enter Tryz.func425, Tryz.ntmps425
    go_wp2
    go_ret
    exact ⟨_, rfl, by rw [HE.out]; exact Gs.nil _ _ _⟩
  · have HIX : Bx (∀ f, f ≤ n → IxAt w t p B m d (if c = f then A else A.map (·.add f)) f (n - f) (c - f)) := ⟨fun f hf => ixat ht hsh hnc hp hbt hbp hn hm (by omega) hmx hf⟩
    have d0 : decide ((m : Int) = 0) = false := decide_eq_false (by omega)
    have d1 : ((m : Int) == 0) = false := by rw [beq_eq_false_iff_ne]; omega
    clear ht hp hbt hbp hmx hcm
    have HSH := Bx.mk hsh
    clear hsh
    go_enter Tryz.func425, Tryz.ntmps425
    go_wp2_with fail
    go_loopw [5, 6] (fun v i wr => ∃ f : Nat, f ≤ n ∧ i = .int .i64 f ∧ Gs 3 1 w wr v (atTo t p f).length (valN (atTo t p f))) (fun _ i _ => n - (intOf i).toNat)
    case atStart => exact ⟨0, Nat.zero_le _, rfl, Gs.nil _ _ _⟩
    case round =>
      obtain ⟨f, hf, rfl, hG⟩ := hrel
      have hle := atTo_le t p f
      obtain ⟨q, hq⟩ : ∃ q, (atTo t p f).length = q := ⟨_, rfl⟩
      rw [hq] at hle hG
      obtain ⟨A1, c1, rfl, _, _⟩ := hG.shape
      have HG := Bx.mk hG
      have HQ := Bx.mk hq
      have HI := Bx.mk (HIX.out f hf)
      clear hG hq
      obtain ⟨A2, hA2⟩ : ∃ A2, (if c = f then A else A.map (·.add f)) = A2 := ⟨_, rfl⟩
      obtain ⟨n2, hn2⟩ : ∃ n2, n - f = n2 := ⟨_, rfl⟩
      obtain ⟨c2, hc2⟩ : ∃ c2, c - f = c2 := ⟨_, rfl⟩
      have hA3 : (if c = f then A else A.map (·.add (f * 1))) = A2 := by rw [Nat.mul_one]; exact hA2
      rw [hA2, hn2, hc2] at HI
      go_wp2_with fail
      refine (HI.out wr HG.out.ch).mono ?_
      rintro e w1 ⟨r, rfl, hx, hcx⟩
      have HG1 := Bx.mk (HG.out.keep hcx)
      clear hA2 hn2 hc2 hA3 HI hcx
      rcases hx with ⟨rfl, he⟩ | ⟨i, rfl, hroom, hnext⟩
      · have HE := Bx.mk he
        clear he
        go_wp2
        go_ret
        exact ⟨_, rfl, by rw [← HE.out, HQ.out]; exact HG1.out⟩
      · have HNX := Bx.mk hnext
        have hfi : f + i < n := by have := HLT.out; have := HLM.out; omega
        have di : decide ((i : Int) < 0) = false := decide_eq_false (by omega)
        obtain ⟨g, hg⟩ : ∃ g, f + i = g := ⟨_, rfl⟩
        have hgI : IntKind.i64.wrap ((f : Int) + (i : Int)) = (g : Int) := by rw [← hg]; exact (IntWalk.i64_in _ (by omega)).trans (by omega)
        rw [hg] at HNX hfi
        have HFG : Bx (f ≤ g) := ⟨by omega⟩
        clear hnext hroom hg
        go_wp2_with (at_builtin; refine wp_app rfl (.tmp 24) (.tmp 26) elemIm rfl rfl (HG1.out.own.alloc _) rfl (Vs.one _ _ _) ?c1 ?c2 ?c3 ?_)
        case c1 => intro u hu; simp at hu; subst hu; rfl
        case c2 => omega
        case c3 => omega
        intro v5 w5 ho1 hg1 hb1
        have HG5 := Bx.mk (HG1.out.app ((Ch.refl (fun _ => False) w1).alloc _) ho1 hg1 (by rw [World.size_alloc]; exact hb1))
        clear ho1 hg1 hb1 hgI
        go_wp2
        go_roundw
        case rel =>
          refine ⟨g + 1, by omega, by go_num, ?_⟩
          have := HG5.out
          rw [HNX.out, List.length_append, HQ.out]
          unfold valN at *
          rw [List.map_append]
          exact this
        case measure =>
          have := HFG.out
          simp [intOf]
          omega
end
end
end Go.Proofs.YtbkakhfepiooaaaGreatDoor.M
