/-
  Contracts of the program's table: keys, Gone.
  Conditions: the table is one.
-/
import Derived.Test.YtpilekadcondnaaMtKeys
namespace Go.Proofs.Ytpilekadcondnaa
open Go.RowKit Go.Oct Go.Su Go.Sg Go.Mt Go.Maps Go.Sort Go.Shelf

section
variable {w w1 w2 w' W W' : World} {P S F FA : Nat → Prop} {t bp bb : Nat} {mb : Option Nat} {ks gs gs' : List Key} {vf : Key → Value} {ds ds' : List Dc} {k : Key} {v : Value} {has : Bool}
theorem mtSorts (m : Nat) : AnyZ.SortsIn Try.prog Try.mtSorted_ren Fence.wide m :=
  ⟨fun blk off cap ss W hH hblk hsz => callsIn_wide.2 (AnyM.slices_Sort_string Try.mtSort blk off cap ss W hH hblk hsz),
   fun p cap W => callsIn_wide.2 (AnyM.slices_Sort_string_none Try.mtSort p cap W)⟩
theorem mkeysf_any (mb : Option Nat) (W : World) : Calls Try.prog 40 #[.map mb] W fun e w' => e = .returned (.func (.func 45) #[] #[.pointer (some ⟨W.heap.size, 0, none⟩)]) ∧ w' = W.alloc (.cells #[.map mb] 64) :=
  callsIn_wide.1 (AnyZ.keys_in Try.mtKeys Fence.wide 5 trivial rfl mb W)
theorem mmerge_uniq {ss l : List Key} (hp : ss.Perm l) (hl : RiseF id l) : ss.mergeSort (fun x y => decide (x ≤ y)) = l := by
  refine srt_uniq ?_ (Rise.srt hl) ((List.mergeSort_perm _ _).trans hp)
  have h := List.pairwise_mergeSort (le := fun x y : Key => decide (x ≤ y)) (fun a b c h1 h2 => by
    simp only [decide_eq_true_eq] at *
    exact List.le_trans h1 h2) (fun a b => by
    simp only [Bool.or_eq_true, decide_eq_true_eq]
    exact List.le_total a b) ss
  exact h.imp fun {a b} hab => by
    simp only [decide_eq_true_eq] at hab
    exact List.not_lt.2 hab
/-- A new row of keys. -/
def KeysOf (l : List Key) (w : World) (e : Ending) (w' : World) : Prop := ∃ A n c, e = .returned (.slice A n c) ∧ Gs 9 1 w w' (.slice A n c) n (l.map kv) ∧ n ≤ c ∧ c ≤ maxLen
set_option maxHeartbeats 2000000 in
theorem msorted_any (he : Ents w P t mb ks vf ds gs) (hfew : ks.length ≤ 1000000) : Calls Try.prog 39 #[.func (.func 45) #[] #[.pointer (some ⟨w.heap.size, 0, none⟩)]] (w.alloc (.cells #[.map mb] 64)) (KeysOf ks w) := by
  have hok : ∀ {v : Value} {ss : List (List UInt8)} {w' : World}, ss.Perm ks → w'.ownsRow (w.alloc (.cells #[.map mb] 64)).heap.size 9 1 v ss.length ((ss.mergeSort (fun x y => decide (x ≤ y))).map encStr) → Below (w.alloc (.cells #[.map mb] 64)).heap.size (w.alloc (.cells #[.map mb] 64)) w' → KeysOf ks w (.returned v) w' := by
    intro v ss w' hp ho hb
    rw [mmerge_uniq hp he.rise] at ho
    have hl : ss.length = ks.length := hp.length_eq
    have hch : Ch (fun _ => False) w w' := ((Ch.refl (fun _ => False) w).alloc _).trans (Ch.of_below hb (fun k h1 h2 => absurd h2 (by omega))) (fun _ _ h => h)
    obtain ⟨A, c, rfl, h1, h2⟩ := own_shape ho
    exact ⟨A, ss.length, c, rfl, ⟨⟨ho.1, ho.2.imp id (fun ⟨g, cap, cur, e, _, r⟩ => ⟨g, cap, cur, e, Nat.zero_le _, r⟩)⟩, fun q hq => by have := (ho.lt q hq).1; rw [World.size_alloc] at this; omega, hch⟩, h1, h2⟩
  cases mb with
  | none =>
    have hseq : SeqGives Fence.wide 2 Try.prog 45 #[.pointer (some ⟨w.heap.size, 0, none⟩)] encStr (fun ss : List (List UInt8) => ss = []) 0 (w.alloc (.cells #[.map none] 64)) :=
      AnyZ.keys_gives_nil (ρ := Try.mtKeys_ren) { Try.mtKeys with } Fence.wide _ trivial rfl w.heap.size _ (by simp) (by simp)
    refine (callsIn_wide.1 (AnyZ.sorted_in Try.mtSorted Fence.wide 5 trivial trivial trivial trivial rfl (by omega) (mtSorts _) (enters_of Try.func44 (by kernel_rfl) rfl) 45 #[.pointer (some ⟨w.heap.size, 0, none⟩)] trivial (enters_of Try.func45 (by kernel_rfl) rfl) _ 0 (Nat.zero_le _) (by omega) _ hseq)).mono ?_
    rintro e w' ⟨v, ss, rfl, rfl, ho, _, hb⟩
    exact hok (by rw [he.none_ rfl]) ho hb
  | some b =>
    have hown := (he.some_ b rfl).2.2
    have hbl := hown.lt
    have hsz : Maps.size (mapK ks vf) = ks.length := size_mapK _ _
    have hseq : SeqGives Fence.wide 2 Try.prog 45 #[.pointer (some ⟨w.heap.size, 0, none⟩)] encStr (fun ss => ss.Perm (strKeys (mapK ks vf))) (Maps.size (mapK ks vf)) (w.alloc (.cells #[.map (some b)] 64)) :=
      AnyZ.keys_gives (ρ := Try.mtKeys_ren) { Try.mtKeys with } Fence.wide _ trivial rfl (by omega) w.heap.size b ks.length (mapK ks vf) _ (by simp) (by simp) (by
        obtain ⟨es, clock, hb, Ft, hs, hD⟩ := hown
        exact ⟨es, clock, (Below.heap_alloc _ _ b hbl).trans hb, Ft, hs, hD⟩)
    refine (callsIn_wide.1 (AnyZ.sorted_in Try.mtSorted Fence.wide 5 trivial trivial trivial trivial rfl (by omega) (mtSorts _) (enters_of Try.func44 (by kernel_rfl) rfl) 45 #[.pointer (some ⟨w.heap.size, 0, none⟩)] trivial (enters_of Try.func45 (by kernel_rfl) rfl) _ _ (by rw [hsz]; unfold maxLen; omega) (by rw [hsz]; omega) _ hseq)).mono ?_
    rintro e w' ⟨v, ss, rfl, hS, ho, _, hb⟩
    exact hok (by rw [← strKeys_mapK ks vf]; exact hS) ho hb
/-- Keys that can be looked up. -/
abbrev LK := { k : Key // k.length ≤ maxLen }
instance : Inhabited LK := ⟨⟨[], Nat.zero_le _⟩⟩
def encK (k : LK) : Value := kv k.1
theorem lk_of {l : List Key} (h : ∀ k ∈ l, k.length ≤ maxLen) : ∃ la : List LK, la.map (·.1) = l := by
  induction l with
  | nil => exact ⟨[], rfl⟩
  | cons a l ih =>
    obtain ⟨la, e⟩ := ih (fun k hk => h k (List.mem_cons_of_mem _ hk))
    exact ⟨⟨a, h a (by simp)⟩ :: la, by simp [e]⟩
theorem mch_putRow {α : Type} [Inhabited α] (enc : α → Value) (w : World) (q blk off : Nat) (d : Array α) : Ch (fun k => k = blk) w (putRow enc (Sort.ahead w q) blk off d) :=
  ⟨rfl, rfl, rfl, by simp [putRow, mapBlock, Sort.ahead], fun k _ hS => by
    have h : ¬ blk = k := fun e => hS e.symm
    simp [putRow, mapBlock, Sort.ahead, Array.getElem?_modify, h]⟩
theorem mch_grow (w : World) (os : Array Obj) : Ch (fun _ => False) w (grow w os) :=
  ⟨rfl, rfl, rfl, by show w.heap.size ≤ (w.heap ++ os).size; rw [Array.size_append]; omega, fun k hk _ => Sort.heap_grow_old w os hk⟩
theorem midx0_any (fv : Value) (w : World) : Calls Try.prog 42 #[.slice none 0 0, fv] w fun e w' => e = .returned (.int .i64 (-1)) ∧ w = w' := by
  go_enter Try.func42, Try.ntmps42
  go_wp2_with fail
  go_loop [5, 8] (fun _ i => i = .int .i64 0) (fun _ _ => 0)
  case atStart => rfl
  case round =>
    obtain rfl := hrel
    go_wp2
    go_ret
    exact ⟨rfl, rfl⟩
theorem mdel0_any (fv : Value) (w : World) : Calls Try.prog 38 #[.slice none 0 0, fv] w fun e w' => e = .returned (.slice none 0 0) ∧ w = w' := by
  have HI := Bx.mk (midx0_any fv w)
  go_enter Try.func38, Try.ntmps38
  go_wp2_with fail
  refine HI.out.mono ?_
  rintro e w1 ⟨rfl, rfl⟩
  go_wp2
  go_ret
  exact ⟨rfl, rfl⟩
set_option maxRecDepth 100000 in
theorem mdelf_any {l : List Key} {W0 W : World} {A1 : Option Addr} {m c1 : Nat} (h : KC W P bp bb t has mb ks vf ds gs) (hg : Gs 9 1 W0 W (.slice A1 m c1) m (l.map kv))
    (hbp : bp < W0.heap.size) (hbb : bb < W0.heap.size) (htl : t < W0.heap.size) (hP : ∀ x, P x → x < W0.heap.size) (hm : m ≤ 1000000) (hl : ∀ k ∈ l, k.length ≤ maxLen) :
    Calls Try.prog 38 #[.slice A1 m c1, .func (.func 37) #[] #[.pointer (some ⟨bp, 0, none⟩), .pointer (some ⟨bb, 0, none⟩)]] W (KeysOf (l.filter fun k => !(isDoc ds k != has)) W0) := by
  by_cases hv : Value.slice A1 m c1 = .slice none 0 0
  · injection hv with e1 e2 e3
    subst e1; subst e2; subst e3
    have hl : l = [] := List.eq_nil_of_length_eq_zero (by simpa using hg.own.1)
    subst hl
    refine (mdel0_any _ W).mono ?_
    rintro e w' ⟨rfl, rfl⟩
    exact ⟨none, 0, 0, rfl, hg, Nat.le_refl _, Nat.zero_le _⟩
  · obtain ⟨la, rfl⟩ := lk_of hl
    have hmap : (la.map (·.1)).map kv = la.map encK := by rw [List.map_map]; rfl
    rw [hmap] at hg
    obtain ⟨b, cap, e1, _, hlt, hle, hcm, hlen, hH⟩ := Lib.holds_of_ownsRow (enc := encK) (zs := la) hg.own hv
    injection e1 with e1 _ e3
    subst e1; subst e3
    have hb0 : W0.heap.size ≤ b := hg.lies b rfl
    have hst : ∀ W', Ch (fun k => k = b) W W' → KC W' P bp bb t has mb ks vf ds gs := fun W' hc => h.ch hc (by omega) (by omega) (by omega) (fun k hk e => by have := hP k hk; omega)
    have eg : ∀ args w, (callFunc 37 args).run Try.prog w = .ok (.enter 37 args) w := enters_of Try.func37 (by kernel_rfl) rfl
    have hp : PredAt Try.prog 37 #[.pointer (some ⟨bp, 0, none⟩), .pointer (some ⟨bb, 0, none⟩)] encK (fun k => isDoc ds k.1 != has) W := fun W' x hb =>
      others_any (hst W' (Ch.of_below hb (fun k h1 h2 => absurd h2 (by omega)))) x.1 x.2
    have hpo : PredOver Try.prog 37 #[.pointer (some ⟨bp, 0, none⟩), .pointer (some ⟨bb, 0, none⟩)] encK (fun k => isDoc ds k.1 != has) b 0 la.toArray.size W := fun q os dk x _ =>
      others_any (hst _ ((mch_putRow encK W q b 0 dk).trans (mch_grow _ os) (fun _ _ h => h.elim))) x.1 x.2
    have hcon := AnyE.slices_DeleteFunc Try.mtDel encK (fun _ => rfl) (fun k => isDoc ds k.1 != has) 37 #[.pointer (some ⟨bp, 0, none⟩), .pointer (some ⟨bb, 0, none⟩)] eg ⟨[], Nat.zero_le _⟩ Try.zeroValue9 b 0 c1 la.toArray W hp hpo hH (by simp; omega) (by simp; omega)
    have hfl : ((la.map (·.1)).filter fun k => !(isDoc ds k != has)).map kv = (la.toArray.toList.filter fun x => !(fun k : LK => isDoc ds k.1 != has) x).map encK := by
      rw [List.filter_map, List.map_map]
      rfl
    unfold KeysOf
    rw [hfl]
    generalize hR : (la.toArray.toList.filter fun x => !(fun k : LK => isDoc ds k.1 != has) x) = R at *
    have hgl : R.length ≤ m := by
      rw [← hlen, ← hR]
      exact List.length_filter_le _ _
    have hsz : la.toArray.size = m := by simpa using hlen
    rw [hsz] at hcon
    refine hcon.mono ?_
    rintro e w' ⟨rfl, q, rfl⟩
    refine ⟨_, _, _, rfl, ⟨?_, fun k hk => by
      have hk : b = k := by simpa [Value.ownBlock] using hk
      omega, hg.ch.trans (mch_putRow encK W q b 0 _) (fun k hk e => by omega)⟩, by omega, hcm⟩
    have ho := Lib.ownsRow_putRow (enc := encK) (q := q) (k := R.length) (ys := R ++ List.replicate (m - R.length) ⟨[], Nat.zero_le _⟩) hg.own (by simp; omega) hgl
    rw [List.take_left] at ho
    exact ho
end
end Go.Proofs.Ytpilekadcondnaa
