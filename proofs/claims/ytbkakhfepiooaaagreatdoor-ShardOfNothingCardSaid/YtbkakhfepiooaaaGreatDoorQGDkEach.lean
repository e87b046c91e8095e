/- Lemmas and contracts of this proof. Conditions: said at each. -/
import Derived.Test.YtbkakhfepiooaaaGreatDoorQGDkCut
import Derived.Lib.SliceRun
namespace Go.Proofs.YtbkakhfepiooaaaGreatDoor.D
section
open Go.RowKit Go.Oct Go.Su Go.Dk Go.Maps
/-- One behind the other, up to the first that errs. -/
def opEach (f : Ds → Key → Nat × Ds) : Ds → List Key → Nat × Ds
  | s, [] => (0, s)
  | s, k :: l => if (f s k).1 ≠ 0 then f s k else opEach f (f s k).2 l
theorem opEach_one (f : Ds → Key → Nat × Ds) (s : Ds) (k : Key) : opEach f s [k] = f s k := by
  unfold opEach
  split
  · rfl
  · rename_i h
    unfold opEach
    have : (f s k).1 = 0 := by omega
    rw [← this]
theorem run_func (P : Program) (fn : Fn) (first cap : Array Value) (w : World) : (Instr.makeFunc fn first cap).run P w = .ok (.func fn first cap) w := rfl
section
variable {w w' : World} {g g' : Nat → Tg} {d : Nat} {mb : Option Nat} {ad : Key → Nat} {s s' : Ds} {F S : Nat → Prop} {x y : Fl} {k : Key}
set_option maxRecDepth 100000 in
set_option maxHeartbeats 4000000 in
theorem each_any {fc : FuncId} (op : Ds → Key → Nat × Ds) (eg : ∀ args w, (callFunc fc args).run Tryz.prog w = .ok (.enter fc args) w)
    (hone : ∀ (w : World) (g : Nat → Tg) (mb : Option Nat) (ad : Key → Nat) (s : Ds) (k : Key), Dsk w g d mb ad s → k.length ≤ 9223372036854775807 → Calls Tryz.prog fc #[pv d, kv k] w (Post (op s k) d w g))
    {A : Option Addr} {n c : Nat} {l : List Key} (h : Dsk w g d mb ad s) (hz : Kss w F A n l) (hF : ∀ b, F b → g b = .no) (hn : n ≤ 1048576) (hk : ∀ k ∈ l, k.length ≤ 9223372036854775807) :
    Calls Tryz.prog 118 #[pv d, .func (.func fc) #[pv d] #[], .slice A n c] w (Post (opEach op s l) d w g) := by
  have hp : pv d = .pointer (some ⟨d, 0, none⟩) := rfl
  have H := Bx.mk h
  have HZ := Bx.mk hz
  have HL := Bx.mk hz.len
  have HK := Bx.mk hk
  have HF := Bx.mk hF
  have HO := Bx.mk hone
  rw [hp] at HO ⊢
  clear h hz hk hF hone hp
  go_enter Tryz.func118, Tryz.ntmps118
  go_wp2_with fail
  go_loopw [8, 9, 14] (fun _ _ i wr => ∃ (k : Nat) (g' : Nat → Tg) (mb' : Option Nat) (ad' : Key → Nat) (s' : Ds), k ≤ n ∧ i = .int .i64 k ∧ Bx (Dsk wr g' d mb' ad' s' ∧ Dgo w g wr g' ∧ opEach op s l = opEach op s' (l.drop k))) (fun _ _ i _ => n - (intOf i).toNat)
  case atStart => exact ⟨0, g, mb, ad, s, Nat.zero_le _, rfl, ⟨H.out, Dgo.refl _ _, rfl⟩⟩
  case round =>
    obtain ⟨k, g', mb', ad', s', hk, rfl, hR⟩ := hrel
    by_cases hlt : k < n
    · have dk : decide ((k : Int) < (n : Int)) = true := decide_eq_true (by omega)
      have hz := HZ.out.ch hR.out.2.1.ch (fun b hb _ hs => hs (HF.out b hb))
      obtain ⟨bt, ot, t, rfl, _, ht, hcell⟩ := hz.at_ hlt
      have HTX := Bx.mk ht.out
      have HLN := HK.out t (List.mem_of_getElem? ht.out)
      have i2 : (k : Int) < (n : Int) := by omega
      have HC := Bx.mk (HO.out wr g' mb' ad' s' t hR.out.1 HLN)
      obtain ⟨m, hm⟩ : ∃ m, (op s' t).1 = m := ⟨_, rfl⟩
      have HE : Bx (opEach op s (l) = if m ≠ 0 then op s' t else opEach op (op s' t).2 (l.drop (k + 1))) := ⟨by
        rw [hR.out.2.2, List.drop_eq_getElem_cons (by rw [HL.out]; exact hlt)]
        have : l[k]'(by rw [HL.out]; exact hlt) = t := by
          have := HTX.out
          rw [List.getElem?_eq_getElem (by rw [HL.out]; exact hlt)] at this
          injection this
        rw [this]
        show (if (op s' t).1 ≠ 0 then op s' t else opEach op (op s' t).2 (l.drop (k + 1))) = _
        rw [hm]⟩
      have HM := Bx.mk hm
      obtain ⟨tv, htv⟩ : ∃ S, kv t = .string S := ⟨_, rfl⟩
      rw [htv] at hcell HC
      clear ht hz HLN hm htv
      obtain ⟨wo, rfl⟩ : ∃ wo, wo = wr := ⟨_, rfl⟩
      by_cases h0 : m = 0
      · subst h0
        clear HO
        go_wp2_with fail
        refine HC.out.mono ?_
        rintro e w1 ⟨rfl, g1, mb1, ad1, hd1, hg1⟩
        have hm0 : ((op s' t).1 : Int) = 0 := by rw [HM.out]; rfl
        have H1 : Bx (Dsk w1 g1 d mb1 ad1 (op s' t).2 ∧ Dgo w g w1 g1 ∧ opEach op s l = opEach op (op s' t).2 (l.drop (k + 1))) := ⟨hd1, hR.out.2.1.trans hg1, by rw [HE.out, if_neg (by simp)]⟩
        clear hd1 hg1 hR HC
        go_wp2
        go_roundw
        case rel => exact ⟨k + 1, g1, mb1, ad1, (op s' t).2, by omega, by go_num, H1⟩
        case measure => simp [intOf]; omega
      · clear HO
        go_wp2_with fail
        refine HC.out.mono ?_
        rintro e w1 ⟨rfl, g1, mb1, ad1, hd1, hg1⟩
        have hm0 : ¬ ((op s' t).1 : Int) = 0 := by rw [HM.out]; omega
        have H1 : Bx (Dsk w1 g1 d mb1 ad1 (op s' t).2 ∧ Dgo w g w1 g1 ∧ opEach op s l = op s' t) := ⟨hd1, hR.out.2.1.trans hg1, by rw [HE.out, if_pos h0]⟩
        clear hd1 hg1 hR HC
        go_wp2
        go_ret
        refine ⟨by rw [H1.out.2.2]; rfl, g1, mb1, ad1, by rw [H1.out.2.2]; exact H1.out.1, H1.out.2.1⟩
    · obtain rfl : n = k := by omega
      have dk : decide ((n : Int) < (n : Int)) = false := decide_eq_false (by omega)
      have HE : Bx (opEach op s l = (0, s')) := ⟨by rw [hR.out.2.2, List.drop_of_length_le (by rw [HL.out]; exact Nat.le_refl _)]; rfl⟩
      clear HO
      go_wp2
      go_ret
      exact ⟨by rw [HE.out]; rfl, g', mb', ad', by rw [HE.out]; exact hR.out.1, hR.out.2.1⟩
set_option maxHeartbeats 2000000 in
theorem synced_any {A : Option Addr} {n c : Nat} {l : List Key} (h : Dsk w g d mb ad s) (hz : Kss w F A n l) (hF : ∀ b, F b → g b = .no) (hn : n ≤ 1048576) (hk : ∀ k ∈ l, k.length ≤ 9223372036854775807) :
    Calls Tryz.prog 212 #[pv d, .slice A n c] w (Post (opEach opSync s l) d w g) := by
  have eg : ∀ args w, (callFunc 269 args).run Tryz.prog w = .ok (.enter 269 args) w := enters_of Tryz.func269 (by kernel_rfl) rfl
  have HC := Bx.mk (each_any (c := c) opSync eg (fun w g mb ad s k h hk => sync_any h hk) h hz hF hn hk)
  have hmf := @run_func Tryz.prog
  have hp : pv d = .pointer (some ⟨d, 0, none⟩) := rfl
  rw [hp] at HC ⊢
  clear h hz hF hk hp eg
  go_enter Tryz.func212, Tryz.ntmps212
  go_wp2_with fail
  refine HC.out.mono ?_
  rintro e w1 ⟨rfl, hr⟩
  go_wp2
  go_ret
  exact ⟨rfl, hr⟩
set_option maxHeartbeats 2000000 in
theorem removed_any {A : Option Addr} {n c : Nat} {l : List Key} (h : Dsk w g d mb ad s) (hz : Kss w F A n l) (hF : ∀ b, F b → g b = .no) (hn : n ≤ 1048576) (hk : ∀ k ∈ l, k.length ≤ 9223372036854775807) :
    Calls Tryz.prog 66 #[pv d, .slice A n c] w (Post (opEach opRem s l) d w g) := by
  have eg : ∀ args w, (callFunc 119 args).run Tryz.prog w = .ok (.enter 119 args) w := enters_of Tryz.func119 (by kernel_rfl) rfl
  have HC := Bx.mk (each_any (c := c) opRem eg (fun w g mb ad s k h hk => remove_any h hk) h hz hF hn hk)
  have hmf := @run_func Tryz.prog
  have hp : pv d = .pointer (some ⟨d, 0, none⟩) := rfl
  rw [hp] at HC ⊢
  clear h hz hF hk hp eg
  go_enter Tryz.func66, Tryz.ntmps66
  go_wp2_with fail
  refine HC.out.mono ?_
  rintro e w1 ⟨rfl, hr⟩
  go_wp2
  go_ret
  exact ⟨rfl, hr⟩
end
end
section
open Go.RowKit Go.Oct Go.Su Go.Dk Go.Maps
section
variable {w w' : World} {g g' : Nat → Tg} {d : Nat} {mb : Option Nat} {ad : Key → Nat} {s s' : Ds} {F S : Nat → Prop} {x y : Fl} {k : Key}
theorem own_b0 (w : World) : (w.alloc (.cells #[] 5)).ownsRow 0 5 1 (.slice (some ⟨w.heap.size, 0, none⟩) 0 0) 0 [] := World.ownsRow_made w #[] 0 (Nat.zero_le _) (by unfold maxLen; omega) rfl
set_option maxRecDepth 100000 in
theorem cloneb_any (xs : List Int) (A : Option Addr) (n c : Nat) (w : World) (hz : Sl w F .u8 A n xs) (hn : n ≤ 1073741824) :
    Calls Tryz.prog 171 #[.slice A n c] w fun e w' => ∃ v, e = .returned v ∧ Fresh w v xs w' := by
  have q22 : ∀ (w : World) (a : Option Addr) (n c n' c' : Nat), (binOp .eql 22 (.slice a n c) (.slice none n' c')).run Tryz.prog w = .ok (.bool a.isNone) w := fun w a n c n' c' => Lib.run_eql_slice_nil w _ _ a n c n' c' Tryz.underlying22
  have HZ := Bx.mk hz
  have HL := Bx.mk hz.len
  rcases A with _ | p
  · have h0 : n = 0 := by
      rcases Nat.eq_zero_or_pos n with h | h
      · exact h
      · obtain ⟨_, _, e, _⟩ := hz.2 h
        cases e
    subst h0
    obtain rfl : xs = [] := List.eq_nil_of_length_eq_zero hz.len
    clear hz HZ
    go_enter Tryz.func171, Tryz.ntmps171
    go_wp2
    go_ret
    exact ⟨_, rfl, World.ownsRow_nil _ _ _ _, fun g hg => by simp [Value.ownBlock] at hg, Ch.refl _ _⟩
  · have HF : Bx (Fresh w (.slice (some ⟨w.heap.size, 0, none⟩) 0 0) [] (w.alloc (.cells #[] 5))) := ⟨own_b0 w, fun g hg => by simp [Value.ownBlock] at hg; omega, (Ch.refl _ _).alloc _⟩
    have HO := Bx.mk (own_b0 w)
    have HZA := Bx.mk (HZ.out.alloc (.cells #[] 5))
    clear hz
    go_enter Tryz.func171, Tryz.ntmps171
    go_wp2_with (at_builtin; refine wp_app rfl (.tmp 5) (.tmp 6) Tb rfl rfl HO.out rfl HZA.out ?c1 ?c2 ?c3 ?_)
    case c1 => exact ints_cells _ _
    case c2 => omega
    case c3 => omega
    intro v5 w5 ho hg hb
    have HF5 := Bx.mk (HF.out.app (m := n) (zs := xs) hg (by simpa using ho) (by rw [World.size_alloc]; exact hb))
    clear ho hg hb
    go_wp2
    go_ret
    exact ⟨v5, rfl, HF5.out⟩
/-- What New leaves. -/
def NewOf (room : Int) (w : World) (e : Ending) (w' : World) : Prop :=
  ((room < 0 ∨ 1073741824 < room) ∧ e = .returned (.tuple #[.pointer none, .int .i64 1]) ∧ Ch (fun _ => False) w w') ∨
  (0 ≤ room ∧ room ≤ 1073741824 ∧ ∃ S, e = .returned (.tuple #[pv w.heap.size, .int .i64 0]) ∧ Pd w' S w.heap.size ⟨room.toNat, [], none⟩ ∧ (∀ b, S b → w.heap.size ≤ b) ∧ Ch (fun _ => False) w w')
theorem fresh_disk (w : World) (n : Nat) (hn : n ≤ 1073741824) : Dsk (w.alloc (.cells #[.map none, .int .i64 (n : Int), .int .i64 0, .bool false, .int .i64 0] 87)) (fun b => if b = w.heap.size then .dk else .no) w.heap.size none (fun _ => 0) ⟨n, [], none⟩ := by
  have hb : (w.alloc (.cells #[.map none, .int .i64 (n : Int), .int .i64 0, .bool false, .int .i64 0] 87)).heap[w.heap.size]? = some (.cells #[.map none, .int .i64 (n : Int), .int .i64 0, .bool false, .int .i64 0] 87) := heap_alloc_new w _
  have hc : ∀ j u, #[Value.map none, .int .i64 (n : Int), .int .i64 0, .bool false, .int .i64 0][j]? = some u → (w.alloc (.cells #[.map none, .int .i64 (n : Int), .int .i64 0, .bool false, .int .i64 0] 87)).cell? ⟨w.heap.size, j, none⟩ = some u := fun j u hu => by
    unfold World.cell?
    rw [hb]
    exact hu
  refine ⟨⟨Fine.nil, Nat.zero_le _, hn, Nat.zero_le _⟩, fun b hb => ?_, if_pos rfl, fun j => ?_, hc 0 _ rfl, hc 1 _ rfl, hc 2 _ rfl, ⟨false, 0, hc 3 _ rfl, hc 4 _ rfl, rfl⟩, fun _ => rfl, fun b hb => (by cases hb), fun x hx => (by simp at hx)⟩
  · rw [World.size_alloc]
    by_cases h : b = w.heap.size
    · omega
    · simp [h] at hb
  · unfold World.frozen?
    rw [hb]
    simp
set_option maxRecDepth 100000 in
theorem new_any (room : Int) (w : World) (hr : -9223372036854775808 ≤ room ∧ room ≤ 9223372036854775807) : Calls Tryz.prog 10 #[.int .i64 room] w (NewOf room w) := by
  by_cases h0 : room < 0
  · have HA : Bx (room < 0 ∨ 1073741824 < room) := ⟨.inl h0⟩
    clear hr
    go_enter Tryz.func10, Tryz.ntmps10
    go_wp2
    go_ret2
    exact .inl ⟨HA.out, rfl, Ch.refl _ _⟩
  · by_cases h1 : 1073741824 < room
    · have HA : Bx (room < 0 ∨ 1073741824 < room) := ⟨.inr h1⟩
      clear hr
      go_enter Tryz.func10, Tryz.ntmps10
      go_wp2
      go_ret2
      exact .inl ⟨HA.out, rfl, Ch.refl _ _⟩
    · obtain ⟨n, rfl⟩ : ∃ n : Nat, room = (n : Int) := ⟨room.toNat, by omega⟩
      have HF := Bx.mk (fresh_disk w n (by omega))
      have HN : Bx (0 ≤ (n : Int) ∧ (n : Int) ≤ 1073741824) := ⟨by omega⟩
      clear hr
      go_enter Tryz.func10, Tryz.ntmps10
      go_wp2
      go_ret2
      refine .inr ⟨HN.out.1, HN.out.2, _, rfl, HF.out.pd, fun b hb => ?_, (Ch.refl _ _).alloc _⟩
      by_cases h : b = w.heap.size
      · omega
      · exact absurd (if_neg h) hb
/-- The fuse is laid. -/
theorem Dsk.fused (h : Dsk w g d mb ad s) (n : Int) (hn : n ≤ 9223372036854775807) : Dsk ((w.setCell ⟨d, 3, none⟩ (.bool (decide (0 ≤ n)))).setCell ⟨d, 4, none⟩ (.int .i64 n)) g d mb ad (opFuse s n) ∧ Ch (fun b => b = d) w ((w.setCell ⟨d, 3, none⟩ (.bool (decide (0 ≤ n)))).setCell ⟨d, 4, none⟩ (.int .i64 n)) := by
  have hc := ((Ch.refl (fun b => b = d) w).setCell (p := ⟨d, 3, none⟩) (.inl rfl) (.bool (decide (0 ≤ n)))).setCell (p := ⟨d, 4, none⟩) (.inl rfl) (.int .i64 n)
  obtain ⟨fz, lf, c3, c4, hf⟩ := h.fuse
  refine ⟨h.head hc rfl (h.ok.fuse n) (((set_off (by decide)).trans (set_off (by decide))).trans h.c0) (((set_off (by decide)).trans (set_off (by decide))).trans h.c1) (((set_off (by decide)).trans (set_off (by decide))).trans h.c2) (fun j => (World.frozen?_setCell _ _ _ _).trans ((World.frozen?_setCell _ _ _ _).trans (h.zf j)))
    ((set_off (by decide)).trans (set_same c3)) (set_same ((set_off (by decide)).trans c4)) ?_, hc⟩
  show FuseIs (if n < 0 then none else some n.toNat) _ _
  by_cases h0 : n < 0
  · rw [if_pos h0]
    exact decide_eq_false (by omega)
  · rw [if_neg h0]
    exact ⟨decide_eq_true (by omega), by omega, by omega⟩
/-- What Read leaves. -/
def ReadOf (o : Option (List Int)) (w : World) (e : Ending) (w' : World) : Prop :=
  (o = none ∧ e = .returned (.tuple #[.slice none 0 0, .int .i64 7]) ∧ Ch (fun _ => False) w w') ∨ ∃ bs v, o = some bs ∧ e = .returned (.tuple #[v, .int .i64 0]) ∧ Fresh w v bs w'
set_option maxRecDepth 100000 in
set_option maxHeartbeats 4000000 in
theorem read_any (h : Dsk w g d mb ad s) (hk : k.length ≤ 9223372036854775807) : Calls Tryz.prog 109 #[pv d, kv k] w (ReadOf (opRead s k) w) := by
  have hp : pv d = .pointer (some ⟨d, 0, none⟩) := rfl
  have H := Bx.mk h
  have HKL := Bx.mk hk
  obtain ⟨S, hkv⟩ : ∃ S, kv k = .string S := ⟨_, rfl⟩
  have HKV := Bx.mk hkv
  have c0 := h.c0
  rw [hp]
  rw [hkv]
  clear hp h hk hkv
  cases hf : fnd s.fs k with
  | none =>
    have hlk := H.out.look_no hf (by unfold maxLen; exact HKL.out)
    rw [HKV.out] at hlk
    have HR : Bx (opRead s k = none) := ⟨by unfold opRead; rw [hf]; rfl⟩
    clear hf
    go_enter Tryz.func109, Tryz.ntmps109
    go_wp2
    go_ret2
    exact .inl ⟨HR.out, rfl, Ch.refl _ _⟩
  | some x =>
    have HR : Bx (opRead s k = some x.bs) := ⟨by unfold opRead; rw [hf]; rfl⟩
    obtain ⟨hxm, hxn⟩ := fnd_some hf
    have hlk := H.out.look_yes hf (by unfold maxLen; exact HKL.out)
    rw [HKV.out] at hlk
    have hF := H.out.files x hxm
    rw [hxn] at hF
    obtain ⟨v, b0, b1, ho, hr⟩ := hF.row
    obtain ⟨A, c, rfl, h1, h2⟩ := own_shape ho
    have hq : x.bs.length ≤ 1073741824 := by have := used_at H.out.ok.fine.rise hxm; have := H.out.ok.used; have := H.out.ok.room; omega
    have HC := Bx.mk (cloneb_any x.bs A x.bs.length c w (Sl.of_own ho) hq)
    obtain ⟨q, hq2⟩ : ∃ q, x.bs.length = q := ⟨_, rfl⟩
    rw [hq2] at b0 HC
    obtain ⟨a, ha⟩ : ∃ a, ad k = a := ⟨_, rfl⟩
    rw [ha] at b0 hlk
    clear hf hxm hxn hF ho hr h1 h2 hq hq2 b1 ha
    go_enter Tryz.func109, Tryz.ntmps109
    go_wp2_with fail
    refine HC.out.mono ?_
    rintro e w1 ⟨v, rfl, hv⟩
    go_wp2
    go_ret2
    exact .inr ⟨x.bs, v, HR.out, rfl, hv⟩
end
end
section
open Go.RowKit Go.Oct Go.Su Go.Dk Go.Maps
section
variable {w w' : World} {g g' : Nat → Tg} {d : Nat} {mb : Option Nat} {ad : Key → Nat} {s s' : Ds} {F S : Nat → Prop} {x y : Fl} {k : Key}
/-- Tags with one more. -/
def tag1 (g : Nat → Tg) (b : Nat) (t : Tg) : Nat → Tg := fun i => if i = b then t else g i
theorem tag1_same (g : Nat → Tg) (b : Nat) (t : Tg) : tag1 g b t b = t := if_pos rfl
theorem tag1_other {g : Nat → Tg} {b i : Nat} {t : Tg} (h : i ≠ b) : tag1 g b t i = g i := if_neg h
theorem cell_alloc {w : World} {p : Addr} {u : Value} (h : w.cell? p = some u) (o : Obj) : (w.alloc o).cell? p = some u := ((Ch.refl (fun _ => False) w).alloc o).cell (fun h => h) h
theorem cells_at {w : World} {cs : Array Value} {e : TypeId} {j : Nat} {u : Value} (hu : cs[j]? = some u) : (w.alloc (.cells cs e)).cell? ⟨w.heap.size, j, none⟩ = some u := by
  unfold World.cell?
  rw [heap_alloc_new]
  exact hu
theorem frozen_new {w : World} {cs : Array Value} {e : TypeId} (j : Nat) : (w.alloc (.cells cs e)).frozen? ⟨w.heap.size, j, none⟩ = false := by
  unfold World.frozen?
  rw [heap_alloc_new]
  simp
/-- A map is made for it. -/
theorem Dsk.mapped (h : Dsk w g d none ad s) : Dsk ((w.alloc (.map #[] 0)).setCell ⟨d, 0, none⟩ (.map (some w.heap.size))) (tag1 g w.heap.size .mp) d (some w.heap.size) ad s ∧ Dgo w g ((w.alloc (.map #[] 0)).setCell ⟨d, 0, none⟩ (.map (some w.heap.size))) (tag1 g w.heap.size .mp) := by
  have hd := h.lt_d
  have hfs := h.none_ rfl
  have hne : d ≠ w.heap.size := by omega
  have hca := (Ch.refl (fun b => b = d) w).alloc (.map #[] 0)
  have hc := hca.setCell (p := ⟨d, 0, none⟩) (.inl rfl) (.map (some w.heap.size))
  have ha := h.keep ((Ch.refl (fun _ => False) w).alloc (.map #[] 0))
  have hsz : ((w.alloc (.map #[] 0)).setCell ⟨d, 0, none⟩ (.map (some w.heap.size))).heap.size = w.heap.size + 1 := by simp [World.setCell]
  obtain ⟨fz, lf, c3, c4, hf⟩ := ha.fuse
  refine ⟨⟨h.ok, fun b hb => ?_, by rw [tag1_other hne]; exact h.tag, fun j => (World.frozen?_setCell _ _ _ _).trans (ha.zf j), set_same ha.c0, (set_off (by decide)).trans ha.c1, (set_off (by decide)).trans ha.c2, ⟨fz, lf, (set_off (by decide)).trans c3, (set_off (by decide)).trans c4, hf⟩, (fun e => by cases e), fun b hb => ?_, fun x hx => by rw [hfs] at hx; simp at hx⟩, hc.mono (fun i _ hi => by rw [hi, h.tag]; exact fun e => by cases e), fun b hb => ?_⟩
  · rw [hsz]
    by_cases e : b = w.heap.size
    · omega
    · rw [tag1_other e] at hb
      have := h.lt b hb
      omega
  · injection hb with hb
    subst hb
    refine ⟨tag1_same _ _ _, ?_⟩
    rw [hfs]
    exact (World.ownsMap_made w _ _ heldR).setCell (a := ⟨d, 0, none⟩) (by simpa using hne.symm) _
  · by_cases e : b = w.heap.size
    · exact .inr (by omega)
    · rw [tag1_other e] at hb; exact .inl hb
/-- The new file's block, and the map with it. -/
theorem Dsk.added {b n : Nat} (h : Dsk w g d (some b) ad s) (hf : fnd s.fs k = none) (hk : okN k) (hl : s.fs.length < 4096) (hc : Ch (fun i => i = b) (w.alloc (.cells #[.slice none 0 0, .int .i64 0] 267)) w')
    (hm : w'.ownsMap Tryz.prog 9 heldR b n ((mapD s.fs ad).put (.string k) (.held (pv w.heap.size)))) :
    Dsk w' (tag1 g w.heap.size (.fl k)) d (some b) (at1 ad k w.heap.size) ⟨s.room, put s.fs ⟨k, [], 0⟩, s.left⟩ ∧ Dgo w g w' (tag1 g w.heap.size (.fl k)) := by
  obtain ⟨hb, ho⟩ := h.some_ b rfl
  have hd := h.lt_d
  have hbl := ho.lt
  have hdb : d ≠ b := fun e => by have := h.tag; rw [e, hb] at this; cases this
  have hne : d ≠ w.heap.size := by omega
  have hbn : b ≠ w.heap.size := by omega
  have ha := h.keep ((Ch.refl (fun _ => False) w).alloc (.cells #[.slice none 0 0, .int .i64 0] 267))
  obtain ⟨fz, lf, c3, c4, hfu⟩ := ha.fuse
  have hsz : w.heap.size + 1 ≤ w'.heap.size := by have := hc.size; rw [World.size_alloc] at this; exact this
  have hno := fnd_none hf
  have hcell : ∀ {i j : Nat} {u : Value}, i ≠ b → (w.alloc (.cells #[.slice none 0 0, .int .i64 0] 267)).cell? ⟨i, j, none⟩ = some u → w'.cell? ⟨i, j, none⟩ = some u := fun hi hu => hc.cell (p := ⟨_, _, none⟩) hi hu
  have hfz : ∀ {i : Nat} (j : Nat), i ≠ b → i < w.heap.size + 1 → w'.frozen? ⟨i, j, none⟩ = (w.alloc (.cells #[.slice none 0 0, .int .i64 0] 267)).frozen? ⟨i, j, none⟩ := fun j hi hl => hc.frozen (p := ⟨_, j, none⟩) hi (by rw [World.size_alloc]; exact hl)
  refine ⟨⟨⟨h.ok.fine.put hk (Nat.le_refl _) (by simp), ?_, h.ok.room, ?_⟩, fun i hi => ?_, by rw [tag1_other hne]; exact h.tag, fun j => ?_, hcell hdb ha.c0, hcell hdb ha.c1, ?_, ⟨fz, lf, hcell hdb c3, hcell hdb c4, hfu⟩, (fun e => by cases e), fun i hi => ?_, fun z hz => ?_⟩, ?_, fun i hi => ?_⟩
  · show used (put s.fs ⟨k, [], 0⟩) ≤ s.room
    rw [used_put, del_no h.ok.fine.rise hno]
    exact h.ok.used
  · show (put s.fs ⟨k, [], 0⟩).length ≤ 4096
    rw [len_put_new (g := ⟨k, [], 0⟩) h.ok.fine.rise hno]
    omega
  · by_cases e : i = w.heap.size
    · omega
    · rw [tag1_other e] at hi
      have := h.lt i hi
      omega
  · rw [hfz j hdb (by omega)]
    exact ha.zf j
  · rw [hcell hdb ha.c2]
    show _ = some (Value.int .i64 (used (put s.fs ⟨k, [], 0⟩) : Int))
    rw [used_put, del_no h.ok.fine.rise hno]
    rfl
  · injection hi with hi
    subst hi
    refine ⟨by rw [tag1_other hbn]; exact hb, ?_⟩
    have h1 := own_tight hm
    have h2 := put_canon (f := ⟨k, [], 0⟩) mapLaw h.ok.fine.rise hm
    have h3 : ((mapD s.fs ad).put (.string k) (.held (pv w.heap.size))) = mapD (put s.fs ⟨k, [], 0⟩) (at1 ad k w.heap.size) := h2
    rw [h3, size_mapD] at h1
    exact h1
  · rcases mem_put.1 hz with rfl | ⟨hz, hzn⟩
    · have hat : at1 ad k w.heap.size k = w.heap.size := if_pos rfl
      show Fil w' _ (at1 ad k w.heap.size k) _
      rw [hat]
      refine ⟨tag1_same _ _ _, fun j => ?_, .slice none 0 0, hcell hbn.symm (cells_at (j := 0) rfl), hcell hbn.symm (cells_at (j := 1) rfl), World.ownsRow_nil _ _ _ _, fun r hr => by simp [Value.ownBlock] at hr⟩
      rw [hfz j hbn.symm (by omega)]
      exact frozen_new j
    · have hat : at1 ad k w.heap.size z.nm = ad z.nm := if_neg hzn
      rw [hat]
      have hF := h.files z hz
      refine (((hF.ch ((Ch.refl (fun _ => False) w).alloc (.cells #[.slice none 0 0, .int .i64 0] 267)) (fun _ _ h => h)).ch hc fun i hi e => ?_).tags fun i hi => ?_)
      · subst e
        rw [hb] at hi
        rcases hi with hi | hi <;> cases hi
      · refine tag1_other fun e => ?_
        have : i < w.heap.size := h.lt i (by rcases hi with e | e <;> rw [e] <;> exact fun e => by cases e)
        omega
  · refine ((Ch.refl (fun b => g b ≠ .no) w).alloc _).trans hc fun i _ hi => ?_
    rw [hi, hb]
    exact fun e => by cases e
  · by_cases e : i = w.heap.size
    · exact .inr (by omega)
    · rw [tag1_other e] at hi; exact .inl hi
theorem run_eqlIn_map (d : Nat) (t k e : TypeId) (P : Program) (w : World) (m : Option Nat) (h : P.underlying t = some (.map k e)) : (Op.equalIn (d + 1) t (.map m) (.map none)).run P w = .ok m.isNone w := by
  cases m <;> simp [Op.equalIn, run_underlying h]
theorem eql_map (w : World) (m : Option Nat) : (binOp .eql 85 (.map m) (.map none)).run Tryz.prog w = .ok (.bool m.isNone) w := by
  simp only [binOp]
  simp [Op.equal, Op.maxDepth, run_eqlIn_map 9999 _ _ _ _ w m mapT]
/-- What add leaves. -/
def AddOf (s : Ds) (k : Key) (d : Nat) (w : World) (g : Nat → Tg) (e : Ending) (w' : World) : Prop := ∃ g' b ad', e = .returned (pv (ad' k)) ∧ Dsk w' g' d (some b) ad' ⟨s.room, put s.fs ⟨k, [], 0⟩, s.left⟩ ∧ Dgo w g w' g'
set_option maxRecDepth 100000 in
set_option maxHeartbeats 4000000 in
theorem add_any (h : Dsk w g d mb ad s) (hf : fnd s.fs k = none) (hk : okN k) (hl : s.fs.length < 4096) : Calls Tryz.prog 268 #[pv d, kv k] w (AddOf s k d w g) := by
  have hmm := @run_makeMap Tryz.prog
  have hp : pv d = .pointer (some ⟨d, 0, none⟩) := rfl
  have H := Bx.mk h
  have HK := Bx.mk hk
  have HF := Bx.mk hf
  have HL := Bx.mk hl
  have hkey : keyOf Tryz.prog 9 (kv k) = some (.string k) := key_of (by unfold maxLen; have := hk.2; omega)
  obtain ⟨S, hkv⟩ : ∃ S, kv k = .string S := ⟨_, rfl⟩
  have c0 := h.c0
  have z0 := h.zf 0
  rw [hp]
  rw [hkv] at hkey ⊢
  have HKEY := Bx.mk hkey
  clear hp h hk hkv hf hl hkey
  cases mb with
  | some b =>
    have ho := (H.out.some_ b rfl).2
    have ho1 := ho.alloc (.cells #[.slice none 0 0, .int .i64 0] 267)
    obtain ⟨w2, hup, ho2, hg2⟩ := ho1.update (val := pv w.heap.size) (d := .held (pv w.heap.size)) (ps := []) mapLaw mapT (by have := HL.out; unfold maxLen; omega) HKEY.out rfl
    have hem := eql_map
    have hup' : (Instr.mapUpdate 85 (.map (some b)) (.string S) (.pointer (some ⟨w.heap.size, 0, none⟩))).run Tryz.prog (w.alloc (.cells #[.slice none 0 0, .int .i64 0] 267)) = .ok () w2 := hup
    have HC : Bx (Ch (fun i => i = b) (w.alloc (.cells #[.slice none 0 0, .int .i64 0] 267)) w2) := ⟨⟨hg2.os, hg2.tape, hg2.output, hg2.size, fun i hi hn => hg2.block i hi (fun e => hn (by injection e))⟩⟩
    have HA := Bx.mk (H.out.added HF.out HK.out HL.out HC.out ho2)
    have c0a := cell_alloc c0 (.cells #[.slice none 0 0, .int .i64 0] 267)
    clear ho ho1 hup ho2 hg2 HC
    go_enter Tryz.func268, Tryz.ntmps268
    go_wp2
    go_ret
    exact ⟨_, b, at1 ad k w.heap.size, by rw [show at1 ad k w.heap.size k = w.heap.size from if_pos rfl]; rfl, HA.out.1, HA.out.2⟩
  | none =>
    obtain ⟨hm, hgm⟩ := H.out.mapped
    obtain ⟨w1, hw1⟩ : ∃ w1, (w.alloc (.map #[] 0)).setCell ⟨d, 0, none⟩ (.map (some w.heap.size)) = w1 := ⟨_, rfl⟩
    rw [hw1] at hm hgm
    have ho := (hm.some_ _ rfl).2
    have ho1 := ho.alloc (.cells #[.slice none 0 0, .int .i64 0] 267)
    obtain ⟨w2, hup, ho2, hg2⟩ := ho1.update (val := pv w1.heap.size) (d := .held (pv w1.heap.size)) (ps := []) mapLaw mapT (by have := HL.out; unfold maxLen; omega) HKEY.out rfl
    have hem := eql_map
    have hup' : (Instr.mapUpdate 85 (.map (some w.heap.size)) (.string S) (.pointer (some ⟨w1.heap.size, 0, none⟩))).run Tryz.prog (w1.alloc (.cells #[.slice none 0 0, .int .i64 0] 267)) = .ok () w2 := hup
    have HC : Bx (Ch (fun i => i = w.heap.size) (w1.alloc (.cells #[.slice none 0 0, .int .i64 0] 267)) w2) := ⟨⟨hg2.os, hg2.tape, hg2.output, hg2.size, fun i hi hn => hg2.block i hi (fun e => hn (by injection e))⟩⟩
    have HA := Bx.mk (hm.added HF.out HK.out HL.out HC.out ho2)
    have HGM := Bx.mk hgm
    have hs1 : w1.heap.size = w.heap.size + 1 := by rw [← hw1]; simp [World.setCell]
    rw [hs1] at hup' HA
    clear hs1
    have c0b := cell_alloc hm.c0 (.cells #[.slice none 0 0, .int .i64 0] 267)
    have hzz : (w.alloc (.map #[] 0)).frozen? ⟨d, 0, none⟩ = false := by rw [((Ch.refl (fun _ => False) w).alloc (.map #[] 0)).frozen (p := ⟨d, 0, none⟩) (fun h => h) H.out.lt_d]; exact z0
    have c00 := cell_alloc c0 (.map #[] 0)
    subst hw1
    clear ho ho1 hup ho2 hg2 HC hm hgm
    go_enter Tryz.func268, Tryz.ntmps268
    go_wp2
    go_ret
    exact ⟨_, w.heap.size, at1 ad k (w.heap.size + 1), by rw [show at1 ad k (w.heap.size + 1) k = w.heap.size + 1 from if_pos rfl]; rfl, HA.out.1, HGM.out.trans HA.out.2⟩
end
end
section
open Go.RowKit Go.Oct Go.Su Go.Dk Go.Maps
section
variable {w w' : World} {g g' : Nat → Tg} {d : Nat} {mb : Option Nat} {ad : Key → Nat} {s s' : Ds} {F S : Nat → Prop} {x y : Fl} {k : Key}
set_option maxRecDepth 100000 in
set_option maxHeartbeats 4000000 in
theorem fits_any (xss : List (List Int)) (A : Option Addr) (n c : Nat) (h : Dsk w g d mb ad s) (hz : Sls w F A n xss) (hn : n ≤ 140737488355328) :
    Calls Tryz.prog 267 #[pv d, .slice A n c] w fun e w' => e = .returned (.bool (decide (used s.fs + (cat xss).length ≤ s.room))) ∧ Ch (fun _ => False) w w' := by
  have hp : pv d = .pointer (some ⟨d, 0, none⟩) := rfl
  have c1 := h.c1
  have c2 := h.c2
  have hu := h.ok.used
  have hr := h.ok.room
  obtain ⟨u, hue⟩ : ∃ u, used s.fs = u := ⟨_, rfl⟩
  obtain ⟨r, hre⟩ : ∃ r, s.room = r := ⟨_, rfl⟩
  rw [hue] at c2 hu ⊢
  rw [hre] at c1 hu hr ⊢
  obtain ⟨q, hq⟩ : ∃ q, r - u = q := ⟨_, rfl⟩
  have i1 : (r : Int) - (u : Int) = (q : Int) := by omega
  have hq2 : q ≤ 1073741824 := by omega
  have HQ : Bx (∀ m, decide (u + m ≤ r) = decide (m ≤ q)) := ⟨fun m => by rw [decide_eq_decide]; omega⟩
  have HZ := Bx.mk hz
  have HL := Bx.mk hz.len
  rw [HQ.out, hp]
  clear hz hp hue hre h hu hr hq
  go_enter Tryz.func267, Tryz.ntmps267
  go_wp2_with fail
  have i2 : IntKind.i64.wrap (q : Int) = (q : Int) := IntWalk.i64_in _ (by omega)
  go_quiet (fail)
  clear i2
  go_wp2_with fail
  go_loopw [5, 7, 19] (fun f _ i wr => ∃ k m : Nat, k ≤ n ∧ i = .int .i64 k ∧ m ≤ q ∧ f = .int .i64 ((q - m : Nat) : Int) ∧ Bx ((cat (xss.take k)).length = m) ∧ Ch (fun _ => False) w wr) (fun _ _ i _ => n - (intOf i).toNat)
  case atStart => exact ⟨0, 0, Nat.zero_le _, rfl, Nat.zero_le _, rfl, ⟨rfl⟩, ⟨rfl, rfl, rfl, Nat.le_refl _, fun _ _ _ => rfl⟩⟩
  case round =>
    obtain ⟨k, m, hk, rfl, hm, rfl, hT, hC⟩ := hrel
    obtain ⟨f, hf⟩ : ∃ f, q - m = f := ⟨_, rfl⟩
    rw [hf]
    obtain ⟨wo, rfl⟩ : ∃ wo : World, wo = wr := ⟨_, rfl⟩
    by_cases hlt : k < n
    · have dk : decide ((k : Int) < (n : Int)) = true := decide_eq_true (by omega)
      have i3 : (k : Int) < (n : Int) := by omega
      obtain ⟨bt, ot, A', c', t, rfl, _, ht, hcell, _, htc, htm⟩ := (HZ.out.ch hC (fun _ _ _ h => h)).at_ hlt
      have HTX := Bx.mk ht.out
      have HCM := Bx.mk (cat_more ht.out)
      have HRM := Bx.mk (cat_room ht.out)
      obtain ⟨tl, htl⟩ : ∃ tl, t.length = tl := ⟨_, rfl⟩
      have HTL := Bx.mk htl
      have htl9 : tl ≤ 9223372036854775807 := by unfold maxLen at htm; omega
      rw [htl] at hcell
      have HC := Bx.mk hC
      clear ht htl htc htm hC
      by_cases hbig : f < tl
      · have i4 : decide ((f : Int) < (tl : Int)) = true := decide_eq_true (by omega)
        have i4' : decide (f < tl) = true := decide_eq_true hbig
        have HV : Bx (decide ((cat xss).length ≤ q) = false) := ⟨decide_eq_false (by have := HRM.out; have := hT.out; have := HTL.out; omega)⟩
        clear hbig hf
        go_wp2
        go_ret
        exact ⟨ret_bool HV.out.symm, HC.out⟩
      · have i4 : decide ((f : Int) < (tl : Int)) = false := decide_eq_false (by omega)
        have i4' : decide (f < tl) = false := decide_eq_false hbig
        obtain ⟨f2, hf2⟩ : ∃ f2, f - tl = f2 := ⟨_, rfl⟩
        have i5 : (f : Int) - (tl : Int) = (f2 : Int) := by omega
        have hfb : f2 ≤ 1073741824 := by omega
        have HR : Bx (m + tl ≤ q ∧ q - (m + tl) = f2 ∧ (cat (xss.take (k + 1))).length = m + tl) := ⟨by omega, by omega, by rw [HCM.out, List.length_append, hT.out, HTL.out]⟩
        clear hbig hf hf2
        have i6 : wrap64 ((f : Int) - (tl : Int)) = (f2 : Int) := by rw [i5]; exact w64_of (by omega)
        go_wp2
        clear i6
        go_roundw
        case rel => exact ⟨k + 1, m + tl, by omega, by go_num, HR.out.1, by rw [HR.out.2.1], ⟨HR.out.2.2⟩, HC.out⟩
        case measure => simp [intOf]; omega
    · obtain rfl : n = k := by omega
      have dk : decide ((n : Int) < (n : Int)) = false := decide_eq_false (by omega)
      have HV : Bx (decide ((cat xss).length ≤ q) = true) := ⟨decide_eq_true (by have := hT.out; rw [List.take_of_length_le (by rw [HL.out]; exact Nat.le_refl _)] at this; omega)⟩
      have HC := Bx.mk hC
      clear hC hf
      go_wp2
      go_ret
      exact ⟨ret_bool HV.out.symm, HC.out⟩
end
end
end Go.Proofs.YtbkakhfepiooaaaGreatDoor.D
