/-
  The walk of haystacklaw1.OctetRows.
-/
import Derived.Test.YtppplchllnalpaaDoorOcCutMath
import Derived.Test.YtppplchllnalpaaDoorOcRoomy
import Derived.Test.YtppplchllnalpaaDoorOcRef
import Derived.Test.YtppplchllnalpaaDoorOcReader2
import Derived.Test.YtppplchllnalpaaDoorOcHeavy
import Derived.Test.YtppplchllnalpaaDoorOcKnown
namespace Go.Proofs.YtppplchllnalpaaDoor
open Go.RowKit Go.Oct

/-- Two rows lie apart. -/
def Apart (v u : Value) : Prop := ∀ g, v.ownBlock = some g → ¬ u.ownBlock = some g
theorem Apart.nil_ (u : Value) : Apart (.slice none 0 0) u := fun g hg => by simp [Value.ownBlock] at hg
theorem Apart.symm {v u : Value} (h : Apart v u) : Apart u v := fun g hg hv => h g hv hg
/-- .. and stay so, where one of them moves to a new block. -/
theorem Apart.newer {w : World} {v v' u : Value} (h : Apart v u) (hn : Newer w v v') (hu : ∀ g, u.ownBlock = some g → g < w.heap.size) : Apart v' u := fun g hg hug => by
  rcases hn g hg with h1 | h1
  · exact h g h1 hug
  · have := hu g hug; omega
theorem Row.lt {w w' : World} {v : Value} {xs : List Int} (h : Row w v xs w') : ∀ g, v.ownBlock = some g → g < w'.heap.size := fun g hg => (h.1.lt g hg).2
/-- A writer's blocks are none of a row's that lies apart and behind the Writer. -/
theorem ws_apart {w wr : World} {bw : Nat} {v u : Value} {xs : List Int} (hbw : bw < w.heap.size) (hr : Row w u xs wr) (ha : Apart v u) : ∀ b, u.ownBlock = some b → ¬ WS bw v b := fun b hb hs => by
  rcases hs with rfl | hs
  · have := hr.2 b hb; omega
  · exact ha b hs hb
theorem Row.ch {w a b : World} {v : Value} {xs : List Int} {S : Nat → Prop} (h : Row w v xs a) (hc : Ch S a b) (hS : ∀ g, v.ownBlock = some g → ¬ S g) : Row w v xs b := ⟨hc.own h.1 hS, h.2⟩

theorem pre_all {l : List (List Int)} {n : Nat} (h : l.length = n) : l.flatMap rowB = pre l n := by
  unfold pre
  rw [List.take_of_length_le (by omega)]
theorem wr_apart {w : World} {b1 b2 : Nat} {v u : Value} {xs : List Int} (hw : Wr w b1 v xs) (hb : b1 ≠ b2) (h1 : ∀ g, u.ownBlock = some g → g ≠ b1) (h2 : ∀ g, v.ownBlock = some g → g ≠ b2) (ha : Apart v u) : ∀ b, WS b1 v b → ¬ WS b2 u b := fun b hs hs2 => by
  rcases hs with rfl | hs
  · rcases hs2 with h | h
    · exact hb h
    · exact h1 _ h rfl
  · rcases hs2 with rfl | h
    · exact h2 _ hs rfl
    · exact ha b hs h
theorem rest_drop {l : List (List Int)} {k : Nat} {x : List Int} (h : l[k]? = some x) : (l.drop k).flatMap rowB = encN x.length ++ (x ++ (l.drop (k + 1)).flatMap rowB) := by
  obtain ⟨h1, h2⟩ := List.getElem?_eq_some_iff.1 h
  rw [List.drop_eq_getElem_cons h1, h2, List.flatMap_cons]
  simp [rowB]
theorem flat_drop_len (l : List (List Int)) (k : Nat) : ((l.drop k).flatMap rowB).length ≤ (l.flatMap rowB).length := by
  have h : l.flatMap rowB = (l.take k).flatMap rowB ++ (l.drop k).flatMap rowB := by rw [← List.flatMap_append, List.take_append_drop]
  rw [h, List.length_append]
  omega
/-- A row that stands ahead is taken. -/
theorem row_yes (Q : Nat → Prop) (br : Nat) (x more : List Int) (w : World) (hx : x.length ≤ 4000) (hm : more.length ≤ 100000000) (hr : RdQ Q w br false (encN x.length ++ (x ++ more))) :
    Calls Tryd.prog 27 #[.pointer (some ⟨br, 0, none⟩)] w fun e w' => ∃ v, e = .returned v ∧ Row w v x w' ∧ RdQ Q w' br false more ∧ Ch (RS br) w w' := by
  have h9 := encI_len (x.length : Int)
  have e9 : encI (x.length : Int) = encN x.length := by unfold encI; rw [clampI_nat (by omega)]
  rw [e9] at h9
  refine (rbytes_any br false _ w hr (by simp only [List.length_append]; omega)).mono fun e w' h => ?_
  unfold RowPost at h
  rw [takeN_enc0 (by rw [top62_eq]; omega)] at h
  simp only [List.length_append, if_neg (show ¬ x.length + more.length < x.length by omega)] at h
  obtain ⟨v, he, h1, h2, h3⟩ := h
  rw [List.take_append_of_le_length (Nat.le_refl _), List.take_length] at h1
  rw [List.drop_append_of_le_length (Nat.le_refl _), List.drop_length, List.nil_append] at h2
  exact ⟨v, he, h1, h2, h3⟩
/-- All that is left is taken. -/
theorem raw_all (Q : Nat → Prop) (br : Nat) (xs : List Int) (n : Nat) (w : World) (hn : xs.length = n) (hm : n ≤ 4000) (hr : RdQ Q w br false xs) :
    Calls Tryd.prog 29 #[.pointer (some ⟨br, 0, none⟩), .int .i64 n] w fun e w' => ∃ v, e = .returned v ∧ Row w v xs w' ∧ RdQ Q w' br false [] ∧ Ch (RS br) w w' := by
  subst hn
  by_cases h0 : xs.length = 0
  · have hx : xs = [] := List.eq_nil_of_length_eq_zero h0
    subst hx
    exact (rraw_zero br false [] w hr).mono fun e w' ⟨he, hw⟩ => ⟨_, he, ⟨World.ownsRow_nil _ _ _ _, fun g hg => by simp [Value.ownBlock] at hg⟩, by rw [← hw]; exact hr, by rw [← hw]; exact Ch.refl _ _⟩
  · refine (rraw_some br xs xs.length w hr (by omega) (Nat.le_refl _) (by omega)).mono fun e w' ⟨v, he, h1, h2, h3⟩ => ?_
    rw [List.take_length] at h1
    rw [List.drop_length] at h2
    exact ⟨v, he, h1, h2, h3⟩
/-- A Reader stays, where nothing turns but what is new. -/
theorem rd_high {w w' : World} {S : Nat → Prop} {br : Nat} {bad : Bool} {xs : List Int} (h : RdQ (fun b => b < br) w br bad xs) (hc : Ch S w w') (hS : ∀ b, S b → br < b) : RdQ (fun b => b < br) w' br bad xs := by
  obtain ⟨A, n, c, hblk, hsl, rest⟩ := h
  have hlt : br < w.heap.size := (Array.getElem?_eq_some_iff.1 hblk).1
  exact ⟨A, n, c, (hc.block br hlt fun h => by have := hS br h; omega).trans hblk, hsl.ch hc (fun b hb _ h => by have := hS b h; omega), rest⟩

/-- What holds behind k rounds of the first loop: the Writer 'one' and the row 'want' have laid k rows, the Writer 'all' nothing. -/
def RowsRel (l : List (List Int)) (w : World) (b1 b2 k : Nat) (u : Value) (wr : World) : Prop :=
  ∃ v, Wr wr b1 v (pre l k) ∧ Wr wr b2 (.slice none 0 0) [] ∧ Row w u (pre l k) wr ∧ Apart v u ∧ (∀ g, v.ownBlock = some g → w.heap.size ≤ g) ∧ Ch (fun b => b = b1 ∨ w.heap.size ≤ b) w wr

set_option maxHeartbeats 4000000 in
set_option maxRecDepth 100000 in
theorem rows_any (l : List (List Int)) (raw : List Int) (A R : Option Addr) (n c m d : Nat) (w : World) (ht : Tab w) (hn : n ≤ 9223372036854775807) (hm : m ≤ 9223372036854775807)
    (hl : Sls w (fun _ => True) A n l) (hr : Sl w (fun _ => True) .u8 R m raw) (htl : ∀ xs ∈ l, Byt xs) (htr : Byt raw) :
    Calls Tryd.prog 4 #[.slice A n c, .slice R m d] w fun e w' => e = .returned (.bool true) ∧ Ch (fun _ => False) w w' := by
  have HT := Lib.hid ht
  have HA := Lib.hid htl
  have HBR := Lib.hid htr
  clear ht htl htr
  go_enter Tryd.func4, Tryd.ntmps4
  go_wp2_with fail
  refine (heavy_any l A n c _ _ hn hl).mono ?_
  rintro e w' ⟨hv, rfl, rfl, hs⟩
  cases hv
  case true =>
    clear hs
    go_wp2
    go_ret
    exact ⟨rfl, Ch.refl _ _⟩
  have hs := hs rfl
  by_cases hm4 : 4000 < m
  · clear hs
    go_wp2
    go_ret
    exact ⟨rfl, Ch.refl _ _⟩
  unfold Slim at hs
  rw [hl.len] at hs
  have hx4 : ∀ x ∈ l, x.length ≤ 4000 := by
    intro x hx
    obtain ⟨i, hi⟩ := List.getElem?_of_mem hx
    have := cat_room hi
    omega
  have hpre : ∀ k, k ≤ n → (pre l k).length ≤ 20000 := by
    intro k hk
    rcases pre_len (l := l) k with h | ⟨x, h1, h2⟩
    · have := cat_take l k
      omega
    · have := hx4 x h1
      omega
  have hn1 : n ≤ 1333 := by omega
  have HX := Lib.hid hx4
  have HP := Lib.hid hpre
  have hrl := hr.len
  have hlw := Sls.lt hl
  have hrw : Sl w (fun b => b < w.heap.size) .u8 R m raw := Sl.mono hr fun _ h _ => h
  have HRL := Lib.hid hrl
  clear hs hn hx4 hpre hl hr hrl hm
  go_wp2_with fail
  obtain ⟨wb, ewb⟩ : ∃ wb, wb = (w.alloc (.cells #[.slice none 0 0] 25)).alloc (.cells #[.slice none 0 0] 25) := ⟨_, rfl⟩
  have hrel0 : RowsRel l wb w.heap.size (w.heap.size + 1) 0 (.slice none 0 0) wb := by
    have h2 := wr_new (w.alloc (.cells #[.slice none 0 0] 25))
    have h1 := (wr_new w).ch ((Ch.refl (fun _ => False) _).alloc (.cells #[.slice none 0 0] 25)) (fun _ _ h => h)
    rw [← ewb] at h1 h2
    have e : (w.alloc (.cells #[.slice none 0 0] 25)).heap.size = w.heap.size + 1 := by simp
    rw [e] at h2
    exact ⟨_, h1, h2, ⟨World.ownsRow_nil _ _ _ _, fun g hg => by simp [Value.ownBlock] at hg⟩, Apart.nil_ _, fun g hg => by simp [Value.ownBlock] at hg, Ch.refl _ _⟩
  have hsz : wb.heap.size = w.heap.size + 2 := by rw [ewb]; simp
  have hCb : Ch (fun _ => False) w wb := by
    rw [ewb]
    exact ((Ch.refl _ _).alloc _).alloc _
  have hlb := Sls.ch hlw hCb (fun _ _ _ h => h)
  have hrb := Sl.ch hrw hCb (fun _ _ _ h => h)
  rw [← ewb]
  have HREL := Lib.hid hrel0
  have HCB := Lib.hid hCb
  have HSZ := Lib.hid hsz
  have hszl : w.heap.size + 2 ≤ wb.heap.size := by omega
  clear ewb hrel0 hCb hlw hrw hsz
  go_loopw [7, 8] (fun u i wr => ∃ k : Nat, k ≤ n ∧ i = .int .i64 k ∧ RowsRel l wb w.heap.size (w.heap.size + 1) k u wr) (fun _ i _ => n - (intOf i).toNat)
  case atStart => exact ⟨0, Nat.zero_le _, rfl, HREL.out⟩
  case round =>
    obtain ⟨k, hk, rfl, v, hw1, hw2, hrow, hap, hvb, hch⟩ := hrel
    obtain ⟨Au, cu, rfl, _, _⟩ := own_shape hrow.1
    have hwosz := hch.size
    have hnb : ∀ b, b < w.heap.size → b < wb.heap.size → ¬ (b = w.heap.size ∨ wb.heap.size ≤ b) := fun b h1 h2 h => by omega
    by_cases hlt : k < n
    · obtain ⟨b, off, A3, c3, row, rfl, hFb, ex, hcw, hsl, hrc, hcm⟩ := hlb.at_ hlt
      have hrl : row.length ≤ 4000 := HX.out row (List.mem_of_getElem? ex.out)
      have hp1 := HP.out (k + 1) (by omega)
      have hpm := pre_more ex.out
      rw [hpm, List.length_append] at hp1
      have hc := hch.cell (hnb b hFb (by omega)) hcw
      have hsl1 := hsl.ch hch hnb
      have HPM := Lib.hid hpm
      clear hpm
      obtain ⟨wo, rfl⟩ : ∃ wo : World, wo = wr := ⟨_, rfl⟩
      go_wp2_with fail
      refine (roomy_any row A3 _ c3 _ _ (by omega) hsl1).mono ?_
      rintro e w1 ⟨g, k1, rfl, hg, hgk, hkm, hown, hc1⟩
      have hw11 := hw1.ch hc1 (fun _ _ h => h)
      have hw21 := hw2.ch hc1 (fun _ _ h => h)
      have hrow1 := hrow.ch hc1 (fun _ _ h => h)
      have hch1 := hch.trans hc1 (fun _ _ h => h.elim)
      have hcc1 := hc1.cell (fun h => h) hc
      have hsl2 := hsl1.ch hc1 (fun _ _ _ h => h)
      have hvlt : ∀ b, v.ownBlock = some b → b < wo.heap.size := fun b hb => hw1.row_lt hb
      have hult := hrow.lt
      have hw1lt := hw1.lt
      have hw2lt := hw2.lt
      clear hc1 hw1 hw2 hrow hch hc hsl1 hcw hsl
      have hgne : ∀ b, v.ownBlock = some b → b ≠ g := fun b hb h => by have := hvlt b hb; omega
      have hgu : ∀ b, (Value.slice Au (pre l k).length cu).ownBlock = some b → b ≠ g := fun b hb h => by have := hrow1.2 b hb; have := hult b hb; omega
      have hgl := (hown.lt g rfl).2
      have hs1 : Sl w1 (fun b => b = g) .u8 (some ⟨g, 0, none⟩) row.length row := by
        have h := own_take (k := row.length) hown (by omega)
        rw [List.take_append_of_le_length (by simp), List.take_of_length_le (by simp)] at h
        exact Sl.mono (Sl.of_own h) fun b _ h => by simp [Value.ownBlock] at h; exact h.symm
      have hs2 := Sls.one (G := fun b => b = g ∨ w1.heap.size ≤ b) 23 hs1 (c := k1) (by omega) hkm (fun b _ h => .inl h) (.inr (Nat.le_refl _))
      have hcA : Ch (fun _ => False) w1 (w1.alloc (.cells #[.slice (some ⟨g, 0, none⟩) row.length k1] 23)) := (Ch.refl _ _).alloc _
      have hFl : ([row].flatMap rowB) = rowB row := by simp
      have hws : ∀ b, (b = g ∨ w1.heap.size ≤ b) → ¬ WS w.heap.size v b := fun b hb h => by
        have h1 := hch1.size
        rcases h with rfl | h
        · rcases hb with rfl | hb <;> omega
        · have h2 := hvlt b h
          rcases hb with rfl | hb
          · omega
          · have := hgl; omega
      have hA := bytes_any w.heap.size v (pre l k) [row] _ 1 1 _ (fun b => b = g ∨ w1.heap.size ≤ b) (by omega) (hw11.ch hcA (fun _ _ h => h)) hs2 (fun b hb _ => hws b hb) (by rw [hFl]; omega)
      rw [hFl] at hA
      have HAA := Lib.hid hA
      clear hA hs1 hs2 hws
      go_wp2_with fail
      refine HAA.out.mono ?_
      rintro e w2 ⟨rfl, v2, hw12, hc2, hn2⟩
      clear HAA
      have hc2' : Ch (WS w.heap.size v) w1 w2 := (hcA.mono (S := WS w.heap.size v) fun _ _ h => h.elim).trans hc2 fun _ _ h => h
      have hn2' : Newer w1 v v2 := fun b hb => by
        rcases hn2 b hb with h | h
        · exact .inl h
        · right; simp at h; omega
      rw [← HPM.out] at hw12
      have hsz1 := hch1.size
      have hsz2 := hc2'.size
      have hw22 : Wr w2 (w.heap.size + 1) (.slice none 0 0) [] := hw21.ch hc2' fun b hb hs => by
        rcases hb with rfl | hb
        · rcases hs with h | h
          · omega
          · have := hvb _ h; omega
        · simp [Value.ownBlock] at hb
      have hrow2 := hrow1.ch hc2' (ws_apart (by omega) hrow1 hap)
      have hown2 := hc2'.own hown fun b hb hs => by
        simp [Value.ownBlock] at hb
        subst hb
        rcases hs with h | h
        · omega
        · exact hgne _ h rfl
      have hwsarg : ∀ b, b < w.heap.size → ¬ WS w.heap.size v b := fun b hb hs => by
        rcases hs with h | h
        · omega
        · have := hvb _ h; omega
      have hcc2 := hc2'.cell (hwsarg b hFb) hcc1
      have hsl3 := hsl2.ch hc2' fun b hb _ => hwsarg b hb
      have hch2 : Ch (fun b => b = w.heap.size ∨ wb.heap.size ≤ b) wb w2 := hch1.trans hc2' fun i hi h => by
        rcases h with h | h
        · exact .inl h
        · exact .inr (hvb _ h)
      have hap2 : Apart v2 (.slice Au (pre l k).length cu) := hap.newer hn2' fun b hb => by have := hult b hb; omega
      have hvb2 : ∀ b, v2.ownBlock = some b → wb.heap.size ≤ b := hn2'.ge hvb (by omega)
      have hg2 : ∀ b, v2.ownBlock = some b → b ≠ g := fun b hb h => by
        subst h
        rcases hn2 b hb with h | h
        · exact hgne _ h rfl
        · simp at h; omega
      clear hw11 hw21 hrow1 hown hch1 hcc1 hsl2 hc2 hc2' hn2 hn2' hap hvb hvlt hgne hcA hFl hwsarg
      go_wp2_with fail
      refine (stands_any row A3 _ c3 g k1 w2 _ (by omega) hgk hkm hsl3 hown2).mono ?_
      rintro e w3 ⟨rfl, j3, ew3⟩
      have hc3 : Ch (fun _ => False) w2 w3 := by
        rw [ew3]
        exact (Ch.refl _ _).drewN _
      have hw13 := hw12.ch hc3 (fun _ _ h => h)
      have hw23 := hw22.ch hc3 (fun _ _ h => h)
      have hrow3 := hrow2.ch hc3 (fun _ _ h => h)
      have hown3 := hc3.own hown2 (fun _ _ h => h)
      have hcc3 := hc3.cell (fun h => h) hcc2
      have hsl4 := hsl3.ch hc3 (fun _ _ _ h => h)
      have hch3 := hch2.trans hc3 (fun _ _ h => h.elim)
      have hsz3 := hc3.size
      clear hw12 hw22 hrow2 hown2 hcc2 hsl3 hch2 hc3 ew3
      go_wp2_with fail
      refine (spoil_any _ _ _ w3 (by omega) hown3).mono ?_
      rintro e w4 ⟨rfl, hc4⟩
      have hS : ∀ b, b ≠ g → ¬ (Value.slice (some ⟨g, 0, none⟩) (row.length + 1) k1).ownBlock = some b := fun b hb h => by simp [Value.ownBlock] at h; exact hb h.symm
      have hw14 := hw13.ch hc4 fun b hb => hS b (by
        rcases hb with rfl | hb
        · omega
        · exact hg2 b hb)
      have hw24 := hw23.ch hc4 fun b hb => hS b (by
        rcases hb with rfl | hb
        · omega
        · simp [Value.ownBlock] at hb)
      have hrow4 := hrow3.ch hc4 fun b hb => hS b (hgu b hb)
      have hcc4 := hc4.cell (hS b (by omega)) hcc3
      have hsl5 := hsl4.ch hc4 fun b (hb : b < w.heap.size) _ => hS b (by omega)
      have hch4 := hch3.trans hc4 fun i hi h => by
        by_cases hig : i = g
        · exact .inr (by have := hch3.size; omega)
        · exact absurd h (hS i hig)
      clear hw13 hw23 hrow3 hown3 hcc3 hsl4 hch3 hc4 hS hgu
      go_wp2_with fail
      refine (refbytes_any row A3 _ c3 _ _ (by omega) hsl5).mono ?_
      rintro e w5 ⟨v5, rfl, hf5⟩
      obtain ⟨A5, c5, rfl, _, _⟩ := own_shape hf5.1
      have hw15 := hw14.ch hf5.2.2 (fun _ _ h => h)
      have hw25 := hw24.ch hf5.2.2 (fun _ _ h => h)
      have hrow5 := hrow4.ch hf5.2.2 (fun _ _ h => h)
      have hch5 := hch4.trans hf5.2.2 (fun _ _ h => h.elim)
      have hs5 := Sl.of_own hf5.1
      clear hw14 hw24 hrow4 hcc4 hsl5 hch4 hf5
      go_wp2_with (at_builtin; refine wp_app rfl (.tmp 49) (.tmp 54) Tb rfl rfl hrow5.1 rfl hs5 ?c1 ?c2 ?c3 ?_)
      case c1 => exact ints_cells _ _
      case c2 => omega
      case c3 => omega
      intro u2 w6 hown6 hg6 hb6
      have hrel6 : RowsRel l wb w.heap.size (w.heap.size + 1) (k + 1) u2 w6 := by
        have hc6 : Ch (fun b => (Value.slice Au (pre l k).length cu).ownBlock = some b) w5 w6 := (Ch.refl _ _).grown hg6 fun _ h => .inl h
        refine ⟨v2, hw15.ch hc6 fun b hb h => ?_, hw25.ch hc6 fun b hb h => ?_, ⟨?_, fun b hb => ?_⟩, fun b hb h => ?_, hvb2, hch5.trans hc6 fun i hi h => .inr (hrow5.2 i h)⟩
        · rcases hb with rfl | hb
          · have := hrow5.2 _ h; omega
          · exact hap2 b hb h
        · rcases hb with rfl | hb
          · have := hrow5.2 _ h; omega
          · simp [Value.ownBlock] at hb
        · rw [HPM.out, List.map_append, List.length_append]
          exact hown6
        · rcases hb6 with h | h
          · exact hrow5.2 b (by rw [← h]; exact hb)
          · rw [h] at hb
            injection hb with hb
            have := hch5.size
            omega
        · rcases hb6 with h6 | h6
          · exact hap2 b hb (by rw [← h6]; exact h)
          · rw [h6] at h
            injection h with h
            have := hw15.row_lt hb
            omega
      obtain ⟨Au2, cu2, rfl, _, _⟩ := own_shape hown6
      have HREL6 := Lib.hid hrel6
      clear hown6 hg6 hb6 hrel6 hw15 hw25 hrow5 hch5 hs5 hap2 hvb2 hg2
      go_wp2_with fail
      go_roundw
      case rel => exact ⟨k + 1, by omega, by go_num, HREL6.out⟩
      case measure => simp [intOf]; omega
    · obtain rfl : k = n := by omega
      obtain ⟨T, eT⟩ : ∃ T, T = pre l k := ⟨_, rfl⟩
      have hTl : T.length ≤ 20000 := by rw [eT]; exact HP.out k hk
      have hall : l.flatMap rowB = T := by rw [eT]; exact pre_all hlb.len
      rw [← eT] at hw1 hrow hap
      rw [show (pre l k).length = T.length by rw [eT]]
      have hrowlt := hrow.lt
      have hlr := hlb.ch hch hnb
      have hrr := Sl.ch hrb hch hnb
      have hub : ∀ b, (Value.slice Au T.length cu).ownBlock = some b → wb.heap.size ≤ b := hrow.2
      have hrow0 : Row wb (.slice Au T.length cu) T wr := hrow
      have HALL := Lib.hid hall
      have ET := Lib.hid eT
      have hvlt : ∀ b, v.ownBlock = some b → b < wr.heap.size := fun b hb => hw1.row_lt hb
      have hw2lt := hw2.lt
      clear eT hall hlt hk
      go_wp2_with fail
      refine (bytes_any (w.heap.size + 1) (.slice none 0 0) [] l A k c wr (fun b => b < w.heap.size) (by omega) hw2 hlr (fun b hb _ h => ?_) (by rw [HALL.out]; simp; omega)).mono ?_
      · rcases h with h | h
        · omega
        · simp [Value.ownBlock] at h
      rintro e w1 ⟨rfl, v2, hw21, hc1, hn1⟩
      rw [List.nil_append, HALL.out] at hw21
      have hD0 : Ch (fun b => w.heap.size ≤ b) wb wr := hch.mono fun i _ h => by rcases h with h | h <;> omega
      have hna : ∀ b, b < w.heap.size → b < wb.heap.size → ¬ w.heap.size ≤ b := fun b h _ h2 => by omega
      have hvb2 : ∀ g, v2.ownBlock = some g → wr.heap.size ≤ g := fun g hg => by
        rcases hn1 g hg with h | h
        · simp [Value.ownBlock] at h
        · exact h
      have hnil : ∀ g, (Value.slice none 0 0).ownBlock = some g → g ≠ w.heap.size := fun g hg => by simp [Value.ownBlock] at hg
      have hw11 := hw1.ch hc1 (wr_apart hw1 (by omega) hnil (fun g hg h => by have := hvb g hg; omega) (fun g _ h => by simp [Value.ownBlock] at h))
      have hrow1 := hrow.ch hc1 (ws_apart (by omega) hrow (Apart.nil_ _))
      have hD1 : Ch (fun b => w.heap.size ≤ b) wb w1 := hD0.trans hc1 fun i _ h => by
        rcases h with h | h
        · omega
        · simp [Value.ownBlock] at h
      have hs1 := hc1.size
      have hap12 : Apart v2 v := fun g hg h => by have := hvb2 g hg; have := hvlt g h; omega
      have hap2u : Apart v2 (.slice Au T.length cu) := fun g hg h => by have := hvb2 g hg; have := hrowlt g h; omega
      have hv2w : ∀ g, v2.ownBlock = some g → g ≠ w.heap.size := fun g hg h => by have := hvb2 g hg; omega
      have hvw : ∀ g, v.ownBlock = some g → g ≠ w.heap.size + 1 := fun g hg h => by have := hvb g hg; omega
      have hvw0 : ∀ g, v.ownBlock = some g → g ≠ w.heap.size + 1 := hvw
      clear hw1 hw2 hrow hc1 hn1 hnil hlr hrr hD0
      go_wp2_with fail
      refine (raw_any w.heap.size v T raw R m d w1 _ hw11 (Sl.ch hrb hD1 hna) (by omega)).mono ?_
      rintro e w2 ⟨rfl, v3, hw12, hc2, hn2⟩
      have hw22 := hw21.ch hc2 (wr_apart hw21 (by omega) hvw hv2w hap12)
      have hrow2 := hrow1.ch hc2 (ws_apart (by omega) hrow1 hap)
      have hD2 : Ch (fun b => w.heap.size ≤ b) wb w2 := hD1.trans hc2 fun i _ h => by
        rcases h with h | h
        · omega
        · have := hvb i h; omega
      have hult1 := hrow1.lt
      have hv2lt1 : ∀ b, v2.ownBlock = some b → b < w1.heap.size := fun b hb => hw21.row_lt hb
      have hap3u : Apart v3 (.slice Au T.length cu) := hap.newer hn2 hult1
      have hap32 : Apart v3 v2 := (Apart.symm hap12).newer hn2 hv2lt1
      have hv3b : ∀ g, v3.ownBlock = some g → wb.heap.size ≤ g := hn2.ge hvb (by omega)
      have hs2 := hc2.size
      have hv3w : ∀ g, v3.ownBlock = some g → g ≠ w.heap.size + 1 := fun g hg h => by have := hv3b g hg; omega
      clear hw11 hw21 hrow1 hc2 hn2 hap12 hap hvw hvw0 hvlt hvb hD1
      go_wp2_with fail
      refine (raw_any (w.heap.size + 1) v2 T raw R m d w2 _ hw22 (Sl.ch hrb hD2 hna) (by omega)).mono ?_
      rintro e w3 ⟨rfl, v4, hw23, hc3, hn3⟩
      have hw13 := hw12.ch hc3 (wr_apart hw12 (by omega) hv2w hv3w hap32)
      have hrow3 := hrow2.ch hc3 (ws_apart (by omega) hrow2 hap2u)
      have hD3 : Ch (fun b => w.heap.size ≤ b) wb w3 := hD2.trans hc3 fun i _ h => by
        rcases h with h | h
        · omega
        · have := hvb2 i h; omega
      have hap4u : Apart v4 (.slice Au T.length cu) := hap2u.newer hn3 hrow2.lt
      clear hw12 hw22 hrow2 hc3 hn3 hap2u hap32 hv2w hv3w hD2
      go_wp2_with (at_builtin; refine wp_app rfl (.tmp 62) (.tmp 63) Tb rfl rfl hrow3.1 rfl (Sl.ch hrb hD3 hna) ?c1 ?c2 ?c3 ?_)
      case c1 => exact ints_cells _ _
      case c2 => omega
      case c3 => omega
      intro u4 w4 hown4 hg4 hb4
      have hc4 : Ch (fun b => (Value.slice Au T.length cu).ownBlock = some b) w3 w4 := (Ch.refl _ _).grown hg4 fun _ h => .inl h
      have hw14 := hw13.ch hc4 fun b hb h => by
        rcases hb with rfl | hb
        · have := hrow3.2 _ h; omega
        · exact hap3u b hb h
      have hw24 := hw23.ch hc4 fun b hb h => by
        rcases hb with rfl | hb
        · have := hrow3.2 _ h; omega
        · exact hap4u b hb h
      have hD4 : Ch (fun b => w.heap.size ≤ b) wb w4 := hD3.trans hc4 fun i _ h => by have := hrow3.2 i h; omega
      obtain ⟨L, eL⟩ : ∃ L, L = T ++ raw := ⟨_, rfl⟩
      have hLl : L.length = T.length + m := by rw [eL, List.length_append, HRL.out]
      rw [← eL] at hw14 hw24
      rw [← List.map_append, ← eL, ← hLl] at hown4
      obtain ⟨A4, c4, rfl, hl4, hm4'⟩ := own_shape hown4
      have hLb : L.length ≤ 30000 := by omega
      have hbL : Byt L := by
        rw [eL, ET.out]
        refine Byt.app (fun x hx => ?_) HBR.out
        obtain ⟨row, h1, h2⟩ := List.mem_flatMap.1 hx
        rcases List.mem_append.1 h2 with h3 | h3
        · exact encN_byte _ x h3
        · exact HA.out row (List.mem_of_mem_take h1) x h3
      have HBL := Lib.hid hbL
      have EL := Lib.hid eL
      have HLL := Lib.hid hLl
      clear hw13 hw23 hrow3 hg4 hb4 hc4 hD3 hap3u hap4u eL hbL hLl hrow0 hrowlt hub hult1 hv2lt1 hv3b hvb2
      go_wp2_with fail
      refine (out_any w.heap.size v3 L w4 hw14 (by omega)).mono ?_
      rintro e w5 ⟨v5, rfl, hf5⟩
      obtain ⟨A5, c5, rfl, _, _⟩ := own_shape hf5.1
      have ho5 := hf5.2.2.own hown4 (fun _ _ h => h)
      have hw25 := hw24.ch hf5.2.2 (fun _ _ h => h)
      go_wp2_with fail
      refine (same_any A5 A4 _ _ c5 c4 L L _ _ w5 (by omega) (by omega) (Sl.of_own hf5.1) (Sl.of_own ho5)).mono ?_
      rintro e w6 ⟨rfl, j6, ew6⟩
      have hc6 : Ch (fun _ => False) w5 w6 := by
        rw [ew6]
        exact (Ch.refl _ _).drewN _
      have ho6 := hc6.own ho5 (fun _ _ h => h)
      have hw26 := hw25.ch hc6 (fun _ _ h => h)
      have hD6 : Ch (fun b => w.heap.size ≤ b) wb w6 := (hD4.trans hf5.2.2 fun _ _ h => h.elim).trans hc6 fun _ _ h => h.elim
      clear hw14 hw24 hown4 hD4 hf5 ho5 hw25 hc6 ew6
      go_wp2_with fail
      refine (out_any (w.heap.size + 1) v4 L w6 hw26 (by omega)).mono ?_
      rintro e w7 ⟨v7, rfl, hf7⟩
      obtain ⟨A7, c7, rfl, _, _⟩ := own_shape hf7.1
      have ho7 := hf7.2.2.own ho6 (fun _ _ h => h)
      go_wp2_with fail
      refine (same_any A7 A4 _ _ c7 c4 L L _ _ w7 (by omega) (by omega) (Sl.of_own hf7.1) (Sl.of_own ho7)).mono ?_
      rintro e w8 ⟨rfl, j8, ew8⟩
      have hc8 : Ch (fun _ => False) w7 w8 := by
        rw [ew8]
        exact (Ch.refl _ _).drewN _
      have ho8 := hc8.own ho7 (fun _ _ h => h)
      have hD8 : Ch (fun b => w.heap.size ≤ b) wb w8 := (hD6.trans hf7.2.2 fun _ _ h => h.elim).trans hc8 fun _ _ h => h.elim
      clear hw26 ho6 hD6 hf7 ho7 hc8 ew8
      go_wp2_with fail
      refine (new_low A4 L.length c4 L w8 _ (Sl.of_own ho8) (by omega) hl4 hm4' HBL.out).mono ?_
      rintro e w9 ⟨br, rfl, hbr, hrd, hc9⟩
      have hD9 : Ch (fun b => w.heap.size ≤ b) wb w9 := hD8.trans hc9 fun _ _ h => h.elim
      have hbrw : wb.heap.size ≤ br := by have := hD8.size; omega
      have hrd0 : RdQ (fun b => b < br) w9 br false ((l.drop 0).flatMap rowB ++ raw) := by
        rw [List.drop_zero, HALL.out, ← EL.out]
        exact hrd
      have HRD := Lib.hid hrd0
      have HD9 := Lib.hid hD9
      clear hrd hrd0 hD8 hD9 hc9 ho8 hbr
      go_wp2_with fail
      go_loopw [11] (fun i wr => ∃ j : Nat, j ≤ k ∧ i = .int .i64 j ∧ RdQ (fun b => b < br) wr br false ((l.drop j).flatMap rowB ++ raw) ∧ Ch (fun b => w.heap.size ≤ b) wb wr) (fun i _ => k - (intOf i).toNat)
      case atStart => exact ⟨0, Nat.zero_le _, rfl, HRD.out, HD9.out⟩
      case round =>
        obtain ⟨j, hj, rfl, hrd, hD⟩ := hrel
        by_cases hlt : j < k
        · obtain ⟨b, off, A3, c3, row, rfl, hFb, ex, hcw, hsl, hrc, hcm⟩ := (hlb.ch hD hna).at_ hlt
          have hrl : row.length ≤ 4000 := HX.out row (List.mem_of_getElem? ex.out)
          have hml : ((l.drop (j + 1)).flatMap rowB ++ raw).length ≤ 100000000 := by
            have := flat_drop_len l (j + 1)
            rw [HALL.out] at this
            rw [List.length_append, HRL.out]
            omega
          have hy := row_yes (fun b => b < br) br row ((l.drop (j + 1)).flatMap rowB ++ raw) _ hrl hml (by
            rw [rest_drop ex.out] at hrd
            simpa using hrd)
          have hrdl := hrd.lt
          have HY := Lib.hid hy
          clear hy hrd hml
          obtain ⟨wo, rfl⟩ : ∃ wo : World, wo = wr := ⟨_, rfl⟩
          go_wp2_with fail
          refine HY.out.mono ?_
          rintro e w1 ⟨v1, rfl, hrow, hrd1, hc1⟩
          clear HY
          obtain ⟨A1, c1, rfl, _, _⟩ := own_shape hrow.1
          have hRS : ∀ i, i < wb.heap.size → ¬ RS br i := fun i hi h => by have h' : i = br := h; omega
          have hD1 : Ch (fun b => w.heap.size ≤ b) wb w1 := hD.trans hc1 fun i hi h => absurd h (hRS i hi)
          have hcc1 := hc1.cell (fun h => hRS b (by omega) h) hcw
          have hsl1 := hsl.ch hc1 fun b (hb : b < w.heap.size) _ => hRS b (by omega)
          clear hD hcw hsl
          go_wp2_with fail
          refine (same_any A1 A3 _ _ c1 c3 row row _ _ w1 (by omega) (by omega) (Sl.of_own hrow.1) hsl1).mono ?_
          rintro e w2 ⟨rfl, j2, ew2⟩
          have hc2 : Ch (fun _ => False) w1 w2 := by
            rw [ew2]
            exact (Ch.refl _ _).drewN _
          have hrd2 := rd_high hrd1 hc2 fun b h => h.elim
          have ho2 := hc2.own hrow.1 (fun _ _ h => h)
          have hD2 : Ch (fun b => w.heap.size ≤ b) wb w2 := hD1.trans hc2 fun _ _ h => h.elim
          have hvb := hrow.2
          clear hrd1 hrow hc1 hD1 hcc1 hsl1 hc2 ew2
          go_wp2_with fail
          refine (spoil_any _ _ _ w2 (by omega) ho2).mono ?_
          rintro e w3 ⟨rfl, hc3⟩
          have hrd3 := rd_high hrd2 hc3 fun b h => by have := hvb b h; omega
          have hD3 : Ch (fun b => w.heap.size ≤ b) wb w3 := hD2.trans hc3 fun i hi h => by have := hvb i h; omega
          have HRD3 := Lib.hid hrd3
          have HD3 := Lib.hid hD3
          clear hrd2 hc3 hD2 ho2 hvb hrd3 hD3
          go_wp2_with fail
          go_roundw
          case rel => exact ⟨j + 1, by omega, by go_num, HRD3.out, HD3.out⟩
          case measure => simp [intOf]; omega
        · obtain rfl : j = k := by omega
          rw [List.drop_of_length_le (by rw [hlb.len]; omega), List.flatMap_nil, List.nil_append] at hrd
          have HRD3 := Lib.hid hrd
          have hra := raw_all (fun b => b < br) br raw m wr HRL.out (by omega) hrd
          have HRA := Lib.hid hra
          clear hrd hra
          go_wp2_with fail
          refine (left_any br false raw _ HRD3.out).mono ?_
          rintro e w' ⟨he, rfl⟩
          rw [HRL.out] at he
          subst he
          go_wp2_with fail
          refine HRA.out.mono ?_
          rintro e w1 ⟨v1, rfl, hrow, hrd1, hc1⟩
          clear HRA
          obtain ⟨A1, c1, rfl, _, _⟩ := own_shape hrow.1
          have hRS : ∀ i, i < wb.heap.size → ¬ RS br i := fun i hi h => by have h' : i = br := h; omega
          have hr1 := (Sl.ch hrb hD hna).ch hc1 fun b (hb : b < w.heap.size) _ => hRS b (by omega)
          have hD1 : Ch (fun b => w.heap.size ≤ b) wb w1 := hD.trans hc1 fun i hi h => absurd h (hRS i hi)
          have hs1 := Sl.of_own hrow.1
          rw [HRL.out] at hs1
          rw [HRL.out]
          clear hD hrow hc1
          go_wp2_with fail
          refine (same_any A1 R _ _ c1 d raw raw _ _ w1 (by omega) (by omega) hs1 hr1).mono ?_
          rintro e w2 ⟨rfl, j2, ew2⟩
          have hc2 : Ch (fun _ => False) w1 w2 := by
            rw [ew2]
            exact (Ch.refl _ _).drewN _
          have hrd2 := rd_high hrd1 hc2 fun b h => h.elim
          have hD2 : Ch (fun b => w.heap.size ≤ b) wb w2 := hD1.trans hc2 fun _ _ h => h.elim
          have hF2 : Ch (fun _ => False) w w2 := HCB.out.trans hD2 fun i hi h => by omega
          have HRD5 := Lib.hid hrd2
          have HF2 := Lib.hid hF2
          clear hrd1 hD1 hs1 hr1 hc2 ew2 hrd2 hD2 hF2
          go_wp2_with (first | (go_at_call 19; refine (whole_any br false [] _ HRD5.out).mono ?_; rintro e w' ⟨rfl, rfl⟩))
          refine (known_any _ (HT.out.ch HF2.out fun h => h)).mono ?_
          rintro e w3 ⟨rfl, hc3⟩
          have hF := HF2.out.trans hc3 fun _ _ h => h
          clear hc3
          go_wp2
          go_ret
          exact ⟨rfl, hF⟩
end Go.Proofs.YtppplchllnalpaaDoor
