/-
  The contract of split.
-/
import Derived.Test.YtbckiefkppgipaaDoorWaRow
import Derived.Test.YtbckiefkppgipaaDoorBiOf
namespace Go.Proofs.YtbckiefkppgipaaDoor
open Go.RowKit Go.Oct Go.Bi Go.Wa

/-- A row under way: those of the kinds that are done, and of the one at hand those among the first j. -/
def spUp (p : Nat → Bool) (l : List Nat) (k j : Nat) : List Nat := (if k = 0 then [] else if k = 1 then l.filter (fun x => p x == false) else Wa.part p l) ++ (l.take j).filter (fun x => p x == decide (k = 1))
theorem spUp_zero (p : Nat → Bool) (l : List Nat) : spUp p l 0 0 = [] := by unfold spUp; rw [if_pos rfl]; rfl
theorem spUp_turn {p : Nat → Bool} {l : List Nat} {k : Nat} (hk : k < 2) : spUp p l k l.length = spUp p l (k + 1) 0 := by
  have hk' : k = 0 ∨ k = 1 := by omega
  unfold spUp
  rcases hk' with rfl | rfl
  · rw [if_pos rfl, if_neg (by decide), if_pos rfl, List.take_length, List.take_zero, List.filter_nil, List.append_nil, List.nil_append]
    rfl
  · rw [if_neg (by decide), if_pos rfl, if_neg (by decide), if_neg (by decide), List.take_length, List.take_zero, List.filter_nil, List.append_nil]
    rfl
theorem spUp_all (p : Nat → Bool) (l : List Nat) : spUp p l 2 0 = Wa.part p l := by
  unfold spUp
  rw [if_neg (by decide), if_neg (by decide), List.take_zero, List.filter_nil, List.append_nil]
theorem spUp_yes {p : Nat → Bool} {l : List Nat} {k j x : Nat} (h : l[j]? = some x) (hp : p x = decide (k = 1)) : spUp p l k (j + 1) = spUp p l k j ++ [x] := by
  have h1 : [x].filter (fun x => p x == decide (k = 1)) = [x] := by rw [List.filter_cons_of_pos (by rw [hp]; exact beq_self_eq_true _), List.filter_nil]
  unfold spUp
  rw [List.take_add_one, h, List.filter_append, List.append_assoc]
  exact congrArg _ (congrArg _ h1)
theorem spUp_no {p : Nat → Bool} {l : List Nat} {k j x : Nat} (h : l[j]? = some x) (hp : p x = !decide (k = 1)) : spUp p l k (j + 1) = spUp p l k j := by
  have h1 : [x].filter (fun x => p x == decide (k = 1)) = [] := by rw [List.filter_cons_of_neg (by rw [hp]; cases decide (k = 1) <;> decide), List.filter_nil]
  unfold spUp
  rw [List.take_add_one, h, List.filter_append]
  rw [show (some x).toList = [x] from rfl, h1, List.append_nil]
theorem spUp_len (p : Nat → Bool) (l : List Nat) (k j : Nat) : (spUp p l k j).length ≤ 2 * l.length := by
  unfold spUp
  rw [List.length_append]
  have h1 := List.length_filter_le (fun x => p x == false) l
  have h2 := List.length_filter_le (fun x => p x == decide (k = 1)) (l.take j)
  have h3 := part_len p l
  rw [List.length_take] at h2
  split
  · rw [List.length_nil]
    omega
  · split <;> omega

def vals (l : List Nat) : List Value := l.map fun x : Nat => Value.int .i64 (x : Int)
theorem vals_asI (l : List Nat) : (asI l).map (Value.int .i64) = vals l := by unfold asI vals; rw [List.map_map]; rfl
theorem run_mkI0 (n : Nat) (hn : n ≤ 1048576) (w : World) : (Instr.makeSlice 22 (.int .i64 0) (.int .i64 (n : Int))).run Tryd.prog w = .ok (.slice (some ⟨w.heap.size, 0, none⟩) 0 n) (w.alloc (.cells (madeCells #[.int .i64 0] n) 3)) := run_mk elemI n (by omega) (by omega) w

/-- A row under way in memory: B: the block in which it began; B and what is new alone may have turned. -/
structure Grow (w0 w : World) (B : Nat) (v : Value) (xs : List Nat) : Prop where
  own : w.ownsRow 0 3 1 v xs.length (vals xs)
  ch : Ch (fun k => k = B) w0 w
  lies : ∃ g, v.ownBlock = some g ∧ (g = B ∨ w0.heap.size ≤ g)

theorem own_form {w : World} {base : Nat} {e : TypeId} {size n : Nat} {v : Value} {xs : List Value} (h : w.ownsRow base e size v n xs) : (v = .slice none 0 0 ∧ n = 0) ∨ ∃ g c, v = .slice (some ⟨g, 0, none⟩) n c ∧ n ≤ c ∧ c ≤ maxLen := by
  rcases h.2 with ⟨rfl, rfl⟩ | ⟨g, cap, cur, rfl, _, _, h1, h2, _⟩
  · exact .inl ⟨rfl, rfl⟩
  · exact .inr ⟨g, cap, rfl, h1, h2⟩
section
variable {F G : Nat → Prop}
set_option maxHeartbeats 2000000 in
theorem split_any (l : List Nat) (p : Nat → Bool) (n c c' : Nat) (A A' : Option Addr) (w : World) (hs : Sl w F .i64 A n (asI l)) (hb : Sb w G A' n (l.map p)) (hn : n ≤ 131072) :
    Calls Tryd.prog 25 #[.slice A n c, .slice A' n c'] w fun e w' => ∃ (g cc : Nat), e = .returned (.slice (some ⟨g, 0, none⟩) n cc) ∧ Sl w' (fun b => b = g) .i64 (some ⟨g, 0, none⟩) n (asI (Wa.part p l)) ∧ w.heap.size ≤ g ∧ n ≤ cc ∧ cc ≤ maxLen ∧ Ch (fun _ => False) w w' := by
  have hl : l.length = n := by rw [← asI_len]; exact hs.len
  have hs' := hs.mono (G := fun b => b < w.heap.size) (fun b h _ => h)
  have hb' : Sb w (fun b => b < w.heap.size) A' n (l.map p) := Vs.mono hb (fun b h _ => h)
  have HL := Bx.mk hl
  have hmk := run_mkI0 n (by omega) w
  clear hb hs hl
  go_enter Tryd.func25, Tryd.ntmps25
  go_wp2_with fail
  obtain ⟨B, hB⟩ : ∃ B, w.heap.size = B := ⟨_, rfl⟩
  obtain ⟨w0, hw0⟩ : ∃ w0, ((w.alloc (.cells (madeCells #[.int .i64 0] n) 3)).alloc (.cells #[.bool false, .bool true] 4)) = w0 := ⟨_, rfl⟩
  have hC0 : Ch (fun _ => False) w w0 := by rw [← hw0]; exact (((Ch.refl (fun _ => False) w).alloc _).alloc _)
  have hcc : w0.cell? ⟨B + 1, 0, none⟩ = some (.bool false) ∧ w0.cell? ⟨B + 1, 1, none⟩ = some (.bool true) := by
    have := cells2 (w.alloc (.cells (madeCells #[.int .i64 0] n) 3)) (.bool false) (.bool true) 4
    rw [World.size_alloc, hB] at this
    rw [← hw0]
    exact this
  have hsz : w0.heap.size = B + 2 := by rw [← hw0, World.size_alloc, World.size_alloc, hB]
  have hG0 : Grow w0 w0 B (.slice (some ⟨B, 0, none⟩) 0 n) (spUp p l 0 0) := by
    refine ⟨?_, Ch.refl _ _, B, rfl, .inl rfl⟩
    rw [spUp_zero, ← hw0, ← hB]
    exact (World.ownsRow_made (base := 0) (e := 3) (size := 1) w (madeCells #[.int .i64 0] n) n (Nat.zero_le _) (by unfold maxLen; omega) (by simp [madeCells])).alloc _
  rw [hw0, hB]
  rw [hB] at hs' hb'
  have HS : Bx (Sl w0 (fun b => b < B) .i64 A n (asI l)) := ⟨hs'.ch hC0 (fun _ _ _ h => h)⟩
  have HB : Bx (Sb w0 (fun b => b < B) A' n (l.map p)) := ⟨Vs.ch hb' hC0 (fun _ _ _ h => h)⟩
  clear hs' hb'
  have HG0 := Bx.mk hG0
  have HC0 := Bx.mk hC0
  have HBB := Bx.mk hB
  have HCC := Bx.mk hcc
  clear hG0 hC0 hB hcc hw0
  go_loopw [5, 7, 8, 9, 15] (fun r _ _ _ i wr => ∃ k : Nat, k ≤ 2 ∧ i = .int .i64 k ∧ Grow w0 wr B r (spUp p l k 0)) (fun _ _ _ _ i _ => 2 - (intOf i).toNat)
  case atStart => exact ⟨0, by omega, rfl, HG0.out⟩
  case round =>
    obtain ⟨k, hk, rfl, hG⟩ := hrel
    by_cases hlt : k < 2
    · have hcell : wr.cell? ⟨B + 1, k, none⟩ = some (.bool (decide (k = 1))) := by
        have hk' : k = 0 ∨ k = 1 := by omega
        rcases hk' with rfl | rfl
        · exact hG.ch.cell (p := ⟨B + 1, 0, none⟩) (fun h => by have h' : B + 1 = B := h; omega) HCC.out.1
        · exact hG.ch.cell (p := ⟨B + 1, 1, none⟩) (fun h => by have h' : B + 1 = B := h; omega) HCC.out.2
      have HG := Bx.mk hG
      obtain ⟨o, ho⟩ : ∃ o, decide (k = 1) = o := ⟨_, rfl⟩
      rw [ho] at hcell
      have HO := Bx.mk ho
      have ek : decide ((k : Int) < 2) = true := by simp; omega
      clear hG ho
      go_wp2_with fail
      go_loopw [5, 8, 9, 21] (fun r _ _ i wq => ∃ j : Nat, j ≤ n ∧ i = .int .i64 j ∧ Grow w0 wq B r (spUp p l k j)) (fun _ _ _ i _ => n - (intOf i).toNat)
      case atStart => exact ⟨0, Nat.zero_le _, rfl, HG.out⟩
      case round =>
        obtain ⟨j, hj, rfl, hG⟩ := hrel
        by_cases hjl : j < n
        · obtain ⟨b1, o1, x0, rfl, _, hx0, hcx⟩ := (HS.out.ch hG.ch (fun b hb _ (h : b = B) => by omega)).at_ hjl
          obtain ⟨b2, o2, rfl, _, hcd⟩ := Sb.at_ (Vs.ch HB.out hG.ch (fun b hb _ (h : b = B) => by omega)) hjl
          have hx : l[j]? = some (l.getD j 0) := by rw [List.getD_eq_getElem?_getD, List.getElem?_eq_getElem (by rw [HL.out]; exact hjl)]; rfl
          have hx0' := hx0.out
          unfold asI at hx0'
          rw [List.getElem?_map, hx] at hx0'
          simp only [Option.map_some, Option.some.injEq] at hx0'
          have hd : (l.map p).getD j false = p (l.getD j 0) := by rw [List.getD_eq_getElem?_getD, List.getElem?_map, hx]; rfl
          rw [hd] at hcd
          rw [← hx0'] at hcx
          generalize l.getD j 0 = x at *
          have hlen := spUp_len p l k j
          rw [HL.out] at hlen
          have HX := Bx.mk hx
          have HG2 := Bx.mk hG
          obtain ⟨A2, c2, rfl, _, _⟩ := own_shape hG.own
          clear hx hx0 hx0' hd hG
          by_cases hp : p x = o
          · have HY := Bx.mk (spUp_yes (p := p) (k := k) HX.out (by rw [hp, HO.out]))
            rw [hp] at hcd
            have HP := Bx.mk hp
            clear hp
            go_wp2_with (at_builtin; refine wp_app rfl (.tmp 32) (.tmp 34) elemI rfl rfl (HG2.out.own.alloc _) rfl (Vs.one _ _ _) ?c1 ?c2 ?c3 ?_)
            case c1 => intro u hu; simp at hu; subst hu; rfl
            case c2 => omega
            case c3 => omega
            intro v' w2 ho1 hg1 hb1
            have hG3 : Grow w0 w2 B v' (spUp p l k (j + 1)) := by
              have hch := (HG2.out.ch.alloc (.cells #[.int .i64 x] 3)).grown hg1 (fun q hq => by
                obtain ⟨q', hq', hl⟩ := HG2.out.lies
                obtain rfl : q' = q := Option.some.inj (hq'.symm.trans hq)
                exact hl)
              refine ⟨?_, hch, ?_⟩
              · rw [HY.out, List.length_append]
                unfold vals at *
                rw [List.map_append]
                exact ho1
              · rcases hb1 with h | h
                · rw [h]
                  exact HG2.out.lies
                · have := HG2.out.ch.size
                  exact ⟨_, h, .inr (by omega)⟩
            have HG3 := Bx.mk hG3
            clear hG3 ho1 hg1 hb1
            go_wp2
            go_roundw
            case rel => exact ⟨j + 1, by omega, by go_num, HG3.out⟩
            case measure => simp [intOf]; omega
          · have hp' : p x = !o := by cases o <;> cases h : p x <;> simp_all
            have HY := Bx.mk (spUp_no (p := p) (k := k) HX.out (by rw [hp', HO.out]))
            have hne : ((!o) == o) = false := by cases o <;> rfl
            rw [hp'] at hcd
            clear hp hp'
            go_wp2
            go_roundw
            case rel => exact ⟨j + 1, by omega, by go_num, by rw [HY.out]; exact HG2.out⟩
            case measure => simp [intOf]; omega
        · obtain rfl : j = n := by omega
          have hl := HL.out
          subst hl
          rw [spUp_turn hlt] at hG
          have HG2 := Bx.mk hG
          clear hG
          go_wp2
          go_roundw
          case rel => exact ⟨k + 1, by omega, by go_num, HG2.out⟩
          case measure => simp [intOf]; omega
    · obtain rfl : k = 2 := by omega
      rw [spUp_all] at hG
      have hpl : (Wa.part p l).length = n := by rw [part_len]; exact HL.out
      have hC : Ch (fun _ => False) w wr := HC0.out.trans hG.ch (fun i hi (e : i = B) => by have := HBB.out; omega)
      have ho := hG.own
      rw [hpl] at ho
      obtain ⟨g', hg', hlies⟩ := hG.lies
      rcases own_form ho with ⟨rfl, h0⟩ | ⟨g, cap, rfl, h1, h2⟩
      · cases hg'
      · have hg : B ≤ g := by
          obtain rfl : g = g' := Option.some.inj hg'
          omega
        have HR : Bx (Sl wr (fun b => b = g) .i64 (some ⟨g, 0, none⟩) n (asI (Wa.part p l))) := ⟨by
          rw [← vals_asI] at ho
          exact Own.sl ⟨ho⟩⟩
        have HC := Bx.mk hC
        clear hG ho hlies hC hpl
        go_wp2
        go_ret
        exact ⟨g, cap, rfl, HR.out, by have := HBB.out; omega, h1, h2, HC.out⟩
end
end Go.Proofs.YtbckiefkppgipaaDoor
