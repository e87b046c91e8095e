/-
  The contracts of the document's answers haystackref7.Turned and Extract.
  Conditions: the texts read as bytes; not too many symbols.
-/
import Derived.Test.YtckkjccjkdidjaaGreatDoorFmB
import Derived.Test.YtckkjccjkdidjaaGreatDoorBwD
namespace Go.Proofs.YtckkjccjkdidjaaGreatDoor
open Go.RowKit Go.Oct Go.Su

/-- What Turned leaves. -/
def TurnedOf (xss : List (List Int)) (w : World) (e : Ending) (w' : World) : Prop := ∃ (A : Option Addr) (c : Nat) (l : List Int), e = .returned (.slice A (txt xss).length c) ∧ Sl w' (fun b => w.heap.size ≤ b) .i64 A (txt xss).length l ∧ Turned (txt xss) l ∧ Ch (fun _ => False) w w'
theorem Gs.sl {e : TypeId} {w wr : World} {A : Option Addr} {n c : Nat} {K : IntKind} {xs : List Int} (h : Gs e 1 w wr (.slice A n c) n (xs.map (Value.int K))) : Sl wr (fun b => w.heap.size ≤ b) K A n xs := h.vs
section
variable {F : Nat → Prop}
theorem refturned_any (xss : List (List Int)) (A : Option Addr) (n c : Nat) (w : World) (hz : Sls w F A n xss) (hb : Byts xss) (hN : (txt xss).length ≤ 65536) :
    Calls Tryz.prog 31 #[.slice A n c] w (TurnedOf xss w) := by
  have hr := refrow_any xss A n c w hz hb (by omega)
  have HB := Bx.mk hb
  clear hz hb
  go_enter Tryz.func31, Tryz.ntmps31
  go_wp2_with fail
  refine hr.mono ?_
  rintro e w1 ⟨v, rfl, hG⟩
  obtain ⟨A1, c1, rfl, _, _⟩ := hG.shape
  have ht := refturn_any (txt xss) A1 (txt xss).length c1 w1 hG.sl hN
  have HC := Bx.mk hG.ch
  have HT := Bx.mk ht
  clear hG hr ht
  obtain ⟨N, hNe⟩ : ∃ N, (txt xss).length = N := ⟨_, rfl⟩
  have HNE := Bx.mk hNe
  rw [hNe] at HT hN
  rw [hNe]
  clear hNe
  go_wp2_with fail
  refine HT.out.mono ?_
  rintro e w2 ⟨A2, c2, m, ec, l, rfl, hS, hR, hC⟩
  have HS : Bx (m = N ∧ Sl w2 (fun b => w.heap.size ≤ b) .i64 A2 m l ∧ Turned (txt xss) l) := ⟨by
    rcases hR with ⟨h1, _⟩ | ⟨_, h1, _⟩ | ⟨_, _, h2, h3⟩
    · omega
    · exact absurd (txt_closed HB.out.pos) h1
    · exact ⟨h2, hS.mono (fun b _ hb => Nat.le_trans HC.out.size hb), h3⟩⟩
  have HC2 := Bx.mk (HC.out.trans hC (fun _ _ h => h))
  clear hS hR hC HT
  go_wp2
  go_ret
  obtain ⟨h1, h2, h3⟩ := HS.out
  subst h1
  rw [← HNE.out] at h2
  exact ⟨A2, c2, l, by rw [HNE.out]; rfl, h2, h3, HC2.out⟩
/-- The part of a text. -/
def ext (xss : List (List Int)) (d f k : Int) : List Int := if d < 0 ∨ (xss.length : Int) ≤ d ∨ f < 0 ∨ k < 0 ∨ ((xss.getD d.toNat []).length : Int) < f then [] else ((xss.getD d.toNat []).drop f.toNat).take k.toNat
/-- A new row of bytes. -/
def NewBytes (xs : List Int) (w : World) (e : Ending) (w' : World) : Prop := ∃ v, e = .returned v ∧ Fresh w v xs w'
theorem newbytes_nil (w : World) : NewBytes [] w (.returned (.slice none 0 0)) w := ⟨_, rfl, World.ownsRow_nil _ _ _ _, fun g hg => by simp [Value.ownBlock] at hg, Ch.refl _ _⟩
theorem own_made0 (w : World) (e : TypeId) : (w.alloc (.cells #[] e)).ownsRow 0 e 1 (.slice (some ⟨w.heap.size, 0, none⟩) 0 0) 0 [] := World.ownsRow_made w #[] 0 (Nat.zero_le _) (by unfold maxLen; omega) rfl
theorem fresh_made {w w5 : World} {v5 : Value} {m : Nat} {xs : List Int} (ho : w5.ownsRow 0 5 1 v5 m (xs.map (Value.int .u8))) (hg : (w.alloc (.cells #[] 5)).grownBy w5 (some w.heap.size)) (hb : v5.ownBlock = some w.heap.size ∨ v5.ownBlock = some (w.heap.size + 1)) : Fresh w v5 xs w5 := by
  have h0 : Fresh w (.slice (some ⟨w.heap.size, 0, none⟩) 0 0) [] (w.alloc (.cells #[] 5)) := ⟨own_made0 w _, fun g hg => by simp [Value.ownBlock] at hg; omega, (Ch.refl _ _).alloc _⟩
  have := h0.app (zs := xs) (m := m) hg (by simpa using ho) (by
    rw [World.size_alloc]
    exact hb)
  rwa [List.nil_append] at this
set_option maxHeartbeats 1000000 in
theorem refext_any (xss : List (List Int)) (A : Option Addr) (n c : Nat) (d f k : Int) (w : World) (hz : Sls w F A n xss) (hN : ∀ t ∈ xss, t.length ≤ 1048576) :
    Calls Tryz.prog 36 #[.slice A n c, .int .i64 d, .int .i64 f, .int .i64 k] w (NewBytes (ext xss d f k) w) := by
  have HL := Bx.mk hz.len
  have HZ := Bx.mk hz
  obtain ⟨r, hr⟩ : ∃ r, ext xss d f k = r := ⟨_, rfl⟩
  have HR := Bx.mk hr
  rw [hr]
  clear hr hz
  by_cases h1 : d < 0
  · have e1 : decide (d < 0) = true := decide_eq_true h1
    obtain rfl : r = [] := by rw [← HR.out]; unfold ext; rw [if_pos (.inl h1)]
    go_enter Tryz.func36, Tryz.ntmps36
    go_wp2
    go_ret
    exact newbytes_nil w
  · have e1 : decide (d < 0) = false := decide_eq_false h1
    by_cases h2 : (n : Int) ≤ d
    · have e2 : decide ((n : Int) ≤ d) = true := decide_eq_true h2
      obtain rfl : r = [] := by rw [← HR.out]; unfold ext; rw [HL.out, if_pos (.inr (.inl h2))]
      go_enter Tryz.func36, Tryz.ntmps36
      go_wp2
      go_ret
      exact newbytes_nil w
    · have e2 : decide ((n : Int) ≤ d) = false := decide_eq_false h2
      by_cases h3 : f < 0
      · have e3 : decide (f < 0) = true := decide_eq_true h3
        obtain rfl : r = [] := by rw [← HR.out]; unfold ext; rw [if_pos (.inr (.inr (.inl h3)))]
        go_enter Tryz.func36, Tryz.ntmps36
        go_wp2
        go_ret
        exact newbytes_nil w
      · have e3 : decide (f < 0) = false := decide_eq_false h3
        by_cases h4 : k < 0
        · have e4 : decide (k < 0) = true := decide_eq_true h4
          obtain rfl : r = [] := by rw [← HR.out]; unfold ext; rw [if_pos (.inr (.inr (.inr (.inl h4))))]
          go_enter Tryz.func36, Tryz.ntmps36
          go_wp2
          go_ret
          exact newbytes_nil w
        · have e4 : decide (k < 0) = false := decide_eq_false h4
          obtain ⟨q, rfl⟩ : ∃ q : Nat, d = q := ⟨d.toNat, by omega⟩
          obtain ⟨b, off, A', c', t, rfl, hFb, ex, hc, hsl, hlc, hcm⟩ := HZ.out.at_ (k := q) (by omega)
          have hrt : r = if ((t.length : Int) < f) then [] else (t.drop f.toNat).take k.toNat := by
            rw [← HR.out]
            unfold ext
            rw [HL.out, Int.toNat_natCast, List.getD_eq_getElem?_getD, ex.out]
            simp only [Option.getD_some]
            by_cases h5 : (t.length : Int) < f
            · rw [if_pos (.inr (.inr (.inr (.inr h5)))), if_pos h5]
            · rw [if_neg (by rintro (g | g | g | g | g) <;> omega), if_neg h5]
          have htl := hN t (List.mem_of_getElem? ex.out)
          have HSL := Bx.mk hsl
          obtain ⟨tl, htle⟩ : ∃ tl, t.length = tl := ⟨_, rfl⟩
          rw [htle] at hrt hc HSL hlc htl
          have HTL := Bx.mk htle
          have HRT := Bx.mk hrt
          have i1 : (q : Int) < (n : Int) := by omega
          have hc63 : c' ≤ 9223372036854775807 := by unfold maxLen at hcm; omega
          clear hsl ex hrt htle HR
          by_cases h5 : (tl : Int) < f
          · have e5 : decide ((tl : Int) < f) = true := decide_eq_true h5
            obtain rfl : r = [] := by rw [HRT.out, if_pos h5]
            go_enter Tryz.func36, Tryz.ntmps36
            go_wp2
            go_ret
            exact newbytes_nil w
          · have e5 : decide ((tl : Int) < f) = false := decide_eq_false h5
            obtain ⟨a, rfl⟩ : ∃ a : Nat, f = a := ⟨f.toNat, by omega⟩
            obtain ⟨m, rfl⟩ : ∃ m : Nat, k = m := ⟨k.toNat, by omega⟩
            have hre : r = (t.drop a).take m := by rw [HRT.out, if_neg h5]; rfl
            have HRE := Bx.mk hre
            have i2 : (a : Int) ≤ (c' : Int) := by omega
            have i3 : (a : Int) ≤ (tl : Int) := by omega
            obtain ⟨g, hg⟩ : ∃ g, min m (tl - a) = g := ⟨_, rfl⟩
            have HG : Bx ((t.drop a).take m = (t.drop a).take g) := ⟨by
              rw [← hg, ← HTL.out, ← List.length_drop]
              rcases Nat.le_total m (t.drop a).length with g1 | g1
              · rw [Nat.min_eq_left g1]
              · rw [Nat.min_eq_right g1, List.take_of_length_le g1, List.take_of_length_le (Nat.le_refl _)]⟩
            have hga : a + g ≤ tl := by omega
            have hcase : ((m : Int) < (tl : Int) - (a : Int) ∧ g = m) ∨ ((g : Int) < (m : Int) ∧ (tl : Int) - (a : Int) = (g : Int)) ∨ ((tl : Int) - (a : Int) = (m : Int) ∧ g = m) := by omega
            have HCASE := Bx.mk hcase
            clear hre h1 h2 h3 h4 h5 HRT hg hcase
            by_cases hatl : tl = a
            · have hg0 : g = 0 := by omega
              obtain rfl : r = [] := by rw [HRE.out, HG.out, hg0, List.take_zero]
              subst hatl
              clear HCASE hg0 hga HG HRE i3
              rcases Nat.eq_zero_or_pos m with rfl | hm0
              · cases A' with
                | none =>
                  have ha0 : tl = 0 := by
                    rcases Nat.eq_zero_or_pos tl with g1 | g1
                    · exact g1
                    · obtain ⟨_, _, _, e, _⟩ := HSL.out.at_ g1
                      cases e
                  subst ha0
                  go_enter Tryz.func36, Tryz.ntmps36
                  go_wp2
                  go_ret
                  exact ⟨_, rfl, own_made0 w _, fun g hg => by simp [Value.ownBlock] at hg; omega, (Ch.refl _ _).alloc _⟩
                | some ad =>
                  rcases Nat.lt_or_ge tl c' with hca | hca
                  · have hca2 : ¬ c' = tl := by omega
                    go_enter Tryz.func36, Tryz.ntmps36
                    go_wp2_with (at_builtin; refine wp_app rfl (.tmp 41) (.tmp 47) Tb rfl rfl (own_made0 w 5) rfl (Vs.nil _ (fun _ => True) _) ?c1 ?c2 ?c3 ?_)
                    case c1 => intro u hu; cases hu
                    case c2 => omega
                    case c3 => omega
                    intro v5 w5 ho1 hg1 hb1
                    have HF := Bx.mk (fresh_made (xs := []) ho1 hg1 hb1)
                    clear ho1 hg1 hb1
                    go_wp2
                    go_ret
                    exact ⟨v5, rfl, HF.out⟩
                  · obtain rfl : c' = tl := by omega
                    go_enter Tryz.func36, Tryz.ntmps36
                    go_wp2_with (at_builtin; refine wp_app rfl (.tmp 41) (.tmp 47) Tb rfl rfl (own_made0 w 5) rfl (Vs.nil _ (fun _ => True) _) ?c1 ?c2 ?c3 ?_)
                    case c1 => intro u hu; cases hu
                    case c2 => omega
                    case c3 => omega
                    intro v5 w5 ho1 hg1 hb1
                    have HF := Bx.mk (fresh_made (xs := []) ho1 hg1 hb1)
                    clear ho1 hg1 hb1
                    go_wp2
                    go_ret
                    exact ⟨v5, rfl, HF.out⟩
              · have m0 : (0 : Int) < (m : Int) := by omega
                cases A' with
                | none =>
                  have ha0 : tl = 0 := by
                    rcases Nat.eq_zero_or_pos tl with g1 | g1
                    · exact g1
                    · obtain ⟨_, _, _, e, _⟩ := HSL.out.at_ g1
                      cases e
                  subst ha0
                  go_enter Tryz.func36, Tryz.ntmps36
                  go_wp2
                  go_ret
                  exact ⟨_, rfl, own_made0 w _, fun g hg => by simp [Value.ownBlock] at hg; omega, (Ch.refl _ _).alloc _⟩
                | some ad =>
                  rcases Nat.lt_or_ge tl c' with hca | hca
                  · have hca2 : ¬ c' = tl := by omega
                    go_enter Tryz.func36, Tryz.ntmps36
                    go_wp2_with (at_builtin; refine wp_app rfl (.tmp 41) (.tmp 47) Tb rfl rfl (own_made0 w 5) rfl (Vs.nil _ (fun _ => True) _) ?c1 ?c2 ?c3 ?_)
                    case c1 => intro u hu; cases hu
                    case c2 => omega
                    case c3 => omega
                    intro v5 w5 ho1 hg1 hb1
                    have HF := Bx.mk (fresh_made (xs := []) ho1 hg1 hb1)
                    clear ho1 hg1 hb1
                    go_wp2
                    go_ret
                    exact ⟨v5, rfl, HF.out⟩
                  · obtain rfl : c' = tl := by omega
                    go_enter Tryz.func36, Tryz.ntmps36
                    go_wp2_with (at_builtin; refine wp_app rfl (.tmp 41) (.tmp 47) Tb rfl rfl (own_made0 w 5) rfl (Vs.nil _ (fun _ => True) _) ?c1 ?c2 ?c3 ?_)
                    case c1 => intro u hu; cases hu
                    case c2 => omega
                    case c3 => omega
                    intro v5 w5 ho1 hg1 hb1
                    have HF := Bx.mk (fresh_made (xs := []) ho1 hg1 hb1)
                    clear ho1 hg1 hb1
                    go_wp2
                    go_ret
                    exact ⟨v5, rfl, HF.out⟩
            · obtain ⟨b2, o2, x, rfl, _, _, _⟩ := HSL.out.at_ (show 0 < tl by omega)
              have hsub := (((HSL.out.drop (k := a) (by omega)).take (k := g) (by omega)).ch ((Ch.refl (fun _ => False) w).alloc (.cells #[] 5)) (fun _ _ _ h => h))
              obtain ⟨ys, hys⟩ : ∃ ys, (t.drop a).take g = ys := ⟨_, rfl⟩
              rw [hys] at hsub
              have HRY : Bx (r = ys) := ⟨by rw [HRE.out, HG.out, hys]⟩
              have HSUB := Bx.mk hsub
              have hg1 : g ≤ 1048576 := by omega
              have hca : ¬ c' = a := by omega
              have hca2 : ¬ tl - a = 0 := by omega
              have hgc : (g : Int) ≤ (c' : Int) - (a : Int) := by omega
              clear hsub hys
              go_enter Tryz.func36, Tryz.ntmps36
              rcases HCASE.out with ⟨g1, rfl⟩ | ⟨g1, g2⟩ | ⟨g1, rfl⟩
              · go_wp2_with (at_builtin; refine wp_app rfl (.tmp 41) (.tmp 47) Tb rfl rfl (own_made0 w 5) rfl HSUB.out ?c1 ?c2 ?c3 ?_)
                case c1 => first | exact ints_cells _ _ | (intro u hu; rfl)
                case c2 => omega
                case c3 => omega
                intro v5 w5 ho1 hg1 hb1
                have HF := Bx.mk (fresh_made ho1 hg1 hb1)
                clear ho1 hg1 hb1
                go_wp2
                go_ret
                exact ⟨v5, rfl, by rw [HRY.out]; exact HF.out⟩
              · obtain rfl : g = tl - a := by omega
                clear g2
                go_wp2_with (at_builtin; refine wp_app rfl (.tmp 41) (.tmp 47) Tb rfl rfl (own_made0 w 5) rfl HSUB.out ?c1 ?c2 ?c3 ?_)
                case c1 => first | exact ints_cells _ _ | (intro u hu; rfl)
                case c2 => omega
                case c3 => omega
                intro v5 w5 ho1 hg1 hb1
                have HF := Bx.mk (fresh_made ho1 hg1 hb1)
                clear ho1 hg1 hb1
                go_wp2
                go_ret
                exact ⟨v5, rfl, by rw [HRY.out]; exact HF.out⟩
              · go_wp2_with (at_builtin; refine wp_app rfl (.tmp 41) (.tmp 47) Tb rfl rfl (own_made0 w 5) rfl HSUB.out ?c1 ?c2 ?c3 ?_)
                case c1 => first | exact ints_cells _ _ | (intro u hu; rfl)
                case c2 => omega
                case c3 => omega
                intro v5 w5 ho1 hg1 hb1
                have HF := Bx.mk (fresh_made ho1 hg1 hb1)
                clear ho1 hg1 hb1
                go_wp2
                go_ret
                exact ⟨v5, rfl, by rw [HRY.out]; exact HF.out⟩
end
end Go.Proofs.YtckkjccjkdidjaaGreatDoor
