/-
  The contract of the document's answer haystackref7.From: the texts whose turned row a row is, or refused.
  Conditions: the row reads as it says.
-/
/-
  Plain mathematics, over no program: a closed row of small symbols that ends in a border is the row of some texts; another one is not.
  Conditions: none; plain lemmas.
-/
import Derived.Test.YtckkjccjkdidjaaGreatDoorFmTurned
import Derived.Test.YtckkjccjkdidjaaGreatDoorBwF
namespace Go.Su
/-- Texts of bytes, split so far. -/
structure Sp (s : List Int) (i : Nat) (xss : List (List Int)) (tb : List Int) : Prop where
  take : s.take i = body xss ++ tb.map fun b => b + 2
  texts : ∀ t ∈ xss, ∀ x ∈ t, 0 ≤ x ∧ x < 256
  last : ∀ x ∈ tb, 0 ≤ x ∧ x < 256
theorem body_app (a b : List (List Int)) : body (a ++ b) = body a ++ body b := by
  induction a with
  | nil => rfl
  | cons x a ih => simp only [List.cons_append, body, ih, List.append_assoc]
theorem sp_start (s : List Int) : Sp s 0 [] [] := ⟨by simp [body], fun t ht => by simp at ht, fun x hx => by simp at hx⟩
section
variable {s l tb : List Int} {i : Nat} {xss : List (List Int)}
theorem Sp.close (h : Sp s i xss tb) (hi : s[i]? = some 1) : Sp s (i + 1) (xss ++ [tb]) [] := by
  refine ⟨?_, fun t ht => ?_, fun x hx => by simp at hx⟩
  · rw [List.take_add_one, hi, h.take, body_app]
    simp [body]
  · rcases List.mem_append.1 ht with h1 | h1
    · exact h.texts t h1
    · simp at h1
      subst h1
      exact h.last
theorem Sp.push {c : Int} (h : Sp s i xss tb) (hi : s[i]? = some c) (h1 : 2 ≤ c) (h2 : c ≤ 257) : Sp s (i + 1) xss (tb ++ [c - 2]) := by
  refine ⟨?_, h.texts, fun x hx => ?_⟩
  · rw [List.take_add_one, hi, h.take, List.map_append]
    simp
  · rcases List.mem_append.1 hx with h3 | h3
    · exact h.last x h3
    · simp at h3
      omega
theorem body_le {xss : List (List Int)} (h : ∀ t ∈ xss, ∀ x ∈ t, 0 ≤ x ∧ x < 256) : ∀ x ∈ body xss, 1 ≤ x ∧ x ≤ 257 := by
  induction xss with
  | nil => intro x hx; simp [body] at hx
  | cons t xss ih =>
    intro x hx
    have ih2 := ih (fun u hu => h u (List.mem_cons_of_mem _ hu))
    simp only [body, List.mem_append, List.mem_map, List.mem_cons] at hx
    rcases hx with ⟨b, hb, rfl⟩ | rfl | hx
    · have := h t (List.mem_cons_self ..) b hb
      omega
    · omega
    · exact ih2 x hx
theorem body_last : ∀ {xss : List (List Int)} {u : List Int} {y : Int}, body xss = u ++ [y] → y = 1
  | [], u, y, h => by simp [body] at h
  | [t], u, y, h => by
    have e : body [t] = (t.map fun b => b + 2) ++ [1] := rfl
    rw [e] at h
    have := List.append_inj_right' h rfl
    simpa using this.symm
  | t :: t2 :: xss, u, y, h => by
    have hb : body (t2 :: xss) ≠ [] := by simp [body]
    have e : body (t :: t2 :: xss) = ((t.map fun b => b + 2) ++ [1]) ++ body (t2 :: xss) := by simp [body]
    obtain ⟨v, z, hv⟩ : ∃ v z, body (t2 :: xss) = v ++ [z] := ⟨_, _, (List.dropLast_concat_getLast hb).symm⟩
    have h1 := body_last hv
    rw [e, hv, ← List.append_assoc] at h
    have := List.append_inj_right' h rfl
    simp at this
    omega
/-- No texts. -/
def NoTxt (l : List Int) : Prop := ∀ xss : List (List Int), (∀ t ∈ xss, ∀ x ∈ t, 0 ≤ x ∧ x < 256) → ¬ Turned (txt xss) l
theorem no_big {c : Int} (t : Turned s l) (hi : s[i]? = some c) (hc : 257 < c) : NoTxt l := fun xss hb ht => by
  have e := ht.uniq t
  have hm := List.mem_of_getElem? hi
  rw [← e] at hm
  unfold txt at hm
  rcases List.mem_append.1 hm with h1 | h1
  · have := (body_le hb c h1).2
    omega
  · simp at h1
    omega
theorem no_tail (t : Turned s l) (h : Sp s (s.length - 1) xss tb) (h0 : tb ≠ []) : NoTxt l := fun yss hb ht => by
  have e := ht.uniq t
  have hlen : (txt yss).length = s.length := by rw [e]
  have e2 : body yss = body xss ++ tb.map fun b => b + 2 := by
    rw [← h.take, ← e]
    unfold txt
    rw [List.length_append, List.length_singleton, Nat.add_sub_cancel, List.take_left]
  obtain ⟨v, z, hv⟩ : ∃ v z, tb = v ++ [z] := ⟨_, _, (List.dropLast_concat_getLast h0).symm⟩
  have hz := h.last z (by rw [hv]; simp)
  rw [hv, List.map_append, ← List.append_assoc] at e2
  have : z + 2 = 1 := body_last e2
  omega
theorem sp_txt (t : Turned s l) (h : Sp s (s.length - 1) xss []) : txt xss = s := by
  have hc := t.closed
  have hn := hc.full
  have e1 : s[s.length - 1]? = some 0 := by rw [gs_some (by omega), hc.last]
  have e2 : s.take (s.length - 1 + 1) = s := List.take_of_length_le (by omega)
  rw [List.take_add_one, e1, h.take] at e2
  simpa [txt] using e2
end
end Go.Su
namespace Go.Proofs.YtckkjccjkdidjaaGreatDoor
open Go.RowKit Go.Oct Go.Su

theorem elemT : Elem Tryz.prog 22 25 (.slice none 0 0) 24 := ⟨Tryz.underlying22, by kernel_rfl, rfl⟩
/-- Texts that are gathered, and the one under way. -/
structure Fr (w wr : World) (v : Value) (us : List Value) (xss : List (List Int)) (u : Value) (tb : List Int) : Prop where
  ex : ∃ wt : World, wt.ownsRow 0 25 1 v us.length us ∧ (∀ g, v.ownBlock = some g → w.heap.size ≤ g) ∧ Oct.Rows wt (fun b => w.heap.size ≤ b ∧ b < wt.heap.size ∧ v.ownBlock ≠ some b) us xss ∧ Ch (fun _ => False) w wt ∧ Gs 5 1 wt wr u tb.length (tb.map (Value.int .u8))
section
variable {w w1 wr w2 : World} {v v' u : Value} {xss : List (List Int)} {tb : List Int} {us : List Value}
theorem gs_made0 (w : World) : Gs 5 1 w (w.alloc (.cells #[] 5)) (.slice (some ⟨w.heap.size, 0, none⟩) 0 0) 0 [] := ⟨own_made0 w _, fun g hg => by simp [Value.ownBlock] at hg; omega, (Ch.refl _ _).alloc _⟩
theorem fr_start (hc : Ch (fun _ => False) w w1) : Fr w (w1.alloc (.cells #[] 5)) (.slice none 0 0) [] [] (.slice (some ⟨w1.heap.size, 0, none⟩) 0 0) [] :=
  ⟨w1, World.ownsRow_nil _ _ _ _, fun g hg => by simp [Value.ownBlock] at hg, Oct.Rows.nil_ _ _, hc, gs_made0 w1⟩
theorem Fr.push {x : Int} (h : Fr w wr v us xss u tb) (ho : w2.ownsRow 0 5 1 v' (tb.length + 1) (tb.map (Value.int .u8) ++ [Value.int .u8 x])) (hg : (wr.alloc (.cells #[.int .u8 x] 5)).grownBy w2 u.ownBlock) (hb : v'.ownBlock = u.ownBlock ∨ v'.ownBlock = some (wr.heap.size + 1)) : Fr w w2 v us xss v' (tb ++ [x]) := by
  obtain ⟨wt, h1, h2, h3, h4, h5⟩ := h.ex
  refine ⟨wt, h1, h2, h3, h4, ?_⟩
  have := h5.app ((Ch.refl (fun _ => False) wr).alloc _) ho hg (by rw [World.size_alloc]; exact hb)
  rw [List.length_append, List.map_append]
  exact this
theorem Fr.gs (h : Fr w wr v us xss u tb) : ∃ A c, u = .slice A tb.length c ∧ tb.length ≤ c ∧ c ≤ maxLen ∧ wr.ownsRow 0 5 1 (.slice A tb.length c) tb.length (tb.map (Value.int .u8)) := by
  obtain ⟨wt, h1, h2, h3, h4, h5⟩ := h.ex
  obtain ⟨A, c, rfl, g1, g2⟩ := h5.shape
  exact ⟨A, c, rfl, g1, g2, h5.own⟩
theorem Fr.own (h : Fr w wr v us xss u tb) : wr.ownsRow 0 25 1 v us.length us := by
  obtain ⟨wt, h1, h2, h3, h4, h5⟩ := h.ex
  exact h5.ch.own h1 (fun _ _ h => h)
theorem Fr.ch (h : Fr w wr v us xss u tb) : Ch (fun _ => False) w wr := by
  obtain ⟨wt, h1, h2, h3, h4, h5⟩ := h.ex
  exact h4.trans h5.ch (fun _ _ h => h)
theorem Fr.sls (h : Fr w wr v us xss u tb) : ∃ A c, v = .slice A us.length c ∧ us.length = xss.length ∧ Sls wr (fun b => w.heap.size ≤ b) A us.length xss := by
  obtain ⟨wt, h1, h2, h3, h4, h5⟩ := h.ex
  have hown : wr.ownsRow 0 25 1 v us.length us := h5.ch.own h1 (fun _ _ h => h)
  obtain ⟨A, c, rfl, _, _⟩ := own_shape hown
  exact ⟨A, c, rfl, h3.1, us, (Vs.of_own hown).mono (fun b _ hb => h2 b hb), (h3.ch h5.ch (fun _ _ _ h => h)).mono (fun b _ hb => hb.1)⟩
theorem Fr.close (h : Fr w wr v us xss u tb) (ho : w2.ownsRow 0 25 1 v' (us.length + 1) (us ++ [u])) (hg : (wr.alloc (.cells #[u] 25)).grownBy w2 v.ownBlock) (hbv : v'.ownBlock = v.ownBlock ∨ v'.ownBlock = some (wr.heap.size + 1)) : Fr w (w2.alloc (.cells #[] 5)) v' (us ++ [u]) (xss ++ [tb]) (.slice (some ⟨w2.heap.size, 0, none⟩) 0 0) [] := by
  obtain ⟨wt, h1, h2, h3, h4, h5⟩ := h.ex
  have hvl : ∀ g, v.ownBlock = some g → g < wt.heap.size := own_lt h1
  have hsz := h5.ch.size
  have hsz2 := h4.size
  have hC : Ch (fun b => v.ownBlock = some b) wr w2 := ((Ch.refl (fun b => v.ownBlock = some b) wr).alloc _).grown hg (fun j hj => .inl hj)
  have hCt : Ch (fun b => v.ownBlock = some b) wt w2 := (h5.ch.mono (fun _ _ h => h.elim)).trans hC (fun _ _ h => h)
  have hsz3 := hC.size
  obtain ⟨A, c, rfl, g1, g2⟩ := h5.shape
  have hsl : Sl wr (fun b => wt.heap.size ≤ b ∧ b < wr.heap.size) .u8 A tb.length tb := by
    have h6 : Sl wr (fun b => wt.heap.size ≤ b) .u8 A tb.length tb := h5.vs
    exact h6.mono (fun b hlt hb => ⟨hb, hlt⟩)
  refine ⟨w2, by rw [List.length_append]; exact ho, fun g hgv => ?_, ?_, (h4.trans hCt (fun i hi (e : v.ownBlock = some i) => by have := h2 i e; omega)), gs_made0 w2⟩
  · rcases hbv with hb | hb
    · exact h2 g (hb ▸ hgv)
    · rw [hb] at hgv
      injection hgv with hgv
      omega
  · refine Oct.Rows.app ((h3.ch hCt (fun b hb _ e => hb.2.2 e)).mono fun b _ hb => ⟨hb.1, by omega, fun e => ?_⟩) (Oct.Rows.cons_ ((hsl.ch hC (fun b hb _ e => by have := hvl b e; omega)).mono fun b _ hb => ⟨by omega, by omega, fun e => ?_⟩) g1 g2 (Oct.Rows.nil_ _ _))
    · rcases hbv with h7 | h7
      · exact hb.2.2 (h7 ▸ e)
      · rw [h7] at e
        injection e with e
        omega
    · rcases hbv with h7 | h7
      · rw [h7] at e
        have := hvl b e
        omega
      · rw [h7] at e
        injection e with e
        omega
/-- What both Froms answer of a row, refusals too. -/
def FRes (l : List Int) (n : Nat) (ec : Int) (m : Nat) (xss : List (List Int)) : Prop := (65536 < n ∧ ec = 5 ∧ m = 0 ∧ xss = []) ∨ (n ≤ 65536 ∧ NoTxt l ∧ ec = 3 ∧ m = 0 ∧ xss = []) ∨ (n ≤ 65536 ∧ ec = 0 ∧ Byts xss ∧ Turned (txt xss) l ∧ m = xss.length)
def FromRef (l : List Int) (n : Nat) (w : World) (e : Ending) (w' : World) : Prop := ∃ (A : Option Addr) (c m : Nat) (ec : Int) (xss : List (List Int)), e = .returned (.tuple #[.slice A m c, .int .i64 ec]) ∧ Sls w' (fun b => w.heap.size ≤ b) A m xss ∧ FRes l n ec m xss ∧ Ch (fun _ => False) w w'
theorem sls_nil (w : World) (F : Nat → Prop) (A : Option Addr) : Sls w F A 0 [] := ⟨[], Vs.nil _ _ _, Oct.Rows.nil_ _ _⟩
theorem from_no {l : List Int} {n : Nat} {w w' : World} (hn : n ≤ 65536) (h : NoTxt l) (hc : Ch (fun _ => False) w w') : FromRef l n w (.returned (.tuple #[.slice none 0 0, .int .i64 3])) w' :=
  ⟨none, 0, 0, 3, [], rfl, sls_nil _ _ _, .inr (.inl ⟨hn, h, rfl, rfl, rfl⟩), hc⟩
end
section
variable {F : Nat → Prop}
set_option maxHeartbeats 2000000 in
theorem reffrom_any (l : List Int) (A : Option Addr) (n c : Nat) (w : World) (hs : Sl w F .i64 A n l) (hn : n ≤ 65536) :
    Calls Tryz.prog 22 #[.slice A n c] w (FromRef l n w) := by
  have hb := refback_any l A n c w hs hn
  clear hs
  go_enter Tryz.func22, Tryz.ntmps22
  go_wp2_with fail
  refine hb.mono ?_
  rintro e w1 ⟨A1, c1, m, ec, s, rfl, hS, hR, hC⟩
  have HC := Bx.mk hC
  clear hb
  by_cases he : ec = 0
  · have HT : Bx (m = n ∧ Turned s l) := ⟨by
      rcases hR with ⟨_, h1, _⟩ | ⟨_, _, h1, _⟩ | ⟨_, _, h2, h3⟩
      · omega
      · omega
      · exact ⟨h2, h3⟩⟩
    subst he
    have HS := Bx.mk (hS.mono (G := fun b => b < w1.heap.size) (fun b h _ => h))
    have HL := Bx.mk hS.len
    have hm0 : 0 < m := by
      have h1 := HT.out.2.closed.full
      have h2 := HL.out
      omega
    have hm6 : m ≤ 65536 := by have := HT.out.1; omega
    have HF0 := Bx.mk (fr_start (w := w1) (w1 := w1) (Ch.refl (fun _ => False) w1))
    clear hR hS hC
    go_wp2_with fail
    go_loopw [6, 7, 8, 34, 45] (fun v u i _ _ wr => ∃ (k : Nat) (us : List Value) (xss : List (List Int)) (tb : List Int), k + 1 ≤ m ∧ i = .int .i64 k ∧ Bx (Sp s k xss tb ∧ us.length ≤ k ∧ tb.length ≤ k ∧ us.length = xss.length) ∧ Bx (Fr w1 wr v us xss u tb)) (fun _ _ i _ _ _ => m - (intOf i).toNat)
    case atStart => exact ⟨0, [], [], [], hm0, rfl, ⟨sp_start s, Nat.le_refl _, Nat.le_refl _, rfl⟩, HF0⟩
    case round =>
      obtain ⟨k, us, xss, tb, hk, rfl, hSp, hFr⟩ := hrel
      obtain ⟨ul, hule⟩ : ∃ ul, us.length = ul := ⟨_, rfl⟩
      obtain ⟨tl, htle⟩ : ∃ tl, tb.length = tl := ⟨_, rfl⟩
      have HUL := Bx.mk hule
      have HTL := Bx.mk htle
      obtain ⟨A7, c7, rfl, g1, g2, ho7⟩ := hFr.out.gs
      have ho6 := hFr.out.own
      obtain ⟨A6, c6, rfl, g3, g4⟩ := own_shape ho6
      have hul := hSp.out.2.1
      have htl := hSp.out.2.2.1
      rw [hule] at ho6 hul g3 hFr ⊢
      rw [htle] at ho7 htl g1 hFr ⊢
      have HO7 := Bx.mk ho7
      have HO6 := Bx.mk ho6
      have c7b : c7 ≤ 9223372036854775807 := by unfold maxLen at g2; omega
      clear ho7 ho6 hule htle
      by_cases hlt : k + 1 < m
      · have dk : decide ((k : Int) + 1 < (m : Int)) = true := by simp; omega
        have hk1 : k < m := by omega
        obtain ⟨b, off, x, rfl, _, hx, hcx⟩ := (HS.out.ch hFr.out.ch (fun _ _ _ h => h)).at_ hk1
        have hx1 : 1 ≤ x := by
          have hc := HT.out.2.closed
          have h1 := gs_at hx.out
          have h2 := hc.only k (by rw [HL.out]; omega)
          have h3 := gs_pos hc.pos (p := k) (by rw [HL.out]; omega)
          omega
        have HX := Bx.mk hx.out
        have i1 : (k : Int) < (m : Int) := by omega
        clear hx
        by_cases h1 : x = 1
        · subst h1
          have HSN := Bx.mk (hSp.out.1.close HX.out)
          clear hx1
          go_wp2_with (at_builtin; refine wp_app rfl (.tmp 40) (.tmp 42) elemT rfl rfl (HO6.out.alloc _) rfl (Vs.one _ _ _) ?c1 ?c2 ?c3 ?_)
          case c1 => intro u hu; simp at hu; subst hu; rfl
          case c2 => omega
          case c3 => omega
          intro v5 w5 ho1 hg1 hb1
          have HF := Bx.mk (hFr.out.close (by rw [HUL.out]; exact ho1) hg1 hb1)
          clear ho1 hg1 hb1 hFr
          go_wp2
          go_roundw
          case rel => exact ⟨k + 1, _, _, [], by omega, by go_num, ⟨HSN.out, by rw [List.length_append, HUL.out]; simp; omega, by simp, by rw [List.length_append, List.length_append, hSp.out.2.2.2]; simp⟩, HF⟩
          case measure => simp [intOf]; omega
        · have b1 : (x == 1) = false := by simpa using h1
          by_cases h2 : 257 < x
          · have d2 : decide (257 < x) = true := by simpa using h2
            have HN := Bx.mk (no_big HT.out.2 HX.out h2)
            have HCR := Bx.mk (HC.out.trans hFr.out.ch (fun _ _ h => h))
            clear h1 h2 hx1 hFr
            go_wp2
            go_returns
            exact from_no hn HN.out HCR.out
          · have d2 : decide (257 < x) = false := by simpa using h2
            have hwr : wrap64 (x - 2) % 256 = x - 2 := by unfold wrap64; omega
            have HSN := Bx.mk (hSp.out.1.push HX.out (by omega) (by omega))
            clear h1 h2
            go_wp2_with (at_builtin; refine wp_app rfl (.tmp 25) (.tmp 32) Tb rfl rfl (HO7.out.alloc _) rfl (Vs.one _ _ _) ?c1 ?c2 ?c3 ?_)
            case c1 => intro u hu; simp at hu; subst hu; rfl
            case c2 => omega
            case c3 => omega
            intro v5 w5 ho1 hg1 hb1
            have HF := Bx.mk (hFr.out.push (by rw [HTL.out]; exact ho1) hg1 hb1)
            clear ho1 hg1 hb1 hFr
            go_wp2
            go_roundw
            case rel => exact ⟨k + 1, _, _, _, by omega, by go_num, ⟨HSN.out, by rw [HUL.out]; omega, by rw [List.length_append, HTL.out]; simp; omega, hSp.out.2.2.2⟩, HF⟩
            case measure => simp [intOf]; omega
      · have dk : decide ((k : Int) + 1 < (m : Int)) = false := by simp; omega
        have HCR := Bx.mk (HC.out.trans hFr.out.ch (fun _ _ h => h))
        have hkm : k = s.length - 1 := by rw [HL.out]; omega
        by_cases ht0 : tl = 0
        · have HSL : Bx (Sls wr (fun b => w.heap.size ≤ b) A6 ul xss ∧ ul = xss.length) := ⟨by
            obtain ⟨A, c, e1, e2, e3⟩ := hFr.out.sls
            injection e1 with e4 _ _
            subst e4
            rw [HUL.out] at e2 e3
            exact ⟨e3.mono (fun b _ hb => Nat.le_trans HC.out.size hb), e2⟩⟩
          have HR : Bx (FRes l n 0 ul xss) := ⟨by
            have h1 := hSp.out.1
            have h2 : tb = [] := List.eq_nil_of_length_eq_zero (by rw [HTL.out]; exact ht0)
            rw [h2, hkm] at h1
            refine .inr (.inr ⟨hn, rfl, h1.texts, ?_, HSL.out.2⟩)
            rw [sp_txt HT.out.2 h1]
            exact HT.out.2⟩
          subst ht0
          clear hFr hkm
          go_wp2
          go_returns
          exact ⟨A6, c6, ul, 0, xss, rfl, HSL.out.1, HR.out, HCR.out⟩
        · have d0 : decide (0 < tl) = true := by simp; omega
          have d1 : decide ((0 : Int) < (tl : Int)) = true := by simp; omega
          have HN : Bx (NoTxt l) := ⟨by
            have h1 := hSp.out.1
            rw [hkm] at h1
            exact no_tail HT.out.2 h1 (fun e => ht0 (by rw [← HTL.out, e]; rfl))⟩
          clear hFr hkm
          go_wp2
          go_returns
          exact from_no hn HN.out HCR.out
  · have HE : Bx (FRes l n ec 0 []) := ⟨by
      rcases hR with ⟨h0, h1, _⟩ | ⟨h0, hno, h1, _⟩ | ⟨_, h2, _⟩
      · exact .inl ⟨h0, h1, rfl, rfl⟩
      · exact .inr (.inl ⟨h0, fun xss _ => hno _, h1, rfl, rfl⟩)
      · exact absurd h2 he⟩
    have hb : (ec != 0) = true := by simpa using he
    clear hR hS hC he
    go_wp2
    go_returns
    exact ⟨none, 0, 0, ec, [], rfl, sls_nil _ _ _, HE.out, HC.out⟩
end
end Go.Proofs.YtckkjccjkdidjaaGreatDoor

namespace Go.Su
section
variable {s l : List Int}
/-- The last symbol ahead of i is a border, or there is none. -/
def Bord (s : List Int) (i : Nat) : Prop := i = 0 ∨ gs s (i - 1) = 1
theorem split_to (t : Turned s l) (hle : ∀ x ∈ s, x ≤ 257) : ∀ i, i ≤ s.length - 1 → ∃ xss tb, Sp s i xss tb ∧ (tb = [] ↔ Bord s i)
  | 0, _ => ⟨[], [], sp_start s, fun _ => .inl rfl, fun _ => rfl⟩
  | i + 1, hi => by
    obtain ⟨xss, tb, h, _⟩ := split_to t hle i (by omega)
    have hx := gs_some (s := s) (p := i) (by omega)
    have h0 := t.closed.only i (by omega)
    have h1 := gs_pos t.closed.pos (p := i) (by omega)
    have h2 := hle _ (List.mem_of_getElem? hx)
    by_cases e : gs s i = 1
    · exact ⟨_, _, h.close (by rw [hx, e]), fun _ => .inr (by rw [Nat.add_sub_cancel]; exact e), fun _ => rfl⟩
    · refine ⟨_, _, h.push hx (by omega) h2, fun g => absurd g (by simp), fun g => ?_⟩
      rcases g with g | g
      · omega
      · rw [Nat.add_sub_cancel] at g
        exact absurd g e
/-- It is a row of texts. -/
def OfTxt (s : List Int) : Prop := (∀ x ∈ s, x ≤ 257) ∧ Bord s (s.length - 1)
theorem oftxt_yes (t : Turned s l) (h : OfTxt s) : ∃ xss : List (List Int), (∀ t ∈ xss, ∀ x ∈ t, 0 ≤ x ∧ x < 256) ∧ txt xss = s := by
  obtain ⟨xss, tb, hs, hb⟩ := split_to t h.1 _ (Nat.le_refl _)
  obtain rfl := hb.2 h.2
  exact ⟨xss, hs.texts, sp_txt t hs⟩
theorem oftxt_no (t : Turned s l) (h : ¬ OfTxt s) : NoTxt l := by
  by_cases hle : ∀ x ∈ s, x ≤ 257
  · obtain ⟨xss, tb, hs, hb⟩ := split_to t hle _ (Nat.le_refl _)
    exact no_tail t hs fun e => h ⟨hle, hb.1 e⟩
  · obtain ⟨x, hx⟩ := Classical.not_forall.1 hle
    obtain ⟨hm, hc⟩ := Classical.not_imp.1 hx
    obtain ⟨i, hi⟩ := List.getElem?_of_mem hm
    exact no_big t hi (by omega)
end
end Go.Su
