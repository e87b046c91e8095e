/-
  The walk of haystacklaw4.WaveletCounts: true, whatever the width, the row and what is asked. Condition: the library's table stands as start-up lays it.
-/
import Derived.Test.YtbckiefkppgipaaDoorWaRefs
import Derived.Test.YtbckiefkppgipaaDoorWaNothing
import Derived.Test.YtbckiefkppgipaaDoorWaGrow
import Derived.Deep.DeepCutAuto
namespace Go.Proofs.YtbckiefkppgipaaDoor
open Go.RowKit Go.Oct Go.Bi Go.Wa

theorem ref_rank_val {F : Nat → Prop} (l : List Nat) (A : Option Addr) (n c : Nat) (q i r : Int) (w : World) (hs : Sl w F .i64 A n (asI l)) (hn : n ≤ 1048576) (hr : ((rk (hit l q) true i : Nat) : Int) = r) :
    Calls Tryd.prog 17 #[.slice A n c, .int .i64 q, .int .i64 i] w fun e w' => e = .returned (.int .i64 r) ∧ w = w' := by
  subst hr
  exact ref_rank l A n c q i w hs hn
theorem ref_select_val {F : Nat → Prop} (l : List Nat) (A : Option Addr) (n c : Nat) (q k r : Int) (w : World) (hs : Sl w F .i64 A n (asI l)) (hn : n ≤ 1048576) (hk : Wf k) (hr : sel (hit l q) true k = r) :
    Calls Tryd.prog 19 #[.slice A n c, .int .i64 q, .int .i64 k] w fun e w' => e = .returned (.int .i64 r) ∧ w = w' := by
  subst hr
  exact ref_select l A n c q k w hs hn hk
theorem ref_below_val {F : Nat → Prop} (l : List Nat) (A : Option Addr) (n c : Nat) (q f t r : Int) (w : World) (hs : Sl w F .i64 A n (asI l)) (hn : n ≤ 1048576) (hf : Wf f) (hr : ((bel l q f t : Nat) : Int) = r) :
    Calls Tryd.prog 21 #[.slice A n c, .int .i64 q, .int .i64 f, .int .i64 t] w fun e w' => e = .returned (.int .i64 r) ∧ w = w' := by
  subst hr
  exact ref_below l A n c q f t w hs hn hf

set_option maxRecDepth 100000 in
theorem counts_out (z : Int) (A A' : Option Addr) (n c m c' : Nat) (w : World) (hn : n ≤ 9223372036854775807) (hm : m ≤ 9223372036854775807) (h : 1500 < n ∨ 40 < m) :
    Calls Tryd.prog 3 #[.int .i64 z, .slice A n c, .slice A' m c'] w fun e w' => e = .returned (.bool true) ∧ Ch (fun _ => False) w w' := by
  by_cases h1 : 1500 < n
  · go_enter Tryd.func3, Tryd.ntmps3
    go_wp2
    go_ret
    exact ⟨rfl, Ch.refl _ _⟩
  · have h2 : 40 < m := by omega
    go_enter Tryd.func3, Tryd.ntmps3
    go_wp2
    go_ret
    exact ⟨rfl, Ch.refl _ _⟩

set_option maxRecDepth 100000 in
set_option maxHeartbeats 8000000 in
theorem counts_in (z : Int) (xs : List Int) (ss : List AskI) (A A' : Option Addr) (n c m c' : Nat) (w : World) (F H : Nat → Prop) (ht : Tab w) (hs : Sl w F .i64 A n xs) (hx : Asks w H A' m ss) (hwf : ∀ s ∈ ss, Wf s.c ∧ Wf s.i ∧ Wf s.k) (hn : n ≤ 1500) (hm : m ≤ 40) :
    Calls Tryd.prog 3 #[.int .i64 z, .slice A n c, .slice A' m c'] w fun e w' => e = .returned (.bool true) ∧ Ch (fun _ => False) w w' := by
  have HT := Bx.mk ht
  have hs0 := hs.mono (G := fun b => b < w.heap.size) (fun b h _ => h)
  have hx0 := hx.mono (G := fun b => b < w.heap.size) (fun b h _ => h)
  have HWF := Bx.mk hwf
  have hown := World.ownsRow_lit (base := 0) (e := 3) (size := 1) w #[] 0 (Nat.zero_le _) (by unfold maxLen; omega) (by simp)
  have HO0 := Bx.mk hown
  have hs1 : Sl (w.alloc (.cells #[] 3)) (fun b => b < w.heap.size) .i64 A n xs := hs0.alloc _
  have HX0 := Bx.mk hx0
  have d1 : decide (1500 < (n : Int)) = false := by simp; omega
  have d2 : decide (40 < (m : Int)) = false := by simp; omega
  clear ht hs hx hwf hown hs0 hx0
  go_enter Tryd.func3, Tryd.ntmps3
  go_wp2_with (at_builtin; refine wp_app rfl (.tmp 23) (.tmp 24) elemI rfl rfl HO0.out rfl hs1 ?c1 ?c2 ?c3 ?_)
  case c1 => intro a _; rfl
  case c2 => omega
  case c3 => omega
  intro v' w1 ho1 hg1 hb1
  have ho2 : w1.ownsRow 0 3 1 v' n (xs.map (Value.int .i64)) := by simpa using ho1
  have hC1 : Ch (fun _ => False) w w1 := ((Ch.refl (fun _ => False) w).alloc (.cells #[] 3)).grown hg1 (fun k hk => .inr (by simp [Value.ownBlock] at hk; omega))
  have hC1' : Ch (fun k => w.heap.size ≤ k) w w1 := hC1.mono (fun _ _ h => h.elim)
  have HS1 : Bx (Sl w1 (fun b => b < w.heap.size) .i64 A n xs) := ⟨(hs1.ch ((Ch.refl (fun k => w.heap.size ≤ k) (w.alloc (.cells #[] 3))).grown hg1 (fun k hk => .inl (by simp [Value.ownBlock] at hk; omega))) (fun b hb _ h => by omega))⟩
  have hg : ∃ g, v' = .slice (some ⟨g, 0, none⟩) n (match v' with | .slice _ _ c => c | _ => 0) ∧ w.heap.size ≤ g := by
    rcases own_form ho2 with ⟨rfl, h0⟩ | ⟨g, cap, rfl, h1, h2⟩
    · rcases hb1 with h | h <;> simp [Value.ownBlock] at h
    · refine ⟨g, rfl, ?_⟩
      rcases hb1 with h | h <;> simp [Value.ownBlock] at h <;> omega
  obtain ⟨g, hv, hgs⟩ := hg
  obtain ⟨cw, hcw⟩ : ∃ cw, v' = .slice (some ⟨g, 0, none⟩) n cw := ⟨_, hv⟩
  subst hcw
  clear hv
  have hO : Own w1 3 1 g n cw (xs.map (Value.int .i64)) := ⟨ho2⟩
  obtain ⟨hcw1, hcw2⟩ : n ≤ cw ∧ cw ≤ maxLen := by
    obtain ⟨A3, c3, hv, h1, h2⟩ := own_shape ho2
    injection hv with _ _ hv
    subst hv
    exact ⟨h1, h2⟩
  have HO := Bx.mk hO
  have HC1 := Bx.mk hC1
  have HCW := Bx.mk hcw2
  have HX1 : Bx (Asks w1 (fun b => b < w.heap.size) A' m ss) := ⟨HX0.out.ch hC1 (fun _ _ _ h => h)⟩
  clear ho1 ho2 hg1 hb1 hC1 hC1' hO hs1 hcw2
  obtain ⟨r, hr⟩ : ∃ r, bErr z xs = r := ⟨_, rfl⟩
  by_cases hr0 : r = 0
  · subst hr0
    obtain ⟨W, l, rfl, hW1, hW2, rfl, hlen, hlt⟩ := bErr_is hr
    have hln : l.length = n := by rw [← asI_len]; exact HS1.out.len
    have HR := Bx.mk hr
    have HLT := Bx.mk hlt
    have HLN := Bx.mk hln
    have hWW : ((W : Int) != (W : Int)) = false := by simp
    have hnn : ((n : Int) != (n : Int)) = false := by simp
    clear hr hlt hln hlen
    go_wp2_with fail
    refine (build_ok W l _ n cw _ _ HO.out.sl hW1 hW2 (by omega) HLT.out hcw1 HCW.out HR.out).mono ?_
    rintro e w2 ⟨T, rfl, hT, hC2⟩
    have HTr := Bx.mk hT
    have HC2 := Bx.mk (HC1.out.trans hC2 (fun _ _ h => h))
    have HO2 := Bx.mk (HO.out.keep hC2)
    have HS2 : Bx (Sl w2 (fun b => b < w.heap.size) .i64 A n (asI l)) := ⟨HS1.out.ch hC2 (fun _ _ _ h => h)⟩
    have HX2 : Bx (Asks w2 (fun b => b < w.heap.size) A' m ss) := ⟨HX1.out.ch hC2 (fun _ _ _ h => h)⟩
    have hgl : g < w1.heap.size := HO.out.lt
    clear hT hC2
    go_wp2_with fail
    refine (refbuild_any W (asI l) A n c 0 _ HS2.out (by omega) HR.out).mono ?_
    rintro e w' ⟨rfl, rfl⟩
    go_wp2_with fail
    refine (ints_any (asI l) _ A n cw c _ HO2.out.sl HS2.out (by omega)).mono ?_
    rintro e w3 ⟨rfl, hC3⟩
    have HTr3 := Bx.mk (HTr.out.keep hC3)
    have HC3 := Bx.mk (HC2.out.trans hC3 (fun _ _ h => h))
    have HO3 := Bx.mk (HO2.out.keep hC3)
    have HS3 : Bx (Sl w3 (fun b => b < w.heap.size) .i64 A n (asI l)) := ⟨HS2.out.ch hC3 (fun _ _ _ h => h)⟩
    have HX3 : Bx (Asks w3 (fun b => b < w.heap.size) A' m ss) := ⟨HX2.out.ch hC3 (fun _ _ _ h => h)⟩
    clear hC3
    go_wp2_with fail
    go_loopw [11] (fun i wr => ∃ (j : Nat) (ys : List Int), j ≤ n ∧ i = .int .i64 j ∧ Own wr 3 1 g n cw (ys.map (Value.int .i64)) ∧ Ch (fun k => k = g) w3 wr) (fun i _ => n - (intOf i).toNat)
    case atStart => exact ⟨0, asI l, Nat.zero_le _, rfl, HO3.out, Ch.refl _ _⟩
    case round =>
      obtain ⟨j, ys, hj, rfl, hO, hC⟩ := hrel
      by_cases hjn : j < n
      · have hcell := hO.cellI hjn
        have hfz := hO.frozenAt j
        have HST := Bx.mk (hO.storedI j (-1))
        have HC := Bx.mk hC
        generalize ys.getD j 0 = old at *
        clear hO hC
        go_wp2
        go_roundw
        case rel => exact ⟨j + 1, _, by omega, by go_num, HST.out.1, HC.out.trans HST.out.2 (fun _ _ h => h)⟩
        case measure => simp [intOf]; omega
      · have ej : decide ((j : Int) < (n : Int)) = false := by simp; omega
        have hTw : Tr wr (fun k => w1.heap.size ≤ k) T W l := HTr3.out.ch hC (fun k hk _ (e : k = g) => by omega)
        have hCw : Ch (fun _ => False) w wr := HC3.out.trans hC (fun i hi (e : i = g) => by omega)
        have hSw : Sl wr (fun b => b < w.heap.size) .i64 A n (asI l) := HS3.out.ch hC (fun b hb _ (e : b = g) => by omega)
        have hXw : Asks wr (fun b => b < w.heap.size) A' m ss := HX3.out.ch hC (fun b hb _ (e : b = g) => by omega)
        have HT4 := Bx.mk hTw
        have HC4 := Bx.mk hCw
        have HS4 := Bx.mk hSw
        have HX4 := Bx.mk hXw
        obtain ⟨gw, h5⟩ := hTw.row
        clear hO hC hTw hCw hSw hXw
        go_wp2_with fail
        refine (tlen_any T W n l _ HT4.out HLN.out).mono ?_
        rintro e w' ⟨rfl, rfl⟩
        go_wp2_with fail
        refine (width_cell T W W _ _ h5).mono ?_
        rintro e w' ⟨rfl, rfl⟩
        go_wp2_with fail
        refine (tall_any T W n l _ HT4.out HLN.out).mono ?_
        rintro e w5 ⟨ga, rfl, hOa, _, hC5⟩
        have HOa := Bx.mk hOa
        have HC5 := Bx.mk (HC4.out.trans hC5 (fun _ _ h => h))
        have HT5 := Bx.mk (HT4.out.keep hC5)
        have HS5 : Bx (Sl w5 (fun b => b < w.heap.size) .i64 A n (asI l)) := ⟨HS4.out.ch hC5 (fun _ _ _ h => h)⟩
        have HX5 : Bx (Asks w5 (fun b => b < w.heap.size) A' m ss) := ⟨HX4.out.ch hC5 (fun _ _ _ h => h)⟩
        clear hOa hC5 h5
        go_wp2_with fail
        refine (ints_any (asI l) _ A n n c _ HOa.out.sl HS5.out (by omega)).mono ?_
        rintro e w6 ⟨rfl, hC6⟩
        have HC6 := Bx.mk (HC5.out.trans hC6 (fun _ _ h => h))
        have HT6 := Bx.mk (HT5.out.keep hC6)
        have HS6 : Bx (Sl w6 (fun b => b < w.heap.size) .i64 A n (asI l)) := ⟨HS5.out.ch hC6 (fun _ _ _ h => h)⟩
        have HX6 : Bx (Asks w6 (fun b => b < w.heap.size) A' m ss) := ⟨HX5.out.ch hC6 (fun _ _ _ h => h)⟩
        clear hC6
        go_wp2_with fail
        go_loopw [12, 13, 14] (fun i _ _ wr => ∃ q : Nat, q ≤ m ∧ i = .int .i64 q ∧ Ch (fun _ => False) w6 wr) (fun i _ _ _ => m - (intOf i).toNat)
        case atStart => exact ⟨0, Nat.zero_le _, rfl, Ch.refl _ _⟩
        case round =>
          obtain ⟨q, hq, rfl, hC⟩ := hrel
          by_cases hqm : q < m
          · obtain ⟨ab, ao, ⟨sc, si, sk⟩, rfl, _, hsm, k0, k1, k2⟩ := (HX6.out.ch hC (fun _ _ _ h => h)).get hqm
            dsimp only at k0 k1 k2
            obtain ⟨_, hwi, hwk⟩ := HWF.out _ (List.mem_of_getElem? hsm)
            dsimp only at hwi hwk
            have HWI := Bx.mk hwi
            have HWK := Bx.mk hwk
            have hSr : Sl wr (fun b => b < w.heap.size) .i64 A n (asI l) := HS6.out.ch hC (fun _ _ _ h => h)
            have HCr := Bx.mk (HC6.out.trans hC (fun _ _ h => h))
            have HCs := Bx.mk hC
            have HTr7 := Bx.mk (HT6.out.keep hC)
            have hn20 : n ≤ 1048576 := by omega
            have eq : decide ((q : Int) < (m : Int)) = true := by simp; omega
            obtain ⟨gv, hgv⟩ : ∃ gv, symAt l si = gv := ⟨_, rfl⟩
            obtain ⟨rv, hrv⟩ : ∃ rv : Int, ((rk (hit l sc) true si : Nat) : Int) = rv := ⟨_, rfl⟩
            obtain ⟨sv, hsv⟩ : ∃ sv, sel (hit l sc) true sk = sv := ⟨_, rfl⟩
            obtain ⟨bv, hbv⟩ : ∃ bv : Int, ((bel l sc si sk : Nat) : Int) = bv := ⟨_, rfl⟩
            have q1 : (rv != rv) = false := by simp
            have q2 : (sv != sv) = false := by simp
            have q3 : (bv != bv) = false := by simp
            have hcase : (si < 0 ∧ gv = -1) ∨ (0 ≤ si ∧ (n : Int) ≤ si ∧ gv = -1) ∨ (∃ (p b1 o1 : Nat), si = p ∧ p < n ∧ A = some ⟨b1, o1, none⟩ ∧ wr.cell? ⟨b1, o1 + p, none⟩ = some (.int .i64 gv)) := by
              by_cases h1 : si < 0
              · exact .inl ⟨h1, by rw [← hgv]; exact symAt_out (.inl h1)⟩
              · by_cases h2 : (n : Int) ≤ si
                · exact .inr (.inl ⟨by omega, h2, by rw [← hgv]; exact symAt_out (.inr (by rw [HLN.out]; exact h2))⟩)
                · obtain ⟨p, hp⟩ : ∃ p : Nat, si = p := ⟨si.toNat, by omega⟩
                  obtain ⟨b1, o1, x, hA, _, hx0, hcx⟩ := hSr.at_ (show p < n by omega)
                  obtain ⟨y, rfl, hy⟩ := asI_at hx0.out
                  exact .inr (.inr ⟨p, b1, o1, hp, by omega, hA, by rw [hcx, ← hgv, hp, symAt_in hy]⟩)
            have HSr := Bx.mk hSr
            have HGV := Bx.mk hgv
            have HRV := Bx.mk hrv
            have HSV := Bx.mk hsv
            have HBV := Bx.mk hbv
            have HCASE := Bx.mk hcase
            clear hC hsm hwi hwk hgv hrv hsv hbv hcase hSr
            have q4 : (gv != gv) = false := by simp
            obtain ⟨c0, c1, c2⟩ := cells3n wr (.int .i64 sc) (.int .i64 si) (.int .i64 sk) 34
            have hC7 := (Ch.refl (fun _ => False) wr).alloc (.cells #[.int .i64 sc, .int .i64 si, .int .i64 sk] 34)
            have HC7 := Bx.mk (HCs.out.trans hC7 (fun _ _ h => h))
            have HTb := Bx.mk ((HT.out.keep HCr.out).keep hC7)
            have HT7 := Bx.mk (HTr7.out.keep hC7)
            have HS7 : Bx (Sl (wr.alloc (.cells #[.int .i64 sc, .int .i64 si, .int .i64 sk] 34)) (fun b => b < w.heap.size) .i64 A n (asI l)) := ⟨HSr.out.ch hC7 (fun _ _ _ h => h)⟩
            have HCASE2 : Bx ((si < 0 ∧ gv = -1) ∨ (0 ≤ si ∧ (n : Int) ≤ si ∧ gv = -1) ∨ (∃ (p b1 o1 : Nat), si = p ∧ p < n ∧ A = some ⟨b1, o1, none⟩ ∧ (wr.alloc (.cells #[.int .i64 sc, .int .i64 si, .int .i64 sk] 34)).cell? ⟨b1, o1 + p, none⟩ = some (.int .i64 gv))) := ⟨by
              rcases HCASE.out with h | h | ⟨p, b1, o1, h1, h2, h3, h4⟩
              · exact .inl h
              · exact .inr (.inl h)
              · exact .inr (.inr ⟨p, b1, o1, h1, h2, h3, hC7.cell (fun h => h) h4⟩)⟩
            clear hC7
            go_upto_region 21 with fail
            clear HSr HTr7 HCr HCs HX6 HS6 HT6 HC6 HX5 HS5 HT5 HC5 HOa HX4 HS4 HT4 HC4 HX3 HS3 HTr3 HC3 HO3 HX2 HS2 HO2 HC2 HTr HO HX1 HS1 HC1 HCW HR HLT HT HWF HO0 HX0 HCASE k0 k1 k2
            generalize wr.heap.size = B at *
            generalize World.alloc wr _ = w7 at *
            obtain ⟨bb, hbb⟩ : ∃ bb, (decide (0 ≤ si) && decide (si < (n : Int))) = bb := ⟨_, rfl⟩
            have HBB := Bx.mk hbb
            clear hbb
            go_cut [100] (fun s100 wx => s100 = .bool bb ∧ wx = w7)
            case first =>
              by_cases f1 : si < 0
              · have g3 : decide (0 ≤ si) = false := decide_eq_false (by omega)
                go_wp2_with fail
                go_meet
                exact ⟨by rw [← HBB.out, g3]; rfl, rfl⟩
              · have f2 : 0 ≤ si := by omega
                have g3 : decide (0 ≤ si) = true := decide_eq_true f2
                by_cases f3 : si < (n : Int)
                · have g4 : decide (si < (n : Int)) = true := decide_eq_true f3
                  go_wp2_with fail
                  go_meet
                  exact ⟨by rw [← HBB.out, g3, g4]; rfl, rfl⟩
                · have g4 : decide (si < (n : Int)) = false := decide_eq_false f3
                  go_wp2_with fail
                  go_meet
                  exact ⟨by rw [← HBB.out, g3, g4]; rfl, rfl⟩
            case rest =>
              obtain ⟨rfl, rfl⟩ := hcut
              go_upto_if 100 with fail
              go_cut [14] (fun s14 wx => s14 = .int .i64 gv ∧ wx = wc)
              case first =>
                rcases HCASE2.out with ⟨f1, rfl⟩ | ⟨f1, f2, rfl⟩ | ⟨p, b1, o1, rfl, f1, rfl, f2⟩
                · have hb : bb = false := by rw [← HBB.out, decide_eq_false (show ¬ 0 ≤ si by omega)]; rfl
                  subst hb
                  go_wp2_with fail
                  go_meet
                  exact ⟨rfl, rfl⟩
                · have hb : bb = false := by rw [← HBB.out, decide_eq_false (show ¬ si < (n : Int) by omega), Bool.and_false]
                  subst hb
                  go_wp2_with fail
                  go_meet
                  exact ⟨rfl, rfl⟩
                · have hb : bb = true := by rw [← HBB.out, decide_eq_true (show (0 : Int) ≤ (p : Int) by omega), decide_eq_true (show (p : Int) < (n : Int) by omega)]; rfl
                  subst hb
                  go_wp2_with fail
                  go_meet
                  exact ⟨rfl, rfl⟩
              case rest =>
                obtain ⟨rfl, rfl⟩ := hcut
                go_wp2_with fail
                have hcc := Ch.refl (fun _ => False) wc
                go_region_held3 (fun w' => w'.cell? ⟨B, 0, none⟩ = some (.int .i64 sc) ∧ w'.cell? ⟨B, 1, none⟩ = some (.int .i64 si) ∧ w'.cell? ⟨B, 2, none⟩ = some (.int .i64 sk)) (first | exact s2 | exact ⟨c0, c1, c2⟩ | go_keep) (first | (go_at_call 15; refine (tget_any T W l si gv _ (by first | exact HT7.out.keep hcc | exact HT7.out.keep hcc.drew) HGV.out).mono ?_; rintro e w8 ⟨rfl, hc2⟩; have hcc : Ch (fun _ => False) wc w8 := (by first | exact hcc.trans hc2 (fun _ _ h => h) | exact hcc.drew.trans hc2 (fun _ _ h => h)); have s2 : w8.cell? ⟨B, 0, none⟩ = some (.int .i64 sc) ∧ w8.cell? ⟨B, 1, none⟩ = some (.int .i64 si) ∧ w8.cell? ⟨B, 2, none⟩ = some (.int .i64 sk) := ⟨hcc.cell (fun h => h) c0, hcc.cell (fun h => h) c1, hcc.cell (fun h => h) c2⟩) | (go_at_call 16; refine (trank_any T W l sc si rv _ (by first | exact HT7.out.keep hcc | exact HT7.out.keep hcc.drew) HRV.out).mono ?_; rintro e w8 ⟨rfl, hc2⟩; have hcc : Ch (fun _ => False) wc w8 := (by first | exact hcc.trans hc2 (fun _ _ h => h) | exact hcc.drew.trans hc2 (fun _ _ h => h)); have s2 : w8.cell? ⟨B, 0, none⟩ = some (.int .i64 sc) ∧ w8.cell? ⟨B, 1, none⟩ = some (.int .i64 si) ∧ w8.cell? ⟨B, 2, none⟩ = some (.int .i64 sk) := ⟨hcc.cell (fun h => h) c0, hcc.cell (fun h => h) c1, hcc.cell (fun h => h) c2⟩) | (go_at_call 17; refine (ref_rank_val l A n c sc si rv _ (by first | exact HS7.out.ch hcc (fun _ _ _ h => h) | exact HS7.out) hn20 HRV.out).mono ?_; rintro e w' ⟨rfl, rfl⟩) | (go_at_call 18; refine (tselect_any T W l sc sk sv _ (by first | exact HT7.out.keep hcc | exact HT7.out.keep hcc.drew) (by first | exact HTb.out.keep hcc | exact HTb.out) HSV.out).mono ?_; rintro e w8 ⟨rfl, hc2⟩; have hcc : Ch (fun _ => False) wc w8 := (by first | exact hcc.trans hc2 (fun _ _ h => h) | exact hcc.drew.trans hc2 (fun _ _ h => h)); have s2 : w8.cell? ⟨B, 0, none⟩ = some (.int .i64 sc) ∧ w8.cell? ⟨B, 1, none⟩ = some (.int .i64 si) ∧ w8.cell? ⟨B, 2, none⟩ = some (.int .i64 sk) := ⟨hcc.cell (fun h => h) c0, hcc.cell (fun h => h) c1, hcc.cell (fun h => h) c2⟩) | (go_at_call 19; refine (ref_select_val l A n c sc sk sv _ (by first | exact HS7.out.ch hcc (fun _ _ _ h => h) | exact HS7.out) hn20 HWK.out HSV.out).mono ?_; rintro e w' ⟨rfl, rfl⟩) | (go_at_call 20; refine (tbelow_any T W l sc si sk bv _ (by first | exact HT7.out.keep hcc | exact HT7.out.keep hcc.drew) HBV.out).mono ?_; rintro e w8 ⟨rfl, hc2⟩; have hcc : Ch (fun _ => False) wc w8 := (by first | exact hcc.trans hc2 (fun _ _ h => h) | exact hcc.drew.trans hc2 (fun _ _ h => h)); have s2 : w8.cell? ⟨B, 0, none⟩ = some (.int .i64 sc) ∧ w8.cell? ⟨B, 1, none⟩ = some (.int .i64 si) ∧ w8.cell? ⟨B, 2, none⟩ = some (.int .i64 sk) := ⟨hcc.cell (fun h => h) c0, hcc.cell (fun h => h) c1, hcc.cell (fun h => h) c2⟩) | (go_at_call 21; refine (ref_below_val l A n c sc si sk bv _ (by first | exact HS7.out.ch hcc (fun _ _ _ h => h) | exact HS7.out) hn20 HWI.out HBV.out).mono ?_; rintro e w' ⟨rfl, rfl⟩))
                all_goals
                  have HC9 := Bx.mk (HC7.out.trans hcc (fun _ _ h => h))
                  clear hcc s2
                  go_wp2
                  go_roundw
                  case rel => exact ⟨q + 1, by omega, by go_num, HC9.out⟩
                  case measure => simp [intOf]; omega
          · have eq : decide ((q : Int) < (m : Int)) = false := by simp; omega
            have HC7 := Bx.mk (HC6.out.trans hC (fun _ _ h => h))
            clear hC
            go_wp2_with fail
            refine (known_any _ (HT.out.keep HC7.out)).mono ?_
            rintro e w8 ⟨rfl, hC8⟩
            have HC8 := Bx.mk (HC7.out.trans hC8 (fun _ _ h => h))
            clear hC8
            go_wp2
            go_ret
            exact ⟨rfl, HC8.out⟩
  · have HR := Bx.mk hr
    have HR0 := Bx.mk hr0
    have e1 : (r != 0) = true := by simpa using hr0
    have e2 : (r != r) = false := by simp
    clear hr hr0
    go_wp2_with fail
    refine (build_bad z xs _ n cw r _ _ HO.out.sl (by omega) HR.out HR0.out).mono ?_
    rintro e w' ⟨rfl, rfl⟩
    go_wp2_with fail
    refine (refbuild_any z xs A n c r _ HS1.out (by omega) HR.out).mono ?_
    rintro e w' ⟨rfl, rfl⟩
    go_wp2_with fail
    refine (ints_any xs _ A n cw c _ HO.out.sl HS1.out (by omega)).mono ?_
    rintro e w2 ⟨rfl, hC2⟩
    have HC2 := Bx.mk (HC1.out.trans hC2 (fun _ _ h => h))
    clear hC2
    go_wp2_with fail
    refine (known_any _ (HT.out.keep HC2.out)).mono ?_
    rintro e w3 ⟨rfl, hC3⟩
    have HC3 := Bx.mk (HC2.out.trans hC3 (fun _ _ h => h))
    clear hC3
    go_wp2
    go_ret
    exact ⟨rfl, HC3.out⟩
theorem counts_law (z : Int) (xs : List Int) (ss : List AskI) (A A' : Option Addr) (n c m c' : Nat) (w : World) (F H : Nat → Prop) (ht : Tab w) (hs : Sl w F .i64 A n xs) (hc : n ≤ c) (hcm : c ≤ maxLen) (hx : Asks w H A' m ss) (hc' : m ≤ c') (hcm' : c' ≤ maxLen) (hwf : ∀ s ∈ ss, Wf s.c ∧ Wf s.i ∧ Wf s.k) :
    Calls Tryd.prog 3 #[.int .i64 z, .slice A n c, .slice A' m c'] w fun e w' => e = .returned (.bool true) ∧ Ch (fun _ => False) w w' := by
  have h1 : c ≤ 9223372036854775807 := by unfold maxLen at hcm; omega
  have h2 : c' ≤ 9223372036854775807 := by unfold maxLen at hcm'; omega
  by_cases h : 1500 < n ∨ 40 < m
  · exact counts_out z A A' n c m c' w (by omega) (by omega) h
  · exact counts_in z xs ss A A' n c m c' w F H ht hs hx hwf (by omega) (by omega)
end Go.Proofs.YtbckiefkppgipaaDoor
