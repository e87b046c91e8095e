/-
  The walk of haystacklaw1.OctetTakes.
-/
import Derived.Test.YtppplchllnalpaaDoorOcPlaces
import Derived.Test.YtppplchllnalpaaDoorOcHeavy
import Derived.Test.YtppplchllnalpaaDoorOcKnown
import Derived.Deep.RegionHeld3
import Derived.Deep.QuietTactic
import Derived.BigQuiet
namespace Go.Proofs.YtppplchllnalpaaDoor
open Go.RowKit Go.Oct

theorem bv_len (xs : List Int) : (bv xs).length ≤ xs.length := by
  unfold bv
  cases h : takeN 0 0 xs with
  | none => simp
  | some y =>
    obtain ⟨m, r⟩ := y
    have := takeN_len _ _ _ _ _ h
    simp only
    split
    · simp
    · rw [List.length_take]; omega
theorem rv_len (xs : List Int) (n : Int) : (rv xs n).length ≤ xs.length := by
  unfold rv
  split
  · simp
  · rw [List.length_take]; omega
/-- Both Readers stand at one state. -/
def Both (br bf : Nat) (bad : Bool) (xs : List Int) (w : World) : Prop := RdQ (fun b => b < br) w br bad xs ∧ Rf (fun b => br < b ∧ b < bf) w bf bad xs
theorem Both.keep {br bf : Nat} {bad : Bool} {xs : List Int} {w w' : World} {S : Nat → Prop} (h : Both br bf bad xs w) (hc : Ch S w w') (hb : br < bf) (hS : ∀ b, S b → bf < b) : Both br bf bad xs w' :=
  ⟨h.1.keep hc (fun h => by have := hS br h; omega) (fun b hq _ h => by have := hS b h; omega), h.2.ch hc (fun h => by have := hS bf h; omega) (fun b hq _ h => by have := hS b h; omega)⟩

theorem same_of {P : Program} {f : FuncId} {args : Array Value} {w : World} {v : Value} (h : Calls P f args w fun e w' => e = .returned v ∧ w = w') : Calls P f args w fun e w' => e = .returned v ∧ w' = w := h.mono fun _ _ ⟨a, b⟩ => ⟨a, b.symm⟩
theorem rf_cells {w : World} {bf : Nat} {bad : Bool} {xs : List Int} {Q : Nat → Prop} (h : Rf Q w bf bad xs) : ∃ A c, w.cell? ⟨bf, 0, none⟩ = some (.slice A xs.length c) ∧ w.cell? ⟨bf, 1, none⟩ = some (.bool bad) := by
  obtain ⟨A, n, c, hblk, hsl, _⟩ := h
  obtain rfl := hsl.len
  exact ⟨A, c, (rd_cells hblk).1, (rd_cells hblk).2.1⟩

theorem three_cells (wo wx : World) (s : Nat) (es : s = wo.heap.size)
    (e : wx = ((wo.alloc (.cells #[.int .i64 7] 3)).alloc (.cells #[.int .i64 7] 3)).alloc (.cells #[.pointer (some ⟨s, 0, none⟩), .pointer none, .pointer (some ⟨s + 1, 0, none⟩)] 47)) :
    Var wx s 7 ∧ Var wx (s + 1) 7 ∧ wx.cell? ⟨s + 1 + 1, 0, none⟩ = some (.pointer (some ⟨s, 0, none⟩)) ∧ wx.cell? ⟨s + 1 + 1, 1, none⟩ = some (.pointer none) ∧
      wx.cell? ⟨s + 1 + 1, 2, none⟩ = some (.pointer (some ⟨s + 1, 0, none⟩)) ∧ Ch (fun _ => False) wo wx := by
  obtain ⟨wa, ea⟩ : ∃ wa, wa = wo.alloc (.cells #[.int .i64 7] 3) := ⟨_, rfl⟩
  obtain ⟨wc, ec⟩ : ∃ wc, wc = wa.alloc (.cells #[.int .i64 7] 3) := ⟨_, rfl⟩
  rw [← ea, ← ec] at e
  have sa : wa.heap.size = s + 1 := by rw [ea, es]; simp
  have sc : wc.heap.size = s + 1 + 1 := by rw [ec]; simp [sa]
  have va : Var wa s 7 := by rw [ea, es]; exact heap_alloc_new wo _
  have ca : Ch (fun _ => False) wo wa := by rw [ea]; exact (Ch.refl _ _).alloc _
  have cc : Ch (fun _ => False) wa wc := by rw [ec]; exact (Ch.refl _ _).alloc _
  have cx : Ch (fun _ => False) wc wx := by rw [e]; exact (Ch.refl _ _).alloc _
  have vc : Var wc (s + 1) 7 := by
    have h := heap_alloc_new wa (.cells #[.int .i64 7] 3)
    rw [sa, ← ec] at h
    exact h
  have vx := heap_alloc_new wc (.cells #[.pointer (some ⟨s, 0, none⟩), .pointer none, .pointer (some ⟨s + 1, 0, none⟩)] 47)
  rw [sc, ← e] at vx
  exact ⟨(va.ch cc fun h => h).ch cx fun h => h, vc.ch cx fun h => h, by simp [World.cell?, vx], by simp [World.cell?, vx], by simp [World.cell?, vx], (ca.trans cc fun _ _ h => h).trans cx fun _ _ h => h⟩

set_option maxHeartbeats 4000000 in
set_option maxRecDepth 100000 in
theorem takes_any (xs ks ns : List Int) (A K N : Option Addr) (n c m d p q : Nat) (w : World) (ht : Tab w) (hn : n ≤ 9223372036854775807) (hm : m ≤ 9223372036854775807) (hp : p ≤ 9223372036854775807)
    (hx : Sl w (fun _ => True) .u8 A n xs) (hk : Sl w (fun _ => True) .i64 K m ks) (hs : Sl w (fun _ => True) .i64 N p ns) (hby : Byt xs) :
    Calls Tryd.prog 5 #[.slice A n c, .slice K m d, .slice N p q] w fun e w' => e = .returned (.bool true) ∧ Ch (fun _ => False) w w' := by
  have HT := Lib.hid ht
  have HBY := Lib.hid hby
  clear ht hby
  by_cases hn4 : 4000 < n
  · go_enter Tryd.func5, Tryd.ntmps5
    go_wp2
    go_ret
    exact ⟨rfl, Ch.refl _ _⟩
  by_cases hm2 : 200 < m
  · go_enter Tryd.func5, Tryd.ntmps5
    go_wp2
    go_ret
    exact ⟨rfl, Ch.refl _ _⟩
  by_cases hpm : p < m
  · go_enter Tryd.func5, Tryd.ntmps5
    go_wp2
    go_ret
    exact ⟨rfl, Ch.refl _ _⟩
  have hxl := hx.len
  have hxw : Sl w (fun b => b < w.heap.size) .u8 A n xs := Sl.mono hx fun _ h _ => h
  have hkw : Sl w (fun b => b < w.heap.size) .i64 K m ks := Sl.mono hk fun _ h _ => h
  have hsw : Sl w (fun b => b < w.heap.size) .i64 N p ns := Sl.mono hs fun _ h _ => h
  have HXL := Lib.hid hxl
  clear hx hk hs hxl
  go_enter Tryd.func5, Tryd.ntmps5
  go_wp2_with fail
  refine (roomy_any xs A n c _ _ (by omega) hxw).mono ?_
  rintro e w1 ⟨g, k1, rfl, hg, hgk, hkm, hown, hc1⟩
  have hgl := (hown.lt g rfl).2
  have hs1 : Sl w1 (fun b => b = g) .u8 (some ⟨g, 0, none⟩) n xs := by
    have h := own_take (k := n) hown (by omega)
    rw [List.take_append_of_le_length (by simp [HXL.out]), List.take_of_length_le (by simp [HXL.out])] at h
    exact Sl.mono (Sl.of_own h) fun b _ h => by simp [Value.ownBlock] at h; exact h.symm
  go_wp2_with fail
  refine (new_low _ n k1 xs w1 _ hs1 (by omega) (by omega) hkm HBY.out).mono ?_
  rintro e w2 ⟨br, rfl, hbr, hrd, hc2⟩
  have hrdl := hrd.lt
  have hC2 : Ch (fun _ => False) w w2 := hc1.trans hc2 fun _ _ h => h
  have hown2 := hc2.own hown (fun _ _ h => h)
  have hxw2 := hxw.ch hC2 (fun _ _ _ h => h)
  have hC2a : Ch (fun _ => False) w2 (w2.alloc (.cells #[] 5)) := (Ch.refl _ _).alloc _
  have hsz := hc1.size
  clear hs1 hown hc1 hc2
  go_wp2_with (at_builtin; refine wp_app rfl (.tmp 40) (.tmp 41) Tb rfl rfl (own_none w2 5) rfl (hxw2.ch hC2a (fun _ _ _ h => h)) ?c1 ?c2 ?c3 ?_)
  case c1 => exact ints_cells _ _
  case c2 => omega
  case c3 => omega
  intro v3 w3 ho3 hg3 hb3
  have hf3 : Fresh w2 v3 xs w3 := by
    have h0 : Fresh w2 (.slice (some ⟨w2.heap.size, 0, none⟩) 0 0) [] (w2.alloc (.cells #[] 5)) := ⟨own_none w2 _, fun g hg => by simp [Value.ownBlock] at hg; omega, hC2a⟩
    exact h0.app (zs := xs) (m := n) hg3 (by simpa using ho3) (by simpa using hb3)
  obtain ⟨A3, c3, rfl, hl3, hm3⟩ := own_shape ho3
  obtain ⟨wb, ewb⟩ : ∃ wb, wb = w3.alloc (.cells #[.slice A3 n c3, .bool false] 45) := ⟨_, rfl⟩
  have hCb : Ch (fun _ => False) w2 wb := by
    rw [ewb]
    exact hf3.2.2.alloc _
  have hbf : br < w3.heap.size := by have := hf3.2.2.size; omega
  have hrf : Rf (fun b => br < b ∧ b < w3.heap.size) wb w3.heap.size false xs := by
    rw [ewb]
    refine ⟨A3, n, c3, heap_alloc_new w3 _, Sl.alloc ?_ _, hl3, by unfold maxLen at hm3; omega, HBY.out, fun h => by cases h⟩
    have h := hf3.1
    rw [HXL.out] at h
    exact Sl.mono (Sl.of_own h) fun b hlt hb => ⟨by omega, by have := hf3.2.1 b hb; omega, hlt⟩
  have hboth : Both br w3.heap.size false xs wb := ⟨hrd.keep hCb (fun h => h) (fun _ _ _ h => h), hrf⟩
  have hszb : wb.heap.size = w3.heap.size + 1 := by rw [ewb]; simp
  obtain ⟨bf, ebf⟩ : ∃ bf, bf = w3.heap.size := ⟨_, rfl⟩
  have hownb := hCb.own hown2 (fun _ _ h => h)
  have hCw : Ch (fun _ => False) w wb := hC2.trans hCb fun _ _ h => h
  have hxb := hxw.ch hCw (fun _ _ _ h => h)
  have hkb := hkw.ch hCw (fun _ _ _ h => h)
  have hsb := hsw.ch hCw (fun _ _ _ h => h)
  have hbrw : w.heap.size ≤ br := by omega
  have hgbr : g < br := by omega
  rw [← ebf] at hboth hbf hszb
  have hszl : bf < wb.heap.size := by omega
  have HBOTH := Lib.hid hboth
  have HCW := Lib.hid hCw
  have EWB := Lib.hid ewb
  have EBF := Lib.hid ebf
  clear hown2 hxw hkw hsw hC2 hxw2 hC2a ho3 hg3 hb3 hf3 hCb hrf hboth hszb hCw ewb ebf hrd
  go_wp2_with fail
  rw [← EWB.out, ← EBF.out]
  go_loopw [10] (fun i wr => ∃ k : Nat, k ≤ m ∧ i = .int .i64 k ∧ ∃ bad ys, ys.length ≤ 4000 ∧ Both br bf bad ys wr ∧ Ch (fun b => b = br ∨ b = bf ∨ wb.heap.size ≤ b) wb wr) (fun i _ => m - (intOf i).toNat)
  case atStart => exact ⟨0, Nat.zero_le _, rfl, false, xs, by rw [HXL.out]; omega, HBOTH.out, Ch.refl _ _⟩
  case round =>
    obtain ⟨k, hk, rfl, bad, ys, hys, hbo, hch⟩ := hrel
    have hnb : ∀ b, b < w.heap.size → b < wb.heap.size → ¬ (b = br ∨ b = bf ∨ wb.heap.size ≤ b) := fun b h1 h2 h => by omega
    by_cases hlt : k < m
    · obtain ⟨b, off, kd, rfl, hFb, _, hck⟩ := (hkb.ch hch hnb).at_ hlt
      obtain ⟨b2, off2, nn, rfl, hFb2, _, hcn⟩ := (hsb.ch hch hnb).at_ (k := k) (by omega)
      have hchs := hch.size
      obtain ⟨wo, rfl⟩ : ∃ wo : World, wo = wr := ⟨_, rfl⟩
      by_cases h1 : kd = 1
      · have hb1 : (kd == 1) = true := by rw [h1]; rfl
        have HA := Lib.hid (num_step br bad ys wo hbo.1)
        have HBO := Lib.hid hbo
        have HCH := Lib.hid hch
        clear h1 hbo hch hcn
        go_wp2_with fail
        refine HA.out.mono ?_
        rintro e w1 ⟨rfl, hr1, hc1⟩
        have hf1 : Rf (fun b => br < b ∧ b < bf) w1 bf bad ys := HBO.out.2.ch hc1 (fun h => by have h' : bf = br := h; omega) (fun b hq _ h => by have h' : b = br := h; omega)
        have HB := Lib.hid (rfnum_step bf bad ys w1 hys hf1)
        clear HA hf1
        go_wp2_with fail
        refine HB.out.mono ?_
        rintro e w2 ⟨rfl, hf2, hc2⟩
        have hr2 : RdQ (fun b => b < br) w2 br (nb ys) (nr ys) := hr1.keep hc2 (fun h => by have h' : br = bf := h; omega) (fun b hq _ h => by have h' : b = bf := h; omega)
        have hch2 : Ch (fun b => b = br ∨ b = bf ∨ wb.heap.size ≤ b) wb w2 := (HCH.out.trans hc1 fun _ _ h => .inl h).trans hc2 fun _ _ h => .inr (.inl h)
        clear HB hr1 hc1 hc2
        go_wp2_with fail
        obtain ⟨bad2, ebad⟩ : ∃ b2, b2 = nb ys := ⟨_, rfl⟩
        obtain ⟨ys2, eys⟩ : ∃ y2, y2 = nr ys := ⟨_, rfl⟩
        have hl2 : ys2.length ≤ 4000 := by rw [eys]; have := nr_len ys; omega
        have hbo2 : Both br bf bad2 ys2 w2 := by rw [ebad, eys]; exact ⟨hr2, hf2⟩
        have HBO2 := Lib.hid hbo2
        have HCH2 := Lib.hid hch2
        obtain ⟨A9, c9, q0, q1⟩ := rf_cells hbo2.2
        clear ebad eys hbo2 hch2 hr2 hf2
        cases bad2
        · go_wp2_with fail
          go_quiet ((first | (go_at_call 28; exact Calls.quiet_of_same (same_of (left_any br false ys2 _ HBO2.out.1))) | (go_at_call 18; exact Calls.quiet_of_same (same_of (good_any br false ys2 _ HBO2.out.1))) | (go_at_call 19; exact Calls.quiet_of_same (same_of (whole_any br false ys2 _ HBO2.out.1))) | (go_at_call 36; exact Calls.quiet_of_same (same_of (rfwhole_any bf false ys2 _ HBO2.out.2)))))
          go_wp2
          go_roundw
          case rel => exact ⟨k + 1, by omega, by go_num, false, ys2, hl2, HBO2.out, HCH2.out.drewN _⟩
          case measure => simp [intOf]; omega
        · go_wp2_with fail
          go_quiet ((first | (go_at_call 28; exact Calls.quiet_of_same (same_of (left_any br true ys2 _ HBO2.out.1))) | (go_at_call 18; exact Calls.quiet_of_same (same_of (good_any br true ys2 _ HBO2.out.1))) | (go_at_call 19; exact Calls.quiet_of_same (same_of (whole_any br true ys2 _ HBO2.out.1))) | (go_at_call 36; exact Calls.quiet_of_same (same_of (rfwhole_any bf true ys2 _ HBO2.out.2)))))
          go_wp2
          go_roundw
          case rel => exact ⟨k + 1, by omega, by go_num, true, ys2, hl2, HBO2.out, HCH2.out.drewN _⟩
          case measure => simp [intOf]; omega
      by_cases h2 : kd = 2
      · have hb1 : (kd == 1) = false := by rw [h2]; rfl
        have hb2 : (kd == 2) = true := by rw [h2]; rfl
        have HA := Lib.hid (bytes_step br bad ys wo hys hbo.1)
        have HBO := Lib.hid hbo
        have HCH := Lib.hid hch
        have hbfl := hbo.2.lt
        clear h1 h2 hbo hch hcn
        go_wp2_with fail
        refine HA.out.mono ?_
        rintro e w1 ⟨v1, rfl, hv1, hr1, hc1⟩
        obtain ⟨A1, d1, rfl, _, _⟩ := own_shape hv1.1
        have hf1 : Rf (fun b => br < b ∧ b < bf) w1 bf bad ys := HBO.out.2.ch hc1 (fun h => by have h' : bf = br := h; omega) (fun b hq _ h => by have h' : b = br := h; omega)
        have HB := Lib.hid (rfbytes_step bf bad ys w1 hys hf1)
        have hs1 := hc1.size
        clear HA hf1
        go_wp2_with fail
        refine HB.out.mono ?_
        rintro e w2 ⟨v2, rfl, hv2, hf2, hc2⟩
        obtain ⟨A2, d2, rfl, _, _⟩ := own_shape hv2.1
        have hr2 : RdQ (fun b => b < br) w2 br (bb ys) (br_ ys) := hr1.keep hc2 (fun h => by have h' : br = bf := h; omega) (fun b hq _ h => by have h' : b = bf := h; omega)
        have hch2 : Ch (fun b => b = br ∨ b = bf ∨ wb.heap.size ≤ b) wb w2 := (HCH.out.trans hc1 fun _ _ h => .inl h).trans hc2 fun _ _ h => .inr (.inl h)
        have ho1 := hc2.own hv1.1 fun g' hg' h => by have h' : g' = bf := h; have := hv1.2 g' hg'; omega
        have hvb := hv1.2
        have hbl : (bv ys).length ≤ 4000 := by have := bv_len ys; omega
        clear HB hr1 hc1 hc2 hv1
        go_wp2_with fail
        refine (same_any A1 A2 _ _ d1 d2 (bv ys) (bv ys) _ _ w2 (by omega) (by omega) (Sl.of_own ho1) (Sl.of_own hv2.1)).mono ?_
        rintro e w3 ⟨rfl, j3, ew3⟩
        have hc3 : Ch (fun _ => False) w2 w3 := by
          rw [ew3]
          exact (Ch.refl _ _).drewN _
        have hbo3 : Both br bf (bb ys) (br_ ys) w3 := Both.keep ⟨hr2, hf2⟩ hc3 (by omega) fun b h => h.elim
        have ho3 := hc3.own ho1 (fun _ _ h => h)
        have hch3 := hch2.trans hc3 fun _ _ h => h.elim
        clear hr2 hf2 hch2 ho1 hv2 hc3 ew3
        go_wp2_with fail
        refine (spoil_any _ _ _ w3 (by omega) ho3).mono ?_
        rintro e w4 ⟨rfl, hc4⟩
        have hbo4 : Both br bf (bb ys) (br_ ys) w4 := Both.keep hbo3 hc4 (by omega) fun b h => by have := hvb b h; omega
        have hch2 : Ch (fun b => b = br ∨ b = bf ∨ wb.heap.size ≤ b) wb w4 := hch3.trans hc4 fun i hi h => .inr (.inr (by have := hvb i h; omega))
        have hr2 := hbo4.1
        have hf2 := hbo4.2
        clear hbo3 ho3 hch3 hc4 hvb hbo4
        go_wp2_with fail
        obtain ⟨bad2, ebad⟩ : ∃ b2, b2 = bb ys := ⟨_, rfl⟩
        obtain ⟨ys2, eys⟩ : ∃ y2, y2 = br_ ys := ⟨_, rfl⟩
        have hl2 : ys2.length ≤ 4000 := by rw [eys]; have := br_len ys; omega
        have hbo2 : Both br bf bad2 ys2 w4 := by rw [ebad, eys]; exact ⟨hr2, hf2⟩
        have HBO2 := Lib.hid hbo2
        have HCH2 := Lib.hid hch2
        obtain ⟨A9, c9, q0, q1⟩ := rf_cells hbo2.2
        clear ebad eys hbo2 hch2 hr2 hf2
        cases bad2
        · go_wp2_with fail
          go_quiet ((first | (go_at_call 28; exact Calls.quiet_of_same (same_of (left_any br false ys2 _ HBO2.out.1))) | (go_at_call 18; exact Calls.quiet_of_same (same_of (good_any br false ys2 _ HBO2.out.1))) | (go_at_call 19; exact Calls.quiet_of_same (same_of (whole_any br false ys2 _ HBO2.out.1))) | (go_at_call 36; exact Calls.quiet_of_same (same_of (rfwhole_any bf false ys2 _ HBO2.out.2)))))
          go_wp2
          go_roundw
          case rel => exact ⟨k + 1, by omega, by go_num, false, ys2, hl2, HBO2.out, HCH2.out.drewN _⟩
          case measure => simp [intOf]; omega
        · go_wp2_with fail
          go_quiet ((first | (go_at_call 28; exact Calls.quiet_of_same (same_of (left_any br true ys2 _ HBO2.out.1))) | (go_at_call 18; exact Calls.quiet_of_same (same_of (good_any br true ys2 _ HBO2.out.1))) | (go_at_call 19; exact Calls.quiet_of_same (same_of (whole_any br true ys2 _ HBO2.out.1))) | (go_at_call 36; exact Calls.quiet_of_same (same_of (rfwhole_any bf true ys2 _ HBO2.out.2)))))
          go_wp2
          go_roundw
          case rel => exact ⟨k + 1, by omega, by go_num, true, ys2, hl2, HBO2.out, HCH2.out.drewN _⟩
          case measure => simp [intOf]; omega
      by_cases h3 : kd = 3
      · have hb1 : (kd == 1) = false := by rw [h3]; rfl
        have hb2 : (kd == 2) = false := by rw [h3]; rfl
        have hb3 : (kd == 3) = true := by rw [h3]; rfl
        have HBO := Lib.hid hbo
        have HCH := Lib.hid hch
        have hbfl := hbo.2.lt
        have hrvl : (rv ys nn).length ≤ 4000 := by have := rv_len ys nn; omega
        have i0 : (0 : Int) ≤ (k : Int) := by omega
        have i1 : (k : Int) < (p : Int) := by omega
        clear h1 h2 h3 hbo hch
        go_wp2_with fail
        go_region_held3 (fun w' => w'.cell? ⟨b2, off2 + k, none⟩ = some (.int .i64 nn)) (first | go_keep | exact s3 | exact s2 | exact s1) (first | (go_at_call 29; refine (raw_step br bad ys nn _ hys (by exact HBO.out.1)).mono ?_; rintro e w1 ⟨v1, rfl, hv1, hr1, hc1⟩; obtain ⟨A1, d1, rfl, _, _⟩ := own_shape hv1.1; have s1 := Ch.cell (p := ⟨b2, off2 + k, none⟩) hc1 (fun h => by have h' : b2 = br := h; omega) hcn) | (go_at_call 32; have hf1 := Rf.ch (show Rf (fun b => br < b ∧ b < bf) wo.drew bf bad ys from HBO.out.2) hc1 (fun h => by have h' : bf = br := h; omega) (fun b hq _ h => by have h' : b = br := h; omega); refine (rfraw_step bf bad ys nn _ hys (by exact hf1)).mono ?_; rintro e w2 ⟨v2, rfl, hv2, hf2, hc2⟩; obtain ⟨A2, d2, rfl, _, _⟩ := own_shape hv2.1; have s2 := Ch.cell (p := ⟨b2, off2 + k, none⟩) hc2 (fun h => by have h' : b2 = bf := h; omega) s1; have ho1 := hc2.own hv1.1 (fun g' hg' h => by have h' : g' = bf := h; have hh := hv1.2 g' hg'; have : wo.heap.size ≤ g' := hh; omega)) | (go_at_call 13; refine (same_any A1 A2 _ _ d1 d2 (rv ys nn) (rv ys nn) _ _ _ (by omega) (by omega) (Sl.of_own ho1) (Sl.of_own hv2.1)).mono ?_; rintro e w3 ⟨rfl, j3, ew3⟩; have s3 : w3.cell? ⟨b2, off2 + k, none⟩ = some (.int .i64 nn) := (by rw [ew3]; exact s2)))
        all_goals
          have hr2 : RdQ (fun b => b < br) w2 br (rb bad ys nn) (rr ys nn) := hr1.keep hc2 (fun h => by have h' : br = bf := h; omega) (fun b hq _ h => by have h' : b = bf := h; omega)
          have hch2 : Ch (fun b => b = br ∨ b = bf ∨ wb.heap.size ≤ b) wb (w2.drewN j3) := ((HCH.out.drew.trans hc1 fun _ _ h => .inl h).trans hc2 fun _ _ h => .inr (.inl h)).drewN _
          have hbo3 : Both br bf (rb bad ys nn) (rr ys nn) (w2.drewN j3) := ⟨hr2, hf2⟩
          clear hv1 hr1 hc1 s1 hf1 hv2 hc2 s2 ho1 s3 hr2 hf2
          obtain ⟨w3, ew3⟩ : ∃ w3, w3 = w2.drewN j3 := ⟨_, rfl⟩
          rw [← ew3] at hch2 hbo3
          rw [← ew3]
          clear ew3
          go_wp2_with fail
          obtain ⟨bad2, ebad⟩ : ∃ b2, b2 = rb bad ys nn := ⟨_, rfl⟩
          obtain ⟨ys2, eys⟩ : ∃ y2, y2 = rr ys nn := ⟨_, rfl⟩
          have hl2 : ys2.length ≤ 4000 := by rw [eys]; have := rr_len ys nn; omega
          have hbo2 : Both br bf bad2 ys2 w3 := by rw [ebad, eys]; exact hbo3
          have HBO2 := Lib.hid hbo2
          have HCH2 := Lib.hid hch2
          obtain ⟨A9, c9, q0, q1⟩ := rf_cells hbo2.2
          clear ebad eys hbo2 hch2 hbo3
          cases bad2
          · go_wp2_with fail
            go_quiet ((first | (go_at_call 28; exact Calls.quiet_of_same (same_of (left_any br false ys2 _ HBO2.out.1))) | (go_at_call 18; exact Calls.quiet_of_same (same_of (good_any br false ys2 _ HBO2.out.1))) | (go_at_call 19; exact Calls.quiet_of_same (same_of (whole_any br false ys2 _ HBO2.out.1))) | (go_at_call 36; exact Calls.quiet_of_same (same_of (rfwhole_any bf false ys2 _ HBO2.out.2)))))
            go_wp2
            go_roundw
            case rel => exact ⟨k + 1, by omega, by go_num, false, ys2, hl2, HBO2.out, HCH2.out.drewN _⟩
            case measure => simp [intOf]; omega
          · go_wp2_with fail
            go_quiet ((first | (go_at_call 28; exact Calls.quiet_of_same (same_of (left_any br true ys2 _ HBO2.out.1))) | (go_at_call 18; exact Calls.quiet_of_same (same_of (good_any br true ys2 _ HBO2.out.1))) | (go_at_call 19; exact Calls.quiet_of_same (same_of (whole_any br true ys2 _ HBO2.out.1))) | (go_at_call 36; exact Calls.quiet_of_same (same_of (rfwhole_any bf true ys2 _ HBO2.out.2)))))
            go_wp2
            go_roundw
            case rel => exact ⟨k + 1, by omega, by go_num, true, ys2, hl2, HBO2.out, HCH2.out.drewN _⟩
            case measure => simp [intOf]; omega
      by_cases h4 : kd = 4
      · have hb1 : (kd == 1) = false := by rw [h4]; rfl
        have hb2 : (kd == 2) = false := by rw [h4]; rfl
        have hb3 : (kd == 3) = false := by rw [h4]; rfl
        have hb4 : (kd == 4) = true := by rw [h4]; rfl
        have HA := Lib.hid (bad_any br bad ys wo hbo.1)
        have HBO := Lib.hid hbo
        have HCH := Lib.hid hch
        clear h1 h2 h4 hbo hch hcn
        go_wp2_with fail
        refine HA.out.mono ?_
        rintro e w1 ⟨rfl, hr1, hc1⟩
        have hf1 : Rf (fun b => br < b ∧ b < bf) w1 bf bad ys := HBO.out.2.ch hc1 (fun h => by have h' : bf = br := h; omega) (fun b hq _ h => by have h' : b = br := h; omega)
        have HB := Lib.hid (rfbad_any bf bad ys w1 hf1)
        clear HA hf1
        go_wp2_with fail
        refine HB.out.mono ?_
        rintro e w2 ⟨rfl, hf2, hc2⟩
        have hr2 : RdQ (fun b => b < br) w2 br true [] := hr1.keep hc2 (fun h => by have h' : br = bf := h; omega) (fun b hq _ h => by have h' : b = bf := h; omega)
        have hch2 : Ch (fun b => b = br ∨ b = bf ∨ wb.heap.size ≤ b) wb w2 := (HCH.out.trans hc1 fun _ _ h => .inl h).trans hc2 fun _ _ h => .inr (.inl h)
        clear HB hr1 hc1 hc2
        go_wp2_with fail
        obtain ⟨bad2, ebad⟩ : ∃ b2, b2 = true := ⟨_, rfl⟩
        obtain ⟨ys2, eys⟩ : ∃ y2, y2 = ([] : List Int) := ⟨_, rfl⟩
        have hl2 : ys2.length ≤ 4000 := by rw [eys]; simp
        have hbo2 : Both br bf bad2 ys2 w2 := by rw [ebad, eys]; exact ⟨hr2, hf2⟩
        have HBO2 := Lib.hid hbo2
        have HCH2 := Lib.hid hch2
        obtain ⟨A9, c9, q0, q1⟩ := rf_cells hbo2.2
        clear ebad eys hbo2 hch2 hr2 hf2
        cases bad2
        · go_wp2_with fail
          go_quiet ((first | (go_at_call 28; exact Calls.quiet_of_same (same_of (left_any br false ys2 _ HBO2.out.1))) | (go_at_call 18; exact Calls.quiet_of_same (same_of (good_any br false ys2 _ HBO2.out.1))) | (go_at_call 19; exact Calls.quiet_of_same (same_of (whole_any br false ys2 _ HBO2.out.1))) | (go_at_call 36; exact Calls.quiet_of_same (same_of (rfwhole_any bf false ys2 _ HBO2.out.2)))))
          go_wp2
          go_roundw
          case rel => exact ⟨k + 1, by omega, by go_num, false, ys2, hl2, HBO2.out, HCH2.out.drewN _⟩
          case measure => simp [intOf]; omega
        · go_wp2_with fail
          go_quiet ((first | (go_at_call 28; exact Calls.quiet_of_same (same_of (left_any br true ys2 _ HBO2.out.1))) | (go_at_call 18; exact Calls.quiet_of_same (same_of (good_any br true ys2 _ HBO2.out.1))) | (go_at_call 19; exact Calls.quiet_of_same (same_of (whole_any br true ys2 _ HBO2.out.1))) | (go_at_call 36; exact Calls.quiet_of_same (same_of (rfwhole_any bf true ys2 _ HBO2.out.2)))))
          go_wp2
          go_roundw
          case rel => exact ⟨k + 1, by omega, by go_num, true, ys2, hl2, HBO2.out, HCH2.out.drewN _⟩
          case measure => simp [intOf]; omega
      have hb1 : (kd == 1) = false := by simpa using h1
      have hb2 : (kd == 2) = false := by simpa using h2
      have hb3 : (kd == 3) = false := by simpa using h3
      have hb4 : (kd == 4) = false := by simpa using h4
      have HBO := Lib.hid hbo
      have HCH := Lib.hid hch
      have hbfl := hbo.2.lt
      clear h1 h2 h3 h4 hbo hch hcn
      go_wp2_with fail
      obtain ⟨s, es⟩ : ∃ s, s = wo.heap.size := ⟨_, rfl⟩
      rw [← es]
      obtain ⟨wx, ewx⟩ : ∃ wx, wx = ((wo.alloc (.cells #[.int .i64 7] 3)).alloc (.cells #[.int .i64 7] 3)).alloc (.cells #[.pointer (some ⟨s, 0, none⟩), .pointer none, .pointer (some ⟨s + 1, 0, none⟩)] 47) := ⟨_, rfl⟩
      rw [← ewx]
      obtain ⟨va, vc, p0, p1, p2, hc0⟩ := three_cells wo wx s es ewx
      have hb0 : Both br bf bad ys wx := Both.keep HBO.out hc0 hbf fun b h => h.elim
      have hch0 := HCH.out.trans hc0 fun _ _ h => h.elim
      clear ewx hc0
      refine (places_any br (s + 1 + 1) s (s + 1) bad ys 7 7 wx hb0.1 (fun b h => by have h' : b < br := h; exact ⟨by omega, by omega⟩) p0 p1 p2 va vc (by omega) (by omega) (by omega) (by omega) (by omega)).mono ?_
      rintro e w4 ⟨rfl, hr4, ha4, hv4, hc4⟩
      have hf4 : Rf (fun b => br < b ∧ b < bf) w4 bf bad ys := hb0.2.ch hc4 (fun h => by have h' : bf = br ∨ bf = s ∨ bf = s + 1 := h; omega) (fun b hq _ h => by have h' : b = br ∨ b = s ∨ b = s + 1 := h; omega)
      have hch4 : Ch (fun b => b = br ∨ b = bf ∨ wb.heap.size ≤ b) wb w4 := hch0.trans hc4 fun i _ h => by
        have h' : i = br ∨ i = s ∨ i = s + 1 := h
        rcases h' with h' | h' | h'
        · exact .inl h'
        · exact .inr (.inr (by omega))
        · exact .inr (.inr (by omega))
      clear va vc p0 p1 p2 hb0 hch0 hc4
      have HB := Lib.hid (rfnum_step bf bad ys w4 hys hf4)
      have HR := Lib.hid hr4
      have HA := Lib.hid ha4
      have HV := Lib.hid hv4
      have HCH := Lib.hid hch4
      clear hf4 hr4 ha4 hv4 hch4
      go_wp2_with fail
      refine HB.out.mono ?_
      rintro e w5 ⟨rfl, hf5, hc5⟩
      have hr5 := HR.out.keep hc5 (fun h => by have h' : br = bf := h; omega) (fun b hq _ h => by have h' : b = bf := h; have h2 : b < br := hq; omega)
      have ha5 := HA.out.ch hc5 (fun h => by have h' : s = bf := h; omega)
      have hv5 := HV.out.ch hc5 (fun h => by have h' : s + 1 = bf := h; omega)
      have hch5 := HCH.out.trans hc5 fun _ _ h => .inr (.inl h)
      have hy5 : (nr ys).length ≤ 4000 := by have := nr_len ys; omega
      have HB := Lib.hid (rfnum_step bf (nb ys) (nr ys) w5 hy5 hf5)
      have HR := Lib.hid hr5
      have HA := Lib.hid ha5
      have HV := Lib.hid hv5
      have HCH := Lib.hid hch5
      clear hf5 hr5 ha5 hv5 hch5 hc5
      go_wp2_with fail
      refine HB.out.mono ?_
      rintro e w6 ⟨rfl, hf6, hc6⟩
      have hr6 := HR.out.keep hc6 (fun h => by have h' : br = bf := h; omega) (fun b hq _ h => by have h' : b = bf := h; have h2 : b < br := hq; omega)
      have ha6 := HA.out.ch hc6 (fun h => by have h' : s = bf := h; omega)
      have hv6 := HV.out.ch hc6 (fun h => by have h' : s + 1 = bf := h; omega)
      have hch6 := HCH.out.trans hc6 fun _ _ h => .inr (.inl h)
      have hy6 : (nr (nr ys)).length ≤ 4000 := by have := nr_len (nr ys); omega
      have ka := ha6.cell
      have kc := hv6.cell
      have hkb6 : bf ≠ s + 1 := by omega
      have HR := Lib.hid hr6
      have HF := Lib.hid hf6
      have HCH := Lib.hid hch6
      clear hf6 hr6 ha6 hv6 hch6 hc6
      go_wp2_with fail
      subst es
      go_region_held3 (fun w' => w'.cell? ⟨wo.heap.size, 0, none⟩ = some (.int .i64 (nv ys)) ∧ w'.cell? ⟨wo.heap.size + 1, 0, none⟩ = some (.int .i64 (nv (nr (nr ys))))) (first | go_keep | exact ⟨t7, s7⟩ | exact ⟨ka, kc⟩) ((go_at_call 30; refine (rfnum_step bf (nb (nr ys)) (nr (nr ys)) _ hy6 (by exact HF.out)).mono ?_; rintro e w7 ⟨rfl, hf7, hc7⟩; have s7 := Ch.cell (p := ⟨wo.heap.size + 1, 0, none⟩) hc7 (fun h => by have h' : wo.heap.size + 1 = bf := h; omega) kc; have t7 := Ch.cell (p := ⟨wo.heap.size, 0, none⟩) hc7 (fun h => by have h' : wo.heap.size = bf := h; omega) ka))
      all_goals
        have hr7 : RdQ (fun b => b < br) w7 br (nb (nr (nr ys))) (nr (nr (nr ys))) := RdQ.keep (show RdQ (fun b => b < br) w6.drew br (nb (nr (nr ys))) (nr (nr (nr ys))) from HR.out) hc7 (fun h => by have h' : br = bf := h; omega) (fun b hq _ h => by have h' : b = bf := h; have h2 : b < br := hq; omega)
        have hch2 : Ch (fun b => b = br ∨ b = bf ∨ wb.heap.size ≤ b) wb w7 := HCH.out.drew.trans hc7 fun _ _ h => .inr (.inl h)
        have hy7 : (nr (nr (nr ys))).length ≤ 4000 := by have := nr_len (nr (nr ys)); omega
        obtain ⟨bad2, ebad⟩ : ∃ b2, b2 = nb (nr (nr ys)) := ⟨_, rfl⟩
        obtain ⟨ys2, eys⟩ : ∃ y2, y2 = nr (nr (nr ys)) := ⟨_, rfl⟩
        have hl2 : ys2.length ≤ 4000 := by rw [eys]; exact hy7
        have hbo2 : Both br bf bad2 ys2 w7 := by rw [ebad, eys]; exact ⟨hr7, hf7⟩
        clear hr7 hf7 hc7 s7 t7 HB HR HA HV HCH HF
        have HBO2 := Lib.hid hbo2
        have HCH2 := Lib.hid hch2
        obtain ⟨A9, c9, q0, q1⟩ := rf_cells hbo2.2
        clear ebad eys hbo2 hch2 ka kc
        cases bad2
        · go_wp2_with fail
          go_quiet ((first | (go_at_call 28; exact Calls.quiet_of_same (same_of (left_any br false ys2 _ HBO2.out.1))) | (go_at_call 18; exact Calls.quiet_of_same (same_of (good_any br false ys2 _ HBO2.out.1))) | (go_at_call 19; exact Calls.quiet_of_same (same_of (whole_any br false ys2 _ HBO2.out.1))) | (go_at_call 36; exact Calls.quiet_of_same (same_of (rfwhole_any bf false ys2 _ HBO2.out.2)))))
          go_wp2
          go_roundw
          case rel => exact ⟨k + 1, by omega, by go_num, false, ys2, hl2, HBO2.out, HCH2.out.drewN _⟩
          case measure => simp [intOf]; omega
        · go_wp2_with fail
          go_quiet ((first | (go_at_call 28; exact Calls.quiet_of_same (same_of (left_any br true ys2 _ HBO2.out.1))) | (go_at_call 18; exact Calls.quiet_of_same (same_of (good_any br true ys2 _ HBO2.out.1))) | (go_at_call 19; exact Calls.quiet_of_same (same_of (whole_any br true ys2 _ HBO2.out.1))) | (go_at_call 36; exact Calls.quiet_of_same (same_of (rfwhole_any bf true ys2 _ HBO2.out.2)))))
          go_wp2
          go_roundw
          case rel => exact ⟨k + 1, by omega, by go_num, true, ys2, hl2, HBO2.out, HCH2.out.drewN _⟩
          case measure => simp [intOf]; omega
    · obtain rfl : k = m := by omega
      have hxr := hxb.ch hch hnb
      have hor := hch.own hownb fun b' hb' h => by
        simp [Value.ownBlock] at hb'
        subst hb'
        have := HBOTH.out.2.lt
        omega
      have HBO := Lib.hid hbo
      have HCH := Lib.hid hch
      clear hbo hch
      go_wp2_with fail
      refine (stands_any xs A n c g k1 wr _ (by omega) hgk hkm hxr hor).mono ?_
      rintro e w2 ⟨rfl, j2, ew2⟩
      have hc2 : Ch (fun _ => False) wr w2 := by
        rw [ew2]
        exact (Ch.refl _ _).drewN _
      have hbo2 : Both br bf bad ys w2 := Both.keep HBO.out hc2 (by omega) fun b h => h.elim
      have hF2 : Ch (fun _ => False) w w2 := (HCW.out.trans HCH.out fun i hi h => by have := HCW.out.size; omega).trans hc2 fun _ _ h => h
      have HBO2 := Lib.hid hbo2
      have HF2 := Lib.hid hF2
      clear hxr hor hc2 ew2 hbo2 hF2
      go_wp2_with (first | (go_at_call 19; refine (whole_any br bad ys _ HBO2.out.1).mono ?_; rintro e w' ⟨rfl, rfl⟩) | (go_at_call 36; refine (rfwhole_any bf bad ys _ HBO2.out.2).mono ?_; rintro e w' ⟨rfl, rfl⟩))
      refine (known_any _ (HT.out.ch HF2.out fun h => h)).mono ?_
      rintro e w3 ⟨rfl, hc3⟩
      have hF := HF2.out.trans hc3 fun _ _ h => h
      clear hc3
      go_wp2
      go_ret
      exact ⟨rfl, hF⟩
end Go.Proofs.YtppplchllnalpaaDoor
