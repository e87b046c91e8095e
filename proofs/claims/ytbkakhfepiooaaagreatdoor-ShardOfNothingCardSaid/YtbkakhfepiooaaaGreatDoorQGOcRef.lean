/- Lemmas and contracts of this proof. Conditions: said at each. -/
import Derived.Test.YtbkakhfepiooaaaGreatDoorQGOcNums
import Derived.Laws.BitsAllLaws
import Derived.Laws.BitsLemmas
import Derived.Maps.OwnSet
namespace Go.Proofs.YtbkakhfepiooaaaGreatDoor.O
section
open Go.RowKit Go.Oct
theorem ofInt_u64 (a : Nat) (ha : a < 18446744073709551616) : (BitVec.ofInt 64 (a : Int)).toNat = a := by
  rw [BitVec.ofInt_natCast, BitVec.toNat_ofNat]; exact Nat.mod_eq_of_lt (by omega)
theorem u64_and127 (a : Nat) (ha : a ≤ top62) : bits .and .u64 (a : Int) 127 = ((a % 128 : Nat) : Int) := by
  have ha' : a < 18446744073709551616 := by rw [top62_eq] at ha; omega
  show IntKind.u64.wrap ((BitVec.ofInt 64 (a : Int) &&& BitVec.ofInt 64 ((127 : Nat) : Int)).toNat : Int) = _
  rw [BitVec.toNat_and, ofInt_u64 a ha', ofInt_u64 127 (by omega), IntKind.wrap_u64]
  have : a &&& 127 = a % 128 := Nat.and_two_pow_sub_one_eq_mod a 7
  rw [this]
  omega
theorem u8_or128 (q : Nat) (hq : q < 128) : bits .or .u8 (q : Int) 128 = ((q + 128 : Nat) : Int) := by
  have : ∀ q : Fin 128, bits .or .u8 ((q.val : Nat) : Int) 128 = ((q.val + 128 : Nat) : Int) := by decide +kernel
  exact this ⟨q, hq⟩
def RefRel (w : World) (z : Int) (m : Nat) (v : Value) (wr : World) : Prop := ∃ ys, Fresh w v ys wr ∧ ys ++ encN m = encI z
theorem ref_room {z : Int} {m : Nat} {ys : List Int} (h : ys ++ encN m = encI z) : ys.length + 1 ≤ 9 := by
  have h1 := encI_len z
  have h2 := encN_pos m
  rw [← h, List.length_append] at h1
  omega
theorem fresh_nil (w : World) : Fresh w (.slice none 0 0) [] w := ⟨World.ownsRow_nil _ _ _ _, fun g hg => by simp [Value.ownBlock] at hg, Ch.refl _ _⟩
set_option maxHeartbeats 1000000 in
set_option maxRecDepth 100000 in
theorem refnum_any (z : Int) (w : World) :
    Calls Tryz.prog 156 #[.int .i64 z] w fun e w' => ∃ v, e = .returned v ∧ Fresh w v (encI z) w' := by
  have hm : z ≤ 0 ∨ 4611686018427387904 < z ∨ (0 < z ∧ z ≤ 4611686018427387904) := by omega
  rcases hm with hm | hm | ⟨hm, hm1⟩
  · have H0 : Hid (∃ m : Nat, m ≤ top62 ∧ Value.int .u64 0 = .int .u64 m ∧ RefRel w z m (.slice none 0 0) w) := ⟨0, Nat.zero_le _, rfl, [], fresh_nil w, by rw [encI, clampI_zero hm]; rfl⟩
    go_enter Tryz.func156, Tryz.ntmps156
    go_wp2
    clear hm
    go_loopw [3, 4] (fun u v wr => ∃ m : Nat, m ≤ top62 ∧ u = .int .u64 m ∧ RefRel w z m v wr) (fun u _ _ => (intOf u).toNat)
    case atStart => exact H0.out
    case round =>
      obtain ⟨m, hm62, rfl, ys, hfr, hys⟩ := hrel
      obtain ⟨A', c', rfl, _, _⟩ := own_shape hfr.1
      have hroom := ref_room hys
      have HY := Lib.hid hys
      clear hys
      by_cases hbig : 128 ≤ m
      · obtain ⟨q, eq⟩ : ∃ q, q = m % 128 := ⟨_, rfl⟩
        have hq : q < 128 := by omega
        have h1 : bits .and .u64 (m : Int) 127 = (q : Int) := by rw [eq]; exact u64_and127 m hm62
        obtain ⟨p, ep⟩ : ∃ p, p = q + 128 := ⟨_, rfl⟩
        have h2 : bits .or .u8 (q : Int) 128 = (p : Int) := by rw [ep]; exact u8_or128 q hq
        have hmore : (ys ++ [(p : Int)]) ++ encN (m / 128) = encI z := by
          rw [← HY.out, encN_big hbig, ep, eq]
          simp
        have HM := Lib.hid hmore
        clear hmore ep eq
        go_wp2_with (at_builtin; refine wp_app rfl (.tmp 13) (.tmp 18) Tb rfl rfl (hfr.1.alloc _) rfl (Vs.one _ _ _) ?c1 ?c2 ?c3 ?_)
        case c1 => intro u hu; simp at hu; subst hu; rfl
        case c2 => omega
        case c3 => omega
        intro v2 w1 hown hg hb
        have hf := Fresh.app (zs := [(p : Int)]) ⟨hfr.1.alloc _, hfr.2.1, hfr.2.2.alloc _⟩ hg hown (by simpa using hb)
        clear hown hg hb h1 h2
        go_wp2
        exact ⟨⟨m / 128, by omega, rfl, _, hf, HM.out⟩, by simp [intOf]; omega⟩
      · have hbig' : m < 128 := by omega
        clear hbig
        have hmore : ys ++ [(m : Int)] = encI z := by rw [← HY.out, encN_small hbig']
        have HM := Lib.hid hmore
        clear hmore
        go_wp2_with (at_builtin; refine wp_app rfl (.tmp 22) (.tmp 25) Tb rfl rfl (hfr.1.alloc _) rfl (Vs.one _ _ _) ?c1 ?c2 ?c3 ?_)
        case c1 => intro u hu; simp at hu; subst hu; rfl
        case c2 => omega
        case c3 => omega
        intro v2 w1 hown hg hb
        have hf := Fresh.app (zs := [(m : Int)]) ⟨hfr.1.alloc _, hfr.2.1, hfr.2.2.alloc _⟩ hg hown (by simpa using hb)
        rw [HM.out] at hf
        clear hown hg hb
        go_wp2
        go_ret
        exact ⟨_, rfl, hf⟩
  · have H0 : Hid (∃ m : Nat, m ≤ top62 ∧ Value.int .u64 4611686018427387904 = .int .u64 m ∧ RefRel w z m (.slice none 0 0) w) := ⟨top62, Nat.le_refl _, rfl, [], fresh_nil w, by rw [encI, clampI_top hm]; rfl⟩
    go_enter Tryz.func156, Tryz.ntmps156
    go_wp2
    clear hm
    go_loopw [3, 4] (fun u v wr => ∃ m : Nat, m ≤ top62 ∧ u = .int .u64 m ∧ RefRel w z m v wr) (fun u _ _ => (intOf u).toNat)
    case atStart => exact H0.out
    case round =>
      obtain ⟨m, hm62, rfl, ys, hfr, hys⟩ := hrel
      obtain ⟨A', c', rfl, _, _⟩ := own_shape hfr.1
      have hroom := ref_room hys
      have HY := Lib.hid hys
      clear hys
      by_cases hbig : 128 ≤ m
      · obtain ⟨q, eq⟩ : ∃ q, q = m % 128 := ⟨_, rfl⟩
        have hq : q < 128 := by omega
        have h1 : bits .and .u64 (m : Int) 127 = (q : Int) := by rw [eq]; exact u64_and127 m hm62
        obtain ⟨p, ep⟩ : ∃ p, p = q + 128 := ⟨_, rfl⟩
        have h2 : bits .or .u8 (q : Int) 128 = (p : Int) := by rw [ep]; exact u8_or128 q hq
        have hmore : (ys ++ [(p : Int)]) ++ encN (m / 128) = encI z := by
          rw [← HY.out, encN_big hbig, ep, eq]
          simp
        have HM := Lib.hid hmore
        clear hmore ep eq
        go_wp2_with (at_builtin; refine wp_app rfl (.tmp 13) (.tmp 18) Tb rfl rfl (hfr.1.alloc _) rfl (Vs.one _ _ _) ?c1 ?c2 ?c3 ?_)
        case c1 => intro u hu; simp at hu; subst hu; rfl
        case c2 => omega
        case c3 => omega
        intro v2 w1 hown hg hb
        have hf := Fresh.app (zs := [(p : Int)]) ⟨hfr.1.alloc _, hfr.2.1, hfr.2.2.alloc _⟩ hg hown (by simpa using hb)
        clear hown hg hb h1 h2
        go_wp2
        exact ⟨⟨m / 128, by omega, rfl, _, hf, HM.out⟩, by simp [intOf]; omega⟩
      · have hbig' : m < 128 := by omega
        clear hbig
        have hmore : ys ++ [(m : Int)] = encI z := by rw [← HY.out, encN_small hbig']
        have HM := Lib.hid hmore
        clear hmore
        go_wp2_with (at_builtin; refine wp_app rfl (.tmp 22) (.tmp 25) Tb rfl rfl (hfr.1.alloc _) rfl (Vs.one _ _ _) ?c1 ?c2 ?c3 ?_)
        case c1 => intro u hu; simp at hu; subst hu; rfl
        case c2 => omega
        case c3 => omega
        intro v2 w1 hown hg hb
        have hf := Fresh.app (zs := [(m : Int)]) ⟨hfr.1.alloc _, hfr.2.1, hfr.2.2.alloc _⟩ hg hown (by simpa using hb)
        rw [HM.out] at hf
        clear hown hg hb
        go_wp2
        go_ret
        exact ⟨_, rfl, hf⟩
  · obtain ⟨y, rfl⟩ := Int.cast_of (show 0 ≤ z by omega)
    have H0 : Hid (∃ m : Nat, m ≤ top62 ∧ Value.int .u64 (y : Int) = .int .u64 m ∧ RefRel w y m (.slice none 0 0) w) := ⟨y, by rw [top62_eq]; omega, rfl, [], fresh_nil w, by rw [encI, clampI_nat hm1]; rfl⟩
    have hb0 : decide (0 < y) = true := by rw [decide_eq_true_eq]; omega
    go_enter Tryz.func156, Tryz.ntmps156
    go_wp2
    clear hm hm1 hb0
    go_loopw [3, 4] (fun u v wr => ∃ m : Nat, m ≤ top62 ∧ u = .int .u64 m ∧ RefRel w y m v wr) (fun u _ _ => (intOf u).toNat)
    case atStart => exact H0.out
    case round =>
      obtain ⟨m, hm62, rfl, ys, hfr, hys⟩ := hrel
      obtain ⟨A', c', rfl, _, _⟩ := own_shape hfr.1
      have hroom := ref_room hys
      have HY := Lib.hid hys
      clear hys
      by_cases hbig : 128 ≤ m
      · obtain ⟨q, eq⟩ : ∃ q, q = m % 128 := ⟨_, rfl⟩
        have hq : q < 128 := by omega
        have h1 : bits .and .u64 (m : Int) 127 = (q : Int) := by rw [eq]; exact u64_and127 m hm62
        obtain ⟨p, ep⟩ : ∃ p, p = q + 128 := ⟨_, rfl⟩
        have h2 : bits .or .u8 (q : Int) 128 = (p : Int) := by rw [ep]; exact u8_or128 q hq
        have hmore : (ys ++ [(p : Int)]) ++ encN (m / 128) = encI y := by
          rw [← HY.out, encN_big hbig, ep, eq]
          simp
        have HM := Lib.hid hmore
        clear hmore ep eq
        go_wp2_with (at_builtin; refine wp_app rfl (.tmp 13) (.tmp 18) Tb rfl rfl (hfr.1.alloc _) rfl (Vs.one _ _ _) ?c1 ?c2 ?c3 ?_)
        case c1 => intro u hu; simp at hu; subst hu; rfl
        case c2 => omega
        case c3 => omega
        intro v2 w1 hown hg hb
        have hf := Fresh.app (zs := [(p : Int)]) ⟨hfr.1.alloc _, hfr.2.1, hfr.2.2.alloc _⟩ hg hown (by simpa using hb)
        clear hown hg hb h1 h2
        go_wp2
        exact ⟨⟨m / 128, by omega, rfl, _, hf, HM.out⟩, by simp [intOf]; omega⟩
      · have hbig' : m < 128 := by omega
        clear hbig
        have hmore : ys ++ [(m : Int)] = encI y := by rw [← HY.out, encN_small hbig']
        have HM := Lib.hid hmore
        clear hmore
        go_wp2_with (at_builtin; refine wp_app rfl (.tmp 22) (.tmp 25) Tb rfl rfl (hfr.1.alloc _) rfl (Vs.one _ _ _) ?c1 ?c2 ?c3 ?_)
        case c1 => intro u hu; simp at hu; subst hu; rfl
        case c2 => omega
        case c3 => omega
        intro v2 w1 hown hg hb
        have hf := Fresh.app (zs := [(m : Int)]) ⟨hfr.1.alloc _, hfr.2.1, hfr.2.2.alloc _⟩ hg hown (by simpa using hb)
        rw [HM.out] at hf
        clear hown hg hb
        go_wp2
        go_ret
        exact ⟨_, rfl, hf⟩
set_option maxHeartbeats 400000 in
theorem refnums_any (zs : List Int) (A : Option Addr) (n c : Nat) (w : World) (F : Nat → Prop) (hn : n ≤ 1000000000) (hz : Sl w F .i64 A n zs) :
    Calls Tryz.prog 92 #[.slice A n c] w fun e w' => ∃ v, e = .returned v ∧ Fresh w v (zs.flatMap encI) w' := by
  go_enter Tryz.func92, Tryz.ntmps92
  go_wp2
  go_loopw [3, 4] (fun v i wr => ∃ k : Nat, k ≤ n ∧ i = .int .i64 k ∧ Fresh w v ((zs.take k).flatMap encI) wr) (fun _ i _ => n - (intOf i).toNat)
  case atStart => exact ⟨0, Nat.zero_le _, rfl, fresh_nil w⟩
  case round =>
    obtain ⟨k, hk, rfl, hfr⟩ := hrel
    by_cases hlt : k < n
    · have hl := flat_len zs k
      obtain ⟨ys, eys⟩ : ∃ ys, ys = (zs.take k).flatMap encI := ⟨_, rfl⟩
      rw [← eys] at hfr hl
      have EY := Lib.hid eys
      clear eys
      obtain ⟨A', c', rfl, _, _⟩ := own_shape hfr.1
      obtain ⟨b, off, z, rfl, _, ez, hc⟩ := (hz.ch hfr.2.2 (fun _ _ _ h => h)).at_ hlt
      have hl9 := encI_len z
      obtain ⟨wo, rfl⟩ : ∃ wo : World, wo = wr := ⟨_, rfl⟩
      go_wp2_with fail
      refine (refnum_any z _).mono ?_
      rintro e w1 ⟨v1, rfl, hf1⟩
      obtain ⟨A1, c1, rfl, _, _⟩ := own_shape hf1.1
      have ho := hf1.2.2.own hfr.1 (fun _ _ h => h)
      have hfr1 : Fresh w (.slice A' ys.length c') ys w1 := ⟨ho, hfr.2.1, hfr.2.2.trans hf1.2.2 (fun _ _ h => h)⟩
      have hs1 := Sl.of_own hf1.1
      clear hf1 hfr ho hc
      go_wp2_with (at_builtin; refine wp_app rfl (.tmp 11) (.tmp 16) Tb rfl rfl hfr1.1 rfl hs1 ?c1 ?c2 ?c3 ?_)
      case c1 => exact ints_cells _ _
      case c2 => omega
      case c3 => omega
      intro v2 w2 hown hg hb
      have hf := Fresh.app (zs := encI z) hfr1 hg hown hb
      rw [EY.out, ← flat_more encI ez.out] at hf
      clear hown hg hb hfr1 hs1
      go_wp2
      go_roundw
      case rel => exact ⟨k + 1, by omega, by go_num, hf⟩
      case measure => simp [intOf]; omega
    · obtain rfl : k = n := by omega
      rw [List.take_of_length_le (by rw [hz.len]; omega)] at hfr
      go_wp2
      go_ret
      exact ⟨_, rfl, hfr⟩
set_option maxHeartbeats 400000 in
theorem refbytes_any (xs : List Int) (A : Option Addr) (n c : Nat) (w : World) (F : Nat → Prop) (hn : n ≤ 100000000000000) (hz : Sl w F .u8 A n xs) :
    Calls Tryz.prog 93 #[.slice A n c] w fun e w' => ∃ v, e = .returned v ∧ Fresh w v (rowB xs) w' := by
  obtain rfl := hz.len
  go_enter Tryz.func93, Tryz.ntmps93
  go_wp2_with fail
  refine (refnum_any (xs.length : Int) _).mono ?_
  rintro e w1 ⟨v1, rfl, hf1⟩
  have e1 : encI (xs.length : Int) = encN xs.length := by unfold encI; rw [clampI_nat (by omega)]
  rw [e1] at hf1
  obtain ⟨A1, c1, rfl, _, _⟩ := own_shape hf1.1
  have hl9 : (encN xs.length).length ≤ 9 := by rw [← e1]; exact encI_len _
  have hz1 := hz.ch hf1.2.2 (fun _ _ _ h => h)
  clear e1 hz
  go_wp2_with (at_builtin; refine wp_app rfl (.tmp 5) (.tmp 6) Tb rfl rfl hf1.1 rfl hz1 ?c1 ?c2 ?c3 ?_)
  case c1 => exact ints_cells _ _
  case c2 => omega
  case c3 => omega
  intro v2 w2 hown hg hb
  have hf := Fresh.app (zs := xs) hf1 hg hown hb
  clear hown hg hb hf1 hz1
  go_wp2
  go_ret
  exact ⟨_, rfl, hf⟩
end
section
open Go.RowKit Go.Oct
/-- A Reader at block br that has xs left. -/
def RdQ (Q : Nat → Prop) (w : World) (br : Nat) (bad : Bool) (xs : List Int) : Prop :=
  ∃ A n c, w.heap[br]? = some (.cells #[.slice A n c, .bool bad] 219 (0, 0)) ∧ Sl w (fun b => b ≠ br ∧ Q b) .u8 A n xs ∧ n ≤ c ∧ c ≤ 9223372036854775807 ∧ Byt xs ∧ (bad = true → xs = [])
def RS (br k : Nat) : Prop := k = br
section
variable {Q : Nat → Prop}
theorem rd_cells {w : World} {br : Nat} {u v : Value} {t : TypeId} (h : w.heap[br]? = some (.cells #[u, v] t (0, 0))) :
    w.cell? ⟨br, 0, none⟩ = some u ∧ w.cell? ⟨br, 1, none⟩ = some v ∧ w.frozen? ⟨br, 0, none⟩ = false ∧ w.frozen? ⟨br, 1, none⟩ = false := by
  simp [World.cell?, World.frozen?, h]
theorem RdQ.bad_ {w : World} {br : Nat} {bad : Bool} {xs : List Int} (h : RdQ Q w br bad xs) :
    RdQ Q ((w.setCell ⟨br, 0, none⟩ (.slice none 0 0)).setCell ⟨br, 1, none⟩ (.bool true)) br true [] ∧ Ch (RS br) w ((w.setCell ⟨br, 0, none⟩ (.slice none 0 0)).setCell ⟨br, 1, none⟩ (.bool true)) := by
  obtain ⟨A, n, c, hblk, _⟩ := h
  refine ⟨⟨none, 0, 0, ?_, Sl.nil _ _ _ _, Nat.le_refl _, by omega, fun x hx => by simp at hx, fun _ => rfl⟩, ((Ch.refl (RS br) w).setCell (p := ⟨br, 0, none⟩) (.inl rfl) _).setCell (p := ⟨br, 1, none⟩) (.inl rfl) _⟩
  simp [World.setCell, Array.getElem?_modify, hblk]
/-- What a Reader is behind a store of what is left. -/
theorem rd_cut {w : World} {br k b off n c : Nat} {xs : List Int} (hblk : w.heap[br]? = some (.cells #[.slice (some ⟨b, off, none⟩) n c, .bool false] 219 (0, 0))) (hsl : Sl w (fun b => b ≠ br ∧ Q b) .u8 (some ⟨b, off, none⟩) n xs)
    (hby : Byt xs) (hk : k ≤ n) (hnc : n ≤ c) (hcm : c ≤ 9223372036854775807) {A' : Option Addr} {c' : Nat} (hA : (c = k ∧ c' = 0) ∨ (A' = some ⟨b, off + k, none⟩ ∧ c' = c - k)) :
    RdQ Q (w.setCell ⟨br, 0, none⟩ (.slice A' (n - k) c')) br false (xs.drop k) ∧ Ch (RS br) w (w.setCell ⟨br, 0, none⟩ (.slice A' (n - k) c')) := by
  have hC : Ch (RS br) w (w.setCell ⟨br, 0, none⟩ (.slice A' (n - k) c')) := (Ch.refl (RS br) w).setCell (p := ⟨br, 0, none⟩) (.inl rfl) _
  refine ⟨⟨A', n - k, c', by simp [World.setCell, Array.getElem?_modify, hblk], ?_, ?_, ?_, fun x hx => hby x (List.mem_of_mem_drop hx), fun h => by cases h⟩, hC⟩
  · refine Sl.ch ?_ hC (fun b hb _ h => hb.1 h)
    rcases hA with ⟨h1, _⟩ | ⟨rfl, _⟩
    · have h0 : n - k = 0 := by omega
      have hl := hsl.len
      rw [h0, List.drop_of_length_le (by omega)]
      exact Sl.nil _ _ _ _
    · exact hsl.drop hk
  · rcases hA with ⟨h1, rfl⟩ | ⟨_, rfl⟩ <;> omega
  · rcases hA with ⟨h1, rfl⟩ | ⟨_, rfl⟩ <;> omega
theorem bad_any (br : Nat) (bad : Bool) (xs : List Int) (w : World) (hr : RdQ Q w br bad xs) :
    Calls Tryz.prog 136 #[.pointer (some ⟨br, 0, none⟩)] w fun e w' => e = .returned (.tuple #[]) ∧ RdQ Q w' br true [] ∧ Ch (RS br) w w' := by
  have HR := Lib.hid hr
  obtain ⟨A, n, c, hblk, _⟩ := hr
  obtain ⟨hc0, hc1, hf0, hf1⟩ := rd_cells hblk
  clear hblk
  go_enter Tryz.func136, Tryz.ntmps136
  go_wp2
  go_returns
  exact ⟨rfl, HR.out.bad_⟩
theorem left_any (br : Nat) (bad : Bool) (xs : List Int) (w : World) (hr : RdQ Q w br bad xs) :
    Calls Tryz.prog 137 #[.pointer (some ⟨br, 0, none⟩)] w fun e w' => e = .returned (.int .i64 xs.length) ∧ w = w' := by
  obtain ⟨A, n, c, hblk, hsl, _⟩ := hr
  obtain ⟨hc0, hc1, hf0, hf1⟩ := rd_cells hblk
  obtain rfl := hsl.len
  clear hblk
  go_enter Tryz.func137, Tryz.ntmps137
  go_wp2
  go_ret
  exact ⟨rfl, rfl⟩
theorem good_any (br : Nat) (bad : Bool) (xs : List Int) (w : World) (hr : RdQ Q w br bad xs) :
    Calls Tryz.prog 134 #[.pointer (some ⟨br, 0, none⟩)] w fun e w' => e = .returned (.bool (!bad)) ∧ w = w' := by
  obtain ⟨A, n, c, hblk, _⟩ := hr
  obtain ⟨hc0, hc1, hf0, hf1⟩ := rd_cells hblk
  clear hblk
  go_enter Tryz.func134, Tryz.ntmps134
  go_wp2
  go_ret
  exact ⟨rfl, rfl⟩
theorem whole_any (br : Nat) (bad : Bool) (xs : List Int) (w : World) (hr : RdQ Q w br bad xs) :
    Calls Tryz.prog 79 #[.pointer (some ⟨br, 0, none⟩)] w fun e w' => e = .returned (.bool (!bad && xs.isEmpty)) ∧ w = w' := by
  have HR := Lib.hid hr
  have hl : xs.isEmpty = ((xs.length : Int) == 0) := by cases xs <;> simp <;> omega
  rw [hl]
  clear hl hr
  cases bad
  · go_enter Tryz.func79, Tryz.ntmps79
    go_wp2_with (first | (go_at_call 134; refine (good_any br false xs _ HR.out).mono ?_; rintro e w' ⟨rfl, rfl⟩) | (go_at_call 137; refine (left_any br false xs _ HR.out).mono ?_; rintro e w' ⟨rfl, rfl⟩))
    go_ret
    exact ⟨rfl, rfl⟩
  · go_enter Tryz.func79, Tryz.ntmps79
    go_wp2_with (first | (go_at_call 134; refine (good_any br true xs _ HR.out).mono ?_; rintro e w' ⟨rfl, rfl⟩) | (go_at_call 137; refine (left_any br true xs _ HR.out).mono ?_; rintro e w' ⟨rfl, rfl⟩))
    go_ret
    exact ⟨rfl, rfl⟩
/-- What Num leaves. -/
def NumPost (Q : Nat → Prop) (w : World) (br : Nat) (xs : List Int) (e : Ending) (w' : World) : Prop :=
  match takeN 0 0 xs with
  | none => e = .returned (.int .i64 0) ∧ RdQ Q w' br true [] ∧ Ch (RS br) w w'
  | some (m, r) => e = .returned (.int .i64 m) ∧ RdQ Q w' br false r ∧ Ch (RS br) w w'
theorem NumPost.none_ {w w' : World} {br : Nat} {xs : List Int} (h : takeN 0 0 xs = none) (h1 : RdQ Q w' br true []) (h2 : Ch (RS br) w w') : NumPost Q w br xs (.returned (.int .i64 0)) w' := by
  unfold NumPost
  rw [h]
  exact ⟨rfl, h1, h2⟩
theorem NumPost.some_ {w w' : World} {br m : Nat} {xs r : List Int} (h : takeN 0 0 xs = some (m, r)) (h1 : RdQ Q w' br false r) (h2 : Ch (RS br) w w') : NumPost Q w br xs (.returned (.int .i64 m)) w' := by
  unfold NumPost
  rw [h]
  exact ⟨rfl, h1, h2⟩
set_option maxHeartbeats 1000000 in
set_option maxRecDepth 100000 in
theorem num_good (br : Nat) (xs : List Int) (w : World) (hr : RdQ Q w br false xs) :
    Calls Tryz.prog 133 #[.pointer (some ⟨br, 0, none⟩)] w (NumPost Q w br xs) := by
  have HR := Lib.hid hr
  obtain ⟨A, n, c, hblk, hsl, hnc, hcm, hby, _⟩ := hr
  obtain ⟨hc0, hc1, hf0, hf1⟩ := rd_cells hblk
  have HB := Lib.hid hby
  have HK := Lib.hid hblk
  clear hby hblk hc1
  go_enter Tryz.func133, Tryz.ntmps133
  go_wp2_with (go_at_call 134; refine (good_any br false xs _ HR.out).mono ?_; rintro e w' ⟨rfl, rfl⟩)
  go_loop [3, 14] (fun t i => ∃ k m : Nat, k ≤ 9 ∧ k ≤ n ∧ i = .int .i64 k ∧ t = .int .i64 m ∧ m < 128 ^ k ∧ takeN 0 0 xs = takeN k m (xs.drop k)) (fun _ i => 10 - (intOf i).toNat)
  case atStart => exact ⟨0, 0, by omega, by omega, rfl, rfl, by omega, by simp⟩
  case round =>
    obtain ⟨k, m, hk, hkn, rfl, rfl, hm, htk⟩ := hrel
    have HM := Lib.hid hm
    have HT := Lib.hid htk
    clear hm htk
    by_cases hlt : k < n
    · obtain ⟨b, off, x, rfl, hbr, ex, hc⟩ := hsl.at_ hlt
      by_cases h9 : k = 9
      · subst h9
        have hN : takeN 0 0 xs = none := by rw [HT.out, takeN_nine]
        have HN := Lib.hid hN
        clear hN
        go_wp2_with (go_at_call 136; refine (bad_any br false xs _ HR.out).mono ?_; rintro e w' ⟨rfl, h1, h2⟩)
        go_ret
        exact NumPost.none_ HN.out h1 h2
      · have hb9 : ((k : Int) == 9) = false := by rw [beq_eq_false_iff_ne]; omega
        have hx := HB.out.at_ ex.out
        obtain ⟨x, rfl⟩ : ∃ y : Nat, x = (y : Int) := ⟨x.toNat, by omega⟩
        obtain ⟨s, es⟩ : ∃ s, s = m + x % 128 * 128 ^ k := ⟨_, rfl⟩
        have hwr : wrap64 ((m : Int) + wrap64 ((x : Int) % 128 * 2 ^ (7 * k))) = (s : Int) := by rw [es]; exact wrap_digit HM.out (by omega)
        have hs1 : s < 128 ^ (k + 1) := by rw [es]; exact digit_lt HM.out
        have HS1 := Lib.hid hs1
        have ES := Lib.hid es
        clear hs1 es
        by_cases hbig : 128 ≤ x
        · have hT : takeN 0 0 xs = takeN (k + 1) s (xs.drop (k + 1)) := by rw [HT.out, takeN_more ex.out h9 hbig, ES.out]
          have HT2 := Lib.hid hT
          clear hT
          go_wp2
          exact ⟨⟨k + 1, s, by omega, by omega, rfl, congrArg (Value.int .i64) hwr, HS1.out, HT2.out⟩, by simp [intOf]; omega⟩
        · have hbig' : x < 128 := by omega
          clear hbig
          by_cases htop : 4611686018427387904 < s
          · have hN : takeN 0 0 xs = none := by
              rw [HT.out]
              exact takeN_bad ex.out hbig' (.inl (by rw [← ES.out, top62_eq]; exact htop))
            have HN := Lib.hid hN
            clear hN
            go_wp2_with (go_at_call 136; refine (bad_any br false xs _ HR.out).mono ?_; rintro e w' ⟨rfl, h1, h2⟩)
            go_ret
            exact NumPost.none_ HN.out h1 h2
          · by_cases hz : x = 0 ∧ 0 < k
            · obtain ⟨hx0, hk0⟩ := hz
              have hN : takeN 0 0 xs = none := by
                rw [HT.out]
                exact takeN_bad ex.out hbig' (.inr ⟨hx0, hk0⟩)
              have hxb : ((x : Int) == 0) = true := by rw [beq_iff_eq]; omega
              have HN := Lib.hid hN
              clear hN hx0
              go_wp2_with (go_at_call 136; refine (bad_any br false xs _ HR.out).mono ?_; rintro e w' ⟨rfl, h1, h2⟩)
              go_ret
              exact NumPost.none_ HN.out h1 h2
            · have hS : takeN 0 0 xs = some (s, xs.drop (k + 1)) := by
                rw [HT.out, takeN_done ex.out h9 hbig' (by rw [← ES.out, top62_eq]; omega) (fun h => by omega), ← ES.out]
              have HS := Lib.hid hS
              clear hS
              by_cases hx0 : x = 0
              · have hk0 : ¬ 0 < k := fun h => hz ⟨hx0, h⟩
                have hxb : ((x : Int) == 0) = true := by rw [beq_iff_eq]; omega
                clear hx0 hz
                by_cases hcap : c = k + 1
                · have hR := rd_cut HK.out hsl HB.out (k := k + 1) (by omega) hnc hcm (A' := some ⟨b, off, none⟩) (c' := 0) (.inl ⟨hcap, rfl⟩)
                  have HRR := Lib.hid hR
                  clear hR
                  go_wp2_with fail
                  go_ret
                  exact NumPost.some_ HS.out HRR.out.1 HRR.out.2
                · have hR := rd_cut HK.out hsl HB.out (k := k + 1) (by omega) hnc hcm (A' := some ⟨b, off + (k + 1), none⟩) (c' := c - (k + 1)) (.inr ⟨rfl, rfl⟩)
                  have HRR := Lib.hid hR
                  clear hR
                  go_wp2_with fail
                  go_ret
                  exact NumPost.some_ HS.out HRR.out.1 HRR.out.2
              · have hxb : ((x : Int) == 0) = false := by rw [beq_eq_false_iff_ne]; omega
                clear hx0 hz
                by_cases hcap : c = k + 1
                · have hR := rd_cut HK.out hsl HB.out (k := k + 1) (by omega) hnc hcm (A' := some ⟨b, off, none⟩) (c' := 0) (.inl ⟨hcap, rfl⟩)
                  have HRR := Lib.hid hR
                  clear hR
                  go_wp2_with fail
                  go_ret
                  exact NumPost.some_ HS.out HRR.out.1 HRR.out.2
                · have hR := rd_cut HK.out hsl HB.out (k := k + 1) (by omega) hnc hcm (A' := some ⟨b, off + (k + 1), none⟩) (c' := c - (k + 1)) (.inr ⟨rfl, rfl⟩)
                  have HRR := Lib.hid hR
                  clear hR
                  go_wp2_with fail
                  go_ret
                  exact NumPost.some_ HS.out HRR.out.1 HRR.out.2
    · obtain rfl : k = n := by omega
      have hN : takeN 0 0 xs = none := by
        rw [HT.out, List.drop_of_length_le (by rw [hsl.len]; omega)]
        rfl
      have HN := Lib.hid hN
      clear hN
      go_wp2_with (go_at_call 136; refine (bad_any br false xs _ HR.out).mono ?_; rintro e w' ⟨rfl, h1, h2⟩)
      go_ret
      exact NumPost.none_ HN.out h1 h2
end
/-- .. wherever what is left lies. -/
abbrev Rd (w : World) (br : Nat) (bad : Bool) (xs : List Int) : Prop := RdQ (fun _ => True) w br bad xs
end
end Go.Proofs.YtbkakhfepiooaaaGreatDoor.O
namespace Go.Mp
section
open Go.RowKit Go.Oct Go.Maps
/-- An element as it lies there. -/
def held (v : Value) : Option (DataW Value × List MemPlace) := some (.held v, [])
/-- Block b is a map of at most n entries; the key kl has the value f kl. -/
def Mp (P : Program) (k : TypeId) (w : World) (b n : Nat) (f : Lit → Option Value) : Prop :=
  ∃ D : DataW Value, w.ownsMap P k held b n D ∧ ∀ kl : Lit, has D kl = (f kl).isSome ∧ ∀ z : Value, D.atKey kl (.held z) = .held ((f kl).getD z)
section
variable {P : Program} {k t e : TypeId} {w w' : World} {b n : Nat} {f : Lit → Option Value} {S : Nat → Prop}
theorem Mp.made (P : Program) (k : TypeId) (w : World) : Mp P k (w.alloc (.map #[] 0)) w.heap.size 0 (fun _ => none) :=
  ⟨.map [], World.ownsMap_made w P k held, fun kl => ⟨by simp [has], fun z => by simp [DataW.atKey]⟩⟩
theorem Mp.lt (h : Mp P k w b n f) : b < w.heap.size := by
  obtain ⟨D, h, _⟩ := h
  exact h.lt
theorem Mp.mono (h : Mp P k w b n f) {m : Nat} (hm : n ≤ m) : Mp P k w b m f := by
  obtain ⟨D, h1, h2⟩ := h
  exact ⟨D, h1.mono hm, h2⟩
theorem Mp.ch (h : Mp P k w b n f) (hc : Ch S w w') (hb : ¬ S b) : Mp P k w' b n f := by
  obtain ⟨D, h1, h2⟩ := h
  have hl := h1.lt
  obtain ⟨es, c, hh, r⟩ := h1
  exact ⟨D, ⟨es, c, (hc.block b hl hb).trans hh, r⟩, h2⟩
theorem Mp.drew (h : Mp P k w b n f) : Mp P k w.drew b n f := h
theorem Mp.drewN (h : Mp P k w b n f) (q : Nat) : Mp P k (w.drewN q) b n f := h
theorem Mp.alloc (h : Mp P k w b n f) (o : Obj) : Mp P k (w.alloc o) b n f := h.ch ((Ch.refl (fun _ => False) w).alloc o) (fun h => h)
theorem Mp.congr (h : Mp P k w b n f) {g : Lit → Option Value} (hg : ∀ kl, g kl = f kl) : Mp P k w b n g := by
  have : g = f := funext hg
  rw [this]; exact h
/-- m[k]. -/
theorem Mp.look (h : Mp P k w b n f) (K : Keyed P k) (ht : P.underlying t = some (.map k e)) {z : Value} (hz : (zeroValue e).run P w = .ok z w) {key : Value} {kl : Lit} (hkey : keyOf P k key = some kl) :
    (Instr.lookup t (.map (some b)) key false).run P w = .ok ((f kl).getD z) w := by
  obtain ⟨D, h1, h2⟩ := h
  obtain ⟨v, ps, hr, hv⟩ := h1.lookup (zd := .held z) (zp := []) K ht hz rfl hkey
  rw [(h2 kl).2 z] at hv
  simp only [held, Option.some.injEq, Prod.mk.injEq, DataW.held.injEq] at hv
  rw [hr, hv.1]
/-- v, ok := m[k]. -/
theorem Mp.look_ok (h : Mp P k w b n f) (K : Keyed P k) (ht : P.underlying t = some (.map k e)) {z : Value} (hz : (zeroValue e).run P w = .ok z w) {key : Value} {kl : Lit} (hkey : keyOf P k key = some kl) :
    (Instr.lookup t (.map (some b)) key true).run P w = .ok (.tuple #[(f kl).getD z, .bool (f kl).isSome]) w := by
  obtain ⟨D, h1, h2⟩ := h
  obtain ⟨v, ps, hr, hv⟩ := h1.look_ok (zd := .held z) (zp := []) K ht hz rfl hkey
  rw [(h2 kl).2 z] at hv
  simp only [held, Option.some.injEq, Prod.mk.injEq, DataW.held.injEq] at hv
  rw [hr, hv.1, (h2 kl).1]
open Classical in
/-- The map with a key set. -/
noncomputable def put (f : Lit → Option Value) (kl : Lit) (v : Value) : Lit → Option Value := fun x => if x = kl then some v else f x
/-- m[k] = v. -/
theorem Mp.put (h : Mp P k w b n f) (K : Keyed P k) (ht : P.underlying t = some (.map k e)) (hn : n < maxLen) {key v : Value} {kl : Lit} (hkey : keyOf P k key = some kl) (hk : WideAt.IsKeyLit kl) :
    ∃ w', (Instr.mapUpdate t (.map (some b)) key v).run P w = .ok () w' ∧ Mp P k w' b (n + 1) (put f kl v) ∧ Ch (fun g => g = b) w w' := by
  obtain ⟨D, h1, h2⟩ := h
  obtain ⟨w', hr, h3, hg⟩ := h1.update (val := v) (d := .held v) (ps := []) K ht hn hkey rfl
  refine ⟨w', hr, ⟨_, h3, fun x => ?_⟩, ⟨hg.os, hg.tape, hg.output, hg.size, fun i hi hne => hg.block i hi (fun e => hne (by injection e))⟩⟩
  show has (D.put kl (.held v)) x = (Go.Mp.put f kl v x).isSome ∧ ∀ z, (D.put kl (.held v)).atKey x (.held z) = .held ((Go.Mp.put f kl v x).getD z)
  unfold Go.Mp.put
  by_cases hx : x = kl
  · subst hx
    rw [if_pos rfl]
    exact ⟨has_put_same h1.isMap hk _, fun z => atKey_put_same h1.isMap hk _ _⟩
  · rw [if_neg hx, has_put_other hx]
    exact ⟨(h2 x).1, fun z => by rw [atKey_put_other hx]; exact (h2 x).2 z⟩
/-- len(m) is at most. -/
theorem Mp.isMap (h : Mp P k w b n f) : ∃ es c, w.heap[b]? = some (.map es c) := by
  obtain ⟨D, ⟨es, c, hh, _⟩, _⟩ := h
  exact ⟨es, c, hh⟩
section
variable {ops : Array Oper} {rest : List Oper} {o : Oper} {a : Act} {Q : Exit → Act → World → Prop}
theorem wp_get (hg : o.guard = none) (m x : Operand) (hop : o.op = Op.lookup t m x false) (K : Keyed P k) (ht : P.underlying t = some (.map k e)) {z : Value} (hz : (zeroValue e).run P w = .ok z w)
    (hm : a.eval m = .map (some b)) (h : Mp P k w b n f) (key : Value) (kl : Lit) (hx : a.eval x = key) (hkey : keyOf P k key = some kl)
    (hK : wpList P ops Q rest (a.put o.dst ((f kl).getD z)) w) : wpList P ops Q (o :: rest) a w :=
  wpList_plain hg fun K' hK' => by
    have hr := h.look K ht hz hkey
    unfold Oper.wp
    simp [execOp, hop, hm, hx, hr, Result.andThen]
    exact hK' _ _ hK
theorem wp_get_ok (hg : o.guard = none) (m x : Operand) (hop : o.op = Op.lookup t m x true) (K : Keyed P k) (ht : P.underlying t = some (.map k e)) {z : Value} (hz : (zeroValue e).run P w = .ok z w)
    (hm : a.eval m = .map (some b)) (h : Mp P k w b n f) (key : Value) (kl : Lit) (hx : a.eval x = key) (hkey : keyOf P k key = some kl)
    (hK : wpList P ops Q rest (a.put o.dst (.tuple #[(f kl).getD z, .bool (f kl).isSome])) w) : wpList P ops Q (o :: rest) a w :=
  wpList_plain hg fun K' hK' => by
    have hr := h.look_ok K ht hz hkey
    unfold Oper.wp
    simp [execOp, hop, hm, hx, hr, Result.andThen]
    exact hK' _ _ hK
theorem wp_put (hg : o.guard = none) (m x y : Operand) (hop : o.op = Op.mapUpdate t m x y) (K : Keyed P k) (ht : P.underlying t = some (.map k e)) (hn : n < maxLen)
    (hm : a.eval m = .map (some b)) (h : Mp P k w b n f) (key v : Value) (kl : Lit) (hx : a.eval x = key) (hv : a.eval y = v) (hkey : keyOf P k key = some kl) (hk : WideAt.IsKeyLit kl)
    (hK : ∀ w', Mp P k w' b (n + 1) (put f kl v) → Ch (fun g => g = b) w w' → wpList P ops Q rest (a.put o.dst undef) w') : wpList P ops Q (o :: rest) a w :=
  wpList_plain hg fun K' hK' => by
    obtain ⟨w', hr, h1, h2⟩ := h.put (v := v) K ht hn hkey hk
    unfold Oper.wp
    simp [execOp, hop, hm, hx, hv, hr, Result.andThen]
    exact hK' _ _ (hK w' h1 h2)
end
/-- A string's key. -/
theorem str_lit (s : ByteArray) : WideAt.IsKeyLit (.string s.data.toList) := trivial
theorem str_inj {a b : ByteArray} (h : (Lit.string a.data.toList) = .string b.data.toList) : a = b := by
  injection h with h
  have := Array.toList_inj.1 h
  cases a; cases b; simp at this; rw [this]
end
end
end Go.Mp
