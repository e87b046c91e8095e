/-
  The contracts of haystackref1.Num, Nums and Bytes.
-/
import Derived.Test.YtanhnaohmaepoaaOcJoin
import Derived.Laws.BitsAllLaws
import Derived.Laws.BitsLemmas
namespace Go.Proofs.Ytanhnaohmaepoaa.O
open Go.RowKit Go.Oct

theorem ofInt_u64 (a : Nat) (ha : a < 18446744073709551616) : (BitVec.ofInt 64 (a : Int)).toNat = a := by
  rw [BitVec.ofInt_natCast, BitVec.toNat_ofNat]; exact Nat.mod_eq_of_lt (by omega)
theorem u64_and127 (a : Nat) (ha : a ≤ top62) : bits .and .u64 (a : Int) 127 = ((a % 128 : Nat) : Int) := by
  have ha' : a < 18446744073709551616 := by rw [top62_eq] at ha; omega
  show IntKind.u64.wrap ((BitVec.ofInt 64 (a : Int) &&& BitVec.ofInt 64 ((127 : Nat) : Int)).toNat : Int) = _
  rw [BitVec.toNat_and, ofInt_u64 a ha', ofInt_u64 127 (by omega), IntKind.wrap_u64]
  have : a &&& 127 = a % 128 := Nat.and_two_pow_sub_one_eq_mod a 7
  rw [this]
  omega
theorem u8_or128 (q : Nat) (hq : q < 128) : bits .or .u8 (q : Int) 128 = ((q + 128 : Nat) : Int) := by
  have : ∀ q : Fin 128, bits .or .u8 ((q.val : Nat) : Int) 128 = ((q.val + 128 : Nat) : Int) := by decide +kernel
  exact this ⟨q, hq⟩

def RefRel (w : World) (z : Int) (m : Nat) (v : Value) (wr : World) : Prop := ∃ ys, Fresh w v ys wr ∧ ys ++ encN m = encI z
theorem ref_room {z : Int} {m : Nat} {ys : List Int} (h : ys ++ encN m = encI z) : ys.length + 1 ≤ 9 := by
  have h1 := encI_len z
  have h2 := encN_pos m
  rw [← h, List.length_append] at h1
  omega
theorem fresh_nil (w : World) : Fresh w (.slice none 0 0) [] w := ⟨World.ownsRow_nil _ _ _ _, fun g hg => by simp [Value.ownBlock] at hg, Ch.refl _ _⟩

set_option maxHeartbeats 1000000 in
set_option maxRecDepth 100000 in
theorem refnum_any (z : Int) (w : World) :
    Calls Try.prog 45 #[.int .i64 z] w fun e w' => ∃ v, e = .returned v ∧ Fresh w v (encI z) w' := by
  have hm : z ≤ 0 ∨ 4611686018427387904 < z ∨ (0 < z ∧ z ≤ 4611686018427387904) := by omega
  rcases hm with hm | hm | ⟨hm, hm1⟩
  · have H0 : Hid (∃ m : Nat, m ≤ top62 ∧ Value.int .u64 0 = .int .u64 m ∧ RefRel w z m (.slice none 0 0) w) := ⟨0, Nat.zero_le _, rfl, [], fresh_nil w, by rw [encI, clampI_zero hm]; rfl⟩
    go_enter Try.func45, Try.ntmps45
    go_wp2
    clear hm
    go_loopw [3, 4] (fun u v wr => ∃ m : Nat, m ≤ top62 ∧ u = .int .u64 m ∧ RefRel w z m v wr) (fun u _ _ => (intOf u).toNat)
    case atStart => exact H0.out
    case round =>
      obtain ⟨m, hm62, rfl, ys, hfr, hys⟩ := hrel
      obtain ⟨A', c', rfl, _, _⟩ := own_shape hfr.1
      have hroom := ref_room hys
      have HY := Lib.hid hys
      clear hys
      by_cases hbig : 128 ≤ m
      · obtain ⟨q, eq⟩ : ∃ q, q = m % 128 := ⟨_, rfl⟩
        have hq : q < 128 := by omega
        have h1 : bits .and .u64 (m : Int) 127 = (q : Int) := by rw [eq]; exact u64_and127 m hm62
        obtain ⟨p, ep⟩ : ∃ p, p = q + 128 := ⟨_, rfl⟩
        have h2 : bits .or .u8 (q : Int) 128 = (p : Int) := by rw [ep]; exact u8_or128 q hq
        have hmore : (ys ++ [(p : Int)]) ++ encN (m / 128) = encI z := by
          rw [← HY.out, encN_big hbig, ep, eq]
          simp
        have HM := Lib.hid hmore
        clear hmore ep eq
        go_wp2_with (at_builtin; refine wp_app rfl (.tmp 13) (.tmp 18) Tb rfl rfl (hfr.1.alloc _) rfl (Vs.one _ _ _) ?c1 ?c2 ?c3 ?_)
        case c1 => intro u hu; simp at hu; subst hu; rfl
        case c2 => omega
        case c3 => omega
        intro v2 w1 hown hg hb
        have hf := Fresh.app (zs := [(p : Int)]) ⟨hfr.1.alloc _, hfr.2.1, hfr.2.2.alloc _⟩ hg hown (by simpa using hb)
        clear hown hg hb h1 h2
        go_wp2
        exact ⟨⟨m / 128, by omega, rfl, _, hf, HM.out⟩, by simp [intOf]; omega⟩
      · have hbig' : m < 128 := by omega
        clear hbig
        have hmore : ys ++ [(m : Int)] = encI z := by rw [← HY.out, encN_small hbig']
        have HM := Lib.hid hmore
        clear hmore
        go_wp2_with (at_builtin; refine wp_app rfl (.tmp 22) (.tmp 25) Tb rfl rfl (hfr.1.alloc _) rfl (Vs.one _ _ _) ?c1 ?c2 ?c3 ?_)
        case c1 => intro u hu; simp at hu; subst hu; rfl
        case c2 => omega
        case c3 => omega
        intro v2 w1 hown hg hb
        have hf := Fresh.app (zs := [(m : Int)]) ⟨hfr.1.alloc _, hfr.2.1, hfr.2.2.alloc _⟩ hg hown (by simpa using hb)
        rw [HM.out] at hf
        clear hown hg hb
        go_wp2
        go_ret
        exact ⟨_, rfl, hf⟩
  · have H0 : Hid (∃ m : Nat, m ≤ top62 ∧ Value.int .u64 4611686018427387904 = .int .u64 m ∧ RefRel w z m (.slice none 0 0) w) := ⟨top62, Nat.le_refl _, rfl, [], fresh_nil w, by rw [encI, clampI_top hm]; rfl⟩
    go_enter Try.func45, Try.ntmps45
    go_wp2
    clear hm
    go_loopw [3, 4] (fun u v wr => ∃ m : Nat, m ≤ top62 ∧ u = .int .u64 m ∧ RefRel w z m v wr) (fun u _ _ => (intOf u).toNat)
    case atStart => exact H0.out
    case round =>
      obtain ⟨m, hm62, rfl, ys, hfr, hys⟩ := hrel
      obtain ⟨A', c', rfl, _, _⟩ := own_shape hfr.1
      have hroom := ref_room hys
      have HY := Lib.hid hys
      clear hys
      by_cases hbig : 128 ≤ m
      · obtain ⟨q, eq⟩ : ∃ q, q = m % 128 := ⟨_, rfl⟩
        have hq : q < 128 := by omega
        have h1 : bits .and .u64 (m : Int) 127 = (q : Int) := by rw [eq]; exact u64_and127 m hm62
        obtain ⟨p, ep⟩ : ∃ p, p = q + 128 := ⟨_, rfl⟩
        have h2 : bits .or .u8 (q : Int) 128 = (p : Int) := by rw [ep]; exact u8_or128 q hq
        have hmore : (ys ++ [(p : Int)]) ++ encN (m / 128) = encI z := by
          rw [← HY.out, encN_big hbig, ep, eq]
          simp
        have HM := Lib.hid hmore
        clear hmore ep eq
        go_wp2_with (at_builtin; refine wp_app rfl (.tmp 13) (.tmp 18) Tb rfl rfl (hfr.1.alloc _) rfl (Vs.one _ _ _) ?c1 ?c2 ?c3 ?_)
        case c1 => intro u hu; simp at hu; subst hu; rfl
        case c2 => omega
        case c3 => omega
        intro v2 w1 hown hg hb
        have hf := Fresh.app (zs := [(p : Int)]) ⟨hfr.1.alloc _, hfr.2.1, hfr.2.2.alloc _⟩ hg hown (by simpa using hb)
        clear hown hg hb h1 h2
        go_wp2
        exact ⟨⟨m / 128, by omega, rfl, _, hf, HM.out⟩, by simp [intOf]; omega⟩
      · have hbig' : m < 128 := by omega
        clear hbig
        have hmore : ys ++ [(m : Int)] = encI z := by rw [← HY.out, encN_small hbig']
        have HM := Lib.hid hmore
        clear hmore
        go_wp2_with (at_builtin; refine wp_app rfl (.tmp 22) (.tmp 25) Tb rfl rfl (hfr.1.alloc _) rfl (Vs.one _ _ _) ?c1 ?c2 ?c3 ?_)
        case c1 => intro u hu; simp at hu; subst hu; rfl
        case c2 => omega
        case c3 => omega
        intro v2 w1 hown hg hb
        have hf := Fresh.app (zs := [(m : Int)]) ⟨hfr.1.alloc _, hfr.2.1, hfr.2.2.alloc _⟩ hg hown (by simpa using hb)
        rw [HM.out] at hf
        clear hown hg hb
        go_wp2
        go_ret
        exact ⟨_, rfl, hf⟩
  · obtain ⟨y, rfl⟩ := Int.cast_of (show 0 ≤ z by omega)
    have H0 : Hid (∃ m : Nat, m ≤ top62 ∧ Value.int .u64 (y : Int) = .int .u64 m ∧ RefRel w y m (.slice none 0 0) w) := ⟨y, by rw [top62_eq]; omega, rfl, [], fresh_nil w, by rw [encI, clampI_nat hm1]; rfl⟩
    have hb0 : decide (0 < y) = true := by rw [decide_eq_true_eq]; omega
    go_enter Try.func45, Try.ntmps45
    go_wp2
    clear hm hm1 hb0
    go_loopw [3, 4] (fun u v wr => ∃ m : Nat, m ≤ top62 ∧ u = .int .u64 m ∧ RefRel w y m v wr) (fun u _ _ => (intOf u).toNat)
    case atStart => exact H0.out
    case round =>
      obtain ⟨m, hm62, rfl, ys, hfr, hys⟩ := hrel
      obtain ⟨A', c', rfl, _, _⟩ := own_shape hfr.1
      have hroom := ref_room hys
      have HY := Lib.hid hys
      clear hys
      by_cases hbig : 128 ≤ m
      · obtain ⟨q, eq⟩ : ∃ q, q = m % 128 := ⟨_, rfl⟩
        have hq : q < 128 := by omega
        have h1 : bits .and .u64 (m : Int) 127 = (q : Int) := by rw [eq]; exact u64_and127 m hm62
        obtain ⟨p, ep⟩ : ∃ p, p = q + 128 := ⟨_, rfl⟩
        have h2 : bits .or .u8 (q : Int) 128 = (p : Int) := by rw [ep]; exact u8_or128 q hq
        have hmore : (ys ++ [(p : Int)]) ++ encN (m / 128) = encI y := by
          rw [← HY.out, encN_big hbig, ep, eq]
          simp
        have HM := Lib.hid hmore
        clear hmore ep eq
        go_wp2_with (at_builtin; refine wp_app rfl (.tmp 13) (.tmp 18) Tb rfl rfl (hfr.1.alloc _) rfl (Vs.one _ _ _) ?c1 ?c2 ?c3 ?_)
        case c1 => intro u hu; simp at hu; subst hu; rfl
        case c2 => omega
        case c3 => omega
        intro v2 w1 hown hg hb
        have hf := Fresh.app (zs := [(p : Int)]) ⟨hfr.1.alloc _, hfr.2.1, hfr.2.2.alloc _⟩ hg hown (by simpa using hb)
        clear hown hg hb h1 h2
        go_wp2
        exact ⟨⟨m / 128, by omega, rfl, _, hf, HM.out⟩, by simp [intOf]; omega⟩
      · have hbig' : m < 128 := by omega
        clear hbig
        have hmore : ys ++ [(m : Int)] = encI y := by rw [← HY.out, encN_small hbig']
        have HM := Lib.hid hmore
        clear hmore
        go_wp2_with (at_builtin; refine wp_app rfl (.tmp 22) (.tmp 25) Tb rfl rfl (hfr.1.alloc _) rfl (Vs.one _ _ _) ?c1 ?c2 ?c3 ?_)
        case c1 => intro u hu; simp at hu; subst hu; rfl
        case c2 => omega
        case c3 => omega
        intro v2 w1 hown hg hb
        have hf := Fresh.app (zs := [(m : Int)]) ⟨hfr.1.alloc _, hfr.2.1, hfr.2.2.alloc _⟩ hg hown (by simpa using hb)
        rw [HM.out] at hf
        clear hown hg hb
        go_wp2
        go_ret
        exact ⟨_, rfl, hf⟩

set_option maxHeartbeats 400000 in
theorem refnums_any (zs : List Int) (A : Option Addr) (n c : Nat) (w : World) (F : Nat → Prop) (hn : n ≤ 1000000000) (hz : Sl w F .i64 A n zs) :
    Calls Try.prog 32 #[.slice A n c] w fun e w' => ∃ v, e = .returned v ∧ Fresh w v (zs.flatMap encI) w' := by
  go_enter Try.func32, Try.ntmps32
  go_wp2
  go_loopw [3, 4] (fun v i wr => ∃ k : Nat, k ≤ n ∧ i = .int .i64 k ∧ Fresh w v ((zs.take k).flatMap encI) wr) (fun _ i _ => n - (intOf i).toNat)
  case atStart => exact ⟨0, Nat.zero_le _, rfl, fresh_nil w⟩
  case round =>
    obtain ⟨k, hk, rfl, hfr⟩ := hrel
    by_cases hlt : k < n
    · have hl := flat_len zs k
      obtain ⟨ys, eys⟩ : ∃ ys, ys = (zs.take k).flatMap encI := ⟨_, rfl⟩
      rw [← eys] at hfr hl
      have EY := Lib.hid eys
      clear eys
      obtain ⟨A', c', rfl, _, _⟩ := own_shape hfr.1
      obtain ⟨b, off, z, rfl, _, ez, hc⟩ := (hz.ch hfr.2.2 (fun _ _ _ h => h)).at_ hlt
      have hl9 := encI_len z
      obtain ⟨wo, rfl⟩ : ∃ wo : World, wo = wr := ⟨_, rfl⟩
      go_wp2_with fail
      refine (refnum_any z _).mono ?_
      rintro e w1 ⟨v1, rfl, hf1⟩
      obtain ⟨A1, c1, rfl, _, _⟩ := own_shape hf1.1
      have ho := hf1.2.2.own hfr.1 (fun _ _ h => h)
      have hfr1 : Fresh w (.slice A' ys.length c') ys w1 := ⟨ho, hfr.2.1, hfr.2.2.trans hf1.2.2 (fun _ _ h => h)⟩
      have hs1 := Sl.of_own hf1.1
      clear hf1 hfr ho hc
      go_wp2_with (at_builtin; refine wp_app rfl (.tmp 11) (.tmp 16) Tb rfl rfl hfr1.1 rfl hs1 ?c1 ?c2 ?c3 ?_)
      case c1 => exact ints_cells _ _
      case c2 => omega
      case c3 => omega
      intro v2 w2 hown hg hb
      have hf := Fresh.app (zs := encI z) hfr1 hg hown hb
      rw [EY.out, ← flat_more encI ez.out] at hf
      clear hown hg hb hfr1 hs1
      go_wp2
      go_roundw
      case rel => exact ⟨k + 1, by omega, by go_num, hf⟩
      case measure => simp [intOf]; omega
    · obtain rfl : k = n := by omega
      rw [List.take_of_length_le (by rw [hz.len]; omega)] at hfr
      go_wp2
      go_ret
      exact ⟨_, rfl, hfr⟩

set_option maxHeartbeats 400000 in
theorem refbytes_any (xs : List Int) (A : Option Addr) (n c : Nat) (w : World) (F : Nat → Prop) (hn : n ≤ 100000000000000) (hz : Sl w F .u8 A n xs) :
    Calls Try.prog 33 #[.slice A n c] w fun e w' => ∃ v, e = .returned v ∧ Fresh w v (rowB xs) w' := by
  obtain rfl := hz.len
  go_enter Try.func33, Try.ntmps33
  go_wp2_with fail
  refine (refnum_any (xs.length : Int) _).mono ?_
  rintro e w1 ⟨v1, rfl, hf1⟩
  have e1 : encI (xs.length : Int) = encN xs.length := by unfold encI; rw [clampI_nat (by omega)]
  rw [e1] at hf1
  obtain ⟨A1, c1, rfl, _, _⟩ := own_shape hf1.1
  have hl9 : (encN xs.length).length ≤ 9 := by rw [← e1]; exact encI_len _
  have hz1 := hz.ch hf1.2.2 (fun _ _ _ h => h)
  clear e1 hz
  go_wp2_with (at_builtin; refine wp_app rfl (.tmp 5) (.tmp 6) Tb rfl rfl hf1.1 rfl hz1 ?c1 ?c2 ?c3 ?_)
  case c1 => exact ints_cells _ _
  case c2 => omega
  case c3 => omega
  intro v2 w2 hown hg hb
  have hf := Fresh.app (zs := xs) hf1 hg hown hb
  clear hown hg hb hf1 hz1
  go_wp2
  go_ret
  exact ⟨_, rfl, hf⟩
end Go.Proofs.Ytanhnaohmaepoaa.O
