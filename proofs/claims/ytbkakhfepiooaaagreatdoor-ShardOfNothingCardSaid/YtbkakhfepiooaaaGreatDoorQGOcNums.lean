/- Lemmas and contracts of this proof. Conditions: said at each. -/
import Derived.Test.YtbkakhfepiooaaaGreatDoorQGOcWords
import Derived.Test.YtbkakhfepiooaaaGreatDoorProg
import Derived.Lib.Hide
import Derived.Handy
namespace Go.Proofs.YtbkakhfepiooaaaGreatDoor.O
section
open Go.RowKit Go.Oct
theorem nums_nil (A : Option Addr) (n c : Nat) (w : World) : Calls Tryz.prog 71 #[.pointer none, .slice A n c] w fun e w' => e = .returned (.tuple #[]) ∧ w = w' := by
  go_enter Tryz.func71, Tryz.ntmps71
  go_wp2
  go_returns
  exact ⟨rfl, rfl⟩
/-- A Writer at block bw, whose field is v, and that has laid xs. -/
def Wr (w : World) (bw : Nat) (v : Value) (xs : List Int) : Prop :=
  w.heap[bw]? = some (.cells #[v] 152 (0, 0)) ∧ w.ownsRow 0 5 1 v xs.length (xs.map (Value.int .u8))
/-- The blocks that a Writer's call may turn. -/
def WS (bw : Nat) (v : Value) (k : Nat) : Prop := k = bw ∨ v.ownBlock = some k
/-- The row is the old one or a new one. -/
def Newer (w : World) (v v' : Value) : Prop := ∀ g, v'.ownBlock = some g → v.ownBlock = some g ∨ w.heap.size ≤ g
def NumsRel (w : World) (bw : Nat) (v : Value) (xs zs : List Int) (k : Nat) (wr : World) : Prop :=
  ∃ v', Wr wr bw v' (xs ++ (zs.take k).flatMap encI) ∧ Ch (WS bw v) w wr ∧ Newer w v v'
def NumsIn (w : World) (bw : Nat) (v : Value) (xs zs : List Int) (k : Nat) (z : Int) (m : Nat) (wr : World) : Prop :=
  ∃ v' pre, pre ++ encN m = encI z ∧ Wr wr bw v' (xs ++ (zs.take k).flatMap encI ++ pre) ∧ Ch (WS bw v) w wr ∧ Newer w v v'
theorem Wr.cell {w : World} {bw : Nat} {v : Value} {xs : List Int} (h : Wr w bw v xs) : w.cell? ⟨bw, 0, none⟩ = some v := by simp [World.cell?, h.1]
theorem Wr.frozen {w : World} {bw : Nat} {v : Value} {xs : List Int} (h : Wr w bw v xs) : w.frozen? ⟨bw, 0, none⟩ = false := by simp [World.frozen?, h.1]
theorem Tb : Elem Tryz.prog 22 5 (.int .u8 0) 1 := ⟨Tryz.underlying22, by kernel_rfl, rfl⟩
theorem Wr.lt {w : World} {bw : Nat} {v : Value} {xs : List Int} (h : Wr w bw v xs) : bw < w.heap.size := (Array.getElem?_eq_some_iff.1 h.1).1
theorem Wr.ne {w : World} {bw : Nat} {v : Value} {xs : List Int} (h : Wr w bw v xs) : v.ownBlock ≠ some bw := by
  rcases h.2.2 with ⟨rfl, _⟩ | ⟨g, cap, cur, rfl, _, hg, _⟩
  · simp [Value.ownBlock]
  · intro e
    simp only [Value.ownBlock, Option.some.injEq] at e
    subst e
    rw [h.1] at hg
    cases hg
theorem Wr.row_lt {w : World} {bw : Nat} {v : Value} {xs : List Int} (h : Wr w bw v xs) {g : Nat} (hg : v.ownBlock = some g) : g < w.heap.size := (h.2.lt g hg).2
/-- What turns neither the Writer nor its row leaves it as it is. -/
theorem Wr.ch {w w' : World} {S : Nat → Prop} {bw : Nat} {v : Value} {xs : List Int} (h : Wr w bw v xs) (hc : Ch S w w') (hS : ∀ b, WS bw v b → ¬ S b) : Wr w' bw v xs :=
  ⟨(hc.block bw h.lt (hS bw (.inl rfl))).trans h.1, hc.own h.2 fun g hg => hS g (.inr hg)⟩
theorem Newer.refl (w : World) (v : Value) : Newer w v v := fun _ h => .inl h
theorem Newer.trans {w w1 : World} {v v1 v2 : Value} (h : Newer w v v1) (k : Newer w1 v1 v2) (hs : w.heap.size ≤ w1.heap.size) : Newer w v v2 := fun g hg => by
  rcases k g hg with h1 | h1
  · exact h g h1
  · exact .inr (by omega)
theorem NumsRel.ch {w wr : World} {bw k : Nat} {v : Value} {xs zs : List Int} (h : NumsRel w bw v xs zs k wr) : Ch (WS bw v) w wr := by
  obtain ⟨_, _, h, _⟩ := h
  exact h
/-- What a later call may turn is what the first may turn, or new. -/
theorem WS.of {w : World} {bw : Nat} {v v' : Value} (h : Newer w v v') : ∀ i, i < w.heap.size → WS bw v' i → WS bw v i := fun i hi hs => by
  rcases hs with rfl | hs
  · exact .inl rfl
  · rcases h i hs with h1 | h1
    · exact .inr h1
    · omega
/-- Behind an append onto the Writer's row, and the store of what it gives. -/
theorem wr_app {wr w0 w1 : World} {bw m : Nat} {v v' : Value} {ys zs : List Int} (hw : Wr wr bw v ys) (h0 : Ch (fun _ => False) wr w0) (hg : w0.grownBy w1 v.ownBlock)
    (ho : w1.ownsRow 0 5 1 v' (ys.length + m) (ys.map (Value.int .u8) ++ zs.map (Value.int .u8))) (hb : v'.ownBlock = v.ownBlock ∨ v'.ownBlock = some w0.heap.size) :
    w1.cell? ⟨bw, 0, none⟩ = some v ∧ w1.frozen? ⟨bw, 0, none⟩ = false ∧
    Wr (w1.setCell ⟨bw, 0, none⟩ v') bw v' (ys ++ zs) ∧ Ch (WS bw v) wr (w1.setCell ⟨bw, 0, none⟩ v') ∧ Newer wr v v' := by
  have hlt := hw.lt
  have hsz := h0.size
  have hblk : w1.heap[bw]? = some (.cells #[v] 152 (0, 0)) := by
    rw [hg.block bw (by omega) (fun e => hw.ne e.symm), h0.block bw hlt (fun h => h)]
    exact hw.1
  have hne : v'.ownBlock ≠ some bw := by
    rcases hb with hb | hb
    · rw [hb]; exact hw.ne
    · rw [hb]; intro e; injection e with e; omega
  have hl : m = zs.length := by
    have := ho.1
    simp at this
    omega
  subst hl
  refine ⟨by simp [World.cell?, hblk], by simp [World.frozen?, hblk], ⟨?_, ?_⟩, ?_, ?_⟩
  · simp [World.setCell, Array.getElem?_modify, hblk]
  · rw [List.map_append, List.length_append]
    exact ((Ch.refl (fun k => k = bw) w1).setCell (p := ⟨bw, 0, none⟩) (.inl rfl) v').own ho fun g hg e => hne (by rw [hg, e])
  · refine (((h0.mono (S := WS bw v) fun _ _ h => h.elim).grown hg fun k hk => .inl (.inr hk))).setCell (.inl (.inl rfl)) _
  · intro g hgg
    rcases hb with hb | hb
    · exact .inl (by rw [← hb]; exact hgg)
    · right
      rw [hb] at hgg
      injection hgg with hgg
      omega
theorem nums_room {xs zs ys pre : List Int} {k m n : Nat} {z : Int} (EY : ys = xs ++ (zs.take k).flatMap encI ++ pre) (epre : pre ++ encN m = encI z) (hk : k < n) : ys.length + 1 ≤ xs.length + 9 * n := by
  have h1 := flat_len zs k
  have h2 : (encI z).length ≤ 9 := encI_len z
  have h3 := encN_pos m
  rw [← epre, List.length_append] at h2
  subst EY
  simp only [List.length_append]
  omega
theorem nums_step {w wr W' : World} {bw k m : Nat} {v v' v2 : Value} {xs zs ys pre : List Int} {z : Int} (EY : ys = xs ++ (zs.take k).flatMap encI ++ pre) (epre : pre ++ encN m = encI z) (hbig : 128 ≤ m)
    (hch : Ch (WS bw v) w wr) (hnew : Newer w v v') (k3 : Wr W' bw v2 (ys ++ [(m : Int) % 128 + 128])) (k4 : Ch (WS bw v') wr W') (k5 : Newer wr v' v2) : NumsIn w bw v xs zs k z (m / 128) W' := by
  refine ⟨v2, pre ++ [(m : Int) % 128 + 128], ?_, ?_, hch.trans k4 (WS.of hnew), hnew.trans k5 hch.size⟩
  · rw [← epre, encN_big hbig]
    simp
  · rw [EY] at k3
    simpa using k3
theorem nums_done {w wr W' : World} {bw k m : Nat} {v v' v2 : Value} {xs zs ys pre : List Int} {z : Int} (EY : ys = xs ++ (zs.take k).flatMap encI ++ pre) (epre : pre ++ encN m = encI z) (hs : m < 128) (ez : zs[k]? = some z)
    (hch : Ch (WS bw v) w wr) (hnew : Newer w v v') (k3 : Wr W' bw v2 (ys ++ [(m : Int)])) (k4 : Ch (WS bw v') wr W') (k5 : Newer wr v' v2) : NumsRel w bw v xs zs (k + 1) W' := by
  refine ⟨v2, ?_, hch.trans k4 (WS.of hnew), hnew.trans k5 hch.size⟩
  rw [take_more ez, List.flatMap_append, List.flatMap_cons, List.flatMap_nil, List.append_nil, ← epre, encN_small hs]
  rw [EY] at k3
  simpa using k3
theorem nums_start {w wo : World} {bw k m : Nat} {v : Value} {xs zs : List Int} {z : Int} (h : NumsRel w bw v xs zs k wo) (hm : m = clampI z) : m ≤ top62 ∧ NumsIn w bw v xs zs k z m wo := by
  obtain ⟨v', h1, h2, h3⟩ := h
  subst hm
  exact ⟨clampI_le z, v', [], rfl, by simpa using h1, h2, h3⟩
theorem Int.cast_of {m : Int} (h : 0 ≤ m) : ∃ k : Nat, m = (k : Int) := ⟨m.toNat, by omega⟩
set_option maxHeartbeats 400000 in
set_option maxRecDepth 100000 in
theorem nums_any (bw : Nat) (v : Value) (xs zs : List Int) (A : Option Addr) (n c : Nat) (w : World) (F : Nat → Prop) (hn : n ≤ 1000000000)
    (hw : Wr w bw v xs) (hz : Sl w F .i64 A n zs) (hF : ∀ b, F b → ¬ WS bw v b) (hb : xs.length + 9 * n ≤ 100000000000000) :
    Calls Tryz.prog 71 #[.pointer (some ⟨bw, 0, none⟩), .slice A n c] w fun e w' => e = .returned (.tuple #[]) ∧ NumsRel w bw v xs zs n w' := by
  go_enter Tryz.func71, Tryz.ntmps71
  go_wp2
  go_loopw [10] (fun i wr => ∃ k : Nat, k ≤ n ∧ i = .int .i64 k ∧ NumsRel w bw v xs zs k wr) (fun i _ => n - (intOf i).toNat)
  case atStart => exact ⟨0, Nat.zero_le _, rfl, v, by simpa using hw, Ch.refl _ _, Newer.refl _ _⟩
  case round =>
    obtain ⟨k, hk, rfl, hr⟩ := hrel
    by_cases hlt : k < n
    · have hzr : Sl wr F .i64 A n zs := hz.ch hr.ch fun b hb _ => hF b hb
      obtain ⟨b, off, z, rfl, _, ez, hc⟩ := hzr.at_ hlt
      obtain ⟨wo, rfl⟩ : ∃ wo : World, wo = wr := ⟨_, rfl⟩
      have hm : z < 0 ∨ 4611686018427387904 < z ∨ (0 ≤ z ∧ z ≤ 4611686018427387904) := by omega
      rcases hm with hm | hm | ⟨hm, hm1⟩
      · have H0 : Hid (∃ m : Nat, m ≤ top62 ∧ Value.int .i64 0 = .int .i64 m ∧ NumsIn w bw v xs zs k z m wo) := ⟨0, (nums_start hr (clampI_neg hm).symm).1, rfl, (nums_start hr (clampI_neg hm).symm).2⟩
        go_wp2
        clear hm
        go_loopw [5] (fun i wr => ∃ m : Nat, m ≤ top62 ∧ i = .int .i64 m ∧ NumsIn w bw v xs zs k z m wr) (fun i _ => (intOf i).toNat)
        case atStart => exact H0.out
        case round =>
          obtain ⟨m, hm62, rfl, v', pre, epre, hw', hch, hnew⟩ := hrel
          obtain ⟨ys, eys⟩ : ∃ ys, ys = xs ++ (zs.take k).flatMap encI ++ pre := ⟨_, rfl⟩
          rw [← eys] at hw'
          have hlen := nums_room eys epre hlt
          have EY := Lib.hid eys
          clear eys
          have hc1 := hw'.cell
          have hc2 := hw'.frozen
          obtain ⟨A', c', rfl, _, _⟩ := own_shape hw'.2
          by_cases hbig : 128 ≤ m
          · go_wp2_with (at_builtin; refine wp_app rfl (.tmp 23) (.tmp 28) Tb rfl rfl (hw'.2.alloc _) rfl (Vs.one _ _ _) ?c1 ?c2 ?c3 ?_)
            case c1 => intro u hu; simp at hu; subst hu; rfl
            case c2 => omega
            case c3 => omega
            intro v'' w1 hown1 hg1 hb1
            obtain ⟨A2, c2, rfl, _, _⟩ := own_shape hown1
            obtain ⟨k1, k2, k3, k4, k5⟩ := wr_app (zs := [(m : Int) % 128 + 128]) hw' ((Ch.refl _ _).alloc _) hg1 hown1 (by simpa using hb1)
            clear hc1 hc2
            go_wp2
            exact ⟨⟨m / 128, by omega, rfl, nums_step EY.out epre hbig hch hnew k3 k4 k5⟩, by simp [intOf]; omega⟩
          · have hbig' : m < 128 := by omega
            clear hbig
            go_wp2_with (at_builtin; refine wp_app rfl (.tmp 38) (.tmp 41) Tb rfl rfl (hw'.2.alloc _) rfl (Vs.one _ _ _) ?c1 ?c2 ?c3 ?_)
            case c1 => intro u hu; simp at hu; subst hu; rfl
            case c2 => omega
            case c3 => omega
            intro v'' w1 hown1 hg1 hb1
            obtain ⟨A2, c2, rfl, _, _⟩ := own_shape hown1
            obtain ⟨k1, k2, k3, k4, k5⟩ := wr_app (zs := [(m : Int)]) hw' ((Ch.refl _ _).alloc _) hg1 hown1 (by simpa using hb1)
            clear hc1 hc2
            go_wp2
            go_roundw
            case rel => exact ⟨k + 1, by omega, by go_num, nums_done EY.out epre hbig' ez.out hch hnew k3 k4 k5⟩
            case measure => simp [intOf]; omega
      · have H0 : Hid (∃ m : Nat, m ≤ top62 ∧ Value.int .i64 4611686018427387904 = .int .i64 m ∧ NumsIn w bw v xs zs k z m wo) := ⟨top62, (nums_start hr (clampI_top hm).symm).1, rfl, (nums_start hr (clampI_top hm).symm).2⟩
        go_wp2
        clear hm
        go_loopw [5] (fun i wr => ∃ m : Nat, m ≤ top62 ∧ i = .int .i64 m ∧ NumsIn w bw v xs zs k z m wr) (fun i _ => (intOf i).toNat)
        case atStart => exact H0.out
        case round =>
          obtain ⟨m, hm62, rfl, v', pre, epre, hw', hch, hnew⟩ := hrel
          obtain ⟨ys, eys⟩ : ∃ ys, ys = xs ++ (zs.take k).flatMap encI ++ pre := ⟨_, rfl⟩
          rw [← eys] at hw'
          have hlen := nums_room eys epre hlt
          have EY := Lib.hid eys
          clear eys
          have hc1 := hw'.cell
          have hc2 := hw'.frozen
          obtain ⟨A', c', rfl, _, _⟩ := own_shape hw'.2
          by_cases hbig : 128 ≤ m
          · go_wp2_with (at_builtin; refine wp_app rfl (.tmp 23) (.tmp 28) Tb rfl rfl (hw'.2.alloc _) rfl (Vs.one _ _ _) ?c1 ?c2 ?c3 ?_)
            case c1 => intro u hu; simp at hu; subst hu; rfl
            case c2 => omega
            case c3 => omega
            intro v'' w1 hown1 hg1 hb1
            obtain ⟨A2, c2, rfl, _, _⟩ := own_shape hown1
            obtain ⟨k1, k2, k3, k4, k5⟩ := wr_app (zs := [(m : Int) % 128 + 128]) hw' ((Ch.refl _ _).alloc _) hg1 hown1 (by simpa using hb1)
            clear hc1 hc2
            go_wp2
            exact ⟨⟨m / 128, by omega, rfl, nums_step EY.out epre hbig hch hnew k3 k4 k5⟩, by simp [intOf]; omega⟩
          · have hbig' : m < 128 := by omega
            clear hbig
            go_wp2_with (at_builtin; refine wp_app rfl (.tmp 38) (.tmp 41) Tb rfl rfl (hw'.2.alloc _) rfl (Vs.one _ _ _) ?c1 ?c2 ?c3 ?_)
            case c1 => intro u hu; simp at hu; subst hu; rfl
            case c2 => omega
            case c3 => omega
            intro v'' w1 hown1 hg1 hb1
            obtain ⟨A2, c2, rfl, _, _⟩ := own_shape hown1
            obtain ⟨k1, k2, k3, k4, k5⟩ := wr_app (zs := [(m : Int)]) hw' ((Ch.refl _ _).alloc _) hg1 hown1 (by simpa using hb1)
            clear hc1 hc2
            go_wp2
            go_roundw
            case rel => exact ⟨k + 1, by omega, by go_num, nums_done EY.out epre hbig' ez.out hch hnew k3 k4 k5⟩
            case measure => simp [intOf]; omega
      · obtain ⟨y, rfl⟩ := Int.cast_of hm
        have H0 : Hid (∃ m : Nat, m ≤ top62 ∧ Value.int .i64 (y : Int) = .int .i64 m ∧ NumsIn w bw v xs zs k y m wo) := ⟨y, (nums_start hr (clampI_nat hm1).symm).1, rfl, (nums_start hr (clampI_nat hm1).symm).2⟩
        go_wp2
        clear hm1
        clear hm
        go_loopw [5] (fun i wr => ∃ m : Nat, m ≤ top62 ∧ i = .int .i64 m ∧ NumsIn w bw v xs zs k y m wr) (fun i _ => (intOf i).toNat)
        case atStart => exact H0.out
        case round =>
          obtain ⟨m, hm62, rfl, v', pre, epre, hw', hch, hnew⟩ := hrel
          obtain ⟨ys, eys⟩ : ∃ ys, ys = xs ++ (zs.take k).flatMap encI ++ pre := ⟨_, rfl⟩
          rw [← eys] at hw'
          have hlen := nums_room eys epre hlt
          have EY := Lib.hid eys
          clear eys
          have hc1 := hw'.cell
          have hc2 := hw'.frozen
          obtain ⟨A', c', rfl, _, _⟩ := own_shape hw'.2
          by_cases hbig : 128 ≤ m
          · go_wp2_with (at_builtin; refine wp_app rfl (.tmp 23) (.tmp 28) Tb rfl rfl (hw'.2.alloc _) rfl (Vs.one _ _ _) ?c1 ?c2 ?c3 ?_)
            case c1 => intro u hu; simp at hu; subst hu; rfl
            case c2 => omega
            case c3 => omega
            intro v'' w1 hown1 hg1 hb1
            obtain ⟨A2, c2, rfl, _, _⟩ := own_shape hown1
            obtain ⟨k1, k2, k3, k4, k5⟩ := wr_app (zs := [(m : Int) % 128 + 128]) hw' ((Ch.refl _ _).alloc _) hg1 hown1 (by simpa using hb1)
            clear hc1 hc2
            go_wp2
            exact ⟨⟨m / 128, by omega, rfl, nums_step EY.out epre hbig hch hnew k3 k4 k5⟩, by simp [intOf]; omega⟩
          · have hbig' : m < 128 := by omega
            clear hbig
            go_wp2_with (at_builtin; refine wp_app rfl (.tmp 38) (.tmp 41) Tb rfl rfl (hw'.2.alloc _) rfl (Vs.one _ _ _) ?c1 ?c2 ?c3 ?_)
            case c1 => intro u hu; simp at hu; subst hu; rfl
            case c2 => omega
            case c3 => omega
            intro v'' w1 hown1 hg1 hb1
            obtain ⟨A2, c2, rfl, _, _⟩ := own_shape hown1
            obtain ⟨k1, k2, k3, k4, k5⟩ := wr_app (zs := [(m : Int)]) hw' ((Ch.refl _ _).alloc _) hg1 hown1 (by simpa using hb1)
            clear hc1 hc2
            go_wp2
            go_roundw
            case rel => exact ⟨k + 1, by omega, by go_num, nums_done EY.out epre hbig' ez.out hch hnew k3 k4 k5⟩
            case measure => simp [intOf]; omega
    · go_wp2
      go_returns
      obtain rfl : k = n := by omega
      exact ⟨rfl, hr⟩
end
section
open Go.RowKit Go.Oct
theorem raw_nil (A : Option Addr) (n c : Nat) (w : World) : Calls Tryz.prog 130 #[.pointer none, .slice A n c] w fun e w' => e = .returned (.tuple #[]) ∧ w = w' := by
  go_enter Tryz.func130, Tryz.ntmps130
  go_wp2
  go_returns
  exact ⟨rfl, rfl⟩
/-- What a Writer's call leaves: it has laid ys, only it and its row have turned. -/
def Laid (w : World) (bw : Nat) (v : Value) (ys : List Int) (w' : World) : Prop := ∃ v', Wr w' bw v' ys ∧ Ch (WS bw v) w w' ∧ Newer w v v'
theorem Laid.trans {w w1 w2 : World} {bw : Nat} {v v1 : Value} {ys : List Int} (h : Laid w1 bw v1 ys w2) (hch : Ch (WS bw v) w w1) (hnew : Newer w v v1) : Laid w bw v ys w2 := by
  obtain ⟨v2, h1, h2, h3⟩ := h
  exact ⟨v2, h1, hch.trans h2 (WS.of hnew), hnew.trans h3 hch.size⟩
set_option maxHeartbeats 400000 in
theorem raw_any (bw : Nat) (v : Value) (xs zs : List Int) (A : Option Addr) (n c : Nat) (w : World) (F : Nat → Prop)
    (hw : Wr w bw v xs) (hz : Sl w F .u8 A n zs) (hb : xs.length + n ≤ 100000000000000) :
    Calls Tryz.prog 130 #[.pointer (some ⟨bw, 0, none⟩), .slice A n c] w fun e w' => e = .returned (.tuple #[]) ∧ Laid w bw v (xs ++ zs) w' := by
  have hc1 := hw.cell
  have hc2 := hw.frozen
  obtain ⟨A', c', rfl, _, _⟩ := own_shape hw.2
  go_enter Tryz.func130, Tryz.ntmps130
  go_wp2_with (at_builtin; refine wp_app rfl (.tmp 10) (.tmp 11) Tb rfl rfl hw.2 rfl hz ?c1 ?c2 ?c3 ?_)
  case c1 => exact ints_cells _ _
  case c2 => omega
  case c3 => omega
  intro v'' w1 hown1 hg1 hb1
  obtain ⟨A2, c2, rfl, _, _⟩ := own_shape hown1
  obtain ⟨k1, k2, k3, k4, k5⟩ := wr_app hw (Ch.refl _ _) hg1 hown1 hb1
  clear hc1 hc2
  go_wp2
  go_returns
  exact ⟨rfl, _, k3, k4, k5⟩
theorem row_done {w w2 : World} {bw k : Nat} {v : Value} {xs row : List Int} {xss : List (List Int)} (ex : xss[k]? = some row) (hr : (row.length : Int) ≤ 4611686018427387904)
    (h : Laid w bw v (xs ++ (xss.take k).flatMap rowB ++ (List.take 1 [(row.length : Int)]).flatMap encI ++ row) w2) : Laid w bw v (xs ++ (xss.take (k + 1)).flatMap rowB) w2 := by
  have e : encI (row.length : Int) = encN row.length := by unfold encI; rw [clampI_nat hr]
  simp only [List.take_succ_cons, List.take_zero, List.flatMap_cons, List.flatMap_nil, List.append_nil, e] at h
  rw [flat_more rowB ex]
  simpa [rowB] using h
theorem one_len (z : Int) : ((List.take 1 [z]).flatMap encI).length ≤ 9 := by
  have := encI_len z
  simpa using this
set_option maxHeartbeats 400000 in
theorem bytes_any (bw : Nat) (v : Value) (xs : List Int) (xss : List (List Int)) (A : Option Addr) (n c : Nat) (w : World) (F : Nat → Prop) (hn : n ≤ 1000000000)
    (hw : Wr w bw v xs) (hz : Sls w F A n xss) (hF : ∀ b, F b → b < w.heap.size → ¬ WS bw v b) (hb : xs.length + (xss.flatMap rowB).length ≤ 90000000000000) :
    Calls Tryz.prog 74 #[.pointer (some ⟨bw, 0, none⟩), .slice A n c] w fun e w' => e = .returned (.tuple #[]) ∧ Laid w bw v (xs ++ xss.flatMap rowB) w' := by
  go_enter Tryz.func74, Tryz.ntmps74
  go_wp2
  go_loopw [8] (fun i wr => ∃ k : Nat, k ≤ n ∧ i = .int .i64 k ∧ Laid w bw v (xs ++ (xss.take k).flatMap rowB) wr) (fun i _ => n - (intOf i).toNat)
  case atStart => exact ⟨0, Nat.zero_le _, rfl, v, by simpa using hw, Ch.refl _ _, Newer.refl _ _⟩
  case round =>
    obtain ⟨k, hk, rfl, v1, hw1, hch, hnew⟩ := hrel
    by_cases hlt : k < n
    · obtain ⟨b, off, A', c', row, rfl, hFb, ex, hcw, hsl, _, hcm⟩ := hz.at_ hlt
      have hc := hch.cell (hF b hFb (lt_of_cell hcw)) hcw
      clear hcw
      have hroom := flat_room rowB ex.out
      have hrl : row.length ≤ (rowB row).length := by simp [rowB]
      obtain ⟨wo, rfl⟩ : ∃ wo : World, wo = wr := ⟨_, rfl⟩
      have hlen : ((xs ++ (xss.take k).flatMap rowB).length) + (rowB row).length ≤ 90000000000000 := by rw [List.length_append]; omega
      have hrow : row.length ≤ 90000000000000 := by omega
      go_wp2_with fail
      refine (nums_any bw v1 (xs ++ (xss.take k).flatMap rowB) [(row.length : Int)] _ 1 1 _ (fun b => b = wo.heap.size) (by omega) (hw1.ch ((Ch.refl (fun _ => False) wo).alloc _) (fun _ _ h => h)) (Vs.one _ _ _) ?f ?b).mono ?_
      case f =>
        rintro _ rfl h
        rcases h with h | h
        · have := hw1.lt; omega
        · have := hw1.row_lt h; omega
      case b => omega
      rintro e w1 ⟨rfl, h1⟩
      obtain ⟨v2, g1, g2, g3⟩ := h1
      have hC : Ch (WS bw v) w w1 := (hch.alloc _).trans g2 (WS.of hnew)
      have hN : Newer w v v2 := hnew.trans g3 (hch.alloc _).size
      go_wp2_with fail
      refine (raw_any bw v2 _ row A' row.length c' _ F g1 (hsl.ch hC hF) ?b).mono ?_
      case b =>
        have := one_len (row.length : Int)
        rw [List.length_append]
        omega
      rintro e w2 ⟨rfl, h2⟩
      go_wp2
      go_roundw
      case rel => exact ⟨k + 1, by omega, by go_num, row_done ex.out (by omega) (h2.trans hC hN)⟩
      case measure => simp [intOf]; omega
    · go_wp2
      go_returns
      obtain rfl : k = n := by omega
      refine ⟨rfl, v1, ?_, hch, hnew⟩
      rw [List.take_of_length_le (by rw [hz.len]; omega)] at hw1
      exact hw1
end
section
open Go.RowKit Go.Oct
/-- v is a row of the call's own that reads as xs; nothing old has turned. -/
def Fresh (w : World) (v : Value) (xs : List Int) (w' : World) : Prop :=
  w'.ownsRow 0 5 1 v xs.length (xs.map (Value.int .u8)) ∧ (∀ g, v.ownBlock = some g → w.heap.size ≤ g) ∧ Ch (fun _ => False) w w'
theorem Fresh.app {w wr w1 : World} {m : Nat} {v v' : Value} {ys zs : List Int} (h : Fresh w v ys wr) (hg : wr.grownBy w1 v.ownBlock)
    (ho : w1.ownsRow 0 5 1 v' (ys.length + m) (ys.map (Value.int .u8) ++ zs.map (Value.int .u8))) (hb : v'.ownBlock = v.ownBlock ∨ v'.ownBlock = some wr.heap.size) : Fresh w v' (ys ++ zs) w1 := by
  have hl : m = zs.length := by
    have := ho.1
    simp at this
    omega
  subst hl
  refine ⟨by rw [List.map_append, List.length_append]; exact ho, fun g hgg => ?_, h.2.2.grown hg fun k hk => .inr (h.2.1 k hk)⟩
  have hsz := h.2.2.size
  rcases hb with hb | hb
  · exact h.2.1 g (by rw [← hb]; exact hgg)
  · rw [hb] at hgg
    injection hgg with hgg
    omega
theorem Fresh.after {w w0 w' : World} {v : Value} {xs : List Int} (h0 : Ch (fun _ => False) w w0) (h : Fresh w0 v xs w') : Fresh w v xs w' :=
  ⟨h.1, fun g hg => by have := h.2.1 g hg; have := h0.size; omega, h0.trans h.2.2 fun _ _ h => h⟩
set_option maxHeartbeats 400000 in
theorem join_any (xss : List (List Int)) (A : Option Addr) (n c : Nat) (w : World) (F : Nat → Prop) (hn : n ≤ 1000000000)
    (hz : Sls w F A n xss) (hb : (cat xss).length ≤ 100000000000000) :
    Calls Tryz.prog 127 #[.slice A n c] w fun e w' => ∃ v, e = .returned v ∧ Fresh w v (cat xss) w' := by
  go_enter Tryz.func127, Tryz.ntmps127
  go_wp2
  go_loop [3, 11] (fun t i => ∃ k : Nat, k ≤ n ∧ i = .int .i64 k ∧ t = .int .i64 ((cat (xss.take k)).length : Nat)) (fun _ i => n - (intOf i).toNat)
  case atStart => exact ⟨0, Nat.zero_le _, rfl, rfl⟩
  case round =>
    obtain ⟨k, hk, rfl, rfl⟩ := hrel
    by_cases hlt : k < n
    · obtain ⟨b, off, A', c', row, rfl, hFb, ex, hc, hsl, _, hcm⟩ := hz.at_ hlt
      have hroom := cat_room ex.out
      have hmore := cat_more ex.out
      have HM := Lib.hid hmore
      clear hmore
      go_wp2
      go_round
      case rel => exact ⟨k + 1, by omega, by go_num, by rw [HM.out, List.length_append]; go_num⟩
      case measure => simp [intOf]; omega
    · obtain rfl : k = n := by omega
      have hall : xss.take k = xss := List.take_of_length_le (by rw [hz.len]; omega)
      rw [hall]
      clear hall hlt hk
      have hmk := run_mk Tb (cat xss).length (by omega) (by omega)
      go_wp2
      clear hmk
      go_loopw [6, 24] (fun v i wr => ∃ j : Nat, j ≤ k ∧ i = .int .i64 j ∧ Fresh w v (cat (xss.take j)) wr) (fun _ i _ => k - (intOf i).toNat)
      case atStart => exact ⟨0, Nat.zero_le _, rfl, World.ownsRow_made w _ _ (Nat.zero_le _) (by unfold maxLen; omega) (by simp [madeCells]), fun g hg => by simp [Value.ownBlock] at hg; omega, (Ch.refl _ _).alloc _⟩
      case round =>
        obtain ⟨j, hj, rfl, hfr⟩ := hrel
        by_cases hlt : j < k
        · obtain ⟨A', c', rfl, _, _⟩ := own_shape hfr.1
          obtain ⟨b, off, A', c', row, rfl, hFb, ex, hcw, hsl, _, hcm⟩ := hz.at_ hlt
          have hc := hfr.2.2.cell (fun h => h) hcw
          have hsl1 := hsl.ch hfr.2.2 (fun _ _ _ h => h)
          have hroom := cat_room ex.out
          clear hcw
          go_wp2_with (at_builtin; refine wp_app rfl (.tmp 28) (.tmp 29) Tb rfl rfl hfr.1 rfl hsl1 ?c1 ?c2 ?c3 ?_)
          case c1 => exact ints_cells _ _
          case c2 => omega
          case c3 => omega
          intro v'' w1 hown1 hg1 hb1
          have hfr1 := hfr.app hg1 hown1 hb1
          rw [← cat_more ex.out] at hfr1
          clear hown1 hg1 hb1
          go_wp2
          go_roundw
          case rel => exact ⟨j + 1, by omega, by go_num, hfr1⟩
          case measure => simp [intOf]; omega
        · obtain rfl : j = k := by omega
          rw [List.take_of_length_le (by rw [hz.len]; omega)] at hfr
          go_wp2
          go_ret
          exact ⟨_, rfl, hfr⟩
theorem out_nil (w : World) : Calls Tryz.prog 72 #[.pointer none] w fun e w' => e = .returned (.slice none 0 0) ∧ w = w' := by
  go_enter Tryz.func72, Tryz.ntmps72
  go_wp2
  go_ret
  exact ⟨rfl, rfl⟩
theorem out_any (bw : Nat) (v : Value) (xs : List Int) (w : World) (hw : Wr w bw v xs) (hb : xs.length ≤ 100000000000000) :
    Calls Tryz.prog 72 #[.pointer (some ⟨bw, 0, none⟩)] w fun e w' => ∃ v, e = .returned v ∧ Fresh w v xs w' := by
  have hc1 := hw.cell
  obtain ⟨A', c', rfl, _, _⟩ := own_shape hw.2
  go_enter Tryz.func72, Tryz.ntmps72
  go_wp2_with fail
  refine (join_any [xs] _ 1 1 _ (fun _ => True) (by omega) (Sls.one _ (Sl.of_own hw.2) (by assumption) (by assumption) (fun _ _ _ => trivial) trivial) (by simpa [cat] using hb)).mono ?_
  rintro e w1 ⟨v, rfl, hf⟩
  go_wp2
  go_ret
  exact ⟨_, rfl, by simpa [cat] using Fresh.after ((Ch.refl _ _).alloc _) hf⟩
end
end Go.Proofs.YtbkakhfepiooaaaGreatDoor.O
