/-
  The walk of haystacklaw2.BitsLong: true, whatever the numbers. Condition: the library's table stands as start-up lays it.
-/
import Derived.Test.YtaglgmgpifmkdaaDoorBiFlips
namespace Go.Proofs.YtaglgmgpifmkdaaDoor
open Go.RowKit Go.Oct Go.Bi

theorem puts_at (xs : List Int) : ∀ (l : List Bool) (i : Nat) (c : Bool), l[i]? = some c → (puts l xs)[i]? = some (c || xs.contains (i : Int)) := by
  induction xs with
  | nil => intro l i c h; simp [puts, h]
  | cons x xs ih =>
    intro l i c h
    have hlt : i < l.length := by
      rcases Nat.lt_or_ge i l.length with h1 | h1
      · exact h1
      · rw [List.getElem?_eq_none h1] at h; cases h
    have h2 : (put1 l x)[i]? = some (c || decide ((i : Int) = x)) := by
      unfold put1
      by_cases hx : 0 ≤ x ∧ x < l.length
      · rw [if_pos hx, List.getElem?_set]
        by_cases e : x.toNat = i
        · have e2 : (i : Int) = x := by omega
          rw [if_pos e, if_pos (by omega)]
          simp [e2]
        · have e2 : ¬ (i : Int) = x := by omega
          rw [if_neg e, h]
          simp [e2]
      · have e2 : ¬ (i : Int) = x := by omega
        rw [if_neg hx, h]
        simp [e2]
    have h3 := ih (put1 l x) i _ h2
    show (puts (put1 l x) xs)[i]? = _
    rw [h3, List.contains_cons, Bool.or_assoc]
    congr 2

/-- Every so many. -/
def onesL (step j : Nat) : List Int := (List.range j).map fun t => ((t * step : Nat) : Int)
theorem onesL_len (step j : Nat) : (onesL step j).length = j := by simp [onesL]
theorem onesL_succ (step j : Nat) : onesL step (j + 1) = onesL step j ++ [((j * step : Nat) : Int)] := by simp [onesL, List.range_succ]
/-- How many of them are below i. -/
def upC (step i : Nat) : Nat := (i + step - 1) / step
theorem upC_div {step : Nat} (hs : 0 < step) (q r : Nat) (hr : r < step) : upC step (step * q + r) = q + if r = 0 then 0 else 1 := by
  unfold upC
  split
  · subst_vars
    rw [show step * q + 0 + step - 1 = step - 1 + step * q by omega, Nat.add_mul_div_left _ _ hs, Nat.div_eq_of_lt (by omega)]
    omega
  · rw [show step * q + r + step - 1 = (r - 1) + step * (q + 1) by rw [Nat.mul_add]; omega, Nat.add_mul_div_left _ _ hs, Nat.div_eq_of_lt (by omega)]
    omega
theorem upC_succ {step : Nat} (hs : 0 < step) (i : Nat) : upC step (i + 1) = upC step i + if i % step = 0 then 1 else 0 := by
  have e := Nat.div_add_mod i step
  have hm := Nat.mod_lt i hs
  generalize i / step = q at e
  generalize i % step = r at e hm
  subst e
  rw [upC_div hs q r hm, Nat.add_assoc]
  by_cases h : r + 1 < step
  · rw [upC_div hs q (r + 1) h, if_neg (by omega)]
    by_cases h0 : r = 0
    · rw [if_pos h0, if_pos h0]
    · rw [if_neg h0, if_neg h0]
  · rw [show r + 1 = step by omega, show step * q + step = step * (q + 1) + 0 by rw [Nat.mul_add]; omega, upC_div hs (q + 1) 0 hs, if_pos rfl]
    by_cases h0 : r = 0
    · rw [if_pos h0, if_pos h0]
    · rw [if_neg h0, if_neg h0]
theorem upC_zero {step : Nat} (hs : 0 < step) : upC step 0 = 0 := by
  have := upC_div hs 0 0 hs
  simpa using this
/-- j * step is below n just if j is below their number. -/
theorem lt_upC {step : Nat} (hs : 0 < step) (n j : Nat) : j * step < n ↔ j < upC step n := by
  have e := Nat.div_add_mod n step
  have hm := Nat.mod_lt n hs
  generalize n / step = q at e
  generalize n % step = r at e hm
  subst e
  rw [upC_div hs q r hm, Nat.mul_comm j step]
  constructor
  · intro h
    by_cases hj : j ≤ q
    · split <;> rename_i h0
      · subst h0
        rcases Nat.lt_or_ge j q with h1 | h1
        · omega
        · obtain rfl : j = q := by omega
          omega
      · omega
    · have := Nat.mul_le_mul_left step (show q + 1 ≤ j by omega)
      rw [Nat.mul_add] at this
      omega
  · intro h
    by_cases hj : j < q
    · have := Nat.mul_le_mul_left step (show j + 1 ≤ q by omega)
      rw [Nat.mul_add] at this
      omega
    · split at h <;> rename_i h0
      · omega
      · obtain rfl : j = q := by omega
        omega

/-- The row of one bit in each so many. -/
theorem long_at {step n i : Nat} (hs : 0 < step) (hn : n ≤ 20000) (hi : i < n) : (newL n (onesL step (upC step n)))[i]? = some (decide (i % step = 0)) := by
  unfold newL
  have hl : lim n = n := by
    unfold lim
    rw [if_neg (by omega), if_neg (by omega)]
    omega
  rw [hl]
  have h0 : (List.replicate n false)[i]? = some false := by rw [List.getElem?_replicate, if_pos hi]
  rw [puts_at _ _ _ _ h0, Bool.false_or]
  congr 1
  rw [Bool.eq_iff_iff]
  simp only [List.contains_iff_mem, decide_eq_true_eq, onesL, List.mem_map, List.mem_range]
  constructor
  · rintro ⟨t, _, ht⟩
    have : t * step = i := by omega
    rw [← this, Nat.mul_mod_left]
  · intro h
    have e := Nat.div_add_mod i step
    rw [h, Nat.add_zero, Nat.mul_comm] at e
    exact ⟨i / step, (lt_upC hs n _).1 (by omega), by omega⟩
theorem long_count {step n : Nat} (hs : 0 < step) (hn : n ≤ 20000) : ∀ i, i ≤ n → ((newL n (onesL step (upC step n))).take i).count true = upC step i
  | 0, _ => by rw [upC_zero hs]; simp
  | i + 1, h => by
    have ih := long_count hs hn i (by omega)
    have hb := long_at hs hn (show i < n by omega)
    rw [take_next hb, List.count_append, ih, upC_succ hs]
    by_cases e : i % step = 0 <;> simp [e]
theorem long_len {step n : Nat} (hn : n ≤ 20000) : (newL n (onesL step (upC step n))).length = n := by
  rw [newL_len]
  unfold lim
  rw [if_neg (by omega), if_neg (by omega)]
  omega
theorem long_sel {step n k : Nat} (hs : 0 < step) (hn : n ≤ 20000) : sel (newL n (onesL step (upC step n))) true k = if k < upC step n then ((k * step : Nat) : Int) else -1 := by
  refine sel_eq ?_
  by_cases hk : k < upC step n
  · rw [if_pos hk]
    have hi := (lt_upC hs n k).2 hk
    refine .inl ⟨k * step, rfl, ?_, ?_⟩
    · rw [long_at hs hn hi, Nat.mul_mod_left]
      rfl
    · rw [long_count hs hn _ (by omega), Nat.mul_comm k step]
      have := upC_div hs k 0 hs
      rw [Nat.add_zero, if_pos rfl] at this
      omega
  · rw [if_neg hk]
    refine .inr ⟨rfl, .inr ?_⟩
    have h := long_count hs hn n (Nat.le_refl _)
    rw [List.take_of_length_le (by rw [long_len hn]; exact Nat.le_refl _)] at h
    omega

theorem long_out (n step k : Int) (w : World) (ht : Tab w) (h : n < 1 ∨ 20000 < n ∨ step < 1 ∨ 500 < step ∨ k < 0) :
    Calls Tryd.prog 8 #[.int .i64 n, .int .i64 step, .int .i64 k] w fun e w' => e = .returned (.bool true) ∧ Ch (fun _ => False) w w' := by
  have HT := Bx.mk ht
  clear ht
  have h5 : n < 1 ∨ (1 ≤ n ∧ 20000 < n) ∨ (1 ≤ n ∧ n ≤ 20000 ∧ step < 1) ∨ (1 ≤ n ∧ n ≤ 20000 ∧ 1 ≤ step ∧ 500 < step) ∨ (1 ≤ n ∧ n ≤ 20000 ∧ 1 ≤ step ∧ step ≤ 500 ∧ k < 0) := by omega
  clear h
  rcases h5 with h | ⟨h1, h2⟩ | ⟨h1, h2, h3⟩ | ⟨h1, h2, h3, h4⟩ | ⟨h1, h2, h3, h4, h5⟩
  all_goals
    go_enter Tryd.func8, Tryd.ntmps8
    go_wp2_with fail
    refine (known_any _ HT.out).mono ?_
    rintro e w1 ⟨rfl, hC⟩
    go_wp2
    go_ret
    exact ⟨rfl, hC⟩

set_option maxHeartbeats 2000000 in
theorem long_in (n step k : Nat) (w : World) (ht : Tab w) (h1 : 1 ≤ n) (h2 : n ≤ 20000) (h3 : 1 ≤ step) (h4 : step ≤ 500) (hk : k ≤ 9223372036854775807) :
    Calls Tryd.prog 8 #[.int .i64 n, .int .i64 step, .int .i64 k] w fun e w' => e = .returned (.bool true) ∧ Ch (fun _ => False) w w' := by
  have HT := Bx.mk ht
  obtain ⟨m, hm⟩ : ∃ m, upC step n = m := ⟨_, rfl⟩
  have hmn : m ≤ n := by
    rcases Nat.lt_or_ge n m with h | h
    · have := (lt_upC (show 0 < step by omega) n n).2 (by omega)
      have := Nat.mul_le_mul_left n h3
      omega
    · exact h
  have HM := Bx.mk hm
  clear ht hm
  go_enter Tryd.func8, Tryd.ntmps8
  go_wp2_with fail
  go_loopw [7, 8] (fun v i wr => ∃ j : Nat, j ≤ m ∧ i = .int .i64 ((j * step : Nat) : Int) ∧ wr.ownsRow 0 3 1 v j ((onesL step j).map (Value.int .i64)) ∧ (∀ g, v.ownBlock = some g → w.heap.size ≤ g) ∧ Ch (fun _ => False) w wr) (fun _ i _ => m * step + step - (intOf i).toNat)
  case atStart => exact ⟨0, Nat.zero_le _, by simp, World.ownsRow_nil _ _ _ _, fun g hg => by simp [Value.ownBlock] at hg, Ch.refl _ _⟩
  case round =>
    obtain ⟨j, hj, rfl, ho, hg, hC⟩ := hrel
    obtain ⟨x, hx⟩ : ∃ x, j * step = x := ⟨_, rfl⟩
    rw [hx]
    have hjx := lt_upC (show 0 < step by omega) n j
    rw [hx, HM.out] at hjx
    by_cases hlt : x < n
    · have hjm := hjx.1 hlt
      have HX := Bx.mk hx
      have HC := Bx.mk hC
      have HO := Bx.mk ho
      have HG := Bx.mk hg
      obtain ⟨A', c', rfl, _, _⟩ := own_shape ho
      clear ho hg hC hjx hx
      go_wp2_with (at_builtin; refine wp_app rfl (.tmp 36) (.tmp 38) elemI rfl rfl (HO.out.alloc _) rfl (Vs.one _ _ _) ?c1 ?c2 ?c3 ?_)
      case c1 => intro u hu; simp at hu; subst hu; rfl
      case c2 => omega
      case c3 => omega
      intro v' w1 ho1 hg1 hb1
      have hsz := HC.out.size
      have HO1 : Bx (w1.ownsRow 0 3 1 v' (j + 1) ((onesL step (j + 1)).map (Value.int .i64))) := ⟨by rw [onesL_succ, HX.out, List.map_append]; exact ho1⟩
      have HC1 := Bx.mk ((HC.out.alloc (.cells #[.int .i64 x] 3)).grown hg1 (fun k hk => .inr (HG.out k hk)))
      have HG1 : Bx (∀ g, v'.ownBlock = some g → w.heap.size ≤ g) := ⟨fun g hg => by
        rcases hb1 with h | h
        · exact HG.out g (by rw [← h]; exact hg)
        · rw [h] at hg
          injection hg with hg
          omega⟩
      have hxs : (j + 1) * step = x + step := by rw [Nat.add_mul, Nat.one_mul, HX.out]
      have HXS := Bx.mk hxs
      have hms : x + step ≤ m * step := by
        have := Nat.mul_le_mul_right step (show j + 1 ≤ m by omega)
        omega
      clear ho1 hg1 hb1 hxs
      go_wp2
      go_roundw
      case rel => exact ⟨j + 1, by omega, by rw [HXS.out]; go_num, HO1.out, HG1.out, HC1.out⟩
      case measure => simp [intOf]; omega
    · obtain rfl : j = m := by omega
      clear hjx hx
      have HC := Bx.mk hC
      have HO := Bx.mk ho
      obtain ⟨A', c', rfl, _, _⟩ := own_shape ho
      clear ho hg hC
      go_wp2_with fail
      refine (new_any n (onesL step j) A' j c' _ _ (Sl.of_own HO.out) (by omega)).mono ?_
      rintro e w1 ⟨bv, rfl, hv, hC1⟩
      have hcnt := long_count (show 0 < step by omega) h2 n (Nat.le_refl _)
      rw [List.take_of_length_le (by rw [long_len h2]; exact Nat.le_refl _), HM.out] at hcnt
      have hcnt2 := long_count (show 0 < step by omega) h2 (n / 2) (by omega)
      rw [HM.out] at hcnt2
      have hsl := long_sel (k := k) (show 0 < step by omega) h2
      rw [HM.out] at hsl
      generalize newL n (onesL step j) = L at *
      have HV := Bx.mk hv
      have HC1 := Bx.mk (HC.out.trans hC1 (fun _ _ h => h))
      have CN : Bx (((L.count true : Nat) : Int) = j) := ⟨by rw [hcnt]⟩
      obtain ⟨u, hue⟩ : ∃ u, upC step (n / 2) = u := ⟨_, rfl⟩
      have HU := Bx.mk hue
      have CM : Bx (((rk L true ((n : Int) / 2) : Nat) : Int) = (u : Int)) := ⟨by rw [show (n : Int) / 2 = ((n / 2 : Nat) : Int) by omega, rk_nat, hcnt2, hue]⟩
      clear hv hC1 hcnt hcnt2 hue
      by_cases hk2 : k < j
      · rw [if_pos hk2] at hsl
        obtain ⟨p, hp⟩ : ∃ p, k * step = p := ⟨_, rfl⟩
        have hpx : p ≤ 20000 := by
          have := (lt_upC (show 0 < step by omega) n k).2 (by rw [HM.out]; exact hk2)
          omega
        have hwk : wrap64 ((k : Int) * (step : Int)) = (p : Int) := by rw [show (k : Int) * (step : Int) = ((k * step : Nat) : Int) by push_cast; rfl, hp]; unfold wrap64; omega
        rw [hp] at hsl
        have SL := Bx.mk hsl
        clear hsl hp
        go_wp2_with fail
        rw [hwk]
        clear hwk
        have g1 : IntKind.i64.wrap ((n : Int) / 2) = (n : Int) / 2 := IntWalk.i64_in _ (by omega)
        have g2 : IntKind.i64.wrap ((n : Int) / 2 + (step : Int)) = (n : Int) / 2 + (step : Int) := IntWalk.i64_in _ (by omega)
        have g3 : IntKind.i64.wrap ((n : Int) / 2 + (step : Int) - 1) = (n : Int) / 2 + (step : Int) - 1 := IntWalk.i64_in _ (by omega)
        have g4 : ((step : Int) == 0) = false := by rw [beq_eq_false_iff_ne]; omega
        have g5 : ¬ (step : Int) = 0 := by omega
        have g6 : ¬ step = 0 := by omega
        have g7 : ((p : Int) == (p : Int)) = true := by simp
        have g8 : ((n : Int) / 2 + (step : Int) - 1) / (step : Int) = (u : Int) := by rw [← HU.out]; unfold upC; rw [show (n : Int) / 2 + (step : Int) - 1 = ((n / 2 + step - 1 : Nat) : Int) by omega]; rfl
        have g9 : ((n : Int) / 2 + (step : Int) - 1).tdiv (step : Int) = (u : Int) := by rw [Int.tdiv_eq_ediv_of_nonneg (by omega)]; exact g8
        have hu : u ≤ 40000 := by
          rw [← HU.out]
          unfold upC
          exact Nat.le_trans (Nat.div_le_self _ _) (by omega)
        have g10 : IntKind.i64.wrap (u : Int) = (u : Int) := IntWalk.i64_in _ (by omega)
        go_region_held3 (fun w' => True) (first | go_keep | trivial) (first | (go_at_call 20; refine (ones_val bv L j _ (by exact HV.out) CN.out).mono ?_; rintro e w' ⟨rfl, rfl⟩) | (go_at_call 16; refine (select_val bv L true k p _ (by exact HV.out) ((HT.out.keep HC1.out).keep ((Ch.refl (fun _ => False) _).drew)) SL.out).mono ?_; rintro e w2 ⟨rfl, hC2⟩; have hv2 := Vec.keep (show Vec w1.drew _ bv L from HV.out) hC2) | (go_at_call 18; refine (rank_val bv L true ((n : Int) / 2) u _ hv2 CM.out).mono ?_; rintro e w' ⟨rfl, rfl⟩) | (go_at_call 13; refine (known_any _ (((HT.out.keep HC1.out).keep ((Ch.refl (fun _ => False) _).drew)).keep hC2)).mono ?_; rintro e w3 ⟨rfl, hC3⟩))
        go_wp2
        go_ret
        exact ⟨rfl, (HC1.out.drew.trans hC2 (fun _ _ h => h)).trans hC3 (fun _ _ h => h)⟩
      · rw [if_neg hk2] at hsl
        have SL := Bx.mk hsl
        clear hsl
        go_wp2_with fail
        have g1 : IntKind.i64.wrap ((n : Int) / 2) = (n : Int) / 2 := IntWalk.i64_in _ (by omega)
        have g2 : IntKind.i64.wrap ((n : Int) / 2 + (step : Int)) = (n : Int) / 2 + (step : Int) := IntWalk.i64_in _ (by omega)
        have g3 : IntKind.i64.wrap ((n : Int) / 2 + (step : Int) - 1) = (n : Int) / 2 + (step : Int) - 1 := IntWalk.i64_in _ (by omega)
        have g4 : ((step : Int) == 0) = false := by rw [beq_eq_false_iff_ne]; omega
        have g5 : ¬ (step : Int) = 0 := by omega
        have g6 : ¬ step = 0 := by omega
        have g8 : ((n : Int) / 2 + (step : Int) - 1) / (step : Int) = (u : Int) := by rw [← HU.out]; unfold upC; rw [show (n : Int) / 2 + (step : Int) - 1 = ((n / 2 + step - 1 : Nat) : Int) by omega]; rfl
        have g9 : ((n : Int) / 2 + (step : Int) - 1).tdiv (step : Int) = (u : Int) := by rw [Int.tdiv_eq_ediv_of_nonneg (by omega)]; exact g8
        have hu : u ≤ 40000 := by
          rw [← HU.out]
          unfold upC
          exact Nat.le_trans (Nat.div_le_self _ _) (by omega)
        have g10 : IntKind.i64.wrap (u : Int) = (u : Int) := IntWalk.i64_in _ (by omega)
        go_region_held3 (fun w' => True) (first | go_keep | trivial) (first | (go_at_call 20; refine (ones_val bv L j _ (by exact HV.out) CN.out).mono ?_; rintro e w' ⟨rfl, rfl⟩) | (go_at_call 16; refine (select_val bv L true k (-1) _ (by exact HV.out) ((HT.out.keep HC1.out).keep ((Ch.refl (fun _ => False) _).drew)) SL.out).mono ?_; rintro e w2 ⟨rfl, hC2⟩; have hv2 := Vec.keep (show Vec w1.drew _ bv L from HV.out) hC2) | (go_at_call 18; refine (rank_val bv L true ((n : Int) / 2) u _ hv2 CM.out).mono ?_; rintro e w' ⟨rfl, rfl⟩) | (go_at_call 13; refine (known_any _ (((HT.out.keep HC1.out).keep ((Ch.refl (fun _ => False) _).drew)).keep hC2)).mono ?_; rintro e w3 ⟨rfl, hC3⟩))
        go_wp2
        go_ret
        exact ⟨rfl, (HC1.out.drew.trans hC2 (fun _ _ h => h)).trans hC3 (fun _ _ h => h)⟩

theorem long_law (n step k : Int) (w : World) (ht : Tab w) (hk : k ≤ 9223372036854775807) :
    Calls Tryd.prog 8 #[.int .i64 n, .int .i64 step, .int .i64 k] w fun e w' => e = .returned (.bool true) ∧ Ch (fun _ => False) w w' := by
  by_cases h : n < 1 ∨ 20000 < n ∨ step < 1 ∨ 500 < step ∨ k < 0
  · exact long_out n step k w ht h
  · obtain ⟨a, rfl⟩ : ∃ a : Nat, n = a := ⟨n.toNat, by omega⟩
    obtain ⟨b, rfl⟩ : ∃ b : Nat, step = b := ⟨step.toNat, by omega⟩
    obtain ⟨c, rfl⟩ : ∃ c : Nat, k = c := ⟨k.toNat, by omega⟩
    exact long_in a b c w ht (by omega) (by omega) (by omega) (by omega) (by omega)
theorem wf_i64 {z : Int} (h : (Lit.int .i64 z).wf = true) : z ≤ 9223372036854775807 := by
  simp [Lit.wf, IntKind.min, IntKind.max, IntKind.signed, IntKind.bits] at h
  omega
end Go.Proofs.YtaglgmgpifmkdaaDoor
