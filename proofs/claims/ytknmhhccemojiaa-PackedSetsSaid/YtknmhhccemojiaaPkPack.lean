/-
  The contracts of widest, Pack, check, New, behind, From.
-/
import Derived.Test.YtknmhhccemojiaaPkSet
import Derived.Test.YtknmhhccemojiaaPkLen
namespace Go.Proofs.Ytknmhhccemojiaa
open Go.RowKit Go.Oct Go.Pk

theorem len64_is (x b : Nat) (w : World) (hx : x < 18446744073709551616) (hb : Lib.bitLen x = b) :
    Calls Try.prog 36 #[.int .u64 x] w fun e w' => e = .returned (.int .i64 b) ∧ w = w' := by
  subst hb
  have h := len64_int (x : Int) w (by omega) (by omega)
  rwa [Int.toNat_natCast] at h

theorem getD_some {l : List Nat} {k : Nat} (h : k < l.length) : l[k]? = some (l.getD k 0) := by
  rw [List.getD_eq_getElem?_getD, List.getElem?_eq_getElem h]
  rfl
theorem allOr_64 {l : List Nat} (h : ∀ x ∈ l, x < 18446744073709551616) : allOr l < 18446744073709551616 := (allOr_lt l 64).2 h
theorem take_64 {l : List Nat} (h : ∀ x ∈ l, x < 18446744073709551616) (k : Nat) : ∀ x ∈ l.take k, x < 18446744073709551616 := fun x hx => h x (List.mem_of_mem_take hx)
theorem getD_64 {l : List Nat} (h : ∀ x ∈ l, x < 18446744073709551616) (k : Nat) : l.getD k 0 < 18446744073709551616 := by
  rw [List.getD_eq_getElem?_getD]
  rcases Nat.lt_or_ge k l.length with h1 | h1
  · rw [List.getElem?_eq_getElem h1]
    exact h _ (List.getElem_mem h1)
  · rw [List.getElem?_eq_none h1]
    decide
set_option maxHeartbeats 400000 in
theorem widest_any (l : List Nat) (A : Option Addr) (c : Nat) (w : World) (F : Nat → Prop) (hs : Sn w F A l) (hl : l.length ≤ 1048576) (h64 : ∀ x ∈ l, x < 18446744073709551616) :
    Calls Try.prog 25 #[.slice A l.length c] w fun e w' => e = .returned (.int .i64 (widN l : Nat)) ∧ w = w' := by
  have HS := Bx.mk hs
  have H64 := Bx.mk h64
  clear hs h64
  go_enter Try.func25, Try.ntmps25
  go_wp2
  go_loop [3, 5, 8] (fun x _ y => ∃ k q : Nat, k ≤ l.length ∧ y = .int .i64 k ∧ x = .int .u64 q ∧ allOr (l.take k) = q) (fun _ _ y => l.length - (intOf y).toNat)
  case atStart => exact ⟨0, 0, Nat.zero_le _, rfl, rfl, rfl⟩
  case round =>
    obtain ⟨k, q, hk, rfl, rfl, hq⟩ := hrel
    have hq64 : q < 18446744073709551616 := by rw [← hq]; exact allOr_64 (take_64 H64.out k)
    by_cases h1 : k < l.length
    · obtain ⟨b, off, rfl, _, hc⟩ := Sn.at_ HS.out h1
      have hx := getD_some h1
      have hx64 := getD_64 H64.out k
      have hn := allOr_next hx
      rw [hq] at hn
      generalize l.getD k 0 = x at *
      obtain ⟨o, ho⟩ : ∃ o, q ||| x = o := ⟨_, rfl⟩
      rw [ho] at hn
      have hor := or_nat ho hq64 hx64
      have HN := Bx.mk hn
      clear hq hx hn ho
      go_wp2
      go_round
      case rel => exact ⟨k + 1, o, by omega, by go_num, rfl, HN.out⟩
      case measure => simp [intOf]; omega
    · rw [List.take_of_length_le (by omega)] at hq
      obtain ⟨m, hm⟩ : ∃ m, Lib.bitLen q = m := ⟨_, rfl⟩
      have hm64 : m ≤ 64 := by rw [← hm]; exact (bitLen_le 64 q 64 hq64).2 hq64
      have hwid : widN l = max m 1 := by unfold widN; rw [hq, hm]
      have HM := Bx.mk hm
      have HW := Bx.mk hwid
      clear hq hm hwid
      go_wp2_with fail
      refine (len64_is q m _ hq64 HM.out).mono ?_
      rintro e w' ⟨rfl, rfl⟩
      go_wp2
      go_ret
      exact ⟨ret_int (by rw [HW.out]; omega), rfl⟩

/-- The first k numbers of the row, and noughts. -/
def upL (l : List Nat) (k : Nat) : List Nat := l.take k ++ List.replicate (l.length - k) 0
theorem upL_zero (l : List Nat) : upL l 0 = List.replicate l.length 0 := by simp [upL]
theorem upL_all (l : List Nat) : upL l l.length = l := by simp [upL]
theorem upL_len {l : List Nat} {k : Nat} (h : k ≤ l.length) : (upL l k).length = l.length := by
  simp [upL]
  omega
theorem upL_next {l : List Nat} {k x : Nat} (h : l[k]? = some x) : (upL l k).set k x = upL l (k + 1) := by
  obtain ⟨hk, hx⟩ := List.getElem?_eq_some_iff.1 h
  unfold upL
  have e : l.length - k = (l.length - (k + 1)) + 1 := by omega
  rw [e, List.replicate_succ, List.set_append, if_neg (by simp; omega), List.take_add_one, h]
  have e2 : k - (l.take k).length = 0 := by rw [List.length_take]; omega
  rw [e2]
  simp
theorem blank_is (wd n : Nat) (wI nI : Int) (w : World) (h1 : 1 ≤ wd) (h2 : wd ≤ 64) (hn : n ≤ 1048576) (e1 : wI = wd) (e2 : nI = n) :
    Calls Try.prog 24 #[.int .i64 wI, .int .i64 nI] w fun e w' => e = .returned (.pointer (some ⟨w.heap.size + 1, 0, none⟩)) ∧ Raw w' (w.heap.size + 1) w.heap.size wd n (List.replicate (need wd n) 0) ∧ Ch (fun _ => False) w w' := by
  subst e1 e2
  exact blank_any wd n w h1 h2 hn
/-- What a maker leaves: a new Array that is the row l, wd digits each. -/
def Made (wd : Nat) (l : List Nat) (w : World) (e : Ending) (w' : World) : Prop := e = .returned (.pointer (some ⟨w.heap.size + 1, 0, none⟩)) ∧ (∃ ws, Raw w' (w.heap.size + 1) w.heap.size wd l.length ws ∧ Pk ws wd l) ∧ Ch (fun _ => False) w w'
set_option maxHeartbeats 1000000 in
theorem pack_any (l : List Nat) (A : Option Addr) (c : Nat) (w : World) (F : Nat → Prop) (hs : Sn w F A l) (hl : l.length ≤ 1048576) (hc : l.length ≤ c) (h64 : ∀ x ∈ l, x < 18446744073709551616) :
    Calls Try.prog 9 #[.slice A l.length c] w (Made (widN l) l w) := by
  have hwid := wid_is h64
  have hlo := hwid.lo
  have hhi := hwid.hi
  have HF := Bx.mk hwid.fit
  have HS := Bx.mk hs
  have H64 := Bx.mk h64
  have HWID : Bx (widN l = widN l) := ⟨rfl⟩
  generalize hw : widN l = wd at *
  have HW := Bx.mk hw
  have hmin : min (l.length : Int) 1048576 = l.length := by omega
  clear hs h64 hw hwid HWID
  go_enter Try.func9, Try.ntmps9
  go_wp2_with fail
  refine (widest_any l A c _ F HS.out hl H64.out).mono ?_
  rintro e w' ⟨he, rfl⟩
  rw [HW.out] at he
  subst he
  go_wp2_with fail
  refine (blank_is wd l.length _ _ _ hlo hhi hl rfl rfl).mono ?_
  rintro e w1 ⟨rfl, hr, hC⟩
  have HR := Bx.mk hr
  have HC := Bx.mk hC
  clear hr hC
  go_wp2
  go_loopw [4, 5, 18] (fun _ _ i wr => ∃ (k : Nat) (ws : List Nat), k ≤ l.length ∧ i = .int .i64 k ∧ Raw wr (w.heap.size + 1) w.heap.size wd l.length ws ∧ Pk ws wd (upL l k) ∧ Ch (fun _ => False) w wr) (fun _ _ i _ => l.length - (intOf i).toNat)
  case atStart => exact ⟨0, _, Nat.zero_le _, rfl, HR.out, by rw [upL_zero]; exact pk_blank l.length hlo hhi, HC.out⟩
  case round =>
    obtain ⟨k, ws, hk, rfl, hr, hp, hC⟩ := hrel
    by_cases hlt : k < l.length
    · obtain ⟨b, off, rfl, _, hcx⟩ := Sn.at_ (Sl.ch HS.out hC (fun _ _ _ h => h)) hlt
      have hx := getD_some hlt
      have hxw := HF.out k
      have hn := upL_next hx
      have hul := upL_len hk
      have hul2 := getD_64 H64.out k
      generalize l.getD k 0 = x at *
      have HRR := Bx.mk hr
      have HP := Bx.mk hp
      have HCC := Bx.mk hC
      have HN := Bx.mk hn
      have HXW := Bx.mk hxw
      have HUL := Bx.mk hul
      clear hr hp hC hn hx hxw hul
      go_wp2_with fail
      refine (put_any _ _ wd l.length ws _ k x _ HRR.out HP.out HUL.out hlt HXW.out).mono ?_
      rintro e w2 ⟨rfl, ⟨ws2, hr2, hp2⟩, hC2⟩
      rw [HN.out] at hp2
      have HR2 := Bx.mk hr2
      have HP2 := Bx.mk hp2
      have HC2 := Bx.mk (HCC.out.trans hC2 (fun i hi (e : i = w.heap.size) => absurd hi (by omega)))
      clear hr2 hp2 hC2
      go_wp2
      go_roundw
      case rel => exact ⟨k + 1, ws2, by omega, by go_num, HR2.out, HP2.out, HC2.out⟩
      case measure => simp [intOf]; omega
    · obtain rfl : k = l.length := by omega
      rw [upL_all] at hp
      have HP := Bx.mk hp
      have HC1 := Bx.mk hC
      have HRR := Bx.mk hr
      clear hp hC hr
      go_wp2
      go_ret
      exact ⟨rfl, ⟨ws, HRR.out, HP.out⟩, HC1.out⟩

/-- The error of a row that may not be. -/
def chk (wd n : Int) : Int := if wd < 1 ∨ 64 < wd ∨ n < 0 then 1 else if 1048576 < n then 5 else 0
theorem check_any (wd n : Int) (w : World) : Calls Try.prog 29 #[.int .i64 wd, .int .i64 n] w fun e w' => e = .returned (.int .i64 (chk wd n)) ∧ w = w' := by
  by_cases h1 : wd < 1
  · have hc : chk wd n = 1 := by unfold chk; rw [if_pos (.inl h1)]
    rw [hc]
    go_enter Try.func29, Try.ntmps29
    go_wp2
    go_ret
    exact ⟨rfl, rfl⟩
  by_cases h2 : 64 < wd
  · have hc : chk wd n = 1 := by unfold chk; rw [if_pos (.inr (.inl h2))]
    rw [hc]
    go_enter Try.func29, Try.ntmps29
    go_wp2
    go_ret
    exact ⟨rfl, rfl⟩
  by_cases h3 : n < 0
  · have hc : chk wd n = 1 := by unfold chk; rw [if_pos (.inr (.inr h3))]
    rw [hc]
    go_enter Try.func29, Try.ntmps29
    go_wp2
    go_ret
    exact ⟨rfl, rfl⟩
  by_cases h4 : 1048576 < n
  · have hc : chk wd n = 5 := by unfold chk; rw [if_neg (by omega), if_pos h4]
    rw [hc]
    go_enter Try.func29, Try.ntmps29
    go_wp2
    go_ret
    exact ⟨rfl, rfl⟩
  · have hc : chk wd n = 0 := by unfold chk; rw [if_neg (by omega), if_neg h4]
    rw [hc]
    go_enter Try.func29, Try.ntmps29
    go_wp2
    go_ret
    exact ⟨rfl, rfl⟩
theorem chk_ok {wd n : Int} (h : chk wd n = 0) : ∃ a b : Nat, wd = a ∧ n = b ∧ 1 ≤ a ∧ a ≤ 64 ∧ b ≤ 1048576 := by
  unfold chk at h
  split at h
  · omega
  · split at h
    · omega
    · exact ⟨wd.toNat, n.toNat, by omega, by omega, by omega, by omega, by omega⟩
theorem new_bad (wd n e0 : Int) (w : World) (h : chk wd n = e0) (h0 : e0 ≠ 0) :
    Calls Try.prog 13 #[.int .i64 wd, .int .i64 n] w fun e w' => e = .returned (.tuple #[.pointer none, .int .i64 e0]) ∧ w = w' := by
  have H := Bx.mk h
  have hb : (e0 != 0) = true := by simpa using h0
  clear h
  go_enter Try.func13, Try.ntmps13
  go_wp2_with fail
  refine (check_any wd n _).mono ?_
  rintro e w' ⟨he, rfl⟩
  rw [H.out] at he
  subst he
  go_wp2
  go_returns
  exact ⟨rfl, rfl⟩
theorem new_ok (wd n : Nat) (w : World) (h1 : 1 ≤ wd) (h2 : wd ≤ 64) (hn : n ≤ 1048576) :
    Calls Try.prog 13 #[.int .i64 wd, .int .i64 n] w fun e w' => e = .returned (.tuple #[.pointer (some ⟨w.heap.size + 1, 0, none⟩), .int .i64 0]) ∧ (∃ ws, Raw w' (w.heap.size + 1) w.heap.size wd n ws ∧ Pk ws wd (List.replicate n 0)) ∧ Ch (fun _ => False) w w' := by
  have hc : chk wd n = 0 := by unfold chk; rw [if_neg (by omega), if_neg (by omega)]
  have H := Bx.mk hc
  clear hc
  go_enter Try.func13, Try.ntmps13
  go_wp2_with fail
  refine (check_any wd n _).mono ?_
  rintro e w' ⟨he, rfl⟩
  rw [H.out] at he
  subst he
  go_wp2_with fail
  refine (blank_is wd n _ _ _ h1 h2 hn rfl rfl).mono ?_
  rintro e w1 ⟨rfl, hr, hC⟩
  have HR := Bx.mk hr
  have HC := Bx.mk hC
  clear hr hC
  go_wp2
  go_returns
  exact ⟨rfl, ⟨_, HR.out, pk_blank n h1 h2⟩, HC.out⟩

/-- What stands behind the first m digits, in the word in which they end. -/
def tailN (ws : List Nat) (m : Nat) : Nat := ws.getD (m / 64) 0 / 2 ^ (m % 64)
theorem tailN_zero {ws : List Nat} {m : Nat} (hl : ws.length = (m + 63) / 64) (h : m % 64 = 0) : tailN ws m = 0 := by
  unfold tailN
  rw [List.getD_eq_getElem?_getD, List.getElem?_eq_none (by omega)]
  simp
theorem behind_any (ws : List Nat) (wd n : Nat) (A : Option Addr) (c : Nat) (w : World) (F : Nat → Prop) (hs : Sn w F A ws) (hw : wd ≤ 64) (hn : n ≤ 1048576) (hl : ws.length = need wd n) :
    Calls Try.prog 33 #[.int .i64 wd, .int .i64 n, .slice A ws.length c] w fun e w' => e = .returned (.int .u64 (tailN ws (wd * n) : Nat)) ∧ w = w' := by
  have hml := (need_le hw hn).2
  have hne := (need_le hw hn).1
  unfold need at hl hne
  obtain ⟨m, hm⟩ : ∃ m, wd * n = m := ⟨_, rfl⟩
  rw [hm] at hml hl hne
  rw [hm]
  have e1 : (wd : Int) * (n : Int) = (m : Int) := by rw [← hm]; push_cast; rfl
  have HM := Bx.mk hm
  have HS := Bx.mk hs
  clear hm hs
  by_cases h0 : m % 64 = 0
  · have hz := tailN_zero hl h0
    have HZ := Bx.mk hz
    clear hz
    go_enter Try.func33, Try.ntmps33
    go_wp2
    go_ret
    exact ⟨ret_int (by rw [HZ.out]; rfl), rfl⟩
  · obtain ⟨b, off, rfl, _, hc⟩ := Sn.at_ HS.out (k := m / 64) (by omega)
    have ht : tailN ws m = ws.getD (m / 64) 0 / 2 ^ (m % 64) := rfl
    generalize ws.getD (m / 64) 0 = x at *
    have HT := Bx.mk ht
    have hq : m / 64 = ws.length - 1 := by omega
    rw [hq] at hc
    obtain ⟨r, hr⟩ : ∃ r, m % 64 = r := ⟨_, rfl⟩
    have hr2 : (m : Int) % 64 = (r : Int) := by omega
    have hr64 : r < 64 := by omega
    have hr0 : r ≠ 0 := by omega
    have HR := Bx.mk hr
    have hl0 : 1 ≤ ws.length := by omega
    obtain ⟨k, hk⟩ : ∃ k, ws.length = k + 1 := ⟨ws.length - 1, by omega⟩
    rw [hk] at hc ⊢
    rw [Nat.add_sub_cancel] at hc
    have hkm : k < 1048576 := by omega
    clear hq h0 ht hr hl hk hl0 hne
    go_enter Try.func33, Try.ntmps33
    go_wp2
    go_ret
    exact ⟨ret_int (by rw [HT.out, div_cast, HR.out]), rfl⟩
theorem behind_is (ws : List Nat) (wd n t : Nat) (A : Option Addr) (c : Nat) (w : World) (F : Nat → Prop) (hs : Sn w F A ws) (hw : wd ≤ 64) (hn : n ≤ 1048576) (hl : ws.length = need wd n) (ht : tailN ws (wd * n) = t) :
    Calls Try.prog 33 #[.int .i64 wd, .int .i64 n, .slice A ws.length c] w fun e w' => e = .returned (.int .u64 t) ∧ w = w' := by
  subst ht
  exact behind_any ws wd n A c w F hs hw hn hl

/-- The error of words that are no row. -/
def frm (wd n : Int) (ws : List Nat) : Int := if chk wd n ≠ 0 then chk wd n else if ws.length ≠ need wd.toNat n.toNat ∨ tailN ws (wd.toNat * n.toNat) ≠ 0 then 3 else 0
theorem needed_is (wd n N : Nat) (w : World) (hw : wd ≤ 64) (hn : n ≤ 1048576) (hN : need wd n = N) :
    Calls Try.prog 32 #[.int .i64 wd, .int .i64 n] w fun e w' => e = .returned (.int .i64 N) ∧ w = w' := by
  subst hN
  exact needed_any wd n w hw hn
theorem from_bad (wd n e0 : Int) (V : Value) (w : World) (h : chk wd n = e0) (h0 : e0 ≠ 0) :
    Calls Try.prog 18 #[.int .i64 wd, .int .i64 n, V] w fun e w' => e = .returned (.tuple #[.pointer none, .int .i64 e0]) ∧ w = w' := by
  have H := Bx.mk h
  have hb : (e0 != 0) = true := by simpa using h0
  clear h
  go_enter Try.func18, Try.ntmps18
  go_wp2_with fail
  refine (check_any wd n _).mono ?_
  rintro e w' ⟨he, rfl⟩
  rw [H.out] at he
  subst he
  go_wp2
  go_returns
  exact ⟨rfl, rfl⟩
theorem from_len (ws : List Nat) (wd n : Nat) (A : Option Addr) (c : Nat) (w : World) (h1 : 1 ≤ wd) (h2 : wd ≤ 64) (hn : n ≤ 1048576) (hl : ws.length ≠ need wd n) :
    Calls Try.prog 18 #[.int .i64 wd, .int .i64 n, .slice A ws.length c] w fun e w' => e = .returned (.tuple #[.pointer none, .int .i64 3]) ∧ w = w' := by
  have hc : chk wd n = 0 := by unfold chk; rw [if_neg (by omega), if_neg (by omega)]
  have H := Bx.mk hc
  obtain ⟨N, hN⟩ : ∃ N, need wd n = N := ⟨_, rfl⟩
  rw [hN] at hl
  have HN := Bx.mk hN
  have hb : ((ws.length : Int) != (N : Int)) = true := by simpa using fun h : (ws.length : Int) = N => hl (by omega)
  clear hc hN
  go_enter Try.func18, Try.ntmps18
  go_wp2_with fail
  refine (check_any wd n _).mono ?_
  rintro e w' ⟨he, rfl⟩
  rw [H.out] at he
  subst he
  go_wp2_with fail
  refine (needed_is wd n N _ h2 hn HN.out).mono ?_
  rintro e w' ⟨rfl, rfl⟩
  go_wp2
  go_returns
  exact ⟨rfl, rfl⟩
theorem from_tail (ws : List Nat) (wd n : Nat) (A : Option Addr) (c : Nat) (w : World) (F : Nat → Prop) (hs : Sn w F A ws) (h1 : 1 ≤ wd) (h2 : wd ≤ 64) (hn : n ≤ 1048576) (hl : ws.length = need wd n) (ht : tailN ws (wd * n) ≠ 0) :
    Calls Try.prog 18 #[.int .i64 wd, .int .i64 n, .slice A ws.length c] w fun e w' => e = .returned (.tuple #[.pointer none, .int .i64 3]) ∧ w = w' := by
  have hc : chk wd n = 0 := by unfold chk; rw [if_neg (by omega), if_neg (by omega)]
  have H := Bx.mk hc
  have HS := Bx.mk hs
  have HL := Bx.mk hl
  obtain ⟨t, hT⟩ : ∃ t, tailN ws (wd * n) = t := ⟨_, rfl⟩
  rw [hT] at ht
  have HT := Bx.mk hT
  have hb : ((t : Int) != 0) = true := by simpa using ht
  clear hc hT hs hl
  go_enter Try.func18, Try.ntmps18
  go_wp2_with fail
  refine (check_any wd n _).mono ?_
  rintro e w' ⟨he, rfl⟩
  rw [H.out] at he
  subst he
  go_wp2_with fail
  refine (needed_is wd n ws.length _ h2 hn HL.out.symm).mono ?_
  rintro e w' ⟨rfl, rfl⟩
  go_wp2_with fail
  refine (behind_is ws wd n t A c _ F HS.out h2 hn HL.out HT.out).mono ?_
  rintro e w' ⟨rfl, rfl⟩
  go_wp2
  go_returns
  exact ⟨rfl, rfl⟩
set_option maxHeartbeats 1000000 in
theorem from_ok (ws : List Nat) (wd n : Nat) (A : Option Addr) (c : Nat) (w : World) (F : Nat → Prop) (hs : Sn w F A ws) (h1 : 1 ≤ wd) (h2 : wd ≤ 64) (hn : n ≤ 1048576) (hl : ws.length = need wd n) (ht : tailN ws (wd * n) = 0) (h64 : ∀ k, ws.getD k 0 < 18446744073709551616) :
    Calls Try.prog 18 #[.int .i64 wd, .int .i64 n, .slice A ws.length c] w fun e w' => e = .returned (.tuple #[.pointer (some ⟨w.heap.size + 1, 0, none⟩), .int .i64 0]) ∧ Raw w' (w.heap.size + 1) w.heap.size wd n ws ∧ Ch (fun _ => False) w w' := by
  have hc : chk wd n = 0 := by unfold chk; rw [if_neg (by omega), if_neg (by omega)]
  have H := Bx.mk hc
  have HS := Bx.mk hs
  have HL := Bx.mk hl
  have HT := Bx.mk ht
  have H64 := Bx.mk h64
  clear hc hs hl ht h64
  go_enter Try.func18, Try.ntmps18
  go_wp2_with fail
  refine (check_any wd n _).mono ?_
  rintro e w' ⟨he, rfl⟩
  rw [H.out] at he
  subst he
  go_wp2_with fail
  refine (needed_is wd n ws.length _ h2 hn HL.out.symm).mono ?_
  rintro e w' ⟨rfl, rfl⟩
  go_wp2_with fail
  refine (behind_is ws wd n 0 A c _ F HS.out h2 hn HL.out HT.out).mono ?_
  rintro e w' ⟨rfl, rfl⟩
  go_wp2_with fail
  refine (blank_is wd n _ _ _ h1 h2 hn rfl rfl).mono ?_
  rintro e w1 ⟨rfl, hr, hC⟩
  obtain ⟨g0, g1, g2⟩ := cells3 hr.blk
  rw [← HL.out, List.length_replicate] at g2
  have hown := hr.own
  rw [← HL.out, List.length_replicate] at hown
  have hv := Sn.vs (F := F) (A := A) (xs := ws) (Sl.ch HS.out hC (fun _ _ _ h => h))
  have HR := Bx.mk hr
  have HC := Bx.mk hC
  have HO := Bx.mk hown
  have HV := Bx.mk hv
  clear hr hC hown hv
  go_wp2_with (refine wp_copy (o := ⟨some 37, _, _, _, _, _⟩) rfl (.tmp 35) (.tmp 36) elem64 rfl rfl HO.out rfl HV.out ?c1 ?_)
  case c1 => exact nats_cells ws
  intro w2 hown2 hC2
  have hblk := HR.out.blk
  rw [← HL.out, List.length_replicate, ← hC2.block _ (Array.getElem?_eq_some_iff.1 hblk).1 (by omega)] at hblk
  have HR2 : Bx (Raw w2 (w.heap.size + 1) w.heap.size wd n ws) := ⟨⟨hblk, hown2, by omega, h1, h2, hn, HL.out, H64.out⟩⟩
  have HC2 := Bx.mk (HC.out.trans hC2 (fun i hi (e : i = w.heap.size) => absurd hi (by omega)))
  clear hown2 hC2 hblk
  go_wp2
  go_returns
  exact ⟨rfl, HR2.out, HC2.out⟩
end Go.Proofs.Ytknmhhccemojiaa
