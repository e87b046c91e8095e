/-
  The contracts of the document's answers haystackref3.Pack, New, Set; a row's copy by append.
-/
import Derived.Test.YtknmhhccemojiaaPkRefs
namespace Go.Proofs.Ytknmhhccemojiaa
open Go.RowKit Go.Oct Go.Pk

/-- What append of a row to an empty one leaves. -/
theorem clone_post {w w1 : World} {v' : Value} {l : List Nat} (ho : w1.ownsRow 0 25 1 v' l.length (l.map fun x : Nat => Value.int .u64 x)) (hg : (w.alloc (.cells #[] 25)).grownBy w1 (Value.slice (some ⟨w.heap.size, 0, none⟩) 0 0).ownBlock)
    (hb : v'.ownBlock = (Value.slice (some ⟨w.heap.size, 0, none⟩) 0 0).ownBlock ∨ v'.ownBlock = some (w.heap.size + 1)) :
    ∃ g c', v' = .slice (some ⟨g, 0, none⟩) l.length c' ∧ Ow w1 g c' l ∧ w.heap.size ≤ g ∧ l.length ≤ c' ∧ c' ≤ maxLen ∧ Ch (fun _ => False) w w1 := by
  have hC : Ch (fun _ => False) w w1 := ((Ch.refl (fun _ => False) w).alloc (.cells #[] 25)).grown hg (fun k hk => .inr (by simp [Value.ownBlock] at hk; omega))
  have ho2 := ho.2
  rcases ho2 with ⟨rfl, _⟩ | ⟨g, cap, cur, rfl, _, _, h1, h2, _⟩
  · rcases hb with hb | hb <;> simp [Value.ownBlock] at hb
  · refine ⟨g, cap, rfl, ⟨ho⟩, ?_, h1, h2, hC⟩
    rcases hb with hb | hb
    · simp [Value.ownBlock] at hb
      omega
    · simp [Value.ownBlock] at hb
      omega
theorem own_none (w : World) : (w.alloc (.cells #[] 25)).ownsRow 0 25 1 (.slice (some ⟨w.heap.size, 0, none⟩) 0 0) 0 [] := World.ownsRow_made w #[] 0 (Nat.zero_le _) (by unfold maxLen; omega) rfl
theorem Sn.alloc {w : World} {F : Nat → Prop} {A : Option Addr} {xs : List Nat} (h : Sn w F A xs) (o : Obj) : Sn (w.alloc o) F A xs := Sl.alloc h o
theorem Sn.keep {w w' : World} {F : Nat → Prop} {A : Option Addr} {xs : List Nat} (h : Sn w F A xs) (hc : Ch (fun _ => False) w w') : Sn w' F A xs := Sl.ch h hc (fun _ _ _ h => h)

set_option maxHeartbeats 1000000 in
theorem ref_Pack (l : List Nat) (A : Option Addr) (c : Nat) (w : World) (F : Nat → Prop) (hs : Sn w F A l) (hl : l.length ≤ 1048576) (h64 : ∀ x ∈ l, x < 18446744073709551616) :
    Calls Try.prog 10 #[.slice A l.length c] w fun e w' => ∃ g c', e = .returned (.tuple #[.int .i64 (widN l : Nat), .slice (some ⟨g, 0, none⟩) l.length c']) ∧ Ow w' g c' l ∧ l.length ≤ c' ∧ c' ≤ maxLen ∧ Ch (fun _ => False) w w' := by
  have HS := Bx.mk hs
  have H64 := Bx.mk h64
  have HA := Bx.mk (own_none w)
  have HV := Bx.mk (hs.alloc (.cells #[] 25)).vs
  clear hs h64
  go_enter Try.func10, Try.ntmps10
  go_wp2
  go_loop [4, 5] (fun a i => ∃ k b : Nat, k ≤ l.length ∧ i = .int .i64 k ∧ a = .int .i64 b ∧ WUp l k k b) (fun _ i => l.length - (intOf i).toNat)
  case atStart => exact ⟨0, 1, Nat.zero_le _, rfl, rfl, wup_zero l⟩
  case round =>
    obtain ⟨k, b, hk, rfl, rfl, hW⟩ := hrel
    by_cases hlt : k < l.length
    · have hx := getD_some hlt
      have HW := Bx.mk (wup_open hW hx)
      have HX := Bx.mk hx
      have hx64 := getD_64 H64.out k
      obtain ⟨bb, off, rfl, _, hcx⟩ := Sn.at_ HS.out hlt
      generalize l.getD k 0 = x at *
      clear hx hW
      go_wp2
      go_loop [4] (fun a => ∃ d : Nat, a = .int .i64 d ∧ WUp l k (k + 1) d) (fun a => 64 - (intOf a).toNat)
      case atStart => exact ⟨b, rfl, HW.out⟩
      case round =>
        obtain ⟨d, rfl, hD⟩ := hrel
        have hd64 := hD.hi
        by_cases hf : x < 2 ^ d
        · have HF : Bx (decide (x < 2 ^ d) = true) := ⟨by simpa using hf⟩
          have HD := Bx.mk (wup_shut hD HX.out hf)
          clear hD hf
          go_wp2_with fail
          refine (ref_fits d x true _ hd64 hx64 HF.out).mono ?_
          rintro e w' ⟨rfl, rfl⟩
          go_wp2
          go_round
          case rel => exact ⟨k + 1, d, by omega, by go_num, rfl, HD.out⟩
          case measure => simp [intOf]; omega
        · have HF : Bx (decide (x < 2 ^ d) = false) := ⟨by simpa using hf⟩
          obtain ⟨hd1, hd2⟩ := wup_more hD HX.out hx64 (by omega)
          have HD := Bx.mk hd1
          clear hD hf hd1
          go_wp2_with fail
          refine (ref_fits d x false _ hd64 hx64 HF.out).mono ?_
          rintro e w' ⟨rfl, rfl⟩
          go_wp2
          go_round
          case rel => exact ⟨d + 1, by go_num, HD.out⟩
          case measure => simp [intOf]; omega
    · obtain rfl : k = l.length := by omega
      have hb := wup_all hW H64.out
      have HB := Bx.mk hb
      have hb64 := hW.hi
      clear hb hW
      go_wp2_with (at_builtin; refine wp_app rfl (.tmp 27) (.tmp 28) elem64 rfl rfl HA.out rfl HV.out ?c1 ?c2 ?c3 ?_)
      case c1 => intro a _; rfl
      case c2 => omega
      case c3 => omega
      intro v' w1 ho1 hg1 hb1
      obtain ⟨g, c', rfl, hO, hgs, hc1, hc2, hC⟩ := clone_post ho1 hg1 hb1
      have HO := Bx.mk hO
      have HC := Bx.mk hC
      clear ho1 hg1 hb1 hO hC
      go_wp2
      go_returns
      exact ⟨g, c', by rw [← HB.out]; rfl, HO.out, hc1, hc2, HC.out⟩

theorem ref_new_bad (wd n e0 : Int) (w : World) (h : chk wd n = e0) (h0 : e0 ≠ 0) :
    Calls Try.prog 14 #[.int .i64 wd, .int .i64 n] w fun e w' => e = .returned (.tuple #[.slice none 0 0, .int .i64 e0]) ∧ w = w' := by
  by_cases h1 : wd < 1
  · obtain rfl : 1 = e0 := by rw [← h]; unfold chk; rw [if_pos (.inl h1)]
    clear h
    go_enter Try.func14, Try.ntmps14
    go_wp2
    go_returns
    exact ⟨rfl, rfl⟩
  by_cases h2 : 64 < wd
  · obtain rfl : 1 = e0 := by rw [← h]; unfold chk; rw [if_pos (.inr (.inl h2))]
    clear h
    go_enter Try.func14, Try.ntmps14
    go_wp2
    go_returns
    exact ⟨rfl, rfl⟩
  by_cases h3 : n < 0
  · obtain rfl : 1 = e0 := by rw [← h]; unfold chk; rw [if_pos (.inr (.inr h3))]
    clear h
    go_enter Try.func14, Try.ntmps14
    go_wp2
    go_returns
    exact ⟨rfl, rfl⟩
  by_cases h4 : 1048576 < n
  · obtain rfl : 5 = e0 := by rw [← h]; unfold chk; rw [if_neg (by omega), if_pos h4]
    clear h
    go_enter Try.func14, Try.ntmps14
    go_wp2
    go_returns
    exact ⟨rfl, rfl⟩
  · exact absurd (by rw [← h]; unfold chk; rw [if_neg (by omega), if_neg h4]) h0
theorem ref_new_ok (wd n : Nat) (w : World) (h1 : 1 ≤ wd) (h2 : wd ≤ 64) (hn : n ≤ 1048576) :
    Calls Try.prog 14 #[.int .i64 wd, .int .i64 n] w fun e w' => e = .returned (.tuple #[.slice (some ⟨w.heap.size, 0, none⟩) n n, .int .i64 0]) ∧ Ow w' w.heap.size n (List.replicate n 0) ∧ Ch (fun _ => False) w w' := by
  have hmk := run_mk2 elem64 n (by omega) (by omega)
  go_enter Try.func14, Try.ntmps14
  go_wp2
  go_returns
  exact ⟨rfl, ow_made w n hn, (Ch.refl _ _).alloc _⟩

theorem ref_set_out (wd : Nat) (V : Option Addr) (n c : Nat) (i : Int) (v : Nat) (w : World) (hi : i < 0 ∨ (n : Int) ≤ i) :
    Calls Try.prog 16 #[.int .i64 wd, .slice V n c, .int .i64 i, .int .u64 v] w fun e w' => e = .returned (.int .i64 1) ∧ w = w' := by
  rcases hi with hi | hi
  · go_enter Try.func16, Try.ntmps16
    go_wp2
    go_ret
    exact ⟨rfl, rfl⟩
  · have hi0 : 0 ≤ i := by omega
    go_enter Try.func16, Try.ntmps16
    go_wp2
    go_ret
    exact ⟨rfl, rfl⟩
theorem ref_set_big (wd : Nat) (V : Option Addr) (n c : Nat) (i v : Nat) (w : World) (hi : i < n) (hw : wd ≤ 64) (hv : v < 18446744073709551616) (hb : 2 ^ wd ≤ v) :
    Calls Try.prog 16 #[.int .i64 wd, .slice V n c, .int .i64 i, .int .u64 v] w fun e w' => e = .returned (.int .i64 1) ∧ w = w' := by
  have HF : Bx (decide (v < 2 ^ wd) = false) := ⟨by simpa using hb⟩
  clear hb
  go_enter Try.func16, Try.ntmps16
  go_wp2_with fail
  refine (ref_fits wd v false _ hw hv HF.out).mono ?_
  rintro e w' ⟨rfl, rfl⟩
  go_wp2
  go_ret
  exact ⟨rfl, rfl⟩
theorem ref_set_in (wd g c : Nat) (l : List Nat) (i v : Nat) (w : World) (hO : Ow w g c l) (hi : i < l.length) (hw : wd ≤ 64) (hv : v < 18446744073709551616) (hb : v < 2 ^ wd) :
    Calls Try.prog 16 #[.int .i64 wd, .slice (some ⟨g, 0, none⟩) l.length c, .int .i64 i, .int .u64 v] w fun e w' => e = .returned (.int .i64 0) ∧ Ow w' g c (l.set i v) ∧ Ch (fun k => k = g) w w' := by
  have HF : Bx (decide (v < 2 ^ wd) = true) := ⟨by simpa using hb⟩
  have hc := hO.cellAt hi
  have hf := hO.frozenAt i
  have HS := Bx.mk (hO.stored i v)
  generalize l.getD i 0 = y at *
  clear hb hO
  go_enter Try.func16, Try.ntmps16
  go_wp2_with fail
  refine (ref_fits wd v true _ hw hv HF.out).mono ?_
  rintro e w' ⟨rfl, rfl⟩
  go_wp2
  go_ret
  exact ⟨rfl, HS.out.1, HS.out.2⟩
end Go.Proofs.Ytknmhhccemojiaa
