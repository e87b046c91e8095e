/-
  A Tree in memory, and the contracts of Width, Len, within, fits, digit.
-/
/-
  The contract of gather.
-/
/-
  The contracts of Rank and Select of a Tree.
-/
import Derived.Test.YtckkjccjkdidjaaGreatDoorMaWa
import Derived.Test.YtckkjccjkdidjaaGreatDoorWaA
import Derived.Deep.RegionHeld3
namespace Go.Proofs.YtckkjccjkdidjaaGreatDoor.W
open Go.RowKit Go.Oct Go.Bi Go.Wa

/-- A Tree at block b, in blocks of F, that is the row l of W digits. -/
structure Tr (w : World) (F : Nat → Prop) (b W : Nat) (l : List Nat) : Prop where
  lo : 1 ≤ W
  hi : W ≤ 16
  short : l.length ≤ 131072
  lt : ∀ x ∈ l, x < 2 ^ W
  at_ : ∃ g : Nat, w.cell? ⟨b, 0, none⟩ = some (.slice (some ⟨g, 0, none⟩) W W) ∧ F b ∧ F g ∧
    ∀ d, d < W → ∃ v : Nat, w.cell? ⟨g, d * 2, none⟩ = some (.pointer (some ⟨v, 0, none⟩)) ∧ w.cell? ⟨g, d * 2 + 1, none⟩ = some (.int .i64 ((bt W l d).count false : Nat)) ∧ Vec w F v (bt W l d)
theorem Tr.ch {w w' : World} {F S : Nat → Prop} {b W : Nat} {l : List Nat} (h : Tr w F b W l) (hc : Ch S w w') (hF : ∀ k, F k → k < w.heap.size → ¬ S k) : Tr w' F b W l := by
  obtain ⟨h1, h2, h3, h4, g, h5, h6, h7, h8⟩ := h
  refine ⟨h1, h2, h3, h4, g, hc.cell (hF b h6 (lt_of_cell h5)) h5, h6, h7, fun d hd => ?_⟩
  obtain ⟨v, k1, k2, k3⟩ := h8 d hd
  exact ⟨v, hc.cell (hF g h7 (lt_of_cell k1)) k1, hc.cell (hF g h7 (lt_of_cell k2)) k2, k3.ch hc hF⟩
theorem Tr.keep {w w' : World} {F : Nat → Prop} {b W : Nat} {l : List Nat} (h : Tr w F b W l) (hc : Ch (fun _ => False) w w') : Tr w' F b W l := h.ch hc (fun _ _ _ h => h)
theorem Tr.mono {w : World} {F G : Nat → Prop} {b W : Nat} {l : List Nat} (h : Tr w F b W l) (hF : ∀ k, k < w.heap.size → F k → G k) : Tr w G b W l := by
  obtain ⟨h1, h2, h3, h4, g, h5, h6, h7, h8⟩ := h
  refine ⟨h1, h2, h3, h4, g, h5, hF b (lt_of_cell h5) h6, hF g ?_ h7, fun d hd => ?_⟩
  · obtain ⟨v, k1, _⟩ := h8 0 h1
    exact lt_of_cell k1
  · obtain ⟨v, k1, k2, k3⟩ := h8 d hd
    exact ⟨v, k1, k2, k3.mono hF⟩
theorem Tr.row {w : World} {F : Nat → Prop} {b W : Nat} {l : List Nat} (h : Tr w F b W l) : ∃ g : Nat, w.cell? ⟨b, 0, none⟩ = some (.slice (some ⟨g, 0, none⟩) W W) := by
  obtain ⟨_, _, _, _, g, h5, _⟩ := h
  exact ⟨g, h5⟩

section
variable {F : Nat → Prop}
theorem width_cell (b W c : Nat) (A : Option Addr) (w : World) (h : w.cell? ⟨b, 0, none⟩ = some (.slice A W c)) :
    Calls Tryz.prog 92 #[.pointer (some ⟨b, 0, none⟩)] w fun e w' => e = .returned (.int .i64 W) ∧ w = w' := by
  go_enter Tryz.func92, Tryz.ntmps92
  go_wp2
  go_ret
  exact ⟨rfl, rfl⟩
theorem width_nil (w : World) : Calls Tryz.prog 92 #[.pointer none] w fun e w' => e = .returned (.int .i64 0) ∧ w = w' := by
  go_enter Tryz.func92, Tryz.ntmps92
  go_wp2
  go_ret
  exact ⟨rfl, rfl⟩
theorem tlen_nil (w : World) : Calls Tryz.prog 61 #[.pointer none] w fun e w' => e = .returned (.int .i64 0) ∧ w = w' := by
  go_enter Tryz.func61, Tryz.ntmps61
  go_wp2_with fail
  refine (width_nil _).mono ?_
  rintro e w' ⟨rfl, rfl⟩
  go_wp2
  go_ret
  exact ⟨rfl, rfl⟩
theorem tlen_any (b W n : Nat) (l : List Nat) (w : World) (h : Tr w F b W l) (hn : l.length = n) :
    Calls Tryz.prog 61 #[.pointer (some ⟨b, 0, none⟩)] w fun e w' => e = .returned (.int .i64 n) ∧ w = w' := by
  obtain ⟨h1, h2, h3, h4, g, h5, h6, h7, h8⟩ := h
  obtain ⟨v, k1, k2, k3⟩ := h8 0 h1
  have K1 : w.cell? ⟨g, 0, none⟩ = some (.pointer (some ⟨v, 0, none⟩)) := by simpa using k1
  have K3 := Bx.mk k3
  have hb : (bt W l 0).length = n := (bt_len W l 0).trans hn
  clear h8 k1 k2 k3 h4 hn
  generalize bt W l 0 = r at *
  subst hb
  go_enter Tryz.func61, Tryz.ntmps61
  go_wp2_with fail
  refine (width_cell b W W _ _ h5).mono ?_
  rintro e w' ⟨rfl, rfl⟩
  go_wp2_with fail
  refine (len_any v r _ K3.out).mono ?_
  rintro e w' ⟨rfl, rfl⟩
  go_wp2
  go_ret
  exact ⟨rfl, rfl⟩
/-- A place brought within. -/
def clip (n : Nat) (i : Int) : Nat := min i.toNat n
theorem within_any (b W n : Nat) (l : List Nat) (i : Int) (w : World) (h : Tr w F b W l) (hn : l.length = n) :
    Calls Tryz.prog 128 #[.pointer (some ⟨b, 0, none⟩), .int .i64 i] w fun e w' => e = .returned (.int .i64 (clip n i : Nat)) ∧ w = w' := by
  have H := Bx.mk h
  clear h
  by_cases h1 : i ≤ 0
  · have hm : max i 0 = 0 := by omega
    have hm2 : min (0 : Int) (n : Int) = 0 := by omega
    go_enter Tryz.func128, Tryz.ntmps128
    go_wp2_with (go_at_call 61; refine (tlen_any b W n l _ H.out hn).mono ?_; rintro e w' ⟨rfl, rfl⟩)
    all_goals
      go_ret
      exact ⟨ret_int (by unfold clip; omega), rfl⟩
  · by_cases h2 : i ≤ n
    · go_enter Tryz.func128, Tryz.ntmps128
      go_wp2_with (go_at_call 61; refine (tlen_any b W n l _ H.out hn).mono ?_; rintro e w' ⟨rfl, rfl⟩)
      go_ret
      exact ⟨ret_int (by unfold clip; omega), rfl⟩
    · go_enter Tryz.func128, Tryz.ntmps128
      go_wp2_with (go_at_call 61; refine (tlen_any b W n l _ H.out hn).mono ?_; rintro e w' ⟨rfl, rfl⟩)
      go_ret
      exact ⟨ret_int (by unfold clip; omega), rfl⟩
/-- Is it a symbol? -/
def fitB (W : Nat) (c : Int) : Bool := decide (0 < W) && (decide (0 ≤ c) && decide (c < (2 ^ W : Nat)))
theorem pow16 {W : Nat} (h : W ≤ 16) : 2 ^ W ≤ 65536 := Nat.pow_le_pow_right (by decide) h
theorem fits_any (W : Nat) (c : Int) (r : Bool) (w : World) (h : W ≤ 16) (hr : fitB W c = r) :
    Calls Tryz.prog 121 #[.int .i64 W, .int .i64 c] w fun e w' => e = .returned (.bool r) ∧ w = w' := by
  subst hr
  have h16 := pow16 h
  have h0 : 0 < 2 ^ W := Nat.pow_pos (by decide)
  have hs : IntKind.i64.wrap (2 ^ W) = ((2 ^ W : Nat) : Int) := by
    have e : (2 : Int) ^ W = ((2 ^ W : Nat) : Int) := by push_cast; rfl
    rw [e, IntWalk.i64_in _ (by omega)]
  unfold fitB
  generalize 2 ^ W = p at *
  by_cases hW : W = 0
  · subst hW
    go_enter Tryz.func121, Tryz.ntmps121
    go_wp2
    go_ret
    exact ⟨ret_bool (by simp), rfl⟩
  · have hW0 : 0 < W := by omega
    by_cases hc : c < 0
    · go_enter Tryz.func121, Tryz.ntmps121
      go_wp2
      go_ret
      exact ⟨ret_bool (by simp; omega), rfl⟩
    · have hc0 : 0 ≤ c := by omega
      by_cases hcp : c < p
      · go_enter Tryz.func121, Tryz.ntmps121
        go_wp2
        go_ret
        exact ⟨ret_bool (by simp), rfl⟩
      · go_enter Tryz.func121, Tryz.ntmps121
        go_wp2
        go_ret
        exact ⟨ret_bool (by simp; omega), rfl⟩
theorem and1 (a : Nat) (ha : a < 9223372036854775808) : bits .and .i64 (a : Int) 1 = ((a % 2 : Nat) : Int) := by
  have hx : a &&& 1 = a % 2 := Nat.and_two_pow_sub_one_eq_mod a 1
  have h1 : (BitVec.ofInt 64 (a : Int)).toNat = a := by
    rw [BitVec.ofInt_natCast, BitVec.toNat_ofNat]; exact Nat.mod_eq_of_lt (by omega)
  have h2 : (BitVec.ofInt 64 (1 : Int)).toNat = 1 := by decide
  show IntKind.i64.wrap ((BitVec.ofInt 64 (a : Int) &&& BitVec.ofInt 64 (1 : Int)).toNat : Int) = _
  rw [BitVec.toNat_and, h1, h2, hx]
  simp [IntKind.wrap, IntKind.signed, IntKind.bits]
  omega
/-- A digit. -/
theorem digit_any (b W cp c d : Nat) (A : Option Addr) (r : Bool) (w : World) (h : w.cell? ⟨b, 0, none⟩ = some (.slice A W cp)) (hW : W ≤ 16) (hd : d < W) (hc : c < 2 ^ W) (hr : dgt W d c = r) :
    Calls Tryz.prog 83 #[.pointer (some ⟨b, 0, none⟩), .int .i64 c, .int .i64 d] w fun e w' => e = .returned (.bool r) ∧ w = w' := by
  have h16 := pow16 hW
  unfold dgt at hr
  have h1 : IntKind.i64.wrap ((W : Int) - 1) = ((W - 1 : Nat) : Int) := by rw [IntWalk.i64_in _ (by omega)]; omega
  have h2 : IntKind.i64.wrap (((W - 1 : Nat) : Int) - (d : Int)) = ((W - 1 - d : Nat) : Int) := by rw [IntWalk.i64_in _ (by omega)]; omega
  have h3 : bits .and .i64 ((c : Int) / 2 ^ (W - 1 - d)) 1 = ((c / 2 ^ (W - 1 - d) % 2 : Nat) : Int) := by
    have := and1 (c / 2 ^ (W - 1 - d)) (Nat.lt_of_le_of_lt (Nat.div_le_self _ _) (Nat.lt_of_lt_of_le hc (Nat.le_trans h16 (by decide))))
    rw [← this]
    push_cast
    rfl
  have HR : Bx ((((c / 2 ^ (W - 1 - d) % 2 : Nat) : Int) == 1) = r) := ⟨by
    rw [← hr, Nat.testBit_eq_decide_div_mod_eq, Bool.eq_iff_iff, beq_iff_eq, decide_eq_true_eq]
    constructor
    · intro h
      exact Int.ofNat_inj.1 h
    · intro h
      rw [h]
      rfl⟩
  have H3 := Bx.mk h3
  clear hr h3
  go_enter Tryz.func83, Tryz.ntmps83
  go_wp2_with fail
  refine (width_cell b W cp A _ h).mono ?_
  rintro e w' ⟨rfl, rfl⟩
  go_wp2
  go_ret
  exact ⟨ret_bool (by rw [H3.out, HR.out]), rfl⟩

theorem rankq_val (b : Nat) (l : List Bool) (o : Bool) (i r : Int) (w : World) (n : Nat) (h : Vec w F b l) (hr : ((rk l o i : Nat) : Int) = r) :
    Calls Tryz.prog 40 #[.pointer (some ⟨b, 0, none⟩), .bool o, .int .i64 i] (w.drewN n) fun e w' => e = .returned (.int .i64 r) ∧ ∃ m, w' = w.drewN m := by
  subst hr
  exact rank_quiet b l o i w n h
theorem cells2 (w : World) (u v : Value) (t : TypeId) : (w.alloc (.cells #[u, v] t)).cell? ⟨w.heap.size, 0, none⟩ = some u ∧ (w.alloc (.cells #[u, v] t)).cell? ⟨w.heap.size, 1, none⟩ = some v := by
  have h : (w.alloc (.cells #[u, v] t)).heap[w.heap.size]? = some (.cells #[u, v] t) := heap_alloc_new w _
  unfold World.cell?
  rw [h]
  exact ⟨rfl, rfl⟩
/-- Down. -/
theorem down_any (v i r : Nat) (l : List Bool) (o : Bool) (z : Int) (w : World) (h : Vec w F v l) (hz : z = (l.count false : Nat)) (hr : dn l o i = r) :
    Calls Tryz.prog 109 #[.agg #[.pointer (some ⟨v, 0, none⟩), .int .i64 z], .bool o, .int .i64 i] w fun e w' => e = .returned (.int .i64 r) ∧ Ch (fun _ => False) w w' := by
  have hl := h.short
  have hcf : l.count false ≤ l.length := List.count_le_length
  have hrk : ∀ c, rk l c (i : Nat) ≤ l.length := fun c => rk_le l c _
  obtain ⟨q, hq⟩ : ∃ q, l.count false = q := ⟨_, rfl⟩
  rw [hq] at hz hcf
  subst hz
  have HV := Bx.mk h
  have hr' : r = if o = true then q + rk l true (i : Nat) else rk l false (i : Nat) := by rw [← hr, ← hq]; rfl
  obtain ⟨x, hx⟩ : ∃ x, rk l o (i : Nat) = x := ⟨_, rfl⟩
  have hxl := hrk o
  rw [hx] at hxl
  have HX : Bx (((rk l o (i : Nat) : Nat) : Int) = x) := ⟨by rw [hx]⟩
  clear hr hq hrk h
  cases o
  · have HR : Bx ((x : Int) = r) := ⟨by rw [hr', ← hx]; rfl⟩
    clear hr' hx
    go_enter Tryz.func109, Tryz.ntmps109
    go_wp2_with fail
    refine (rank_any v l false i _ (HV.out.alloc _)).mono ?_
    rintro e w' ⟨rfl, rfl⟩
    go_wp2
    go_ret
    exact ⟨ret_int (by rw [HX.out, HR.out]), (Ch.refl _ w).alloc _⟩
  · have HR : Bx (((q + x : Nat) : Int) = r) := ⟨by rw [hr', ← hx]; rfl⟩
    clear hr' hx
    have hw1 : IntKind.i64.wrap ((q : Int) + (x : Int)) = ((q + x : Nat) : Int) := by rw [IntWalk.i64_in _ (by omega)]; omega
    have hw2 : wrap64 ((q : Int) + (x : Int)) = ((q + x : Nat) : Int) := by unfold wrap64; omega
    go_enter Tryz.func109, Tryz.ntmps109
    go_wp2_with fail
    obtain ⟨c0, c1⟩ := cells2 w (.pointer (some ⟨v, 0, none⟩)) (.int .i64 q) 108
    have HC := Bx.mk ((Ch.refl (fun _ => False) w).alloc (.cells #[.pointer (some ⟨v, 0, none⟩), .int .i64 q] 108))
    generalize World.alloc w _ = w1 at *
    go_quiet ((go_at_call 40; exact rankq_val v l true i x w1 _ (HV.out.keep HC.out) HX.out))
    go_wp2
    go_ret
    exact ⟨ret_int (by have := HR.out; omega), HC.out.drewN _⟩
theorem selectT_val (b : Nat) (l : List Bool) (o : Bool) (k r : Int) (w : World) (h : Vec w F b l) (hT : Tab w) (hr : sel l o k = r) :
    Calls Tryz.prog 49 #[.pointer (some ⟨b, 0, none⟩), .bool o, .int .i64 k] w fun e w' => e = .returned (.int .i64 r) ∧ Ch (fun _ => False) w w' := by
  subst hr
  exact select_any b l o k w h hT
theorem Tab.keep {w w' : World} (h : Tab w) (hc : Ch (fun _ => False) w w') : Tab w' := TabAt.keep hc h (fun h => h)
end
end Go.Proofs.YtckkjccjkdidjaaGreatDoor.W

namespace Go.Proofs.YtckkjccjkdidjaaGreatDoor.W
open Go.RowKit Go.Oct Go.Bi Go.Wa

/-- The levels of a Tree, each with its cells. -/
def Lvs (w : World) (F : Nat → Prop) (g W : Nat) (l : List Nat) : Prop :=
  ∀ d, d < W → ∃ v : Nat, w.cell? ⟨g, d * 2, none⟩ = some (.pointer (some ⟨v, 0, none⟩)) ∧ w.cell? ⟨g, d * 2 + 1, none⟩ = some (.int .i64 ((bt W l d).count false : Nat)) ∧ Vec w F v (bt W l d)
theorem Lvs.keep {w w' : World} {F : Nat → Prop} {g W : Nat} {l : List Nat} (h : Lvs w F g W l) (hc : Ch (fun _ => False) w w') : Lvs w' F g W l := fun d hd => by
  obtain ⟨v, k1, k2, k3⟩ := h d hd
  exact ⟨v, hc.cell (fun h => h) k1, hc.cell (fun h => h) k2, k3.keep hc⟩
theorem Tr.lvs {w : World} {F : Nat → Prop} {b W : Nat} {l : List Nat} (h : Tr w F b W l) : ∃ g : Nat, w.cell? ⟨b, 0, none⟩ = some (.slice (some ⟨g, 0, none⟩) W W) ∧ Lvs w F g W l := by
  obtain ⟨_, _, _, _, g, h5, _, _, h8⟩ := h
  exact ⟨g, h5, h8⟩

theorem down_is {F : Nat → Prop} (v i : Nat) (l : List Bool) (o : Bool) (z : Int) (w : World) (h : Vec w F v l) (hz : z = (l.count false : Nat)) :
    Calls Tryz.prog 109 #[.agg #[.pointer (some ⟨v, 0, none⟩), .int .i64 z], .bool o, .int .i64 i] w fun e w' => e = .returned (.int .i64 (dn l o i : Nat)) ∧ Ch (fun _ => False) w w' := down_any v i _ l o z w h hz rfl

set_option maxHeartbeats 1000000 in
theorem gather_any (b W c i : Nat) (l : List Nat) (w : World) (F : Nat → Prop) (h : Tr w F b W l) (hc : c < 2 ^ W) (hi : i ≤ l.length) :
    Calls Tryz.prog 127 #[.pointer (some ⟨b, 0, none⟩), .int .i64 c, .int .i64 i] w fun e w' => e = .returned (.tuple #[.int .i64 (D W l c W 0 : Nat), .int .i64 (D W l c W i : Nat)]) ∧ Ch (fun _ => False) w w' := by
  have hW := h.hi
  obtain ⟨g, h5, h8⟩ := h.lvs
  have HL := Bx.mk h8
  have HC0 := Bx.mk hc
  have HI := Bx.mk hi
  clear h8 h hc hi
  go_enter Tryz.func127, Tryz.ntmps127
  go_wp2
  go_loopw [6, 7, 8, 9, 10, 17] (fun f t _ _ _ j wr => ∃ d : Nat, d ≤ W ∧ j = .int .i64 d ∧ f = .int .i64 (D W l c d 0 : Nat) ∧ t = .int .i64 (D W l c d i : Nat) ∧ Ch (fun _ => False) w wr) (fun _ _ _ _ _ j _ => W - (intOf j).toNat)
  case atStart => exact ⟨0, Nat.zero_le _, rfl, rfl, rfl, Ch.refl _ _⟩
  case round =>
    obtain ⟨d, hd, rfl, rfl, rfl, hC⟩ := hrel
    by_cases hlt : d < W
    · obtain ⟨v, k1, k2, k3⟩ := (HL.out.keep hC) d hlt
      have h5' := hC.cell (fun h => h) h5
      have HV := Bx.mk k3
      have HC := Bx.mk hC
      have HF : Bx (dn (bt W l d) (dgt W d c) (D W l c d 0) = D W l c (d + 1) 0) := ⟨rfl⟩
      have HG : Bx (dn (bt W l d) (dgt W d c) (D W l c d i) = D W l c (d + 1) i) := ⟨rfl⟩
      have HB := Bx.mk (rfl : dgt W d c = dgt W d c)
      generalize hf2 : D W l c (d + 1) 0 = f2 at *
      generalize ht2 : D W l c (d + 1) i = t2 at *
      have HF2 := Bx.mk hf2
      have HT2 := Bx.mk ht2
      clear hf2 ht2
      generalize D W l c d 0 = f1 at *
      generalize D W l c d i = t1 at *
      generalize hq : (bt W l d).count false = q at *
      generalize hr : dgt W d c = r at *
      clear k3 hC
      have HQ := Bx.mk hq
      have HR := Bx.mk hr
      clear hq hr
      go_wp2_with fail
      obtain ⟨c0, c1⟩ := cells2 wr (.pointer (some ⟨v, 0, none⟩)) (.int .i64 q) 108
      have hC1 := (Ch.refl (fun _ => False) wr).alloc (.cells #[.pointer (some ⟨v, 0, none⟩), .int .i64 q] 108)
      have h51 := hC1.cell (fun h => h) h5'
      have HC1 := Bx.mk (HC.out.trans hC1 (fun _ _ h => h))
      have HV1 := Bx.mk (HV.out.keep hC1)
      clear hC1
      generalize wr.heap.size = B at *
      generalize World.alloc wr _ = w1 at *
      have HZ : Bx ((q : Int) = ((bt W l d).count false : Nat)) := ⟨by rw [HQ.out]⟩
      refine (digit_any b W W c d _ r _ h51 hW hlt HC0.out HR.out).mono ?_
      rintro e w' ⟨rfl, rfl⟩
      generalize bt W l d = y at *
      go_wp2_with fail
      have hcc := Ch.refl (fun _ => False) w1
      go_region_held3 (fun w' => w'.cell? ⟨B, 0, none⟩ = some (.pointer (some ⟨v, 0, none⟩)) ∧ w'.cell? ⟨B, 1, none⟩ = some (.int .i64 q)) (first | go_keep | exact s2 | exact ⟨c0, c1⟩) ((go_at_call 109; refine (down_is v _ y r q _ (by first | exact HV1.out.keep hcc | exact HV1.out) HZ.out).mono ?_; rintro e w2 ⟨rfl, hc2⟩; have hcc : Ch (fun _ => False) w1 w2 := (by first | exact hcc.trans hc2 (fun _ _ h => h) | exact hcc.drew.trans hc2 (fun _ _ h => h)); have s2 : w2.cell? ⟨B, 0, none⟩ = some (.pointer (some ⟨v, 0, none⟩)) ∧ w2.cell? ⟨B, 1, none⟩ = some (.int .i64 q) := ⟨hcc.cell (fun h => h) c0, hcc.cell (fun h => h) c1⟩))
      all_goals
        have HCC := Bx.mk (HC1.out.trans hcc (fun _ _ h => h))
        clear hcc hc2 s2
        rw [HF.out, HG.out]
        go_wp2
        go_roundw
        case rel => exact ⟨d + 1, by omega, by go_num, by rw [HF2.out], by rw [HT2.out], HCC.out⟩
        case measure => simp [intOf]; omega
    · obtain rfl : d = W := by omega
      go_wp2
      go_returns
      exact ⟨rfl, hC⟩
end Go.Proofs.YtckkjccjkdidjaaGreatDoor.W

namespace Go.Proofs.YtckkjccjkdidjaaGreatDoor.W
open Go.RowKit Go.Oct Go.Bi Go.Wa

theorem fit_out {W : Nat} {c : Int} (hW : 1 ≤ W) (h : fitB W c = false) : c < 0 ∨ ((2 ^ W : Nat) : Int) ≤ c := by
  unfold fitB at h
  have h1 : decide (0 < W) = true := decide_eq_true hW
  rw [h1, Bool.true_and, Bool.and_eq_false_iff, decide_eq_false_iff_not, decide_eq_false_iff_not] at h
  omega
theorem fit_in {W : Nat} {c : Int} (h : fitB W c = true) : ∃ n : Nat, c = n ∧ n < 2 ^ W := by
  unfold fitB at h
  rw [Bool.and_eq_true, Bool.and_eq_true, decide_eq_true_eq, decide_eq_true_eq, decide_eq_true_eq] at h
  exact ⟨c.toNat, by omega, by omega⟩
theorem fit_of {W m : Nat} (hW : 1 ≤ W) (hm : m < 2 ^ W) : fitB W m = true := by
  unfold fitB
  generalize 2 ^ W = p at *
  simp only [Bool.and_eq_true, decide_eq_true_eq]
  omega
theorem fit_nil (c : Int) : fitB 0 c = false := by simp [fitB]

section
variable {F : Nat → Prop}
theorem trank_nil (c i : Int) (w : World) : Calls Tryz.prog 93 #[.pointer none, .int .i64 c, .int .i64 i] w fun e w' => e = .returned (.int .i64 0) ∧ w = w' := by
  have hf := fit_nil c
  go_enter Tryz.func93, Tryz.ntmps93
  go_wp2_with fail
  refine (width_nil _).mono ?_
  rintro e w' ⟨rfl, rfl⟩
  go_wp2_with fail
  refine (fits_any 0 c false _ (by omega) hf).mono ?_
  rintro e w' ⟨rfl, rfl⟩
  go_wp2
  go_ret
  exact ⟨rfl, rfl⟩
theorem trank_any (b W : Nat) (l : List Nat) (c i r : Int) (w : World) (h : Tr w F b W l) (hr : ((rk (hit l c) true i : Nat) : Int) = r) :
    Calls Tryz.prog 93 #[.pointer (some ⟨b, 0, none⟩), .int .i64 c, .int .i64 i] w fun e w' => e = .returned (.int .i64 r) ∧ Ch (fun _ => False) w w' := by
  have hW := h.hi
  have hW1 := h.lo
  have hs := h.short
  obtain ⟨g, h5⟩ := h.row
  have H := Bx.mk h
  obtain ⟨n, hn⟩ : ∃ n, l.length = n := ⟨_, rfl⟩
  rw [hn] at hs
  cases hf : fitB W c
  · rw [hit_out h.lt (fit_out hW1 hf), rk_repl] at hr
    rw [if_neg (by decide)] at hr
    have hr0 : r = 0 := hr.symm
    subst hr0
    have HF := Bx.mk hf
    clear h hf hr
    go_enter Tryz.func93, Tryz.ntmps93
    go_wp2_with fail
    refine (width_cell b W W _ _ h5).mono ?_
    rintro e w' ⟨rfl, rfl⟩
    go_wp2_with fail
    refine (fits_any W c false _ hW HF.out).mono ?_
    rintro e w' ⟨rfl, rfl⟩
    go_wp2
    go_ret
    exact ⟨rfl, Ch.refl _ _⟩
  · have HF := Bx.mk hf
    obtain ⟨m, rfl, hm⟩ := fit_in hf
    have HM := Bx.mk hm
    obtain ⟨k, hk⟩ : ∃ k, clip n i = k := ⟨_, rfl⟩
    have hkn : k ≤ n := by rw [← hk]; unfold clip; omega
    have hkl : k ≤ l.length := by omega
    obtain ⟨d1, d2⟩ := D_rank h.lt hm hkl
    have d3 := D_le (W := W) (c := m) W hkl
    rw [rk_clip, hit_len, hn, show min i.toNat n = k from hk] at hr
    have HKL := Bx.mk hkl
    have HG : ∀ w', Tr w' F b W l → Calls Tryz.prog 127 #[.pointer (some ⟨b, 0, none⟩), .int .i64 m, .int .i64 k] w' _ := fun w' h' => gather_any b W m k l w' F h' hm hkl
    have HG := Bx.mk HG
    generalize D W l m W 0 = x at *
    generalize D W l m W k = y at *
    have hxy : (y : Int) - (x : Int) = r := by omega
    have d4 : y ≤ 131072 := by omega
    have HXY := Bx.mk hxy
    have HK : Bx (((clip n i : Nat) : Int) = k) := ⟨by rw [hk]⟩
    have HN := Bx.mk hn
    clear h hf hr d1 hm hkl hk hn hxy
    go_enter Tryz.func93, Tryz.ntmps93
    go_wp2_with fail
    refine (width_cell b W W _ _ h5).mono ?_
    rintro e w' ⟨rfl, rfl⟩
    go_wp2_with fail
    refine (fits_any W m true _ hW HF.out).mono ?_
    rintro e w' ⟨rfl, rfl⟩
    go_wp2_with fail
    refine (within_any b W n l i _ H.out HN.out).mono ?_
    rintro e w' ⟨he, rfl⟩
    rw [HK.out] at he
    subst he
    go_wp2_with fail
    refine (HG.out _ H.out).mono ?_
    rintro e w1 ⟨rfl, hC⟩
    have HC := Bx.mk hC
    clear hC
    go_wp2
    go_ret
    exact ⟨ret_int (by have := HXY.out; omega), HC.out⟩

theorem gather_is (b W c i x y : Nat) (l : List Nat) (w : World) (h : Tr w F b W l) (hc : c < 2 ^ W) (hi : i ≤ l.length) (hx : D W l c W 0 = x) (hy : D W l c W i = y) :
    Calls Tryz.prog 127 #[.pointer (some ⟨b, 0, none⟩), .int .i64 c, .int .i64 i] w fun e w' => e = .returned (.tuple #[.int .i64 x, .int .i64 y]) ∧ Ch (fun _ => False) w w' := by
  subst hx hy
  exact gather_any b W c i l w F h hc hi
end
end Go.Proofs.YtckkjccjkdidjaaGreatDoor.W
