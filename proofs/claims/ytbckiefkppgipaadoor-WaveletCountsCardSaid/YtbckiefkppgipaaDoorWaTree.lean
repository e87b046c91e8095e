/-
  A Tree in memory, and the contracts of Width, Len, within, fits, digit.
-/
import Derived.Test.YtbckiefkppgipaaDoorWaMath
import Derived.Test.YtbckiefkppgipaaDoorBiSel
namespace Go.Proofs.YtbckiefkppgipaaDoor
open Go.RowKit Go.Oct Go.Bi Go.Wa

/-- A Tree at block b, in blocks of F, that is the row l of W digits. -/
structure Tr (w : World) (F : Nat → Prop) (b W : Nat) (l : List Nat) : Prop where
  lo : 1 ≤ W
  hi : W ≤ 16
  short : l.length ≤ 131072
  lt : ∀ x ∈ l, x < 2 ^ W
  at_ : ∃ g : Nat, w.cell? ⟨b, 0, none⟩ = some (.slice (some ⟨g, 0, none⟩) W W) ∧ F b ∧ F g ∧
    ∀ d, d < W → ∃ v : Nat, w.cell? ⟨g, d * 2, none⟩ = some (.pointer (some ⟨v, 0, none⟩)) ∧ w.cell? ⟨g, d * 2 + 1, none⟩ = some (.int .i64 ((bt W l d).count false : Nat)) ∧ Vec w F v (bt W l d)
theorem Tr.ch {w w' : World} {F S : Nat → Prop} {b W : Nat} {l : List Nat} (h : Tr w F b W l) (hc : Ch S w w') (hF : ∀ k, F k → k < w.heap.size → ¬ S k) : Tr w' F b W l := by
  obtain ⟨h1, h2, h3, h4, g, h5, h6, h7, h8⟩ := h
  refine ⟨h1, h2, h3, h4, g, hc.cell (hF b h6 (lt_of_cell h5)) h5, h6, h7, fun d hd => ?_⟩
  obtain ⟨v, k1, k2, k3⟩ := h8 d hd
  exact ⟨v, hc.cell (hF g h7 (lt_of_cell k1)) k1, hc.cell (hF g h7 (lt_of_cell k2)) k2, k3.ch hc hF⟩
theorem Tr.keep {w w' : World} {F : Nat → Prop} {b W : Nat} {l : List Nat} (h : Tr w F b W l) (hc : Ch (fun _ => False) w w') : Tr w' F b W l := h.ch hc (fun _ _ _ h => h)
theorem Tr.mono {w : World} {F G : Nat → Prop} {b W : Nat} {l : List Nat} (h : Tr w F b W l) (hF : ∀ k, k < w.heap.size → F k → G k) : Tr w G b W l := by
  obtain ⟨h1, h2, h3, h4, g, h5, h6, h7, h8⟩ := h
  refine ⟨h1, h2, h3, h4, g, h5, hF b (lt_of_cell h5) h6, hF g ?_ h7, fun d hd => ?_⟩
  · obtain ⟨v, k1, _⟩ := h8 0 h1
    exact lt_of_cell k1
  · obtain ⟨v, k1, k2, k3⟩ := h8 d hd
    exact ⟨v, k1, k2, k3.mono hF⟩
theorem Tr.row {w : World} {F : Nat → Prop} {b W : Nat} {l : List Nat} (h : Tr w F b W l) : ∃ g : Nat, w.cell? ⟨b, 0, none⟩ = some (.slice (some ⟨g, 0, none⟩) W W) := by
  obtain ⟨_, _, _, _, g, h5, _⟩ := h
  exact ⟨g, h5⟩

section
variable {F : Nat → Prop}
theorem width_cell (b W c : Nat) (A : Option Addr) (w : World) (h : w.cell? ⟨b, 0, none⟩ = some (.slice A W c)) :
    Calls Tryd.prog 13 #[.pointer (some ⟨b, 0, none⟩)] w fun e w' => e = .returned (.int .i64 W) ∧ w = w' := by
  go_enter Tryd.func13, Tryd.ntmps13
  go_wp2
  go_ret
  exact ⟨rfl, rfl⟩
theorem width_nil (w : World) : Calls Tryd.prog 13 #[.pointer none] w fun e w' => e = .returned (.int .i64 0) ∧ w = w' := by
  go_enter Tryd.func13, Tryd.ntmps13
  go_wp2
  go_ret
  exact ⟨rfl, rfl⟩
theorem tlen_nil (w : World) : Calls Tryd.prog 12 #[.pointer none] w fun e w' => e = .returned (.int .i64 0) ∧ w = w' := by
  go_enter Tryd.func12, Tryd.ntmps12
  go_wp2_with fail
  refine (width_nil _).mono ?_
  rintro e w' ⟨rfl, rfl⟩
  go_wp2
  go_ret
  exact ⟨rfl, rfl⟩
theorem tlen_any (b W n : Nat) (l : List Nat) (w : World) (h : Tr w F b W l) (hn : l.length = n) :
    Calls Tryd.prog 12 #[.pointer (some ⟨b, 0, none⟩)] w fun e w' => e = .returned (.int .i64 n) ∧ w = w' := by
  obtain ⟨h1, h2, h3, h4, g, h5, h6, h7, h8⟩ := h
  obtain ⟨v, k1, k2, k3⟩ := h8 0 h1
  have K1 : w.cell? ⟨g, 0, none⟩ = some (.pointer (some ⟨v, 0, none⟩)) := by simpa using k1
  have K3 := Bx.mk k3
  have hb : (bt W l 0).length = n := (bt_len W l 0).trans hn
  clear h8 k1 k2 k3 h4 hn
  generalize bt W l 0 = r at *
  subst hb
  go_enter Tryd.func12, Tryd.ntmps12
  go_wp2_with fail
  refine (width_cell b W W _ _ h5).mono ?_
  rintro e w' ⟨rfl, rfl⟩
  go_wp2_with fail
  refine (len_any v r _ K3.out).mono ?_
  rintro e w' ⟨rfl, rfl⟩
  go_wp2
  go_ret
  exact ⟨rfl, rfl⟩
/-- A place brought within. -/
def clip (n : Nat) (i : Int) : Nat := min i.toNat n
theorem within_any (b W n : Nat) (l : List Nat) (i : Int) (w : World) (h : Tr w F b W l) (hn : l.length = n) :
    Calls Tryd.prog 31 #[.pointer (some ⟨b, 0, none⟩), .int .i64 i] w fun e w' => e = .returned (.int .i64 (clip n i : Nat)) ∧ w = w' := by
  have H := Bx.mk h
  clear h
  by_cases h1 : i ≤ 0
  · have hm : max i 0 = 0 := by omega
    have hm2 : min (0 : Int) (n : Int) = 0 := by omega
    go_enter Tryd.func31, Tryd.ntmps31
    go_wp2_with (go_at_call 12; refine (tlen_any b W n l _ H.out hn).mono ?_; rintro e w' ⟨rfl, rfl⟩)
    all_goals
      go_ret
      exact ⟨ret_int (by unfold clip; omega), rfl⟩
  · by_cases h2 : i ≤ n
    · go_enter Tryd.func31, Tryd.ntmps31
      go_wp2_with (go_at_call 12; refine (tlen_any b W n l _ H.out hn).mono ?_; rintro e w' ⟨rfl, rfl⟩)
      go_ret
      exact ⟨ret_int (by unfold clip; omega), rfl⟩
    · go_enter Tryd.func31, Tryd.ntmps31
      go_wp2_with (go_at_call 12; refine (tlen_any b W n l _ H.out hn).mono ?_; rintro e w' ⟨rfl, rfl⟩)
      go_ret
      exact ⟨ret_int (by unfold clip; omega), rfl⟩
/-- Is it a symbol? -/
def fitB (W : Nat) (c : Int) : Bool := decide (0 < W) && (decide (0 ≤ c) && decide (c < (2 ^ W : Nat)))
theorem pow16 {W : Nat} (h : W ≤ 16) : 2 ^ W ≤ 65536 := Nat.pow_le_pow_right (by decide) h
theorem fits_any (W : Nat) (c : Int) (r : Bool) (w : World) (h : W ≤ 16) (hr : fitB W c = r) :
    Calls Tryd.prog 29 #[.int .i64 W, .int .i64 c] w fun e w' => e = .returned (.bool r) ∧ w = w' := by
  subst hr
  have h16 := pow16 h
  have h0 : 0 < 2 ^ W := Nat.pow_pos (by decide)
  have hs : IntKind.i64.wrap (2 ^ W) = ((2 ^ W : Nat) : Int) := by
    have e : (2 : Int) ^ W = ((2 ^ W : Nat) : Int) := by push_cast; rfl
    rw [e, IntWalk.i64_in _ (by omega)]
  unfold fitB
  generalize 2 ^ W = p at *
  by_cases hW : W = 0
  · subst hW
    go_enter Tryd.func29, Tryd.ntmps29
    go_wp2
    go_ret
    exact ⟨ret_bool (by simp), rfl⟩
  · have hW0 : 0 < W := by omega
    by_cases hc : c < 0
    · go_enter Tryd.func29, Tryd.ntmps29
      go_wp2
      go_ret
      exact ⟨ret_bool (by simp; omega), rfl⟩
    · have hc0 : 0 ≤ c := by omega
      by_cases hcp : c < p
      · go_enter Tryd.func29, Tryd.ntmps29
        go_wp2
        go_ret
        exact ⟨ret_bool (by simp), rfl⟩
      · go_enter Tryd.func29, Tryd.ntmps29
        go_wp2
        go_ret
        exact ⟨ret_bool (by simp; omega), rfl⟩
theorem and1 (a : Nat) (ha : a < 9223372036854775808) : bits .and .i64 (a : Int) 1 = ((a % 2 : Nat) : Int) := by
  have hx : a &&& 1 = a % 2 := Nat.and_two_pow_sub_one_eq_mod a 1
  have h1 : (BitVec.ofInt 64 (a : Int)).toNat = a := by
    rw [BitVec.ofInt_natCast, BitVec.toNat_ofNat]; exact Nat.mod_eq_of_lt (by omega)
  have h2 : (BitVec.ofInt 64 (1 : Int)).toNat = 1 := by decide
  show IntKind.i64.wrap ((BitVec.ofInt 64 (a : Int) &&& BitVec.ofInt 64 (1 : Int)).toNat : Int) = _
  rw [BitVec.toNat_and, h1, h2, hx]
  simp [IntKind.wrap, IntKind.signed, IntKind.bits]
  omega
/-- A digit. -/
theorem digit_any (b W cp c d : Nat) (A : Option Addr) (r : Bool) (w : World) (h : w.cell? ⟨b, 0, none⟩ = some (.slice A W cp)) (hW : W ≤ 16) (hd : d < W) (hc : c < 2 ^ W) (hr : dgt W d c = r) :
    Calls Tryd.prog 23 #[.pointer (some ⟨b, 0, none⟩), .int .i64 c, .int .i64 d] w fun e w' => e = .returned (.bool r) ∧ w = w' := by
  have h16 := pow16 hW
  unfold dgt at hr
  have h1 : IntKind.i64.wrap ((W : Int) - 1) = ((W - 1 : Nat) : Int) := by rw [IntWalk.i64_in _ (by omega)]; omega
  have h2 : IntKind.i64.wrap (((W - 1 : Nat) : Int) - (d : Int)) = ((W - 1 - d : Nat) : Int) := by rw [IntWalk.i64_in _ (by omega)]; omega
  have h3 : bits .and .i64 ((c : Int) / 2 ^ (W - 1 - d)) 1 = ((c / 2 ^ (W - 1 - d) % 2 : Nat) : Int) := by
    have := and1 (c / 2 ^ (W - 1 - d)) (Nat.lt_of_le_of_lt (Nat.div_le_self _ _) (Nat.lt_of_lt_of_le hc (Nat.le_trans h16 (by decide))))
    rw [← this]
    push_cast
    rfl
  have HR : Bx ((((c / 2 ^ (W - 1 - d) % 2 : Nat) : Int) == 1) = r) := ⟨by
    rw [← hr, Nat.testBit_eq_decide_div_mod_eq, Bool.eq_iff_iff, beq_iff_eq, decide_eq_true_eq]
    constructor
    · intro h
      exact Int.ofNat_inj.1 h
    · intro h
      rw [h]
      rfl⟩
  have H3 := Bx.mk h3
  clear hr h3
  go_enter Tryd.func23, Tryd.ntmps23
  go_wp2_with fail
  refine (width_cell b W cp A _ h).mono ?_
  rintro e w' ⟨rfl, rfl⟩
  go_wp2
  go_ret
  exact ⟨ret_bool (by rw [H3.out, HR.out]), rfl⟩

theorem rankq_val (b : Nat) (l : List Bool) (o : Bool) (i r : Int) (w : World) (n : Nat) (h : Vec w F b l) (hr : ((rk l o i : Nat) : Int) = r) :
    Calls Tryd.prog 33 #[.pointer (some ⟨b, 0, none⟩), .bool o, .int .i64 i] (w.drewN n) fun e w' => e = .returned (.int .i64 r) ∧ ∃ m, w' = w.drewN m := by
  subst hr
  exact rank_quiet b l o i w n h
theorem cells2 (w : World) (u v : Value) (t : TypeId) : (w.alloc (.cells #[u, v] t)).cell? ⟨w.heap.size, 0, none⟩ = some u ∧ (w.alloc (.cells #[u, v] t)).cell? ⟨w.heap.size, 1, none⟩ = some v := by
  have h : (w.alloc (.cells #[u, v] t)).heap[w.heap.size]? = some (.cells #[u, v] t) := heap_alloc_new w _
  unfold World.cell?
  rw [h]
  exact ⟨rfl, rfl⟩
/-- Down. -/
theorem down_any (v i r : Nat) (l : List Bool) (o : Bool) (z : Int) (w : World) (h : Vec w F v l) (hz : z = (l.count false : Nat)) (hr : dn l o i = r) :
    Calls Tryd.prog 28 #[.agg #[.pointer (some ⟨v, 0, none⟩), .int .i64 z], .bool o, .int .i64 i] w fun e w' => e = .returned (.int .i64 r) ∧ Ch (fun _ => False) w w' := by
  have hl := h.short
  have hcf : l.count false ≤ l.length := List.count_le_length
  have hrk : ∀ c, rk l c (i : Nat) ≤ l.length := fun c => rk_le l c _
  obtain ⟨q, hq⟩ : ∃ q, l.count false = q := ⟨_, rfl⟩
  rw [hq] at hz hcf
  subst hz
  have HV := Bx.mk h
  have hr' : r = if o = true then q + rk l true (i : Nat) else rk l false (i : Nat) := by rw [← hr, ← hq]; rfl
  obtain ⟨x, hx⟩ : ∃ x, rk l o (i : Nat) = x := ⟨_, rfl⟩
  have hxl := hrk o
  rw [hx] at hxl
  have HX : Bx (((rk l o (i : Nat) : Nat) : Int) = x) := ⟨by rw [hx]⟩
  clear hr hq hrk h
  cases o
  · have HR : Bx ((x : Int) = r) := ⟨by rw [hr', ← hx]; rfl⟩
    clear hr' hx
    go_enter Tryd.func28, Tryd.ntmps28
    go_wp2_with fail
    refine (rank_any v l false i _ (HV.out.alloc _)).mono ?_
    rintro e w' ⟨rfl, rfl⟩
    go_wp2
    go_ret
    exact ⟨ret_int (by rw [HX.out, HR.out]), (Ch.refl _ w).alloc _⟩
  · have HR : Bx (((q + x : Nat) : Int) = r) := ⟨by rw [hr', ← hx]; rfl⟩
    clear hr' hx
    have hw1 : IntKind.i64.wrap ((q : Int) + (x : Int)) = ((q + x : Nat) : Int) := by rw [IntWalk.i64_in _ (by omega)]; omega
    have hw2 : wrap64 ((q : Int) + (x : Int)) = ((q + x : Nat) : Int) := by unfold wrap64; omega
    go_enter Tryd.func28, Tryd.ntmps28
    go_wp2_with fail
    obtain ⟨c0, c1⟩ := cells2 w (.pointer (some ⟨v, 0, none⟩)) (.int .i64 q) 52
    have HC := Bx.mk ((Ch.refl (fun _ => False) w).alloc (.cells #[.pointer (some ⟨v, 0, none⟩), .int .i64 q] 52))
    generalize World.alloc w _ = w1 at *
    go_quiet ((go_at_call 33; exact rankq_val v l true i x w1 _ (HV.out.keep HC.out) HX.out))
    go_wp2
    go_ret
    exact ⟨ret_int (by have := HR.out; omega), HC.out.drewN _⟩
theorem selectT_val (b : Nat) (l : List Bool) (o : Bool) (k r : Int) (w : World) (h : Vec w F b l) (hT : Tab w) (hr : sel l o k = r) :
    Calls Tryd.prog 37 #[.pointer (some ⟨b, 0, none⟩), .bool o, .int .i64 k] w fun e w' => e = .returned (.int .i64 r) ∧ Ch (fun _ => False) w w' := by
  subst hr
  exact select_any b l o k w h hT
theorem Tab.keep {w w' : World} (h : Tab w) (hc : Ch (fun _ => False) w w') : Tab w' := TabAt.keep hc h (fun h => h)
/-- Up. -/
theorem up_any (v i : Nat) (l : List Bool) (o : Bool) (z r : Int) (w : World) (h : Vec w F v l) (hT : Tab w) (hi : i ≤ l.length) (hz : z = (l.count false : Nat)) (hr : sel l o ((i : Int) - (if o = true then (l.count false : Int) else 0)) = r) :
    Calls Tryd.prog 32 #[.agg #[.pointer (some ⟨v, 0, none⟩), .int .i64 z], .bool o, .int .i64 i] w fun e w' => e = .returned (.int .i64 r) ∧ Ch (fun _ => False) w w' := by
  have hl := h.short
  have hcf : l.count false ≤ l.length := List.count_le_length
  obtain ⟨q, hq⟩ : ∃ q, l.count false = q := ⟨_, rfl⟩
  rw [hq] at hz hcf hr
  subst hz
  have HV := Bx.mk h
  have HT := Bx.mk hT
  clear hq h hT
  have hC := (Ch.refl (fun _ => False) w).alloc (.cells #[.pointer (some ⟨v, 0, none⟩), .int .i64 q] 52)
  have HC := Bx.mk hC
  cases o
  · have hr' : sel l false (i : Int) = r := by rw [← hr]; simp
    have HR := Bx.mk hr'
    clear hr hr' hC
    go_enter Tryd.func32, Tryd.ntmps32
    go_wp2_with fail
    refine (selectT_val v l false i r _ (HV.out.keep HC.out) (HT.out.keep HC.out) HR.out).mono ?_
    rintro e w' ⟨rfl, hC'⟩
    go_wp2
    go_ret
    exact ⟨rfl, HC.out.trans hC' (fun _ _ h => h)⟩
  · have hr' : sel l true ((i : Int) - (q : Int)) = r := by rw [← hr]; simp
    have HR := Bx.mk hr'
    clear hr hr' hC
    obtain ⟨y, hy⟩ : ∃ y, (i : Int) - (q : Int) = y := ⟨_, rfl⟩
    have hw : IntKind.i64.wrap ((i : Int) - (q : Int)) = y := by rw [IntWalk.i64_in _ (by omega)]; exact hy
    rw [hy] at HR
    go_enter Tryd.func32, Tryd.ntmps32
    go_wp2_with fail
    refine (selectT_val v l true y r _ (HV.out.keep HC.out) (HT.out.keep HC.out) HR.out).mono ?_
    rintro e w' ⟨rfl, hC'⟩
    go_wp2
    go_ret
    exact ⟨rfl, HC.out.trans hC' (fun _ _ h => h)⟩
end
end Go.Proofs.YtbckiefkppgipaaDoor
