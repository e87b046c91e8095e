/-
  The contract of op's DecodeReply.
  Conditions: the bytes read as they say; not too many.
-/
import Derived.Test.YtanhnaohmaepoaaOpRd
import Derived.Test.YtanhnaohmaepoaaOpGoodM
import Derived.Test.YtanhnaohmaepoaaOpRdr
import Derived.Deep.DeepCutAuto
import Derived.RegionTactic
import Derived.Deep.RegionLaw
namespace Go.Proofs.Ytanhnaohmaepoaa
open Go.RowKit Go.Oct Go.Su Go.Sg Go.Om

theorem step_app1 {P : Program} {t e : TypeId} {z : Value} {bytes : Nat} {ops : Array Oper} {o : Oper} {a : Act} {w : World} {K : Act → World → Prop} {Q : Exit → Act → World → Prop} {E : Prop} {F : Nat → Prop} (hg : o.guard = none) (s x : Operand) (T : Elem P t e z bytes)
    (hop : o.op = Op.call { callee := Callee.builtin Builtin.append, args := #[s, x], argTypes := #[t, t] }) {v : Value} {n : Nat} {xs : List Value} (hs : a.eval s = v) (hown : w.ownsRow 0 e 1 v n xs)
    {A : Option Addr} {m c : Nat} {news : List Value} (hx : a.eval x = .slice A m c) (hr : Vs w F A m news) (h1 : ∀ u ∈ news, u.oneCell' = true) (hb : (n + m) * bytes ≤ 140737488355328) (h63 : n + m ≤ 140737488355328)
    (h : ∀ v' w', w'.ownsRow 0 e 1 v' (n + m) (xs ++ news) → w.grownBy w' v.ownBlock → (v'.ownBlock = v.ownBlock ∨ v'.ownBlock = some w.heap.size) → K (a.put o.dst v') w') :
    if Region.wanted o (yielded ops a.tmps) = true then Oper.wp P o a w K Q else E := by
  have hw : Region.wanted o (yielded ops a.tmps) = true := by simp [Region.wanted, hg]
  rw [if_pos hw]
  obtain ⟨v', w', hrun, h2, h3, h4⟩ := run_app (P := P) w o.type T hown (c := c) hr h1 hb h63
  unfold Oper.wp execOp
  simp only [hop, resolve, invoke, builtin, Sem.run_bind, Sem.run_pure, Result.andThen_ok, List.map_toArray, List.map_cons, List.map_nil, hs, hx, hrun]
  exact h v' w' h2 h3 h4
/-- A reply's memory. -/
def RpB (w : World) (b : Nat) (z : Int) (v : Value) : Prop := w.heap[b]? = some (.cells #[.int .i64 z, v] 41 (0, 0))
section
variable {w w' : World} {b : Nat} {z : Int} {v : Value}
theorem RpB.ch {S : Nat → Prop} (h : RpB w b z v) (hc : Ch S w w') (h0 : ¬ S b) : RpB w' b z v := (hc.block b (Array.getElem?_eq_some_iff.1 h).1 h0).trans h
theorem RpB.facts (h : RpB w b z v) : w.cell? ⟨b, 0, none⟩ = some (.int .i64 z) ∧ w.cell? ⟨b, 1, none⟩ = some v ∧ w.frozen? ⟨b, 0, none⟩ = false ∧ w.frozen? ⟨b, 1, none⟩ = false := by
  unfold RpB at h
  simp [World.cell?, World.frozen?, h]
theorem RpB.set1 (h : RpB w b z v) (u : Value) : RpB (w.setCell ⟨b, 1, none⟩ u) b z u := by
  unfold RpB at h ⊢
  simp [World.setCell, Array.getElem?_modify, h]
end
section
variable {F : Nat → Prop}
/-- What DecodeReply leaves. -/
def PRepPost (xs : List Int) (w : World) (e : Ending) (w' : World) : Prop :=
  (∃ (er : Nat) (l : List Nat) (A : Option Addr) (c : Nat), GoodR er l xs ∧ e = .returned (.tuple #[.agg #[.int .i64 (er : Nat), .slice A l.length c], .int .i64 0]) ∧ Gs 3 1 w w' (.slice A l.length c) l.length (vals l)) ∨
  ((∀ er l, ¬ GoodR er l xs) ∧ e = .returned (.tuple #[.agg #[.int .i64 0, .slice none 0 0], .int .i64 3]) ∧ Ch (fun _ => False) w w')
theorem PRepPost.yes {xs : List Int} {w w' : World} {er k : Nat} {l : List Nat} {A : Option Addr} {c : Nat} (h : GoodR er l xs) (hl : l.length = k) (hr : Gs 3 1 w w' (.slice A k c) k (vals l)) : PRepPost xs w (.returned (.tuple #[.agg #[.int .i64 (er : Nat), .slice A k c], .int .i64 0])) w' := by
  subst hl
  exact .inl ⟨er, l, A, c, h, rfl, hr⟩
/-- The numbers under way: k are taken. -/
structure PU (s : Bool × List Int) (E : Int) (w wr : World) (bq br bd : Nat) (v : Value) (k : Nat) : Prop where
  row : Gs 3 1 w wr v k (vals (nvs s k))
  rd : O.RdQ (fun b => b < br) wr br (nst s k).1 (nst s k).2
  said : RpB wr bd E v
  zero : RpB wr bq 0 (.slice none 0 0)
  apart : ∀ g, v.ownBlock = some g → bd < g
structure Plc (w : World) (bq br bd : Nat) : Prop where
  q : w.heap.size ≤ bq
  r : bq < br
  d : br < bd
theorem PU.next {s : Bool × List Int} {E : Int} {w wr w3 w5 : World} {bq br bd k : Nat} {v v' : Value} (h : PU s E w wr bq br bd v k) (hp : Plc w bq br bd) {o : Obj}
    (hr3 : O.RdQ (fun b => b < br) w3 br (nb (nst s k).2) (nr (nst s k).2)) (hc3 : Ch (O.RS br) wr w3)
    (ho : w5.ownsRow 0 3 1 v' (k + 1) (vals (nvs s k) ++ [.int .i64 (nv (nst s k).2 : Nat)])) (hg : (w3.alloc o).grownBy w5 v.ownBlock) (hb : v'.ownBlock = v.ownBlock ∨ v'.ownBlock = some (w3.alloc o).heap.size) : PU s E w (w5.setCell ⟨bd, 1, none⟩ v') bq br bd v' (k + 1) := by
  have hq := hp.q
  have hr := hp.r
  have hd := hp.d
  have hlt3 := O.RdQ.lt hr3
  have hs3 := h.said.ch hc3 (fun (e : bd = br) => by omega)
  have hz3 := h.zero.ch hc3 (fun (e : bq = br) => by omega)
  have hbd3 := (Array.getElem?_eq_some_iff.1 hs3).1
  have h3 : Gs 3 1 w w3 v k (vals (nvs s k)) := ⟨hc3.own h.row.own (fun g hg (e : g = br) => by have := h.apart g hg; omega), h.row.lies, h.row.ch.trans hc3 (fun i hi (e : i = br) => by omega)⟩
  have hap : ∀ g, v'.ownBlock = some g → bd < g := fun g hg => by
    rcases hb with hb | hb
    · exact h.apart g (hb ▸ hg)
    · rw [hb] at hg
      injection hg with hg
      have := World.size_alloc w3 o
      omega
  have hC : Ch (fun b => v.ownBlock = some b) w3 w5 := ((Ch.refl (fun b => v.ownBlock = some b) w3).alloc o).grown hg (fun _ h => .inl h)
  have hC6 : Ch (fun b => b = bd) w5 (w5.setCell ⟨bd, 1, none⟩ v') := ch_set
  have h5 : Gs 3 1 w w5 v' (k + 1) (vals (nvs s k) ++ [.int .i64 (nv (nst s k).2 : Nat)]) := h3.app (m := 1) ((Ch.refl _ _).alloc o) ho hg hb
  have hs5 := hs3.ch hC (fun e => by have := h.apart bd e; omega)
  refine ⟨?_, ?_, hs5.set1 v', (hz3.ch hC (fun e => by have := h.apart bq e; omega)).ch hC6 (by omega), hap⟩
  · rw [nvs_more]
    unfold vals
    rw [List.map_append]
    exact ⟨hC6.own h5.own (fun g hg (e : g = bd) => by have := hap g hg; omega), h5.lies, h5.ch.trans hC6 (fun i hi (e : i = bd) => by omega)⟩
  · exact rdq_keep (rdq_keep hr3 hC (fun e => by have := h.apart br e; omega) (fun b hb _ e => by have h1 := h.apart b e; have h2 : b < br := hb; omega)) hC6 (fun (e : br = bd) => by omega) (fun b hb _ (e : b = bd) => by have h2 : b < br := hb; omega)
theorem PU.said_ {s : Bool × List Int} {E : Int} {w wr w3 w5 : World} {bq br bd k : Nat} {v : Value} (h : PU s E w wr bq br bd v k) (hp : Plc w bq br bd) {o : Obj}
    (hc3 : Ch (O.RS br) wr w3) (hg : (w3.alloc o).grownBy w5 v.ownBlock) : RpB w5 bd E v := by
  have hd := hp.d
  have hs3 := h.said.ch hc3 (fun (e : bd = br) => by omega)
  have hC : Ch (fun b => v.ownBlock = some b) w3 w5 := ((Ch.refl (fun b => v.ownBlock = some b) w3).alloc o).grown hg (fun _ h => .inl h)
  exact hs3.ch hC (fun e => by have := h.apart bd e; omega)
theorem set2_ch {w wc : World} {bq : Nat} {u0 u1 : Value} (h : Ch (fun _ => False) w wc) (hb : w.heap.size ≤ bq) : Ch (fun _ => False) w ((wc.setCell ⟨bq, 0, none⟩ u0).setCell ⟨bq, 1, none⟩ u1) :=
  h.trans (((Ch.refl (fun b => b = bq) wc).setCell (p := ⟨bq, 0, none⟩) (.inl rfl) _).setCell (p := ⟨bq, 1, none⟩) (.inl rfl) _) (fun i hi (e : i = bq) => by omega)
theorem set2_gs {w wc : World} {bq n : Nat} {v u0 u1 : Value} {us : List Value} (h : Gs 3 1 w wc v n us) (hb : w.heap.size ≤ bq) (hne : ∀ g, v.ownBlock = some g → g ≠ bq) : Gs 3 1 w ((wc.setCell ⟨bq, 0, none⟩ u0).setCell ⟨bq, 1, none⟩ u1) v n us :=
  ⟨(((Ch.refl (fun b => b = bq) wc).setCell (p := ⟨bq, 0, none⟩) (.inl rfl) u0).setCell (p := ⟨bq, 1, none⟩) (.inl rfl) u1).own h.own (fun g hg => hne g hg), h.lies, set2_ch h.ch hb⟩
set_option maxHeartbeats 2000000 in
theorem decrep_any (xs : List Int) (A : Option Addr) (n c : Nat) (w : World) (hz : Sl w F .u8 A n xs) (hby : Byt xs) (hn : n ≤ 90000) (hnc : n ≤ c) (hc : c ≤ maxLen) :
    Calls Try.prog 17 #[.slice A n c] w (PRepPost xs w) := by
  have HN : Bx (xs.length ≤ 90000) := ⟨by rw [hz.len]; omega⟩
  have HBY := Bx.mk hby
  obtain ⟨bq, hbq⟩ : ∃ bq, w.heap.size = bq := ⟨_, rfl⟩
  obtain ⟨w1, hw1⟩ : ∃ w1, w.alloc (.cells #[.int .i64 0, .slice none 0 0] 41) = w1 := ⟨_, rfl⟩
  have hs1 : w1.heap.size = bq + 1 := by rw [← hw1, ← hbq, World.size_alloc]
  obtain ⟨w2, hw2⟩ : ∃ w2, w1.alloc (.cells #[.int .i64 0] 3) = w2 := ⟨_, rfl⟩
  have hs2 : w2.heap.size = bq + 2 := by rw [← hw2, World.size_alloc, hs1]
  obtain ⟨w3, hw3⟩ : ∃ w3, w2.alloc (.cells #[.int .i64 0] 3) = w3 := ⟨_, rfl⟩
  have hs3 : w3.heap.size = bq + 3 := by rw [← hw3, World.size_alloc, hs2]
  have hC1 : Ch (fun _ => False) w w1 := by rw [← hw1]; exact (Ch.refl _ _).alloc _
  have hC12 : Ch (fun _ => False) w1 w2 := by rw [← hw2]; exact (Ch.refl _ _).alloc _
  have hC23 : Ch (fun _ => False) w2 w3 := by rw [← hw3]; exact (Ch.refl _ _).alloc _
  have hC3 := (hC1.trans hC12 (fun _ _ h => h)).trans hC23 (fun _ _ h => h)
  have hzq : RpB w3 bq 0 (.slice none 0 0) := by
    refine RpB.ch (w := w1) ?_ (hC12.trans hC23 (fun _ _ h => h)) (fun h => h)
    rw [← hw1, ← hbq]; exact heap_alloc_new w _
  have hve : Iv w3 (bq + 1) 0 := by
    refine Iv.ch (w := w2) ?_ hC23 (fun h => h)
    rw [← hw2, ← hs1]; exact heap_alloc_new w1 _
  have hvn : Iv w3 (bq + 2) 0 := by rw [← hw3, ← hs2]; exact heap_alloc_new w2 _
  have HR := Bx.mk (newrd_any A n c xs w3 F (hz.ch hC3 (fun _ _ _ h => h)) (by omega) hnc hc hby)
  have HZQ := Bx.mk hzq
  have HVE := Bx.mk hve
  have HVN := Bx.mk hvn
  have HC3 := Bx.mk hC3
  have HBQ := Bx.mk hbq
  clear hz hby hC1 hC12 hC23 hC3 hzq hve hvn
  go_enter Try.func17, Try.ntmps17
  go_wp2_with fail
  refine HR.out.mono ?_
  rintro e w4 ⟨br, rfl, hbr, hR4, hC4⟩
  rw [hs3] at hbr hR4
  have hC04 := HC3.out.trans hC4 (fun _ _ h => h)
  have hlt4 := O.RdQ.lt hR4
  have hC45 := (Ch.refl (fun _ => False) w4).alloc (.cells #[.pointer (some ⟨bq + 1, 0, none⟩), .pointer (some ⟨bq + 2, 0, none⟩)] 73)
  have HM := Bx.mk (nums2_any br w4.heap.size (bq + 1) (bq + 2) false xs 0 0 _ (rdq_keep hR4 hC45 (fun h => h) (fun _ _ _ h => h)) (fun b hb => by have := hb.1; omega)
    (ncells_at (j := 0) rfl) (ncells_at (j := 1) rfl) ((HVE.out.ch hC4 (fun h => h)).ch hC45 (fun h => h)) ((HVN.out.ch hC4 (fun h => h)).ch hC45 (fun h => h)) (by omega) (by omega) (by omega) (by omega) (by omega))
  have HZQ4 := Bx.mk ((HZQ.out.ch hC4 (fun h => h)).ch hC45 (fun h => h))
  have HC4 := Bx.mk (hC04.alloc (.cells #[.pointer (some ⟨bq + 1, 0, none⟩), .pointer (some ⟨bq + 2, 0, none⟩)] 73))
  have HBR := Bx.mk hbr
  clear hR4 hC4 hC04 hlt4 hC45 HR HC3 HZQ HVE HVN hbr
  go_wp2_with fail
  refine HM.out.mono ?_
  rintro e w5 ⟨rfl, hR5, hE5, hN5, hC5⟩
  clear hw1 hw2 hw3 hs1 hs2 hs3
  have hR5 : O.RdQ (fun b => b < br) w5 br (nst (rs0 xs) 0).1 (nst (rs0 xs) 0).2 := by
    obtain ⟨A', n', c', h1, h2, h3⟩ := hR5
    exact ⟨A', n', c', h1, h2.mono fun b _ hb => ⟨hb.1, hb.2.2⟩, h3⟩
  have hZ5 := HZQ4.out.ch hC5 (fun h => by have := HBR.out; omega)
  have hC05 := HC4.out.trans hC5 (fun i hi h => by have := HBR.out; have := HBQ.out; omega)
  obtain ⟨z0, z1, y0, y1⟩ := hZ5.facts
  obtain ⟨ke, _⟩ := hE5.facts
  obtain ⟨kn, _⟩ := hN5.facts
  obtain ⟨E, hE⟩ : ∃ E, nv xs = E := ⟨_, rfl⟩
  rw [hE] at ke
  have HE := Bx.mk hE
  obtain ⟨N, hNN⟩ : ∃ N, nv (nr xs) = N := ⟨_, rfl⟩
  rw [hNN] at kn
  have HNN := Bx.mk hNN
  have HC5 := Bx.mk hC05
  have HR5 := Bx.mk hR5
  have HZ5 := Bx.mk hZ5
  clear hR5 hE5 hN5 hC5 hZ5 hC05 HM HZQ4 HC4 hE hNN
  by_cases hbig : 100 < E ∨ 8 < N
  · have HNO : Bx (∀ er l, ¬ GoodR er l xs) := ⟨fun er l hg => by
      obtain ⟨a1, a2, _, _⟩ := goodR_take hg
      have h1 := hg.err
      have h2 := hg.few
      have := HE.out
      have := HNN.out
      omega⟩
    by_cases h1 : 100 < E
    · have d1 : decide ((100 : Int) < (E : Int)) = true := decide_eq_true (by omega)
      clear hbig
      go_wp2_with fail
      refine bodyPost_ret (v := .tuple #[.agg #[.int .i64 0, .slice none 0 0], .int .i64 3]) (by simp [results, Try.results17, go_sem, z0, z1]) rfl ?_
      exact .inr ⟨HNO.out, rfl, set2_ch HC5.out (Nat.le_of_eq HBQ.out)⟩
    · have d1 : decide ((100 : Int) < (E : Int)) = false := decide_eq_false (by omega)
      have d12 : decide (100 < E) = false := decide_eq_false (by omega)
      have d2 : decide ((8 : Int) < (N : Int)) = true := decide_eq_true (by omega)
      clear hbig
      go_wp2_with fail
      refine bodyPost_ret (v := .tuple #[.agg #[.int .i64 0, .slice none 0 0], .int .i64 3]) (by simp [results, Try.results17, go_sem, z0, z1]) rfl ?_
      exact .inr ⟨HNO.out, rfl, set2_ch HC5.out (Nat.le_of_eq HBQ.out)⟩
  · have d1 : decide ((100 : Int) < (E : Int)) = false := decide_eq_false (by omega)
    have d12 : decide (100 < E) = false := decide_eq_false (by omega)
    have d2 : decide ((8 : Int) < (N : Int)) = false := decide_eq_false (by omega)
    have d22 : decide (8 < N) = false := decide_eq_false (by omega)
    have hN8 : N ≤ 8 := by omega
    have HE100 : Bx (E ≤ 100) := ⟨by omega⟩
    clear hbig
    obtain ⟨w6, hw6⟩ : ∃ w6, w5.alloc (.cells #[.int .i64 (E : Nat), .slice none 0 0] 41) = w6 := ⟨_, rfl⟩
    obtain ⟨bd, hbd⟩ : ∃ bd, w5.heap.size = bd := ⟨_, rfl⟩
    have hC6 : Ch (fun _ => False) w5 w6 := by rw [← hw6]; exact (Ch.refl _ _).alloc _
    have HPL : Bx (Plc w bq br bd) := ⟨⟨Nat.le_of_eq HBQ.out, by have := HBR.out; omega, by rw [← hbd]; exact O.RdQ.lt HR5.out⟩⟩
    have HPU : Bx (PU (rs0 xs) E w w6 bq br bd (.slice none 0 0) 0) := ⟨⟨Gs.nilAt _ _ (HC5.out.trans hC6 (fun _ _ h => h)), rdq_keep HR5.out hC6 (fun h => h) (fun _ _ _ h => h), by rw [← hw6, ← hbd]; exact heap_alloc_new w5 _, HZ5.out.ch hC6 (fun h => h), fun g hg => by simp [Value.ownBlock] at hg⟩⟩
    have x1 := hC6.cell (fun h => h) kn
    have x2 : (w5.alloc (.cells #[.int .i64 (E : Nat), .slice none 0 0] 41)).cell? ⟨bq + 2, 0, none⟩ = some (.int .i64 (N : Nat)) := by rw [hw6]; exact x1
    have HW6 := Bx.mk hw6
    clear hC6 z0 z1 y0 y1 hw6 x1
    go_wp2_with fail
    rw [HW6.out]
    clear hbd ke kn x2 HC5 HR5 HZ5 HW6
    go_loopw [23] (fun i wr => ∃ (k : Nat) (v : Value), k ≤ N ∧ i = .int .i64 k ∧ Bx (PU (rs0 xs) E w wr bq br bd v k)) (fun i _ => N - (intOf i).toNat)
    case atStart => exact ⟨0, _, Nat.zero_le _, rfl, HPU⟩
    case round =>
      obtain ⟨k, v, hk, rfl, HU⟩ := hrel
      obtain ⟨wo, rfl⟩ : ∃ wo : World, wo = wr := ⟨_, rfl⟩
      by_cases hlt : k < N
      · have dk : decide ((k : Int) < (N : Int)) = true := decide_eq_true (by omega)
        have dk2 : decide (k < N) = true := decide_eq_true hlt
        have hRD : O.RdQ (fun b => b < br) wo.drew br (nst (rs0 xs) k).1 (nst (rs0 xs) k).2 := rdq_keep HU.out.rd ((Ch.refl (fun _ => False) wo).drew) (fun h => h) (fun _ _ _ h => h)
        have HS := Bx.mk (O.num_step br (nst (rs0 xs) k).1 (nst (rs0 xs) k).2 wo.drew hRD)
        obtain ⟨_, t1, _, t2⟩ := HU.out.said.facts
        obtain ⟨A1, c1, rfl, h11, h12⟩ := HU.out.row.shape
        obtain ⟨X, hX⟩ : ∃ X, nv (nst (rs0 xs) k).2 = X := ⟨_, rfl⟩
        have HX := Bx.mk hX
        rw [hX] at HS
        clear hRD hX
        go_upto_region 9 with fail
        go_region_law ((first
          | (go_simp; go_at_call 41; refine (HS.out).mono ?_; rintro e w7 ⟨rfl, hR, hC⟩; have hcc : Ch (O.RS br) wo w7 := ((Ch.refl (O.RS br) wo).drew).trans hC (fun _ _ h => h); have HR7 := Bx.mk hR; have HC7 := Bx.mk hcc; have t7 := hcc.cell (p := ⟨bd, 1, none⟩) (fun (e : bd = br) => by have := HPL.out.d; omega) t1; have t8 := fun o => (((Ch.refl (fun _ => False) w7).alloc o).cell (fun h => h) t7); have HOW := Bx.mk (hcc.own HU.out.row.own (fun g hg (e : g = br) => by have h1 := HU.out.apart g hg; have := HPL.out.d; omega)); clear hR hC hcc)
          | (refine step_app1 rfl (.tmp 26) (.tmp 29) elemI rfl rfl (HOW.out.alloc _) rfl (Vs.one _ _ _) (by intro u hu; simp at hu; subst hu; rfl) (by omega) (by omega) ?_; intro v9 w9 ho hg hb; obtain ⟨A9, c9, rfl, _, _⟩ := own_shape ho; have hs9 := HU.out.said_ HPL.out HC7.out hg; obtain ⟨_, p1, _, p2⟩ := hs9.facts; have HU9 : Bx (PU (rs0 xs) E w (w9.setCell ⟨bd, 1, none⟩ (.slice A9 (k + 1) c9)) bq br bd (.slice A9 (k + 1) c9) (k + 1)) := ⟨by rw [← HX.out] at ho; exact HU.out.next HPL.out HR7.out HC7.out ho hg hb⟩; clear ho hg hb hs9)))
        all_goals
          go_wp2_with fail
          refine ⟨⟨k + 1, _, by omega, by go_num, HU9⟩, ?_⟩
          simp [intOf]
          omega
      · obtain rfl : N = k := by omega
        have dk : decide ((N : Int) < (N : Int)) = false := decide_eq_false (by omega)
        have dk2 : decide (N < N) = false := decide_eq_false (by omega)
        have HWH := Bx.mk (O.whole_any br _ _ wo HU.out.rd)
        obtain ⟨en, hen⟩ : ∃ en, (!(nst (rs0 xs) N).1 && (nst (rs0 xs) N).2.isEmpty) = en := ⟨_, rfl⟩
        have HEN := Bx.mk hen
        rw [hen] at HWH
        obtain ⟨A1, c1, rfl, h11, h12⟩ := HU.out.row.shape
        obtain ⟨u0, u1, _, _⟩ := HU.out.said.facts
        obtain ⟨z0, z1, y0, y1⟩ := HU.out.zero.facts
        clear hen
        go_wp2_with fail
        refine HWH.out.mono ?_
        rintro e w8 ⟨rfl, rfl⟩
        clear HWH
        cases en with
        | false =>
          have HNO : Bx (∀ er l, ¬ GoodR er l xs) := ⟨fun er l hg => by
            obtain ⟨a1, a2, a3, _⟩ := goodR_take hg
            have h := HEN.out
            rw [← HNN.out, a2, a3] at h
            simp at h⟩
          go_wp2_with fail
          refine bodyPost_ret (v := .tuple #[.agg #[.int .i64 0, .slice none 0 0], .int .i64 3]) (by simp [results, Try.results17, go_sem, z0, z1]) rfl ?_
          exact .inr ⟨HNO.out, rfl, set2_ch HU.out.row.ch HPL.out.q⟩
        | true =>
          have HG : Bx (GoodR E (nvs (rs0 xs) N) xs) := ⟨by
            have h := HEN.out
            rw [Bool.and_eq_true, Bool.not_eq_true', List.isEmpty_iff] at h
            have h2 := goodR_of HBY.out (by rw [HNN.out]; exact Prod.ext h.1 h.2) (by rw [HE.out]; exact HE100.out) (by rw [HNN.out]; exact hN8)
            rw [HE.out, HNN.out] at h2
            exact h2⟩
          go_wp2_with fail
          refine bodyPost_ret (v := .tuple #[.agg #[.int .i64 (E : Nat), .slice A1 N c1], .int .i64 0]) (by simp [results, Try.results17, go_sem, z0, z1]) rfl ?_
          exact PRepPost.yes HG.out (nvs_len _ _) (set2_gs HU.out.row HPL.out.q (fun g hg e => by have h1 := HU.out.apart g hg; have h2 := HPL.out.r; have h3 := HPL.out.d; omega))
end
end Go.Proofs.Ytanhnaohmaepoaa
