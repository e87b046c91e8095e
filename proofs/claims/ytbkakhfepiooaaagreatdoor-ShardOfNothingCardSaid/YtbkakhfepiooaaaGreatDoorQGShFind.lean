/- Lemmas and contracts of this proof. Conditions: said at each. -/
import Derived.Test.YtbkakhfepiooaaaGreatDoorQShOpen
import Derived.Test.YtbkakhfepiooaaaGreatDoorQShSort
namespace Go.Proofs.YtbkakhfepiooaaaGreatDoor
section
open Go.RowKit Go.Oct Go.Su Go.Sg Go.Om Go.Sh Go.Maps
section
variable {w w' W : World} {P PT F : Nat → Prop} {b t : Nat} {h : Wh} {m : Sm}
theorem vals_at {A : Option Addr} {n : Nat} {l : List (Key × Int)} (hz : Mts w F A n l) {ad : Addr} (hA : A = some ad) : ∀ j u, (valM l)[j]? = some u → w.cell? (ad.add j) = some u := by
  intro j u hu
  have hj : j < l.length * 2 := by rw [← valM_len]; exact (List.getElem?_eq_some_iff.1 hu).1
  have hln := hz.1
  obtain ⟨b', off, x, e, _, hx, c0, c1⟩ := hz.get (j := j / 2) (by omega)
  rw [hA] at e
  injection e with e
  subst e
  obtain ⟨k1, k2⟩ := valM_at hx.out
  have hadd : ∀ q, (⟨b', off, none⟩ : Addr).add q = ⟨b', off + q, none⟩ := fun q => by unfold Addr.add; split <;> simp_all
  rw [hadd]
  rcases Nat.mod_two_eq_zero_or_one j with hm | hm
  · rw [show j / 2 * 2 = j by omega] at k1 c0
    rw [hu] at k1
    injection k1 with k1
    rw [k1]
    exact c0
  · rw [show j / 2 * 2 + 1 = j by omega] at k2
    rw [show off + j / 2 * 2 + 1 = off + j by omega] at c1
    rw [hu] at k2
    injection k2 with k2
    rw [k2]
    exact c1
theorem valM_cells (l : List (Key × Int)) : ∀ u ∈ valM l, u.oneCell' = true := by
  induction l with
  | nil => intro u hu; simp [valM] at hu
  | cons a l ih =>
    intro u hu
    have e : valM (a :: l) = kv a.1 :: Value.int .i64 a.2 :: valM l := rfl
    rw [e] at hu
    rcases List.mem_cons.1 hu with rfl | hu
    · rfl
    · rcases List.mem_cons.1 hu with rfl | hu
      · rfl
      · exact ih u hu
/-- Places laid behind nothing, as a run. -/
theorem run_appM {ty : TypeId} {A : Option Addr} {n c : Nat} {l : List (Key × Int)} (hz : Mts w F A n l) (hn : n ≤ 1000000000000) :
    ∃ v' w', (Builtin.append_ #[27, 27] ty #[.slice none 0 0, .slice A n c]).run Tryz.prog w = .ok v' w' ∧ w'.ownsRow 0 73 2 v' n (valM l) ∧ (∀ g, v'.ownBlock = some g → w.heap.size ≤ g) ∧ Ch (fun _ => False) w w' := by
  cases A with
  | none =>
    have h0 : n = 0 := by
      rcases Nat.eq_zero_or_pos n with h | h
      · exact h
      · obtain ⟨_, _, e, _⟩ := hz.2 h
        cases e
    subst h0
    obtain rfl : l = [] := List.eq_nil_of_length_eq_zero hz.1
    obtain ⟨i, hi, _, _, _⟩ := infoK M.elemM.info
    refine ⟨.slice none 0 0, w, ?_, World.ownsRow_nil _ _ _ _, fun g hg => by simp [Value.ownBlock] at hg, Ch.refl _ _⟩
    simp [Builtin.append_, run_underlying M.elemM.t, sizeOf, typeInfo, hi, Builtin.lenOf, Builtin.firstCells]
  | some ad =>
    obtain ⟨v', w', h1, h2, h3, h4⟩ := M.run_appK w ty M.elemM (World.ownsRow_nil w 0 73 2) (c := c) (news := valM l) (m := n) (by rw [valM_len, hz.1]) (vals_at hz rfl) (valM_cells l) (by omega) (by omega)
    rw [Nat.zero_add, List.nil_append] at h2
    refine ⟨v', w', h1, h2, fun g hg => ?_, (Ch.refl (fun _ => False) w).grown h3 (fun k hk => by simp [Value.ownBlock] at hk)⟩
    rcases h4 with h4 | h4
    · rw [h4] at hg; simp [Value.ownBlock] at hg
    · rw [h4] at hg; injection hg with hg; omega
theorem step_appM {ops : Array Oper} {o : Oper} {a : Act} {K : Act → World → Prop} {Q : Exit → Act → World → Prop} {E : Prop} (hg : o.guard = none) (s x : Operand)
    (hop : o.op = Op.call { callee := Callee.builtin Builtin.append, args := #[s, x], argTypes := #[27, 27] }) (hs : a.eval s = .slice none 0 0) {A : Option Addr} {n c : Nat} {l : List (Key × Int)} (hx : a.eval x = .slice A n c) (hz : Mts w F A n l) (hn : n ≤ 1000000000000)
    (h : ∀ v' w', w'.ownsRow 0 73 2 v' n (valM l) → (∀ g, v'.ownBlock = some g → w.heap.size ≤ g) → Ch (fun _ => False) w w' → K (a.put o.dst v') w') :
    if Region.wanted o (yielded ops a.tmps) = true then Oper.wp Tryz.prog o a w K Q else E := by
  have hw : Region.wanted o (yielded ops a.tmps) = true := by simp [Region.wanted, hg]
  rw [if_pos hw]
  obtain ⟨v', w', hrun, h2, h3, h4⟩ := run_appM (ty := o.type) (c := c) hz hn
  unfold Oper.wp execOp
  simp only [hop, resolve, invoke, builtin, Sem.run_bind, Sem.run_pure, Result.andThen_ok, List.map_toArray, List.map_cons, List.map_nil, hs, hx, hrun]
  exact h v' w' h2 h3 h4
/-- The places as whole numbers. -/
def plI (l : List (Key × Nat)) : List (Key × Int) := l.map fun h => (h.1, (h.2 : Int))
theorem plI_mts {A : Option Addr} {n : Nat} {l : List (Key × Nat)} (hz : M.Mts w F A n l) : Mts w F A n (plI l) := by
  refine ⟨by unfold plI; rw [List.length_map]; exact hz.1, fun hn => ?_⟩
  obtain ⟨b', off, e1, e2, e3⟩ := hz.2 hn
  refine ⟨b', off, e1, e2, fun j x hx => ?_⟩
  unfold plI at hx
  rw [List.getElem?_map] at hx
  cases hy : l[j]? with
  | none => rw [hy] at hx; cases hx
  | some y =>
    rw [hy] at hx
    injection hx with hx
    subst hx
    obtain ⟨cs, k1, k2, k3⟩ := e3 j y hy
    exact ⟨cs, k1, k2, k3⟩
theorem finds_order (ds : List Dc) (p : List Int) (hr : RiseF (·.1) ds) : (plI (finds ds p)).Pairwise ltM := by
  induction ds with
  | nil => exact List.Pairwise.nil
  | cons d ds ih =>
    obtain ⟨h1, h2⟩ := List.pairwise_cons.1 hr
    have e : plI (finds (d :: ds) p) = ((ats d.2 p).map fun a : Nat => (d.1, (a : Int))) ++ plI (finds ds p) := by
      unfold plI finds
      rw [List.flatMap_cons, List.map_append, List.map_map]
      rfl
    rw [e]
    refine List.pairwise_append.2 ⟨?_, ih h2, fun x hx y hy => ?_⟩
    · rw [List.pairwise_map]
      exact List.Pairwise.imp (S := fun a b : Nat => ltM (d.1, (a : Int)) (d.1, (b : Int))) (fun {a b} hab => Or.inr ⟨rfl, by show (a : Int) < b; omega⟩) (atsS_sorted d.2 p)
    · obtain ⟨a, _, rfl⟩ := List.mem_map.1 hx
      unfold plI finds at hy
      obtain ⟨z, hz, rfl⟩ := List.mem_map.1 hy
      obtain ⟨d', hd, hz⟩ := List.mem_flatMap.1 hz
      obtain ⟨a', _, rfl⟩ := List.mem_map.1 hz
      exact .inl (h1 d' hd)
/-- What Find leaves. -/
def FindS (l : List (Key × Int)) (w : World) (e : Ending) (w' : World) : Prop := ∃ (A' : Option Addr) (k c' : Nat), e = .returned (.tuple #[.slice A' k c', .int .i64 0]) ∧ Mts w' (fun x => w.heap.size ≤ x) A' k l ∧ Ch (fun _ => False) w w'
theorem Mts.ch2 {A : Option Addr} {n : Nat} {l : List (Key × Int)} {q r : Nat} (h : Mts w (fun x => q ≤ x) A n l) (hq : r ≤ q) : Mts w (fun x => r ≤ x) A n l := Ro.mono h (by omega) (fun b _ hb => Nat.le_trans hq hb) (fun _ _ _ he => he)
theorem mts_own {A : Option Addr} {n c : Nat} {l : List (Key × Int)} {w0 : World} (h : Gs 73 2 w0 w (.slice A n c) n (valM l)) (hl : l.length = n) : Mts w (fun x => w0.heap.size ≤ x) A n l := Gs.mts h hl
set_option maxRecDepth 100000 in
set_option maxHeartbeats 4000000 in
theorem sfind_any (H : ShT w P PT b h m) (p : List Int) (A : Option Addr) (n c : Nat) (hp : Sl w F .u8 A n p) (hby : Byt p) (h1 : 1 ≤ n) (h64 : n ≤ 64) (hN : beg (ts m.ds) m.ds.length ≤ 1048576) :
    Calls Tryz.prog 7 #[.pointer (some ⟨b, 0, none⟩), .slice A n c] w (FindS (plI (finds m.ds p)) w) := by
  have HN := Bx.mk (none_any H)
  have HL := Bx.mk (layers_any H)
  have HC := Bx.mk (layW_ch w h.t)
  have hw1 := layW_at w h.t
  unfold layV at hw1
  have HT := Bx.mk (H.tab.keep HC.out)
  have HO := Bx.mk (finds_order m.ds p H.tab.ok.dr)
  have HP := Bx.mk (hp.ch HC.out (fun _ _ _ h => h))
  have HBY := Bx.mk hby
  have HNN := Bx.mk hN
  have d1 : ((n : Int) == 0) = false := by simpa using (by omega : ¬ (n : Int) = 0)
  have d2 : decide ((64 : Int) < (n : Int)) = false := decide_eq_false (by omega)
  have d2' : decide (64 < n) = false := decide_eq_false (by omega)
  have ef : ∀ args w, (callFunc 423 args).run Tryz.prog w = .ok (.enter 423 args) w := enters_of Tryz.func423 (by kernel_rfl) rfl
  have HFI := Bx.mk (M.mfind_any (HT.out.keep ((Ch.refl (fun _ => False) (layW w h.t)).drew)) p A n c HP.out.drew HBY.out HNN.out (by omega))
  obtain ⟨W1, hW1⟩ : ∃ W1, layW w h.t = W1 := ⟨_, rfl⟩
  obtain ⟨BL, hBL⟩ : ∃ BL, w.heap.size = BL := ⟨_, rfl⟩
  rw [hW1] at hw1 HL HFI HC
  rw [hBL] at hw1 HL
  have HBL := Bx.mk hBL
  clear H hp hby hN hW1 hBL
  go_enter Tryz.func7, Tryz.ntmps7
  go_wp2_with fail
  refine HN.out.mono ?_
  rintro e w0 ⟨rfl, rfl⟩
  go_wp2_with fail
  refine HL.out.mono ?_
  rintro e w2 ⟨rfl, rfl⟩
  go_wp2_with fail
  go_loopw [6, 26] (fun v i wr => (i = .int .i64 0 ∧ v = .slice none 0 0 ∧ wr = w2) ∨ (i = .int .i64 1 ∧ Bx (∃ A5 n5 c5, v = .slice A5 n5 c5 ∧ Gs 73 2 w2 wr (.slice A5 n5 c5) n5 (valM (plI (finds m.ds p))) ∧ (plI (finds m.ds p)).length = n5 ∧ n5 ≤ 1048576))) (fun _ i _ => 1 - (intOf i).toNat)
  case atStart => exact .inl ⟨rfl, rfl, rfl⟩
  case round =>
    rcases hrel with ⟨rfl, rfl, rfl⟩ | ⟨rfl, hr⟩
    · have HFL : Bx ((finds m.ds p).length ≤ 1048576) := ⟨Nat.le_trans (M.finds_le p m.ds) HNN.out⟩
      go_wp2_with fail
      go_region_law ((first
        | (go_simp; go_at_call 24; refine (shown_any (plI (finds m.ds p)) A3 n3 c3 HM3.out _ _ (Nat.le_trans HN3.out.2 (by omega))).mono ?_; rintro e w4 ⟨rfl, hc4⟩; have HM4 := Bx.mk (Mts.ch HM3.out hc4 (fun _ _ _ h => h)); have HC4 := Bx.mk (HC3.out.trans hc4 (fun _ _ h => h)); clear hc4)
        | (refine step_appM rfl (.tmp 31) (.tmp 38) rfl rfl rfl HM4.out (Nat.le_trans HN3.out.2 (by omega)) ?_; intro v5 w5 ho5 hl5 hc5; have HG5 := Bx.mk (And.intro ho5 (And.intro hl5 (HC4.out.trans hc5 (fun _ _ h => h)))); clear ho5 hl5 hc5)
        | (go_simp; go_invoke; go_simp; go_at_fn 423; refine HFI.out.mono ?_; rintro e w3 ⟨A3, n3, c3, rfl, hM3, _, _, hc3⟩; have HM3 := Bx.mk (plI_mts hM3); have HN3 : Bx ((plI (finds m.ds p)).length = n3 ∧ n3 ≤ 1048576) := ⟨HM3.out.1, by have := hM3.1; have := HFL.out; omega⟩; have HC3 : Bx (Ch (fun _ => False) wr w3) := ⟨((Ch.refl (fun _ => False) _).drew).trans hc3 (fun _ _ h => h)⟩; clear hM3 hc3)))
      have HG6 : Bx (∃ A5 n5 c5, v5 = .slice A5 n5 c5 ∧ Gs 73 2 _ w5 (.slice A5 n5 c5) n5 (valM (plI (finds m.ds p))) ∧ (plI (finds m.ds p)).length = n5 ∧ n5 ≤ 1048576) := ⟨by
        obtain ⟨A5, c5, rfl, _, _⟩ := own_shape HG5.out.1
        exact ⟨A5, n3, c5, rfl, ⟨HG5.out.1, (fun g hg => Nat.le_trans HC4.out.size (HG5.out.2.1 g hg)), HG5.out.2.2⟩, HN3.out.1, HN3.out.2⟩⟩
      go_wp2_with fail
      go_roundw
      case rel => exact .inr ⟨by go_num, HG6⟩
      case measure => simp [intOf]
    · obtain ⟨A5, n5, c5, rfl, hG, hl5, hn5⟩ := hr.out
      have HS := Bx.mk (sortm_any (plI (finds m.ds p)) A5 n5 c5 _ wr hG hl5 (by omega))
      have HL5 := Bx.mk hl5
      clear hG hl5 hr
      go_wp2_with fail
      refine HS.out.mono ?_
      rintro e w7 ⟨rfl, hG7, _⟩
      rw [sortM_id HO.out] at hG7
      have HG7 := Bx.mk hG7
      clear hG7 HS
      go_wp2_with fail
      go_ret2
      exact ⟨A5, n5, c5, rfl, Mts.ch2 (mts_own HG7.out HL5.out) (by have := HC.out.size; have := HBL.out; omega), HC.out.trans HG7.out.ch (fun _ _ h => h)⟩
end
end
section
open Go.RowKit Go.Oct Go.Su Go.Sg Go.Om Go.Sh Go.Maps
theorem beg_few : ∀ (l : List (List Int)) (d : Nat), (∀ t ∈ l, t.length ≤ 4096) → beg l d ≤ l.length * 4097
  | [], d, _ => by simp [beg]
  | t :: l, 0, _ => by simp [beg]
  | t :: l, d + 1, h => by
    have h1 := beg_few l d fun u hu => h u (List.mem_cons_of_mem _ hu)
    have h2 := h t (List.mem_cons_self ..)
    unfold beg at h1 ⊢
    rw [List.take_succ_cons, List.map_cons, List.sum_cons, List.length_cons]
    omega
theorem shSpec : ShSpec ShP where
  lt := by
    rintro w P b m ⟨PT, h, H⟩
    exact H.lt
  ch := by
    rintro w w' P T b m ⟨PT, h, H⟩ hc hP hV
    exact ⟨PT, h, H.ch hc hP hV⟩
  mx := by
    rintro w P b m ⟨PT, h, H⟩
    obtain ⟨v, hv⟩ := H.mx
    exact ⟨H.mx, H.mp, lt_of_cell hv⟩
  open_ := fun w S d room hd hmx hms => open_new [100] (by decide) (by decide) hd hmx hms
  apply_ := by
    rintro w P F b m o xs A n c ⟨PT, h, H⟩ hg hz hby hn hnc hc hfw
    exact apply_ok H o xs A n c hg hz hby hn hnc hc hfw
  get_ := by
    rintro w P b m k ⟨PT, h, H⟩ hk
    exact sget_any H k (by have := hk.2; omega)
  find_ := by
    rintro w P F b m p A n c ⟨PT, h, H⟩ hp hby h1 h64 hfw
    refine sfind_any H p A n c hp hby h1 h64 ?_
    have h1 := beg_few (ts m.ds) m.ds.length fun t ht => by
      unfold ts at ht
      obtain ⟨d, hd, rfl⟩ := List.mem_map.1 ht
      exact H.tab.ok.len d hd
    have h2 : (ts m.ds).length = m.ds.length := by simp [ts]
    have h3 := hfw.1
    rw [h2] at h1
    omega
  applied_ := by
    rintro w P b m ⟨PT, h, H⟩
    exact applied_any H
end
end Go.Proofs.YtbkakhfepiooaaaGreatDoor
