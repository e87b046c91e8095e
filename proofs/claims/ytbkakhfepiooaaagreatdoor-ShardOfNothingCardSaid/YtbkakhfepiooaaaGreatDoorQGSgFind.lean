/- Lemmas and contracts of this proof. Conditions: said at each. -/
import Derived.Test.YtbkakhfepiooaaaGreatDoorQGFmSame
import Derived.Test.YtbkakhfepiooaaaGreatDoorQGSgParse
import Derived.Test.YtbkakhfepiooaaaGreatDoorQGSgRef
import Derived.Deep.RegionLaw
import Derived.Laws.IdiomStrings
import Derived.Shelf.Abstract
namespace Go.Proofs.YtbkakhfepiooaaaGreatDoor.M
section
open Go.RowKit Go.Oct Go.Su Go.Sg
theorem elemM : ElemK Tryz.prog 27 73 (.agg #[.string ByteArray.empty, .int .i64 0]) 2 24 := ⟨Tryz.underlying27, by kernel_rfl, rfl, by decide⟩
/-- Matches, cell by cell. -/
def valM (l : List (Key × Nat)) : List Value := l.flatMap fun h => [kv h.1, Value.int .i64 (h.2 : Int)]
theorem valM_app (a b : List (Key × Nat)) : valM (a ++ b) = valM a ++ valM b := by unfold valM; simp
theorem valM_len (l : List (Key × Nat)) : (valM l).length = l.length * 2 := by
  induction l with
  | nil => rfl
  | cons a l ih => simp only [valM, List.flatMap_cons, List.length_append, List.length_cons] at *; rw [show (List.flatMap (fun h => [kv h.1, Value.int .i64 (h.2 : Int)]) l).length = l.length * 2 from ih]; simp; omega
/-- A match's cells. -/
def MatE (cs : List Value) (m : Key × Nat) : Prop := cs = [kv m.1, .int .i64 (m.2 : Nat)]
def Mts (w : World) (F : Nat → Prop) (A : Option Addr) (n : Nat) (l : List (Key × Nat)) : Prop := Ro w F 2 MatE A n l
theorem Mts.ch {w w' : World} {F S : Nat → Prop} {A : Option Addr} {n : Nat} {l : List (Key × Nat)} (h : Mts w F A n l) (hc : Ch S w w') (hF : ∀ b, F b → b < w.heap.size → ¬ S b) : Mts w' F A n l := Ro.ch h (by omega) hc hF fun _ _ _ he => he
theorem Mts.get {w : World} {F : Nat → Prop} {A : Option Addr} {n : Nat} {l : List (Key × Nat)} (h : Mts w F A n l) {j : Nat} (hj : j < n) : ∃ b off m, A = some ⟨b, off, none⟩ ∧ F b ∧ Hid (l[j]? = some m) ∧ w.cell? ⟨b, off + j * 2, none⟩ = some (kv m.1) ∧ w.cell? ⟨b, off + j * 2 + 1, none⟩ = some (.int .i64 (m.2 : Nat)) := by
  obtain ⟨b, off, d, cs, e, hb, hd, hl, rfl, hi⟩ := Ro.get h hj
  exact ⟨b, off, d, e, hb, hd, hi 0 _ rfl, hi 1 _ rfl⟩
theorem valM_at {hs : List (Key × Nat)} {j : Nat} {h : Key × Nat} (hj : hs[j]? = some h) : (valM hs)[j * 2]? = some (kv h.1) ∧ (valM hs)[j * 2 + 1]? = some (.int .i64 (h.2 : Int)) := by
  induction hs generalizing j with
  | nil => simp at hj
  | cons a l ih =>
    have e : valM (a :: l) = kv a.1 :: Value.int .i64 (a.2 : Int) :: valM l := rfl
    rw [e]
    cases j with
    | zero =>
      obtain rfl : a = h := by simpa using hj
      exact ⟨rfl, rfl⟩
    | succ j =>
      have := ih (j := j) (by simpa using hj)
      rw [show (j + 1) * 2 = j * 2 + 2 by omega]
      exact this
theorem Gs.mts {w wr : World} {A : Option Addr} {n c : Nat} {hs : List (Key × Nat)} (h : Gs 73 2 w wr (.slice A n c) n (valM hs)) (hl : hs.length = n) : Mts wr (fun b => w.heap.size ≤ b) A n hs := by
  refine ⟨hl, fun hn => ?_⟩
  rcases own_form h.own with ⟨e1, e2⟩ | ⟨g, c1, e1, g2, g3⟩
  · omega
  · injection e1 with e3 _ e4
    subst e3 e4
    have ho := h.own
    refine ⟨g, 0, rfl, h.lies g rfl, fun j x hx => ?_⟩
    obtain ⟨hj, _⟩ := List.getElem?_eq_some_iff.1 hx
    obtain ⟨k1, k2⟩ := valM_at hx
    have c1 := ho.cellAt (j * 2) (by omega)
    have c2 := ho.cellAt (j * 2 + 1) (by omega)
    rw [k1] at c1
    rw [k2] at c2
    refine ⟨_, rfl, rfl, fun i u hu => ?_⟩
    rw [Nat.zero_add]
    match i, hu with
    | 0, hu => simp at hu; subst hu; exact c1
    | 1, hu => simp at hu; subst hu; exact c2
theorem mat_cells (w : World) (S : ByteArray) (a : Int) : ∀ j u, [Value.string S, Value.int .i64 a][j]? = some u → (w.alloc (.cells #[.string S, .int .i64 a] 73)).cell? ((⟨w.heap.size, 0, none⟩ : Addr).add j) = some u := by
  intro j u hu
  match j, hu with
  | 0, hu =>
    simp at hu
    subst hu
    rw [show (⟨w.heap.size, 0, none⟩ : Addr).add 0 = ⟨w.heap.size, 0, none⟩ by simp [Addr.add], World.cell?_alloc_at _ _ _ _ rfl]
    rfl
  | 1, hu =>
    simp at hu
    subst hu
    rw [show (⟨w.heap.size, 0, none⟩ : Addr).add 1 = ⟨w.heap.size, 1, none⟩ by simp [Addr.add], World.cell?_alloc_at _ _ _ _ rfl]
    rfl
  | j + 2, hu => simp at hu
/-- append of elements of several cells, as a run. -/
theorem run_appK {P : Program} {t e : TypeId} {z : Value} {size bytes : Nat} (w : World) (ty : TypeId) (T : ElemK P t e z size bytes) {v : Value} {n : Nat} {xs : List Value} (hown : w.ownsRow 0 e size v n xs)
    {ad : Addr} {m c : Nat} {news : List Value} (hl : news.length = m * size) (hr : ∀ j u, news[j]? = some u → w.cell? (ad.add j) = some u) (h1 : ∀ u ∈ news, u.oneCell' = true) (hb : (n + m) * bytes ≤ 140737488355328) (h63 : n + m ≤ 140737488355328) :
    ∃ v' w', (Builtin.append_ #[t, t] ty #[v, .slice (some ad) m c]).run P w = .ok v' w' ∧ w'.ownsRow 0 e size v' (n + m) (xs ++ news) ∧ w.grownBy w' v.ownBlock ∧ (v'.ownBlock = v.ownBlock ∨ v'.ownBlock = some w.heap.size) := by
  obtain ⟨i, hi, hz, hsz, hby⟩ := infoK T.info
  obtain ⟨v', w', hrun, h2, h3, _, h5⟩ := run_append_own_at (P := P) w 0 t ty e i z size bytes T.t hi hz hsz hby T.z T.pos v n xs hown ad m c news hl hr h1 (by unfold maxLen; omega) hb (Nat.zero_le _)
  exact ⟨v', w', hrun, h2, h3, h5⟩
/-- .. as one step of a region that draws its order. -/
theorem step_appK {P : Program} {t e : TypeId} {z : Value} {size bytes : Nat} {ops : Array Oper} {o : Oper} {a : Act} {w : World} {K : Act → World → Prop} {Q : Exit → Act → World → Prop} {E : Prop} (hg : o.guard = none) (s x : Operand) (T : ElemK P t e z size bytes)
    (hop : o.op = Op.call { callee := Callee.builtin Builtin.append, args := #[s, x], argTypes := #[t, t] }) {v : Value} {n : Nat} {xs : List Value} (hs : a.eval s = v) (hown : w.ownsRow 0 e size v n xs)
    {ad : Addr} {m c : Nat} {news : List Value} (hx : a.eval x = .slice (some ad) m c) (hl : news.length = m * size) (hr : ∀ j u, news[j]? = some u → w.cell? (ad.add j) = some u) (h1 : ∀ u ∈ news, u.oneCell' = true) (hb : (n + m) * bytes ≤ 140737488355328) (h63 : n + m ≤ 140737488355328)
    (h : ∀ v' w', w'.ownsRow 0 e size v' (n + m) (xs ++ news) → w.grownBy w' v.ownBlock → (v'.ownBlock = v.ownBlock ∨ v'.ownBlock = some w.heap.size) → K (a.put o.dst v') w') :
    if Region.wanted o (yielded ops a.tmps) = true then Oper.wp P o a w K Q else E := by
  have hw : Region.wanted o (yielded ops a.tmps) = true := by simp [Region.wanted, hg]
  rw [if_pos hw]
  obtain ⟨v', w', hrun, h2, h3, h4⟩ := run_appK w o.type T hown (c := c) hl hr h1 hb h63
  unfold Oper.wp execOp
  simp only [hop, resolve, invoke, builtin, Sem.run_bind, Sem.run_pure, Result.andThen_ok, List.map_toArray, List.map_cons, List.map_nil, hs, hx, hrun]
  exact h v' w' h2 h3 h4
/-- The matches under way: whole documents, then a part of one. -/
def matTo (ds : List Dc) (p : List Int) (k : Nat) (key : Key) (l : List Nat) (j : Nat) : List (Key × Nat) := finds (ds.take k) p ++ (l.take j).map fun a => (key, a)
theorem matTo_zero (ds : List Dc) (p : List Int) (k : Nat) (key : Key) (l : List Nat) : matTo ds p k key l 0 = finds (ds.take k) p := by unfold matTo; simp
theorem matTo_next {ds : List Dc} {p : List Int} {k j a : Nat} {key : Key} {l : List Nat} (h : l[j]? = some a) : matTo ds p k key l j ++ [(key, a)] = matTo ds p k key l (j + 1) := by
  unfold matTo
  rw [List.take_add_one, h, Option.toList_some]
  simp
theorem finds_take {ds : List Dc} {p : List Int} {k : Nat} {d : Dc} (h : ds[k]? = some d) : finds (ds.take (k + 1)) p = finds (ds.take k) p ++ (ats d.2 p).map fun a => (d.1, a) := by
  rw [Oct.take_more h]
  unfold finds
  simp
theorem matTo_all {ds : List Dc} {p : List Int} {k : Nat} {d : Dc} (h : ds[k]? = some d) : matTo ds p k d.1 (ats d.2 p) (ats d.2 p).length = finds (ds.take (k + 1)) p := by
  rw [finds_take h]
  unfold matTo
  simp
/-- What Find leaves. -/
def FindsOf (l : List (Key × Nat)) (w : World) (e : Ending) (w' : World) : Prop := ∃ (A : Option Addr) (n c : Nat), e = .returned (.slice A n c) ∧ Mts w' (fun b => w.heap.size ≤ b) A n l ∧ n ≤ c ∧ c ≤ maxLen ∧ Ch (fun _ => False) w w'
theorem finds_le (p : List Int) : ∀ (ds : List Dc), (finds ds p).length ≤ beg (ts ds) ds.length := by
  intro ds
  have h := congrArg List.length (finds_all ds p)
  rw [List.length_map] at h
  rw [← h]
  have := locs_len (xss := ts ds) (p := p) ds.length (by rw [ts_len]; exact Nat.le_refl _)
  rwa [List.take_of_length_le (by rw [ts_len]; exact Nat.le_refl _)] at this
section
variable {F G : Nat → Prop}
set_option maxHeartbeats 2000000 in
set_option maxRecDepth 100000 in
theorem rfind_any (ds : List Dc) (p : List Int) (A B : Option Addr) (n c m d : Nat) (w : World) (hz : Dcs w F A n ds) (hp : Sl w G .u8 B m p) (hb : ∀ d ∈ ds, ∀ x ∈ d.2, 0 ≤ x ∧ x < 256) (hbp : ∀ x ∈ p, 0 ≤ x ∧ x < 256) (hN : beg (ts ds) n ≤ 1048576) (hn : n ≤ 1048576) (hm : m ≤ 1048576) :
    Calls Tryz.prog 418 #[.slice A n c, .slice B m d] w (FindsOf (finds ds p) w) := by
  have HL := Bx.mk hz.len
  have HZ := Bx.mk hz
  have HP := Bx.mk hp
  have HB := Bx.mk hb
  have HBP := Bx.mk hbp
  have HLN : Bx (∀ k, k ≤ n → (finds (ds.take k) p).length ≤ 1048576) := ⟨fun k hk => by
    have h1 := finds_le p (ds.take k)
    have h2 : beg (ts (ds.take k)) (ds.take k).length = beg (ts ds) k := by
      unfold beg
      have e : (ds.take k).length = k := by rw [List.length_take, HL.out]; omega
      rw [e]
      simp [ts, List.map_take, List.take_take]
    rw [h2] at h1
    have := beg_mono (ts ds) hk (by rw [ts_len, HL.out]; exact Nat.le_refl _)
    omega⟩
  have HTL : Bx (∀ d ∈ ds, d.2.length ≤ 1048576) := ⟨fun d hd => by
    obtain ⟨i, hi⟩ := List.getElem?_of_mem hd
    have hil : i < n := by rw [← HL.out]; exact (List.getElem?_eq_some_iff.1 hi).1
    have h1 := beg_next (ts ds) i (by rw [ts_len, HL.out]; exact hil)
    have h2 := beg_mono (ts ds) (show i + 1 ≤ n by omega) (by rw [ts_len, HL.out]; exact Nat.le_refl _)
    have h3 : (ts ds).getD i [] = d.2 := by unfold ts; rw [List.getD_eq_getElem?_getD, List.getElem?_map, hi]; rfl
    rw [h3] at h1
    omega⟩
  clear hz hp hb hbp hN
  go_enter Tryz.func418, Tryz.ntmps418
  go_wp2_with fail
  go_loopw [5, 6, 7, 8] (fun v i _ _ wr => ∃ k q : Nat, k ≤ n ∧ i = .int .i64 k ∧ Bx ((finds (ds.take k) p).length = q) ∧ Gs 73 2 w wr v q (valM (finds (ds.take k) p))) (fun _ i _ _ _ => n - (intOf i).toNat)
  case atStart => exact ⟨0, 0, Nat.zero_le _, rfl, ⟨rfl⟩, Gs.nil _ _ _⟩
  case round =>
    obtain ⟨k, q, hk, rfl, hq, hG⟩ := hrel
    by_cases hlt : k < n
    · have dk : decide ((k : Int) < (n : Int)) = true := decide_eq_true (by omega)
      obtain ⟨bd, od, dc, A', c', rfl, _, ex, hck0, hct0, hsl0, hlc, hcm⟩ := HZ.out.get hlt
      have hct := hG.ch.cell (p := ⟨bd, od + k * 2 + 1, none⟩) (fun h => h) hct0
      have hsl := hsl0.ch hG.ch (fun _ _ _ h => h)
      have hdm := List.mem_of_getElem? ex.out
      have hat := refat_any dc.2 p A' B dc.2.length c' m d wr hsl (HP.out.ch hG.ch (fun _ _ _ h => h)) (HB.out dc hdm) HBP.out (HTL.out dc hdm) hm hlc hcm
      have HAT := Bx.mk hat
      have HG := Bx.mk hG
      have hq2 : q + (ats dc.2 p).length ≤ 1048576 := by
        have h1 := HLN.out (k + 1) (by omega)
        rw [finds_take ex.out, List.length_append, List.length_map, hq.out] at h1
        omega
      have HALL := Bx.mk (matTo_all (p := p) ex.out)
      have HQN : Bx ((finds (ds.take (k + 1)) p).length = q + (ats dc.2 p).length) := ⟨by rw [finds_take ex.out, List.length_append, List.length_map, hq.out]⟩
      have i2 : (k : Int) < (n : Int) := by omega
      obtain ⟨l, hl⟩ : ∃ l, ats dc.2 p = l := ⟨_, rfl⟩
      rw [hl] at hq2 HAT HALL HQN
      obtain ⟨tl, htl⟩ : ∃ tl, dc.2.length = tl := ⟨_, rfl⟩
      rw [htl] at HAT hct hlc
      obtain ⟨SD, hSD⟩ : ∃ S : ByteArray, kv dc.1 = .string S := ⟨_, rfl⟩
      have HSD := Bx.mk hSD
      rw [hSD] at hck0
      have htc : c' ≤ 9223372036854775807 := by unfold maxLen at hcm; omega
      have HCK := Bx.mk hck0
      clear hG hsl hat hl ex hdm htl hSD hcm hck0 hct0 hsl0
      go_wp2_with fail
      refine HAT.out.mono ?_
      rintro e w1 ⟨v1, rfl, hG1⟩
      obtain ⟨A1, c1, rfl, _, hc1m⟩ := hG1.shape
      have htwo := two_start HG.out hG1 (own_lt HG.out.own)
      have hl1 : l.length ≤ 1048576 := by omega
      obtain ⟨ll, hll⟩ : ∃ ll, l.length = ll := ⟨_, rfl⟩
      rw [hll] at htwo hq2 hl1 HALL HQN
      rw [hll]
      rw [← matTo_zero ds p k dc.1 l] at htwo
      have HTW := Bx.mk htwo
      clear hG1 HAT hct hll htwo
      go_wp2_with fail
      go_loopw [5, 8] (fun v i wx => ∃ j : Nat, j ≤ ll ∧ i = .int .i64 j ∧ Two 73 2 w wx v (q + j) (valM (matTo ds p k dc.1 l j)) (.slice A1 ll c1) A1 ll (valN l)) (fun _ i _ => ll - (intOf i).toNat)
      case atStart => exact ⟨0, Nat.zero_le _, rfl, HTW.out⟩
      case round =>
        obtain ⟨j, hj, rfl, hT⟩ := hrel
        have HT := Bx.mk hT
        have hcd := hT.gs.ch.cell (p := ⟨bd, od + k * 2, none⟩) (fun h => h) HCK.out
        by_cases hjl : j < ll
        · have dj : decide ((j : Int) < (ll : Int)) = true := decide_eq_true (by omega)
          obtain ⟨b2, o2, u, rfl, _, hu, hcu⟩ := hT.vs.at_ hjl
          obtain ⟨a, ha, rfl⟩ := valN_at hu.out
          have HNX := Bx.mk (matTo_next (ds := ds) (p := p) (k := k) (key := dc.1) ha)
          obtain ⟨A2, c2, rfl, _, _⟩ := hT.gs.shape
          have i4 : (j : Int) < (ll : Int) := by omega
          clear hT hu ha
          have HAP : Bx (∀ v5 w5, w5.ownsRow 0 73 2 v5 (q + j + 1) (valM (matTo ds p k dc.1 l j) ++ [Value.string SD, Value.int .i64 (a : Int)]) → (wr.alloc (.cells #[.string SD, .int .i64 a] 73)).drew.grownBy w5 (Value.slice A2 (q + j) c2).ownBlock → (v5.ownBlock = (Value.slice A2 (q + j) c2).ownBlock ∨ v5.ownBlock = some (wr.alloc (.cells #[.string SD, .int .i64 a] 73)).drew.heap.size) → Two 73 2 w w5 v5 (q + j + 1) (valM (matTo ds p k dc.1 l (j + 1))) (.slice (some ⟨b2, o2, none⟩) ll c1) (some ⟨b2, o2, none⟩) ll (valN l)) := ⟨fun v5 w5 ho1 hg1 hb1 => by
            have h := HT.out.app ((Ch.refl (fun _ => False) wr).alloc (.cells #[.string SD, .int .i64 a] 73)).drew ho1 hg1 hb1
            rw [← HNX.out, valM_app]
            show Two _ _ _ _ _ _ (_ ++ [kv dc.1, Value.int .i64 (a : Int)]) _ _ _ _
            rw [HSD.out]
            exact h⟩
          go_wp2_with fail
          go_region_law ((refine step_appK rfl (.tmp 28) (.tmp 39) elemM rfl rfl (HT.out.gs.own.alloc _) rfl (m := 1) rfl (mat_cells wr SD a) (by intro u hu; simp at hu; rcases hu with hu | hu <;> (subst hu; rfl)) (by omega) (by omega) ?_; intro v5 w5 ho1 hg1 hb1; have HT5 := Bx.mk (HAP.out v5 w5 ho1 hg1 hb1); clear ho1 hg1 hb1))
          all_goals
            go_wp2
            go_roundw
            case rel => exact ⟨j + 1, by omega, by go_num, HT5.out⟩
            case measure => simp [intOf]; omega
        · have hjl2 : j = ll := by omega
          have dj : decide ((j : Int) < (ll : Int)) = false := decide_eq_false (by omega)
          have HFN : Bx (Gs 73 2 w wr u5 (q + ll) (valM (finds (ds.take (k + 1)) p))) := ⟨by
            have := hT.gs
            rw [hjl2, HALL.out] at this
            exact this⟩
          clear hT hjl2
          go_wp2
          go_roundw
          case rel => exact ⟨k + 1, q + ll, by omega, by go_num, HQN, HFN.out⟩
          case measure => simp [intOf]; omega
    · have hkn : n = k := by omega
      have dk : decide ((k : Int) < (n : Int)) = false := decide_eq_false (by omega)
      obtain ⟨A1, c1, rfl, e1, e2⟩ := hG.shape
      have hall : ds.take k = ds := List.take_of_length_le (by have := HL.out; omega)
      rw [hall] at hG hq
      have HF : Bx (Mts wr (fun b => w.heap.size ≤ b) A1 q (finds ds p)) := ⟨Gs.mts hG hq.out⟩
      have HCH := Bx.mk hG.ch
      clear hG hkn hall
      go_wp2
      go_ret
      exact ⟨A1, q, c1, rfl, HF.out, e1, e2, HCH.out⟩
end
end
end Go.Proofs.YtbkakhfepiooaaaGreatDoor.M
namespace Go.Proofs.YtbkakhfepiooaaaGreatDoor
section
open Go.RowKit Go.Oct Go.Su Go.Sg Go.Om Go.Shelf
/-- []byte(key) at the operation. -/
theorem wp_bytes {P : Program} {w : World} {ops : Array Oper} {rest : List Oper} {o : Oper} {a : Act} {Q : Exit → Act → World → Prop} (hg : o.guard = none) (x : Operand) {src dst e : TypeId} (hop : o.op = Op.convert src dst x) (hs : P.underlying src = some .string) (hd : P.underlying dst = some (.slice e)) (he : P.underlying e = some (.int .u8))
    {k : Key} (hkm : k.length ≤ maxLen) (hx : a.eval x = kv k) (h : ∀ c w', k.length ≤ c → c ≤ maxLen → Sl w' (fun b => b = w.heap.size) .u8 (some ⟨w.heap.size, 0, none⟩) k.length (kI k) → Ch (fun _ => False) w w' → wpList P ops Q rest (a.put o.dst (.slice (some ⟨w.heap.size, 0, none⟩) k.length c)) w') : wpList P ops Q (o :: rest) a w :=
  wpList_plain hg fun K' hK' => by
    have hrun := run_bytes_of_string (P := P) w src dst e ⟨k.toArray⟩ hs hd he
    have hsz : (⟨k.toArray⟩ : ByteArray).size = k.length := kv_size k
    rw [hsz] at hrun
    have hx' : a.eval x = .string ⟨k.toArray⟩ := hx
    unfold Oper.wp
    simp only [execOp, hop, hx', Sem.run_bind, Sem.run_pure, hrun, Result.andThen_ok]
    refine hK' _ _ (h _ _ (grownCap_ge _ _ _ _) (grownCap_le_maxLen _ _ _ _ hkm) ?_ ?_)
    · refine ⟨by simp [kI], fun _ => ⟨w.heap.size, 0, rfl, rfl, fun j u hu => ?_⟩⟩
      have hb : (w.drew.alloc (.cells (bytesRow ⟨k.toArray⟩ (grownCap w k.length 0 e)) e ((bytesRow ⟨k.toArray⟩ (grownCap w k.length 0 e)).size, (bytesRow ⟨k.toArray⟩ (grownCap w k.length 0 e)).size + 1))).heap[w.heap.size]? = some (.cells (bytesRow ⟨k.toArray⟩ (grownCap w k.length 0 e)) e ((bytesRow ⟨k.toArray⟩ (grownCap w k.length 0 e)).size, (bytesRow ⟨k.toArray⟩ (grownCap w k.length 0 e)).size + 1)) := heap_alloc_new w.drew _
      unfold World.cell?
      rw [hb]
      obtain ⟨hj, hju⟩ := List.getElem?_eq_some_iff.1 hu
      simp only [kI, List.map_map, List.length_map] at hj
      simp only [kI, List.map_map, List.getElem_map] at hju
      subst hju
      simp only [Nat.zero_add]
      unfold bytesRow
      rw [Array.getElem?_append_left (by simpa using hj)]
      simp [hj]
    · exact (Ch.refl _ w).drew.alloc _
set_option maxRecDepth 100000 in
theorem conv_row {w : World} {A : Option Addr} {n c : Nat} {xs : List Int} (h : w.ownsRow 0 5 1 (.slice A n c) n (xs.map (Value.int .u8))) : (convert 22 9 (.slice A n c)).run Tryz.prog w = .ok (kv (keyI xs)) w := by
  have hs := Sl.of_own h
  have hl := hs.len
  obtain ⟨_, ⟨e, h0⟩ | ⟨g, cap, cur, e, _⟩⟩ := h
  · injection e with e1 e2 e3
    subst e1 e2
    obtain rfl : xs = [] := List.eq_nil_of_length_eq_zero hl
    exact run_convert_bytes_nil (P := Tryz.prog) w 22 5 Tryz.underlying22 Tryz.underlying5 _ _ 9 Tryz.underlying9
  · injection e with e1 e2 e3
    subst e1
    exact run_convert_bytes_arg (P := Tryz.prog) w 22 5 Tryz.underlying22 Tryz.underlying5 g 0 n c xs hl (fun _ hi => sl_cells hs hi) 9 Tryz.underlying9
theorem Fresh.rw {w wr : World} {v : Value} {xs : List Int} (h : O.Fresh w v xs wr) : Fresh w v xs wr := h
theorem Fresh.sl {w wr : World} {A : Option Addr} {n c : Nat} {xs : List Int} (h : Fresh w (.slice A n c) xs wr) (hn : n = xs.length) : Sl wr (fun b => w.heap.size ≤ b) .u8 A n xs := by
  subst hn
  exact (Sl.of_own h.1).mono (fun b _ hb => h.2.1 b hb)
theorem Fresh.keep {w wr w' : World} {v : Value} {xs : List Int} (h : Fresh w v xs wr) (hc : Ch (fun _ => False) wr w') : Fresh w v xs w' :=
  ⟨hc.own h.1 (fun _ _ h => h), h.2.1, h.2.2.trans hc (fun _ _ h => h)⟩
theorem ncells_at {w : World} {cs : Array Value} {e : TypeId} {j : Nat} {u : Value} (hu : cs[j]? = some u) : (w.alloc (.cells cs e)).cell? ⟨w.heap.size, j, none⟩ = some u := by
  unfold World.cell?
  rw [heap_alloc_new]
  exact hu
theorem enc3_len (a b c : Int) : ([a, b, c].flatMap encI).length ≤ 27 := flat_len [a, b, c] 3
theorem rowB_len {xs : List Int} {n : Nat} (h : xs.length = n) (hn : n ≤ 100000000000000) : (rowB xs).length ≤ n + 9 := by
  have h9 : (encN xs.length).length ≤ 9 := by
    have e : encI (xs.length : Int) = encN xs.length := by unfold encI; rw [clampI_nat (by omega)]
    rw [← e]; exact encI_len _
  unfold rowB
  rw [List.length_append]
  omega
/-- Numbers that were just built. -/
theorem sl_lit (w : World) (e : TypeId) (k : IntKind) (xs : List Int) : Sl (w.alloc (.cells (xs.map (Value.int k)).toArray e)) (fun b => b = w.heap.size) k (some ⟨w.heap.size, 0, none⟩) xs.length xs := by
  have h := Vs.built w e (xs.map (Value.int k))
  rw [List.length_map] at h
  exact h
/-- An op by value; its text lies in F. -/
def OpV (w : World) (F : Nat → Prop) (v : Value) (o : Ao) : Prop := ∃ A c, v = .agg #[.int .i64 o.kd, .int .i64 o.cl, .int .i64 o.sq, kv o.key, .slice A o.txt.length c] ∧ Sl w F .u8 A o.txt.length o.txt ∧ o.txt.length ≤ c ∧ c ≤ maxLen
/-- A place's cells. -/
def MatE (cs : List Value) (m : Key × Int) : Prop := cs = [kv m.1, .int .i64 m.2]
/-- A slice of places. -/
def Mts (w : World) (F : Nat → Prop) (A : Option Addr) (n : Nat) (l : List (Key × Int)) : Prop := Ro w F 2 MatE A n l
def valM (l : List (Key × Int)) : List Value := l.flatMap fun m => [kv m.1, .int .i64 m.2]
theorem str_beq (a b : Key) : ((⟨a.toArray⟩ : ByteArray).toList == (⟨b.toArray⟩ : ByteArray).toList) = decide (a = b) := by
  rw [Lib.toList_data, Lib.toList_data]
  rw [Bool.eq_iff_iff]
  simp
theorem Mts.ch {w w' : World} {F S : Nat → Prop} {A : Option Addr} {n : Nat} {l : List (Key × Int)} (h : Mts w F A n l) (hc : Ch S w w') (hF : ∀ b, F b → b < w.heap.size → ¬ S b) : Mts w' F A n l := Ro.ch h (by omega) hc hF fun _ _ _ he => he
theorem Mts.get {w : World} {F : Nat → Prop} {A : Option Addr} {n : Nat} {l : List (Key × Int)} (h : Mts w F A n l) {j : Nat} (hj : j < n) : ∃ b off m, A = some ⟨b, off, none⟩ ∧ F b ∧ Hid (l[j]? = some m) ∧ w.cell? ⟨b, off + j * 2, none⟩ = some (kv m.1) ∧ w.cell? ⟨b, off + j * 2 + 1, none⟩ = some (.int .i64 m.2) := by
  obtain ⟨b, off, d, cs, e, hb, hd, hl, rfl, hi⟩ := Ro.get h hj
  exact ⟨b, off, d, e, hb, hd, hi 0 _ rfl, hi 1 _ rfl⟩
theorem valM_at {hs : List (Key × Int)} {j : Nat} {h : Key × Int} (hj : hs[j]? = some h) : (valM hs)[j * 2]? = some (kv h.1) ∧ (valM hs)[j * 2 + 1]? = some (.int .i64 h.2) := by
  induction hs generalizing j with
  | nil => simp at hj
  | cons a l ih =>
    have e : valM (a :: l) = kv a.1 :: Value.int .i64 a.2 :: valM l := rfl
    rw [e]
    cases j with
    | zero =>
      obtain rfl : a = h := by simpa using hj
      exact ⟨rfl, rfl⟩
    | succ j =>
      have := ih (j := j) (by simpa using hj)
      rw [show (j + 1) * 2 = j * 2 + 2 by omega]
      exact this
theorem Gs.mts {w wr : World} {A : Option Addr} {n c : Nat} {hs : List (Key × Int)} (h : Gs 73 2 w wr (.slice A n c) n (valM hs)) (hl : hs.length = n) : Mts wr (fun b => w.heap.size ≤ b) A n hs := by
  refine ⟨hl, fun hn => ?_⟩
  rcases own_form h.own with ⟨e1, e2⟩ | ⟨g, c1, e1, g2, g3⟩
  · omega
  · injection e1 with e3 _ e4
    subst e3 e4
    have ho := h.own
    refine ⟨g, 0, rfl, h.lies g rfl, fun j x hx => ?_⟩
    obtain ⟨hj, _⟩ := List.getElem?_eq_some_iff.1 hx
    obtain ⟨k1, k2⟩ := valM_at hx
    have c1 := ho.cellAt (j * 2) (by omega)
    have c2 := ho.cellAt (j * 2 + 1) (by omega)
    rw [k1] at c1
    rw [k2] at c2
    refine ⟨_, rfl, rfl, fun i u hu => ?_⟩
    rw [Nat.zero_add]
    match i, hu with
    | 0, hu => simp at hu; subst hu; exact c1
    | 1, hu => simp at hu; subst hu; exact c2
theorem mat_cells (w : World) (S : ByteArray) (a : Int) : ∀ j u, [Value.string S, Value.int .i64 a][j]? = some u → (w.alloc (.cells #[.string S, .int .i64 a] 73)).cell? ((⟨w.heap.size, 0, none⟩ : Addr).add j) = some u := by
  intro j u hu
  match j, hu with
  | 0, hu =>
    simp at hu
    subst hu
    rw [show (⟨w.heap.size, 0, none⟩ : Addr).add 0 = ⟨w.heap.size, 0, none⟩ by simp [Addr.add], World.cell?_alloc_at _ _ _ _ rfl]
    rfl
  | 1, hu =>
    simp at hu
    subst hu
    rw [show (⟨w.heap.size, 0, none⟩ : Addr).add 1 = ⟨w.heap.size, 1, none⟩ by simp [Addr.add], World.cell?_alloc_at _ _ _ _ rfl]
    rfl
  | j + 2, hu => simp at hu
end
section
open Go.RowKit Go.Oct Go.Su Go.Sg Go.Om
/-- A Writer at bw that was made since w0; xs are laid. -/
structure Lay (w0 w : World) (bw : Nat) (v : Value) (xs : List Int) : Prop where
  wr : O.Wr w bw v xs
  ch : Ch (fun _ => False) w0 w
  low : w0.heap.size ≤ bw
  row : ∀ g, v.ownBlock = some g → bw < g
/-- What a call on it leaves: it has laid ys; nothing but the Writer and its row has turned. -/
def LayTo (w0 w : World) (bw : Nat) (v : Value) (ys : List Int) (w' : World) : Prop := ∃ v', Lay w0 w' bw v' ys ∧ Ch (O.WS bw v) w w'
section
variable {w0 w w1 w' : World} {bw : Nat} {v : Value} {xs ys : List Int}
theorem Lay.new (h : Ch (fun _ => False) w0 w) : Lay w0 (w.alloc (.cells #[.slice none 0 0] 152)) w.heap.size (.slice none 0 0) [] :=
  ⟨⟨heap_alloc_new w _, World.ownsRow_nil _ _ _ _⟩, h.alloc _, h.size, fun g hg => by simp [Value.ownBlock] at hg⟩
theorem Lay.keep (h : Lay w0 w bw v xs) (hc : Ch (fun _ => False) w w') : Lay w0 w' bw v xs :=
  ⟨h.wr.ch hc (fun _ _ h => h), h.ch.trans hc (fun _ _ h => h), h.low, h.row⟩
theorem Lay.ws (h : Lay w0 w bw v xs) {b : Nat} (hb : O.WS bw v b) : bw ≤ b ∧ b < w.heap.size := by
  rcases hb with rfl | hb
  · exact ⟨Nat.le_refl _, h.wr.lt⟩
  · exact ⟨Nat.le_of_lt (h.row b hb), h.wr.row_lt hb⟩
theorem Lay.laid (h : Lay w0 w bw v xs) (hl : O.Laid w bw v ys w') : LayTo w0 w bw v ys w' := by
  obtain ⟨v', h1, h2, h3⟩ := hl
  refine ⟨v', ⟨h1, h.ch.trans h2 (fun i hi hs => by have := (h.ws hs).1; have := h.low; omega), h.low, fun g hg => ?_⟩, h2⟩
  rcases h3 g hg with k | k
  · exact h.row g k
  · have := h.wr.lt; omega
theorem LayTo.after (h : LayTo w0 w1 bw v ys w') (hc : Ch (fun _ => False) w w1) : LayTo w0 w bw v ys w' := by
  obtain ⟨v', h1, h2⟩ := h
  exact ⟨v', h1, (hc.mono (S := O.WS bw v) fun _ _ h => h.elim).trans h2 (fun _ _ h => h)⟩
theorem lay_nums {F : Nat → Prop} (h : Lay w0 w bw v xs) (zs : List Int) (A : Option Addr) (n c : Nat) (hz : Sl w F .i64 A n zs) (hF : ∀ b, F b → ¬ O.WS bw v b) (hn : n ≤ 1000000) (hb : xs.length ≤ 10000000000000) :
    Calls Tryz.prog 71 #[.pointer (some ⟨bw, 0, none⟩), .slice A n c] w fun e w' => e = .returned (.tuple #[]) ∧ LayTo w0 w bw v (xs ++ zs.flatMap encI) w' :=
  (O.nums_any bw v xs zs A n c w F (by omega) h.wr hz hF (by omega)).mono fun e w' hp => by
    obtain ⟨he, v1, h1, h2, h3⟩ := hp
    rw [List.take_of_length_le (by rw [hz.len]; omega)] at h1
    exact ⟨he, h.laid ⟨v1, h1, h2, h3⟩⟩
theorem lay_lit (h : Lay w0 w bw v xs) (zs : List Int) (hn : zs.length ≤ 1000000) (hb : xs.length ≤ 10000000000000) :
    Calls Tryz.prog 71 #[.pointer (some ⟨bw, 0, none⟩), .slice (some ⟨w.heap.size, 0, none⟩) zs.length zs.length] (w.alloc (.cells (zs.map (Value.int .i64)).toArray 3)) fun e w' => e = .returned (.tuple #[]) ∧ LayTo w0 w bw v (xs ++ zs.flatMap encI) w' :=
  (lay_nums (h.keep ((Ch.refl _ _).alloc _)) zs _ _ _ (sl_lit w 3 .i64 zs) (fun b hb hs => by have := (h.ws hs).2; omega) hn hb).mono fun _ _ hp => ⟨hp.1, hp.2.after ((Ch.refl _ _).alloc _)⟩
theorem lay_bytes {F : Nat → Prop} (h : Lay w0 w bw v xs) (xss : List (List Int)) (A : Option Addr) (n c : Nat) (hz : Sls w F A n xss) (hF : ∀ b, F b → b < w.heap.size → ¬ O.WS bw v b) (hn : n ≤ 1000000) (hb : xs.length + (xss.flatMap rowB).length ≤ 10000000000000) :
    Calls Tryz.prog 74 #[.pointer (some ⟨bw, 0, none⟩), .slice A n c] w fun e w' => e = .returned (.tuple #[]) ∧ LayTo w0 w bw v (xs ++ xss.flatMap rowB) w' :=
  (O.bytes_any bw v xs xss A n c w F (by omega) h.wr hz hF (by omega)).mono fun e w' hp => ⟨hp.1, h.laid hp.2⟩
theorem lay_out (h : Lay w0 w bw v xs) (hb : xs.length ≤ 10000000000000) :
    Calls Tryz.prog 72 #[.pointer (some ⟨bw, 0, none⟩)] w fun e w' => ∃ v', e = .returned v' ∧ Fresh w0 v' xs w' :=
  (O.out_any bw v xs w h.wr (by omega)).mono fun e w' hp => by
    obtain ⟨v', he, h1, h2, h3⟩ := hp
    exact ⟨v', he, h1, fun g hg => Nat.le_trans h.ch.size (h2 g hg), h.ch.trans h3 (fun _ _ h => h)⟩
end
end
section
open Go.RowKit Go.Oct Go.Su Go.Sg Go.Om
theorem enc_flat_le (zs : List Int) (n : Nat) (h : zs.length ≤ n) : (zs.flatMap encI).length ≤ 9 * n := by
  induction zs generalizing n with
  | nil => simp
  | cons a l ih =>
    rw [List.flatMap_cons, List.length_append]
    have h1 := encI_len a
    simp only [List.length_cons] at h
    have h2 := ih (n - 1) (by omega)
    omega
section
variable {F : Nat → Prop}
set_option maxHeartbeats 1000000 in
theorem erep_any (z : Int) (l : List Int) (A : Option Addr) (n c : Nat) (w : World) (hz : Sl w F .i64 A n l) (hn : n ≤ 1000000) (hnc : n ≤ c) (hc : c ≤ maxLen) :
    Calls Tryz.prog 37 #[.agg #[.int .i64 z, .slice A n c]] w fun e w' => ∃ v, e = .returned v ∧ Fresh w v (repB z l) w' := by
  have hc63 : c ≤ 9223372036854775807 := by unfold maxLen at hc; omega
  obtain ⟨m, hm, hm8, hmn, hmx⟩ : ∃ m, (if 8 < n then 8 else n) = m ∧ m ≤ 8 ∧ m ≤ n ∧ (l.take 8).length = m := by
    refine ⟨_, rfl, by split <;> omega, by split <;> omega, ?_⟩
    rw [List.length_take, hz.len]
    split <;> omega
  have HT : Bx (Sl w F .i64 A m (l.take 8)) := ⟨by
    unfold Sl
    rw [List.map_take]
    have h := Vs.take hz (show m ≤ n from hmn)
    have e : (l.map (Value.int .i64)).take 8 = (l.map (Value.int .i64)).take m := by
      by_cases h8 : 8 < n
      · rw [if_pos h8] at hm; rw [hm]
      · rw [if_neg h8] at hm
        rw [List.take_of_length_le (by rw [List.length_map, hz.len]; omega), List.take_of_length_le (by rw [List.length_map, hz.len]; omega)]
    rw [e]
    exact h⟩
  have HR : Bx ([] ++ [z, (m : Int)].flatMap encI ++ (l.take 8).flatMap encI = repB z l) := ⟨by
    unfold repB
    rw [hmx, List.flatMap_append, List.nil_append]⟩
  have HRL : Bx ((repB z l).length ≤ 10000000000000) := ⟨by
    rw [← HR.out, List.nil_append, List.length_append]
    have h1 := enc_flat_le [z, (m : Int)] 2 (by simp)
    have h2 := enc_flat_le (l.take 8) 8 (by omega)
    omega⟩
  obtain ⟨L8, hL8⟩ : ∃ L, l.take 8 = L := ⟨_, rfl⟩
  rw [hL8] at HT HR
  clear hL8 hmx hz
  obtain ⟨w1, hw1⟩ : ∃ w1, w.alloc (.cells #[.int .i64 z, .slice A n c] 90) = w1 := ⟨_, rfl⟩
  have hC1 : Ch (fun _ => False) w w1 := by rw [← hw1]; exact (Ch.refl _ _).alloc _
  have hb1 : w1.heap[w.heap.size]? = some (.cells #[.int .i64 z, .slice A n c] 90 (0, 0)) := by rw [← hw1]; exact heap_alloc_new w _
  have z0 : w1.cell? ⟨w.heap.size, 0, none⟩ = some (.int .i64 z) := by simp [World.cell?, hb1]
  have z1 : w1.cell? ⟨w.heap.size, 1, none⟩ = some (.slice A n c) := by simp [World.cell?, hb1]
  obtain ⟨w2, hw2⟩ : ∃ w2, w1.alloc (.cells #[.slice none 0 0] 152) = w2 := ⟨_, rfl⟩
  obtain ⟨bw, hbw⟩ : ∃ bw, w1.heap.size = bw := ⟨_, rfl⟩
  have hL := Lay.new hC1
  rw [hw2, hbw] at hL
  have hC2 : Ch (fun _ => False) w1 w2 := by rw [← hw2]; exact (Ch.refl _ _).alloc _
  have x0 := hC2.cell (fun h => h) z0
  have hsz : w2.heap.size = bw + 1 := by rw [← hw2, ← hbw, World.size_alloc]
  have hb0 : w.heap.size < bw := by rw [← hbw, ← hw1, World.size_alloc]; omega
  have HN := Bx.mk (lay_lit hL [z, (m : Int)] (by simp) (by simp))
  rw [hsz] at HN
  have HL0 := Bx.mk hL
  have HB0 := Bx.mk hb0
  clear hb1 hL hC1 hC2 hb0
  go_enter Tryz.func37, Tryz.ntmps37
  by_cases h8 : 8 < n
  · rw [if_pos h8] at hm
    subst hm
    go_wp2_with fail
    refine HN.out.mono ?_
    rintro e w4 ⟨rfl, v4, hL4, hC4⟩
    clear HN HL0 hsz hw1 hw2 hbw x0 z0 z1 hC4
    have HN2 := Bx.mk (lay_nums hL4 L8 A 8 c ((HT.out.mono (G := fun b => b < w.heap.size) fun b hb _ => hb).ch hL4.ch (fun _ _ _ h => h)) (fun b hb hs => by have h1 := (hL4.ws hs).1; have h2 := hL4.low; omega) (by omega) (by
      have h := enc_flat_le [z, ((8 : Nat) : Int)] 2 (by simp)
      rw [List.nil_append]
      omega))
    rw [HR.out] at HN2
    clear hL4
    go_wp2_with fail
    refine HN2.out.mono ?_
    rintro e w5 ⟨rfl, v5, hL5, hC5⟩
    have HO := Bx.mk (lay_out hL5 HRL.out)
    clear HN2 hC5 hL5
    go_wp2_with fail
    refine HO.out.mono ?_
    rintro e w6 ⟨v6, rfl, hf⟩
    have HF := Bx.mk hf
    clear hf HO
    go_wp2
    go_ret
    exact ⟨v6, rfl, HF.out⟩
  · rw [if_neg h8] at hm
    subst hm
    go_wp2_with fail
    refine HN.out.mono ?_
    rintro e w4 ⟨rfl, v4, hL4, hC4⟩
    clear HN HL0 hsz hw1 hw2 hbw x0 z0 z1 hC4
    have HN2 := Bx.mk (lay_nums hL4 L8 A n c ((HT.out.mono (G := fun b => b < w.heap.size) fun b hb _ => hb).ch hL4.ch (fun _ _ _ h => h)) (fun b hb hs => by have h1 := (hL4.ws hs).1; have h2 := hL4.low; omega) (by omega) (by
      have h := enc_flat_le [z, (n : Int)] 2 (by simp)
      rw [List.nil_append]
      omega))
    rw [HR.out] at HN2
    clear hL4
    go_wp2_with fail
    refine HN2.out.mono ?_
    rintro e w5 ⟨rfl, v5, hL5, hC5⟩
    have HO := Bx.mk (lay_out hL5 HRL.out)
    clear HN2 hC5 hL5
    go_wp2_with fail
    refine HO.out.mono ?_
    rintro e w6 ⟨v6, rfl, hf⟩
    have HF := Bx.mk hf
    clear hf HO
    go_wp2
    go_ret
    exact ⟨v6, rfl, HF.out⟩
end
end
end Go.Proofs.YtbkakhfepiooaaaGreatDoor
