/-
  The contract of the document's answer haystackref13.ReadMatches.
  Conditions: the bytes read as they say; not too many.
-/
import Derived.Test.YtanhnaohmaepoaaOpRefEnc
import Derived.Test.YtanhnaohmaepoaaOpGoodM
import Derived.Test.YtanhnaohmaepoaaOpRdr
import Derived.Deep.DeepCutAuto
import Derived.RegionTactic
import Derived.Deep.RegionLaw
namespace Go.Proofs.Ytanhnaohmaepoaa
open Go.RowKit Go.Oct Go.Su Go.Sg Go.Om

section
variable {F Q : Nat → Prop}
theorem elemM : ElemK Try.prog 46 59 (.agg #[.string ByteArray.empty, .int .i64 0]) 2 24 := ⟨Try.underlying46, by kernel_rfl, rfl, by decide⟩
/-- What ReadMatches leaves. -/
def DMatPost (xs : List Int) (w : World) (e : Ending) (w' : World) : Prop :=
  (∃ (l : List (Key × Int)) (A : Option Addr) (c : Nat), GoodM l xs ∧ e = .returned (.tuple #[.slice A l.length c, .int .i64 0]) ∧ Gs 59 2 w w' (.slice A l.length c) l.length (valM l)) ∨
  ((∀ l, ¬ GoodM l xs) ∧ e = .returned (.tuple #[.slice none 0 0, .int .i64 3]) ∧ Ch (fun _ => False) w w')
theorem DMatPost.yes {xs : List Int} {w w' : World} {k : Nat} {l : List (Key × Int)} {A : Option Addr} {c : Nat} (h : GoodM l xs) (hl : l.length = k) (hr : Gs 59 2 w w' (.slice A k c) k (valM l)) : DMatPost xs w (.returned (.tuple #[.slice A k c, .int .i64 0])) w' := by
  subst hl
  exact .inl ⟨l, A, c, h, rfl, hr⟩
/-- Places under way: k are taken. -/
structure MU (Q : Nat → Prop) (s : Bool × List Int) (w wr : World) (bf : Nat) (v : Value) (k : Nat) : Prop where
  row : Gs 59 2 w wr v k (valM (mvs s k))
  rd : O.Rf Q wr bf (mst s k).1 (mst s k).2
  apart : ∀ g, v.ownBlock = some g → bf < g
  room : (mst s k).1 = false → k + (mst s k).2.length ≤ s.2.length
theorem valM_app (a b : List (Key × Int)) : valM (a ++ b) = valM a ++ valM b := by unfold valM; rw [List.flatMap_append]
/-- A place was taken: it stands at bo, the Reader at bf. -/
structure TknM (Q : Nat → Prop) (ys : List Int) (w' : World) (bf bo : Nat) : Prop where
  cell : w'.heap[bo]? = some (.cells #[kv (mv ys).1, .int .i64 (mv ys).2] 59 (0, 0))
  rd : O.Rf Q w' bf (nb (br_ ys)) (nr (br_ ys))
def Zm (w : World) (bo : Nat) : Prop := w.heap[bo]? = some (.cells #[.string ⟨#[]⟩, .int .i64 0] 59 (0, 0))
theorem zm_new (w : World) : Zm (w.alloc (.cells #[.string ⟨#[]⟩, .int .i64 0] 59)) w.heap.size := heap_alloc_new w _
theorem zm_ch {w w' : World} {bo bf : Nat} (h : Zm w bo) (hc : Ch (O.RS bf) w w') (hne : bo ≠ bf) : Zm w' bo :=
  (hc.block bo (Array.getElem?_eq_some_iff.1 h).1 hne).trans h
theorem zm_facts {w : World} {bo : Nat} (h : Zm w bo) : w.cell? ⟨bo, 0, none⟩ = some (.string ⟨#[]⟩) ∧ w.cell? ⟨bo, 1, none⟩ = some (.int .i64 0) ∧ w.frozen? ⟨bo, 0, none⟩ = false ∧ w.frozen? ⟨bo, 1, none⟩ = false := by
  unfold Zm at h
  simp [World.cell?, World.frozen?, h]
theorem rfm_al {w : World} {bf : Nat} {bad : Bool} {xs : List Int} {o : Obj} (h : O.Rf Q w bf bad xs) : O.Rf Q (w.alloc o) bf bad xs :=
  O.Rf.ch h ((Ch.refl (fun _ => False) w).alloc o) (fun h => h) (fun _ _ _ h => h)
theorem rfm_dr {w : World} {bf : Nat} {bad : Bool} {xs : List Int} (h : O.Rf Q w bf bad xs) : O.Rf Q w.drew bf bad xs :=
  O.Rf.ch h (Ch.refl (fun _ => False) w).drew (fun h => h) (fun _ _ _ h => h)
theorem conv_rowM {w : World} {A : Option Addr} {n c : Nat} {xs : List Int} {S : ByteArray} (hS : kv (keyI xs) = .string S) (h : w.ownsRow 0 5 1 (.slice A n c) n (xs.map (Value.int .u8))) : (convert 22 9 (.slice A n c)).run Try.prog w = .ok (.string S) w := by
  rw [← hS]
  exact conv_row h
/-- A block that was made among them. -/
structure Zn (w1 w7 : World) (bf bo : Nat) : Prop where
  z : Zm w7 bo
  ne : bo ≠ bf
  low : w1.heap.size ≤ bo
theorem tkm_new {ys : List Int} {w7 : World} {bf : Nat} {S : ByteArray} (hr : O.Rf Q w7 bf (nb (br_ ys)) (nr (br_ ys))) (hS : kv (keyI (bv ys)) = .string S) :
    TknM Q ys (w7.alloc (.cells #[.string S, .int .i64 (nv (br_ ys))] 59)) bf w7.heap.size :=
  ⟨by rw [heap_alloc_new, ← hS]; rfl, rfm_al hr⟩
theorem tkm_old {ys : List Int} {w1 w7 : World} {bf bo : Nat} {S : ByteArray} (hr : O.Rf Q w7 bf (nb (br_ ys)) (nr (br_ ys))) (hS : kv (keyI (bv ys)) = .string S) (hz : Zn w1 w7 bf bo) (hQ : ∀ b, Q b → b < bf) (hbf : bf ≤ w1.heap.size) :
    TknM Q ys ((w7.setCell ⟨bo, 0, none⟩ (.string S)).setCell ⟨bo, 1, none⟩ (.int .i64 (nv (br_ ys)))) bf bo := by
  have hC : Ch (fun b => b = bo) w7 ((w7.setCell ⟨bo, 0, none⟩ (.string S)).setCell ⟨bo, 1, none⟩ (.int .i64 (nv (br_ ys)))) :=
    ((Ch.refl (fun b => b = bo) w7).setCell (p := ⟨bo, 0, none⟩) (.inl rfl) _).setCell (p := ⟨bo, 1, none⟩) (.inl rfl) _
  have hb := hz.z
  unfold Zm at hb
  refine ⟨?_, O.Rf.ch hr hC (fun e => hz.ne e.symm) (fun b hq _ (e : b = bo) => by have := hQ b hq; have := hz.low; omega)⟩
  rw [show kv (mv ys).1 = .string S from hS]
  simp [World.setCell, Array.getElem?_modify, hb]
  rfl
theorem chm_old {w1 w7 : World} {bf bo : Nat} {u v : Value} (h : Ch (O.RS bf) w1 w7) (hz : Zn w1 w7 bf bo) : Ch (O.RS bf) w1 ((w7.setCell ⟨bo, 0, none⟩ u).setCell ⟨bo, 1, none⟩ v) :=
  h.trans (((Ch.refl (fun b => b = bo) w7).setCell (p := ⟨bo, 0, none⟩) (.inl rfl) u).setCell (p := ⟨bo, 1, none⟩) (.inl rfl) v) (fun i hi (e : i = bo) => by have := hz.low; omega)
theorem MU.next {s : Bool × List Int} {w wr w3 w5 : World} {bf k : Nat} {v v' : Value} (h : MU Q s w wr bf v k) (hbf : w.heap.size ≤ bf) (hQ : ∀ b, Q b → b < bf) {o : Obj} (_hs : (mst s k).1 = false)
    (hr3 : O.Rf Q w3 bf (mst1 (mst s k)).1 (mst1 (mst s k)).2) (hc3 : Ch (O.RS bf) wr w3)
    (ho : w5.ownsRow 0 59 2 v' (k + 1) (valM (mvs s k) ++ [kv (mv (mst s k).2).1, .int .i64 (mv (mst s k).2).2])) (hg : (w3.alloc o).grownBy w5 v.ownBlock) (hb : v'.ownBlock = v.ownBlock ∨ v'.ownBlock = some (w3.alloc o).heap.size) (hroom : (mst1 (mst s k)).1 = false → k + 1 + (mst1 (mst s k)).2.length ≤ s.2.length) : MU Q s w w5 bf v' (k + 1) := by
  have hlt3 := O.Rf.lt hr3
  have h3 : Gs 59 2 w w3 v k (valM (mvs s k)) := ⟨hc3.own h.row.own (fun g hg (e : g = bf) => by have := h.apart g hg; omega), h.row.lies, h.row.ch.trans hc3 (fun i hi (e : i = bf) => by omega)⟩
  have hap : ∀ g, v'.ownBlock = some g → bf < g := fun g hg => by
    rcases hb with hb | hb
    · exact h.apart g (hb ▸ hg)
    · rw [hb] at hg
      injection hg with hg
      have := World.size_alloc w3 o
      omega
  refine ⟨?_, ?_, hap, hroom⟩
  · rw [mvs_more, valM_app]
    exact h3.app (m := 1) ((Ch.refl _ _).alloc o) ho hg hb
  · have hC : Ch (fun b => v.ownBlock = some b) w3 w5 := ((Ch.refl (fun b => v.ownBlock = some b) w3).alloc o).grown hg (fun _ h => .inl h)
    exact O.Rf.ch hr3 hC (fun e => by have := h.apart bf e; omega) (fun b hq _ e => by have := h.apart b e; have := hQ b hq; omega)
theorem valM_cells (l : List (Key × Int)) : ∀ u ∈ valM l, u.oneCell' = true := by
  intro u hu
  unfold valM at hu
  obtain ⟨m, _, hm⟩ := List.mem_flatMap.1 hu
  simp at hm
  rcases hm with rfl | rfl <;> rfl
theorem bvm_len (xs : List Int) : (bv xs).length ≤ xs.length := by
  unfold bv
  cases h : takeN 0 0 xs with
  | none => simp
  | some y =>
    obtain ⟨m, r⟩ := y
    have := O.takeN_len _ _ _ _ _ h
    simp only
    split
    · simp
    · rw [List.length_take]; omega
theorem mst_room' (s : Bool × List Int) (k : Nat) (h0 : (mst s k).1 = false) (hr : k + (mst s k).2.length ≤ s.2.length) : (mst1 (mst s k)).1 = false → k + 1 + (mst1 (mst s k)).2.length ≤ s.2.length := fun h => by
  have hs : Sane ((false, (mst s k).2) : Bool × List Int) := fun h => by simp at h
  have he : mst s k = (false, (mst s k).2) := Prod.ext h0 rfl
  have h1 := mst_room hs 1 (by show (mst1 (false, (mst s k).2)).1 = false; rw [← he]; exact h)
  have h2 : (mst (false, (mst s k).2) 1).2 = (mst1 (mst s k)).2 := by show (mst1 (false, (mst s k).2)).2 = _; rw [← he]
  rw [h2] at h1
  simp only at h1
  omega
theorem exit_noM {xs : List Int} {s : Bool × List Int} {k : Nat} {l : List (Key × Int)} (hs : s = (nb xs, nr xs)) (hgo : (decide (k < nv xs) && !(mst s k).1) = false) (hk : k ≤ nv xs) (hg : GoodM l xs) :
    (!(mst s k).1 && (mst s k).2.isEmpty) = true := by
  obtain ⟨a1, a2, _⟩ := goodM_take hg
  rw [← hs] at a2
  have hsane : Sane s := by rw [hs]; exact fun h => (nb_nil h).1
  have hb : (mst s k).1 = false := by
    cases hc : (mst s k).1 with
    | false => rfl
    | true =>
      have := mst_bad_le hsane hc (by omega : k ≤ l.length)
      rw [a2] at this
      simp at this
  have hkn : k = l.length := by
    rw [hb] at hgo
    simp at hgo
    omega
  rw [hkn, a2]
  rfl
theorem exit_yesM {xs : List Int} {s : Bool × List Int} {k : Nat} (hs : s = (nb xs, nr xs)) (hby : Byt xs) (hgo : (decide (k < nv xs) && !(mst s k).1) = false) (hk : k ≤ nv xs) (hw : (!(mst s k).1 && (mst s k).2.isEmpty) = true) :
    k = nv xs ∧ GoodM (mvs s k) xs := by
  rw [Bool.and_eq_true, Bool.not_eq_true', List.isEmpty_iff] at hw
  have hkn : k = nv xs := by
    rw [hw.1] at hgo
    simp at hgo
    omega
  refine ⟨hkn, ?_⟩
  rw [hkn] at hw ⊢
  rw [hs] at hw ⊢
  exact goodM_of hby (Prod.ext hw.1 hw.2)
theorem bo_lt {w7 : World} {bo : Nat} {t : TypeId} {u v : Value} (h : w7.heap[bo]? = some (.cells #[u, v] t (0, 0))) : bo < w7.heap.size := (Array.getElem?_eq_some_iff.1 h).1
set_option maxHeartbeats 2000000 in
theorem refdmat_any (xs : List Int) (A : Option Addr) (n c : Nat) (w : World) (hz : Sl w F .u8 A n xs) (hby : Byt xs) (hn : n ≤ 90000) (hnc : n ≤ c) (hc : c ≤ maxLen) :
    Calls Try.prog 20 #[.slice A n c] w (DMatPost xs w) := by
  have HN : Bx (xs.length ≤ 100000) := ⟨by rw [hz.len]; omega⟩
  have HBY := Bx.mk hby
  have HR0 := Bx.mk (rf_made hz hby hnc hc)
  obtain ⟨w2, hw2⟩ : ∃ w2, w.alloc (.cells #[.slice A n c, .bool false] 76) = w2 := ⟨_, rfl⟩
  obtain ⟨bf, hbf⟩ : ∃ bf, w.heap.size = bf := ⟨_, rfl⟩
  obtain ⟨Q, hQ⟩ : ∃ Q : Nat → Prop, (fun b => b < bf) = Q := ⟨_, rfl⟩
  rw [hbf, hQ, hw2] at HR0
  have HQB : Bx (∀ b, Q b → b < bf) := ⟨fun b hb => by rw [← hQ] at hb; exact hb⟩
  have HC2 : Bx (Ch (fun _ => False) w w2) := ⟨by rw [← hw2]; exact (Ch.refl _ _).alloc _⟩
  have HBF : Bx (w.heap.size ≤ bf) := ⟨Nat.le_of_eq hbf⟩
  clear hz hby hQ
  go_enter Try.func20, Try.ntmps20
  go_wp2_with fail
  clear hw2
  refine (O.rfnum_step bf false xs w2 HN.out HR0.out).mono ?_
  rintro e w3 ⟨rfl, hR3, hC3⟩
  have HC3 : Bx (Ch (fun _ => False) w w3) := ⟨HC2.out.trans hC3 (fun i hi (e : i = bf) => by have := HBF.out; omega)⟩
  obtain ⟨N, hN⟩ : ∃ N, nv xs = N := ⟨_, rfl⟩
  rw [hN]
  have HNN := Bx.mk hN
  obtain ⟨s, hs⟩ : ∃ s : Bool × List Int, s = (nb xs, nr xs) := ⟨_, rfl⟩
  have hsn : s.2.length ≤ xs.length := by rw [hs]; exact nr_len xs
  have HSN := Bx.mk hsn
  have HSD := Bx.mk hs
  have HU0 : Bx (MU Q s w w3 bf (.slice none 0 0) 0) := ⟨⟨Gs.nilAt _ _ HC3.out, by rw [hs]; exact hR3, fun g hg => by simp [Value.ownBlock] at hg, fun _ => by show 0 + s.2.length ≤ _; omega⟩⟩
  clear hR3 hC3 hN hs hsn
  go_wp2_with fail
  go_loopw [6, 7, 8] (fun v i m wr => ∃ k : Nat, k ≤ N ∧ k ≤ 100001 ∧ i = .int .i64 k ∧ Bx (MU Q s w wr bf v k)) (fun _ i _ _ => N - (intOf i).toNat)
  case atStart => exact ⟨0, Nat.zero_le _, Nat.zero_le _, rfl, HU0⟩
  case round =>
    obtain ⟨k, hk, hk9, rfl, HU⟩ := hrel
    have hcell := O.rf_cell HU.out.rd
    obtain ⟨bd, hbd⟩ : ∃ bd, (mst s k).1 = bd := ⟨_, rfl⟩
    rw [hbd] at hcell
    have HBD := Bx.mk hbd
    obtain ⟨go, hgo⟩ : ∃ go, (decide (k < N) && !bd) = go := ⟨_, rfl⟩
    have HGO := Bx.mk hgo
    clear hbd hgo
    obtain ⟨A1, c1, rfl, h11, h12⟩ := HU.out.row.shape
    obtain ⟨wo1, rfl⟩ : ∃ wo1 : World, wo1 = wr := ⟨_, rfl⟩
    go_upto_region 5 with fail
    go_cut [23] from 14 to 23 (fun sc wx => sc = .bool go ∧ wo1 = wx)
    case first =>
      by_cases hlt : k < N
      · have dk : decide ((k : Int) < (N : Int)) = true := decide_eq_true (by omega)
        have dk2 : decide (k < N) = true := decide_eq_true hlt
        have e1 : (!bd) = go := by rw [← HGO.out, dk2]; rfl
        go_wp2_with fail
        all_goals
          go_meet
          first | exact ⟨rfl, rfl⟩ | exact ⟨congrArg Value.bool e1, rfl⟩
      · have dk : decide ((k : Int) < (N : Int)) = false := decide_eq_false (by omega)
        have dk2 : decide (k < N) = false := decide_eq_false hlt
        have e1 : go = false := by rw [← HGO.out, dk2]; rfl
        subst e1
        go_wp2_with fail
        all_goals
          go_meet
          exact ⟨rfl, rfl⟩
    case rest =>
    obtain ⟨rfl, rfl⟩ := hcut
    cases go with
    | true =>
      have hlt : k < N := by have := HGO.out; simp at this; exact this.1
      have hbd : bd = false := by have := HGO.out; simp at this; exact this.2
      subst hbd
      obtain ⟨ys, hys⟩ : ∃ ys, (mst s k).2 = ys := ⟨_, rfl⟩
      have HRK : Bx (O.Rf Q wo1 bf false ys) := ⟨by have := HU.out.rd; rw [HBD.out, hys] at this; exact this⟩
      have hroom := HU.out.room HBD.out
      rw [hys] at hroom
      have HYS := Bx.mk hys
      have hM : ys.length ≤ 100000 := by have := HSN.out; have := HN.out; omega
      have hM2 : (br_ ys).length ≤ 100000 := Nat.le_trans (br_len ys) hM
      have hk99 : k + 1 ≤ 100001 := by have := HSN.out; have := HN.out; omega
      have HBW : Bx (bf < wo1.heap.size) := ⟨O.Rf.lt HU.out.rd⟩
      clear hys hcell
      go_upto_region 7 with fail
      go_cut [8] from 26 to 31 (fun s8 wx => ∃ bo : Nat, s8 = .pointer (some ⟨bo, 0, none⟩) ∧ Bx (TknM Q ys wx bf bo ∧ Ch (O.RS bf) wo1 wx ∧ wo1.heap.size ≤ bo))
      case first =>
        obtain ⟨SK, hSK⟩ : ∃ S : ByteArray, kv (keyI (bv ys)) = .string S := ⟨_, rfl⟩
        have HSK := Bx.mk hSK
        clear hSK
        have HR0 := Bx.mk (rfm_dr HRK.out)
        have HD0 : Bx (Ch (O.RS bf) wo1 wo1.drew) := ⟨(Ch.refl _ _).drew⟩
        go_region_law ((first
          | (go_simp; go_at_call 38; have hz0 := HZ.out; refine (O.rfnum_step bf (bb ys) (br_ ys) w4 hM2 HR1.out).mono ?_; rintro e w5 ⟨rfl, hR, hC⟩; have HR2 := Bx.mk hR; have HZ : Bx (Zn wo1 w5 bf _) := ⟨Zn.mk (zm_ch hz0.z hC hz0.ne) hz0.ne hz0.low⟩; clear hz0; have HD2 : Bx (Ch (O.RS bf) wo1 w5) := ⟨HD1.out.trans hC (fun i _ h => h)⟩; have hkv := conv_rowM HSK.out (hC.own HW4.out.1 (fun g hg => HNE4.out g hg)); have hkva := fun o => conv_rowM HSK.out ((hC.own HW4.out.1 (fun g hg => HNE4.out g hg)).alloc o); obtain ⟨z0, z1, y0, y1⟩ := zm_facts HZ.out.z; clear hR hC)
          | (go_simp; go_at_call 38; refine (O.rfnum_step bf (bb ys) (br_ ys) (w4.alloc (.cells #[.string ⟨#[]⟩, .int .i64 0] 59)) hM2 (rfm_al (o := (.cells #[.string ⟨#[]⟩, .int .i64 0] 59)) HR1.out)).mono ?_; rintro e w5 ⟨rfl, hR, hC⟩; have HR2 := Bx.mk hR; have HZ : Bx (Zn wo1 w5 bf w4.heap.size) := ⟨Zn.mk (zm_ch (show Zm (w4.alloc (.cells #[.string ⟨#[]⟩, .int .i64 0] 59)) w4.heap.size from zm_new w4) hC (fun e => by have : bf < w4.heap.size := O.Rf.lt HR1.out; omega)) (fun e => by have : bf < w4.heap.size := O.Rf.lt HR1.out; omega) HD1.out.size⟩; have HD2 : Bx (Ch (O.RS bf) wo1 w5) := ⟨(HD1.out.alloc (.cells #[.string ⟨#[]⟩, .int .i64 0] 59)).trans hC (fun i _ h => h)⟩; have hkv := conv_rowM HSK.out (hC.own (HW4.out.1.alloc (.cells #[.string ⟨#[]⟩, .int .i64 0] 59)) (fun g hg => HNE4.out g hg)); have hkva := fun o => conv_rowM HSK.out ((hC.own (HW4.out.1.alloc (.cells #[.string ⟨#[]⟩, .int .i64 0] 59)) (fun g hg => HNE4.out g hg)).alloc o); obtain ⟨z0, z1, y0, y1⟩ := zm_facts HZ.out.z; clear hR hC)
          | (go_simp; go_at_call 38; refine (O.rfnum_step bf (bb ys) (br_ ys) w4 hM2 HR1.out).mono ?_; rintro e w5 ⟨rfl, hR, hC⟩; have HR2 := Bx.mk hR; have HD2 : Bx (Ch (O.RS bf) wo1 w5) := ⟨HD1.out.trans hC (fun i _ h => h)⟩; have hkv := conv_rowM HSK.out (hC.own HW4.out.1 (fun g hg => HNE4.out g hg)); have hkva := fun o => conv_rowM HSK.out ((hC.own HW4.out.1 (fun g hg => HNE4.out g hg)).alloc o); clear hR hC)
          | (go_simp; go_at_call 39; have hz0 := HZ.out; refine (O.rfbytes_step bf false ys wo1.drew hM HR0.out).mono ?_; rintro e w4 ⟨vv4, rfl, hrow, hR, hC⟩; obtain ⟨A4, c4, rfl, _, _⟩ := own_shape hrow.1; have HR1 := Bx.mk hR; have HZ : Bx (Zn wo1 w4 bf _) := ⟨Zn.mk (zm_ch hz0.z hC hz0.ne) hz0.ne hz0.low⟩; clear hz0; have HD1 : Bx (Ch (O.RS bf) wo1 w4) := ⟨HD0.out.trans hC (fun i _ h => h)⟩; have HW4 := Bx.mk hrow; have hkv := conv_rowM HSK.out hrow.1; have hkva := fun o => conv_rowM HSK.out (hrow.1.alloc o); have HNE4 : Bx (∀ g, (Value.slice A4 (bv ys).length c4).ownBlock = some g → g ≠ bf) := ⟨fun g hg e => by have h1 := hrow.2 g hg; have h2 := HBW.out; first | (have h3 : wo1.heap.size ≤ g := h1; omega) | (rw [World.size_alloc] at h1; have h3 : wo1.heap.size + 1 ≤ g := h1; omega)⟩; clear hR hC hrow)
          | (go_simp; go_at_call 39; refine (O.rfbytes_step bf false ys (wo1.drew.alloc (.cells #[.string ⟨#[]⟩, .int .i64 0] 59)) hM (rfm_al (o := (.cells #[.string ⟨#[]⟩, .int .i64 0] 59)) HR0.out)).mono ?_; rintro e w4 ⟨vv4, rfl, hrow, hR, hC⟩; obtain ⟨A4, c4, rfl, _, _⟩ := own_shape hrow.1; have HR1 := Bx.mk hR; have HZ : Bx (Zn wo1 w4 bf wo1.heap.size) := ⟨Zn.mk (zm_ch (show Zm (wo1.drew.alloc (.cells #[.string ⟨#[]⟩, .int .i64 0] 59)) wo1.heap.size from zm_new wo1.drew) hC (fun e => by have : bf < wo1.heap.size := O.Rf.lt HR0.out; omega)) (fun e => by have : bf < wo1.heap.size := O.Rf.lt HR0.out; omega) (show wo1.heap.size ≤ wo1.heap.size from Nat.le_refl _)⟩; have HD1 : Bx (Ch (O.RS bf) wo1 w4) := ⟨(HD0.out.alloc (.cells #[.string ⟨#[]⟩, .int .i64 0] 59)).trans hC (fun i _ h => h)⟩; have HW4 := Bx.mk hrow; have hkv := conv_rowM HSK.out hrow.1; have hkva := fun o => conv_rowM HSK.out (hrow.1.alloc o); have HNE4 : Bx (∀ g, (Value.slice A4 (bv ys).length c4).ownBlock = some g → g ≠ bf) := ⟨fun g hg e => by have h1 := hrow.2 g hg; have h2 := HBW.out; first | (have h3 : wo1.heap.size ≤ g := h1; omega) | (rw [World.size_alloc] at h1; have h3 : wo1.heap.size + 1 ≤ g := h1; omega)⟩; clear hR hC hrow)
          | (go_simp; go_at_call 39; refine (O.rfbytes_step bf false ys wo1.drew hM HR0.out).mono ?_; rintro e w4 ⟨vv4, rfl, hrow, hR, hC⟩; obtain ⟨A4, c4, rfl, _, _⟩ := own_shape hrow.1; have HR1 := Bx.mk hR; have HD1 : Bx (Ch (O.RS bf) wo1 w4) := ⟨HD0.out.trans hC (fun i _ h => h)⟩; have HW4 := Bx.mk hrow; have hkv := conv_rowM HSK.out hrow.1; have hkva := fun o => conv_rowM HSK.out (hrow.1.alloc o); have HNE4 : Bx (∀ g, (Value.slice A4 (bv ys).length c4).ownBlock = some g → g ≠ bf) := ⟨fun g hg e => by have h1 := hrow.2 g hg; have h2 := HBW.out; first | (have h3 : wo1.heap.size ≤ g := h1; omega) | (rw [World.size_alloc] at h1; have h3 : wo1.heap.size + 1 ≤ g := h1; omega)⟩; clear hR hC hrow)))
        all_goals
          go_wp2_with fail
          go_meet
          first
            | (have hz := HZ.out; exact ⟨_, rfl, ⟨⟨tkm_old HR2.out HSK.out hz HQB.out (Nat.le_of_lt HBW.out), chm_old HD2.out hz, hz.low⟩⟩⟩)
            | exact ⟨_, rfl, ⟨⟨tkm_new HR2.out HSK.out, HD2.out.alloc _, HD2.out.size⟩⟩⟩
      case rest =>
      obtain ⟨bo, rfl, HT⟩ := hcut
      obtain ⟨SK, hSK⟩ : ∃ S : ByteArray, kv (mv ys).1 = .string S := ⟨_, rfl⟩
      obtain ⟨am, ham⟩ : ∃ a, (mv ys).2 = a := ⟨_, rfl⟩
      have hcell := HT.out.1.cell
      rw [hSK, ham] at hcell
      have z0 : wc.cell? ⟨bo, 0, none⟩ = some (.string SK) := by simp [World.cell?, hcell]
      have z1 : wc.cell? ⟨bo, 1, none⟩ = some (.int .i64 am) := by simp [World.cell?, hcell]
      have HSK := Bx.mk hSK
      have HAM := Bx.mk ham
      have HKL : Bx ((mv ys).1.length ≤ 9223372036854775807) := ⟨by
        show (keyI (bv ys)).length ≤ _
        rw [keyI_len]
        have := bvm_len ys
        omega⟩
      have HRM := Bx.mk (mst_room' s k HBD.out (by rw [HYS.out]; exact hroom))
      have HVC := Bx.mk (valM_cells (mvs s k))
      clear hcell hSK ham
      by_cases hok : okK (mv ys).1
      · have HM1 : Bx (mst1 (mst s k) = (nb (br_ ys), nr (br_ ys))) := ⟨by unfold mst1; rw [HYS.out, if_pos (show okK (keyI (bv ys)) from hok)]⟩
        have HK := Bx.mk (key_any (mv ys).1 wc HKL.out true (decide_eq_true hok))
        rw [HSK.out] at HK
        clear hok
        go_wp2_with fail
        refine HK.out.mono ?_
        rintro e w6 ⟨rfl, rfl⟩
        have HNX : Bx (∀ (v' : Value) (w7 : World) (o : Obj), w7.ownsRow 0 59 2 v' (k + 1) (valM (mvs s k) ++ [.string SK, .int .i64 am]) → (wc.alloc o).grownBy w7 (Value.slice A1 k c1).ownBlock → (v'.ownBlock = (Value.slice A1 k c1).ownBlock ∨ v'.ownBlock = some (wc.alloc o).heap.size) → MU Q s w w7 bf v' (k + 1)) := ⟨fun v' w7 o ho hg hb => by
          rw [← HSK.out, ← HAM.out, ← HYS.out] at ho
          refine MU.next HU.out HBF.out HQB.out HBD.out (by rw [HM1.out]; exact HT.out.1.rd) HT.out.2.1 ho hg hb HRM.out⟩
        have HOW := Bx.mk (HT.out.2.1.own HU.out.row.own (fun g hg (e : g = bf) => by have := HU.out.apart g hg; omega))
        go_wp2_with (at_builtin; refine wp_appK rfl (.tmp 38) (.tmp 40) elemM rfl rfl (HOW.out.alloc _) rfl (m := 1) rfl (mat_cells wc SK _) ?c1 ?c2 ?c3 ?_)
        case c1 => intro u hu; simp at hu; rcases hu with hu | hu <;> (subst hu; rfl)
        case c2 => omega
        case c3 => omega
        intro v7 w7 ho hg hb
        have HU7 := Bx.mk (HNX.out v7 w7 _ ho hg (by rw [World.size_alloc]; exact hb))
        clear ho hg hb HNX HOW
        go_wp2_with fail
        go_roundw
        case rel => exact ⟨k + 1, by omega, by omega, by go_num, HU7⟩
        case measure => simp [intOf]; omega
      · have HM1 : Bx (mst1 (mst s k) = (true, [])) := ⟨by unfold mst1; rw [HYS.out, if_neg (show ¬ okK (keyI (bv ys)) from hok)]⟩
        have HK := Bx.mk (key_any (mv ys).1 wc HKL.out false (decide_eq_false hok))
        rw [HSK.out] at HK
        have HBA := Bx.mk (O.rfbad_any bf _ _ wc HT.out.1.rd)
        have HNB : Bx (bo ≠ bf) := ⟨fun e => by have h1 := HT.out.2.2; have h2 := HBW.out; omega⟩
        clear hok
        go_wp2_with fail
        refine HK.out.mono ?_
        rintro e w6 ⟨rfl, rfl⟩
        go_wp2_with fail
        refine HBA.out.mono ?_
        rintro e w6 ⟨rfl, hR6, hC6⟩
        have HR6 := Bx.mk hR6
        have HC6 : Bx (Ch (O.RS bf) wo1 w6) := ⟨HT.out.2.1.trans hC6 (fun i _ h => h)⟩
        have y0 := hC6.cell (p := ⟨bo, 0, none⟩) HNB.out z0
        have y1 := hC6.cell (p := ⟨bo, 1, none⟩) HNB.out z1
        clear hR6 hC6 HBA HK z0 z1
        have HNX : Bx (∀ (v' : Value) (w7 : World) (o : Obj), w7.ownsRow 0 59 2 v' (k + 1) (valM (mvs s k) ++ [.string SK, .int .i64 am]) → (w6.alloc o).grownBy w7 (Value.slice A1 k c1).ownBlock → (v'.ownBlock = (Value.slice A1 k c1).ownBlock ∨ v'.ownBlock = some (w6.alloc o).heap.size) → MU Q s w w7 bf v' (k + 1)) := ⟨fun v' w7 o ho hg hb => by
          rw [← HSK.out, ← HAM.out, ← HYS.out] at ho
          refine MU.next HU.out HBF.out HQB.out HBD.out (by rw [HM1.out]; exact HR6.out) HC6.out ho hg hb HRM.out⟩
        have HOW := Bx.mk (HC6.out.own HU.out.row.own (fun g hg (e : g = bf) => by have := HU.out.apart g hg; omega))
        go_wp2_with (at_builtin; refine wp_appK rfl (.tmp 38) (.tmp 40) elemM rfl rfl (HOW.out.alloc _) rfl (m := 1) rfl (mat_cells w6 SK _) ?c1 ?c2 ?c3 ?_)
        case c1 => intro u hu; simp at hu; rcases hu with hu | hu <;> (subst hu; rfl)
        case c2 => omega
        case c3 => omega
        intro v7 w7 ho hg hb
        have HU7 := Bx.mk (HNX.out v7 w7 _ ho hg (by rw [World.size_alloc]; exact hb))
        clear ho hg hb HNX HOW
        go_wp2_with fail
        go_roundw
        case rel => exact ⟨k + 1, by omega, by omega, by go_num, HU7⟩
        case measure => simp [intOf]; omega
    | false =>
      have HWH := Bx.mk (O.rfwhole_any bf (mst s k).1 (mst s k).2 wo1 HU.out.rd)
      obtain ⟨en, hen⟩ : ∃ en, (!(mst s k).1 && (mst s k).2.isEmpty) = en := ⟨_, rfl⟩
      have HEN := Bx.mk hen
      rw [hen] at HWH
      have HKN := Bx.mk hk
      rw [← HBD.out, ← HNN.out] at HGO
      rw [← HNN.out] at HKN
      clear hen hcell
      go_wp2_with fail
      refine HWH.out.mono ?_
      rintro e w5 ⟨rfl, rfl⟩
      clear HWH
      cases en with
      | false =>
        have HNO : Bx (∀ l, ¬ GoodM l xs) := ⟨fun l hg => by
          have h := exit_noM HSD.out HGO.out HKN.out hg
          rw [HEN.out] at h
          cases h⟩
        go_wp2_with fail
        go_ret2
        exact .inr ⟨HNO.out, rfl, HU.out.row.ch⟩
      | true =>
        have HG : Bx (k = nv xs ∧ GoodM (mvs s k) xs) := ⟨exit_yesM HSD.out HBY.out HGO.out HKN.out HEN.out⟩
        go_wp2_with fail
        go_ret2
        exact DMatPost.yes HG.out.2 (mvs_len s k) HU.out.row
end
end Go.Proofs.Ytanhnaohmaepoaa
