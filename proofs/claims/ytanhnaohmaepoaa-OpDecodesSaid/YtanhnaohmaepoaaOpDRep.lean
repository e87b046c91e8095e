/-
  The contract of the document's answer haystackref13.DecodeReply.
  Conditions: the bytes read as they say; not too many.
-/
import Derived.Test.YtanhnaohmaepoaaOpRefEnc
import Derived.Test.YtanhnaohmaepoaaOpGoodM
import Derived.Test.YtanhnaohmaepoaaOpRdr
import Derived.Deep.DeepCutAuto
namespace Go.Proofs.Ytanhnaohmaepoaa
open Go.RowKit Go.Oct Go.Su Go.Sg Go.Om

section
variable {F Q : Nat → Prop}
/-- What DecodeReply leaves. -/
def DRepPost (xs : List Int) (w : World) (e : Ending) (w' : World) : Prop :=
  (∃ (er : Nat) (l : List Nat) (A : Option Addr) (c : Nat), GoodR er l xs ∧ e = .returned (.tuple #[.int .i64 (er : Nat), .slice A l.length c, .int .i64 0]) ∧ Gs 3 1 w w' (.slice A l.length c) l.length (vals l)) ∨
  ((∀ er l, ¬ GoodR er l xs) ∧ e = .returned (.tuple #[.int .i64 0, .slice none 0 0, .int .i64 3]) ∧ Ch (fun _ => False) w w')
theorem DRepPost.yes {xs : List Int} {w w' : World} {er k : Nat} {l : List Nat} {A : Option Addr} {c : Nat} (h : GoodR er l xs) (hl : l.length = k) (hr : Gs 3 1 w w' (.slice A k c) k (vals l)) : DRepPost xs w (.returned (.tuple #[.int .i64 (er : Nat), .slice A k c, .int .i64 0])) w' := by
  subst hl
  exact .inl ⟨er, l, A, c, h, rfl, hr⟩
/-- Numbers under way: k are taken. -/
structure NU (Q : Nat → Prop) (s : Bool × List Int) (w wr : World) (bf : Nat) (v : Value) (k : Nat) : Prop where
  row : Gs 3 1 w wr v k (vals (nvs s k))
  rd : O.Rf Q wr bf (nst s k).1 (nst s k).2
  apart : ∀ g, v.ownBlock = some g → bf < g
theorem NU.next {s : Bool × List Int} {w wr w3 w5 : World} {bf k : Nat} {v v' : Value} (h : NU Q s w wr bf v k) (hbf : w.heap.size ≤ bf) (hQ : ∀ b, Q b → b ≤ bf) {o : Obj}
    (hr3 : O.Rf Q w3 bf (nb (nst s k).2) (nr (nst s k).2)) (hc3 : Ch (O.RS bf) wr w3)
    (ho : w5.ownsRow 0 3 1 v' (k + 1) (vals (nvs s k) ++ [.int .i64 (nv (nst s k).2 : Nat)])) (hg : (w3.alloc o).grownBy w5 v.ownBlock) (hb : v'.ownBlock = v.ownBlock ∨ v'.ownBlock = some (w3.alloc o).heap.size) : NU Q s w w5 bf v' (k + 1) := by
  have hlt3 := O.Rf.lt hr3
  have h3 : Gs 3 1 w w3 v k (vals (nvs s k)) := ⟨hc3.own h.row.own (fun g hg (e : g = bf) => by have := h.apart g hg; omega), h.row.lies, h.row.ch.trans hc3 (fun i hi (e : i = bf) => by omega)⟩
  have hap : ∀ g, v'.ownBlock = some g → bf < g := fun g hg => by
    rcases hb with hb | hb
    · exact h.apart g (hb ▸ hg)
    · rw [hb] at hg
      injection hg with hg
      have := World.size_alloc w3 o
      omega
  refine ⟨?_, ?_, hap⟩
  · rw [nvs_more]
    unfold vals
    rw [List.map_append]
    exact h3.app (m := 1) ((Ch.refl _ _).alloc o) ho hg hb
  · have hC : Ch (fun b => v.ownBlock = some b) w3 w5 := ((Ch.refl (fun b => v.ownBlock = some b) w3).alloc o).grown hg (fun _ h => .inl h)
    exact O.Rf.ch hr3 hC (fun e => by have := h.apart bf e; omega) (fun b hq _ e => by have := h.apart b e; have := hQ b hq; omega)
theorem exit_no {xs : List Int} {k er : Nat} {l : List Nat} (hgo : (decide (k < nv (nr xs)) && (decide (k < 9) && !(nst (rs0 xs) k).1)) = false) (hk : k ≤ nv (nr xs)) (hg : GoodR er l xs) :
    (!(nst (rs0 xs) k).1 && (nst (rs0 xs) k).2.isEmpty) = true ∧ nv xs ≤ 100 ∧ nv (nr xs) ≤ 8 := by
  obtain ⟨a1, a2, a3, _⟩ := goodR_take hg
  have h1 := hg.err
  have h2 := hg.few
  have hb : (nst (rs0 xs) k).1 = false := by
    cases hc : (nst (rs0 xs) k).1 with
    | false => rfl
    | true =>
      have := nst_bad_le (rs0_sane xs) hc (by omega : k ≤ l.length)
      rw [a3] at this
      simp at this
  have hkn : k = l.length := by
    rw [hb] at hgo
    simp at hgo
    omega
  rw [hkn, a3]
  exact ⟨rfl, by omega, by omega⟩
theorem exit_yes {xs : List Int} {k : Nat} (hby : Byt xs) (hgo : (decide (k < nv (nr xs)) && (decide (k < 9) && !(nst (rs0 xs) k).1)) = false) (hk : k ≤ nv (nr xs)) (hw : (!(nst (rs0 xs) k).1 && (nst (rs0 xs) k).2.isEmpty) = true) (h1 : nv xs ≤ 100) (h2 : nv (nr xs) ≤ 8) :
    k = nv (nr xs) ∧ GoodR (nv xs) (nvs (rs0 xs) k) xs := by
  rw [Bool.and_eq_true, Bool.not_eq_true', List.isEmpty_iff] at hw
  have hkn : k = nv (nr xs) := by
    rw [hw.1] at hgo
    simp at hgo
    omega
  refine ⟨hkn, ?_⟩
  rw [hkn]
  rw [hkn] at hw
  exact goodR_of hby (Prod.ext hw.1 hw.2) h1 h2
set_option maxHeartbeats 1000000 in
theorem refdrep_any (xs : List Int) (A : Option Addr) (n c : Nat) (w : World) (hz : Sl w F .u8 A n xs) (hby : Byt xs) (hn : n ≤ 6000) (hnc : n ≤ c) (hc : c ≤ maxLen) :
    Calls Try.prog 18 #[.slice A n c] w (DRepPost xs w) := by
  have HN : Bx (xs.length ≤ 100000) := ⟨by rw [hz.len]; omega⟩
  have HBY := Bx.mk hby
  have HR0 := Bx.mk (rf_made hz hby hnc hc)
  obtain ⟨w2, hw2⟩ : ∃ w2, w.alloc (.cells #[.slice A n c, .bool false] 76) = w2 := ⟨_, rfl⟩
  obtain ⟨bf, hbf⟩ : ∃ bf, w.heap.size = bf := ⟨_, rfl⟩
  obtain ⟨Q, hQ⟩ : ∃ Q : Nat → Prop, (fun b => b < bf) = Q := ⟨_, rfl⟩
  rw [hbf, hQ, hw2] at HR0
  have HQB : Bx (∀ b, Q b → b ≤ bf) := ⟨fun b hb => by rw [← hQ] at hb; have hb' : b < bf := hb; omega⟩
  have HC2 : Bx (Ch (fun _ => False) w w2) := ⟨by rw [← hw2]; exact (Ch.refl _ _).alloc _⟩
  have HBF : Bx (w.heap.size ≤ bf) := ⟨Nat.le_of_eq hbf⟩
  clear hz hby hQ
  go_enter Try.func18, Try.ntmps18
  go_wp2_with fail
  clear hw2
  refine (O.rfnum_step bf false xs w2 HN.out HR0.out).mono ?_
  rintro e w3 ⟨rfl, hR3, hC3⟩
  have HR3 := Bx.mk hR3
  have HC3 : Bx (Ch (fun _ => False) w w3) := ⟨HC2.out.trans hC3 (fun i hi (e : i = bf) => by have := HBF.out; omega)⟩
  obtain ⟨E, hE⟩ : ∃ E, nv xs = E := ⟨_, rfl⟩
  rw [hE]
  have HE := Bx.mk hE
  clear hR3 hC3 hE
  go_wp2_with fail
  refine (O.rfnum_step bf (nb xs) (nr xs) w3 (Nat.le_trans (nr_len xs) HN.out) HR3.out).mono ?_
  rintro e w4 ⟨rfl, hR4, hC4⟩
  have HC4 : Bx (Ch (fun _ => False) w w4) := ⟨HC3.out.trans hC4 (fun i hi (e : i = bf) => by have := HBF.out; omega)⟩
  obtain ⟨N, hN⟩ : ∃ N, nv (nr xs) = N := ⟨_, rfl⟩
  rw [hN]
  have HNN := Bx.mk hN
  have HU0 : Bx (NU Q (rs0 xs) w w4 bf (.slice none 0 0) 0) := ⟨⟨Gs.nilAt _ _ HC4.out, hR4, fun g hg => by simp [Value.ownBlock] at hg⟩⟩
  clear hR4 hC4 hN
  go_wp2_with fail
  go_loopw [8, 9] (fun v i wr => ∃ k : Nat, k ≤ N ∧ k ≤ 9 ∧ i = .int .i64 k ∧ Bx (NU Q (rs0 xs) w wr bf v k)) (fun _ i _ => 9 - (intOf i).toNat)
  case atStart => exact ⟨0, Nat.zero_le _, Nat.zero_le _, rfl, HU0⟩
  case round =>
    obtain ⟨k, hk, hk9, rfl, HU⟩ := hrel
    have hcell := O.rf_cell HU.out.rd
    obtain ⟨bd, hbd⟩ : ∃ bd, (nst (rs0 xs) k).1 = bd := ⟨_, rfl⟩
    rw [hbd] at hcell
    have HBD := Bx.mk hbd
    obtain ⟨go, hgo⟩ : ∃ go, (decide (k < N) && (decide (k < 9) && !bd)) = go := ⟨_, rfl⟩
    have HGO := Bx.mk hgo
    clear hbd hgo
    obtain ⟨A1, c1, rfl, h11, h12⟩ := HU.out.row.shape
    obtain ⟨wo1, rfl⟩ : ∃ wo1 : World, wo1 = wr := ⟨_, rfl⟩
    go_upto_region 5 with fail
    go_cut [30] from 17 to 30 (fun sc wx => sc = .bool go ∧ wo1 = wx)
    case first =>
      by_cases hlt : k < N
      · have dk : decide ((k : Int) < (N : Int)) = true := decide_eq_true (by omega)
        have dk2 : decide (k < N) = true := decide_eq_true hlt
        by_cases h9 : k < 9
        · have d9 : decide ((k : Int) < 9) = true := decide_eq_true (by omega)
          have d92 : decide (k < 9) = true := decide_eq_true h9
          have e1 : (!bd) = go := by rw [← HGO.out, dk2, d92]; rfl
          go_wp2_with fail
          all_goals
            go_meet
            first | exact ⟨rfl, rfl⟩ | exact ⟨congrArg Value.bool e1, rfl⟩
        · have d9 : decide ((k : Int) < 9) = false := decide_eq_false (by omega)
          have d92 : decide (k < 9) = false := decide_eq_false h9
          have e1 : go = false := by rw [← HGO.out, dk2, d92]; rfl
          subst e1
          go_wp2_with fail
          all_goals
            go_meet
            exact ⟨rfl, rfl⟩
      · have dk : decide ((k : Int) < (N : Int)) = false := decide_eq_false (by omega)
        have dk2 : decide (k < N) = false := decide_eq_false hlt
        have e1 : go = false := by rw [← HGO.out, dk2]; rfl
        subst e1
        go_wp2_with fail
        all_goals
          go_meet
          exact ⟨rfl, rfl⟩
    case rest =>
    obtain ⟨rfl, rfl⟩ := hcut
    cases go with
    | true =>
      have hlt : k < N := by have := HGO.out; simp at this; exact this.1
      have h9 : k < 9 := by have := HGO.out; simp at this; exact this.2.1
      have hl : (nst (rs0 xs) k).2.length ≤ 100000 := by
        have h1 := nst_len (rs0 xs) k
        have h2 : (rs0 xs).2.length ≤ xs.length := Nat.le_trans (nr_len _) (nr_len _)
        have := HN.out
        omega
      have HS := Bx.mk (O.rfnum_step bf (nst (rs0 xs) k).1 (nst (rs0 xs) k).2 wo1 hl HU.out.rd)
      clear hcell hl
      go_wp2_with fail
      refine HS.out.mono ?_
      rintro e w5 ⟨rfl, hR5, hC5⟩
      have HNX := Bx.mk (fun (v' : Value) (w7 : World) (o : Obj) => NU.next (v' := v') (w5 := w7) (o := o) HU.out HBF.out HQB.out hR5 hC5)
      have HOW := Bx.mk (hC5.own HU.out.row.own (fun g hg (e : g = bf) => by have := HU.out.apart g hg; omega))
      have HVC := Bx.mk (vals_cells (nvs (rs0 xs) k))
      obtain ⟨X, hX⟩ : ∃ X, nv (nst (rs0 xs) k).2 = X := ⟨_, rfl⟩
      rw [hX] at HNX ⊢
      clear hR5 hC5 hX HS
      go_wp2_with (at_builtin; refine wp_app rfl (.tmp 33) (.tmp 36) elemI rfl rfl (HOW.out.alloc _) rfl (Vs.one _ _ _) ?c1 ?c2 ?c3 ?_)
      case c1 => intro u hu; simp at hu; subst hu; rfl
      case c2 => omega
      case c3 => omega
      intro v7 w7 ho hg hb
      have HU7 := Bx.mk (HNX.out v7 w7 _ ho hg (by rw [World.size_alloc]; exact hb))
      clear ho hg hb HNX HOW
      go_wp2_with fail
      go_roundw
      case rel => exact ⟨k + 1, by omega, by omega, by go_num, HU7⟩
      case measure => simp [intOf]; omega
    | false =>
      have HWH := Bx.mk (O.rfwhole_any bf (nst (rs0 xs) k).1 (nst (rs0 xs) k).2 wo1 HU.out.rd)
      obtain ⟨en, hen⟩ : ∃ en, (!(nst (rs0 xs) k).1 && (nst (rs0 xs) k).2.isEmpty) = en := ⟨_, rfl⟩
      have HEN := Bx.mk hen
      rw [hen] at HWH
      have HKN := Bx.mk (And.intro hk hk9)
      rw [← HBD.out, ← HNN.out] at HGO
      rw [← HNN.out] at HKN
      clear hen hcell
      go_wp2_with fail
      refine HWH.out.mono ?_
      rintro e w5 ⟨rfl, rfl⟩
      clear HWH
      cases en with
      | false =>
        have HNO : Bx (∀ er l, ¬ GoodR er l xs) := ⟨fun er l hg => by
          have h := (exit_no HGO.out HKN.out.1 hg).1
          rw [HEN.out] at h
          cases h⟩
        go_wp2_with fail
        go_ret3
        exact .inr ⟨HNO.out, rfl, HU.out.row.ch⟩
      | true =>
        by_cases hE : 100 < E
        · have dE : decide ((100 : Int) < (E : Int)) = true := decide_eq_true (by omega)
          have HNO : Bx (∀ er l, ¬ GoodR er l xs) := ⟨fun er l hg => by
            have h := (exit_no HGO.out HKN.out.1 hg).2.1
            rw [HE.out] at h
            omega⟩
          go_wp2_with fail
          go_ret3
          exact .inr ⟨HNO.out, rfl, HU.out.row.ch⟩
        · have dE : decide ((100 : Int) < (E : Int)) = false := decide_eq_false (by omega)
          have dE2 : decide (100 < E) = false := decide_eq_false (by omega)
          by_cases h8 : 8 < N
          · have d8 : decide ((8 : Int) < (N : Int)) = true := decide_eq_true (by omega)
            have HNO : Bx (∀ er l, ¬ GoodR er l xs) := ⟨fun er l hg => by
              have h := (exit_no HGO.out HKN.out.1 hg).2.2
              rw [HNN.out] at h
              omega⟩
            go_wp2_with fail
            go_ret3
            exact .inr ⟨HNO.out, rfl, HU.out.row.ch⟩
          · have d8 : decide ((8 : Int) < (N : Int)) = false := decide_eq_false (by omega)
            have d82 : decide (8 < N) = false := decide_eq_false (by omega)
            have HG : Bx (k = N ∧ GoodR E (nvs (rs0 xs) k) xs) := ⟨by
              have h := exit_yes HBY.out HGO.out HKN.out.1 HEN.out (by rw [HE.out]; omega) (by rw [HNN.out]; omega)
              rw [HE.out, HNN.out] at h
              exact h⟩
            go_wp2_with fail
            go_ret3
            have hl := nvs_len (rs0 xs) k
            exact DRepPost.yes HG.out.2 hl HU.out.row
end
end Go.Proofs.Ytanhnaohmaepoaa
