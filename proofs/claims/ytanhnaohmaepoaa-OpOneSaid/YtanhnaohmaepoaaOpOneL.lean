/-
  The law OpOne: two ops have the same bytes just if they are one.
  Conditions: the texts read as they say; nothing is longer than the form's own reach.
-/
import Derived.Test.YtanhnaohmaepoaaOpKnown
import Derived.Test.YtanhnaohmaepoaaOpOps
import Derived.Test.YtanhnaohmaepoaaOpRd
import Derived.Test.YtanhnaohmaepoaaOpLawW
import Derived.Deep.DeepCutAuto
import Derived.RegionTactic
import Derived.Deep.RegionLaw
namespace Go.Proofs.Ytanhnaohmaepoaa
open Go.RowKit Go.Oct Go.Su Go.Sg Go.Om

theorem encO_one {a b : Ao} (ha : errO a = 0) (hb : errO b = 0) : decide (encO a = encO b) = decide (a = b) := by
  refine decide_eq_decide.2 ⟨fun h => ?_, fun h => by rw [h]⟩
  unfold encO at h
  rw [if_pos ha, if_pos hb] at h
  exact GoodO.uniq (xs := bytO b) ⟨ha, h⟩ ⟨hb, rfl⟩
theorem encO_len {o : Ao} {N : Nat} (h : o.key.length + o.txt.length ≤ N) : (encO o).length ≤ N + 100 := by
  by_cases he : errO o = 0
  · have hk := okO.1 he
    have hkey : o.key.length ≤ 64 := hk.key.2
    have htx := hk.txt
    unfold encO bytO
    rw [if_pos he, List.length_append, List.length_append]
    have h1 := enc3_len o.kd o.cl o.sq
    have h2 := rowB_len (xs := kI o.key) rfl (by rw [kI_len]; omega)
    have h3 := rowB_len (xs := o.txt) rfl (by omega)
    rw [kI_len] at h2
    omega
  · unfold encO
    rw [if_neg he]
    simp
theorem w64_nat {a b s : Nat} (h : a + b = s) (hs : s ≤ 1000000000000000000) : wrap64 ((a : Int) + (b : Int)) = (s : Int) := by
  unfold wrap64
  omega
section
variable {F G : Nat → Prop}
set_option maxHeartbeats 4000000 in
theorem opone_any (kd cl sq : Int) (k : Key) (xs : List Int) (A : Option Addr) (n c : Nat) (kd' cl' sq' : Int) (k' : Key) (ys : List Int) (B : Option Addr) (m d : Nat) (w : World)
    (hx : Sl w F .u8 A n xs) (hnc : n ≤ c) (hc : c ≤ maxLen) (hn : n ≤ 140737488351232) (hk : k.length ≤ 140737488351232) (hy : Sl w G .u8 B m ys) (hmd : m ≤ d) (hd : d ≤ maxLen) (hm : m ≤ 140737488351232) (hk' : k'.length ≤ 140737488351232) :
    Calls Try.prog 7 #[.agg #[.int .i64 kd, .int .i64 cl, .int .i64 sq, kv k, .slice A n c], .agg #[.int .i64 kd', .int .i64 cl', .int .i64 sq', kv k', .slice B m d]] w fun e w' => e = .returned (.bool true) ∧ Ch (fun _ => False) w w' := by
  obtain ⟨S, p, hS, hz, hp⟩ : ∃ (S : ByteArray) (p : Nat), kv k = .string S ∧ S.size = p ∧ k.length = p := ⟨_, _, rfl, kv_size k, rfl⟩
  obtain ⟨T, p', hT, hz', hp'⟩ : ∃ (S : ByteArray) (p : Nat), kv k' = .string S ∧ S.size = p ∧ k'.length = p := ⟨_, _, rfl, kv_size k', rfl⟩
  obtain ⟨b0, hb0⟩ : ∃ b, w.heap.size = b := ⟨_, rfl⟩
  obtain ⟨w1, hw1⟩ : ∃ w1, w.alloc (.cells #[.int .i64 kd, .int .i64 cl, .int .i64 sq, .string S, .slice A n c] 24) = w1 := ⟨_, rfl⟩
  have hs1 : w1.heap.size = b0 + 1 := by rw [← hw1, ← hb0, World.size_alloc]
  obtain ⟨w2, hw2⟩ : ∃ w2, w1.alloc (.cells #[.int .i64 kd', .int .i64 cl', .int .i64 sq', .string T, .slice B m d] 24) = w2 := ⟨_, rfl⟩
  have hC1 : Ch (fun _ => False) w w1 := by rw [← hw1]; exact (Ch.refl _ _).alloc _
  have hC12 : Ch (fun _ => False) w1 w2 := by rw [← hw2]; exact (Ch.refl _ _).alloc _
  have hA2 : OpB w2 b0 kd cl sq (.string S) (.slice A n c) := by
    refine OpB.ch (w := w1) ?_ hC12 (fun h => h)
    rw [← hw1, ← hb0]; exact heap_alloc_new w _
  have hB2 : OpB w2 (b0 + 1) kd' cl' sq' (.string T) (.slice B m d) := by rw [← hw2, ← hs1]; exact heap_alloc_new w1 _
  have HC2 := Bx.mk (hC1.trans hC12 (fun _ _ h => h))
  have HA2 := Bx.mk hA2
  have HB2 := Bx.mk hB2
  have HX := Bx.mk hx
  have HY := Bx.mk hy
  have HS := Bx.mk hS
  have HT := Bx.mk hT
  have HXL := Bx.mk hx.len
  have HYL := Bx.mk hy.len
  obtain ⟨y0, y1, y2, y3, y4, _, _, _, _, _⟩ := hA2.facts
  obtain ⟨z0, z1, z2, z3, z4, _, _, _, _, _⟩ := hB2.facts
  have HP := Bx.mk (And.intro hp hp')
  have HBD := Bx.mk (And.intro hc hd)
  rw [hS, hT]
  obtain ⟨s1, hs1'⟩ : ∃ s, p + n = s := ⟨_, rfl⟩
  obtain ⟨s2, hs2'⟩ : ∃ s, s1 + p' = s := ⟨_, rfl⟩
  obtain ⟨s3, hs3'⟩ : ∃ s, s2 + m = s := ⟨_, rfl⟩
  have HSUM : Bx (s3 = p + n + p' + m) := ⟨by omega⟩
  rw [hp] at hk
  rw [hp'] at hk'
  have l1 : s1 ≤ 1000000000000000000 := by omega
  have l2 : s2 ≤ 1000000000000000000 := by omega
  have l3 : s3 ≤ 1000000000000000000 := by omega
  have e1 : wrap64 ((p : Int) + (n : Int)) = (s1 : Int) := w64_nat hs1' l1
  have e2 : wrap64 ((s1 : Int) + (p' : Int)) = (s2 : Int) := w64_nat hs2' l2
  have e3 : wrap64 ((s2 : Int) + (m : Int)) = (s3 : Int) := w64_nat hs3' l3
  clear hC1 hC12 hA2 hB2 hx hy hS hT hp hp' hs1' hs2' hs3' hk hk' hc hd l1 l2 l3
  by_cases hbig : 12000 < s3
  · have dt : decide ((12000 : Int) < (s3 : Int)) = true := decide_eq_true (by omega)
    go_enter Try.func7, Try.ntmps7
    go_wp2_with fail
    go_ret
    exact ⟨rfl, HC2.out⟩
  · have dt : decide ((12000 : Int) < (s3 : Int)) = false := decide_eq_false (by omega)
    have dt2 : decide (12000 < s3) = false := decide_eq_false (by omega)
    go_enter Try.func7, Try.ntmps7
    go_upto_region 3 with fail
    have hsmall : p ≤ 12000 ∧ n ≤ 12000 ∧ p' ≤ 12000 ∧ m ≤ 12000 := by have := HSUM.out; omega
    have HE1 := Bx.mk (encode_any kd cl sq k xs A n c w2 (HX.out.ch HC2.out (fun _ _ _ h => h)) (by omega) hnc HBD.out.1 (by rw [HP.out.1]; omega))
    rw [HS.out] at HE1
    have HSM := Bx.mk hsmall
    obtain ⟨r1, hr1⟩ : ∃ r, errO ⟨kd, cl, sq, k, xs⟩ = r := ⟨_, rfl⟩
    obtain ⟨r2, hr2⟩ : ∃ r, errO ⟨kd', cl', sq', k', ys⟩ = r := ⟨_, rfl⟩
    have HR1 := Bx.mk hr1
    have HR2 := Bx.mk hr2
    clear e1 e2 e3 hr1 hr2 hbig hsmall dt dt2 hw1 hw2 hs1 hb0 hz hz' hn hm
    go_wp2_with fail
    refine HE1.out.mono ?_
    rintro e w3 ⟨v1, rfl, hf1⟩
    rw [HR1.out]
    have HC3 := Bx.mk (HC2.out.trans hf1.2.2 (fun _ _ h => h))
    have HF1 := Bx.mk hf1
    obtain ⟨z0, z1, z2, z3, z4, _, _, _, _, _⟩ := (HB2.out.ch hf1.2.2 (fun h => h)).facts
    have HE2 := Bx.mk (encode_any kd' cl' sq' k' ys B m d w3 (HY.out.ch HC3.out (fun _ _ _ h => h)) (by have := HSM.out; omega) hmd HBD.out.2 (by rw [HP.out.2]; have := HSM.out; omega))
    rw [HT.out] at HE2
    obtain ⟨Ax, cx, rfl, _, _⟩ := own_shape hf1.1
    obtain ⟨lx, hlx⟩ : ∃ l, (encO ⟨kd, cl, sq, k, xs⟩).length = l := ⟨_, rfl⟩
    rw [hlx] at HF1 ⊢
    have HLX := Bx.mk hlx
    clear hf1 HE1 hlx y0 y1 y2 y3 y4
    go_wp2_with fail
    refine HE2.out.mono ?_
    rintro e w4 ⟨v2, rfl, hf2⟩
    rw [HR2.out]
    obtain ⟨Ay, cy, rfl, _, _⟩ := own_shape hf2.1
    obtain ⟨ly, hly⟩ : ∃ l, (encO ⟨kd', cl', sq', k', ys⟩).length = l := ⟨_, rfl⟩
    have HSX := Bx.mk ((Fresh.sl HF1.out HLX.out.symm).ch hf2.2.2 (fun _ _ _ h => h))
    have HSY := Bx.mk (Fresh.sl hf2 rfl)
    rw [hly] at HSY ⊢
    have HLY := Bx.mk hly
    have HC4 := Bx.mk (HC3.out.trans hf2.2.2 (fun _ _ h => h))
    have HA4 := Bx.mk ((HA2.out.ch HF1.out.2.2 (fun h => h)).ch hf2.2.2 (fun h => h))
    have HB4 := Bx.mk ((HB2.out.ch HF1.out.2.2 (fun h => h)).ch hf2.2.2 (fun h => h))
    clear hf2 HE2 hly z0 z1 z2 z3 z4 HF1 HA2 HB2
    by_cases h1 : r1 = 0
    case neg =>
      have d1 : (r1 != 0) = true := by simpa using h1
      clear h1
      go_wp2_with fail
      refine (known_any w4).mono ?_
      rintro e w5 ⟨rfl, hC5⟩
      have HC5 := Bx.mk (HC4.out.trans hC5 (fun _ _ h => h))
      clear hC5
      go_wp2
      go_ret
      exact ⟨rfl, HC5.out⟩
    case pos =>
    by_cases h2 : r2 = 0
    case neg =>
      have d2 : (r2 != 0) = true := by simpa using h2
      subst h1
      clear h2
      go_wp2_with fail
      refine (known_any w4).mono ?_
      rintro e w5 ⟨rfl, hC5⟩
      have HC5 := Bx.mk (HC4.out.trans hC5 (fun _ _ h => h))
      clear hC5
      go_wp2
      go_ret
      exact ⟨rfl, HC5.out⟩
    case pos =>
    subst h1 h2
    have hone := encO_one HR1.out HR2.out
    obtain ⟨o, ho⟩ : ∃ o : Bool, decide ((⟨kd, cl, sq, k, xs⟩ : Ao) = ⟨kd', cl', sq', k', ys⟩) = o := ⟨_, rfl⟩
    rw [ho] at hone
    have hll : lx ≤ 100000 ∧ ly ≤ 100000 := by
      have a1 := encO_len (o := ⟨kd, cl, sq, k, xs⟩) (N := 50000) (by show k.length + xs.length ≤ _; rw [HP.out.1, HXL.out]; have := HSM.out; omega)
      have a2 := encO_len (o := ⟨kd', cl', sq', k', ys⟩) (N := 50000) (by show k'.length + ys.length ≤ _; rw [HP.out.2, HYL.out]; have := HSM.out; omega)
      rw [HLX.out] at a1
      rw [HLY.out] at a2
      omega
    have HSAME := Bx.mk (same_o Ax Ay lx ly cx cy _ _ _ _ w4.drew (by omega) (by omega) (HSX.out.ch ((Ch.refl (fun _ => False) w4).drew) (fun _ _ _ h => h)) (HSY.out.ch ((Ch.refl (fun _ => False) w4).drew) (fun _ _ _ h => h)) o hone)
    have HOPS : Bx (∀ w5, Ch (fun _ => False) w w5 → Calls Try.prog 15 #[.agg #[.int .i64 kd, .int .i64 cl, .int .i64 sq, .string S, .slice A n c], .agg #[.int .i64 kd', .int .i64 cl', .int .i64 sq', .string T, .slice B m d]] w5 fun e w' => e = .returned (.bool o) ∧ Ch (fun _ => False) w5 w') := ⟨fun w5 hc => by
      rw [← HS.out, ← HT.out]
      exact ops_any kd cl sq k xs A n c kd' cl' sq' k' ys B m d w5 (HX.out.ch hc (fun _ _ _ h => h)) (HY.out.ch hc (fun _ _ _ h => h)) (by have := HSM.out; omega) (by have := HSM.out; omega) o ho⟩
    obtain ⟨y0, y1, y2, y3, y4, _, _, _, _, _⟩ := HA4.out.facts
    obtain ⟨z0, z1, z2, z3, z4, _, _, _, _, _⟩ := HB4.out.facts
    have hoo : (o == o) = true := by simp
    clear hone ho hll HX HY HS HT HSX HSY
    go_upto_region 7 with fail
    go_region_law ((first
      | (go_simp; go_at_call 13; refine (known_any w6).mono ?_; rintro e w7 ⟨rfl, hC7⟩; have HC7 := Bx.mk (HC6.out.trans hC7 (fun _ _ h => h)); clear hC7)
      | (go_simp; go_at_call 15; refine (HOPS.out w5 HC5.out).mono ?_; rintro e w6 ⟨rfl, hC6⟩; have HC6 := Bx.mk (HC5.out.trans hC6 (fun _ _ h => h)); clear hC6)
      | (go_simp; go_at_call 11; refine (HSAME.out).mono ?_; rintro e w5 ⟨rfl, hC5⟩; have hC45 : Ch (fun _ => False) w4 w5 := ((Ch.refl (fun _ => False) w4).drew).trans hC5 (fun _ _ h => h); have HC5 := Bx.mk (HC4.out.trans hC45 (fun _ _ h => h)); obtain ⟨x0, x1, x2, x3, x4, _, _, _, _, _⟩ := (HA4.out.ch hC45 (fun h => h)).facts; obtain ⟨u0, u1, u2, u3, u4, _, _, _, _, _⟩ := (HB4.out.ch hC45 (fun h => h)).facts; clear hC5 hC45)))
    all_goals
      go_wp2
      go_ret
      exact ⟨rfl, HC7.out⟩
end
end Go.Proofs.Ytanhnaohmaepoaa
