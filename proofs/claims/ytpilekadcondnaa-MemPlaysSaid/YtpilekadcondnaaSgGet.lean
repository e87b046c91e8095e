/-
  The contract of the document's answer haystackref9.Get.
  Conditions: the segment reads as it says.
-/
import Derived.Test.YtpilekadcondnaaSgRef
import Derived.Test.YtpilekadcondnaaFrNone
import Derived.Test.YtpilekadcondnaaSgMerge
namespace Go.Proofs.Ytpilekadcondnaa
open Go.RowKit Go.Oct Go.Su Go.Sg

theorem str_beq (a b : Key) : ((⟨a.toArray⟩ : ByteArray).toList == (⟨b.toArray⟩ : ByteArray).toList) = decide (a = b) := by
  rw [Lib.toList_data, Lib.toList_data]
  rw [Bool.eq_iff_iff]
  simp
theorem at_first {ds : List Dc} {k : Key} {j : Nat} {d : Dc} (h : ∀ i d, i < j → ds[i]? = some d → d.1 ≠ k) (hd : ds[j]? = some d) (e : d.1 = k) : at_ ds k = some d.2 := by
  unfold at_
  have : ds.find? (fun d => decide (d.1 = k)) = some d := by
    rw [List.find?_eq_some_iff_getElem]
    obtain ⟨hj, hjd⟩ := List.getElem?_eq_some_iff.1 hd
    refine ⟨by simpa using e, j, hj, hjd, fun i hi => ?_⟩
    simpa using h i _ hi (List.getElem?_eq_getElem (by omega))
  rw [this]
  rfl
theorem at_no {ds : List Dc} {k : Key} (h : ∀ i d, i < ds.length → ds[i]? = some d → d.1 ≠ k) : at_ ds k = none := by
  rw [at_none]
  intro hm
  obtain ⟨d, hd, e⟩ := List.mem_map.1 hm
  obtain ⟨i, hi⟩ := List.getElem?_of_mem hd
  exact h i d (List.getElem?_eq_some_iff.1 hi).1 hi e
/-- What Get tells of a key: its text, whether there is one, whether the key is known. -/
def GR (ds : List Dc) (gs : List Key) (k : Key) (t : List Int) (hs kn : Bool) : Prop :=
  match at_ ds k with
  | some u => t = u ∧ hs = true ∧ kn = true
  | none => t = [] ∧ hs = false ∧ kn = decide (k ∈ gs)
def GetOf (ds : List Dc) (gs : List Key) (k : Key) (w : World) (e : Ending) (w' : World) : Prop := ∃ v t hs kn, e = .returned (.tuple #[v, .bool hs, .bool kn]) ∧ Fresh w v t w' ∧ GR ds gs k t hs kn
theorem GR.some {ds : List Dc} {gs : List Key} {k : Key} {t : List Int} (h : at_ ds k = some t) : GR ds gs k t true true := by unfold GR; rw [h]; exact ⟨rfl, rfl, rfl⟩
theorem GR.none {ds : List Dc} {gs : List Key} {k : Key} {o : Bool} (h : at_ ds k = none) (ho : decide (k ∈ gs) = o) : GR ds gs k [] false o := by unfold GR; rw [h]; exact ⟨rfl, rfl, ho.symm⟩
section
variable {F : Nat → Prop}
set_option maxHeartbeats 1000000 in
theorem rget_any {w : World} {b : Nat} {ds : List Dc} {gs : List Key} (h : Rs w F b ds gs) (hn : ds.length ≤ 1048576) (hm : gs.length ≤ 1048576) (hbig : ∀ d ∈ ds, d.2.length ≤ 1048576) (k : Key) :
    Calls Try.prog 36 #[.pointer (some ⟨b, 0, none⟩), kv k] w (GetOf ds gs k w) := by
  obtain ⟨A, c, B, d, h1, h2, h3, h4, h5, h6, h7, h8, _⟩ := h
  obtain ⟨n, hnn⟩ : ∃ n, ds.length = n := ⟨_, rfl⟩
  obtain ⟨m, hmm⟩ : ∃ m, gs.length = m := ⟨_, rfl⟩
  have HL := Bx.mk hnn
  have HM := Bx.mk hmm
  rw [hnn] at h1 h3 h5 hn
  rw [hmm] at h2 h4 h7 hm
  have HD := Bx.mk h3
  have HK := Bx.mk h4
  have HB := Bx.mk hbig
  have HSB := Bx.mk (fun j => str_beq j k)
  obtain ⟨SK, hSK⟩ : ∃ S : ByteArray, (⟨k.toArray⟩ : ByteArray) = S := ⟨_, rfl⟩
  have HSB2 : Bx (∀ j, ((⟨j.toArray⟩ : ByteArray).toList == SK.toList) = decide (j = k)) := ⟨fun j => by rw [← hSK]; exact HSB.out j⟩
  have hkv : kv k = .string SK := by unfold kv; rw [hSK]
  rw [hkv]
  clear h3 h4 hnn hmm hbig HSB hSK hkv
  go_enter Try.func36, Try.ntmps36
  go_wp2_with fail
  go_loop [7] (fun i => ∃ q : Nat, q ≤ n ∧ i = .int .i64 q ∧ Bx (∀ i d, i < q → ds[i]? = some d → d.1 ≠ k)) (fun i => n - (intOf i).toNat)
  case atStart => exact ⟨0, Nat.zero_le _, rfl, ⟨fun i d hi => absurd hi (by omega)⟩⟩
  case round =>
    obtain ⟨q, hq, rfl, hno⟩ := hrel
    by_cases hlt : q < n
    · have dk : decide ((q : Int) < (n : Int)) = true := decide_eq_true (by omega)
      obtain ⟨bd, od, dc, Bt, ct, rfl, _, hd, hck, hct, hst, hlt2, hcm⟩ := HD.out.get hlt
      have i2 : (q : Int) < (n : Int) := by omega
      have hsb := HSB2.out dc.1
      have hck2 : w.cell? ⟨bd, od + q * 2, none⟩ = some (.string ⟨dc.1.toArray⟩) := hck
      obtain ⟨SD, hSD⟩ : ∃ S : ByteArray, (⟨dc.1.toArray⟩ : ByteArray) = S := ⟨_, rfl⟩
      rw [hSD] at hsb hck2
      clear hSD hck
      by_cases he : dc.1 = k
      · have hsb2 : (SD.toList == SK.toList) = true := by rw [hsb]; simpa using he
        have HAT := Bx.mk (at_first hno.out hd.out he)
        have hbl : dc.2.length ≤ 1048576 := HB.out dc (List.mem_of_getElem? hd.out)
        obtain ⟨tl, htl⟩ : ∃ tl, dc.2.length = tl := ⟨_, rfl⟩
        have HTL := Bx.mk htl
        rw [htl] at hct hst hbl
        have HST := Bx.mk (hst.alloc (.cells #[] 5))
        have HON := Bx.mk (own_none8 w)
        have g1 := ((Ch.refl (fun _ => False) w).alloc (.cells #[] 5)).cell (p := ⟨b, 0, none⟩) (fun h => h) h1
        have g2 := ((Ch.refl (fun _ => False) w).alloc (.cells #[] 5)).cell (p := ⟨bd, od + q * 2 + 1, none⟩) (fun h => h) hct
        clear hsb he hd hst hlt2 hcm hno htl
        go_wp2_with (at_builtin; refine wp_app rfl (.tmp 28) (.tmp 36) Tb rfl rfl HON.out rfl HST.out ?c1 ?c2 ?c3 ?_)
        case c1 => intro a _; rfl
        case c2 => omega
        case c3 => omega
        intro v5 w5 ho5 hg5 hb5
        have HF : Bx (Fresh w v5 dc.2 w5) := ⟨(fresh_none8 w).app8 (by rw [HTL.out]; exact ho5) hg5 (by rw [World.size_alloc]; exact hb5)⟩
        clear ho5 hg5 hb5
        go_wp2
        go_ret3
        exact ⟨v5, dc.2, true, true, rfl, HF.out, GR.some HAT.out⟩
      · have hsb2 : (SD.toList == SK.toList) = false := by rw [hsb]; simpa using he
        have HNO : Bx (∀ i d, i < q + 1 → ds[i]? = some d → d.1 ≠ k) := ⟨fun i d hi hdi => by
          rcases Nat.lt_or_ge i q with h | h
          · exact hno.out i d h hdi
          · obtain rfl : i = q := by omega
            rw [hd.out] at hdi
            injection hdi with hdi
            rw [← hdi]; exact he⟩
        clear hsb he hd hst hlt2 hcm hno hct
        go_wp2
        go_round
        case rel => exact ⟨q + 1, by omega, by go_num, HNO⟩
        case measure => simp [intOf]; omega
    · obtain rfl : n = q := by omega
      have dk : decide ((n : Int) < (n : Int)) = false := decide_eq_false (by omega)
      have HAT := Bx.mk (at_no (by rw [HL.out]; exact hno.out))
      clear hno
      go_wp2_with fail
      go_loop [8] (fun i => ∃ q : Nat, q ≤ m ∧ i = .int .i64 q ∧ Bx (∀ i x, i < q → gs[i]? = some x → x ≠ k)) (fun i => m - (intOf i).toNat)
      case atStart => exact ⟨0, Nat.zero_le _, rfl, ⟨fun i d hi => absurd hi (by omega)⟩⟩
      case round =>
        obtain ⟨q, hq, rfl, hno⟩ := hrel
        by_cases hlt : q < m
        · have dk2 : decide ((q : Int) < (m : Int)) = true := decide_eq_true (by omega)
          obtain ⟨bd, od, x, rfl, _, hx, hck⟩ := HK.out.at_ hlt
          have i2 : (q : Int) < (m : Int) := by omega
          have hsb := HSB2.out x
          have hck2 : w.cell? ⟨bd, od + q, none⟩ = some (.string ⟨x.toArray⟩) := hck
          obtain ⟨SD, hSD⟩ : ∃ S : ByteArray, (⟨x.toArray⟩ : ByteArray) = S := ⟨_, rfl⟩
          rw [hSD] at hsb hck2
          clear hSD hck
          by_cases he : x = k
          · have hsb2 : (SD.toList == SK.toList) = true := by rw [hsb]; simpa using he
            have HI : Bx (decide (k ∈ gs) = true) := ⟨decide_eq_true (he ▸ List.mem_of_getElem? hx.out)⟩
            clear hsb he hx hno
            go_wp2
            go_ret3
            exact ⟨_, [], false, true, rfl, fresh_none (Ch.refl _ _), GR.none HAT.out HI.out⟩
          · have hsb2 : (SD.toList == SK.toList) = false := by rw [hsb]; simpa using he
            have HNO : Bx (∀ i d, i < q + 1 → gs[i]? = some d → d ≠ k) := ⟨fun i d hi hdi => by
              rcases Nat.lt_or_ge i q with h | h
              · exact hno.out i d h hdi
              · obtain rfl : i = q := by omega
                rw [hx.out] at hdi
                injection hdi with hdi
                rw [← hdi]; exact he⟩
            clear hsb he hx hno
            go_wp2
            go_round
            case rel => exact ⟨q + 1, by omega, by go_num, HNO⟩
            case measure => simp [intOf]; omega
        · obtain rfl : m = q := by omega
          have dk2 : decide ((m : Int) < (m : Int)) = false := decide_eq_false (by omega)
          have HI : Bx (decide (k ∈ gs) = false) := ⟨decide_eq_false (fun hm => by
            obtain ⟨i, hi⟩ := List.getElem?_of_mem hm
            exact hno.out i k (by rw [← HM.out]; exact (List.getElem?_eq_some_iff.1 hi).1) hi rfl)⟩
          clear hno
          go_wp2
          go_ret3
          exact ⟨_, [], false, false, rfl, fresh_none (Ch.refl _ _), GR.none HAT.out HI.out⟩
end
end Go.Proofs.Ytpilekadcondnaa
