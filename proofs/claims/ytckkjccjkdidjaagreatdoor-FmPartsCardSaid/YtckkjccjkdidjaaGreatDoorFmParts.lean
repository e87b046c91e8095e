/-
  The law FmParts: each part of a text is found where it stands. Over the contracts of the Index.
-/
import Derived.Test.YtckkjccjkdidjaaGreatDoorFmPartsT
namespace Go.Su
section
variable {xss : List (List Int)} {t : List Int}
/-- What stands where a part of a text is found. -/
theorem part_there {p : List Int} {d a k : Nat} (h : Occ xss p d a) (hk : p.length = k) : a + k ≤ (xss.getD d []).length ∧ ((xss.getD d []).drop a).take k = p := by
  subst hk
  exact ⟨h.fits, (take_eq_iff _ _ _ h.fits).2 h.same⟩
theorem part_found {d f k : Nat} (hd : d < xss.length) (ht : xss.getD d [] = t) (hk : 0 < k) (hf : f + k ≤ t.length) : (d, f) ∈ locs xss ((t.drop f).take k) 0 := by
  have hl : ((t.drop f).take k).length = k := by rw [List.length_take, List.length_drop]; omega
  refine (mem_locs xss 0 d f).2 ⟨Nat.zero_le _, ?_⟩
  rw [Nat.sub_zero]
  refine ⟨fun e => by rw [e] at hl; simp at hl; omega, hd, by rw [hl, ht]; exact hf, fun j hj => ?_⟩
  rw [hl] at hj
  rw [ht]
  refine (gs_at ?_).symm
  rw [List.getElem?_take_of_lt hj, List.getElem?_drop, gs_some (by omega)]
/-- Has a hit been met? -/
def met (l : List (Nat × Nat)) (u : Nat × Nat) (i : Nat) : Bool := (l.take i).any fun v => decide (v = u)
theorem met_next {l : List (Nat × Nat)} {u v : Nat × Nat} {i : Nat} (h : l[i]? = some v) : met l u (i + 1) = (met l u i || decide (v = u)) := by
  unfold met
  rw [List.take_add_one, h, Option.toList_some, List.any_append]
  simp
theorem met_all {l : List (Nat × Nat)} {u : Nat × Nat} (h : u ∈ l) : met l u l.length = true := by
  unfold met
  rw [List.take_length, List.any_eq_true]
  exact ⟨u, h, by simp⟩
end
end Go.Su
namespace Go.Proofs.YtckkjccjkdidjaaGreatDoor
open Go.RowKit Go.Oct Go.Su X

theorem and_low (x : Int) (k : Nat) (hk : k < 63) : bits .and .i64 x ((2 ^ k - 1 : Nat) : Int) = (((x % ((2 ^ k : Nat) : Int)).toNat : Nat) : Int) := by
  have hp : (2 : Nat) ^ k < 2 ^ 63 := Nat.pow_lt_pow_right (by decide) hk
  have hp0 : 0 < 2 ^ k := Nat.pow_pos (by decide)
  have hd : (2 : Nat) ^ k ∣ 18446744073709551616 := ⟨2 ^ (64 - k), by rw [← Nat.pow_add, show k + (64 - k) = 64 by omega]⟩
  have h2 : (BitVec.ofInt 64 (((2 ^ k - 1 : Nat)) : Int)).toNat = 2 ^ k - 1 := by
    rw [BitVec.ofInt_natCast, BitVec.toNat_ofNat]; exact Nat.mod_eq_of_lt (by omega)
  have h1 : (BitVec.ofInt 64 x).toNat = (x % (18446744073709551616 : Nat)).toNat := by
    rw [BitVec.toNat_ofInt]
  have h3 : (x % (18446744073709551616 : Nat)).toNat % 2 ^ k = (x % ((2 ^ k : Nat) : Int)).toNat := by
    have e1 : ((x % ((18446744073709551616 : Nat) : Int)).toNat : Int) = x % ((18446744073709551616 : Nat) : Int) := by omega
    have e2 : (((x % ((18446744073709551616 : Nat) : Int)).toNat % 2 ^ k : Nat) : Int) = x % ((2 ^ k : Nat) : Int) := by
      rw [Int.natCast_emod, e1]
      exact Int.emod_emod_of_dvd x (Int.natCast_dvd_natCast.2 hd)
    omega
  show IntKind.i64.wrap ((BitVec.ofInt 64 x &&& BitVec.ofInt 64 (((2 ^ k - 1 : Nat)) : Int)).toNat : Int) = _
  rw [BitVec.toNat_and, h1, h2, Nat.and_two_pow_sub_one_eq_mod, h3]
  have h4 : (x % ((2 ^ k : Nat) : Int)).toNat < 2 ^ k := by
    have := Int.emod_lt_of_pos x (show (0 : Int) < ((2 ^ k : Nat) : Int) by omega)
    have := Int.emod_nonneg x (show ((2 ^ k : Nat) : Int) ≠ 0 by omega)
    omega
  exact IntWalk.i64_in _ (by omega)
theorem and16 (x : Int) : ∃ a : Nat, bits .and .i64 x 65535 = (a : Int) ∧ a < 65536 := by
  have h := and_low x 16 (by omega)
  have e : ((2 ^ 16 - 1 : Nat) : Int) = 65535 := by decide
  have e2 : ((2 ^ 16 : Nat) : Int) = 65536 := by decide
  rw [e] at h
  refine ⟨(x % ((2 ^ 16 : Nat) : Int)).toNat, h, ?_⟩
  have := Int.emod_lt_of_pos x (show (0 : Int) < ((2 ^ 16 : Nat) : Int) by omega)
  omega
theorem rem_nat {a n d : Nat} (h : a % n = d) : (a : Int) % (n : Int) = (d : Int) ∧ (a : Int).tmod (n : Int) = (d : Int) := by
  subst h
  constructor
  · rw [Int.natCast_emod]
  · rw [Int.tmod_eq_emod_of_nonneg (by omega), Int.natCast_emod]
section
variable {F G : Nat → Prop}
theorem of_parts {cd : Code} {Q : Exit → Act → World → Prop} {a : Act} {w : World} (h : cd = partsTest) (k : Code.wp Tryz.prog partsTest Q a w) : Code.wp Tryz.prog cd Q a w := by
  subst h
  exact k
set_option maxRecDepth 100000 in
set_option maxHeartbeats 8000000 in
theorem parts_law (xss : List (List Int)) (z1 z2 z3 : Int) (A : Option Addr) (n c : Nat) (w : World) (hz : Sls w F A n xss) (hb : Byts xss) (hn : n ≤ 9223372036854775807) (ht : W.Tab w) :
    Calls Tryz.prog 4 #[.slice A n c, .int .i64 z1, .int .i64 z2, .int .i64 z3] w fun e w' => e = .returned (.bool true) ∧ Ch (fun _ => False) w w' := by
  have HZ := Bx.mk hz
  have HB := Bx.mk hb
  have HL := Bx.mk hz.len
  have HT := Bx.mk ht
  have hh := heavy_any xss A n c w F hn hz
  clear hz hb ht
  go_enter Tryz.func4, Tryz.ntmps4
  go_wp2_with fail
  refine hh.mono ?_
  rintro e0 w1 ⟨hv, rfl, rfl, hs⟩
  clear hh
  cases hv with
  | true =>
    go_wp2
    go_ret
    exact ⟨rfl, Ch.refl _ _⟩
  | false =>
    have HSL := Bx.mk (slim_txt (hs rfl))
    have HSE := Bx.mk (slim_each (hs rfl))
    have hnb : n ≤ 266 := by have := HSL.out.2; rw [HL.out] at this; exact this
    clear hs
    by_cases h1 : n < 1
    · have d1 : decide ((n : Int) < 1) = true := by simp; omega
      have d2 : decide (n < 1) = true := by simp; omega
      go_wp2
      go_ret
      exact ⟨rfl, Ch.refl _ _⟩
    · have d1 : decide ((n : Int) < 1) = false := by simp; omega
      have d2 : decide (n < 1) = false := by simp; omega
      by_cases h60 : 60 < n
      · have d3 : decide (60 < (n : Int)) = true := by simp; omega
        have d4 : decide (60 < n) = true := by simp; omega
        go_wp2
        go_ret
        exact ⟨rfl, Ch.refl _ _⟩
      · have d3 : decide (60 < (n : Int)) = false := by simp; omega
        have d4 : decide (60 < n) = false := by simp; omega
        obtain ⟨a1, ha1, hl1⟩ := and16 z1
        obtain ⟨D, hD⟩ : ∃ D, a1 % n = D := ⟨_, rfl⟩
        have hDn : D < n := by rw [← hD]; exact Nat.mod_lt _ (by omega)
        obtain ⟨r1, r1'⟩ := rem_nat hD
        obtain ⟨b0, o0, A', c', t, rfl, _, ex, hc, hsl, hlc, hcm⟩ := HZ.out.at_ hDn
        have hex := ex.out
        have HEX := Bx.mk hex
        have htd : xss.getD D [] = t := by rw [List.getD_eq_getElem?_getD, hex]; rfl
        have HTD := Bx.mk htd
        have htl := txt_each t (List.mem_of_getElem? hex)
        have hts := HSL.out.1
        obtain ⟨tl, htle⟩ : ∃ tl, t.length = tl := ⟨_, rfl⟩
        rw [htle] at hc hsl htl hlc
        have HTL := Bx.mk htle
        have HST := Bx.mk hsl
        have i1 : (D : Int) < (n : Int) := by omega
        have i0 : (0 : Int) ≤ (D : Int) := by omega
        have n0 : (n : Int) ≠ 0 := by omega
        have n0' : ((n : Int) == 0) = false := by simp; omega
        clear ex hex htd htle hD hsl
        by_cases ht0 : tl = 0
        · subst ht0
          have hk := known_any w HT.out
          go_wp2_with fail
          refine hk.mono ?_
          rintro e0 w7 ⟨rfl, hC7⟩
          have HC7 := Bx.mk hC7
          clear hC7 hk
          go_wp2
          go_ret
          exact ⟨rfl, HC7.out⟩
        · have t0 : ((tl : Int) == 0) = false := by simp; omega
          have t0' : (tl : Int) ≠ 0 := by omega
          obtain ⟨a2, ha2, hl2⟩ := and16 z2
          obtain ⟨f, hf⟩ : ∃ f, a2 % tl = f := ⟨_, rfl⟩
          have hft : f < tl := by rw [← hf]; exact Nat.mod_lt _ (by omega)
          obtain ⟨r2, r2'⟩ := rem_nat hf
          obtain ⟨a3, ha3, hl3⟩ := and16 z3
          obtain ⟨v, hv⟩ : ∃ v, tl - f = v := ⟨_, rfl⟩
          have hvi : (tl : Int) - (f : Int) = (v : Int) := by omega
          obtain ⟨q, hq⟩ : ∃ q, a3 % v = q := ⟨_, rfl⟩
          have hqv : q < v := by rw [← hq]; exact Nat.mod_lt _ (by omega)
          obtain ⟨r3, r3'⟩ := rem_nat hq
          obtain ⟨k, hk⟩ : ∃ k, 1 + q = k := ⟨_, rfl⟩
          have hki : (1 : Int) + (q : Int) = (k : Int) := by omega
          have v0 : ((v : Int) == 0) = false := by simp; omega
          have v0' : (v : Int) ≠ 0 := by omega
          have hfk : f + k ≤ tl := by omega
          have hk1 : 1 ≤ k := by omega
          have hbu := build_any xss (some ⟨b0, o0, none⟩) n c w HZ.out HB.out (by omega) HT.out
          clear hf hv hq hk
          go_wp2_with fail
          refine hbu.mono ?_
          rintro e0 w2 (⟨_, b, rfl, hI, hC2⟩ | ⟨h, _⟩)
          · have HI2 := Bx.mk hI
            have HC2 := Bx.mk hC2
            obtain ⟨b1, o1, x0, rfl, _, _, _⟩ := HST.out.at_ (show 0 < tl by omega)
            have hc2 := hC2.cell (p := ⟨b0, o0 + D, none⟩) (fun h => h) hc
            have efk : ((f : Int) + (k : Int)).toNat = f + k := by omega
            have g1 : (f : Int) ≤ (f : Int) + (k : Int) := by omega
            have g2 : (f : Int) + (k : Int) ≤ (c' : Int) := by omega
            have g3 : (0 : Int) ≤ (f : Int) := by omega
            have hf8 : f ≤ 801 := by omega
            have hk8 : k ≤ 801 := by omega
            have esub : f + k - f = k := by omega
            have hfc : f + k ≤ c' := by omega
            have hfc2 : ¬ c' = f := by omega
            clear hI hC2 hbu ha1 ha2 ha3 r1 r1' r2 r2' r3 r3' hvi hki n0 n0' t0 t0' v0 v0' d1 d2 d3 d4
            obtain ⟨P, hP⟩ : ∃ P, (t.drop f).take k = P := ⟨_, rfl⟩
            have hPl : P.length = k := by rw [← hP, List.length_take, List.length_drop, HTL.out]; omega
            have hsP : Sl w (fun _ => True) .u8 (some ⟨b1, o1 + f, none⟩) k P := by
              rw [← hP]
              exact (((HST.out.mono (G := fun _ => True) (fun _ _ _ => trivial)).drop (k := f) (by omega)).take (k := k) (by omega))
            have hbP : ∀ x ∈ P, 0 ≤ x ∧ x < 256 := fun x hx => by
              rw [← hP] at hx
              exact HB.out t (List.mem_of_getElem? HEX.out) x (List.mem_of_mem_drop (List.mem_of_mem_take hx))
            have hin : (D, f) ∈ locs xss P 0 := by
              rw [← hP]
              exact part_found (by rw [HL.out]; exact hDn) HTD.out (by omega) (by rw [HTL.out]; exact hfk)
            have HIN := Bx.mk hin
            have HPL := Bx.mk hPl
            have HSP := Bx.mk hsP
            have HBPP := Bx.mk hbP
            have hlo := locate_any HI2.out P (some ⟨b1, o1 + f, none⟩) k (c' - f) (hsP.ch HC2.out (fun _ _ _ h => h)) hbP (by omega)
            clear hP hPl hsP hbP hin
            go_wp2_with fail
            refine hlo.mono ?_
            rintro e0 w3 ⟨A3, c3, m, rfl, hH3, hC3⟩
            have HH3 := Bx.mk hH3
            have HM := Bx.mk hH3.len
            have HC3 := Bx.mk (HC2.out.trans hC3 (fun _ _ h => h))
            have HI3 := Bx.mk (HI2.out.keep hC3)
            have hm8 : m ≤ 801 := by
              have h1 := locs_len (p := P) (xss := xss) n (by rw [HL.out]; exact Nat.le_refl _)
              have h2 := HSL.out.1
              rw [txt_len, HL.out] at h2
              rw [take_locs P HL.out, HM.out] at h1
              omega
            clear hH3 hC3 hlo HI2 HC2 hc2 efk g1 g2 g3 esub
            go_upto_region 13 with fail
            go_cut [15, 16] from 18 to 83 (fun s15 s16 wx => s15 = .slice A3 m c3 ∧ s16 = .bool false ∧ w3 = wx)
            case first =>
              go_wp2_with fail
              go_meet
              exact ⟨rfl, rfl, rfl⟩
            case rest =>
              obtain ⟨rfl, rfl, rfl⟩ := hcut
              go_wp2_with fail
              go_loopw [16, 17] (fun fv iv wr => ∃ i : Nat, i ≤ m ∧ iv = .int .i64 i ∧ fv = .bool (met (locs xss P 0) (D, f) i) ∧ Bx (Ch (fun _ => False) w3 wr)) (fun _ iv _ => m - (intOf iv).toNat)
              case atStart => exact ⟨0, Nat.zero_le _, rfl, rfl, ⟨Ch.refl _ _⟩⟩
              case round =>
                obtain ⟨i, hi, rfl, rfl, hC⟩ := hrel
                by_cases hlt : i < m
                · have di : decide ((i : Int) < (m : Int)) = true := by simp; omega
                  have HIr := Bx.mk (HI3.out.keep hC.out)
                  obtain ⟨bh, oh, rfl, _, hch⟩ := (HH3.out.ch hC.out (fun _ _ _ h => h)).at_ (by omega)
                  obtain ⟨h, hh⟩ : ∃ h, (locs xss P 0)[i]? = some h := ⟨_, List.getElem?_eq_getElem (by rw [HM.out]; exact hlt)⟩
                  obtain ⟨d2, a2⟩ := h
                  obtain ⟨k1, k2⟩ := hch i _ hh
                  have HMN := Bx.mk (met_next (u := (D, f)) hh)
                  have hocc := ((mem_locs xss 0 d2 a2).1 (List.mem_of_getElem? hh)).2
                  rw [Nat.sub_zero] at hocc
                  have hd2 : d2 < n := by rw [← HL.out]; exact hocc.doc
                  obtain ⟨hfit, hpart⟩ := part_there hocc HPL.out
                  have HCW := Bx.mk (HC3.out.trans hC.out (fun _ _ h => h))
                  obtain ⟨b9, o9, A5, c5, t2, hA, _, ex2, hc5, hsl5, hlc5, hcm5⟩ := (HZ.out.ch HCW.out (fun _ _ _ h => h)).at_ hd2
                  injection hA with hA
                  injection hA with e1 e2
                  subst e1 e2
                  have ht2 : xss.getD d2 [] = t2 := by rw [List.getD_eq_getElem?_getD, ex2.out]; rfl
                  rw [ht2] at hfit hpart
                  have htl2 := txt_each t2 (List.mem_of_getElem? ex2.out)
                  have hts2 := HSL.out.1
                  have HEXT : Bx (ext xss (d2 : Nat) (a2 : Nat) (k : Nat) = P) := ⟨by
                    unfold ext
                    rw [Int.toNat_natCast, ht2, if_neg (by rw [HL.out]; omega), Int.toNat_natCast, Int.toNat_natCast]
                    exact hpart⟩
                  obtain ⟨tl2, htle2⟩ : ∃ tl2, t2.length = tl2 := ⟨_, rfl⟩
                  rw [htle2] at hc5 hsl5 hlc5 hfit htl2
                  obtain ⟨b5, o5, _, rfl, _, _, _⟩ := hsl5.at_ (show 0 < tl2 by omega)
                  have HS5 : Bx (Sl wr _ .u8 (some ⟨b5, o5 + a2, none⟩) k P) := ⟨by
                    rw [← hpart]
                    exact ((hsl5.drop (k := a2) (by omega)).take (k := k) (by omega))⟩
                  obtain ⟨x, hx⟩ : ∃ x, a2 + k = x := ⟨_, rfl⟩
                  have hxk : x - a2 = k := by omega
                  have hxt : x ≤ tl2 := by omega
                  have hxc : x ≤ c5 := by omega
                  have hca : ¬ c5 = a2 := by omega
                  have hx8 : x ≤ 801 := by omega
                  have g1 : decide ((d2 : Int) < 0) = false := by simp
                  have g2 : decide ((n : Int) ≤ (d2 : Int)) = false := by simp; omega
                  have g2' : decide (n ≤ d2) = false := by simp; omega
                  have g3 : decide ((a2 : Int) < 0) = false := by simp
                  have g4 : decide ((tl2 : Int) < (x : Int)) = false := by simp; omega
                  have g4' : decide (tl2 < x) = false := by simp; omega
                  have i2 : (d2 : Int) < (n : Int) := by omega
                  have i3 : (i : Int) < (m : Int) := by omega
                  have i4 : (0 : Int) ≤ (d2 : Int) := by omega
                  have i5 : (a2 : Int) ≤ (x : Int) := by omega
                  have i6 : (x : Int) ≤ (c5 : Int) := by omega
                  have i7 : (0 : Int) ≤ (a2 : Int) := by omega
                  have HCELL := Bx.mk (And.intro k1 (And.intro k2 hc5))
                  have HXX := Bx.mk hx
                  obtain ⟨wo, rfl⟩ : ∃ wo : World, wo = wr := ⟨_, rfl⟩
                  clear hch hh hocc hpart ex2 hsl5 htle2 ht2 htl2 hts2 k1 k2 hc5 hx hfit
                  go_wp2_with fail
                  refine of_parts (by kernel_rfl) ?_
                  refine parts_test xss P b b0 o0 n c b1 (o1 + f) (c' - f) bh oh m c3 i k d2 a2 b5 o5 tl2 c5 x wo _ _ _ _ _ _ _ _ _ _ _ _ _ _ _ _ _ _ _ _ _ _ _ _ _ _ _ _ _ _ _ _ _ _ _ _ _ _ _ _ _ _ _ _ _ _ _ _ _ _ _ _ _ _ _ _ _ _ _ _ _ _ _ _ _ _ _ _ _ _ _ _ _ _ _ _ _ _ _ _ _ _ _ _ _ _ _ _ _ _ _ _ _ _ _ _ _ _ _ _ _ _ _ _ _ _ _ _ _ _ _ _ _ _ _ _ _ _ _ _ _ _ _ _ _ _ _ _ _ _ _ _ _ _ _ _ _ _ _ _ _ _ _ _ _ _ _ _ _ _ _ _ _ _ _ _ _ _ _ _ _ _ _ _ _ _ _ _ _ _ _ _ _ _ _ _ _ _ _ _ _ _ _ _ _ _ _ _ _ _ _ _ _ _ _ HIr HEXT HPL ⟨HSP.out.ch HCW.out (fun _ _ _ h => h)⟩ HS5 HCELL HXX.out hxt hxc hx8 hk1 hd2 hlt ?_
                  intro v90 v91 v92 v93 v94 v95 v96 v97 v98 v99 v100 v101 v102 v103 v104 v105 v106 v107 v108 v109 v110 v111 v112 v113 v114 v115 v116 v117 v118 v119 v120 v121 v122 v123 v124 v125 v126 v127 v128 v129 v130 v131 v132 v133 v134 v135 v136 v137 v138 v139 v140 v141 v142 v143 v144 v145 v146 v147 v148 v149 v150 v151 v152 v153 v154 v155 v156 v157 v158 v159 v160 v161 v162 v163 v164 v165 v166 v167 v168 v169 v170 v171 v172 v173 v174 v175 w' hC'
                  have HC' := Bx.mk (hC.out.trans hC' (fun _ _ h => h))
                  have q1 := hC'.cell (fun h => h) HCELL.out.1
                  have q2 := hC'.cell (fun h => h) HCELL.out.2.1
                  have hmn := HMN.out
                  obtain ⟨fb, hfb⟩ : ∃ fb, met (locs xss P 0) (D, f) i = fb := ⟨_, rfl⟩
                  rw [hfb] at hmn ⊢
                  clear hC' hC hfb hxk hxt hxc hca hx8 g1 g2 g2' g3 g4 g4' i2 i4 i5 i6 i7
                  cases fb with
                  | true =>
                    have HMM : Bx (met (locs xss P 0) (D, f) (i + 1) = true) := ⟨by rw [hmn]; rfl⟩
                    clear hmn
                    go_wp2
                    go_roundw
                    case rel => exact ⟨i + 1, by omega, by go_num, by rw [HMM.out], HC'⟩
                    case measure => simp [intOf]; omega
                  | false =>
                    rw [Bool.false_or] at hmn
                    by_cases hd : d2 = D
                    · have e1 : ((d2 : Int) == (D : Int)) = true := by simp; omega
                      have e2 : (d2 == D) = true := by simpa using hd
                      have e3 : (d2 : Int) = (D : Int) := by omega
                      by_cases ha : a2 = f
                      · have e4 : ((a2 : Int) == (f : Int)) = true := by simp; omega
                        have e5 : (a2 == f) = true := by simpa using ha
                        have e6 : (a2 : Int) = (f : Int) := by omega
                        have HMM : Bx (met (locs xss P 0) (D, f) (i + 1) = true) := ⟨by rw [hmn, hd, ha]; simp⟩
                        clear hmn hd ha
                        go_wp2
                        go_roundw
                        case rel => exact ⟨i + 1, by omega, by go_num, by rw [HMM.out], HC'⟩
                        case measure => simp [intOf]; omega
                      · have e4 : ((a2 : Int) == (f : Int)) = false := beq_eq_false_iff_ne.2 (by omega)
                        have e5 : (a2 == f) = false := by simpa using ha
                        have e6 : ¬ (a2 : Int) = (f : Int) := by omega
                        have HMM : Bx (met (locs xss P 0) (D, f) (i + 1) = false) := ⟨by rw [hmn]; simp; intro _; exact ha⟩
                        clear hmn hd
                        go_wp2
                        go_roundw
                        case rel => exact ⟨i + 1, by omega, by go_num, by rw [HMM.out], HC'⟩
                        case measure => simp [intOf]; omega
                    · have e1 : ((d2 : Int) == (D : Int)) = false := beq_eq_false_iff_ne.2 (by omega)
                      have e2 : (d2 == D) = false := by simpa using hd
                      have e3 : ¬ (d2 : Int) = (D : Int) := by omega
                      have HMM : Bx (met (locs xss P 0) (D, f) (i + 1) = false) := ⟨by rw [hmn]; simp; intro h; exact absurd h hd⟩
                      clear hmn
                      go_wp2
                      go_roundw
                      case rel => exact ⟨i + 1, by omega, by go_num, by rw [HMM.out], HC'⟩
                      case measure => simp [intOf]; omega
                · have di : decide ((i : Int) < (m : Int)) = false := by simp; omega
                  have him : i = m := by omega
                  have emet : met (locs xss P 0) (D, f) i = true := by
                    have := met_all HIN.out
                    rwa [HM.out, ← him] at this
                  have HCW := Bx.mk (HC3.out.trans hC.out (fun _ _ h => h))
                  have hco := count_any (HI3.out.keep hC.out) P (some ⟨b1, o1 + f, none⟩) k (c' - f) (HSP.out.ch HCW.out (fun _ _ _ h => h)) HBPP.out (by omega)
                  rw [HM.out] at hco
                  rw [emet]
                  have hmm : ((m : Int) == (m : Int)) = true := by simp
                  clear emet
                  go_wp2_with fail
                  refine hco.mono ?_
                  rintro e0 w8 ⟨rfl, hC8⟩
                  have HC8 := Bx.mk (HCW.out.trans hC8 (fun _ _ h => h))
                  have hkn := known_any w8 (HT.out.keep HC8.out)
                  clear hC8 hco hC
                  go_wp2_with fail
                  refine hkn.mono ?_
                  rintro e0 w9 ⟨rfl, hC9⟩
                  have HC9 := Bx.mk (HC8.out.trans hC9 (fun _ _ h => h))
                  clear hC9 hkn
                  go_wp2
                  go_ret
                  exact ⟨rfl, HC9.out⟩
          · omega
end
end Go.Proofs.YtckkjccjkdidjaaGreatDoor
