/-
  For the law FmParts: the test of one place, a region of its loop, over whatever frame: the place lies in the texts, the part stands there, and Extract tells it.
  Conditions: the hypotheses of the theorem.
-/
import Derived.Test.YtckkjccjkdidjaaGreatDoorFmRound
namespace Go.Proofs.YtckkjccjkdidjaaGreatDoor
open Go.RowKit Go.Oct Go.Su X

theorem extract_k {w : World} {F : Nat → Prop} {b : Nat} {xss : List (List Int)} (h : Ix w F b xss) (d f k : Nat) (P : List Int) (he : ext xss (d : Nat) (f : Nat) (k : Nat) = P) (hk : P.length = k) :
    Calls Tryz.prog 19 #[.pointer (some ⟨b, 0, none⟩), .int .i64 d, .int .i64 f, .int .i64 k] w fun e w' => ∃ (A : Option Addr) (c : Nat), e = .returned (.slice A k c) ∧ Sl w' (fun j => w.heap.size ≤ j) .u8 A k P ∧ k ≤ c ∧ c ≤ maxLen ∧ Ch (fun _ => False) w w' := by
  refine (extract_any h d f k).mono ?_
  rw [he]
  rintro e w' ⟨A, c, h1, h2, h3, h4, h5⟩
  rw [hk] at h1 h2 h3
  exact ⟨A, c, h1, h2, h3, h4, h5⟩
/-- A region of a code, by its number. -/
def regionOf (n : Nat) : Code → Option Code
  | .region k ops d => if k = n then some (.region k ops d) else none
  | .loop c => regionOf n c
  | .seq a b => match regionOf n a with
    | some c => some c
    | none => regionOf n b
  | .block _ c => regionOf n c
  | .scope c => regionOf n c
  | .cond _ a b => match regionOf n a with
    | some c => some c
    | none => regionOf n b
  | _ => none
noncomputable def partsTest : Code := ((Tryz.f4.body.bind (regionOf 17)).getD .skip)
set_option maxRecDepth 1000000 in
set_option maxHeartbeats 16000000 in
theorem parts_test {F G H : Nat → Prop} (xss : List (List Int)) (P : List Int) (b b0 o0 n c b1 op cp bh oh m ch i k d2 a2 b5 o5 tl2 c5 x : Nat) (wo : World) (Q : Exit → Act → World → Prop)
    (u1 u2 u3 u4 u5 u6 u7 u8 u9 u10 u13 u16 u18 u19 u20 u21 u22 u23 u24 u25 u26 u27 u28 u29 u30 u31 u32 u33 u34 u35 u36 u37 u38 u39 u40 u41 u42 u43 u44 u45 u46 u47 u48 u49 u50 u51 u52 u53 u54 u55 u56 u57 u58 u59 u60 u61 u62 u63 u64 u65 u66 u67 u68 u69 u70 u71 u72 u73 u74 u75 u76 u77 u78 u79 u80 u81 u82 u83 u84 u85 u86 u87 u88 u89 u90 u91 u92 u93 u94 u95 u96 u97 u98 u99 u100 u101 u102 u103 u104 u105 u106 u107 u108 u109 u110 u111 u112 u113 u114 u115 u116 u117 u118 u119 u120 u121 u122 u123 u124 u125 u126 u127 u128 u129 u130 u131 u132 u133 u134 u135 u136 u137 u138 u139 u140 u141 u142 u143 u144 u145 u146 u147 u148 u149 u150 u151 u152 u153 u154 u155 u156 u157 u158 u159 u160 u161 u162 u163 u164 u165 u166 u167 u168 u169 u170 u171 u172 u173 u174 u175 u176 u177 u178 u179 u180 u181 u182 u183 u184 u185 u186 u187 u188 u189 u190 u191 u192 u193 u194 u195 u196 u197 u198 u199 : Value)
    (HIr : Bx (Ix wo F b xss)) (HEXT : Bx (ext xss (d2 : Nat) (a2 : Nat) (k : Nat) = P)) (HPL : Bx (P.length = k)) (HSP : Bx (Sl wo G .u8 (some ⟨b1, op, none⟩) k P)) (HS5 : Bx (Sl wo H .u8 (some ⟨b5, o5 + a2, none⟩) k P))
    (HCELL : Bx (wo.cell? ⟨bh, oh + i * 2, none⟩ = some (.int .i64 (d2 : Nat)) ∧ wo.cell? ⟨bh, oh + i * 2 + 1, none⟩ = some (.int .i64 (a2 : Nat)) ∧ wo.cell? ⟨b0, o0 + d2, none⟩ = some (.slice (some ⟨b5, o5, none⟩) tl2 c5)))
    (hx : a2 + k = x) (hxt : x ≤ tl2) (hxc : x ≤ c5) (hx8 : x ≤ 801) (hk1 : 1 ≤ k) (hd2 : d2 < n) (him : i < m)
    (hQ : ∀ (v90 v91 v92 v93 v94 v95 v96 v97 v98 v99 v100 v101 v102 v103 v104 v105 v106 v107 v108 v109 v110 v111 v112 v113 v114 v115 v116 v117 v118 v119 v120 v121 v122 v123 v124 v125 v126 v127 v128 v129 v130 v131 v132 v133 v134 v135 v136 v137 v138 v139 v140 v141 v142 v143 v144 v145 v146 v147 v148 v149 v150 v151 v152 v153 v154 v155 v156 v157 v158 v159 v160 v161 v162 v163 v164 v165 v166 v167 v168 v169 v170 v171 v172 v173 v174 v175 : Value) (w' : World), Ch (fun _ => False) wo w' → Q .normal ⟨#[.slice (some ⟨b0, o0, none⟩) n c, u1, u2, u3, u4, u5, u6, u7, u8, u9, u10, .int .i64 k, .pointer (some ⟨b, 0, none⟩), u13, .slice (some ⟨b1, op, none⟩) k cp, .slice (some ⟨bh, oh, none⟩) m ch, u16, .int .i64 i, u18, u19, u20, u21, u22, u23, u24, u25, u26, u27, u28, u29, u30, u31, u32, u33, u34, u35, u36, u37, u38, u39, u40, u41, u42, u43, u44, u45, u46, u47, u48, u49, u50, u51, u52, u53, u54, u55, u56, u57, u58, u59, u60, u61, u62, u63, u64, u65, u66, u67, u68, u69, u70, u71, u72, u73, u74, u75, u76, u77, u78, u79, u80, u81, u82, u83, u84, u85, u86, u87, u88, u89, v90, v91, v92, v93, v94, v95, v96, v97, v98, v99, v100, v101, v102, v103, v104, v105, v106, v107, v108, v109, v110, v111, v112, v113, v114, v115, v116, v117, v118, v119, v120, v121, v122, v123, v124, v125, v126, v127, v128, v129, v130, v131, v132, v133, v134, v135, v136, v137, v138, v139, v140, v141, v142, v143, v144, v145, v146, v147, v148, v149, v150, v151, v152, v153, v154, v155, v156, v157, v158, v159, v160, v161, v162, v163, v164, v165, v166, v167, v168, v169, v170, v171, v172, v173, v174, v175, .bool false, u177, u178, u179, u180, u181, u182, u183, u184, u185, u186, u187, u188, u189, u190, u191, u192, u193, u194, u195, u196, u197, u198, u199], []⟩ w') :
    Code.wp Tryz.prog partsTest Q ⟨#[.slice (some ⟨b0, o0, none⟩) n c, u1, u2, u3, u4, u5, u6, u7, u8, u9, u10, .int .i64 k, .pointer (some ⟨b, 0, none⟩), u13, .slice (some ⟨b1, op, none⟩) k cp, .slice (some ⟨bh, oh, none⟩) m ch, u16, .int .i64 i, u18, u19, u20, u21, u22, u23, u24, u25, u26, u27, u28, u29, u30, u31, u32, u33, u34, u35, u36, u37, u38, u39, u40, u41, u42, u43, u44, u45, u46, u47, u48, u49, u50, u51, u52, u53, u54, u55, u56, u57, u58, u59, u60, u61, u62, u63, u64, u65, u66, u67, u68, u69, u70, u71, u72, u73, u74, u75, u76, u77, u78, u79, u80, u81, u82, u83, u84, u85, u86, u87, u88, u89, u90, u91, u92, u93, u94, u95, u96, u97, u98, u99, u100, u101, u102, u103, u104, u105, u106, u107, u108, u109, u110, u111, u112, u113, u114, u115, u116, u117, u118, u119, u120, u121, u122, u123, u124, u125, u126, u127, u128, u129, u130, u131, u132, u133, u134, u135, u136, u137, u138, u139, u140, u141, u142, u143, u144, u145, u146, u147, u148, u149, u150, u151, u152, u153, u154, u155, u156, u157, u158, u159, u160, u161, u162, u163, u164, u165, u166, u167, u168, u169, u170, u171, u172, u173, u174, u175, u176, u177, u178, u179, u180, u181, u182, u183, u184, u185, u186, u187, u188, u189, u190, u191, u192, u193, u194, u195, u196, u197, u198, u199], []⟩ wo := by
  conv => arg 2; whnf
  dsimp only
  simp only [List.append_eq, List.cons_append, List.nil_append]
  have hxk : x - a2 = k := by omega
  have HK64 : Bx (k ≤ 9223372036854775807) := ⟨by omega⟩
  have hca : ¬ c5 = a2 := by omega
  have g1 : decide ((d2 : Int) < 0) = false := by simp
  have g2 : decide ((n : Int) ≤ (d2 : Int)) = false := by simp; omega
  have g2' : decide (n ≤ d2) = false := by simp; omega
  have g3 : decide ((a2 : Int) < 0) = false := by simp
  have g4 : decide ((tl2 : Int) < (x : Int)) = false := by simp; omega
  have g4' : decide (tl2 < x) = false := by simp; omega
  have i2 : (d2 : Int) < (n : Int) := by omega
  have i3 : (i : Int) < (m : Int) := by omega
  have i4 : (0 : Int) ≤ (d2 : Int) := by omega
  have i5 : (a2 : Int) ≤ (x : Int) := by omega
  have i6 : (x : Int) ≤ (c5 : Int) := by omega
  have i7 : (0 : Int) ≤ (a2 : Int) := by omega
  have hcells := HCELL.out
  have hcc : Ch (fun _ => False) wo (wo.drewN 1) := (Ch.refl _ wo).drewN 1
  have w1 : IntKind.i64.wrap ((a2 : Int) + (k : Int)) = (x : Int) := by rw [IntKind.wrap_i64]; omega
  have w2' := wrap64_of w1
  have HQ := Bx.mk hQ
  clear hQ
  go_region_held3 (fun w' => w'.cell? ⟨bh, oh + i * 2, none⟩ = some (.int .i64 (d2 : Nat)) ∧ w'.cell? ⟨bh, oh + i * 2 + 1, none⟩ = some (.int .i64 (a2 : Nat)) ∧ w'.cell? ⟨b0, o0 + d2, none⟩ = some (.slice (some ⟨b5, o5, none⟩) tl2 c5)) (first | go_keep | exact s1 | exact hcells) (first | (go_at_call 14; refine (same_any _ (some ⟨b1, op, none⟩) k k _ cp P P _ _ _ HK64.out HK64.out (by first | exact hvx | exact HS5.out.ch hcc (fun _ _ _ h => h)) (HSP.out.ch hcc (fun _ _ _ h => h))).mono ?_; rintro e9 w9 ⟨rfl, j9, ew9⟩; have hcc : Ch (fun _ => False) wo w9 := (by rw [ew9]; exact hcc.drewN j9); clear ew9; have s1 : w9.cell? ⟨bh, oh + i * 2, none⟩ = some (.int .i64 (d2 : Nat)) ∧ w9.cell? ⟨bh, oh + i * 2 + 1, none⟩ = some (.int .i64 (a2 : Nat)) ∧ w9.cell? ⟨b0, o0 + d2, none⟩ = some (.slice (some ⟨b5, o5, none⟩) tl2 c5) := ⟨hcc.cell (fun h => h) HCELL.out.1, hcc.cell (fun h => h) HCELL.out.2.1, hcc.cell (fun h => h) HCELL.out.2.2⟩) | (go_at_call 19; refine (extract_k (HIr.out.keep hcc) d2 a2 k P HEXT.out HPL.out).mono ?_; rintro e8 w8 ⟨A8, c8, rfl, hvx, hl8, hm8, hc8⟩; have hcc : Ch (fun _ => False) wo w8 := hcc.trans hc8 (fun _ _ h => h); have s1 : w8.cell? ⟨bh, oh + i * 2, none⟩ = some (.int .i64 (d2 : Nat)) ∧ w8.cell? ⟨bh, oh + i * 2 + 1, none⟩ = some (.int .i64 (a2 : Nat)) ∧ w8.cell? ⟨b0, o0 + d2, none⟩ = some (.slice (some ⟨b5, o5, none⟩) tl2 c5) := ⟨hcc.cell (fun h => h) HCELL.out.1, hcc.cell (fun h => h) HCELL.out.2.1, hcc.cell (fun h => h) HCELL.out.2.2⟩))
  all_goals exact HQ.out _ _ _ _ _ _ _ _ _ _ _ _ _ _ _ _ _ _ _ _ _ _ _ _ _ _ _ _ _ _ _ _ _ _ _ _ _ _ _ _ _ _ _ _ _ _ _ _ _ _ _ _ _ _ _ _ _ _ _ _ _ _ _ _ _ _ _ _ _ _ _ _ _ _ _ _ _ _ _ _ _ _ _ _ _ _ _ hcc
end Go.Proofs.YtckkjccjkdidjaaGreatDoor
