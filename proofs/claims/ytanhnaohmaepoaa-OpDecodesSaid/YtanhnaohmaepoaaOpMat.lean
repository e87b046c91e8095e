/-
  The contract of op's Matches.
  Conditions: the places read as they say; not too many bytes.
-/
import Derived.Test.YtanhnaohmaepoaaOpLay
namespace Go.Proofs.Ytanhnaohmaepoaa
open Go.RowKit Go.Oct Go.Su Go.Sg Go.Om

section
variable {F : Nat → Prop}
set_option maxHeartbeats 1000000 in
theorem mats_any (l : List (Key × Int)) (A : Option Addr) (n c : Nat) (w : World) (hz : Mts w F A n l) (hn : n ≤ 1000000) (hm : (l.flatMap mB).length ≤ 1000000) :
    Calls Try.prog 24 #[.slice A n c] w fun e w' => ∃ v, e = .returned v ∧ Fresh w v (matB l) w' := by
  have HL : Bx (l.length = n) := ⟨Ro.len hz⟩
  have HZ := Bx.mk hz
  have HM := Bx.mk hm
  clear hz hm
  obtain ⟨w1, hw1⟩ : ∃ w1, w.alloc (.cells #[.slice none 0 0] 64) = w1 := ⟨_, rfl⟩
  obtain ⟨bw, hbw⟩ : ∃ bw, w.heap.size = bw := ⟨_, rfl⟩
  have hL := Lay.new (Ch.refl (fun _ => False) w)
  rw [hw1, hbw] at hL
  have hsz : w1.heap.size = bw + 1 := by rw [← hw1, ← hbw, World.size_alloc]
  have HN := Bx.mk (lay_lit hL [(n : Int)] (by simp) (by simp))
  rw [hsz] at HN
  have h9 := encI_len (n : Int)
  have HE : Bx ([] ++ [(n : Int)].flatMap encI = encI (l.length : Int)) := ⟨by rw [HL.out, List.nil_append, List.flatMap_cons, List.flatMap_nil, List.append_nil]⟩
  rw [HE.out] at HN
  rw [← HL.out] at h9
  have HRES : Bx (matB l = encI (l.length : Int) ++ l.flatMap mB) := ⟨rfl⟩
  generalize encI (l.length : Int) = X0 at *
  clear hL
  go_enter Try.func24, Try.ntmps24
  go_wp2_with fail
  refine HN.out.mono ?_
  rintro e w2 ⟨rfl, v2, hL2, hC2⟩
  have HL2 := Bx.mk hL2
  clear HN hL2 hC2 hsz hw1
  go_wp2_with fail
  go_loopw [5, 12] (fun _ i wr => ∃ k : Nat, k ≤ n ∧ i = .int .i64 k ∧ Bx (∃ v, Lay w wr bw v (X0 ++ (l.take k).flatMap mB))) (fun _ i _ => n - (intOf i).toNat)
  case atStart => exact ⟨0, Nat.zero_le _, rfl, ⟨⟨_, by simpa using HL2.out⟩⟩⟩
  case round =>
    obtain ⟨k, hk, rfl, HF⟩ := hrel
    by_cases hkn : k < n
    · have dk : decide ((k : Int) < (n : Int)) = true := decide_eq_true (by omega)
      have i1 : (k : Int) < (n : Int) := by omega
      obtain ⟨b1, o1, m, rfl, _, hx, hcx0, hcx20⟩ := Mts.get HZ.out hkn
      have hroom := flat_room mB hx.out
      have hmm := HM.out
      have hlX : (X0 ++ (l.take k).flatMap mB).length ≤ 9 + ((l.take k).flatMap mB).length := by rw [List.length_append]; omega
      have HMO : Bx (X0 ++ (l.take (k + 1)).flatMap mB = X0 ++ (l.take k).flatMap mB ++ [kI m.1].flatMap rowB ++ [m.2].flatMap encI) := ⟨by
        rw [flat_more mB hx.out, List.flatMap_cons, List.flatMap_nil, List.append_nil, List.flatMap_cons, List.flatMap_nil, List.append_nil]
        unfold mB
        simp only [List.append_assoc]⟩
      obtain ⟨kk, hkk⟩ : ∃ kk, m.1 = kk := ⟨_, rfl⟩
      obtain ⟨aa, haa⟩ : ∃ aa, m.2 = aa := ⟨_, rfl⟩
      have hmb : (mB m).length = (rowB (kI kk)).length + (encI aa).length := by rw [← hkk, ← haa]; unfold mB; rw [List.length_append]
      have hkl : kk.length ≤ (rowB (kI kk)).length := by unfold rowB; rw [List.length_append, kI_len]; omega
      rw [hkk] at hcx0 HMO
      rw [haa] at hcx20 HMO
      have hrl : ([kI kk].flatMap rowB).length = (rowB (kI kk)).length := by rw [List.flatMap_cons, List.flatMap_nil, List.append_nil]
      obtain ⟨vv, hLay⟩ := HF.out
      obtain ⟨X, hX⟩ : ∃ X, X0 ++ (l.take k).flatMap mB = X := ⟨_, rfl⟩
      rw [hX] at HMO hlX hLay
      obtain ⟨S, hS⟩ : ∃ S : ByteArray, kv kk = .string S := ⟨_, rfl⟩
      rw [hS] at hcx0
      have hcx := hLay.ch.cell (fun h => h) hcx0
      have hcx2 := hLay.ch.cell (fun h => h) hcx20
      have HK := Bx.mk hS
      have HLY := Bx.mk hLay
      have HBD : Bx (X.length + (rowB (kI kk)).length + 9 ≤ 1000018 ∧ kk.length ≤ 1000000 ∧ ([kI kk].flatMap rowB).length = (rowB (kI kk)).length) := ⟨by omega⟩
      obtain ⟨w3, hw3⟩ : ∃ w3, wr.alloc (.cells #[.string S, .int .i64 aa] 59) = w3 := ⟨_, rfl⟩
      obtain ⟨bm, hbm⟩ : ∃ bm, wr.heap.size = bm := ⟨_, rfl⟩
      have hb3 : w3.heap[bm]? = some (.cells #[.string S, .int .i64 aa] 59 (0, 0)) := by rw [← hw3, ← hbm]; exact heap_alloc_new wr _
      have y0 : w3.cell? ⟨bm, 0, none⟩ = some (.string S) := by simp [World.cell?, hb3]
      have y1 : w3.cell? ⟨bm, 1, none⟩ = some (.int .i64 aa) := by simp [World.cell?, hb3]
      have hC3 : Ch (fun _ => False) wr w3 := by rw [← hw3]; exact (Ch.refl _ _).alloc _
      have hL3 := hLay.keep hC3
      have HL3 := Bx.mk hL3
      have hbmw : bw < bm := by rw [← hbm]; exact hLay.wr.lt
      have HBM := Bx.mk hbmw
      clear hx hX hkk haa hS hcx0 hcx20 hroom hmm hlX hmb hkl hrl hLay HF hC3 hL3 hb3 hbmw
      go_wp2_with (refine wp_bytes rfl (.tmp 17) rfl Try.underlying9 Try.underlying22 Try.underlying5 (k := kk) (by have := HBD.out; unfold maxLen; omega) HK.out.symm ?_)
      intro c6 w6 hc60 hc6m hs6 hC6
      have h36 := hC6.size
      have hL6 := HL3.out.keep hC6
      have x1 := hC6.cell (fun h => h) y1
      have hr := Sls.one (F := fun b => b = w3.heap.size) (G := fun b => w3.heap.size ≤ b) 22 (A := some ⟨w3.heap.size, 0, none⟩) (xs := kI kk) (by rw [kI_len]; exact hs6) (by rw [kI_len]; exact hc60) hc6m (fun b _ hb => by show w3.heap.size ≤ b; omega) h36
      have HB := Bx.mk (lay_bytes (hL6.keep ((Ch.refl _ _).alloc (.cells #[.slice (some ⟨w3.heap.size, 0, none⟩) (kI kk).length c6] 22))) [kI kk] (some ⟨w6.heap.size, 0, none⟩) 1 1 hr (fun b hb _ hs => by
        have hb' : w3.heap.size ≤ b := hb
        have h := (HL3.out.ws hs).2
        omega) (by omega) (by have := HBD.out; omega))
      rw [kI_len] at HB
      have hl8 : (X ++ [kI kk].flatMap rowB).length ≤ 1000018 := by
        have := HBD.out
        rw [List.length_append]
        omega
      obtain ⟨X8, hX8⟩ : ∃ V, X ++ [kI kk].flatMap rowB = V := ⟨_, rfl⟩
      rw [hX8] at hl8 HMO HB
      have x1' := ((Ch.refl (fun _ => False) w6).alloc (.cells #[.slice (some ⟨w3.heap.size, 0, none⟩) kk.length c6] 22)).cell (fun h => h) x1
      have HX1 := Bx.mk x1'
      clear hr hs6 hL6 hX8 x1' hC6
      go_wp2_with fail
      refine HB.out.mono ?_
      rintro e w7 ⟨rfl, v7, hL7, hC7⟩
      have x2 := hC7.cell (p := ⟨bm, 1, none⟩) (fun hs => by
        rcases hs with h | h
        · have := HBM.out; dsimp only at h; omega
        · have h1 := HLY.out.wr.row_lt h; dsimp only at h1; omega) HX1.out
      have HN7 := Bx.mk (lay_lit hL7 [aa] (by simp) (by omega))
      rw [HMO.out.symm] at HN7
      clear hL7 hC7 HB x1 y0 y1
      go_wp2_with fail
      refine HN7.out.mono ?_
      rintro e w8 ⟨rfl, v8, hL8, _⟩
      have HL8 := Bx.mk (show ∃ v, Lay w w8 bw v (X0 ++ (l.take (k + 1)).flatMap mB) from ⟨v8, hL8⟩)
      clear hL8 HN7
      go_wp2
      go_roundw
      case rel => exact ⟨k + 1, by omega, by go_num, HL8⟩
      case measure => simp [intOf]; omega
    · obtain rfl : n = k := by omega
      have dk : decide ((n : Int) < (n : Int)) = false := decide_eq_false (by omega)
      have dk2 : decide (n < n) = false := decide_eq_false (by omega)
      obtain ⟨vv, hLay⟩ := HF.out
      have HR : Bx (X0 ++ (l.take n).flatMap mB = matB l) := ⟨by rw [List.take_of_length_le (Nat.le_of_eq HL.out), HRES.out]⟩
      have hlen : (matB l).length ≤ 10000000000000 := by
        rw [HRES.out, List.length_append]
        have := HM.out
        omega
      rw [HR.out] at hLay
      have HO := Bx.mk (lay_out hLay hlen)
      clear hLay HF hlen
      go_wp2_with fail
      refine HO.out.mono ?_
      rintro e w6 ⟨v6, rfl, hf⟩
      have HFF := Bx.mk hf
      clear hf HO
      go_wp2
      go_ret
      exact ⟨v6, rfl, HFF.out⟩
end
end Go.Proofs.Ytanhnaohmaepoaa
