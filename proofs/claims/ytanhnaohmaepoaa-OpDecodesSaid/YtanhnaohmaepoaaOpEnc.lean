/-
  The contract of op's Encode.
  Conditions: the text reads as it says; key and text are not too long.
-/
import Derived.Test.YtanhnaohmaepoaaOpFault
import Derived.Test.YtanhnaohmaepoaaOpLay
import Derived.Test.YtanhnaohmaepoaaOpRefEnc
namespace Go.Proofs.Ytanhnaohmaepoaa
open Go.RowKit Go.Oct Go.Su Go.Sg Go.Om

set_option maxHeartbeats 2000000 in
theorem encode_any {F : Nat → Prop} (kd cl sq : Int) (k : Key) (xs : List Int) (A : Option Addr) (n c : Nat) (w : World) (hs : Sl w F .u8 A n xs) (hn : n ≤ 1000000000000) (hnc : n ≤ c) (hc : c ≤ maxLen) (hk : k.length ≤ 1000000000000000) :
    Calls Try.prog 9 #[.agg #[.int .i64 kd, .int .i64 cl, .int .i64 sq, kv k, .slice A n c]] w (EncPost ⟨kd, cl, sq, k, xs⟩ w) := by
  obtain ⟨S, hS⟩ : ∃ S : ByteArray, kv k = .string S := ⟨_, rfl⟩
  have HK := Bx.mk hS
  obtain ⟨w1, hw1⟩ : ∃ w1, w.alloc (.cells #[.int .i64 kd, .int .i64 cl, .int .i64 sq, .string S, .slice A n c] 24) = w1 := ⟨_, rfl⟩
  have hC1 : Ch (fun _ => False) w w1 := by rw [← hw1]; exact (Ch.refl _ _).alloc _
  have HF := Bx.mk (fault_any kd cl sq k xs A n c w1 hs.len (by omega))
  have hb1 : w1.heap[w.heap.size]? = some (.cells #[.int .i64 kd, .int .i64 cl, .int .i64 sq, .string S, .slice A n c] 24 (0, 0)) := by rw [← hw1]; exact heap_alloc_new w _
  have HB1 := Bx.mk hb1
  rw [hS] at HF ⊢
  have HXL := Bx.mk hs.len
  have HS := Bx.mk hs
  have HC1 := Bx.mk hC1
  obtain ⟨er, her⟩ : ∃ er, errO ⟨kd, cl, sq, k, xs⟩ = er := ⟨_, rfl⟩
  have HER := Bx.mk her
  have HBD := Bx.mk (And.intro hk hc)
  clear hS hb1 hs hC1 her hk
  have z0 : w1.cell? ⟨w.heap.size, 0, none⟩ = some (.int .i64 kd) := by simp [World.cell?, HB1.out]
  have z1 : w1.cell? ⟨w.heap.size, 1, none⟩ = some (.int .i64 cl) := by simp [World.cell?, HB1.out]
  have z2 : w1.cell? ⟨w.heap.size, 2, none⟩ = some (.int .i64 sq) := by simp [World.cell?, HB1.out]
  have z3 : w1.cell? ⟨w.heap.size, 3, none⟩ = some (.string S) := by simp [World.cell?, HB1.out]
  have z4 : w1.cell? ⟨w.heap.size, 4, none⟩ = some (.slice A n c) := by simp [World.cell?, HB1.out]
  go_enter Try.func9, Try.ntmps9
  go_wp2_with fail
  refine HF.out.mono ?_
  rintro e w2 ⟨rfl, hC2⟩
  rw [HER.out]
  have HC2 : Bx (Ch (fun _ => False) w w2) := ⟨HC1.out.trans hC2 (fun _ _ h => h)⟩
  by_cases h0 : er = 0
  · subst h0
    have hko : k.length ≤ 64 ∧ n ≤ 4096 := by
      have h := okO.1 HER.out
      have h1 := h.txt
      have h2 : okK k := h.key
      have h3 : xs.length ≤ 4096 := h1
      rw [HXL.out] at h3
      exact ⟨h2.2, h3⟩
    have HKO := Bx.mk hko
    have y0 := hC2.cell (fun h => h) z0
    have y1 := hC2.cell (fun h => h) z1
    have y2 := hC2.cell (fun h => h) z2
    have y3 := hC2.cell (fun h => h) z3
    have y4 := hC2.cell (fun h => h) z4
    obtain ⟨w3, hw3⟩ : ∃ w3, w2.alloc (.cells #[.slice none 0 0] 64) = w3 := ⟨_, rfl⟩
    obtain ⟨bw, hbw⟩ : ∃ bw, w2.heap.size = bw := ⟨_, rfl⟩
    have hL := Lay.new HC2.out
    rw [hw3, hbw] at hL
    have HL := Bx.mk hL
    have hC3 : Ch (fun _ => False) w2 w3 := by rw [← hw3]; exact (Ch.refl _ _).alloc _
    have x0 := hC3.cell (fun h => h) y0
    have x1 := hC3.cell (fun h => h) y1
    have x2 := hC3.cell (fun h => h) y2
    have x3 := hC3.cell (fun h => h) y3
    have x4 := hC3.cell (fun h => h) y4
    have hsz : w3.heap.size = bw + 1 := by rw [← hw3, ← hbw, World.size_alloc]
    have hb0 : w.heap.size < bw := by rw [← hbw]; have h1 := hC2.size; have h2 := World.size_alloc w (.cells #[.int .i64 kd, .int .i64 cl, .int .i64 sq, .string S, .slice A n c] 24); rw [hw1] at h2; omega
    have HN := Bx.mk (lay_lit hL [kd, cl, sq] (by simp) (by simp))
    rw [hsz] at HN
    have HB0 := Bx.mk hb0
    clear hC2 HF z0 z1 z2 z3 z4 y0 y1 y2 y3 y4 hL hko hC3 hb0
    go_wp2_with fail
    refine HN.out.mono ?_
    rintro e w4 ⟨rfl, v4, hL4, hC4⟩
    clear HN hsz hw3 hbw hw1
    have y3 := hC4.cell (p := ⟨w.heap.size, 3, none⟩) (fun hs => by have := HB0.out; have := (HL.out.ws hs).1; dsimp only at this; omega) x3
    have y4 := hC4.cell (p := ⟨w.heap.size, 4, none⟩) (fun hs => by have := HB0.out; have := (HL.out.ws hs).1; dsimp only at this; omega) x4
    have hX := enc3_len kd cl sq
    rw [List.nil_append] at hL4
    have HXB : Bx (encO ⟨kd, cl, sq, k, xs⟩ = [kd, cl, sq].flatMap encI ++ (rowB (kI k) ++ rowB xs)) := ⟨by unfold encO bytO; rw [if_pos HER.out]⟩
    obtain ⟨X, hXX⟩ : ∃ X, [kd, cl, sq].flatMap encI = X := ⟨_, rfl⟩
    rw [hXX] at hX hL4 HXB
    have HL4 := Bx.mk hL4
    have HX := Bx.mk hX
    clear hL4 hC4 x0 x1 x2 x3 x4 hXX hX HL
    go_wp2_with (refine wp_bytes rfl (.tmp 20) rfl Try.underlying9 Try.underlying22 Try.underlying5 (k := k) (by have := HBD.out.1; unfold maxLen; omega) HK.out.symm ?_)
    intro c6 w6 hc60 hc6m hs6 hC6
    have hL6 := HL4.out.keep hC6
    have z4 := hC6.cell (fun h => h) y4
    have h46 := hC6.size
    have hw4 := HL4.out.ch.size
    have hs7 : Sl w6 (fun b => b < w.heap.size ∨ w4.heap.size ≤ b) .u8 A xs.length xs := by
      rw [HXL.out]
      exact (HS.out.mono (G := fun b => b < w.heap.size ∨ w4.heap.size ≤ b) fun b hb _ => .inl hb).ch hL6.ch (fun _ _ _ h => h)
    have hr := Sls.two (G := fun b => b < w.heap.size ∨ w4.heap.size ≤ b) 22 (A := some ⟨w4.heap.size, 0, none⟩) (xs := kI k) (ys := xs) (by rw [kI_len]; exact hs6.mono fun b _ hb => .inr (by omega)) (by rw [kI_len]; exact hc60) hc6m hs7 (by rw [HXL.out]; exact hnc) HBD.out.2 (fun _ _ h => h) (.inr h46)
    have HB := Bx.mk (lay_bytes (hL6.keep ((Ch.refl _ _).alloc (.cells #[.slice (some ⟨w4.heap.size, 0, none⟩) (kI k).length c6, .slice A xs.length c] 22))) [kI k, xs] (some ⟨w6.heap.size, 0, none⟩) 2 2 hr (fun b hb _ hs => by
      have h := HL4.out.ws hs
      have := HL4.out.low
      rcases hb with hb | hb <;> omega) (by omega) (by
      have h1 := rowB_len (xs := kI k) rfl (by rw [kI_len]; have := HKO.out.1; omega)
      have h2 := rowB_len (xs := xs) rfl (by rw [HXL.out]; have := HKO.out.2; omega)
      have h3 := HX.out
      rw [kI_len] at h1
      rw [HXL.out] at h2
      have := HKO.out
      rw [List.flatMap_cons, List.flatMap_cons, List.flatMap_nil, List.append_nil, List.length_append]
      omega))
    rw [kI_len, HXL.out] at HB
    clear hr hs7 hs6 hL6 y3 y4 h46 hw4
    go_wp2_with fail
    refine HB.out.mono ?_
    rintro e w7 ⟨rfl, v7, hL7, hC7⟩
    clear HB hC6 z4
    have hY : X ++ [kI k, xs].flatMap rowB = encO ⟨kd, cl, sq, k, xs⟩ := by rw [HXB.out, List.flatMap_cons, List.flatMap_cons, List.flatMap_nil, List.append_nil]
    rw [hY] at hL7
    have hlen : (encO ⟨kd, cl, sq, k, xs⟩).length ≤ 100000 := by
      have h1 := rowB_len (xs := kI k) rfl (by rw [kI_len]; have := HKO.out.1; omega)
      have h2 := rowB_len (xs := xs) rfl (by rw [HXL.out]; have := HKO.out.2; omega)
      have h3 := HX.out
      rw [kI_len] at h1
      rw [HXL.out] at h2
      have := HKO.out
      rw [HXB.out, List.length_append, List.length_append]
      omega
    have HO := Bx.mk (lay_out hL7 (by omega))
    clear hL7 hC7 hY hlen
    go_wp2_with fail
    refine HO.out.mono ?_
    rintro e w8 ⟨v8, rfl, hf8⟩
    have HF8 := Bx.mk hf8
    clear hf8 HO
    go_wp2
    go_ret2
    exact EncPost.yes HER.out HF8.out
  · have e0 : (er != 0) = true := by simpa using h0
    clear hC2 HF z0 z1 z2 z3 z4
    go_wp2_with fail
    go_ret2
    exact EncPost.no HER.out h0 HC2.out
end Go.Proofs.Ytanhnaohmaepoaa
