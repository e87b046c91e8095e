/-
  The contract of suffix.classify: classes along an order, by whatever tells what is the same.
-/
import Derived.Test.YtgboobjmafdieaaSvUp
namespace Go.Proofs.Ytgboobjmafdieaa
open Go.RowKit Go.Oct Go.Su

/-- What classify leaves. -/
def Classes (E : Nat → Nat → Prop) (n : Nat) (L : List Nat) (w : World) (e : Ending) (w' : World) : Prop := ∃ (g : Nat) (cl : List Nat) (a : Bool), e = .returned (.tuple #[.slice (some ⟨g, 0, none⟩) n n, .bool a]) ∧ ClsUp E n L L.length cl a ∧ Own w' 3 1 g n n (vals cl) ∧ w.heap.size ≤ g ∧ Ch (fun _ => False) w w'
section
variable {F : Nat → Prop}
set_option maxHeartbeats 4000000 in
theorem classify_any (E : Nat → Nat → Prop) (same : Nat → Nat → Bool) (hE : ∀ x y, same x y = true ↔ E x y) (f : Nat) (cb : Array Value) (L : List Nat) (A : Option Addr) (n c : Nat) (w : World) (hs : Sl w F .i64 A n (asI L)) (hn : n ≤ 1048576) (hnd : L.Nodup) (hL : ∀ x ∈ L, x < n) (eg : ∀ args w, (callFunc f args).run Try.prog w = .ok (.enter f args) w)
    (hf : ∀ W, Ch (fun _ => False) w W → ∀ x y, x < n → y < n → Calls Try.prog f (#[.int .i64 (x : Nat), .int .i64 (y : Nat)] ++ cb) W fun e w' => e = .returned (.bool (same x y)) ∧ ∃ q, w' = W.drewN q) :
    Calls Try.prog 35 #[.slice A n c, .func (.func f) #[] cb] w (Classes E n L w) := by
  have hl : L.length = n := by have := hs.len; rwa [asI_len] at this
  have HL := Bx.mk hl
  have HS := Bx.mk (hs.mono (G := fun b => b < w.heap.size) (fun b h _ => h))
  have HND := Bx.mk hnd
  have HLT := Bx.mk hL
  have HF := Bx.mk hf
  have HE := Bx.mk hE
  have hmk := mkI w n hn
  clear hs hnd hL hf hl hE
  go_enter Try.func35, Try.ntmps35
  go_wp2_with fail
  obtain ⟨G, hG⟩ : ∃ G, w.heap.size = G := ⟨_, rfl⟩
  obtain ⟨w0, hw0⟩ : ∃ w0, w.alloc (.cells (madeCells #[.int .i64 0] n) 3) = w0 := ⟨_, rfl⟩
  have hC0 : Ch (fun _ => False) w w0 := by rw [← hw0]; exact (Ch.refl (fun _ => False) w).alloc _
  have hO0 : Own w0 3 1 G n n (vals (List.replicate n 0)) := by
    unfold vals
    rw [List.map_replicate, ← hw0, ← hG]
    exact own_made1 w 3 (.int .i64 0) n (by omega)
  rw [hw0, hG]
  have HC0 := Bx.mk hC0
  have HO0 := Bx.mk hO0
  have HG := Bx.mk hG
  clear hw0 hC0 hO0 hG hmk
  go_loopw [5, 6, 7, 13] (fun a _ _ i wr => ∃ (j : Nat) (cl : List Nat) (b : Bool), j ≤ n ∧ i = .int .i64 j ∧ a = .bool b ∧ ClsUp E n L j cl b ∧ Own wr 3 1 G n n (vals cl) ∧ Ch (fun _ => False) w wr) (fun _ _ _ i _ => n - (intOf i).toNat)
  case atStart => exact ⟨0, _, true, Nat.zero_le _, rfl, rfl, clsUp_start, HO0.out, HC0.out⟩
  case round =>
    obtain ⟨j, cl, ab, hj, rfl, rfl, hcl, hO, hC⟩ := hrel
    by_cases hjn : j < n
    · have hSr := HS.out.ch hC (fun _ _ _ h => h)
      obtain ⟨b, off, y0, rfl, hbG, hy0, hcy⟩ := hSr.at_ hjn
      obtain ⟨y, rfl, hy⟩ := asI_at hy0.out
      have hyn : y < n := HLT.out y (List.mem_of_getElem? hy)
      have hco := hO.cellN hyn
      have hfo := hO.frozenAt y
      have hst := hO.storedN y j
      generalize gn cl y = old at hco
      have HCL := Bx.mk hcl
      have HY := Bx.mk hy
      have i1 : (0 : Int) ≤ (j : Int) := by omega
      have i2 : (j : Int) < (n : Int) := by omega
      have i3 : (0 : Int) ≤ (y : Int) := by omega
      have i4 : (y : Int) < (n : Int) := by omega
      cases j with
      | zero =>
        rw [Nat.add_zero] at hcy
        have HCN := Bx.mk (HCL.out.first HLT.out HY.out)
        have HST := Bx.mk hst
        have HCC := Bx.mk (hC.trans hst.2 (fun i hi (e : i = G) => by have := HG.out; omega))
        clear hcl hO hC hSr hy0 hy hst
        go_wp2
        go_roundw
        case rel => exact ⟨1, _, ab, by omega, by go_num, rfl, HCN.out, HST.out.1, HCC.out⟩
        case measure => simp [intOf]; omega
      | succ j =>
        obtain ⟨b', off', x0, hA', _, hx0, hcx⟩ := hSr.at_ (k := j) (by omega)
        injection hA' with hA'
        injection hA' with e1 e2
        subst e1 e2
        obtain ⟨x, rfl, hx⟩ := asI_at hx0.out
        have hxn : x < n := HLT.out x (List.mem_of_getElem? hx)
        have hxy : y ≠ x := fun e => by subst e; have := at_one HND.out hy hx; omega
        have jc : ((j + 1 : Nat) : Int) = (j : Int) + 1 := by omega
        rw [jc] at hst i1 i2
        have d0 : decide ((0 : Int) < (j : Int) + 1) = true := by first | (simp; done) | (simp; omega)
        have j1 : (j : Int) + 1 - 1 = (j : Int) := by omega
        have i5 : (0 : Int) ≤ (x : Int) := by omega
        have i6 : (x : Int) < (n : Int) := by omega
        have i7 : (0 : Int) ≤ (j : Int) := by omega
        have i8 : (j : Int) < (n : Int) := by omega
        have hcx1 := hst.2.cell (p := ⟨b, off + j, none⟩) (fun h => by have h' : b = G := h; have := HG.out; have := hbG; omega) hcx
        have hcy1 := hst.2.cell (p := ⟨b, off + (j + 1), none⟩) (fun h => by have h' : b = G := h; have := HG.out; have := hbG; omega) hcy
        have hC1 := hC.trans (S := fun _ => False) hst.2 (fun i hi (e : i = G) => by have := HG.out; omega)
        have hFx := HF.out _ hC1 x y hxn hyn
        have hcl1 := hst.1.cellN hxn
        have hcy2 := hst.1.cellN hyn
        have hfy := hst.1.frozenAt y
        have hgx : gn (cl.set y (j + 1)) x = gn cl x := by rw [gn_set (by rw [HCL.out.len]; exact hyn), if_neg hxy]
        rw [hgx] at hcl1
        have hmore := fun v a' => HCL.out.more HND.out HLT.out hx HY.out (v := v) (a' := a')
        generalize gn (cl.set y (j + 1)) y = old2 at hcy2
        generalize gn cl x = gx at *
        have HMORE := Bx.mk hmore
        have HST1 := Bx.mk hst.1
        have HC1 := Bx.mk hC1
        have HHG := Bx.mk (Nat.le_of_eq HG.out)
        obtain ⟨bs, hbs⟩ : ∃ bs, same x y = bs := ⟨_, rfl⟩
        have HBS : Bx (bs = true ↔ E x y) := ⟨by rw [← hbs]; exact HE.out x y⟩
        rw [hbs] at hFx
        clear hcl hO hC hSr hy0 hy hst hmore hx hx0 hC1 hbs hgx
        go_wp2_with fail
        refine hFx.mono ?_
        rintro e w2 ⟨rfl, q, rfl⟩
        generalize hw1 : World.setCell wr _ _ = w1 at *
        have HOQ := Bx.mk (HST1.out.keep ((Ch.refl (fun _ => False) w1).drewN q))
        have HCQ := Bx.mk (HC1.out.drewN q)
        have hcx2 : (w1.drewN q).cell? ⟨b, off + j, none⟩ = some (.int .i64 (x : Int)) := hcx1
        have hcl2 : (w1.drewN q).cell? ⟨G, x, none⟩ = some (.int .i64 (gx : Int)) := hcl1
        have hcy3 : (w1.drewN q).cell? ⟨G, y, none⟩ = some (.int .i64 (old2 : Int)) := hcy2
        have hfy2 : (w1.drewN q).frozen? ⟨G, y, none⟩ = false := hfy
        clear hw1 HST1 HC1 hcx1 hcy1 hcl1 hcy2 hfy hFx hcx hcy hco hfo
        cases bs
        · have HCN := Bx.mk (HMORE.out (j + 1) ab (fun h => absurd (HBS.out.2 h) (by decide)) (fun _ => ⟨rfl, rfl⟩))
          generalize w1.drewN q = w2 at *
          go_wp2
          go_roundw
          case rel => exact ⟨j + 1 + 1, _, ab, by omega, by go_num, rfl, HCN.out, HOQ.out, HCQ.out⟩
          case measure => simp [intOf]; omega
        · have HCN := Bx.mk (HMORE.out gx false (fun _ => ⟨rfl, rfl⟩) (fun h => absurd (HBS.out.1 rfl) h))
          generalize w1.drewN q = w2 at *
          have hst2 := HOQ.out.storedN y gx
          rw [List.set_set] at hst2
          have HST2 := Bx.mk hst2
          clear hst2
          go_wp2
          go_roundw
          case rel => exact ⟨j + 1 + 1, _, false, by omega, by go_num, rfl, HCN.out, HST2.out.1, HCQ.out.trans HST2.out.2 (fun i hi (e : i = G) => by have := HHG.out; omega)⟩
          case measure => simp [intOf]; omega
    · have hjn' : j = n := by omega
      have dj : decide ((j : Int) < (n : Int)) = false := by simp; omega
      have HCA : Bx (ClsUp E n L L.length cl ab) := ⟨by rw [HL.out]; rw [hjn'] at hcl; exact hcl⟩
      have HO := Bx.mk hO
      have HC := Bx.mk hC
      clear hcl hO hC hjn'
      go_wp2
      go_returns
      exact ⟨G, cl, ab, rfl, HCA.out, HO.out, Nat.le_of_eq HG.out, HC.out⟩
end
end Go.Proofs.Ytgboobjmafdieaa
