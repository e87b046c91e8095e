/-
  The contract of the document's table: forget.
  Conditions: the table is one.
-/
import Derived.Test.YtpilekadcondnaaMmSet
import Derived.Test.YtpilekadcondnaaSgGet
import Derived.Test.YtpilekadcondnaaSgFind
import Derived.Deep.RegionLaw
import Derived.Deep.DeepCutAuto
import Derived.Deep.CutBlock
namespace Go.Proofs.Ytpilekadcondnaa
open Go.RowKit Go.Oct Go.Su Go.Sg

theorem elemDm : ElemK Try.prog 26 34 (.agg #[.string ByteArray.empty, .slice none 0 0]) 2 40 := ⟨Try.underlying26, by kernel_rfl, rfl, by decide⟩
theorem elemGm : ElemK Try.prog 27 9 (.string ByteArray.empty) 1 16 := ⟨Try.underlying27, by kernel_rfl, rfl, by decide⟩
theorem own_k0 (w : World) (e : TypeId) (s : Nat) : (w.alloc (.cells #[] e)).ownsRow 0 e s (.slice (some ⟨w.heap.size, 0, none⟩) 0 0) 0 [] := World.ownsRow_made w #[] 0 (Nat.zero_le _) (by unfold maxLen; omega) (by simp)
theorem gs_k0 (w : World) (e : TypeId) (s : Nat) : Gs e s w (w.alloc (.cells #[] e)) (.slice (some ⟨w.heap.size, 0, none⟩) 0 0) 0 [] := ⟨own_k0 w e s, fun g hg => by simp [Value.ownBlock] at hg; omega, (Ch.refl _ _).alloc _⟩
theorem addrm_add (b off j : Nat) : (⟨b, off, none⟩ : Addr).add j = ⟨b, off + j, none⟩ := by unfold Addr.add; split <;> simp_all
/-- The cells of a part of a row. -/
theorem takem {w' : World} {b off m : Nat} {us : List Value} (h : ∀ q u, us[q]? = some u → w'.cell? ⟨b, off + q, none⟩ = some u) : ∀ j u, (us.take m)[j]? = some u → w'.cell? ((⟨b, off, none⟩ : Addr).add j) = some u := fun j u hu => by
  rw [List.getElem?_take] at hu
  split at hu
  · rw [addrm_add]; exact h j u hu
  · cases hu
theorem dropm {w' : World} {b off m : Nat} {us : List Value} (h : ∀ q u, us[q]? = some u → w'.cell? ⟨b, off + q, none⟩ = some u) : ∀ j u, (us.drop m)[j]? = some u → w'.cell? ((⟨b, off + m, none⟩ : Addr).add j) = some u := fun j u hu => by
  rw [List.getElem?_drop] at hu
  rw [addrm_add, Nat.add_assoc]
  exact h _ u hu
theorem nilm {w' : World} {p : Addr} {us : List Value} (h : us = []) : ∀ j u, us[j]? = some u → w'.cell? (p.add j) = some u := fun j u hu => by subst h; simp at hu
section
variable {w : World} {F : Nat → Prop} {b : Nat} {ds : List Dc} {gs : List Key}
set_option maxRecDepth 100000 in
set_option maxHeartbeats 8000000 in
theorem forget_any (h : TabD w F b ds gs) (k : Key) : Calls Try.prog 29 #[.pointer (some ⟨b, 0, none⟩), kv k] w fun e w' => e = .returned (.tuple #[]) ∧ TPost (del (·.1) ds k, del id gs k) b w F w' := by
  have HH := Bx.mk h
  have HSB : Bx (∀ j : Key, ((⟨j.toArray⟩ : ByteArray).toList == (⟨k.toArray⟩ : ByteArray).toList) = decide (j = k)) := ⟨fun j => str_beq j k⟩
  obtain ⟨SK, hSK⟩ : ∃ S : ByteArray, (⟨k.toArray⟩ : ByteArray) = S := ⟨_, rfl⟩
  have HKV : Bx (kv k = .string SK) := ⟨by unfold kv; rw [hSK]⟩
  rw [hSK] at HSB
  rw [HKV.out]
  clear h hSK
  go_enter Try.func29, Try.ntmps29
  go_upto_block 0 with fail
  go_cut [] (fun wx => Bx (TPost (del (·.1) ds k, gs) b w F wx))
  case first =>
    obtain ⟨A, c, B, dcap, h1, h2, h3, h4, r1, r2, r3, r4⟩ := HH.out.row
    have HD := Bx.mk h3
    obtain ⟨n, hn⟩ : ∃ n, ds.length = n := ⟨_, rfl⟩
    have HN := Bx.mk hn
    have hfew : n ≤ 1000000 := by rw [← hn]; exact HH.out.few.1
    rw [hn] at h1 HD r1
    have hc9 : c ≤ 9223372036854775807 := by unfold maxLen at r2; omega
    clear h2 h3 h4 r2 r3 r4 hn
    go_wp2_with fail
    go_loopw [4] (fun i wr => ∃ q : Nat, q ≤ n ∧ i = .int .i64 q ∧ wr = w ∧ Bx (∀ j d, j < q → ds[j]? = some d → d.1 ≠ k)) (fun i _ => n - (intOf i).toNat)
    case atStart => exact ⟨0, Nat.zero_le _, rfl, rfl, ⟨fun j d hj => absurd hj (by omega)⟩⟩
    case round =>
      obtain ⟨q, hq, rfl, hwr, hno⟩ := hrel
      obtain rfl : w = wr := hwr.symm
      clear hwr
      by_cases hlt : q < n
      · have dk : decide ((q : Int) < (n : Int)) = true := decide_eq_true (by omega)
        have dk' : decide (q < n) = true := decide_eq_true hlt
        obtain ⟨bd, od, dc, Bt, ct, rfl, hFd, hd, hck, _, _, _, _⟩ := HD.out.get hlt
        have i2 : (q : Int) < (n : Int) := by omega
        have hsb := HSB.out dc.1
        have hck2 : w.cell? ⟨bd, od + q * 2, none⟩ = some (.string ⟨dc.1.toArray⟩) := hck
        obtain ⟨SD, hSD⟩ : ∃ S : ByteArray, (⟨dc.1.toArray⟩ : ByteArray) = S := ⟨_, rfl⟩
        rw [hSD] at hsb hck2
        have HDX := Bx.mk hd.out
        clear hSD hck hd
        by_cases he : dc.1 = k
        · have hsb2 : (SD.toList == SK.toList) = true := by rw [hsb]; simpa using he
          have HDE := Bx.mk (del_at (f := fun x : Dc => x.1) HH.out.ok.dr HDX.out he)
          obtain ⟨bd', od', us, e1, _, hR, hcell⟩ := Dcs.open_ HD.out (by omega)
          have e1 : bd = bd' ∧ od = od' := by cases e1; exact ⟨rfl, rfl⟩
          obtain ⟨rfl, rfl⟩ := e1
          have HRR := Bx.mk hR
          have HCE : Bx (∀ w', Ch (fun _ => False) w w' → ∀ q u, us[q]? = some u → w'.cell? ⟨bd, od + q, none⟩ = some u) := ⟨fun w' hc q u hu => hc.cell (p := ⟨bd, od + q, none⟩) (fun h => h) (hcell q u hu)⟩
          obtain ⟨q1, hq1⟩ : ∃ q1, q + 1 = q1 := ⟨_, rfl⟩
          have a1 : (q : Int) + 1 = (q1 : Int) := by omega
          obtain ⟨m, hm⟩ : ∃ m, n - q1 = m := ⟨_, rfl⟩
          have hqm : q + m ≤ 1000000 := by omega
          have HTK : Bx (DcR w F (us.take (q * 2) ++ us.drop (q1 * 2)) (del (·.1) ds k) ∧ (us.take (q * 2)).length = q * 2 ∧ (us.drop (q1 * 2)).length = m * 2 ∧ (del (·.1) ds k).length = q + m) := ⟨by
            have hl := HRR.out.1
            rw [HN.out] at hl
            refine ⟨by rw [HDE.out, hq1]; exact (HRR.out.take q (by rw [HN.out]; omega)).app (HRR.out.drop q1 (by rw [HN.out]; omega)), by rw [List.length_take]; omega, by rw [List.length_drop]; omega, ?_⟩
            rw [HDE.out, List.length_append, List.length_take, List.length_drop, HN.out]
            omega⟩
          have HCL : Bx ((∀ u ∈ us.take (q * 2), u.oneCell' = true) ∧ ∀ u ∈ us.drop (q1 * 2), u.oneCell' = true) := ⟨fun u hu => HRR.out.cells1 u (List.mem_of_mem_take hu), fun u hu => HRR.out.cells1 u (List.mem_of_mem_drop hu)⟩
          have HAP1 : Bx (∀ v5 w5, World.ownsRow w5 0 34 2 v5 (0 + q) ([] ++ us.take (q * 2)) → (w.drew.alloc (.cells #[] 34)).grownBy w5 (Value.slice (some ⟨w.heap.size, 0, none⟩) 0 0).ownBlock → (v5.ownBlock = (Value.slice (some ⟨w.heap.size, 0, none⟩) 0 0).ownBlock ∨ v5.ownBlock = some (w.drew.alloc (.cells #[] 34)).heap.size) →
              Gs 34 2 w.drew w5 v5 q (us.take (q * 2)) ∧ w5.cell? ⟨b, 0, none⟩ = some (.slice (some ⟨bd, od, none⟩) n c)) := ⟨fun v5 w5 h1' h2' h3' => by
            have hG := (gs_k0 w.drew 34 2).app (m := q) (news := us.take (q * 2)) (Ch.refl _ _) h1' h2' h3'
            rw [Nat.zero_add, List.nil_append] at hG
            exact ⟨hG, hG.ch.cell (p := ⟨b, 0, none⟩) (fun h => h) h1⟩⟩
          have HAP2 : Bx (∀ v5 w5 v6 w6, Gs 34 2 w.drew w5 v5 q (us.take (q * 2)) → World.ownsRow w6 0 34 2 v6 (q + m) (us.take (q * 2) ++ us.drop (q1 * 2)) → w5.grownBy w6 v5.ownBlock → (v6.ownBlock = v5.ownBlock ∨ v6.ownBlock = some w5.heap.size) →
              TPost (del (·.1) ds k, gs) b w F (w6.setCell ⟨b, 0, none⟩ v6) ∧ w6.cell? ⟨b, 0, none⟩ = some (.slice (some ⟨bd, od, none⟩) n c) ∧ w6.frozen? ⟨b, 0, none⟩ = false) := ⟨fun v5 w5 v6 w6 hG h1' h2' h3' => by
            have hG6 := hG.app (m := m) (news := us.drop (q1 * 2)) (Ch.refl _ _) h1' h2' h3'
            have hT := HH.out.keep ((Ch.refl (fun _ => False) w).drew)
            have hR6 : DcR w6 (And1 w.drew w6 F) (us.take (q * 2) ++ us.drop (q1 * 2)) (del (·.1) ds k) := (HTK.out.1.ch (((Ch.refl (fun _ => False) w).drew).trans hG6.ch (fun _ _ h => h)) (fun _ _ _ h => h)).mono (fun _ _ hx => .inl hx)
            have hP := hT.setDocs hG6 hR6 (tabok_delDocs HH.out.ok k) (by rw [HTK.out.2.2.2]; exact hqm)
            obtain ⟨F', p1, p2, p3⟩ := hP
            exact ⟨⟨F', p1, p2, ((Ch.refl (fun x => x = b) w).drew).trans p3 (fun _ _ h => h)⟩, hG6.ch.cell (p := ⟨b, 0, none⟩) (fun h => h) h1, tab_frozen hT hG6.ch (fun h => h) 0⟩⟩
          clear hsb he hno hR hcell HD hFd
          have hz0 := HH.out.zf 0
          by_cases hcap : c = q1
          · have hni : n = q1 := by omega
            subst hcap hni
            have hm0 : m = 0 := by omega
            subst hm0
            have HNIL : Bx (us.drop (n * 2) = []) := ⟨List.eq_nil_of_length_eq_zero (by have := HTK.out.2.2.1; omega)⟩
            have j1 : (n : Int) ≤ (n : Int) := by omega
            have j3 : (q : Int) ≤ (n : Int) := by omega
            have j5 : (n : Int) - (n : Int) = (0 : Int) := by omega
            have j6 : (0 : Int) ≤ (q : Int) := by omega
            have j7 : (0 : Int) ≤ (n : Int) := by omega
            have h1a := ((Ch.refl (fun _ => False) w).alloc (.cells #[] 34)).cell (p := ⟨b, 0, none⟩) (fun h => h) h1
            have HCA := Bx.mk (HCE.out _ (((Ch.refl (fun _ => False) w).drew).alloc (.cells #[] 34)))
            go_wp2_with fail
            have a2 : IntKind.i64.wrap (n : Int) = (n : Int) := IntWalk.i64_in _ (by omega)
            go_region_law ((first
              | (refine step_appK rfl (.tmp 26) (.tmp 32) elemDm rfl rfl (own_k0 w.drew _ 2) rfl (m := q) HTK.out.2.1 (takem HCA.out) HCL.out.1 (by omega) (by omega) ?_; intro v5 w5 ho5 hg5 hb5; obtain ⟨hG5, c15⟩ := HAP1.out v5 w5 ho5 hg5 hb5; have HG5 := Bx.mk hG5; clear hG5 ho5 hg5 hb5)
              | (refine step_appK rfl (.tmp 33) (.tmp 40) elemDm rfl rfl HG5.out.own rfl (m := 0) HTK.out.2.2.1 (nilm HNIL.out) HCL.out.2 (by omega) (by omega) ?_; intro v6 w6 ho6 hg6 hb6; obtain ⟨hP6, c16, z16⟩ := HAP2.out v5 w5 v6 w6 HG5.out ho6 hg6 hb6; obtain ⟨A6, c6, rfl, _, _⟩ := own_shape ho6; have HP6 := Bx.mk hP6; clear hP6 ho6 hg6 hb6)))
            all_goals
              go_wp2_with fail
              go_meet
              exact HP6
          · have j1 : (q1 : Int) ≤ (c : Int) := by omega
            have j2 : (q1 : Int) ≤ (n : Int) := by omega
            have j3 : (q : Int) ≤ (c : Int) := by omega
            have j4 : ¬ (c : Int) = (q1 : Int) := by omega
            have j5 : (n : Int) - (q1 : Int) = (m : Int) := by omega
            have j6 : (0 : Int) ≤ (q : Int) := by omega
            have j7 : (0 : Int) ≤ (q1 : Int) := by omega
            have h1a := ((Ch.refl (fun _ => False) w).alloc (.cells #[] 34)).cell (p := ⟨b, 0, none⟩) (fun h => h) h1
            have HCA := Bx.mk (HCE.out _ (((Ch.refl (fun _ => False) w).drew).alloc (.cells #[] 34)))
            go_wp2_with fail
            have a2 : IntKind.i64.wrap (q1 : Int) = (q1 : Int) := IntWalk.i64_in _ (by omega)
            go_region_law ((first
              | (refine step_appK rfl (.tmp 26) (.tmp 32) elemDm rfl rfl (own_k0 w.drew _ 2) rfl (m := q) HTK.out.2.1 (takem HCA.out) HCL.out.1 (by omega) (by omega) ?_; intro v5 w5 ho5 hg5 hb5; obtain ⟨hG5, c15⟩ := HAP1.out v5 w5 ho5 hg5 hb5; have HG5 := Bx.mk hG5; clear hG5 ho5 hg5 hb5)
              | (refine step_appK rfl (.tmp 33) (.tmp 40) elemDm rfl rfl HG5.out.own rfl (m := m) HTK.out.2.2.1 (dropm (HCE.out _ (((Ch.refl (fun _ => False) w).drew).trans HG5.out.ch (fun _ _ h => h)))) HCL.out.2 (by omega) (by omega) ?_; intro v6 w6 ho6 hg6 hb6; obtain ⟨hP6, c16, z16⟩ := HAP2.out v5 w5 v6 w6 HG5.out ho6 hg6 hb6; obtain ⟨A6, c6, rfl, _, _⟩ := own_shape ho6; have HP6 := Bx.mk hP6; clear hP6 ho6 hg6 hb6)))
            all_goals
              go_wp2_with fail
              go_meet
              exact HP6
        · have hsb2 : (SD.toList == SK.toList) = false := by rw [hsb]; simpa using he
          have HNO : Bx (∀ j d, j < q + 1 → ds[j]? = some d → d.1 ≠ k) := ⟨fun i d hi hdi => by
            rcases Nat.lt_or_ge i q with h | h
            · exact hno.out i d h hdi
            · obtain rfl : i = q := by omega
              rw [HDX.out] at hdi
              injection hdi with hdi
              rw [← hdi]; exact he⟩
          clear hsb he hno hFd HDX
          go_wp2_with fail
          go_roundw
          case rel => exact ⟨q + 1, by omega, by go_num, trivial, HNO⟩
          case measure => simp [intOf]; omega
      · obtain rfl : n = q := by omega
        have dk : decide ((n : Int) < (n : Int)) = false := decide_eq_false (by omega)
        have dk' : decide (n < n) = false := decide_eq_false (by omega)
        have HP : Bx (TPost (del (·.1) ds k, gs) b w F w) := ⟨by
          rw [del_no (f := fun x : Dc => x.1) HH.out.ok.dr (fun d hd => by
            obtain ⟨i, hi⟩ := List.getElem?_of_mem hd
            exact hno.out i d (by rw [← HN.out]; exact (List.getElem?_eq_some_iff.1 hi).1) hi)]
          exact TPost.refl HH.out⟩
        clear hno HD
        go_wp2_with fail
        go_meet
        exact HP
  case rest =>
    obtain ⟨F1, hT1, hF1, hc1⟩ := hcut.out
    have HT1 := Bx.mk hT1
    have HF1 := Bx.mk hF1
    have HC1 := Bx.mk hc1
    clear hcut hT1 hF1 hc1
    obtain ⟨A, c, B, dcap, h1, h2o, h3, h4, r1, r2, r3o, r4⟩ := HT1.out.row
    have HDo := Bx.mk h4
    obtain ⟨n, hn⟩ : ∃ n, gs.length = n := ⟨_, rfl⟩
    have HN := Bx.mk hn
    have hfew : n ≤ 1000000 := by rw [← hn]; exact HT1.out.few.2
    have h2 : wc.cell? ⟨b, 1, none⟩ = some (.slice B n dcap) := by rw [← hn]; exact h2o
    have HD : Bx (Kss wc F1 B n gs) := ⟨by rw [← hn]; exact HDo.out⟩
    have r3 : n ≤ dcap := by rw [← hn]; exact r3o
    have hc9 : dcap ≤ 9223372036854775807 := by unfold maxLen at r4; omega
    clear h1 h2o h3 h4 r1 r2 r3o r4 hn HDo
    go_wp2_with fail
    go_loopw [5] (fun i wr => ∃ q : Nat, q ≤ n ∧ i = .int .i64 q ∧ wr = wc ∧ Bx (∀ (j : Nat) (d : Key), j < q → gs[j]? = some d → d ≠ k)) (fun i _ => n - (intOf i).toNat)
    case atStart => exact ⟨0, Nat.zero_le _, rfl, rfl, ⟨fun j d hj => absurd hj (by omega)⟩⟩
    case round =>
      obtain ⟨q, hq, rfl, hwr, hno⟩ := hrel
      obtain rfl : wc = wr := hwr.symm
      clear hwr
      by_cases hlt : q < n
      · have dk : decide ((q : Int) < (n : Int)) = true := decide_eq_true (by omega)
        have dk' : decide (q < n) = true := decide_eq_true hlt
        obtain ⟨bd, od, dc, rfl, hFd, hd, hck⟩ := HD.out.at_ hlt
        have i2 : (q : Int) < (n : Int) := by omega
        have hsb := HSB.out dc
        have hck2 : wc.cell? ⟨bd, od + q, none⟩ = some (.string ⟨dc.toArray⟩) := hck
        obtain ⟨SD, hSD⟩ : ∃ S : ByteArray, (⟨dc.toArray⟩ : ByteArray) = S := ⟨_, rfl⟩
        rw [hSD] at hsb hck2
        have HDX := Bx.mk hd.out
        clear hSD hck hd
        by_cases he : dc = k
        · have hsb2 : (SD.toList == SK.toList) = true := by rw [hsb]; simpa using he
          have HDE := Bx.mk (del_at (f := fun x : Key => x) HT1.out.ok.gr HDX.out he)
          have hcell : ∀ q u, (gs.map kv)[q]? = some u → wc.cell? ⟨bd, od + q, none⟩ = some u := fun q u hu => by
            obtain ⟨b', o', e1, _, hh⟩ := HD.out.2 (by omega)
            have e1 : bd = b' ∧ od = o' := by cases e1; exact ⟨rfl, rfl⟩
            obtain ⟨rfl, rfl⟩ := e1
            exact hh q u hu
          have HCE : Bx (∀ w', Ch (fun _ => False) wc w' → ∀ q u, (gs.map kv)[q]? = some u → w'.cell? ⟨bd, od + q, none⟩ = some u) := ⟨fun w' hc q u hu => hc.cell (p := ⟨bd, od + q, none⟩) (fun h => h) (hcell q u hu)⟩
          obtain ⟨q1, hq1⟩ : ∃ q1, q + 1 = q1 := ⟨_, rfl⟩
          have a1 : (q : Int) + 1 = (q1 : Int) := by omega
          obtain ⟨m, hm⟩ : ∃ m, n - q1 = m := ⟨_, rfl⟩
          have hqm : q + m ≤ 1000000 := by omega
          have HTK : Bx ((gs.map kv).take q ++ (gs.map kv).drop q1 = (del id gs k).map kv ∧ ((gs.map kv).take q).length = q * 1 ∧ ((gs.map kv).drop q1).length = m * 1 ∧ (del id gs k).length = q + m) := ⟨by
            have e : del id gs k = gs.take q ++ gs.drop q1 := by rw [← hq1]; exact HDE.out
            have hl := HN.out
            refine ⟨by rw [e, List.map_append, List.map_take, List.map_drop], by rw [List.length_take, List.length_map]; omega, by rw [List.length_drop, List.length_map]; omega, ?_⟩
            rw [e, List.length_append, List.length_take, List.length_drop, hl]
            omega⟩
          have HCL : Bx ((∀ u ∈ (gs.map kv).take q, u.oneCell' = true) ∧ ∀ u ∈ (gs.map kv).drop q1, u.oneCell' = true) := ⟨fun u hu => kv_cells gs u (List.mem_of_mem_take hu), fun u hu => kv_cells gs u (List.mem_of_mem_drop hu)⟩
          have HAP1 : Bx (∀ v5 w5, World.ownsRow w5 0 9 1 v5 (0 + q) ([] ++ (gs.map kv).take q) → (wc.drew.alloc (.cells #[] 9)).grownBy w5 (Value.slice (some ⟨wc.heap.size, 0, none⟩) 0 0).ownBlock → (v5.ownBlock = (Value.slice (some ⟨wc.heap.size, 0, none⟩) 0 0).ownBlock ∨ v5.ownBlock = some (wc.drew.alloc (.cells #[] 9)).heap.size) →
              Gs 9 1 wc.drew w5 v5 q ((gs.map kv).take q) ∧ w5.cell? ⟨b, 1, none⟩ = some (.slice (some ⟨bd, od, none⟩) n dcap)) := ⟨fun v5 w5 h1' h2' h3' => by
            have hG := (gs_k0 wc.drew 9 1).app (m := q) (news := (gs.map kv).take q) (Ch.refl _ _) h1' h2' h3'
            rw [Nat.zero_add, List.nil_append] at hG
            exact ⟨hG, hG.ch.cell (p := ⟨b, 1, none⟩) (fun h => h) h2⟩⟩
          have HAP2 : Bx (∀ v5 w5 v6 w6, Gs 9 1 wc.drew w5 v5 q ((gs.map kv).take q) → World.ownsRow w6 0 9 1 v6 (q + m) ((gs.map kv).take q ++ (gs.map kv).drop q1) → w5.grownBy w6 v5.ownBlock → (v6.ownBlock = v5.ownBlock ∨ v6.ownBlock = some w5.heap.size) →
              TPost (del (·.1) ds k, del id gs k) b w F (w6.setCell ⟨b, 1, none⟩ v6) ∧ w6.cell? ⟨b, 1, none⟩ = some (.slice (some ⟨bd, od, none⟩) n dcap) ∧ w6.frozen? ⟨b, 1, none⟩ = false) := ⟨fun v5 w5 v6 w6 hG h1' h2' h3' => by
            have hG6 := hG.app (m := m) (news := (gs.map kv).drop q1) (Ch.refl _ _) h1' h2' h3'
            have hT := HT1.out.keep ((Ch.refl (fun _ => False) wc).drew)
            rw [HTK.out.1] at hG6
            have hP := hT.setGone hG6 (tabok_delGone HT1.out.ok k) (by rw [HTK.out.2.2.2]; exact hqm)
            obtain ⟨F', p1, p2, p3⟩ := hP
            exact ⟨TPost.trans HF1.out HC1.out ⟨F', p1, p2, ((Ch.refl (fun x => x = b) wc).drew).trans p3 (fun _ _ h => h)⟩, hG6.ch.cell (p := ⟨b, 1, none⟩) (fun h => h) h2, tab_frozen hT hG6.ch (fun h => h) 1⟩⟩
          clear hsb he hno hcell HD hFd
          have hz0 := HT1.out.zf 1
          by_cases hcap : dcap = q1
          · have hni : n = q1 := by omega
            subst hcap hni
            have hm0 : m = 0 := by omega
            subst hm0
            have HNIL : Bx ((gs.map kv).drop n = []) := ⟨List.eq_nil_of_length_eq_zero (by have := HTK.out.2.2.1; omega)⟩
            have j1 : (n : Int) ≤ (n : Int) := by omega
            have j3 : (q : Int) ≤ (n : Int) := by omega
            have j5 : (n : Int) - (n : Int) = (0 : Int) := by omega
            have j6 : (0 : Int) ≤ (q : Int) := by omega
            have j7 : (0 : Int) ≤ (n : Int) := by omega
            have h1a := ((Ch.refl (fun _ => False) wc).alloc (.cells #[] 9)).cell (p := ⟨b, 1, none⟩) (fun h => h) h2
            have HCA := Bx.mk (HCE.out _ (((Ch.refl (fun _ => False) wc).drew).alloc (.cells #[] 9)))
            go_wp2_with fail
            have a2 : IntKind.i64.wrap (n : Int) = (n : Int) := IntWalk.i64_in _ (by omega)
            go_region_law ((first
              | (refine step_appK rfl (.tmp 63) (.tmp 69) elemGm rfl rfl (own_k0 wc.drew _ 1) rfl (m := q) HTK.out.2.1 (takem HCA.out) HCL.out.1 (by omega) (by omega) ?_; intro v5 w5 ho5 hg5 hb5; obtain ⟨hG5, c15⟩ := HAP1.out v5 w5 ho5 hg5 hb5; have HG5 := Bx.mk hG5; clear hG5 ho5 hg5 hb5)
              | (refine step_appK rfl (.tmp 70) (.tmp 77) elemGm rfl rfl HG5.out.own rfl (m := 0) HTK.out.2.2.1 (nilm HNIL.out) HCL.out.2 (by omega) (by omega) ?_; intro v6 w6 ho6 hg6 hb6; obtain ⟨hP6, c16, z16⟩ := HAP2.out v5 w5 v6 w6 HG5.out ho6 hg6 hb6; obtain ⟨A6, c6, rfl, _, _⟩ := own_shape ho6; have HP6 := Bx.mk hP6; clear hP6 ho6 hg6 hb6)))
            all_goals
              go_wp2_with fail
              go_returns
              exact ⟨rfl, HP6.out⟩
          · have j1 : (q1 : Int) ≤ (dcap : Int) := by omega
            have j2 : (q1 : Int) ≤ (n : Int) := by omega
            have j3 : (q : Int) ≤ (dcap : Int) := by omega
            have j4 : ¬ (dcap : Int) = (q1 : Int) := by omega
            have j5 : (n : Int) - (q1 : Int) = (m : Int) := by omega
            have j6 : (0 : Int) ≤ (q : Int) := by omega
            have j7 : (0 : Int) ≤ (q1 : Int) := by omega
            have h1a := ((Ch.refl (fun _ => False) wc).alloc (.cells #[] 9)).cell (p := ⟨b, 1, none⟩) (fun h => h) h2
            have HCA := Bx.mk (HCE.out _ (((Ch.refl (fun _ => False) wc).drew).alloc (.cells #[] 9)))
            go_wp2_with fail
            have a2 : IntKind.i64.wrap (q1 : Int) = (q1 : Int) := IntWalk.i64_in _ (by omega)
            go_region_law ((first
              | (refine step_appK rfl (.tmp 63) (.tmp 69) elemGm rfl rfl (own_k0 wc.drew _ 1) rfl (m := q) HTK.out.2.1 (takem HCA.out) HCL.out.1 (by omega) (by omega) ?_; intro v5 w5 ho5 hg5 hb5; obtain ⟨hG5, c15⟩ := HAP1.out v5 w5 ho5 hg5 hb5; have HG5 := Bx.mk hG5; clear hG5 ho5 hg5 hb5)
              | (refine step_appK rfl (.tmp 70) (.tmp 77) elemGm rfl rfl HG5.out.own rfl (m := m) HTK.out.2.2.1 (dropm (HCE.out _ (((Ch.refl (fun _ => False) wc).drew).trans HG5.out.ch (fun _ _ h => h)))) HCL.out.2 (by omega) (by omega) ?_; intro v6 w6 ho6 hg6 hb6; obtain ⟨hP6, c16, z16⟩ := HAP2.out v5 w5 v6 w6 HG5.out ho6 hg6 hb6; obtain ⟨A6, c6, rfl, _, _⟩ := own_shape ho6; have HP6 := Bx.mk hP6; clear hP6 ho6 hg6 hb6)))
            all_goals
              go_wp2_with fail
              go_returns
              exact ⟨rfl, HP6.out⟩
        · have hsb2 : (SD.toList == SK.toList) = false := by rw [hsb]; simpa using he
          have HNO : Bx (∀ (j : Nat) (d : Key), j < q + 1 → gs[j]? = some d → d ≠ k) := ⟨fun i d hi hdi => by
            rcases Nat.lt_or_ge i q with h | h
            · exact hno.out i d h hdi
            · obtain rfl : i = q := by omega
              rw [HDX.out] at hdi
              injection hdi with hdi
              rw [← hdi]; exact he⟩
          clear hsb he hno hFd HDX
          go_wp2_with fail
          go_roundw
          case rel => exact ⟨q + 1, by omega, by go_num, trivial, HNO⟩
          case measure => simp [intOf]; omega
      · obtain rfl : n = q := by omega
        have dk : decide ((n : Int) < (n : Int)) = false := decide_eq_false (by omega)
        have dk' : decide (n < n) = false := decide_eq_false (by omega)
        have HP : Bx (TPost (del (·.1) ds k, del id gs k) b w F wc) := ⟨by
          have e : del id gs k = gs := del_no (f := fun x : Key => x) HT1.out.ok.gr (fun d hd => by
            obtain ⟨i, hi⟩ := List.getElem?_of_mem hd
            exact hno.out i d (by rw [← HN.out]; exact (List.getElem?_eq_some_iff.1 hi).1) hi)
          rw [e]
          exact ⟨F1, HT1.out, HF1.out, HC1.out⟩⟩
        clear hno HD
        go_wp2_with fail
        go_returns
        exact ⟨rfl, HP.out⟩
end
end Go.Proofs.Ytpilekadcondnaa
