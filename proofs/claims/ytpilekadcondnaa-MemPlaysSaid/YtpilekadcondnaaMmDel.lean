/-
  The contract of the document's table: Delete.
  Conditions: the table is one.
-/
import Derived.Test.YtpilekadcondnaaMmForget
namespace Go.Proofs.Ytpilekadcondnaa
open Go.RowKit Go.Oct Go.Su Go.Sg

theorem blessM (x : List UInt8) : ∀ y : List UInt8, Op.bytesLess x y = decide (x < y) := by
  induction x with
  | nil => intro y; cases y <;> simp [Op.bytesLess]
  | cons a x ih =>
    intro y
    cases y with
    | nil => simp [Op.bytesLess]
    | cons b y =>
      unfold Op.bytesLess
      rw [ih y, Bool.eq_iff_iff]
      simp only [List.cons_lt_cons_iff, Bool.or_eq_true, Bool.and_eq_true, decide_eq_true_eq, beq_iff_eq]
theorem lessM (a b : Key) : Op.bytesLess (⟨a.toArray⟩ : ByteArray).toList (⟨b.toArray⟩ : ByteArray).toList = decide (a < b) := by
  rw [blessM, Lib.toList_data, Lib.toList_data]
section
variable {w : World} {F : Nat → Prop} {b : Nat} {ds : List Dc} {gs : List Key}
set_option maxRecDepth 100000 in
set_option maxHeartbeats 8000000 in
theorem delete_any (h : TabD w F b ds gs) (k : Key) (hk : k.length ≤ 9223372036854775807) (hfw : gs.length < 1000000) : Calls Try.prog 14 #[.pointer (some ⟨b, 0, none⟩), kv k] w fun e w' => e = .returned (.int .i64 (tDel (ds, gs) k).1) ∧ TPost (tDel (ds, gs) k).2 b w F w' := by
  have HH := Bx.mk h
  have HK := Bx.mk hk
  have HFW := Bx.mk hfw
  obtain ⟨SK, hSK⟩ : ∃ S : ByteArray, (⟨k.toArray⟩ : ByteArray) = S := ⟨_, rfl⟩
  have HLT : Bx (∀ j : Key, Op.bytesLess (⟨j.toArray⟩ : ByteArray).toList SK.toList = decide (j < k)) := ⟨fun j => by rw [← hSK]; exact lessM j k⟩
  have HKV : Bx (kv k = .string SK) := ⟨by unfold kv; rw [hSK]⟩
  have HKEY : Bx (∀ (w : World) o, decide (okK k) = o → Calls Try.prog 28 #[.string SK] w fun e w' => e = .returned (.bool o) ∧ w = w') := ⟨fun w o ho => by rw [← HKV.out]; exact key_any k w HK.out o ho⟩
  have HFOR : Bx (Calls Try.prog 29 #[.pointer (some ⟨b, 0, none⟩), .string SK] w fun e w' => e = .returned (.tuple #[]) ∧ TPost (del (·.1) ds k, del id gs k) b w F w') := ⟨by rw [← HKV.out]; exact forget_any HH.out k⟩
  rw [HKV.out]
  clear h hk hfw hSK
  by_cases hok : okK k
  · have hv : tDel (ds, gs) k = (0, (del (·.1) ds k, put id gs k)) := if_neg (not_not_intro hok)
    have HV := Bx.mk hv
    rw [HV.out]
    have HK2 := Bx.mk (HKEY.out w true (decide_eq_true hok))
    clear hv hok
    go_enter Try.func14, Try.ntmps14
    go_wp2_with fail
    refine HK2.out.mono ?_
    rintro e w' ⟨rfl, rfl⟩
    go_wp2_with fail
    refine HFOR.out.mono ?_
    rintro e w1 ⟨rfl, hP⟩
    obtain ⟨F1, hT1, hF1, hc1⟩ := hP
    have HT1 := Bx.mk hT1
    have HF1 := Bx.mk hF1
    have HC1 := Bx.mk hc1
    obtain ⟨G, hG⟩ : ∃ G, del id gs k = G := ⟨_, rfl⟩
    have HG := Bx.mk hG
    have hno : ∀ z ∈ G, z ≠ k := fun z hz => by rw [← hG] at hz; exact (mem_del.1 hz).2
    have HNE := Bx.mk hno
    rw [hG] at HT1
    clear hT1 hF1 hc1 hG hno
    obtain ⟨A, c, B, dcap, h1, h2o, h3, h4, r1, r2, r3o, r4⟩ := HT1.out.row
    have HDo := Bx.mk h4
    obtain ⟨n, hn⟩ : ∃ n, G.length = n := ⟨_, rfl⟩
    have HN := Bx.mk hn
    have hfew : n < 1000000 := by
      rw [← hn, ← HG.out]
      have := len_del_le HH.out.ok.gr k
      have := HFW.out
      omega
    have h2 : w1.cell? ⟨b, 1, none⟩ = some (.slice B n dcap) := by rw [← hn]; exact h2o
    have HD : Bx (Kss w1 F1 B n G) := ⟨by rw [← hn]; exact HDo.out⟩
    have r3 : n ≤ dcap := by rw [← hn]; exact r3o
    have hc9 : dcap ≤ 9223372036854775807 := by unfold maxLen at r4; omega
    clear h1 h2o h3 h4 r1 r2 r3o r4 hn HDo
    go_upto_block 0 with fail
    go_cut [5] (fun i wx => ∃ q : Nat, q ≤ n ∧ i = .int .i64 q ∧ wx = w1 ∧ Bx (put id gs k = G.take q ++ k :: G.drop q))
    case first =>
      go_wp2_with fail
      go_loopw [5] (fun i wr => ∃ q : Nat, q ≤ n ∧ i = .int .i64 q ∧ wr = w1 ∧ Bx (∀ (j : Nat) (d : Key), j < q → G[j]? = some d → d < k)) (fun i _ => n - (intOf i).toNat)
      case atStart => exact ⟨0, Nat.zero_le _, rfl, rfl, ⟨fun j d hj => absurd hj (by omega)⟩⟩
      case round =>
        obtain ⟨q, hq, rfl, hwr, hno⟩ := hrel
        obtain rfl : w1 = wr := hwr.symm
        clear hwr
        by_cases hlt : q < n
        · have dk : decide ((q : Int) < (n : Int)) = true := decide_eq_true (by omega)
          have dk' : decide (q < n) = true := decide_eq_true hlt
          obtain ⟨bd, od, dc, rfl, hFd, hd, hck⟩ := HD.out.at_ hlt
          have i2 : (q : Int) < (n : Int) := by omega
          have hsb := HLT.out dc
          have hck2 : w1.cell? ⟨bd, od + q, none⟩ = some (.string ⟨dc.toArray⟩) := hck
          obtain ⟨SD, hSD⟩ : ∃ S : ByteArray, (⟨dc.toArray⟩ : ByteArray) = S := ⟨_, rfl⟩
          rw [hSD] at hsb hck2
          have HDX := Bx.mk hd.out
          clear hSD hck hd hFd
          by_cases he : dc < k
          · have hsb2 : Op.bytesLess SD.toList SK.toList = true := by rw [hsb]; exact decide_eq_true he
            have HNO : Bx (∀ (j : Nat) (d : Key), j < q + 1 → G[j]? = some d → d < k) := ⟨fun i d hi hdi => by
              rcases Nat.lt_or_ge i q with h | h
              · exact hno.out i d h hdi
              · obtain rfl : i = q := by omega
                rw [HDX.out] at hdi
                injection hdi with hdi
                rw [← hdi]; exact he⟩
            clear hsb he hno HDX
            go_wp2_with fail
            go_roundw
            case rel => exact ⟨q + 1, by omega, by go_num, trivial, HNO⟩
            case measure => simp [intOf]; omega
          · have hsb2 : Op.bytesLess SD.toList SK.toList = false := by rw [hsb]; exact decide_eq_false he
            have HP : Bx (put id gs k = G.take q ++ k :: G.drop q) := ⟨by
              have e := put_del id gs k
              rw [show del id gs (id k) = G from HG.out] at e
              rw [← e]
              refine put_at HT1.out.ok.gr (fun p z hp hz => hno.out p z hp hz) (fun z hz => ?_)
              rw [HDX.out] at hz
              injection hz with hz
              rw [← hz]
              have hne := HNE.out dc (List.mem_of_getElem? HDX.out)
              rcases key_tri dc k with h | h | h
              · exact absurd h he
              · exact absurd h hne
              · exact h⟩
            clear hsb he hno HDX
            go_wp2_with fail
            go_meet
            exact ⟨q, hq, rfl, rfl, HP⟩
        · obtain rfl : n = q := by omega
          have dk : decide ((n : Int) < (n : Int)) = false := decide_eq_false (by omega)
          have dk' : decide (n < n) = false := decide_eq_false (by omega)
          have HP : Bx (put id gs k = G.take n ++ k :: G.drop n) := ⟨by
            have e := put_del id gs k
            rw [show del id gs (id k) = G from HG.out] at e
            rw [← e]
            refine put_at HT1.out.ok.gr (fun p z hp hz => hno.out p z hp hz) (fun z hz => ?_)
            have := (List.getElem?_eq_some_iff.1 hz).1
            have := HN.out
            omega⟩
          clear hno
          go_wp2_with fail
          go_meet
          exact ⟨n, hq, rfl, rfl, HP⟩
    case rest =>
      obtain ⟨q, hq, rfl, hw, hPQ⟩ := hcut
      obtain rfl : w1 = wc := hw.symm
      clear hw
      obtain ⟨m, hm⟩ : ∃ m, n - q = m := ⟨_, rfl⟩
      have HTK : Bx (((G.map kv).take q ++ [.string SK]) ++ (G.map kv).drop q = (put id gs k).map kv ∧ (put id gs k).length = q + 1 + m) := ⟨by
        have hl := HN.out
        rw [hPQ.out]
        refine ⟨by rw [List.map_append, List.map_cons, List.map_take, List.map_drop, HKV.out, List.append_assoc]; rfl, ?_⟩
        rw [List.length_append, List.length_cons, List.length_take, List.length_drop]
        omega⟩
      have HCL : Bx ((∀ u ∈ (G.map kv).take q, u.oneCell' = true) ∧ ∀ u ∈ (G.map kv).drop q, u.oneCell' = true) := ⟨fun u hu => kv_cells G u (List.mem_of_mem_take hu), fun u hu => kv_cells G u (List.mem_of_mem_drop hu)⟩
      have HVT : Bx (∀ w', Ch (fun _ => False) w1 w' → Vs w' F1 B q ((G.map kv).take q)) := ⟨fun w' hc => (show Vs w1 F1 B n (G.map kv) from HD.out).take hq |>.ch hc (fun _ _ _ h => h)⟩
      have HAP1 : Bx (∀ v5 w5, World.ownsRow w5 0 9 1 v5 (0 + q) ([] ++ (G.map kv).take q) → (w1.alloc (.cells #[] 9)).grownBy w5 (Value.slice (some ⟨w1.heap.size, 0, none⟩) 0 0).ownBlock → (v5.ownBlock = (Value.slice (some ⟨w1.heap.size, 0, none⟩) 0 0).ownBlock ∨ v5.ownBlock = some (w1.alloc (.cells #[] 9)).heap.size) →
          Gs 9 1 w1 w5 v5 q ((G.map kv).take q)) := ⟨fun v5 w5 h1' h2' h3' => by
        have hG := (gs_k0 w1 9 1).app (m := q) (news := (G.map kv).take q) (Ch.refl _ _) h1' h2' h3'
        rwa [Nat.zero_add, List.nil_append] at hG⟩
      have HAP3 : Bx (∀ v6 w6 v7 w7, Gs 9 1 w1 w6 v6 (q + 1) ((G.map kv).take q ++ [.string SK]) → World.ownsRow w7 0 9 1 v7 (q + 1 + m) (((G.map kv).take q ++ [.string SK]) ++ (G.map kv).drop q) → w6.grownBy w7 v6.ownBlock → (v7.ownBlock = v6.ownBlock ∨ v7.ownBlock = some w6.heap.size) →
          TPost (del (·.1) ds k, put id gs k) b w F (w7.setCell ⟨b, 1, none⟩ v7) ∧ w7.cell? ⟨b, 1, none⟩ = some (.slice B n dcap) ∧ w7.frozen? ⟨b, 1, none⟩ = false) := ⟨fun v6 w6 v7 w7 hG h1' h2' h3' => by
        have hG7 := hG.app (m := m) (news := (G.map kv).drop q) (Ch.refl _ _) h1' h2' h3'
        rw [HTK.out.1] at hG7
        have hok2 := HH.out.ok.del k
        rw [HV.out] at hok2
        have hP := HT1.out.setGone hG7 hok2 (by rw [HTK.out.2]; omega)
        exact ⟨TPost.trans HF1.out HC1.out hP, hG7.ch.cell (p := ⟨b, 1, none⟩) (fun h => h) h2, tab_frozen HT1.out hG7.ch (fun h => h) 1⟩⟩
      have hC2 : Bx (∀ w', Ch (fun _ => False) w1 w' → w'.cell? ⟨b, 1, none⟩ = some (.slice B n dcap)) := ⟨fun w' hc => hc.cell (p := ⟨b, 1, none⟩) (fun h => h) h2⟩
      have hShp := HT1.out.shp 1 B n dcap (by omega) h2
      have j6 : (0 : Int) ≤ (q : Int) := by omega
      have j3 : (q : Int) ≤ (dcap : Int) := by omega
      have j2 : (q : Int) ≤ (n : Int) := by omega
      have HVD : Bx (∀ (gb go : Nat), B = some ⟨gb, go, none⟩ → ∀ w', Ch (fun _ => False) w1 w' → Vs w' F1 (some ⟨gb, go + q, none⟩) m ((G.map kv).drop q)) := ⟨fun gb go e w' hc => by
        subst e
        have := ((show Vs w1 F1 (some ⟨gb, go, none⟩) n (G.map kv) from HD.out).drop hq).ch hc (fun _ _ _ h => h)
        rwa [hm] at this⟩
      have HV0 : Bx (m = 0 → ∀ (A : Option Addr) w', Vs w' F1 A m ((G.map kv).drop q)) := ⟨fun e A w' => by
        have hz : ((G.map kv).drop q) = [] := List.eq_nil_of_length_eq_zero (by rw [List.length_drop, List.length_map, HN.out]; omega)
        rw [hz, e]
        exact Vs.nil _ _ _⟩
      rcases hShp with ⟨rfl, hd0⟩ | ⟨gb, go, rfl⟩
      · have HM0 : Bx (m = 0) := ⟨by omega⟩
        have j5 : (n : Int) - (q : Int) = (m : Int) := by omega
        have h2a := hC2.out _ ((Ch.refl (fun _ => False) w1).alloc (.cells #[] 9))
        go_wp2_with (at_builtin; refine wp_app rfl (.tmp 33) (.tmp 39) elemS rfl rfl (own_k0 w1 _ 1) rfl (HVT.out _ ((Ch.refl (fun _ => False) w1).alloc _)) ?c1 ?c2 ?c3 ?_)
        try (case c1 => exact HCL.out.1)
        try (case c2 => omega)
        try (case c3 => omega)
        intro v5 w5 ho5 hg5 hb5
        have HG5 := Bx.mk (HAP1.out v5 w5 (by simpa using ho5) hg5 (by simpa using hb5))
        obtain ⟨A5, c5, rfl, _, _⟩ := own_shape ho5
        clear ho5 hg5 hb5
        go_wp2_with (at_builtin; refine wp_app rfl (.tmp 40) (.tmp 42) elemS rfl rfl (HG5.out.own.alloc _) rfl (Vs.one _ _ _) ?c1 ?c2 ?c3 ?_)
        try (case c1 => intro u hu; simp at hu; subst hu; rfl)
        try (case c2 => omega)
        try (case c3 => omega)
        intro v6 w6 ho6 hg6 hb6
        have HG6 := Bx.mk (HG5.out.app (m := 1) ((Ch.refl _ _).alloc _) (by simpa using ho6) hg6 (by simpa using hb6))
        have h26 := hC2.out _ HG6.out.ch
        obtain ⟨A6, c6, rfl, _, _⟩ := own_shape ho6
        clear ho6 hg6 hb6
        go_wp2_with (at_builtin; refine wp_app rfl (.tmp 45) (.tmp 51) elemS rfl rfl HG6.out.own rfl (m := m) (HV0.out HM0.out _ _) ?c1 ?c2 ?c3 ?_)
        try (case c1 => exact HCL.out.2)
        try (case c2 => omega)
        try (case c3 => omega)
        intro v7 w7 ho7 hg7 hb7
        have ho7 := (by simpa using ho7 : World.ownsRow w7 0 9 1 v7 (q + 1 + m) (((G.map kv).take q ++ [.string SK]) ++ (G.map kv).drop q))
        obtain ⟨hP7, c17, z17⟩ := HAP3.out _ w6 v7 w7 HG6.out ho7 hg7 hb7
        have HP7 := Bx.mk hP7
        obtain ⟨A7, c7, rfl, _, _⟩ := own_shape ho7
        clear ho7 hg7 hb7 hP7
        go_wp2
        go_ret
        exact ⟨rfl, HP7.out⟩
      · by_cases hcap : dcap = q
        · obtain rfl : n = q := by omega
          obtain rfl : n = dcap := by omega
          have hm0 : m = 0 := by omega
          subst hm0
          have HVN : Bx (∀ (A : Option Addr) w', Vs w' F1 A 0 ((G.map kv).drop n)) := ⟨HV0.out rfl⟩
          clear HV0
          have j5 : (n : Int) - (n : Int) = (0 : Int) := by omega
          have h2a := hC2.out _ ((Ch.refl (fun _ => False) w1).alloc (.cells #[] 9))
          go_wp2_with (at_builtin; refine wp_app rfl (.tmp 33) (.tmp 39) elemS rfl rfl (own_k0 w1 _ 1) rfl (HVT.out _ ((Ch.refl (fun _ => False) w1).alloc _)) ?c1 ?c2 ?c3 ?_)
          try (case c1 => exact HCL.out.1)
          try (case c2 => omega)
          try (case c3 => omega)
          intro v5 w5 ho5 hg5 hb5
          have HG5 := Bx.mk (HAP1.out v5 w5 (by simpa using ho5) hg5 (by simpa using hb5))
          obtain ⟨A5, c5, rfl, _, _⟩ := own_shape ho5
          clear ho5 hg5 hb5
          go_wp2_with (at_builtin; refine wp_app rfl (.tmp 40) (.tmp 42) elemS rfl rfl (HG5.out.own.alloc _) rfl (Vs.one _ _ _) ?c1 ?c2 ?c3 ?_)
          try (case c1 => intro u hu; simp at hu; subst hu; rfl)
          try (case c2 => omega)
          try (case c3 => omega)
          intro v6 w6 ho6 hg6 hb6
          have HG6 := Bx.mk (HG5.out.app (m := 1) ((Ch.refl _ _).alloc _) (by simpa using ho6) hg6 (by simpa using hb6))
          have h26 := hC2.out _ HG6.out.ch
          obtain ⟨A6, c6, rfl, _, _⟩ := own_shape ho6
          clear ho6 hg6 hb6
          go_wp2_with (at_builtin; refine wp_app rfl (.tmp 45) (.tmp 51) elemS rfl rfl HG6.out.own rfl (m := 0) (HVN.out _ _) ?c1 ?c2 ?c3 ?_)
          try (case c1 => exact HCL.out.2)
          try (case c2 => omega)
          try (case c3 => omega)
          intro v7 w7 ho7 hg7 hb7
          have ho7 := (by simpa using ho7 : World.ownsRow w7 0 9 1 v7 (n + 1 + 0) (((G.map kv).take n ++ [.string SK]) ++ (G.map kv).drop n))
          obtain ⟨hP7, c17, z17⟩ := HAP3.out _ w6 v7 w7 HG6.out ho7 hg7 hb7
          have HP7 := Bx.mk hP7
          obtain ⟨A7, c7, rfl, _, _⟩ := own_shape ho7
          clear ho7 hg7 hb7 hP7
          go_wp2
          go_ret
          exact ⟨rfl, HP7.out⟩
        · have j4 : ¬ (dcap : Int) = (q : Int) := by omega
          have j5 : (n : Int) - (q : Int) = (m : Int) := by omega
          have h2a := hC2.out _ ((Ch.refl (fun _ => False) w1).alloc (.cells #[] 9))
          go_wp2_with (at_builtin; refine wp_app rfl (.tmp 33) (.tmp 39) elemS rfl rfl (own_k0 w1 _ 1) rfl (HVT.out _ ((Ch.refl (fun _ => False) w1).alloc _)) ?c1 ?c2 ?c3 ?_)
          try (case c1 => exact HCL.out.1)
          try (case c2 => omega)
          try (case c3 => omega)
          intro v5 w5 ho5 hg5 hb5
          have HG5 := Bx.mk (HAP1.out v5 w5 (by simpa using ho5) hg5 (by simpa using hb5))
          obtain ⟨A5, c5, rfl, _, _⟩ := own_shape ho5
          clear ho5 hg5 hb5
          go_wp2_with (at_builtin; refine wp_app rfl (.tmp 40) (.tmp 42) elemS rfl rfl (HG5.out.own.alloc _) rfl (Vs.one _ _ _) ?c1 ?c2 ?c3 ?_)
          try (case c1 => intro u hu; simp at hu; subst hu; rfl)
          try (case c2 => omega)
          try (case c3 => omega)
          intro v6 w6 ho6 hg6 hb6
          have HG6 := Bx.mk (HG5.out.app (m := 1) ((Ch.refl _ _).alloc _) (by simpa using ho6) hg6 (by simpa using hb6))
          have h26 := hC2.out _ HG6.out.ch
          obtain ⟨A6, c6, rfl, _, _⟩ := own_shape ho6
          clear ho6 hg6 hb6
          go_wp2_with (at_builtin; refine wp_app rfl (.tmp 45) (.tmp 51) elemS rfl rfl HG6.out.own rfl (m := m) (HVD.out gb go rfl _ HG6.out.ch) ?c1 ?c2 ?c3 ?_)
          try (case c1 => exact HCL.out.2)
          try (case c2 => omega)
          try (case c3 => omega)
          intro v7 w7 ho7 hg7 hb7
          have ho7 := (by simpa using ho7 : World.ownsRow w7 0 9 1 v7 (q + 1 + m) (((G.map kv).take q ++ [.string SK]) ++ (G.map kv).drop q))
          obtain ⟨hP7, c17, z17⟩ := HAP3.out _ w6 v7 w7 HG6.out ho7 hg7 hb7
          have HP7 := Bx.mk hP7
          obtain ⟨A7, c7, rfl, _, _⟩ := own_shape ho7
          clear ho7 hg7 hb7 hP7
          go_wp2
          go_ret
          exact ⟨rfl, HP7.out⟩
  · have hv : tDel (ds, gs) k = (1, (ds, gs)) := if_pos hok
    have HV := Bx.mk hv
    rw [HV.out]
    have HK2 := Bx.mk (HKEY.out w false (decide_eq_false hok))
    clear hv hok
    go_enter Try.func14, Try.ntmps14
    go_wp2_with fail
    refine HK2.out.mono ?_
    rintro e w' ⟨rfl, rfl⟩
    go_wp2
    go_ret
    exact ⟨rfl, TPost.refl HH.out⟩
end
end Go.Proofs.Ytpilekadcondnaa
