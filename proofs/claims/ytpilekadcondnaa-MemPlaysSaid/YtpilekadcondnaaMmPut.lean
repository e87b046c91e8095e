/-
  The contract of the document's table: Put.
  Conditions: the table is one; the bytes read as they say and lie beside it.
-/
import Derived.Test.YtpilekadcondnaaMmDel
import Derived.Test.YtpilekadcondnaaMmGet
namespace Go.Proofs.Ytpilekadcondnaa
open Go.RowKit Go.Oct Go.Su Go.Sg

/-- append of nothing, where there is no row. -/
theorem wp_app0M {P : Program} {t e : TypeId} {z : Value} {size bytes : Nat} {w : World} {ops : Array Oper} {rest : List Oper} {o : Oper} {a : Act} {Q : Exit → Act → World → Prop} (hgd : o.guard = none) (s x : Operand) (T : ElemK P t e z size bytes)
    (ho : o.op = .call { callee := .builtin .append, args := #[s, x], argTypes := #[t, t] }) {v : Value} {n : Nat} {xs : List Value} (hs : a.eval s = v) (hown : w.ownsRow 0 e size v n xs)
    {m c : Nat} (hm : m = 0) (hx : a.eval x = .slice none m c) (hmc : c = 0) (h : ∀ v' w', Bx (v' = v) → Bx (w' = w) → wpList P ops Q rest (a.put o.dst v') w') : wpList P ops Q (o :: rest) a w :=
  wpList_plain hgd fun _ hK => by
    obtain ⟨i, hi, hz, hsz, hby⟩ := infoK T.info
    subst hm hmc
    have hrun : (Builtin.append_ #[t, t] o.type #[v, .slice none 0 0]).run P w = .ok v w := by
      rcases hown.2 with ⟨rfl, rfl⟩ | ⟨g, cap, cur, rfl, _, _, hnc, _⟩
      · simp [Builtin.append_, run_underlying T.t, sizeOf, typeInfo, hi, Builtin.lenOf, Builtin.firstCells]
      · simp [Builtin.append_, run_underlying T.t, sizeOf, typeInfo, hi, Builtin.lenOf, Builtin.firstCells, hnc, storeCells]
    unfold Oper.wp execOp
    simp only [ho, resolve, invoke, builtin, Sem.run_bind, Sem.run_pure, Result.andThen_ok, List.map_toArray, List.map_cons, List.map_nil, hs, hx, hrun]
    exact hK _ _ (h v w ⟨rfl⟩ ⟨rfl⟩)
theorem doc_cellsM (w : World) (S : ByteArray) (A : Option Addr) (n c : Nat) : ∀ j u, [Value.string S, .slice A n c][j]? = some u → (w.alloc (.cells #[.string S, .slice A n c] 34)).cell? ((⟨w.heap.size, 0, none⟩ : Addr).add j) = some u := fun j u hu => by
  rw [addrm_add, Nat.zero_add]
  exact cells_atM (by simpa using hu)
/-- A row of documents as it stands, whatever its place. -/
theorem open_anyM {w : World} {F : Nat → Prop} {A : Option Addr} {n : Nat} {ds : List Dc} (h : Dcs w F A n ds) : ∃ us, DcR w F us ds ∧ ∀ gb go, A = some ⟨gb, go, none⟩ → ∀ q u, us[q]? = some u → w.cell? ⟨gb, go + q, none⟩ = some u := by
  rcases Nat.eq_zero_or_pos n with h0 | h0
  · subst h0
    obtain rfl : ds = [] := List.eq_nil_of_length_eq_zero h.len
    exact ⟨[], DcR.nil w F, fun gb go _ q u hu => by simp at hu⟩
  · obtain ⟨b, off, us, e, _, hR, hc⟩ := Dcs.open_ h h0
    exact ⟨us, hR, fun gb go e2 q u hu => by rw [e] at e2; injection e2 with e2; injection e2 with e3 e4; subst e3 e4; exact hc q u hu⟩
section
variable {w : World} {F FA : Nat → Prop} {b : Nat} {ds : List Dc} {gs : List Key} {A0 : Option Addr} {n0 c0 : Nat} {xs : List Int}
set_option maxRecDepth 100000 in
set_option maxHeartbeats 8000000 in
theorem put_any (h : TabD w F b ds gs) (k : Key) (hk : k.length ≤ 9223372036854775807) (hz : Sl w FA .u8 A0 n0 xs) (hby : ∀ x ∈ xs, 0 ≤ x ∧ x < 256) (hFA : ∀ x, FA x → x ≠ b) (hn0 : n0 ≤ 9223372036854775807) (hfw : ds.length < 1000000) : Calls Try.prog 8 #[.pointer (some ⟨b, 0, none⟩), kv k, .slice A0 n0 c0] w fun e w' => e = .returned (.int .i64 (tPut (ds, gs) k xs).1) ∧ TPost (tPut (ds, gs) k xs).2 b w F w' := by
  have HH := Bx.mk h
  have HK := Bx.mk hk
  have HZ := Bx.mk hz
  have HBY := Bx.mk hby
  have HFA := Bx.mk hFA
  have HFW := Bx.mk hfw
  obtain ⟨SK, hSK⟩ : ∃ S : ByteArray, (⟨k.toArray⟩ : ByteArray) = S := ⟨_, rfl⟩
  have HLT : Bx (∀ j : Key, Op.bytesLess (⟨j.toArray⟩ : ByteArray).toList SK.toList = decide (j < k)) := ⟨fun j => by rw [← hSK]; exact lessM j k⟩
  have HKV : Bx (kv k = .string SK) := ⟨by unfold kv; rw [hSK]⟩
  have HKEY : Bx (∀ (w : World) o, decide (okK k) = o → Calls Try.prog 28 #[.string SK] w fun e w' => e = .returned (.bool o) ∧ w = w') := ⟨fun w o ho => by rw [← HKV.out]; exact key_any k w HK.out o ho⟩
  have HFOR : Bx (Calls Try.prog 29 #[.pointer (some ⟨b, 0, none⟩), .string SK] w fun e w' => e = .returned (.tuple #[]) ∧ TPost (del (·.1) ds k, del id gs k) b w F w') := ⟨by rw [← HKV.out]; exact forget_any HH.out k⟩
  rw [HKV.out]
  clear h hk hfw hSK hz hby hFA
  have HLEN := Bx.mk HZ.out.len
  by_cases hok : okK k
  · have HK2 := Bx.mk (HKEY.out w true (decide_eq_true hok))
    by_cases hbig : 4096 < n0
    · have hv : tPut (ds, gs) k xs = (5, (ds, gs)) := by unfold tPut; rw [if_neg (not_not_intro hok), if_pos (by rw [HLEN.out]; exact hbig)]
      have HV := Bx.mk hv
      rw [HV.out]
      have dg : decide ((4096 : Int) < (n0 : Int)) = true := decide_eq_true (by omega)
      have dg' : decide (4096 < n0) = true := decide_eq_true hbig
      clear hv hok
      go_enter Try.func8, Try.ntmps8
      go_wp2_with fail
      refine HK2.out.mono ?_
      rintro e w' ⟨rfl, rfl⟩
      go_wp2
      go_ret
      exact ⟨rfl, TPost.refl HH.out⟩
    · have hv : tPut (ds, gs) k xs = (0, (put (·.1) ds (k, xs), del id gs k)) := by unfold tPut; rw [if_neg (not_not_intro hok), if_neg (by rw [HLEN.out]; exact hbig)]
      have HV := Bx.mk hv
      rw [HV.out]
      have HOK := Bx.mk hok
      have dg : decide ((4096 : Int) < (n0 : Int)) = false := decide_eq_false (by omega)
      have dg' : decide (4096 < n0) = false := decide_eq_false hbig
      clear hv hok
      go_enter Try.func8, Try.ntmps8
      go_wp2_with fail
      refine HK2.out.mono ?_
      rintro e w' ⟨rfl, rfl⟩
      go_wp2_with fail
      refine HFOR.out.mono ?_
      rintro e w1 ⟨rfl, hP⟩
      obtain ⟨F1, hT1, hF1, hc1⟩ := hP
      have HT1 := Bx.mk hT1
      have HF1 := Bx.mk hF1
      have HC1 := Bx.mk hc1
      have HZ1 := Bx.mk (HZ.out.ch hc1 (fun x hx _ => HFA.out x hx))
      obtain ⟨G, hG⟩ : ∃ G, del (fun x : Dc => x.1) ds k = G := ⟨_, rfl⟩
      have HG := Bx.mk hG
      have hno : ∀ z ∈ G, z.1 ≠ k := fun z hz => by rw [← hG] at hz; exact (mem_del.1 hz).2
      have HNE := Bx.mk hno
      rw [hG] at HT1
      clear hT1 hF1 hc1 hG hno
      obtain ⟨B, dcap, A, c, h2o, h1, h4, h3, r3o, r4, r1, r2⟩ := HT1.out.row
      have HDo := Bx.mk h4
      obtain ⟨n, hn⟩ : ∃ n, G.length = n := ⟨_, rfl⟩
      have HN := Bx.mk hn
      have hfew : n < 1000000 := by
        rw [← hn, ← HG.out]
        have := len_del_le HH.out.ok.dr k
        have := HFW.out
        omega
      have h2 : w1.cell? ⟨b, 0, none⟩ = some (.slice B n dcap) := by rw [← hn]; exact h2o
      have HD : Bx (Dcs w1 F1 B n G) := ⟨by rw [← hn]; exact HDo.out⟩
      have r3 : n ≤ dcap := by rw [← hn]; exact r3o
      have hc9 : dcap ≤ 9223372036854775807 := by unfold maxLen at r4; omega
      clear h1 h2o h3 h4 r1 r2 r3o r4 hn HDo
      go_upto_block 0 with fail
      go_cut [7] (fun i wx => ∃ q : Nat, q ≤ n ∧ i = .int .i64 q ∧ wx = w1 ∧ Bx (put (·.1) ds (k, xs) = G.take q ++ (k, xs) :: G.drop q))
      case first =>
        go_wp2_with fail
        go_loopw [7] (fun i wr => ∃ q : Nat, q ≤ n ∧ i = .int .i64 q ∧ wr = w1 ∧ Bx (∀ (j : Nat) (d : Dc), j < q → G[j]? = some d → d.1 < k)) (fun i _ => n - (intOf i).toNat)
        case atStart => exact ⟨0, Nat.zero_le _, rfl, rfl, ⟨fun j d hj => absurd hj (by omega)⟩⟩
        case round =>
          obtain ⟨q, hq, rfl, hwr, hno⟩ := hrel
          obtain rfl : w1 = wr := hwr.symm
          clear hwr
          by_cases hlt : q < n
          · have dk : decide ((q : Int) < (n : Int)) = true := decide_eq_true (by omega)
            have dk' : decide (q < n) = true := decide_eq_true hlt
            obtain ⟨bd, od, dc, Bt, ct, rfl, hFd, hd, hck, _, _, _, _⟩ := HD.out.get hlt
            have i2 : (q : Int) < (n : Int) := by omega
            have hsb := HLT.out dc.1
            have hck2 : w1.cell? ⟨bd, od + q * 2, none⟩ = some (.string ⟨dc.1.toArray⟩) := hck
            obtain ⟨SD, hSD⟩ : ∃ S : ByteArray, (⟨dc.1.toArray⟩ : ByteArray) = S := ⟨_, rfl⟩
            rw [hSD] at hsb hck2
            have HDX := Bx.mk hd.out
            clear hSD hck hd hFd
            by_cases he : dc.1 < k
            · have hsb2 : Op.bytesLess SD.toList SK.toList = true := by rw [hsb]; exact decide_eq_true he
              have HNO : Bx (∀ (j : Nat) (d : Dc), j < q + 1 → G[j]? = some d → d.1 < k) := ⟨fun i d hi hdi => by
                rcases Nat.lt_or_ge i q with h | h
                · exact hno.out i d h hdi
                · obtain rfl : i = q := by omega
                  rw [HDX.out] at hdi
                  injection hdi with hdi
                  rw [← hdi]; exact he⟩
              clear hsb he hno HDX
              go_wp2_with fail
              go_roundw
              case rel => exact ⟨q + 1, by omega, by go_num, trivial, HNO⟩
              case measure => simp [intOf]; omega
            · have hsb2 : Op.bytesLess SD.toList SK.toList = false := by rw [hsb]; exact decide_eq_false he
              have HP : Bx (put (·.1) ds (k, xs) = G.take q ++ (k, xs) :: G.drop q) := ⟨by
                have e := put_del (fun x : Dc => x.1) ds (k, xs)
                rw [show del (fun x : Dc => x.1) ds k = G from HG.out] at e
                rw [← e]
                refine put_at HT1.out.ok.dr (fun p z hp hz => hno.out p z hp hz) (fun z hz => ?_)
                rw [HDX.out] at hz
                injection hz with hz
                rw [← hz]
                have hne := HNE.out dc (List.mem_of_getElem? HDX.out)
                rcases key_tri dc.1 k with h | h | h
                · exact absurd h he
                · exact absurd h hne
                · exact h⟩
              clear hsb he hno HDX
              go_wp2_with fail
              go_meet
              exact ⟨q, hq, rfl, rfl, HP⟩
          · obtain rfl : n = q := by omega
            have dk : decide ((n : Int) < (n : Int)) = false := decide_eq_false (by omega)
            have dk' : decide (n < n) = false := decide_eq_false (by omega)
            have HP : Bx (put (·.1) ds (k, xs) = G.take n ++ (k, xs) :: G.drop n) := ⟨by
              have e := put_del (fun x : Dc => x.1) ds (k, xs)
              rw [show del (fun x : Dc => x.1) ds k = G from HG.out] at e
              rw [← e]
              refine put_at HT1.out.ok.dr (fun p z hp hz => hno.out p z hp hz) (fun z hz => ?_)
              have := (List.getElem?_eq_some_iff.1 hz).1
              have := HN.out
              omega⟩
            clear hno
            go_wp2_with fail
            go_meet
            exact ⟨n, hq, rfl, rfl, HP⟩
      case rest =>
        obtain ⟨q, hq, rfl, hw, hPQ⟩ := hcut
        obtain rfl : w1 = wc := hw.symm
        clear hw
        obtain ⟨m, hm⟩ : ∃ m, n - q = m := ⟨_, rfl⟩
        obtain ⟨us, hR, hcell⟩ := open_anyM HD.out
        have HCE : Bx (∀ (gb go : Nat), B = some ⟨gb, go, none⟩ → ∀ w', Ch (fun _ => False) w1 w' → ∀ q u, us[q]? = some u → w'.cell? ⟨gb, go + q, none⟩ = some u) := ⟨fun gb go e w' hc q u hu => hc.cell (p := ⟨gb, go + q, none⟩) (fun h => h) (hcell gb go e q u hu)⟩
        have HRR := Bx.mk hR
        clear hR hcell
        have HTK : Bx ((us.take (q * 2)).length = q * 2 ∧ (us.drop (q * 2)).length = m * 2 ∧ (put (·.1) ds (k, xs)).length = q + 1 + m) := ⟨by
          have hl := HRR.out.1
          rw [HN.out] at hl
          rw [hPQ.out]
          refine ⟨by rw [List.length_take]; omega, by rw [List.length_drop]; omega, ?_⟩
          rw [List.length_append, List.length_cons, List.length_take, List.length_drop, HN.out]
          omega⟩
        have HCL : Bx ((∀ u ∈ us.take (q * 2), u.oneCell' = true) ∧ ∀ u ∈ us.drop (q * 2), u.oneCell' = true) := ⟨fun u hu => HRR.out.cells1 u (List.mem_of_mem_take hu), fun u hu => HRR.out.cells1 u (List.mem_of_mem_drop hu)⟩
        have HAP1 : Bx (∀ v5 w5, World.ownsRow w5 0 34 2 v5 (0 + q) ([] ++ us.take (q * 2)) → (w1.alloc (.cells #[] 34)).grownBy w5 (Value.slice (some ⟨w1.heap.size, 0, none⟩) 0 0).ownBlock → (v5.ownBlock = (Value.slice (some ⟨w1.heap.size, 0, none⟩) 0 0).ownBlock ∨ v5.ownBlock = some (w1.alloc (.cells #[] 34)).heap.size) →
            Gs 34 2 w1 w5 v5 q (us.take (q * 2))) := ⟨fun v5 w5 h1' h2' h3' => by
          have hG := (gs_k0 w1 34 2).app (m := q) (news := us.take (q * 2)) (Ch.refl _ _) h1' h2' h3'
          rwa [Nat.zero_add, List.nil_append] at hG⟩
        have HAP3 : Bx (∀ (FX : Nat → Prop) A6 c6 v7 w7 v8 w8, Gs 34 2 w1 w7 v7 (q + 1) (us.take (q * 2) ++ [.string SK, .slice A6 n0 c6]) → Sl w7 FX .u8 A6 n0 xs → (∀ x, FX x → w1.heap.size ≤ x ∧ x < w7.heap.size ∧ v7.ownBlock ≠ some x) → n0 ≤ c6 → c6 ≤ maxLen → World.ownsRow w8 0 34 2 v8 (q + 1 + m) ((us.take (q * 2) ++ [.string SK, .slice A6 n0 c6]) ++ us.drop (q * 2)) → w7.grownBy w8 v7.ownBlock → (v8.ownBlock = v7.ownBlock ∨ v8.ownBlock = some w7.heap.size) →
            TPost (put (·.1) ds (k, xs), del id gs k) b w F (w8.setCell ⟨b, 0, none⟩ v8) ∧ w8.cell? ⟨b, 0, none⟩ = some (.slice B n dcap) ∧ w8.frozen? ⟨b, 0, none⟩ = false) := ⟨fun FX A6 c6 v7 w7 v8 w8 hG hS hFX hc1 hc2 h1' h2' h3' => by
          have hG8 := hG.app (m := m) (news := us.drop (q * 2)) (Ch.refl _ _) h1' h2' h3'
          have hok2 := HH.out.ok.put (k := k) (t := xs) HBY.out
          rw [HV.out] at hok2
          have hcg : Ch (fun g => v7.ownBlock = some g) w7 w8 := (Ch.refl (fun g => v7.ownBlock = some g) w7).grown h2' (fun g hg => .inl hg)
          have hS8 : Sl w8 (And1 w1 w8 F1) .u8 A6 n0 xs := (hS.ch hcg (fun x hx _ e => (hFX x hx).2.2 e)).mono (fun x hx8 hx => .inr ⟨(hFX x hx).1, hx8⟩)
          have hone : DcR w8 (And1 w1 w8 F1) [.string SK, .slice A6 n0 c6] [(k, xs)] := by
            have e := DcR.one (w := w8) (F := And1 w1 w8 F1) (d := (k, xs)) (A := A6) (c := c6) (by show Sl w8 _ .u8 A6 xs.length xs; rw [HLEN.out]; exact hS8) (by show xs.length ≤ c6; rw [HLEN.out]; exact hc1) hc2
            have e2 : [kv (k, xs).1, .slice A6 (k, xs).2.length c6] = [Value.string SK, .slice A6 n0 c6] := by show [kv k, .slice A6 xs.length c6] = _; rw [HKV.out, HLEN.out]
            rwa [e2] at e
          have hR8 : DcR w8 (And1 w1 w8 F1) ((us.take (q * 2) ++ [.string SK, .slice A6 n0 c6]) ++ us.drop (q * 2)) (put (·.1) ds (k, xs)) := by
            have hb8 := HRR.out.ch hG8.ch (fun _ _ _ h => h)
            have hb9 : DcR w8 (And1 w1 w8 F1) us G := hb8.mono (fun _ _ hx => .inl hx)
            have e := ((hb9.take q (by rw [HN.out]; exact hq)).app hone).app (hb9.drop q (by rw [HN.out]; exact hq))
            rw [hPQ.out]
            rwa [List.append_assoc (G.take q)] at e
          have hP := HT1.out.setDocs hG8 hR8 hok2 (by rw [HTK.out.2.2]; omega)
          exact ⟨TPost.trans HF1.out HC1.out hP, hG8.ch.cell (p := ⟨b, 0, none⟩) (fun h => h) h2, tab_frozen HT1.out hG8.ch (fun h => h) 0⟩⟩
        have hC2 : Bx (∀ w', Ch (fun _ => False) w1 w' → w'.cell? ⟨b, 0, none⟩ = some (.slice B n dcap)) := ⟨fun w' hc => hc.cell (p := ⟨b, 0, none⟩) (fun h => h) h2⟩
        have hShp := HT1.out.shp 0 B n dcap (by omega) h2
        have j6 : (0 : Int) ≤ (q : Int) := by omega
        have j3 : (q : Int) ≤ (dcap : Int) := by omega
        have j2 : (q : Int) ≤ (n : Int) := by omega
        have HV0 : Bx (m = 0 → us.drop (q * 2) = []) := ⟨fun e => List.eq_nil_of_length_eq_zero (by have := HTK.out.2.1; omega)⟩
        rcases hShp with ⟨rfl, hd0⟩ | ⟨gb, go, rfl⟩
        · have HQ0 : Bx (q = 0) := ⟨by omega⟩
          have HM0 : Bx (m = 0) := ⟨by omega⟩
          have HD0 : Bx (dcap = 0) := ⟨hd0⟩
          have HDQ : Bx (dcap - q = 0) := ⟨by omega⟩
          have j5 : (n : Int) - (q : Int) = (m : Int) := by omega
          clear hd0
          have h2a := hC2.out _ ((Ch.refl (fun _ => False) w1).alloc (.cells #[] 34))
          go_wp2_with (at_builtin; refine wp_app0M rfl (.tmp 39) (.tmp 45) elemDm rfl rfl (own_k0 w1 _ 2) (m := q) (c := dcap) HQ0.out rfl HD0.out ?_)
          intro v5 w5 e5 e6
          have e5 := e5.out
          have e6 := e6.out
          have HG5 : Bx (Gs 34 2 w1 w5 v5 q (us.take (q * 2))) := ⟨by
            have hq0 := HQ0.out
            subst e5 e6 hq0
            simpa using gs_k0 w1 34 2⟩
          clear e5 e6
          obtain ⟨A5, c5, rfl, _, _⟩ := own_shape HG5.out.own
          have HZ5 := Bx.mk ((HZ1.out.ch (HG5.out.ch) (fun _ _ _ h => h)).ch ((Ch.refl (fun _ => False) w5).alloc (.cells #[] 5)) (fun _ _ _ h => h))
          go_wp2_with (at_builtin; refine wp_app rfl (.tmp 48) (.tmp 49) Tb rfl rfl (own_k0 w5 _ 1) rfl HZ5.out ?c1 ?c2 ?c3 ?_)
          try (case c1 => intro u hu; simp at hu; obtain ⟨z, _, rfl⟩ := hu; rfl)
          try (case c2 => omega)
          try (case c3 => omega)
          intro v6 w6 ho6 hg6 hb6
          have HG6 : Bx (Gs 5 1 w5 w6 v6 n0 (xs.map (Value.int .u8))) := ⟨by
            have e := (gs_k0 w5 5 1).app (m := n0) (news := xs.map (Value.int .u8)) (Ch.refl _ _) (by simpa using ho6) hg6 (by simpa using hb6)
            rwa [Nat.zero_add, List.nil_append] at e⟩
          obtain ⟨A6, c6, rfl, r61, r62⟩ := own_shape HG6.out.own
          have HR6 : Bx (n0 ≤ c6 ∧ c6 ≤ maxLen) := ⟨r61, r62⟩
          clear ho6 hg6 hb6 r61 r62
          have HG56 := Bx.mk (HG5.out.keep HG6.out.ch)
          go_wp2_with (at_builtin; refine wp_appK rfl (.tmp 46) (.tmp 52) elemDm rfl rfl (HG56.out.own.alloc _) rfl (m := 1) rfl (doc_cellsM _ _ _ _ _) (by intro u hu; simp at hu; rcases hu with rfl | rfl <;> rfl) (by omega) (by omega) ?_)
          intro v7 w7 ho7 hg7 hb7
          have HG7 : Bx (Gs 34 2 w1 w7 v7 (q + 1) (us.take (q * 2) ++ [.string SK, .slice A6 n0 c6])) := ⟨HG56.out.app (m := 1) ((Ch.refl _ _).alloc _) (by simpa using ho7) hg7 (by simpa using hb7)⟩
          have HS7 : Bx (Sl w7 (fun x => w5.heap.size ≤ x ∧ x < w6.heap.size) .u8 A6 n0 xs) := ⟨by
            have e : Sl w6 (fun x => w5.heap.size ≤ x ∧ x < w6.heap.size) .u8 A6 n0 xs := (show Sl w6 _ .u8 A6 n0 xs from Vs.of_own HG6.out.own).mono (fun x hx hg => ⟨HG6.out.lies x hg, hx⟩)
            have hcg := (((Ch.refl (fun g => (Value.slice A5 q c5).ownBlock = some g) w6).alloc (.cells #[.string SK, .slice A6 n0 c6] 34))).grown hg7 (fun g hg => .inl hg)
            exact e.ch hcg (fun x hx _ e2 => by have := own_lt HG5.out.own x e2; omega)⟩
          have HX7 : Bx (∀ x, (w5.heap.size ≤ x ∧ x < w6.heap.size) → w1.heap.size ≤ x ∧ x < w7.heap.size ∧ v7.ownBlock ≠ some x) := ⟨fun x hx => by
            have s1 := HG5.out.ch.size
            have hcg := (((Ch.refl (fun g => (Value.slice A5 q c5).ownBlock = some g) w6).alloc (.cells #[.string SK, .slice A6 n0 c6] 34))).grown hg7 (fun g hg => .inl hg)
            have s2 := hcg.size
            refine ⟨by omega, by omega, fun e2 => ?_⟩
            rcases hb7 with h | h
            · rw [h] at e2
              have := own_lt HG5.out.own x e2
              omega
            · rw [h] at e2
              injection e2 with e2
              try simp only [World.size_alloc] at e2
              omega⟩
          obtain ⟨A7, c7, rfl, _, _⟩ := own_shape HG7.out.own
          clear ho7 hg7 hb7
          have h27 := hC2.out _ HG7.out.ch
          go_wp2_with (at_builtin; refine wp_app0M rfl (.tmp 55) (.tmp 61) elemDm rfl rfl HG7.out.own (m := m) (c := dcap - q) HM0.out rfl HDQ.out ?_)
          intro v8 w8 e8 e9
          have e8 := e8.out
          have e9 := e9.out
          have HO8 : Bx (World.ownsRow w8 0 34 2 v8 (q + 1 + m) ((us.take (q * 2) ++ [.string SK, .slice A6 n0 c6]) ++ us.drop (q * 2))) := ⟨by
            subst e8 e9
            rw [HM0.out, HV0.out HM0.out, List.append_nil]
            exact HG7.out.own⟩
          have hg8 : w7.grownBy w8 (Value.slice A7 (q + 1) c7).ownBlock := by subst e9; exact ⟨rfl, rfl, rfl, Nat.le_refl _, fun _ _ _ => rfl⟩
          have hb8 : v8.ownBlock = (Value.slice A7 (q + 1) c7).ownBlock ∨ v8.ownBlock = some w7.heap.size := by subst e8; exact .inl rfl
          clear e8 e9
          obtain ⟨hP8, c18, z18⟩ := HAP3.out _ A6 c6 _ w7 v8 w8 HG7.out HS7.out HX7.out HR6.out.1 HR6.out.2 HO8.out hg8 hb8
          have HP8 := Bx.mk hP8
          obtain ⟨A8, c8, rfl, _, _⟩ := own_shape HO8.out
          clear hg8 hb8 hP8
          go_wp2
          go_ret
          exact ⟨rfl, HP8.out⟩
        · by_cases hcap : dcap = q
          · obtain rfl : n = q := by omega
            obtain rfl : n = dcap := by omega
            have hm0 : m = 0 := by omega
            subst hm0
            have HVN : Bx (us.drop (n * 2) = []) := ⟨HV0.out rfl⟩
            clear HV0
            have j5 : (n : Int) - (n : Int) = (0 : Int) := by omega
            have h2a := hC2.out _ ((Ch.refl (fun _ => False) w1).alloc (.cells #[] 34))
            go_wp2_with (at_builtin; refine wp_appK rfl (.tmp 39) (.tmp 45) elemDm rfl rfl (own_k0 w1 _ 2) rfl (m := n) HTK.out.1 (takem (HCE.out gb go rfl _ ((Ch.refl (fun _ => False) w1).alloc _))) HCL.out.1 (by omega) (by omega) ?_)
            intro v5 w5 ho5 hg5 hb5
            have HG5 := Bx.mk (HAP1.out v5 w5 (by simpa using ho5) hg5 (by simpa using hb5))
            clear ho5 hg5 hb5
            obtain ⟨A5, c5, rfl, _, _⟩ := own_shape HG5.out.own
            have HZ5 := Bx.mk ((HZ1.out.ch (HG5.out.ch) (fun _ _ _ h => h)).ch ((Ch.refl (fun _ => False) w5).alloc (.cells #[] 5)) (fun _ _ _ h => h))
            go_wp2_with (at_builtin; refine wp_app rfl (.tmp 48) (.tmp 49) Tb rfl rfl (own_k0 w5 _ 1) rfl HZ5.out ?c1 ?c2 ?c3 ?_)
            try (case c1 => intro u hu; simp at hu; obtain ⟨z, _, rfl⟩ := hu; rfl)
            try (case c2 => omega)
            try (case c3 => omega)
            intro v6 w6 ho6 hg6 hb6
            have HG6 : Bx (Gs 5 1 w5 w6 v6 n0 (xs.map (Value.int .u8))) := ⟨by
              have e := (gs_k0 w5 5 1).app (m := n0) (news := xs.map (Value.int .u8)) (Ch.refl _ _) (by simpa using ho6) hg6 (by simpa using hb6)
              rwa [Nat.zero_add, List.nil_append] at e⟩
            obtain ⟨A6, c6, rfl, r61, r62⟩ := own_shape HG6.out.own
            have HR6 : Bx (n0 ≤ c6 ∧ c6 ≤ maxLen) := ⟨r61, r62⟩
            clear ho6 hg6 hb6 r61 r62
            have HG56 := Bx.mk (HG5.out.keep HG6.out.ch)
            go_wp2_with (at_builtin; refine wp_appK rfl (.tmp 46) (.tmp 52) elemDm rfl rfl (HG56.out.own.alloc _) rfl (m := 1) rfl (doc_cellsM _ _ _ _ _) (by intro u hu; simp at hu; rcases hu with rfl | rfl <;> rfl) (by omega) (by omega) ?_)
            intro v7 w7 ho7 hg7 hb7
            have HG7 : Bx (Gs 34 2 w1 w7 v7 (n + 1) (us.take (n * 2) ++ [.string SK, .slice A6 n0 c6])) := ⟨HG56.out.app (m := 1) ((Ch.refl _ _).alloc _) (by simpa using ho7) hg7 (by simpa using hb7)⟩
            have HS7 : Bx (Sl w7 (fun x => w5.heap.size ≤ x ∧ x < w6.heap.size) .u8 A6 n0 xs) := ⟨by
              have e : Sl w6 (fun x => w5.heap.size ≤ x ∧ x < w6.heap.size) .u8 A6 n0 xs := (show Sl w6 _ .u8 A6 n0 xs from Vs.of_own HG6.out.own).mono (fun x hx hg => ⟨HG6.out.lies x hg, hx⟩)
              have hcg := (((Ch.refl (fun g => (Value.slice A5 n c5).ownBlock = some g) w6).alloc (.cells #[.string SK, .slice A6 n0 c6] 34))).grown hg7 (fun g hg => .inl hg)
              exact e.ch hcg (fun x hx _ e2 => by have := own_lt HG5.out.own x e2; omega)⟩
            have HX7 : Bx (∀ x, (w5.heap.size ≤ x ∧ x < w6.heap.size) → w1.heap.size ≤ x ∧ x < w7.heap.size ∧ v7.ownBlock ≠ some x) := ⟨fun x hx => by
              have s1 := HG5.out.ch.size
              have hcg := (((Ch.refl (fun g => (Value.slice A5 n c5).ownBlock = some g) w6).alloc (.cells #[.string SK, .slice A6 n0 c6] 34))).grown hg7 (fun g hg => .inl hg)
              have s2 := hcg.size
              refine ⟨by omega, by omega, fun e2 => ?_⟩
              rcases hb7 with h | h
              · rw [h] at e2
                have := own_lt HG5.out.own x e2
                omega
              · rw [h] at e2
                injection e2 with e2
                try simp only [World.size_alloc] at e2
                omega⟩
            obtain ⟨A7, c7, rfl, _, _⟩ := own_shape HG7.out.own
            clear ho7 hg7 hb7
            have h27 := hC2.out _ HG7.out.ch
            go_wp2_with (at_builtin; refine wp_appK rfl (.tmp 55) (.tmp 61) elemDm rfl rfl HG7.out.own rfl (m := 0) HTK.out.2.1 (nilm HVN.out) HCL.out.2 (by omega) (by omega) ?_)
            intro v8 w8 ho8 hg8 hb8
            have HO8 : Bx (World.ownsRow w8 0 34 2 v8 (n + 1 + 0) ((us.take (n * 2) ++ [.string SK, .slice A6 n0 c6]) ++ us.drop (n * 2))) := ⟨by simpa using ho8⟩
            clear ho8
            obtain ⟨hP8, c18, z18⟩ := HAP3.out _ A6 c6 _ w7 v8 w8 HG7.out HS7.out HX7.out HR6.out.1 HR6.out.2 HO8.out hg8 hb8
            have HP8 := Bx.mk hP8
            obtain ⟨A8, c8, rfl, _, _⟩ := own_shape HO8.out
            clear hg8 hb8 hP8
            go_wp2
            go_ret
            exact ⟨rfl, HP8.out⟩
          · have j4 : ¬ (dcap : Int) = (q : Int) := by omega
            have j5 : (n : Int) - (q : Int) = (m : Int) := by omega
            have h2a := hC2.out _ ((Ch.refl (fun _ => False) w1).alloc (.cells #[] 34))
            go_wp2_with (at_builtin; refine wp_appK rfl (.tmp 39) (.tmp 45) elemDm rfl rfl (own_k0 w1 _ 2) rfl (m := q) HTK.out.1 (takem (HCE.out gb go rfl _ ((Ch.refl (fun _ => False) w1).alloc _))) HCL.out.1 (by omega) (by omega) ?_)
            intro v5 w5 ho5 hg5 hb5
            have HG5 := Bx.mk (HAP1.out v5 w5 (by simpa using ho5) hg5 (by simpa using hb5))
            clear ho5 hg5 hb5
            obtain ⟨A5, c5, rfl, _, _⟩ := own_shape HG5.out.own
            have HZ5 := Bx.mk ((HZ1.out.ch (HG5.out.ch) (fun _ _ _ h => h)).ch ((Ch.refl (fun _ => False) w5).alloc (.cells #[] 5)) (fun _ _ _ h => h))
            go_wp2_with (at_builtin; refine wp_app rfl (.tmp 48) (.tmp 49) Tb rfl rfl (own_k0 w5 _ 1) rfl HZ5.out ?c1 ?c2 ?c3 ?_)
            try (case c1 => intro u hu; simp at hu; obtain ⟨z, _, rfl⟩ := hu; rfl)
            try (case c2 => omega)
            try (case c3 => omega)
            intro v6 w6 ho6 hg6 hb6
            have HG6 : Bx (Gs 5 1 w5 w6 v6 n0 (xs.map (Value.int .u8))) := ⟨by
              have e := (gs_k0 w5 5 1).app (m := n0) (news := xs.map (Value.int .u8)) (Ch.refl _ _) (by simpa using ho6) hg6 (by simpa using hb6)
              rwa [Nat.zero_add, List.nil_append] at e⟩
            obtain ⟨A6, c6, rfl, r61, r62⟩ := own_shape HG6.out.own
            have HR6 : Bx (n0 ≤ c6 ∧ c6 ≤ maxLen) := ⟨r61, r62⟩
            clear ho6 hg6 hb6 r61 r62
            have HG56 := Bx.mk (HG5.out.keep HG6.out.ch)
            go_wp2_with (at_builtin; refine wp_appK rfl (.tmp 46) (.tmp 52) elemDm rfl rfl (HG56.out.own.alloc _) rfl (m := 1) rfl (doc_cellsM _ _ _ _ _) (by intro u hu; simp at hu; rcases hu with rfl | rfl <;> rfl) (by omega) (by omega) ?_)
            intro v7 w7 ho7 hg7 hb7
            have HG7 : Bx (Gs 34 2 w1 w7 v7 (q + 1) (us.take (q * 2) ++ [.string SK, .slice A6 n0 c6])) := ⟨HG56.out.app (m := 1) ((Ch.refl _ _).alloc _) (by simpa using ho7) hg7 (by simpa using hb7)⟩
            have HS7 : Bx (Sl w7 (fun x => w5.heap.size ≤ x ∧ x < w6.heap.size) .u8 A6 n0 xs) := ⟨by
              have e : Sl w6 (fun x => w5.heap.size ≤ x ∧ x < w6.heap.size) .u8 A6 n0 xs := (show Sl w6 _ .u8 A6 n0 xs from Vs.of_own HG6.out.own).mono (fun x hx hg => ⟨HG6.out.lies x hg, hx⟩)
              have hcg := (((Ch.refl (fun g => (Value.slice A5 q c5).ownBlock = some g) w6).alloc (.cells #[.string SK, .slice A6 n0 c6] 34))).grown hg7 (fun g hg => .inl hg)
              exact e.ch hcg (fun x hx _ e2 => by have := own_lt HG5.out.own x e2; omega)⟩
            have HX7 : Bx (∀ x, (w5.heap.size ≤ x ∧ x < w6.heap.size) → w1.heap.size ≤ x ∧ x < w7.heap.size ∧ v7.ownBlock ≠ some x) := ⟨fun x hx => by
              have s1 := HG5.out.ch.size
              have hcg := (((Ch.refl (fun g => (Value.slice A5 q c5).ownBlock = some g) w6).alloc (.cells #[.string SK, .slice A6 n0 c6] 34))).grown hg7 (fun g hg => .inl hg)
              have s2 := hcg.size
              refine ⟨by omega, by omega, fun e2 => ?_⟩
              rcases hb7 with h | h
              · rw [h] at e2
                have := own_lt HG5.out.own x e2
                omega
              · rw [h] at e2
                injection e2 with e2
                try simp only [World.size_alloc] at e2
                omega⟩
            obtain ⟨A7, c7, rfl, _, _⟩ := own_shape HG7.out.own
            clear ho7 hg7 hb7
            have h27 := hC2.out _ HG7.out.ch
            go_wp2_with (at_builtin; refine wp_appK rfl (.tmp 55) (.tmp 61) elemDm rfl rfl HG7.out.own rfl (m := m) HTK.out.2.1 (dropm (HCE.out gb go rfl _ HG7.out.ch)) HCL.out.2 (by omega) (by omega) ?_)
            intro v8 w8 ho8 hg8 hb8
            have HO8 : Bx (World.ownsRow w8 0 34 2 v8 (q + 1 + m) ((us.take (q * 2) ++ [.string SK, .slice A6 n0 c6]) ++ us.drop (q * 2))) := ⟨by simpa using ho8⟩
            clear ho8
            obtain ⟨hP8, c18, z18⟩ := HAP3.out _ A6 c6 _ w7 v8 w8 HG7.out HS7.out HX7.out HR6.out.1 HR6.out.2 HO8.out hg8 hb8
            have HP8 := Bx.mk hP8
            obtain ⟨A8, c8, rfl, _, _⟩ := own_shape HO8.out
            clear hg8 hb8 hP8
            go_wp2
            go_ret
            exact ⟨rfl, HP8.out⟩
  · have hv : tPut (ds, gs) k xs = (1, (ds, gs)) := if_pos hok
    have HV := Bx.mk hv
    rw [HV.out]
    have HK2 := Bx.mk (HKEY.out w false (decide_eq_false hok))
    clear hv hok
    go_enter Try.func8, Try.ntmps8
    go_wp2_with fail
    refine HK2.out.mono ?_
    rintro e w' ⟨rfl, rfl⟩
    go_wp2
    go_ret
    exact ⟨rfl, TPost.refl HH.out⟩
end
end Go.Proofs.Ytpilekadcondnaa
