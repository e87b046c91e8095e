/-
  Contract of the program's table: Find.
  Conditions: the table is one; the pattern reads as bytes.
-/
import Derived.Test.YtpilekadcondnaaMtPlaces
import Derived.Test.YtpilekadcondnaaSgFind
namespace Go.Proofs.Ytpilekadcondnaa
open Go.RowKit Go.Oct Go.Su Go.Sg Go.Mt Go.Maps

section
variable {w w1 w2 w' W W' : World} {P S F G FA : Nat → Prop} {t : Nat} {gs : List Key} {ds : List Dc} {k : Key}
/-- What the map tells of a document's key, and where its text lies. -/
theorem TabP.doc (h : TabP w P t ds gs) {d : Dc} (hd : d ∈ ds) : ∃ mb f A c, w.cell? ⟨t, 0, none⟩ = some (.map mb) ∧ (Instr.lookup 64 (.map mb) (kv d.1) false).run Try.prog w = .ok (.agg #[.bool f, .slice A d.2.length c]) w ∧ Sl w (fun _ => True) .u8 A d.2.length d.2 ∧ d.2.length ≤ c ∧ c ≤ maxLen ∧ Shp A c := by
  obtain ⟨mb, ks, vf, c0, he⟩ := h.row
  obtain ⟨A, n, c, xs, e1, hs, _, h2, h3, h4, h5⟩ := he.tell h.ok d.1
  obtain rfl := h5 d hd rfl
  obtain rfl := hs.len
  have hkl : d.1.length ≤ maxLen := by
    have := (h.ok.dk d hd).2
    unfold maxLen
    omega
  have hl := he.look hkl
  rw [e1] at hl
  exact ⟨mb, isDoc ds d.1, A, c, c0, hl, hs.mono (fun _ _ _ => trivial), h2, h3, h4⟩
set_option maxHeartbeats 2000000 in
set_option maxRecDepth 100000 in
theorem mfind_any (h : TabP w P t ds gs) (p : List Int) (B : Option Addr) (m d : Nat) (hp : Sl w G .u8 B m p) (hbp : ∀ x ∈ p, 0 ≤ x ∧ x < 256) (hN : beg (ts ds) ds.length ≤ 1048576) (hm : m ≤ 9223372036854775807) :
    Calls Try.prog 16 #[.pointer (some ⟨t, 0, none⟩), .slice B m d] w (FindsOf (finds ds p) w) := by
  have H := Bx.mk h
  have HP := Bx.mk hp
  have HBP := Bx.mk hbp
  have hft := fate_text
  obtain ⟨n, hnl⟩ : ∃ n, ds.length = n := ⟨_, rfl⟩
  have HL := Bx.mk hnl
  have hn : n ≤ 1000000 := by have := h.few; omega
  have HLN : Bx (∀ k, k ≤ n → (finds (ds.take k) p).length ≤ 1048576) := ⟨fun k hk => by
    have h1 := finds_le p (ds.take k)
    have h2 : beg (ts (ds.take k)) (ds.take k).length = beg (ts ds) k := by
      unfold beg
      have e : (ds.take k).length = k := by rw [List.length_take, HL.out]; omega
      rw [e]
      simp [ts, List.map_take, List.take_take]
    rw [h2] at h1
    have := beg_mono (ts ds) hk (by rw [ts_len, HL.out]; exact Nat.le_refl _)
    rw [hnl] at hN
    omega⟩
  have HK := Bx.mk (mkeys_any h true)
  clear h hp hbp hN hnl
  go_enter Try.func16, Try.ntmps16
  go_wp2_with fail
  refine HK.out.mono ?_
  rintro e w1 ⟨A1, n1, c1, rfl, hg, hnc1, hcm1⟩
  have hn1 : n1 = n := by
    have h1 := hg.own.1
    have h2 := HL.out
    simp [keysOf] at h1
    omega
  subst hn1
  have HKS : Bx (Kss w1 (fun _ => True) A1 n1 (ds.map (·.1))) := ⟨Vs.mono (Vs.of_own hg.own) (fun _ _ _ => trivial)⟩
  have HC1 := Bx.mk hg.ch
  have HT1 := Bx.mk (H.out.keep hg.ch)
  have hc163 : c1 ≤ 9223372036854775807 := by unfold maxLen at hcm1; omega
  clear HK hg hcm1
  go_wp2_with fail
  go_loopw [5, 13] (fun v i wr => ∃ k q : Nat, k ≤ n1 ∧ i = .int .i64 k ∧ Bx ((finds (ds.take k) p).length = q) ∧ Gs 61 2 w1 wr v q (valM (finds (ds.take k) p))) (fun _ i _ => n1 - (intOf i).toNat)
  case atStart => exact ⟨0, 0, Nat.zero_le _, rfl, ⟨rfl⟩, Gs.nil _ _ _⟩
  case round =>
    obtain ⟨k, q, hk, rfl, hq, hG⟩ := hrel
    by_cases hlt : k < n1
    · have dk : decide ((k : Int) < (n1 : Int)) = true := decide_eq_true (by omega)
      obtain ⟨bk, ok, key, rfl, _, hkey, hck0⟩ := (HKS.out.ch hG.ch (fun _ _ _ h => h)).at_ hlt
      obtain ⟨dc, ex, rfl⟩ : ∃ dc, Hid (ds[k]? = some dc) ∧ dc.1 = key := by
        have := hkey.out
        rw [List.getElem?_map] at this
        cases hx : ds[k]? with
        | none => rw [hx] at this; cases this
        | some x => rw [hx] at this; injection this with this; exact ⟨x, rfl, this⟩
      have hdm := List.mem_of_getElem? ex.out
      obtain ⟨mb, f, A', c', ct0, hlk, hsl, hlc, hcm, hsh⟩ := (HT1.out.keep hG.ch).doc hdm
      have hpr := (HP.out.ch HC1.out (fun _ _ _ h => h)).ch hG.ch (fun _ _ _ h => h)
      have hat := mplaces_any dc.2 p A' B dc.2.length c' m d wr hsl hsh hlc hcm hpr (H.out.ok.byte dc hdm) HBP.out (H.out.ok.len dc hdm) hm (HT1.out.keep hG.ch).mx
      have HAT := Bx.mk hat
      have HG := Bx.mk hG
      have hq2 : q + (ats dc.2 p).length ≤ 1048576 := by
        have h1 := HLN.out (k + 1) (by omega)
        rw [finds_take ex.out, List.length_append, List.length_map, hq.out] at h1
        omega
      have HALL := Bx.mk (matTo_all (p := p) ex.out)
      have HQN : Bx ((finds (ds.take (k + 1)) p).length = q + (ats dc.2 p).length) := ⟨by rw [finds_take ex.out, List.length_append, List.length_map, hq.out]⟩
      have i2 : (k : Int) < (n1 : Int) := by omega
      obtain ⟨l, hl⟩ : ∃ l, ats dc.2 p = l := ⟨_, rfl⟩
      rw [hl] at hq2 HAT HALL HQN
      obtain ⟨tl, htl⟩ : ∃ tl, dc.2.length = tl := ⟨_, rfl⟩
      rw [htl] at HAT hlk
      obtain ⟨SD, hSD⟩ : ∃ S : ByteArray, kv dc.1 = .string S := ⟨_, rfl⟩
      have HSD := Bx.mk hSD
      rw [hSD] at hck0 hlk
      clear hG hsl hat hl ex hdm htl hSD hcm hlc hsh hpr hkey
      go_wp2_with fail
      refine HAT.out.mono ?_
      rintro e w2 ⟨v1, rfl, hG1⟩
      obtain ⟨A1, c2, rfl, _, hc1m⟩ := hG1.shape
      have htwo := two_start HG.out hG1 (own_lt HG.out.own)
      have hl1 : l.length ≤ 1048576 := by omega
      obtain ⟨ll, hll⟩ : ∃ ll, l.length = ll := ⟨_, rfl⟩
      rw [hll] at htwo hq2 hl1 HALL HQN
      rw [hll]
      rw [← matTo_zero ds p k dc.1 l] at htwo
      have HTW := Bx.mk htwo
      have hc2m : c2 ≤ 9223372036854775807 := by unfold maxLen at hc1m; omega
      clear hG1 HAT hll htwo hlk hck0 ct0 hc1m
      go_wp2_with fail
      go_loopw [5, 27] (fun v i wx => ∃ j : Nat, j ≤ ll ∧ i = .int .i64 j ∧ Two 61 2 w1 wx v (q + j) (valM (matTo ds p k dc.1 l j)) (.slice A1 ll c2) A1 ll (valN l)) (fun _ i _ => ll - (intOf i).toNat)
      case atStart => exact ⟨0, Nat.zero_le _, rfl, HTW.out⟩
      case round =>
        obtain ⟨j, hj, rfl, hT⟩ := hrel
        have HT := Bx.mk hT
        by_cases hjl : j < ll
        · have dj : decide ((j : Int) < (ll : Int)) = true := decide_eq_true (by omega)
          obtain ⟨b2, o2, u, rfl, _, hu, hcu⟩ := hT.vs.at_ hjl
          obtain ⟨a, ha, rfl⟩ := valN_at hu.out
          have HNX := Bx.mk (matTo_next (ds := ds) (p := p) (k := k) (key := dc.1) ha)
          obtain ⟨A3, c3, rfl, _, _⟩ := hT.gs.shape
          have i4 : (j : Int) < (ll : Int) := by omega
          have HOW := Bx.mk hT.gs.own
          clear hT hu ha
          have HAP : Bx (∀ v5 w5, w5.ownsRow 0 61 2 v5 (q + j + 1) (valM (matTo ds p k dc.1 l j) ++ [Value.string SD, Value.int .i64 (a : Int)]) → (wr.alloc (.cells #[.string SD, .int .i64 a] 61)).grownBy w5 (Value.slice A3 (q + j) c3).ownBlock → (v5.ownBlock = (Value.slice A3 (q + j) c3).ownBlock ∨ v5.ownBlock = some (wr.alloc (.cells #[.string SD, .int .i64 a] 61)).heap.size) → Two 61 2 w1 w5 v5 (q + j + 1) (valM (matTo ds p k dc.1 l (j + 1))) (.slice (some ⟨b2, o2, none⟩) ll c2) (some ⟨b2, o2, none⟩) ll (valN l)) := ⟨fun v5 w5 ho1 hg1 hb1 => by
            have h := HT.out.app ((Ch.refl (fun _ => False) wr).alloc (.cells #[.string SD, .int .i64 a] 61)) ho1 hg1 hb1
            rw [← HNX.out, valM_app]
            show Two _ _ _ _ _ _ (_ ++ [kv dc.1, Value.int .i64 (a : Int)]) _ _ _ _
            rw [HSD.out]
            exact h⟩
          go_wp2_with (at_builtin; refine wp_appK rfl (.tmp 31) (.tmp 35) elemM rfl rfl (HOW.out.alloc _) rfl (m := 1) rfl (mat_cells wr SD a) (by intro u hu; simp at hu; rcases hu with hu | hu <;> (subst hu; rfl)) (by omega) (by omega) ?_)
          intro v5 w5 ho1 hg1 hb1
          have HT5 := Bx.mk (HAP.out v5 w5 ho1 hg1 (by rw [World.size_alloc]; exact hb1))
          clear ho1 hg1 hb1
          go_wp2
          go_roundw
          case rel => exact ⟨j + 1, by omega, by go_num, HT5.out⟩
          case measure => simp [intOf]; omega
        · have hjl2 : j = ll := by omega
          have dj : decide ((j : Int) < (ll : Int)) = false := decide_eq_false (by omega)
          have HFN : Bx (Gs 61 2 w1 wr u5 (q + ll) (valM (finds (ds.take (k + 1)) p))) := ⟨by
            have := hT.gs
            rw [hjl2, HALL.out] at this
            exact this⟩
          clear hT hjl2
          go_wp2
          go_roundw
          case rel => exact ⟨k + 1, q + ll, by omega, by go_num, HQN, HFN.out⟩
          case measure => simp [intOf]; omega
    · have hkn : n1 = k := by omega
      have dk : decide ((k : Int) < (n1 : Int)) = false := decide_eq_false (by omega)
      obtain ⟨A3, c3, rfl, e1, e2⟩ := hG.shape
      have hall : ds.take k = ds := List.take_of_length_le (by have := HL.out; omega)
      rw [hall] at hG hq
      have HF : Bx (Mts wr (fun b => w.heap.size ≤ b) A3 q (finds ds p)) := ⟨(hG.mts hq.out).mono (by omega) (fun b _ hb => Nat.le_trans HC1.out.size hb) (fun _ _ _ h => h)⟩
      have HCH : Bx (Ch (fun _ => False) w wr) := ⟨HC1.out.trans hG.ch (fun _ _ h => h)⟩
      clear hG hkn hall
      go_wp2
      go_ret
      exact ⟨A3, q, c3, rfl, HF.out, e1, e2, HCH.out⟩
end
end Go.Proofs.Ytpilekadcondnaa
