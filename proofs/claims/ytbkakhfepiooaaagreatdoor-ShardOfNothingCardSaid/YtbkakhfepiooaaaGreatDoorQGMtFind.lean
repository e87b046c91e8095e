/- Lemmas and contracts of this proof. Conditions: said at each. -/
import Derived.Test.YtbkakhfepiooaaaGreatDoorQGMtKeys
import Derived.Test.YtbkakhfepiooaaaGreatDoorQGSgFind
namespace Go.Proofs.YtbkakhfepiooaaaGreatDoor.M
section
open Go.RowKit Go.Oct Go.Su Go.Sg Go.Mt Go.Maps
section
variable {w w1 w2 w' W W' : World} {P S F G FA : Nat → Prop} {t : Nat} {gs : List Key} {ds : List Dc} {k : Key}
/-- What the map tells of a document's key, and where its text lies. -/
theorem TabP.doc (h : TabP w P t ds gs) {d : Dc} (hd : d ∈ ds) : ∃ mb f A c, w.cell? ⟨t, 0, none⟩ = some (.map mb) ∧ (Instr.lookup 125 (.map mb) (kv d.1) false).run Tryz.prog w = .ok (.agg #[.bool f, .slice A d.2.length c]) w ∧ Sl w (fun _ => True) .u8 A d.2.length d.2 ∧ d.2.length ≤ c ∧ c ≤ maxLen ∧ Shp A c := by
  obtain ⟨mb, ks, vf, c0, he⟩ := h.row
  obtain ⟨A, n, c, xs, e1, hs, _, h2, h3, h4, h5⟩ := he.tell h.ok d.1
  obtain rfl := h5 d hd rfl
  obtain rfl := hs.len
  have hkl : d.1.length ≤ maxLen := by
    have := (h.ok.dk d hd).2
    unfold maxLen
    omega
  have hl := he.look hkl
  rw [e1] at hl
  exact ⟨mb, isDoc ds d.1, A, c, c0, hl, hs.mono (fun _ _ _ => trivial), h2, h3, h4⟩
set_option maxHeartbeats 2000000 in
set_option maxRecDepth 100000 in
theorem mfind_any (h : TabP w P t ds gs) (p : List Int) (B : Option Addr) (m d : Nat) (hp : Sl w G .u8 B m p) (hbp : ∀ x ∈ p, 0 ≤ x ∧ x < 256) (hN : beg (ts ds) ds.length ≤ 1048576) (hm : m ≤ 9223372036854775807) :
    Calls Tryz.prog 423 #[.pointer (some ⟨t, 0, none⟩), .slice B m d] w (FindsOf (finds ds p) w) := by
  have H := Bx.mk h
  have HP := Bx.mk hp
  have HBP := Bx.mk hbp
  have hft := fate_text
  obtain ⟨n, hnl⟩ : ∃ n, ds.length = n := ⟨_, rfl⟩
  have HL := Bx.mk hnl
  have hn : n ≤ 1000000 := by have := h.few; omega
  have HLN : Bx (∀ k, k ≤ n → (finds (ds.take k) p).length ≤ 1048576) := ⟨fun k hk => by
    have h1 := finds_le p (ds.take k)
    have h2 : beg (ts (ds.take k)) (ds.take k).length = beg (ts ds) k := by
      unfold beg
      have e : (ds.take k).length = k := by rw [List.length_take, HL.out]; omega
      rw [e]
      simp [ts, List.map_take, List.take_take]
    rw [h2] at h1
    have := beg_mono (ts ds) hk (by rw [ts_len, HL.out]; exact Nat.le_refl _)
    rw [hnl] at hN
    omega⟩
  have HK := Bx.mk (mkeys_any h true)
  clear h hp hbp hN hnl
  go_enter Tryz.func423, Tryz.ntmps423
  go_wp2_with fail
  refine HK.out.mono ?_
  rintro e w1 ⟨A1, n1, c1, rfl, hg, hnc1, hcm1⟩
  have hn1 : n1 = n := by
    have h1 := hg.own.1
    have h2 := HL.out
    simp [keysOf] at h1
    omega
  subst hn1
  have HKS : Bx (Kss w1 (fun _ => True) A1 n1 (ds.map (·.1))) := ⟨Vs.mono (Vs.of_own hg.own) (fun _ _ _ => trivial)⟩
  have HC1 := Bx.mk hg.ch
  have HT1 := Bx.mk (H.out.keep hg.ch)
  have hc163 : c1 ≤ 9223372036854775807 := by unfold maxLen at hcm1; omega
  clear HK hg hcm1
  go_wp2_with fail
  go_loopw [5, 13] (fun v i wr => ∃ k q : Nat, k ≤ n1 ∧ i = .int .i64 k ∧ Bx ((finds (ds.take k) p).length = q) ∧ Gs 73 2 w1 wr v q (valM (finds (ds.take k) p))) (fun _ i _ => n1 - (intOf i).toNat)
  case atStart => exact ⟨0, 0, Nat.zero_le _, rfl, ⟨rfl⟩, Gs.nil _ _ _⟩
  case round =>
    obtain ⟨k, q, hk, rfl, hq, hG⟩ := hrel
    by_cases hlt : k < n1
    · have dk : decide ((k : Int) < (n1 : Int)) = true := decide_eq_true (by omega)
      obtain ⟨bk, ok, key, rfl, _, hkey, hck0⟩ := (HKS.out.ch hG.ch (fun _ _ _ h => h)).at_ hlt
      obtain ⟨dc, ex, rfl⟩ : ∃ dc, Hid (ds[k]? = some dc) ∧ dc.1 = key := by
        have := hkey.out
        rw [List.getElem?_map] at this
        cases hx : ds[k]? with
        | none => rw [hx] at this; cases this
        | some x => rw [hx] at this; injection this with this; exact ⟨x, rfl, this⟩
      have hdm := List.mem_of_getElem? ex.out
      obtain ⟨mb, f, A', c', ct0, hlk, hsl, hlc, hcm, hsh⟩ := (HT1.out.keep hG.ch).doc hdm
      have hpr := (HP.out.ch HC1.out (fun _ _ _ h => h)).ch hG.ch (fun _ _ _ h => h)
      have hat := mplaces_any dc.2 p A' B dc.2.length c' m d wr hsl hsh hlc hcm hpr (H.out.ok.byte dc hdm) HBP.out (H.out.ok.len dc hdm) hm (HT1.out.keep hG.ch).mx
      have HAT := Bx.mk hat
      have HG := Bx.mk hG
      have hq2 : q + (ats dc.2 p).length ≤ 1048576 := by
        have h1 := HLN.out (k + 1) (by omega)
        rw [finds_take ex.out, List.length_append, List.length_map, hq.out] at h1
        omega
      have HALL := Bx.mk (matTo_all (p := p) ex.out)
      have HQN : Bx ((finds (ds.take (k + 1)) p).length = q + (ats dc.2 p).length) := ⟨by rw [finds_take ex.out, List.length_append, List.length_map, hq.out]⟩
      have i2 : (k : Int) < (n1 : Int) := by omega
      obtain ⟨l, hl⟩ : ∃ l, ats dc.2 p = l := ⟨_, rfl⟩
      rw [hl] at hq2 HAT HALL HQN
      obtain ⟨tl, htl⟩ : ∃ tl, dc.2.length = tl := ⟨_, rfl⟩
      rw [htl] at HAT hlk
      obtain ⟨SD, hSD⟩ : ∃ S : ByteArray, kv dc.1 = .string S := ⟨_, rfl⟩
      have HSD := Bx.mk hSD
      rw [hSD] at hck0 hlk
      clear hG hsl hat hl ex hdm htl hSD hcm hlc hsh hpr hkey
      go_wp2_with fail
      refine HAT.out.mono ?_
      rintro e w2 ⟨v1, rfl, hG1⟩
      obtain ⟨A1, c2, rfl, _, hc1m⟩ := hG1.shape
      have htwo := two_start HG.out hG1 (own_lt HG.out.own)
      have hl1 : l.length ≤ 1048576 := by omega
      obtain ⟨ll, hll⟩ : ∃ ll, l.length = ll := ⟨_, rfl⟩
      rw [hll] at htwo hq2 hl1 HALL HQN
      rw [hll]
      rw [← matTo_zero ds p k dc.1 l] at htwo
      have HTW := Bx.mk htwo
      have hc2m : c2 ≤ 9223372036854775807 := by unfold maxLen at hc1m; omega
      clear hG1 HAT hll htwo hlk hck0 ct0 hc1m
      go_wp2_with fail
      go_loopw [5, 27] (fun v i wx => ∃ j : Nat, j ≤ ll ∧ i = .int .i64 j ∧ Two 73 2 w1 wx v (q + j) (valM (matTo ds p k dc.1 l j)) (.slice A1 ll c2) A1 ll (valN l)) (fun _ i _ => ll - (intOf i).toNat)
      case atStart => exact ⟨0, Nat.zero_le _, rfl, HTW.out⟩
      case round =>
        obtain ⟨j, hj, rfl, hT⟩ := hrel
        have HT := Bx.mk hT
        by_cases hjl : j < ll
        · have dj : decide ((j : Int) < (ll : Int)) = true := decide_eq_true (by omega)
          obtain ⟨b2, o2, u, rfl, _, hu, hcu⟩ := hT.vs.at_ hjl
          obtain ⟨a, ha, rfl⟩ := valN_at hu.out
          have HNX := Bx.mk (matTo_next (ds := ds) (p := p) (k := k) (key := dc.1) ha)
          obtain ⟨A3, c3, rfl, _, _⟩ := hT.gs.shape
          have i4 : (j : Int) < (ll : Int) := by omega
          have HOW := Bx.mk hT.gs.own
          clear hT hu ha
          have HAP : Bx (∀ v5 w5, w5.ownsRow 0 73 2 v5 (q + j + 1) (valM (matTo ds p k dc.1 l j) ++ [Value.string SD, Value.int .i64 (a : Int)]) → (wr.alloc (.cells #[.string SD, .int .i64 a] 73)).grownBy w5 (Value.slice A3 (q + j) c3).ownBlock → (v5.ownBlock = (Value.slice A3 (q + j) c3).ownBlock ∨ v5.ownBlock = some (wr.alloc (.cells #[.string SD, .int .i64 a] 73)).heap.size) → Two 73 2 w1 w5 v5 (q + j + 1) (valM (matTo ds p k dc.1 l (j + 1))) (.slice (some ⟨b2, o2, none⟩) ll c2) (some ⟨b2, o2, none⟩) ll (valN l)) := ⟨fun v5 w5 ho1 hg1 hb1 => by
            have h := HT.out.app ((Ch.refl (fun _ => False) wr).alloc (.cells #[.string SD, .int .i64 a] 73)) ho1 hg1 hb1
            rw [← HNX.out, valM_app]
            show Two _ _ _ _ _ _ (_ ++ [kv dc.1, Value.int .i64 (a : Int)]) _ _ _ _
            rw [HSD.out]
            exact h⟩
          go_wp2_with (at_builtin; refine wp_appK rfl (.tmp 31) (.tmp 35) elemM rfl rfl (HOW.out.alloc _) rfl (m := 1) rfl (mat_cells wr SD a) (by intro u hu; simp at hu; rcases hu with hu | hu <;> (subst hu; rfl)) (by omega) (by omega) ?_)
          intro v5 w5 ho1 hg1 hb1
          have HT5 := Bx.mk (HAP.out v5 w5 ho1 hg1 (by rw [World.size_alloc]; exact hb1))
          clear ho1 hg1 hb1
          go_wp2
          go_roundw
          case rel => exact ⟨j + 1, by omega, by go_num, HT5.out⟩
          case measure => simp [intOf]; omega
        · have hjl2 : j = ll := by omega
          have dj : decide ((j : Int) < (ll : Int)) = false := decide_eq_false (by omega)
          have HFN : Bx (Gs 73 2 w1 wr u5 (q + ll) (valM (finds (ds.take (k + 1)) p))) := ⟨by
            have := hT.gs
            rw [hjl2, HALL.out] at this
            exact this⟩
          clear hT hjl2
          go_wp2
          go_roundw
          case rel => exact ⟨k + 1, q + ll, by omega, by go_num, HQN, HFN.out⟩
          case measure => simp [intOf]; omega
    · have hkn : n1 = k := by omega
      have dk : decide ((k : Int) < (n1 : Int)) = false := decide_eq_false (by omega)
      obtain ⟨A3, c3, rfl, e1, e2⟩ := hG.shape
      have hall : ds.take k = ds := List.take_of_length_le (by have := HL.out; omega)
      rw [hall] at hG hq
      have HF : Bx (Mts wr (fun b => w.heap.size ≤ b) A3 q (finds ds p)) := ⟨(Gs.mts hG hq.out).mono (by omega) (fun b _ hb => Nat.le_trans HC1.out.size hb) (fun _ _ _ h => h)⟩
      have HCH : Bx (Ch (fun _ => False) w wr) := ⟨HC1.out.trans hG.ch (fun _ _ h => h)⟩
      clear hG hkn hall
      go_wp2
      go_ret
      exact ⟨A3, q, c3, rfl, HF.out, e1, e2, HCH.out⟩
end
end
section
open Go.RowKit Go.Oct Go.Su Go.Sg
theorem elemDt : ElemK Tryz.prog 94 129 (.agg #[.string ByteArray.empty, .slice none 0 0]) 2 40 := ⟨Tryz.underlying94, by kernel_rfl, rfl, by decide⟩
/-- The cells of a row of documents. -/
def dcV : List Key → List Value → List Value
  | k :: l, u :: us => kv k :: u :: dcV l us
  | _, _ => []
theorem dcV_snoc : ∀ (l : List Key) (us : List Value) (k : Key) (u : Value), l.length = us.length → dcV (l ++ [k]) (us ++ [u]) = dcV l us ++ [kv k, u]
  | [], [], _, _, _ => rfl
  | [], _ :: _, _, _, h => by simp at h
  | _ :: _, [], _, _, h => by simp at h
  | a :: l, v :: us, k, u, h => by
    simp only [List.cons_append, dcV]
    rw [dcV_snoc l us k u (by simpa using h)]
theorem dcV_at : ∀ (l : List Key) (us : List Value) (j : Nat) (k : Key) (u : Value), l[j]? = some k → us[j]? = some u → (dcV l us)[j * 2]? = some (kv k) ∧ (dcV l us)[j * 2 + 1]? = some u
  | [], _, _, _, _, h, _ => by simp at h
  | _ :: _, [], _, _, _, _, h => by simp at h
  | a :: l, v :: us, 0, k, u, h1, h2 => by
    simp at h1 h2
    subst h1 h2
    exact ⟨rfl, rfl⟩
  | a :: l, v :: us, j + 1, k, u, h1, h2 => by
    have := dcV_at l us j k u (by simpa using h1) (by simpa using h2)
    rw [show (j + 1) * 2 = j * 2 + 2 by omega]
    exact this
theorem own_shape' {w : World} {base s n : Nat} {e : TypeId} {v : Value} {xs : List Value} (h : w.ownsRow base e s v n xs) : ∃ A c, v = .slice A n c ∧ n ≤ c ∧ c ≤ maxLen := by
  rcases h.2 with ⟨rfl, rfl⟩ | ⟨g, cap, cur, rfl, _, _, h1, h2, _⟩
  · exact ⟨_, _, rfl, Nat.le_refl _, Nat.zero_le _⟩
  · exact ⟨_, _, rfl, h1, h2⟩
theorem dcV_len2 : ∀ (l : List Key) (us : List Value), l.length = us.length → (dcV l us).length = l.length * 2
  | [], us, _ => by cases us <;> rfl
  | _ :: _, [], h => by simp at h
  | a :: l, u :: us, h => by
    simp only [dcV, List.length_cons]
    rw [dcV_len2 l us (by simpa using h)]
    omega
/-- Documents that are gathered, each text a row of its own. -/
structure Cd (w wr : World) (v : Value) (q : Nat) (docs : List Dc) (vs : List Value) : Prop where
  dg : Gs 129 2 w wr v q (dcV (ks docs) vs)
  kl : docs.length = vs.length
  rows : ∀ (i : Nat) (u : Value) (d : Dc), vs[i]? = some u → docs[i]? = some d → wr.ownsRow 0 5 1 u d.2.length (d.2.map (Value.int .u8)) ∧ ∀ g, u.ownBlock = some g → w.heap.size ≤ g ∧ v.ownBlock ≠ some g
  apart : ∀ (i j : Nat) (x y : Value) (g : Nat), vs[i]? = some x → vs[j]? = some y → x.ownBlock = some g → y.ownBlock = some g → i = j
theorem Cd.start (w : World) : Cd w w (.slice none 0 0) 0 [] [] := ⟨Gs.nil _ _ _, rfl, fun i u d h => by simp at h, fun i j x y g h => by simp at h⟩
section
variable {w wr w5 w7 : World} {q : Nat} {v v' u : Value} {docs : List Dc} {vs : List Value}
theorem Cd.len (h : Cd w wr v q docs vs) : q = docs.length := by
  have e1 := h.dg.own.1
  rw [dcV_len2 _ _ (by rw [ks_len, h.kl]), ks_len] at e1
  omega
theorem Cd.add (h : Cd w wr v q docs vs) {d : Dc} (hf : Fresh wr u d.2 w5) {o : Obj} (ho : w7.ownsRow 0 129 2 v' (q + 1) (dcV (ks docs) vs ++ [kv d.1, u])) (hg : (w5.alloc o).grownBy w7 v.ownBlock) (hb : v'.ownBlock = v.ownBlock ∨ v'.ownBlock = some (w5.alloc o).heap.size) : Cd w w7 v' (q + 1) (docs ++ [d]) (vs ++ [u]) := by
  obtain ⟨hG, hkl, h3, h4⟩ := h
  have hvl : ∀ g, v.ownBlock = some g → g < wr.heap.size := own_lt hG.own
  have hsz := hf.2.2.size
  have hsz2 := hG.ch.size
  have hso := World.size_alloc w5 o
  have hC : Ch (fun b => v.ownBlock = some b) w5 w7 := ((Ch.refl (fun b => v.ownBlock = some b) w5).alloc o).grown hg (fun j hj => .inl hj)
  have hCt : Ch (fun b => v.ownBlock = some b) wr w7 := (hf.2.2.mono (fun _ _ h => h.elim)).trans hC (fun _ _ h => h)
  have hlu : ∀ g, u.ownBlock = some g → wr.heap.size ≤ g ∧ g < w5.heap.size := fun g hgu => ⟨hf.2.1 g hgu, own_lt hf.1 g hgu⟩
  have hnew : ∀ g, g < w5.heap.size → v.ownBlock ≠ some g → v'.ownBlock ≠ some g := fun g hgl hgv e => by
    rcases hb with hb | hb
    · exact hgv (hb ▸ e)
    · rw [hb] at e
      injection e with e
      omega
  refine ⟨?_, by simp [hkl], fun i x t hx ht => ?_, fun i j x y g hx hy gx gy => ?_⟩
  · rw [ks_app, show ks [d] = [d.1] from rfl, dcV_snoc _ _ _ _ (by rw [ks_len, hkl])]
    exact hG.app (hf.2.2.alloc o) ho hg hb
  · rcases Nat.lt_or_ge i vs.length with hi | hi
    · rw [List.getElem?_append_left hi] at hx
      rw [List.getElem?_append_left (by omega)] at ht
      obtain ⟨k1, k2⟩ := h3 i x t hx ht
      exact ⟨hCt.own k1 (fun g hg2 e => (k2 g hg2).2 e), fun g hg2 => ⟨(k2 g hg2).1, hnew g (by have := own_lt k1 g hg2; omega) (k2 g hg2).2⟩⟩
    · rw [List.getElem?_append_right hi] at hx
      rw [List.getElem?_append_right (by omega)] at ht
      have e1 : i - vs.length = 0 := by
        rcases Nat.eq_zero_or_pos (i - vs.length) with e | e
        · exact e
        · rw [List.getElem?_eq_none (by simp; omega)] at hx
          cases hx
      rw [e1] at hx
      rw [show i - docs.length = 0 by omega] at ht
      obtain rfl : u = x := by simpa using hx
      obtain rfl : d = t := by simpa using ht
      refine ⟨hC.own hf.1 (fun g hg2 e => by have := hvl g e; have := (hlu g hg2).1; omega), fun g hg2 => ⟨by have := (hlu g hg2).1; omega, hnew g (hlu g hg2).2 (fun e => by have := hvl g e; have := (hlu g hg2).1; omega)⟩⟩
  · rcases Nat.lt_or_ge i vs.length with hi | hi <;> rcases Nat.lt_or_ge j vs.length with hj | hj
    · rw [List.getElem?_append_left hi] at hx
      rw [List.getElem?_append_left hj] at hy
      exact h4 i j x y g hx hy gx gy
    · rw [List.getElem?_append_left hi] at hx
      rw [List.getElem?_append_right hj] at hy
      have hd : docs[i]? = some (docs[i]'(by omega)) := List.getElem?_eq_getElem _
      obtain ⟨k1, _⟩ := h3 i x _ hx hd
      have h5 := own_lt k1 g gx
      have e1 : j - vs.length = 0 := by
        rcases Nat.eq_zero_or_pos (j - vs.length) with e | e
        · exact e
        · rw [List.getElem?_eq_none (by simp; omega)] at hy
          cases hy
      rw [e1] at hy
      obtain rfl : u = y := by simpa using hy
      have := (hlu g gy).1
      omega
    · rw [List.getElem?_append_right hi] at hx
      rw [List.getElem?_append_left hj] at hy
      have hd : docs[j]? = some (docs[j]'(by omega)) := List.getElem?_eq_getElem _
      obtain ⟨k1, _⟩ := h3 j y _ hy hd
      have h5 := own_lt k1 g gy
      have e1 : i - vs.length = 0 := by
        rcases Nat.eq_zero_or_pos (i - vs.length) with e | e
        · exact e
        · rw [List.getElem?_eq_none (by simp; omega)] at hx
          cases hx
      rw [e1] at hx
      obtain rfl : u = x := by simpa using hx
      have := (hlu g gx).1
      omega
    · have e1 : i - vs.length = 0 := by
        rcases Nat.eq_zero_or_pos (i - vs.length) with e | e
        · exact e
        · rw [List.getElem?_append_right hi, List.getElem?_eq_none (by simp; omega)] at hx
          cases hx
      have e2 : j - vs.length = 0 := by
        rcases Nat.eq_zero_or_pos (j - vs.length) with e | e
        · exact e
        · rw [List.getElem?_append_right hj, List.getElem?_eq_none (by simp; omega)] at hy
          cases hy
      omega
/-- Documents of a row of the call's own. -/
theorem dcs_from {F : Nat → Prop} {A : Option Addr} {n c : Nat} (how : wr.ownsRow 0 129 2 (.slice A n c) n (dcV (ks docs) vs)) (hR : Oct.Rows wr F vs (ts docs)) (hkl : docs.length = vs.length) (hA : ∀ g, (Value.slice A n c).ownBlock = some g → F g) : Dcs wr F A n docs := by
  have hl : docs.length = n := by
    have e1 := how.1
    rw [dcV_len2 _ _ (by rw [ks_len, hkl]), ks_len] at e1
    omega
  refine ⟨hl, fun hn => ?_⟩
  rcases how.2 with ⟨_, h0⟩ | ⟨g, cap, cur, hv, _, _, _⟩
  · omega
  · injection hv with hA2
    subst hA2
    refine ⟨g, 0, rfl, hA g rfl, fun i d hd => ?_⟩
    obtain ⟨hi, _⟩ := List.getElem?_eq_some_iff.1 hd
    have hki : (ks docs)[i]? = some d.1 := by unfold Go.Sg.ks; rw [List.getElem?_map, hd]; rfl
    have hyi : (ts docs)[i]? = some d.2 := by unfold ts; rw [List.getElem?_map, hd]; rfl
    have hvi : i < vs.length := by rw [← hkl]; exact hi
    obtain ⟨B, cB, eu, hsl, q1, q2⟩ := hR.2 i _ _ (List.getElem?_eq_getElem hvi) hyi
    obtain ⟨c1, c2⟩ := dcV_at (ks docs) vs i d.1 _ hki (List.getElem?_eq_getElem hvi)
    rw [eu] at c2
    have k1 := how.cellAt (i * 2) (by omega)
    have k2 := how.cellAt (i * 2 + 1) (by omega)
    rw [c1] at k1
    rw [c2] at k2
    refine ⟨[kv d.1, .slice B d.2.length cB], rfl, ⟨B, cB, rfl, hsl, q1, q2⟩, fun z u hu => ?_⟩
    rw [Nat.zero_add]
    match z, hu with
    | 0, hu => simp at hu; subst hu; exact k1
    | 1, hu => simp at hu; subst hu; exact k2
theorem Cd.rws (h : Cd w wr v q docs vs) : Oct.Rows wr (fun b => w.heap.size ≤ b) vs (ts docs) := by
  refine ⟨by rw [ts_len]; exact h.kl.symm, fun i u t hu ht => ?_⟩
  unfold ts at ht
  rw [List.getElem?_map] at ht
  cases hd : docs[i]? with
  | none => rw [hd] at ht; simp at ht
  | some d =>
    rw [hd] at ht
    simp only [Option.map_some, Option.some.injEq] at ht
    subst ht
    obtain ⟨ho, hg⟩ := h.rows i u d hu hd
    obtain ⟨A', c', rfl, h1, h2⟩ := own_shape ho
    exact ⟨A', c', rfl, (Sl.of_own ho).mono (fun b _ hb => (hg b hb).1), h1, h2⟩
theorem Cd.dcs {A : Option Addr} {n c : Nat} (h : Cd w wr (.slice A n c) n docs vs) : Dcs wr (fun b => w.heap.size ≤ b) A n docs := dcs_from h.dg.own h.rws h.kl (fun g hg => h.dg.lies g hg)
end
/-- append of a row's part as one step of a region that draws its order. -/
theorem step_app1 {P : Program} {t e : TypeId} {z : Value} {bytes : Nat} {ops : Array Oper} {o : Oper} {a : Act} {w : World} {K : Act → World → Prop} {Q : Exit → Act → World → Prop} {E : Prop} {F : Nat → Prop} (hg : o.guard = none) (s x : Operand) (T : Elem P t e z bytes)
    (hop : o.op = Op.call { callee := Callee.builtin Builtin.append, args := #[s, x], argTypes := #[t, t] }) {v : Value} {n : Nat} {xs : List Value} (hs : a.eval s = v) (hown : w.ownsRow 0 e 1 v n xs)
    {A : Option Addr} {m c : Nat} {news : List Value} (hx : a.eval x = .slice A m c) (hr : Vs w F A m news) (h1 : ∀ u ∈ news, u.oneCell' = true) (hb : (n + m) * bytes ≤ 140737488355328) (h63 : n + m ≤ 140737488355328)
    (h : ∀ v' w', w'.ownsRow 0 e 1 v' (n + m) (xs ++ news) → w.grownBy w' v.ownBlock → (v'.ownBlock = v.ownBlock ∨ v'.ownBlock = some w.heap.size) → K (a.put o.dst v') w') :
    if Region.wanted o (yielded ops a.tmps) = true then Oper.wp P o a w K Q else E := by
  have hw : Region.wanted o (yielded ops a.tmps) = true := by simp [Region.wanted, hg]
  rw [if_pos hw]
  obtain ⟨v', w', hrun, h2, h3, h4⟩ := run_app (P := P) w o.type T hown (c := c) hr h1 hb h63
  unfold Oper.wp execOp
  simp only [hop, resolve, invoke, builtin, Sem.run_bind, Sem.run_pure, Result.andThen_ok, List.map_toArray, List.map_cons, List.map_nil, hs, hx, hrun]
  exact h v' w' h2 h3 h4
/-- The blocks of rows. -/
def SpB (vs : List Value) (g : Nat) : Prop := ∃ (i : Nat) (u : Value), vs[i]? = some u ∧ u.ownBlock = some g
/-- Texts under way to be spoilt: those from q on stand. -/
structure Spt (w6 wr : World) (vs : List Value) (ds : List Dc) (q : Nat) : Prop where
  ch : Ch (SpB vs) w6 wr
  rows : ∀ (i : Nat) (u : Value) (d : Dc), q ≤ i → vs[i]? = some u → ds[i]? = some d → wr.ownsRow 0 5 1 u d.2.length (d.2.map (Value.int .u8))
theorem Spt.next {w6 wr w7 w8 : World} {vs : List Value} {ds : List Dc} {q : Nat} {u : Value} (h : Spt w6 wr vs ds q) (hc : Ch (fun _ => False) wr w7) (hu : vs[q]? = some u) (h8 : Ch (fun k => u.ownBlock = some k) w7 w8) (ha : ∀ (i : Nat) (x : Value), vs[i]? = some x → i ≠ q → ∀ g, x.ownBlock = some g → u.ownBlock = some g → False) : Spt w6 w8 vs ds (q + 1) :=
  ⟨h.ch.trans ((hc.mono (fun _ _ h => h.elim)).trans h8 (fun i _ e => e)) (fun i _ (e : u.ownBlock = some i) => ⟨q, u, hu, e⟩), fun i x d hi hx hd => h8.own (hc.own (h.rows i x d (by omega) hx hd) (fun _ _ h => h)) (fun g gx gu => ha i x hx (by omega) g gx gu)⟩
end
section
open Go.RowKit Go.Oct Go.Su Go.Sg Go.Mt Go.Maps
section
variable {w w1 w2 w' W W' : World} {P S F G FA : Nat → Prop} {t : Nat} {gs : List Key} {ds : List Dc} {k : Key}
theorem Cd.after {w0 wr : World} {v : Value} {q : Nat} {docs : List Dc} {vs : List Value} (h0 : Ch (fun _ => False) w w0) (h : Cd w0 wr v q docs vs) : Cd w wr v q docs vs :=
  ⟨⟨h.dg.own, fun g hg => Nat.le_trans h0.size (h.dg.lies g hg), h0.trans h.dg.ch (fun _ _ h => h)⟩, h.kl, fun i u d hu hd => by
    obtain ⟨h1, h2⟩ := h.rows i u d hu hd
    exact ⟨h1, fun g hg => ⟨Nat.le_trans h0.size (h2 g hg).1, (h2 g hg).2⟩⟩, h.apart⟩
theorem Cd.keep {w0 wr w7 : World} {v : Value} {q : Nat} {docs : List Dc} {vs : List Value} (h : Cd w0 wr v q docs vs) (hc : Ch (fun _ => False) wr w7) : Cd w0 w7 v q docs vs :=
  ⟨h.dg.keep hc, h.kl, fun i u d hu hd => by
    obtain ⟨h1, h2⟩ := h.rows i u d hu hd
    exact ⟨hc.own h1 (fun _ _ h => h), h2⟩, h.apart⟩
theorem doc_cellsT (w : World) (S : ByteArray) (A : Option Addr) (n c : Nat) : ∀ j u, [Value.string S, .slice A n c][j]? = some u → (w.alloc (.cells #[.string S, .slice A n c] 129)).cell? ((⟨w.heap.size, 0, none⟩ : Addr).add j) = some u := fun j u hu => by
  rw [Lib.add_plain', Nat.zero_add]
  exact ncells_at (by simpa using hu)
/-- What Docs leaves. -/
def DocsL (ds : List Dc) (n : Nat) (w : World) (e : Ending) (w' : World) : Prop := ∃ (A : Option Addr) (c : Nat) (vs : List Value), e = .returned (.slice A n c) ∧ Cd w w' (.slice A n c) n ds vs ∧ n ≤ c ∧ c ≤ maxLen
set_option maxHeartbeats 2000000 in
set_option maxRecDepth 100000 in
theorem mdocs_any (h : TabP w P t ds gs) : Calls Tryz.prog 87 #[.pointer (some ⟨t, 0, none⟩)] w (DocsL ds ds.length w) := by
  have H := Bx.mk h
  have hft := fate_text
  obtain ⟨n, hnl⟩ : ∃ n, ds.length = n := ⟨_, rfl⟩
  have HL := Bx.mk hnl
  have hn : n ≤ 1000000 := by have := h.few; omega
  have HK := Bx.mk (mkeys_any h true)
  rw [hnl]
  clear h hnl
  go_enter Tryz.func87, Tryz.ntmps87
  go_wp2_with fail
  refine HK.out.mono ?_
  rintro e w1 ⟨A1, n1, c1, rfl, hg, hnc1, hcm1⟩
  have hn1 : n1 = n := by
    have h1 := hg.own.1
    have h2 := HL.out
    simp [keysOf] at h1
    omega
  subst hn1
  have HKS : Bx (Kss w1 (fun _ => True) A1 n1 (ds.map (·.1))) := ⟨Vs.mono (Vs.of_own hg.own) (fun _ _ _ => trivial)⟩
  have HC1 := Bx.mk hg.ch
  have HT1 := Bx.mk (H.out.keep hg.ch)
  have hc163 : c1 ≤ 9223372036854775807 := by unfold maxLen at hcm1; omega
  clear HK hg hcm1
  go_wp2_with fail
  go_loopw [3, 9] (fun v i wr => ∃ (k : Nat) (vs : List Value), k ≤ n1 ∧ i = .int .i64 k ∧ Bx (Cd w1 wr v k (ds.take k) vs)) (fun _ i _ => n1 - (intOf i).toNat)
  case atStart => exact ⟨0, [], Nat.zero_le _, rfl, ⟨Cd.start w1⟩⟩
  case round =>
    obtain ⟨k, vs, hk, rfl, hD⟩ := hrel
    obtain ⟨Ad, cd, rfl, hkc, hkm⟩ := own_shape' hD.out.dg.own
    by_cases hlt : k < n1
    · have dk : decide ((k : Int) < (n1 : Int)) = true := decide_eq_true (by omega)
      have hG := hD.out.dg.ch
      obtain ⟨bk, ok, key, rfl, _, hkey, hck0⟩ := (HKS.out.ch hG (fun _ _ _ h => h)).at_ hlt
      obtain ⟨dc, ex, rfl⟩ : ∃ dc, Hid (ds[k]? = some dc) ∧ dc.1 = key := by
        have := hkey.out
        rw [List.getElem?_map] at this
        cases hx : ds[k]? with
        | none => rw [hx] at this; cases this
        | some x => rw [hx] at this; injection this with this; exact ⟨x, rfl, this⟩
      have hdm := List.mem_of_getElem? ex.out
      obtain ⟨mb, f, A', c', ct0, hlk, hsl, hlc, hcm, hsh⟩ := (HT1.out.keep hG).doc hdm
      have hdl := H.out.ok.len dc hdm
      have HCL := Bx.mk (mclone_any dc.2 A' dc.2.length c' wr hsl (by omega))
      have HNT : Bx (ds.take (k + 1) = ds.take k ++ [dc]) := ⟨Oct.take_more ex.out⟩
      have i2 : (k : Int) < (n1 : Int) := by omega
      obtain ⟨tl, htl⟩ : ∃ tl, dc.2.length = tl := ⟨_, rfl⟩
      rw [htl] at HCL hlk hdl
      have HTL := Bx.mk htl
      obtain ⟨SD, hSD⟩ : ∃ S : ByteArray, kv dc.1 = .string S := ⟨_, rfl⟩
      have HSD := Bx.mk hSD
      rw [hSD] at hck0 hlk
      clear hG hsl ex hdm htl hSD hcm hlc hsh hkey
      go_wp2_with fail
      refine HCL.out.mono ?_
      rintro e w2 ⟨v2, rfl, hf2⟩
      obtain ⟨A2, c2, rfl, _, _⟩ := own_shape hf2.1
      have HF2 := Bx.mk hf2
      rw [HTL.out]
      have HOW : Bx (w2.ownsRow 0 129 2 (.slice Ad k cd) k (dcV (Go.Sg.ks (ds.take k)) vs)) := ⟨hf2.2.2.own hD.out.dg.own (fun _ _ h => h)⟩
      have HADD : Bx (∀ v5 w5, w5.ownsRow 0 129 2 v5 (k + 1) (dcV (Go.Sg.ks (ds.take k)) vs ++ [Value.string SD, .slice A2 tl c2]) → (w2.alloc (.cells #[.string SD, .slice A2 tl c2] 129)).grownBy w5 (Value.slice Ad k cd).ownBlock → (v5.ownBlock = (Value.slice Ad k cd).ownBlock ∨ v5.ownBlock = some (w2.alloc (.cells #[.string SD, .slice A2 tl c2] 129)).heap.size) → Cd w1 w5 v5 (k + 1) (ds.take (k + 1)) (vs ++ [.slice A2 tl c2])) := ⟨fun v5 w5 ho1 hg1 hb1 => by
        rw [HNT.out]
        have e1 : (Value.slice A2 dc.2.length c2) = .slice A2 tl c2 := by rw [HTL.out]
        rw [e1] at hf2
        refine hD.out.add hf2 ?_ hg1 hb1
        rw [HSD.out]
        exact ho1⟩
      clear hf2 HCL hlk hck0 ct0
      go_wp2_with (at_builtin; refine wp_appK rfl (.tmp 13) (.tmp 24) elemDt rfl rfl (HOW.out.alloc _) rfl (m := 1) rfl (doc_cellsT w2 SD A2 tl c2) (by intro u hu; simp at hu; rcases hu with hu | hu <;> (subst hu; rfl)) (by omega) (by omega) ?_)
      intro v5 w5 ho1 hg1 hb1
      have HT5 := Bx.mk (HADD.out v5 w5 ho1 hg1 (by rw [World.size_alloc]; exact hb1))
      clear ho1 hg1 hb1
      go_wp2
      go_roundw
      case rel => exact ⟨k + 1, _, by omega, by go_num, HT5⟩
      case measure => simp [intOf]; omega
    · have hkn : n1 = k := by omega
      have dk : decide ((k : Int) < (n1 : Int)) = false := decide_eq_false (by omega)
      have hall : ds.take k = ds := List.take_of_length_le (by have := HL.out; omega)
      have HF : Bx (Cd w wr (.slice Ad k cd) n1 ds vs) := ⟨by
        have := Cd.after HC1.out hD.out
        rw [hall] at this
        rw [hkn]
        exact this⟩
      clear hall
      subst hkn
      go_wp2
      go_ret
      exact ⟨Ad, cd, vs, rfl, HF.out, hkc, hkm⟩
end
end
end Go.Proofs.YtbkakhfepiooaaaGreatDoor.M
