/- Lemmas and contracts of this proof. Conditions: said at each. -/
import Derived.Test.YtbkakhfepiooaaaGreatDoorQGDkRen
import Derived.Test.YtbkakhfepiooaaaGreatDoorDkLaid
import Derived.Test.YtbkakhfepiooaaaGreatDoorKpLaid
import Derived.Lib.OwnBridge
namespace Go.Proofs.YtbkakhfepiooaaaGreatDoor.D
section
open Go.RowKit Go.Oct Go.Su Go.Dk Go.Maps Go.Sort Go.Shelf
section
variable {w w' : World} {g g' : Nat → Tg} {d : Nat} {mb : Option Nat} {ad : Key → Nat} {s s' : Ds} {F S : Nat → Prop} {x y : Fl} {k j : Key}
theorem dkSorts (m : Nat) : AnyZ.SortsIn Tryz.prog Tryz.dkSorted_ren Fence.wide m :=
  ⟨fun blk off cap ss W hH hblk hsz => callsIn_wide.2 (AnyM.slices_Sort_string Tryz.dkSort blk off cap ss W hH hblk hsz),
   fun p cap W => callsIn_wide.2 (AnyM.slices_Sort_string_none Tryz.dkSort p cap W)⟩
theorem keys_any (mb : Option Nat) (W : World) : Calls Tryz.prog 122 #[.map mb] W fun e w' => e = .returned (.func (.func 193) #[] #[.pointer (some ⟨W.heap.size, 0, none⟩)]) ∧ w' = W.alloc (.cells #[.map mb] 85) :=
  callsIn_wide.1 (AnyZ.keys_in Tryz.dkKeys Fence.wide 5 trivial rfl mb W)
theorem merge_uniq {ss l : List Key} (hp : ss.Perm l) (hl : Rise l) : ss.mergeSort (fun x y => decide (x ≤ y)) = l := by
  refine srt_uniq ?_ hl.srt ((List.mergeSort_perm _ _).trans hp)
  have h := List.pairwise_mergeSort (le := fun x y : Key => decide (x ≤ y)) (fun a b c h1 h2 => by
    simp only [decide_eq_true_eq] at *
    exact List.le_trans h1 h2) (fun a b => by
    simp only [Bool.or_eq_true, decide_eq_true_eq]
    exact List.le_total a b) ss
  exact h.imp fun {a b} hab => by
    simp only [decide_eq_true_eq] at hab
    exact List.not_lt.2 hab
/-- What List leaves. -/
def ListOf (l : List Key) (w : World) (e : Ending) (w' : World) : Prop := ∃ A n c, e = .returned (.slice A n c) ∧ Gs 9 1 w w' (.slice A n c) n (l.map kv) ∧ n ≤ c ∧ c ≤ maxLen
set_option maxHeartbeats 2000000 in
theorem sortedk_any (h : Dsk w g d mb ad s) : Calls Tryz.prog 121 #[.func (.func 193) #[] #[.pointer (some ⟨w.heap.size, 0, none⟩)]] (w.alloc (.cells #[.map mb] 85)) (ListOf (nms s.fs) w) := by
  have hmost := h.ok.most
  have hok : ∀ {v : Value} {ss : List (List UInt8)} {w' : World}, ss.Perm (nms s.fs) → w'.ownsRow (w.alloc (.cells #[.map mb] 85)).heap.size 9 1 v ss.length ((ss.mergeSort (fun x y => decide (x ≤ y))).map encStr) → Below (w.alloc (.cells #[.map mb] 85)).heap.size (w.alloc (.cells #[.map mb] 85)) w' → ListOf (nms s.fs) w (.returned v) w' := by
    intro v ss w' hp ho hb
    rw [merge_uniq hp h.ok.fine.rise] at ho
    have hl : ss.length = (nms s.fs).length := hp.length_eq
    have hch : Ch (fun _ => False) w w' := ((Ch.refl (fun _ => False) w).alloc _).trans (Ch.of_below hb (fun k h1 h2 => absurd h2 (by omega))) (fun _ _ h => h)
    obtain ⟨A, c, rfl, h1, h2⟩ := own_shape ho
    exact ⟨A, ss.length, c, rfl, ⟨⟨ho.1, ho.2.imp id (fun ⟨g, cap, cur, e, _, r⟩ => ⟨g, cap, cur, e, Nat.zero_le _, r⟩)⟩, fun q hq => by have := (ho.lt q hq).1; rw [World.size_alloc] at this; omega, hch⟩, h1, h2⟩
  cases mb with
  | none =>
    have hseq : SeqGives Fence.wide 2 Tryz.prog 193 #[.pointer (some ⟨w.heap.size, 0, none⟩)] encStr (fun ss : List (List UInt8) => ss = []) 0 (w.alloc (.cells #[.map none] 85)) :=
      AnyZ.keys_gives_nil (ρ := Tryz.dkKeys_ren) { Tryz.dkKeys with } Fence.wide _ trivial rfl w.heap.size _ (by simp) (by simp)
    refine (callsIn_wide.1 (AnyZ.sorted_in Tryz.dkSorted Fence.wide 5 trivial trivial trivial trivial rfl (by omega) (dkSorts _) (enters_of Tryz.func62 (by kernel_rfl) rfl) 193 #[.pointer (some ⟨w.heap.size, 0, none⟩)] trivial (enters_of Tryz.func193 (by kernel_rfl) rfl) _ 0 (Nat.zero_le _) (by omega) _ hseq)).mono ?_
    rintro e w' ⟨v, ss, rfl, rfl, ho, _, hb⟩
    exact hok (by rw [h.none_ rfl]; exact List.Perm.refl _) ho hb
  | some b =>
    have hown := (h.some_ b rfl).2
    have hbl := hown.lt
    have hsz : Maps.size (mapD s.fs ad) = s.fs.length := size_mapD _ _
    have hseq : SeqGives Fence.wide 2 Tryz.prog 193 #[.pointer (some ⟨w.heap.size, 0, none⟩)] encStr (fun ss => ss.Perm (strKeys (mapD s.fs ad))) (Maps.size (mapD s.fs ad)) (w.alloc (.cells #[.map (some b)] 85)) :=
      AnyZ.keys_gives (ρ := Tryz.dkKeys_ren) { Tryz.dkKeys with } Fence.wide _ trivial rfl (by omega) w.heap.size b s.fs.length (mapD s.fs ad) _ (by simp) (by simp) (by
        obtain ⟨es, clock, hb, Ft, hs, hD⟩ := hown
        exact ⟨es, clock, (Below.heap_alloc _ _ b hbl).trans hb, Ft, hs, hD⟩)
    refine (callsIn_wide.1 (AnyZ.sorted_in Tryz.dkSorted Fence.wide 5 trivial trivial trivial trivial rfl (by omega) (dkSorts _) (enters_of Tryz.func62 (by kernel_rfl) rfl) 193 #[.pointer (some ⟨w.heap.size, 0, none⟩)] trivial (enters_of Tryz.func193 (by kernel_rfl) rfl) _ _ (by rw [hsz]; unfold maxLen; omega) (by rw [hsz]; omega) _ hseq)).mono ?_
    rintro e w' ⟨v, ss, rfl, hS, ho, _, hb⟩
    exact hok (by rw [← strKeys_mapD s.fs ad]; exact hS) ho hb
theorem list_any (h : Dsk w g d mb ad s) : Calls Tryz.prog 68 #[pv d] w (ListOf (nms s.fs) w) := by
  have hp : pv d = .pointer (some ⟨d, 0, none⟩) := rfl
  have HK := Bx.mk (keys_any mb w)
  have HS := Bx.mk (sortedk_any h)
  have c0 := h.c0
  rw [hp]
  clear hp h
  go_enter Tryz.func68, Tryz.ntmps68
  go_wp2_with fail
  refine HK.out.mono ?_
  rintro e w1 ⟨rfl, rfl⟩
  go_wp2_with fail
  refine HS.out.mono ?_
  rintro e w2 ⟨A, n, c, rfl, hr⟩
  go_wp2
  go_ret
  exact ⟨A, n, c, rfl, hr⟩
end
end
section
open Go.RowKit Go.Oct Go.Su Go.Dk Go.Maps Go.Sort Go.Shelf
section
variable {F S : Nat → Prop}
/-- Does a name begin so? -/
def Beg (p t : Key) : Prop := t.take p.length = p ∧ p.length ≤ t.length
instance (p t : Key) : Decidable (Beg p t) := by unfold Beg; exact inferInstance
set_option maxHeartbeats 2000000 in
theorem prefixl_any (t p : Key) (w : World) :
    Calls Tryz.prog 116 #[kv t, kv p] w fun e w' => e = .returned (.bool (decide (Beg p t))) ∧ w = w' := by
  have htz := key_size t
  have hpz := key_size p
  have hxq : ∀ pl, pl = p.length → (((⟨t.toArray⟩ : ByteArray).extract 0 pl).toList == (⟨p.toArray⟩ : ByteArray).toList) = decide (t.take pl = p) := fun pl _ => by
    rw [← str_ne]
    congr 1
    rw [Lib.toList_data, Lib.toList_data]
    simp
  obtain ⟨TB, htb⟩ : ∃ S, (⟨t.toArray⟩ : ByteArray) = S := ⟨_, rfl⟩
  obtain ⟨PB, hpb⟩ : ∃ S, (⟨p.toArray⟩ : ByteArray) = S := ⟨_, rfl⟩
  obtain ⟨tl, htl⟩ : ∃ tl, t.length = tl := ⟨_, rfl⟩
  obtain ⟨pl, hpl⟩ : ∃ pl, p.length = pl := ⟨_, rfl⟩
  have HB : Bx (∀ o : Bool, (o = true ↔ t.take pl = p ∧ pl ≤ tl) → o = decide (Beg p t)) := ⟨fun o ho => by
    rw [Bool.eq_iff_iff, ho]
    unfold Beg
    simp only [hpl, htl, decide_eq_true_eq]⟩
  have hx := hxq pl hpl.symm
  rw [htb, hpb] at hx
  rw [htb, htl] at htz
  rw [hpb, hpl] at hpz
  have HTV : kv t = .string TB := by unfold kv; rw [htb]
  have HPV : kv p = .string PB := by unfold kv; rw [hpb]
  rw [HTV, HPV]
  clear htb hpb htl hpl hxq HTV HPV
  by_cases h1 : pl ≤ tl
  · have e1 : decide ((pl : Int) ≤ (tl : Int)) = true := decide_eq_true (by omega)
    have e1' : decide (pl ≤ tl) = true := decide_eq_true h1
    by_cases h2 : t.take pl = p
    · have e2 : ((TB.extract 0 pl).toList == PB.toList) = true := by rw [hx]; exact decide_eq_true h2
      have HN : Bx (true = decide (Beg p t)) := ⟨HB.out true (by simp [h2, h1])⟩
      clear hx h2 HB
      go_enter Tryz.func116, Tryz.ntmps116
      go_wp2
      go_ret
      exact ⟨ret_bool HN.out, rfl⟩
    · have e2 : ((TB.extract 0 pl).toList == PB.toList) = false := by rw [hx]; exact decide_eq_false h2
      have HN : Bx (false = decide (Beg p t)) := ⟨HB.out false (by simp [h2])⟩
      clear hx h2 HB
      go_enter Tryz.func116, Tryz.ntmps116
      go_wp2
      go_ret
      exact ⟨ret_bool HN.out, rfl⟩
  · have e1 : decide ((pl : Int) ≤ (tl : Int)) = false := decide_eq_false (by omega)
    have e1' : decide (pl ≤ tl) = false := decide_eq_false h1
    have HN : Bx (false = decide (Beg p t)) := ⟨HB.out false (by simp [h1])⟩
    clear hx HB
    go_enter Tryz.func116, Tryz.ntmps116
    go_wp2
    go_ret
    exact ⟨ret_bool HN.out, rfl⟩
theorem prefix_any (t p : Key) (w : World) :
    Calls Tryz.prog 64 #[kv t, kv p] w fun e w' => e = .returned (.bool (decide (Beg p t))) ∧ w = w' := by
  have HC := Bx.mk (prefixl_any t p w)
  obtain ⟨tv, htv⟩ : ∃ v, kv t = v := ⟨_, rfl⟩
  obtain ⟨pv, hpv⟩ : ∃ v, kv p = v := ⟨_, rfl⟩
  rw [htv, hpv] at HC ⊢
  obtain ⟨o, ho⟩ : ∃ o, decide (Beg p t) = o := ⟨_, rfl⟩
  rw [ho] at HC ⊢
  clear ho htv hpv
  go_enter Tryz.func64, Tryz.ntmps64
  go_wp2_with fail
  refine HC.out.mono ?_
  rintro e w1 ⟨rfl, rfl⟩
  go_wp2
  go_ret
  exact ⟨rfl, rfl⟩
set_option maxHeartbeats 2000000 in
theorem indexs_any (l : List Key) (v : Key) (A : Option Addr) (n c : Nat) (w : World) (hz : Kss w F A n l) (hn : n ≤ 9223372036854775806) :
    Calls Tryz.prog 117 #[.slice A n c, kv v] w fun e w' => ∃ z : Int, e = .returned (.int .i64 z) ∧ (0 ≤ z ↔ v ∈ l) ∧ w = w' := by
  have HL := Bx.mk hz.len
  have HZ := Bx.mk hz
  have HSE : Bx (∀ t : Key, ((⟨v.toArray⟩ : ByteArray).toList == (⟨t.toArray⟩ : ByteArray).toList) = decide (v = t)) := ⟨fun t => str_ne v t⟩
  obtain ⟨VB, hvb⟩ : ∃ S, (⟨v.toArray⟩ : ByteArray) = S := ⟨_, rfl⟩
  have HVV : kv v = .string VB := by unfold kv; rw [hvb]
  rw [hvb] at HSE
  rw [HVV]
  clear hz HVV hvb
  go_enter Tryz.func117, Tryz.ntmps117
  go_wp2_with fail
  go_loop [5, 8] (fun _ i => ∃ k : Nat, k ≤ n ∧ i = .int .i64 k ∧ Bx (v ∉ l.take k)) (fun _ i => n - (intOf i).toNat)
  case atStart => exact ⟨0, Nat.zero_le _, rfl, ⟨by simp⟩⟩
  case round =>
    obtain ⟨k, hk, rfl, hno⟩ := hrel
    by_cases hlt : k < n
    · have dk : decide ((k : Int) < (n : Int)) = true := decide_eq_true (by omega)
      obtain ⟨bt, ot, t, rfl, _, ht, hcell⟩ := HZ.out.at_ hlt
      have HTM := Bx.mk (Oct.take_more ht.out)
      have HMEM := Bx.mk (List.mem_of_getElem? ht.out)
      have i2 : (k : Int) < (n : Int) := by omega
      have hse := HSE.out t
      obtain ⟨TB, htb⟩ : ∃ S, (⟨t.toArray⟩ : ByteArray) = S := ⟨_, rfl⟩
      have htv : kv t = .string TB := by unfold kv; rw [htb]
      rw [htb] at hse
      rw [htv] at hcell
      clear ht htb htv
      by_cases hvt : v = t
      · have e2 : (VB.toList == TB.toList) = true := by rw [hse]; exact decide_eq_true hvt
        have HM : Bx (v ∈ l) := ⟨by rw [hvt]; exact HMEM.out⟩
        clear hse hno hvt HSE
        go_wp2
        go_ret
        exact ⟨(k : Int), rfl, ⟨fun _ => HM.out, fun _ => by omega⟩, rfl⟩
      · have e2 : (VB.toList == TB.toList) = false := by rw [hse]; exact decide_eq_false hvt
        have HN : Bx (v ∉ l.take (k + 1)) := ⟨by rw [HTM.out]; simp [hno.out, hvt]⟩
        clear hse hno hvt
        go_wp2
        go_round
        case rel => exact ⟨k + 1, by omega, by go_num, HN⟩
        case measure => simp [intOf]; omega
    · obtain rfl : n = k := by omega
      have dk : decide ((n : Int) < (n : Int)) = false := decide_eq_false (by omega)
      have HE : Bx (v ∉ l) := ⟨by
        have h := hno.out
        rwa [List.take_of_length_le (Nat.le_of_eq HL.out)] at h⟩
      clear hno
      go_wp2
      go_ret
      exact ⟨-1, rfl, ⟨fun h => by omega, fun h => absurd h HE.out⟩, rfl⟩
theorem contains_any (l : List Key) (v : Key) (A : Option Addr) (n c : Nat) (w : World) (hz : Kss w F A n l) (hn : n ≤ 9223372036854775806) :
    Calls Tryz.prog 65 #[.slice A n c, kv v] w fun e w' => e = .returned (.bool (decide (v ∈ l))) ∧ w = w' := by
  have HC := Bx.mk (indexs_any l v A n c w hz hn)
  obtain ⟨vv, hvv⟩ : ∃ u, kv v = u := ⟨_, rfl⟩
  rw [hvv] at HC ⊢
  clear hz hvv
  go_enter Tryz.func65, Tryz.ntmps65
  go_wp2_with fail
  refine HC.out.mono ?_
  rintro e w1 ⟨z, rfl, hz, rfl⟩
  have HB : Bx (decide (0 ≤ z) = decide (v ∈ l)) := ⟨by rw [decide_eq_decide]; exact hz⟩
  clear hz HC
  go_wp2
  go_ret
  exact ⟨ret_bool HB.out, rfl⟩
/-- What Clear's closure holds: the prefix, and the names that stay. -/
structure StayC (W : World) (F : Nat → Prop) (bp bs : Nat) (p : Key) (A : Option Addr) (n c : Nat) (st : List Key) : Prop where
  cp : W.cell? ⟨bp, 0, none⟩ = some (kv p)
  cs : W.cell? ⟨bs, 0, none⟩ = some (.slice A n c)
  ks : Kss W F A n st
theorem StayC.ch {W W' : World} {bp bs n c : Nat} {p : Key} {A : Option Addr} {st : List Key} (h : StayC W F bp bs p A n c st) (hc : Ch S W W') (h1 : ¬ S bp) (h2 : ¬ S bs) (h3 : ∀ b, F b → b < W.heap.size → ¬ S b) : StayC W' F bp bs p A n c st :=
  ⟨hc.cell h1 h.cp, hc.cell h2 h.cs, h.ks.ch hc h3⟩
/-- Is a name to be taken away? -/
def isGone (p : Key) (st : List Key) (t : Key) : Bool := decide (t.take p.length = p ∧ p.length ≤ t.length ∧ t ∉ st)
set_option maxHeartbeats 2000000 in
theorem stays_any {bp bs n c : Nat} {p : Key} {A : Option Addr} {st : List Key} (t : Key) (W : World) (h : StayC W F bp bs p A n c st) (hn : n ≤ 9223372036854775806) :
    Calls Tryz.prog 63 #[kv t, .pointer (some ⟨bp, 0, none⟩), .pointer (some ⟨bs, 0, none⟩)] W fun e w' => e = .returned (.bool (!isGone p st t)) ∧ W = w' := by
  have HP := Bx.mk (prefix_any t p W)
  have HC := Bx.mk (contains_any st t A n c W h.ks hn)
  have cp := h.cp
  have cs := h.cs
  have HG : Bx (∀ o : Bool, (o = true ↔ ¬ (Beg p t ∧ t ∉ st)) → o = !isGone p st t) := ⟨fun o ho => by
    rw [Bool.eq_iff_iff, ho]
    unfold isGone Beg
    simp only [Bool.not_eq_true', decide_eq_false_iff_not, and_assoc]⟩
  obtain ⟨tv, htv⟩ : ∃ v, kv t = v := ⟨_, rfl⟩
  obtain ⟨pv, hpv⟩ : ∃ v, kv p = v := ⟨_, rfl⟩
  rw [htv] at HP HC ⊢
  rw [hpv] at HP cp
  clear h htv hpv hn
  by_cases h1 : Beg p t
  · rw [show decide (Beg p t) = true from decide_eq_true h1] at HP
    by_cases h2 : t ∈ st
    · rw [show decide (t ∈ st) = true from decide_eq_true h2] at HC
      have HN : Bx (true = !isGone p st t) := ⟨HG.out true (by simp [h2])⟩
      clear HG h1 h2
      go_enter Tryz.func63, Tryz.ntmps63
      go_wp2_with fail
      refine HP.out.mono ?_
      rintro e w1 ⟨rfl, rfl⟩
      go_wp2_with fail
      refine HC.out.mono ?_
      rintro e w1 ⟨rfl, rfl⟩
      go_wp2
      go_ret
      exact ⟨ret_bool HN.out, rfl⟩
    · rw [show decide (t ∈ st) = false from decide_eq_false h2] at HC
      have HN : Bx (false = !isGone p st t) := ⟨HG.out false (by simp [h1, h2])⟩
      clear HG h1 h2
      go_enter Tryz.func63, Tryz.ntmps63
      go_wp2_with fail
      refine HP.out.mono ?_
      rintro e w1 ⟨rfl, rfl⟩
      go_wp2_with fail
      refine HC.out.mono ?_
      rintro e w1 ⟨rfl, rfl⟩
      go_wp2
      go_ret
      exact ⟨ret_bool HN.out, rfl⟩
  · rw [show decide (Beg p t) = false from decide_eq_false h1] at HP
    have HN : Bx (true = !isGone p st t) := ⟨HG.out true (by simp [h1])⟩
    clear HG h1 HC
    go_enter Tryz.func63, Tryz.ntmps63
    go_wp2_with fail
    refine HP.out.mono ?_
    rintro e w1 ⟨rfl, rfl⟩
    go_wp2
    go_ret
    exact ⟨ret_bool HN.out, rfl⟩
end
end
section
open Go.RowKit Go.Oct Go.Su Go.Dk Go.Maps Go.Sort Go.Shelf
section
variable {F S : Nat → Prop}
theorem ch_putRow {α : Type} [Inhabited α] (enc : α → Value) (w : World) (q blk off : Nat) (d : Array α) : Ch (fun k => k = blk) w (putRow enc (Sort.ahead w q) blk off d) :=
  ⟨rfl, rfl, rfl, by simp [putRow, mapBlock, Sort.ahead], fun k _ hS => by
    have h : ¬ blk = k := fun e => hS e.symm
    simp [putRow, mapBlock, Sort.ahead, Array.getElem?_modify, h]⟩
theorem ch_grow (w : World) (os : Array Obj) : Ch (fun _ => False) w (grow w os) :=
  ⟨rfl, rfl, rfl, by show w.heap.size ≤ (w.heap ++ os).size; rw [Array.size_append]; omega, fun k hk _ => Sort.heap_grow_old w os hk⟩
theorem idx0_any (fv : Value) (w : World) : Calls Tryz.prog 120 #[.slice none 0 0, fv] w fun e w' => e = .returned (.int .i64 (-1)) ∧ w = w' := by
  go_enter Tryz.func120, Tryz.ntmps120
  go_wp2_with fail
  go_loop [5, 8] (fun _ i => i = .int .i64 0) (fun _ _ => 0)
  case atStart => rfl
  case round =>
    obtain rfl := hrel
    go_wp2
    go_ret
    exact ⟨rfl, rfl⟩
theorem del0_any (fv : Value) (w : World) : Calls Tryz.prog 67 #[.slice none 0 0, fv] w fun e w' => e = .returned (.slice none 0 0) ∧ w = w' := by
  have HI := Bx.mk (idx0_any fv w)
  go_enter Tryz.func67, Tryz.ntmps67
  go_wp2_with fail
  refine HI.out.mono ?_
  rintro e w1 ⟨rfl, rfl⟩
  go_wp2
  go_ret
  exact ⟨rfl, rfl⟩
set_option maxRecDepth 100000 in
theorem del_any {l st : List Key} {W0 W : World} {A1 A : Option Addr} {m c1 bp bs n c : Nat} {p : Key} (h : StayC W F bp bs p A n c st) (hn : n ≤ 9223372036854775806) (hg : Gs 9 1 W0 W (.slice A1 m c1) m (l.map kv))
    (hbp : bp < W0.heap.size) (hbs : bs < W0.heap.size) (hF : ∀ b, F b → b < W0.heap.size) (hm : m ≤ 4096) :
    Calls Tryz.prog 67 #[.slice A1 m c1, .func (.func 63) #[] #[.pointer (some ⟨bp, 0, none⟩), .pointer (some ⟨bs, 0, none⟩)]] W (ListOf (gone p st l) W0) := by
  by_cases hv : Value.slice A1 m c1 = .slice none 0 0
  · injection hv with e1 e2 e3
    subst e1; subst e2; subst e3
    have hl : l = [] := List.eq_nil_of_length_eq_zero (by simpa using hg.own.1)
    subst hl
    refine (del0_any _ W).mono ?_
    rintro e w' ⟨rfl, rfl⟩
    exact ⟨none, 0, 0, rfl, hg, Nat.le_refl _, Nat.zero_le _⟩
  · obtain ⟨b, cap, e1, _, hlt, hle, hcm, hlen, hH⟩ := Lib.holds_of_ownsRow (enc := kv) (zs := l) hg.own hv
    injection e1 with e1 _ e3
    subst e1; subst e3
    have hb0 : W0.heap.size ≤ b := hg.lies b rfl
    have hst : ∀ W', Ch (fun k => k = b) W W' → StayC W' F bp bs p A n c st := fun W' hc => h.ch hc (by omega) (by omega) (fun k hk _ e => by have := hF k hk; omega)
    have eg : ∀ args w, (callFunc 63 args).run Tryz.prog w = .ok (.enter 63 args) w := enters_of Tryz.func63 (by kernel_rfl) rfl
    have hp : PredAt Tryz.prog 63 #[.pointer (some ⟨bp, 0, none⟩), .pointer (some ⟨bs, 0, none⟩)] kv (fun t => !isGone p st t) W := fun W' x hb =>
      (stays_any x W' (hst W' (Ch.of_below hb (fun k h1 h2 => absurd h2 (by omega)))) hn).mono fun e w' ⟨h1, h2⟩ => ⟨h1, 0, h2.symm⟩
    have hpo : PredOver Tryz.prog 63 #[.pointer (some ⟨bp, 0, none⟩), .pointer (some ⟨bs, 0, none⟩)] kv (fun t => !isGone p st t) b 0 l.toArray.size W := fun q os dk x _ =>
      (stays_any x _ (hst _ ((ch_putRow kv W q b 0 dk).trans (ch_grow _ os) (fun _ _ h => h.elim))) hn).mono fun e w' ⟨h1, h2⟩ => ⟨h1, 0, h2.symm⟩
    have hcon := AnyE.slices_DeleteFunc Tryz.kpDel kv (fun _ => rfl) (fun t => !isGone p st t) 63 #[.pointer (some ⟨bp, 0, none⟩), .pointer (some ⟨bs, 0, none⟩)] eg [] Tryz.zeroValue9 b 0 c1 l.toArray W hp hpo hH (by simp; omega) (by simp; omega)
    have hfl : (l.toArray.toList.filter fun x => !(fun t => !isGone p st t) x) = gone p st l := by
      simp only [Bool.not_not]
      rfl
    have hgl : (gone p st l).length ≤ m := by
      rw [← hlen]
      exact List.length_filter_le _ _
    rw [hfl] at hcon
    have hsz : l.toArray.size = m := by simpa using hlen
    rw [hsz] at hcon
    refine hcon.mono ?_
    rintro e w' ⟨rfl, q, rfl⟩
    refine ⟨_, _, _, rfl, ⟨?_, fun k hk => by
      have hk : b = k := by simpa [Value.ownBlock] using hk
      omega, hg.ch.trans (ch_putRow kv W q b 0 _) (fun k hk e => by omega)⟩, by omega, hcm⟩
    have ho := Lib.ownsRow_putRow (enc := kv) (q := q) (k := (gone p st l).length) (ys := gone p st l ++ List.replicate (m - (gone p st l).length) []) hg.own (by simp; omega) hgl
    rw [List.take_left] at ho
    exact ho
theorem each_eq (f : Ds → Key → Nat × Ds) : ∀ (l : List Key) (s : Ds), opEach f s l = opEach' f s l
  | [], _ => rfl
  | k :: l, s => by
    unfold opEach opEach'
    rw [each_eq f l]
variable {w w' : World} {g g' : Nat → Tg} {d : Nat} {mb : Option Nat} {ad : Key → Nat} {s s' : Ds}
set_option maxRecDepth 100000 in
set_option maxHeartbeats 4000000 in
theorem pclear_any {A : Option Addr} {n c : Nat} {st : List Key} (h : Dsk w g d mb ad s) (p : Key) (hz : Kss w F A n st) (hn : n ≤ 140737488351232) :
    Calls Tryz.prog 35 #[pv d, kv p, .slice A n c] w (Post (opClear s p st) d w g) := by
  have hp : pv d = .pointer (some ⟨d, 0, none⟩) := rfl
  have hmf := @run_func Tryz.prog
  have hmost := h.ok.most
  have HKL : Bx (∀ t ∈ gone p st (nms s.fs), t.length ≤ 9223372036854775807) := ⟨fun t ht => by
    have ht := (List.mem_filter.1 ht).1
    unfold nms at ht
    obtain ⟨f, hf, rfl⟩ := List.mem_map.1 ht
    have := h.ok.fine.ok f hf
    unfold okN at this
    omega⟩
  have hcA : Ch (fun _ => False) w ((w.alloc (.cells #[kv p] 9)).alloc (.cells #[.slice A n c] 81)) := ((Ch.refl _ _).alloc _).alloc _
  have HH := Bx.mk h
  have HLI := Bx.mk (list_any (h.keep hcA))
  have HOP : Bx (opClear s p st = opEach opRem s (gone p st (nms s.fs))) := ⟨by rw [each_eq]; rfl⟩
  have HDL : Bx (∀ (W : World) (A1 : Option Addr) (m c1 : Nat), Gs 9 1 ((w.alloc (.cells #[kv p] 9)).alloc (.cells #[.slice A n c] 81)) W (.slice A1 m c1) m ((nms s.fs).map kv) → Calls Tryz.prog 67 #[.slice A1 m c1, .func (.func 63) #[] #[.pointer (some ⟨w.heap.size, 0, none⟩), .pointer (some ⟨w.heap.size + 1, 0, none⟩)]] W (ListOf (gone p st (nms s.fs)) ((w.alloc (.cells #[kv p] 9)).alloc (.cells #[.slice A n c] 81)))) := ⟨fun W A1 m c1 hg => by
    refine del_any (F := fun b => F b ∧ b < w.heap.size) (A := A) (n := n) (c := c) (StayC.ch (S := fun _ => False) (W := (w.alloc (.cells #[kv p] 9)).alloc (.cells #[.slice A n c] 81)) ⟨?_, ?_, ?_⟩ hg.ch (fun h => h) (fun h => h) (fun _ _ _ h => h)) (by omega) hg (by simp; omega) (by simp) (fun b hb => by have := hb.2; simp; omega) (by have := hg.own.1; unfold nms at this; simp at this; omega)
    · have h1 : (w.alloc (.cells #[kv p] 9)).cell? ⟨w.heap.size, 0, none⟩ = some (kv p) := by simp
      exact ((Ch.refl (fun _ => False) _).alloc _).cell (fun h => h) h1
    · simp
    · exact (hz.mono (G := fun b => F b ∧ b < w.heap.size) (fun b hb hf => ⟨hf, hb⟩)).ch hcA (fun _ _ _ h => h)⟩
  have HRM : Bx (∀ (W : World) (A1 : Option Addr) (m c1 : Nat), Gs 9 1 ((w.alloc (.cells #[kv p] 9)).alloc (.cells #[.slice A n c] 81)) W (.slice A1 m c1) m ((gone p st (nms s.fs)).map kv) → Calls Tryz.prog 66 #[pv d, .slice A1 m c1] W (Post (opEach opRem s (gone p st (nms s.fs))) d w g)) := ⟨fun W A1 m c1 hg => by
    have hc := hcA.trans hg.ch (fun _ _ h => h)
    have hlen : (gone p st (nms s.fs)).length ≤ 4096 := by
      refine Nat.le_trans (List.length_filter_le _ _) ?_
      unfold nms
      simpa using hmost
    have hml : m = (gone p st (nms s.fs)).length := by have := hg.own.1; simp at this; omega
    refine (removed_any (HH.out.keep hc) hg.vs (fun b hb => ?_) (by omega) HKL.out).mono fun e w' ⟨e1, g', mb', ad', e2, e3⟩ => ⟨e1, g', mb', ad', e2, (Dgo.quiet hc).trans e3⟩
    have hb2 : w.heap.size + 1 + 1 ≤ b := by simpa using hb
    rcases hgt : g b with _ | _ | _ | _
    · rfl
    all_goals
      have h7 := HH.out.lt b (by rw [hgt]; exact fun e => by cases e)
      omega⟩
  obtain ⟨S, hkv⟩ : ∃ S, kv p = .string S := ⟨_, rfl⟩
  rw [hkv] at HLI HDL HRM ⊢
  rw [hp] at HLI HRM ⊢
  rw [HOP.out]
  clear hp h hz hkv hcA hmost
  go_enter Tryz.func35, Tryz.ntmps35
  go_wp2_with fail
  refine HLI.out.mono ?_
  rintro e w3 ⟨A1, m1, c1, rfl, hg, hnc, hcm⟩
  have HD2 := Bx.mk (HDL.out w3 A1 m1 c1 hg)
  clear HDL HLI hg hnc hcm
  go_wp2_with fail
  refine HD2.out.mono ?_
  rintro e w4 ⟨A2, m2, c2, rfl, hg, hnc, hcm⟩
  have HR2 := Bx.mk (HRM.out w4 A2 m2 c2 hg)
  clear HRM HD2 hg hnc hcm
  go_wp2_with fail
  refine HR2.out.mono ?_
  rintro e w5 ⟨rfl, hpo⟩
  go_wp2
  go_ret
  exact ⟨rfl, hpo⟩
end
end
end Go.Proofs.YtbkakhfepiooaaaGreatDoor.D
