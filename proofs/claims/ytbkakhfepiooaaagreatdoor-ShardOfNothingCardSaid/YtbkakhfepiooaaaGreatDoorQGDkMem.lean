/- Lemmas and contracts of this proof. Conditions: said at each. -/
import Derived.Test.YtbkakhfepiooaaaGreatDoorQGSgWords
import Derived.Test.YtbkakhfepiooaaaGreatDoorQGSuRow
import Derived.Laws.OwnMore
import Derived.Lib.Hide
import Derived.Lib.Strings
import Derived.Shelf.Abstract
namespace Go.Proofs.YtbkakhfepiooaaaGreatDoor.D
section
open Go.RowKit Go.Oct Go.Su Go.Dk Go.Maps
/-- Whose a block is. -/
inductive Tg where
  | no | dk | mp
  | fl (k : Key)
  | rw (k : Key)
theorem mapLaw : Keyed Tryz.prog 9 := string_keyed Tryz.underlying9
/-- The map's own type. -/
theorem mapT : Tryz.prog.underlying 85 = some (.map 9 207) := Tryz.underlying85
theorem zeroF (w : World) : (zeroValue 207).run Tryz.prog w = .ok (.pointer none) w := by kernel_rfl
theorem key_of {k : Key} (h : k.length ≤ maxLen) : keyOf Tryz.prog 9 (kv k) = some (.string k) := by
  unfold kv
  have := Go.WideMaps.keyOf_string_mk (P := Tryz.prog) Tryz.underlying9 (s := ⟨k.toArray⟩) (by rw [key_size]; exact h)
  rwa [key_list] at this
/-- A file at block a. -/
structure Fil (w : World) (g : Nat → Tg) (a : Nat) (x : Fl) : Prop where
  tag : g a = .fl x.nm
  zf : ∀ j, w.frozen? ⟨a, j, none⟩ = false
  row : ∃ v, w.cell? ⟨a, 0, none⟩ = some v ∧ w.cell? ⟨a, 1, none⟩ = some (.int .i64 (x.la : Int)) ∧ w.ownsRow 0 5 1 v x.bs.length (x.bs.map (Value.int .u8)) ∧ ∀ r, v.ownBlock = some r → g r = .rw x.nm
section
variable {w w' : World} {g g' : Nat → Tg} {a d : Nat} {x y : Fl} {S T : Nat → Prop} {mb : Option Nat} {ad : Key → Nat} {s : Ds}
theorem Fil.lt (h : Fil w g a x) : a < w.heap.size := by
  obtain ⟨v, c0, _⟩ := h.row
  exact lt_of_cell c0
theorem Fil.ch (h : Fil w g a x) (hc : Ch S w w') (hS : ∀ b, g b = .fl x.nm ∨ g b = .rw x.nm → ¬ S b) : Fil w' g a x := by
  obtain ⟨v, c0, c1, ho, hr⟩ := h.row
  have ha : ¬ S a := hS a (.inl h.tag)
  exact ⟨h.tag, fun j => by rw [hc.frozen (p := ⟨a, j, none⟩) ha h.lt]; exact h.zf j, v, hc.cell (p := ⟨a, 0, none⟩) ha c0, hc.cell (p := ⟨a, 1, none⟩) ha c1, hc.own ho (fun r hv => hS r (.inr (hr r hv))), hr⟩
theorem Fil.tags (h : Fil w g a x) (ht : ∀ b, g b = .fl x.nm ∨ g b = .rw x.nm → g' b = g b) : Fil w g' a x := by
  obtain ⟨v, c0, c1, ho, hr⟩ := h.row
  exact ⟨by rw [ht a (.inl h.tag)]; exact h.tag, h.zf, v, c0, c1, ho, fun r hv => by rw [ht r (.inr (hr r hv))]; exact hr r hv⟩
/-- The fuse. -/
def FuseIs : Option Nat → Bool → Int → Prop
  | none, fz, _ => fz = false
  | some n, fz, lf => fz = true ∧ lf = n ∧ n ≤ 9223372036854775807
/-- The disk at block d; the map at mb, the files at ad. -/
structure Dsk (w : World) (g : Nat → Tg) (d : Nat) (mb : Option Nat) (ad : Key → Nat) (s : Ds) : Prop where
  ok : DsOk s
  lt : ∀ b, g b ≠ .no → b < w.heap.size
  tag : g d = .dk
  zf : ∀ j, w.frozen? ⟨d, j, none⟩ = false
  c0 : w.cell? ⟨d, 0, none⟩ = some (.map mb)
  c1 : w.cell? ⟨d, 1, none⟩ = some (.int .i64 (s.room : Int))
  c2 : w.cell? ⟨d, 2, none⟩ = some (.int .i64 (used s.fs : Int))
  fuse : ∃ fz lf, w.cell? ⟨d, 3, none⟩ = some (.bool fz) ∧ w.cell? ⟨d, 4, none⟩ = some (.int .i64 lf) ∧ FuseIs s.left fz lf
  none_ : mb = none → s.fs = []
  some_ : ∀ b, mb = some b → g b = .mp ∧ w.ownsMap Tryz.prog 9 heldR b s.fs.length (mapD s.fs ad)
  files : ∀ x ∈ s.fs, Fil w g (ad x.nm) x
/-- .. in blocks of S. -/
def Pd (w : World) (S : Nat → Prop) (d : Nat) (s : Ds) : Prop := (∃ g mb ad, Dsk w g d mb ad s ∧ ∀ b, g b ≠ .no → S b) ∧ ∀ b, S b → b < w.heap.size
/-- What a call of one of its functions leaves of it. -/
def Pdo (w : World) (S : Nat → Prop) (d : Nat) (s : Ds) (w' : World) : Prop := ∃ S', Pd w' S' d s ∧ Ch S w w' ∧ ∀ b, S' b → S b ∨ w.heap.size ≤ b
theorem own_map_ch {kt : TypeId} {b n : Nat} {D : DataW Value} {P : Program} (h : w.ownsMap P kt heldR b n D) (hc : Ch S w w') (hb : ¬ S b) : w'.ownsMap P kt heldR b n D := by
  have hl := h.lt
  obtain ⟨es, c, hh, r⟩ := h
  exact ⟨es, c, (hc.block b hl hb).trans hh, r⟩
theorem Dsk.ch (h : Dsk w g d mb ad s) (hc : Ch S w w') (hS : ∀ b, g b ≠ .no → ¬ S b) : Dsk w' g d mb ad s := by
  have hd : ¬ S d := hS d (by rw [h.tag]; exact fun e => by cases e)
  have hl : d < w.heap.size := lt_of_cell h.c0
  obtain ⟨fz, lf, f3, f4, hf⟩ := h.fuse
  exact ⟨h.ok, fun b hb => Nat.lt_of_lt_of_le (h.lt b hb) hc.size, h.tag, fun j => by rw [hc.frozen (p := ⟨d, j, none⟩) hd hl]; exact h.zf j, hc.cell (p := ⟨d, 0, none⟩) hd h.c0, hc.cell (p := ⟨d, 1, none⟩) hd h.c1, hc.cell (p := ⟨d, 2, none⟩) hd h.c2,
    ⟨fz, lf, hc.cell (p := ⟨d, 3, none⟩) hd f3, hc.cell (p := ⟨d, 4, none⟩) hd f4, hf⟩, h.none_, fun b hb => by
      obtain ⟨h1, h2⟩ := h.some_ b hb
      exact ⟨h1, own_map_ch h2 hc (hS b (by rw [h1]; exact fun e => by cases e))⟩, fun x hx => (h.files x hx).ch hc fun b hb => hS b (by rcases hb with e | e <;> rw [e] <;> exact fun e => by cases e)⟩
theorem Dsk.keep (h : Dsk w g d mb ad s) (hc : Ch (fun _ => False) w w') : Dsk w' g d mb ad s := h.ch hc (fun _ _ h => h)
theorem Pd.ch (h : Pd w T d s) (hc : Ch S w w') (hS : ∀ b, T b → ¬ S b) : Pd w' T d s := by
  obtain ⟨⟨g, mb, ad, h1, h2⟩, h3⟩ := h
  exact ⟨⟨g, mb, ad, h1.ch hc (fun b hb => hS b (h2 b hb)), h2⟩, fun b hb => Nat.lt_of_lt_of_le (h3 b hb) hc.size⟩
theorem Pd.keep (h : Pd w T d s) (hc : Ch (fun _ => False) w w') : Pd w' T d s := h.ch hc (fun _ _ h => h)
theorem Pd.ok (h : Pd w T d s) : DsOk s := by
  obtain ⟨⟨g, mb, ad, h1, _⟩, _⟩ := h
  exact h1.ok
theorem Pd.lt (h : Pd w T d s) : ∀ b, T b → b < w.heap.size := h.2
theorem Pdo.quiet (h : Pd w S d s) (hc : Ch (fun _ => False) w w') : Pdo w S d s w' := ⟨S, h.keep hc, hc.mono (fun _ _ h => h.elim), fun _ hb => .inl hb⟩
theorem Pdo.trans {w2 : World} {s' : Ds} (h : Pdo w S d s w') (k : ∀ S', Pd w' S' d s → Pdo w' S' d s' w2) : Pdo w S d s' w2 := by
  obtain ⟨S', h1, h2, h3⟩ := h
  obtain ⟨S2, k1, k2, k3⟩ := k S' h1
  refine ⟨S2, k1, h2.trans k2 (fun i hi hs => ?_), fun b hb => ?_⟩
  · rcases h3 i hs with h | h
    · exact h
    · omega
  · rcases k3 b hb with h | h
    · exact h3 b h
    · exact .inr (Nat.le_trans h2.size h)
/-- From the open form. -/
theorem Pdo.of {s' : Ds} {mb' : Option Nat} {ad' : Key → Nat} (h : ∀ b, g b ≠ .no → S b) (k : Dsk w' g' d mb' ad' s') (hc : Ch (fun b => g b ≠ .no) w w') (hn : ∀ b, g' b ≠ .no → g b ≠ .no ∨ w.heap.size ≤ b) : Pdo w S d s' w' :=
  ⟨fun b => g' b ≠ .no, ⟨⟨g', mb', ad', k, fun _ h => h⟩, k.lt⟩, hc.mono fun i _ hi => h i hi, fun b hb => by
    rcases hn b hb with h1 | h1
    · exact .inl (h b h1)
    · exact .inr h1⟩
/-- The open form of what a call leaves. -/
structure Dgo (w : World) (g : Nat → Tg) (w' : World) (g' : Nat → Tg) : Prop where
  ch : Ch (fun b => g b ≠ .no) w w'
  new : ∀ b, g' b ≠ .no → g b ≠ .no ∨ w.heap.size ≤ b
theorem Dgo.refl (w : World) (g : Nat → Tg) : Dgo w g w g := ⟨Ch.refl _ _, fun _ h => .inl h⟩
theorem Dgo.quiet (hc : Ch (fun _ => False) w w') : Dgo w g w' g := ⟨hc.mono (fun _ _ h => h.elim), fun _ h => .inl h⟩
theorem Dgo.trans {w2 : World} {g2 : Nat → Tg} (h : Dgo w g w' g') (k : Dgo w' g' w2 g2) : Dgo w g w2 g2 :=
  ⟨h.ch.trans k.ch fun i hi hs => by
    rcases h.new i hs with h1 | h1
    · exact h1
    · omega, fun b hb => by
    rcases k.new b hb with h1 | h1
    · exact h.new b h1
    · exact .inr (Nat.le_trans h.ch.size h1)⟩
theorem Dsk.pd (h : Dsk w g d mb ad s) : Pd w (fun b => g b ≠ .no) d s := ⟨⟨g, mb, ad, h, fun _ h => h⟩, h.lt⟩
theorem Pd.open_ (h : Pd w S d s) : ∃ g mb ad, Dsk w g d mb ad s ∧ ∀ b, g b ≠ .no → S b := h.1
theorem Dgo.pdo {mb' : Option Nat} {ad' : Key → Nat} {s' : Ds} (h : Dgo w g w' g') (hS : ∀ b, g b ≠ .no → S b) (k : Dsk w' g' d mb' ad' s') : Pdo w S d s' w' := Pdo.of hS k h.ch h.new
/-- A slice of names. -/
def Kss (w : World) (F : Nat → Prop) (A : Option Addr) (n : Nat) (l : List Key) : Prop := Vs w F A n (l.map kv)
theorem Kss.len {F : Nat → Prop} {A : Option Addr} {n : Nat} {l : List Key} (h : Kss w F A n l) : l.length = n := by simpa using h.1
theorem Kss.ch {F : Nat → Prop} {A : Option Addr} {n : Nat} {l : List Key} (h : Kss w F A n l) (hc : Ch S w w') (hF : ∀ b, F b → b < w.heap.size → ¬ S b) : Kss w' F A n l := Vs.ch h hc hF
theorem Kss.mono {F G : Nat → Prop} {A : Option Addr} {n : Nat} {l : List Key} (h : Kss w F A n l) (hF : ∀ b, b < w.heap.size → F b → G b) : Kss w G A n l := Vs.mono h hF
theorem Kss.at_ {F : Nat → Prop} {A : Option Addr} {n : Nat} {l : List Key} (h : Kss w F A n l) {j : Nat} (hj : j < n) : ∃ b off k, A = some ⟨b, off, none⟩ ∧ F b ∧ Hid (l[j]? = some k) ∧ w.cell? ⟨b, off + j, none⟩ = some (kv k) := by
  obtain ⟨b, off, u, e, hb, hu, hc⟩ := Vs.at_ h hj
  have hu := hu.out
  rw [List.getElem?_map] at hu
  cases hx : l[j]? with
  | none => rw [hx] at hu; cases hu
  | some x =>
    rw [hx] at hu
    simp only [Option.map_some, Option.some.injEq] at hu
    subst hu
    exact ⟨b, off, x, e, hb, rfl, hc⟩
end
end
section
open Go.RowKit Go.Oct Go.Su Go.Dk
section
variable {F S : Nat → Prop}
theorem str_empty (k : Key) : ((⟨k.toArray⟩ : ByteArray).toList == ([] : List UInt8)) = decide (k.length = 0) := by
  rw [Lib.toList_data]
  cases k <;> simp
theorem noname_any (k : Key) (w : World) (hk : k.length ≤ 9223372036854775807) : Calls Tryz.prog 243 #[kv k] w fun e w' => e = .returned (.bool (decide (¬ okN k))) ∧ w = w' := by
  have he := str_empty k
  have hs := key_size k
  obtain ⟨n, hn⟩ : ∃ n, k.length = n := ⟨_, rfl⟩
  have HO : Bx (∀ o : Bool, (o = true ↔ n = 0 ∨ 64 < n) → o = decide (¬ okN k)) := ⟨fun o ho => by
    rw [Bool.eq_iff_iff, ho]
    unfold okN
    simp only [hn, decide_eq_true_eq]
    omega⟩
  rw [hn] at hs he hk
  obtain ⟨S, hS⟩ : ∃ S, (⟨k.toArray⟩ : ByteArray) = S := ⟨_, rfl⟩
  have hkv : kv k = .string S := by rw [← hS]; rfl
  rw [hS] at hs he
  rw [hkv]
  clear hS hn hkv
  by_cases h0 : n = 0
  · have he' : (S.toList == ([] : List UInt8)) = true := by rw [he]; simp [h0]
    clear he
    go_enter Tryz.func243, Tryz.ntmps243
    go_wp2
    go_ret
    exact ⟨ret_bool (HO.out true (by simp [h0])), rfl⟩
  · have he' : (S.toList == ([] : List UInt8)) = false := by rw [he]; simp [h0]
    obtain ⟨o, ho⟩ : ∃ o, decide (64 < n) = o := ⟨_, rfl⟩
    have HO2 : Bx (o = decide (¬ okN k)) := ⟨HO.out o (by rw [← ho]; simp [h0])⟩
    have ho2 : decide ((64 : Int) < (n : Int)) = o := by rw [← ho, decide_eq_decide]; omega
    clear he HO
    go_enter Tryz.func243, Tryz.ntmps243
    go_wp2
    go_ret
    exact ⟨ret_bool HO2.out, rfl⟩
set_option maxHeartbeats 2000000 in
theorem indexno_any (l : List Key) (A : Option Addr) (n c : Nat) (w : World) (hz : Kss w F A n l) (hn : n ≤ 1048576) (hk : ∀ k ∈ l, k.length ≤ 9223372036854775807) :
    Calls Tryz.prog 120 #[.slice A n c, .func (.func 243) #[] #[]] w fun e w' => ∃ z : Int, e = .returned (.int .i64 z) ∧ (0 ≤ z ↔ ∃ k ∈ l, ¬ okN k) ∧ -1 ≤ z ∧ z ≤ 1048576 ∧ w = w' := by
  have HL := Bx.mk hz.len
  have HZ := Bx.mk hz
  have HK := Bx.mk hk
  have eg : ∀ args w, (callFunc 243 args).run Tryz.prog w = .ok (.enter 243 args) w := enters_of Tryz.func243 (by kernel_rfl) rfl
  clear hz hk
  go_enter Tryz.func120, Tryz.ntmps120
  go_wp2_with fail
  go_loop [5, 8] (fun _ i => ∃ k : Nat, k ≤ n ∧ i = .int .i64 k ∧ Bx (∀ j t, j < k → l[j]? = some t → okN t)) (fun _ i => n - (intOf i).toNat)
  case atStart => exact ⟨0, Nat.zero_le _, rfl, ⟨fun j t h => by omega⟩⟩
  case round =>
    obtain ⟨k, hk, rfl, hno⟩ := hrel
    by_cases hlt : k < n
    · have dk : decide ((k : Int) < (n : Int)) = true := decide_eq_true (by omega)
      obtain ⟨bt, ot, t, rfl, _, ht, hcell⟩ := HZ.out.at_ hlt
      have HTX := Bx.mk ht.out
      have HLN := HK.out t (List.mem_of_getElem? ht.out)
      have i2 : (k : Int) < (n : Int) := by omega
      have HC := Bx.mk (noname_any t w HLN)
      clear ht HLN
      obtain ⟨tv, htv⟩ : ∃ tv, kv t = tv := ⟨_, rfl⟩
      rw [htv] at hcell HC
      clear htv
      by_cases hbig : okN t
      · have HC2 : Bx (Calls Tryz.prog 243 #[tv] w fun e w' => e = .returned (.bool false) ∧ w = w') := ⟨by have := HC.out; simpa [hbig] using this⟩
        have HN : Bx (∀ j t, j < k + 1 → l[j]? = some t → okN t) := ⟨fun j u hj hu => by
          rcases Nat.lt_or_ge j k with h | h
          · exact hno.out j u h hu
          · obtain rfl : j = k := by omega
            rw [HTX.out] at hu
            injection hu with hu
            rw [← hu]
            exact hbig⟩
        clear hno hbig HC
        go_wp2_with fail
        refine HC2.out.mono ?_
        rintro e w1 ⟨rfl, rfl⟩
        go_wp2
        go_round
        case rel => exact ⟨k + 1, by omega, by go_num, HN⟩
        case measure => simp [intOf]; omega
      · have HC2 : Bx (Calls Tryz.prog 243 #[tv] w fun e w' => e = .returned (.bool true) ∧ w = w') := ⟨by have := HC.out; simpa [hbig] using this⟩
        have HE : Bx (∃ t ∈ l, ¬ okN t) := ⟨t, List.mem_of_getElem? HTX.out, hbig⟩
        clear hno hbig HC
        go_wp2_with fail
        refine HC2.out.mono ?_
        rintro e w1 ⟨rfl, rfl⟩
        go_wp2
        go_ret
        exact ⟨(k : Int), rfl, ⟨fun _ => HE.out, fun _ => by omega⟩, by omega, by omega, rfl⟩
    · obtain rfl : n = k := by omega
      have dk : decide ((n : Int) < (n : Int)) = false := decide_eq_false (by omega)
      have HE : Bx (¬ ∃ t ∈ l, ¬ okN t) := ⟨fun ⟨t, ht, h⟩ => by
        obtain ⟨j, hj⟩ := List.getElem?_of_mem ht
        exact h (hno.out j t (by rw [← HL.out]; exact (List.getElem?_eq_some_iff.1 hj).1) hj)⟩
      clear hno
      go_wp2
      go_ret
      exact ⟨-1, rfl, ⟨fun h => by omega, fun h => absurd h HE.out⟩, by omega, by omega, rfl⟩
theorem containsno_any (l : List Key) (A : Option Addr) (n c : Nat) (w : World) (hz : Kss w F A n l) (hn : n ≤ 1048576) (hk : ∀ k ∈ l, k.length ≤ 9223372036854775807) (o : Bool) (ho : o = true ↔ ∃ k ∈ l, ¬ okN k) :
    Calls Tryz.prog 242 #[.slice A n c, .func (.func 243) #[] #[]] w fun e w' => e = .returned (.bool o) ∧ w = w' := by
  have HC := Bx.mk (indexno_any l A n c w hz hn hk)
  have HO := Bx.mk ho
  clear hz ho hk
  go_enter Tryz.func242, Tryz.ntmps242
  go_wp2_with fail
  refine HC.out.mono ?_
  rintro e w1 ⟨z, rfl, hz, _, _, rfl⟩
  have HB : Bx (decide (0 ≤ z) = o) := ⟨by
    cases o with
    | true => exact decide_eq_true (hz.2 (HO.out.1 rfl))
    | false => exact decide_eq_false (fun h => by simpa using HO.out.2 (hz.1 h))⟩
  clear hz HC
  go_wp2
  go_ret
  exact ⟨ret_bool HB.out, rfl⟩
/-- The error of one of the five ahead of its own, of several names. -/
def mays (s : Ds) (l : List Key) : Nat := if s.left = some 0 then 9 else if ∀ k ∈ l, okN k then 0 else 1
theorem mays_one (s : Ds) (k : Key) : mays s [k] = may s k := by unfold mays may; simp
set_option maxHeartbeats 2000000 in
theorem may_any {g : Nat → Tg} {d : Nat} {mb : Option Nat} {ad : Key → Nat} {s : Ds} (l : List Key) (A : Option Addr) (n c : Nat) (w : World) (h : Dsk w g d mb ad s) (hz : Kss w F A n l) (hn : n ≤ 1048576) (hk : ∀ k ∈ l, k.length ≤ 9223372036854775807) :
    Calls Tryz.prog 189 #[pv d, .slice A n c] w fun e w' => e = .returned (.int .i64 (mays s l : Nat)) ∧ Ch (fun _ => False) w w' := by
  have hp : pv d = .pointer (some ⟨d, 0, none⟩) := rfl
  obtain ⟨fz, lf, c3, c4, hf⟩ := h.fuse
  have HM : Bx (∀ m : Nat, m = mays s l → Ending.returned (.int .i64 (m : Int)) = .returned (.int .i64 (mays s l : Nat))) := ⟨fun m e => by rw [e]⟩
  have HU : Bx (mays s l = if s.left = some 0 then 9 else if ∀ k ∈ l, okN k then 0 else 1) := ⟨rfl⟩
  have HC : Bx (∀ o : Bool, (o = true ↔ ∃ k ∈ l, ¬ okN k) → Calls Tryz.prog 242 #[.slice A n c, .func (.func 243) #[] #[]] w fun e w' => e = .returned (.bool o) ∧ w = w') := ⟨fun o ho => containsno_any l A n c w hz hn hk o ho⟩
  rw [hp]
  clear hp h hz hk
  have hcases : (fz = true ∧ lf = 0 ∧ s.left = some 0) ∨ ((fz = true ∧ lf ≠ 0 ∨ fz = false) ∧ s.left ≠ some 0) := by
    cases hl : s.left with
    | none => rw [hl] at hf; exact .inr ⟨.inr hf, fun e => by cases e⟩
    | some m =>
      rw [hl] at hf
      obtain ⟨rfl, rfl, _⟩ := hf
      by_cases hm : m = 0
      · subst hm; exact .inl ⟨rfl, rfl, rfl⟩
      · exact .inr ⟨.inl ⟨rfl, by omega⟩, fun e => by injection e with e; exact hm e⟩
  clear hf
  rcases hcases with ⟨rfl, rfl, hl⟩ | ⟨hor, hl⟩
  · have HV : Bx ((9 : Nat) = mays s l) := ⟨by rw [HU.out, if_pos hl]⟩
    clear hl HC
    go_enter Tryz.func189, Tryz.ntmps189
    go_wp2
    go_ret
    exact ⟨HM.out 9 HV.out, Ch.refl _ _⟩
  · have HV : Bx (mays s l = if ∀ k ∈ l, okN k then 0 else 1) := ⟨by rw [HU.out, if_neg hl]⟩
    clear hl
    by_cases ho : ∀ k ∈ l, okN k
    · have HV2 : Bx ((0 : Nat) = mays s l) := ⟨by rw [HV.out, if_pos ho]⟩
      have HC2 := Bx.mk (HC.out false ⟨fun e => (by cases e), fun ⟨k, hk, hn⟩ => absurd (ho k hk) hn⟩)
      clear ho HC HV HU
      rcases hor with ⟨rfl, hlf⟩ | rfl
      · go_enter Tryz.func189, Tryz.ntmps189
        go_wp2_with fail
        refine HC2.out.mono ?_
        rintro e w1 ⟨rfl, rfl⟩
        go_wp2
        go_ret
        exact ⟨HM.out 0 HV2.out, Ch.refl _ _⟩
      · go_enter Tryz.func189, Tryz.ntmps189
        go_wp2_with fail
        refine HC2.out.mono ?_
        rintro e w1 ⟨rfl, rfl⟩
        go_wp2
        go_ret
        exact ⟨HM.out 0 HV2.out, Ch.refl _ _⟩
    · have HV2 : Bx ((1 : Nat) = mays s l) := ⟨by rw [HV.out, if_neg ho]⟩
      have HC2 := Bx.mk (HC.out true ⟨fun _ => by
        by_cases hx : ∃ k ∈ l, ¬ okN k
        · exact hx
        · exact absurd (fun k hk => by
            by_cases h : okN k
            · exact h
            · exact absurd ⟨k, hk, h⟩ hx) ho, fun _ => rfl⟩)
      clear ho HC HV HU
      rcases hor with ⟨rfl, hlf⟩ | rfl
      · go_enter Tryz.func189, Tryz.ntmps189
        go_wp2_with fail
        refine HC2.out.mono ?_
        rintro e w1 ⟨rfl, rfl⟩
        go_wp2
        go_ret
        exact ⟨HM.out 1 HV2.out, Ch.refl _ _⟩
      · go_enter Tryz.func189, Tryz.ntmps189
        go_wp2_with fail
        refine HC2.out.mono ?_
        rintro e w1 ⟨rfl, rfl⟩
        go_wp2
        go_ret
        exact ⟨HM.out 1 HV2.out, Ch.refl _ _⟩
end
end
section
open Go.RowKit Go.Oct Go.Su Go.Dk Go.Maps
section
variable {w w' : World} {g : Nat → Tg} {d : Nat} {mb : Option Nat} {ad : Key → Nat} {s : Ds} {F S : Nat → Prop}
theorem w64_of {x : Int} (h : -9223372036854775808 ≤ x ∧ x ≤ 9223372036854775807) : wrap64 x = x := by
  unfold wrap64
  omega
theorem set_same {w : World} {p : Addr} {u v : Value} (h : w.cell? p = some u) : (w.setCell p v).cell? p = some v := World.cell?_setCell_same w p v h
theorem set_off {w : World} {b i j : Nat} {v : Value} (h : i ≠ j) : (w.setCell ⟨b, i, none⟩ v).cell? ⟨b, j, none⟩ = w.cell? ⟨b, j, none⟩ := World.cell?_setCell_other _ _ _ _ (fun e => h (by injection e))
theorem set_far {w : World} {b c i j : Nat} {v : Value} (h : b ≠ c) : (w.setCell ⟨b, i, none⟩ v).cell? ⟨c, j, none⟩ = w.cell? ⟨c, j, none⟩ := World.cell?_setCell_other _ _ _ _ (fun e => h (by injection e))
theorem ch_set (w : World) (d j : Nat) (v : Value) : Ch (fun b => b = d) w (w.setCell ⟨d, j, none⟩ v) := (Ch.refl (fun b => b = d) w).setCell (p := ⟨d, j, none⟩) (.inl rfl) v
theorem Dsk.lt_d (h : Dsk w g d mb ad s) : d < w.heap.size := lt_of_cell h.c0
/-- The disk's own cells have turned. -/
theorem Dsk.head {s' : Ds} (h : Dsk w g d mb ad s) (hc : Ch (fun b => b = d) w w') (hf : s'.fs = s.fs) (hok : DsOk s') (c0 : w'.cell? ⟨d, 0, none⟩ = some (.map mb)) (c1 : w'.cell? ⟨d, 1, none⟩ = some (.int .i64 (s'.room : Int)))
    (c2 : w'.cell? ⟨d, 2, none⟩ = some (.int .i64 (used s'.fs : Int))) (zf : ∀ j, w'.frozen? ⟨d, j, none⟩ = false) {fz : Bool} {lf : Int} (c3 : w'.cell? ⟨d, 3, none⟩ = some (.bool fz)) (c4 : w'.cell? ⟨d, 4, none⟩ = some (.int .i64 lf)) (hl : FuseIs s'.left fz lf) : Dsk w' g d mb ad s' := by
  refine ⟨hok, fun b hb => Nat.lt_of_lt_of_le (h.lt b hb) hc.size, h.tag, zf, c0, c1, c2, ⟨fz, lf, c3, c4, hl⟩, fun e => by rw [hf]; exact h.none_ e, fun b hb => ?_, fun x hx => ?_⟩
  · obtain ⟨h1, h2⟩ := h.some_ b hb
    refine ⟨h1, ?_⟩
    rw [hf]
    exact own_map_ch h2 hc (fun e => by subst e; rw [h.tag] at h1; cases h1)
  · rw [hf] at hx
    refine (h.files x hx).ch hc fun b hb e => ?_
    subst e
    rw [h.tag] at hb
    rcases hb with hb | hb <;> cases hb
theorem DsOk.left {s : Ds} (h : DsOk s) (o : Option Nat) : DsOk ⟨s.room, s.fs, o⟩ := ⟨h.fine, h.used, h.room, h.most⟩
set_option maxHeartbeats 2000000 in
theorem done_any (h : Dsk w g d mb ad s) (hl : s.left ≠ some 0) :
    Calls Tryz.prog 191 #[pv d] w fun e w' => e = .returned (.int .i64 0) ∧ Dsk w' g d mb ad ⟨s.room, s.fs, tick s.left⟩ ∧ Ch (fun b => b = d) w w' := by
  have hp : pv d = .pointer (some ⟨d, 0, none⟩) := rfl
  have H := Bx.mk h
  obtain ⟨fz, lf, c3, c4, hf⟩ := h.fuse
  have z4 := h.zf 4
  rw [hp]
  clear hp h
  cases hs : s.left with
  | none =>
    rw [hs] at hf
    obtain rfl : fz = false := hf
    have HR : Bx (Dsk w g d mb ad ⟨s.room, s.fs, tick none⟩) := ⟨by have := H.out; obtain ⟨a, b, l⟩ := s; subst hs; exact this⟩
    clear hl hs
    go_enter Tryz.func191, Tryz.ntmps191
    go_wp2
    go_ret
    exact ⟨rfl, HR.out, Ch.refl _ _⟩
  | some n =>
    rw [hs] at hf
    obtain ⟨rfl, rfl, hn⟩ := hf
    have hn0 : n ≠ 0 := fun e => hl (by rw [hs, e])
    obtain ⟨m, rfl⟩ : ∃ m, n = m + 1 := ⟨n - 1, by omega⟩
    have hm : m ≤ 9223372036854775807 := by omega
    have HR : Bx (Dsk (w.setCell ⟨d, 4, none⟩ (.int .i64 (m : Int))) g d mb ad ⟨s.room, s.fs, tick (some (m + 1))⟩) :=
      ⟨H.out.head (ch_set _ _ _ _) rfl (DsOk.left H.out.ok _) ((set_off (by decide)).trans H.out.c0) ((set_off (by decide)).trans H.out.c1) ((set_off (by decide)).trans H.out.c2) (fun j => by rw [World.frozen?_setCell]; exact H.out.zf j)
        ((set_off (by decide)).trans c3) (set_same c4) ⟨rfl, rfl, hm⟩⟩
    obtain ⟨x, hx⟩ : ∃ x : Int, ((m + 1 : Nat) : Int) = x := ⟨_, rfl⟩
    have hx2 : x - 1 = (m : Int) := by omega
    have hx3 : wrap64 (m : Int) = (m : Int) := w64_of (by omega)
    rw [hx] at c4
    clear hl hs hx hn0
    go_enter Tryz.func191, Tryz.ntmps191
    go_wp2
    go_ret
    exact ⟨rfl, HR.out, ch_set _ _ _ _⟩
end
end
end Go.Proofs.YtbkakhfepiooaaaGreatDoor.D
