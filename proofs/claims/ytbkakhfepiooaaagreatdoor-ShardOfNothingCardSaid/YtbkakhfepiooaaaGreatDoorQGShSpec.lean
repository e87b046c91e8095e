/- Lemmas and contracts of this proof. Conditions: said at each. -/
import Derived.Test.YtbkakhfepiooaaaGreatDoorQGDkEach
import Derived.Test.YtbkakhfepiooaaaGreatDoorQGSgFind
import Derived.Test.YtbkakhfepiooaaaGreatDoorQGSgGet
namespace Go.Proofs.YtbkakhfepiooaaaGreatDoor
section
open Go.RowKit Go.Oct Go.Su Go.Sg Go.Om Go.Sh
/-- A text's bytes as a row of bytes. -/
def MaxC (w : World) : Prop := ∃ m, w.cell? ⟨4, 0, none⟩ = some (.int .i64 m)
/-- Few documents, few ops. -/
def Few (m : Sm) : Prop := m.ds.length + m.gs.length < 7 ∧ 0 ≤ m.ap ∧ m.ap < 1000
theorem few_mk {m : Sm} (h : m.ds.length + m.gs.length < 7) (e : m.ap = 0 ∨ m.ap = 1 ∨ m.ap = 2 ∨ m.ap = 3 ∨ m.ap = 4 ∨ m.ap = 5) : Few m := ⟨h, by omega, by omega⟩
structure ShSpec (ShP : World → (Nat → Prop) → Nat → Sm → Prop) : Prop where
  lt : ∀ {w P b m}, ShP w P b m → ∀ x, P x → x < w.heap.size
  ch : ∀ {w w' : World} {P T : Nat → Prop} {b : Nat} {m : Sm}, ShP w P b m → Ch T w w' → (∀ x, P x → ¬ T x) → ¬ T 4 → ShP w' P b m
  mx : ∀ {w P b m}, ShP w P b m → MaxC w ∧ ¬ P 4 ∧ 4 < w.heap.size
  open_ : ∀ (w : World) (S : Nat → Prop) (d room : Nat), D.Pd w S d ⟨room, [], none⟩ → MaxC w → ¬ S 4 → Calls Tryz.prog 9 #[.pointer (some ⟨d, 0, none⟩), .string ⟨#[100]⟩] w fun e w' =>
    ∃ P b, e = .returned (.tuple #[.pointer (some ⟨b, 0, none⟩), .int .i64 0]) ∧ ShP w' P b smNew ∧ (∀ x, P x → S x ∨ w.heap.size ≤ x) ∧ Ch S w w'
  apply_ : ∀ (w : World) (P F : Nat → Prop) (b : Nat) (m : Sm) (o : Ao) (xs : List Int) (A : Option Addr) (n c : Nat), ShP w P b m → GoodO o xs → Sl w F .u8 A n xs → Byt xs → n ≤ 90000 → n ≤ c → c ≤ maxLen → Few m →
    Calls Tryz.prog 11 #[.pointer (some ⟨b, 0, none⟩), .int .i64 (m.ap + 1), .slice A n c] w fun e w' =>
    ∃ (v : Value) (P' : Nat → Prop), e = .returned v ∧ w'.ownsRow 0 5 1 v (Go.Sh.step m o).1.length ((Go.Sh.step m o).1.map (Value.int .u8)) ∧ (∀ g, v.ownBlock = some g → w.heap.size ≤ g ∧ ¬ P' g) ∧ ShP w' P' b (Go.Sh.step m o).2 ∧ (∀ x, P' x → P x ∨ w.heap.size ≤ x) ∧ Ch P w w'
  get_ : ∀ (w : World) (P : Nat → Prop) (b : Nat) (m : Sm) (k : Key), ShP w P b m → okK k → Calls Tryz.prog 6 #[.pointer (some ⟨b, 0, none⟩), kv k] w fun e w' =>
    ∃ v, e = .returned (.tuple #[v, .bool (hasB m.ds k)]) ∧ Fresh w v (txtOf m.ds k) w'
  find_ : ∀ (w : World) (P F : Nat → Prop) (b : Nat) (m : Sm) (p : List Int) (A : Option Addr) (n c : Nat), ShP w P b m → Sl w F .u8 A n p → Byt p → 1 ≤ n → n ≤ 64 → Few m → Calls Tryz.prog 7 #[.pointer (some ⟨b, 0, none⟩), .slice A n c] w fun e w' =>
    ∃ (A' : Option Addr) (k c' : Nat), e = .returned (.tuple #[.slice A' k c', .int .i64 0]) ∧ Mts w' (fun x => w.heap.size ≤ x) A' k ((finds m.ds p).map fun h => (h.1, (h.2 : Int))) ∧ Ch (fun _ => False) w w'
  applied_ : ∀ (w : World) (P : Nat → Prop) (b : Nat) (m : Sm), ShP w P b m → Calls Tryz.prog 12 #[.pointer (some ⟨b, 0, none⟩)] w fun e w' => e = .returned (.int .i64 m.ap) ∧ w = w'
end
section
open Go.RowKit Go.Oct Go.Su Go.Sg Go.Om Go.Sh Go.Maps
/-- A session as a value. -/
def sesV (e : Int) (A : Option Addr) (n c : Nat) (q : Int) : Value := .agg #[.int .i64 e, .slice A n c, .int .i64 q]
theorem intLaw : Keyed Tryz.prog 3 := int_keyed Tryz.underlying3
theorem sesT : Tryz.prog.underlying 57 = some (.map 3 146) := Tryz.underlying57
theorem sesZ (w : World) : (zeroValue 146).run Tryz.prog w = .ok (sesV 0 none 0 0 0) w := by kernel_rfl
theorem int_key {c : Int} (h0 : 0 ≤ c) (h1 : c ≤ 1099511627776) : keyOf Tryz.prog 3 (.int .i64 c) = some (.int .i64 c) :=
  keyOf_int_mk Tryz.underlying3 (by
    have e1 : IntKind.i64.min = -9223372036854775808 := by decide
    have e2 : IntKind.i64.max = 9223372036854775807 := by decide
    show (decide (IntKind.i64.min ≤ c) && decide (c ≤ IntKind.i64.max)) = true
    rw [e1, e2, decide_eq_true (by omega), decide_eq_true (by omega)]
    rfl)
/-- A session that stands there. -/
def SesOk (w : World) (F : Nat → Prop) (v : Value) (s : Ses) : Prop := ∃ (e : Int) (A : Option Addr) (n c : Nat) (l : List Int), v = sesV e A n c s.sq ∧ Sl w F .i64 A n l ∧ n ≤ 1000000 ∧ n ≤ c ∧ c ≤ maxLen ∧ s.rp = repB e l
theorem SesOk.ch {w w' : World} {F S : Nat → Prop} {v : Value} {s : Ses} (h : SesOk w F v s) (hc : Ch S w w') (hF : ∀ b, F b → b < w.heap.size → ¬ S b) : SesOk w' F v s := by
  obtain ⟨e, A, n, c, l, h1, h2, h3⟩ := h
  exact ⟨e, A, n, c, l, h1, h2.ch hc hF, h3⟩
theorem SesOk.mono {w : World} {F G : Nat → Prop} {v : Value} {s : Ses} (h : SesOk w F v s) (hF : ∀ b, b < w.heap.size → F b → G b) : SesOk w G v s := by
  obtain ⟨e, A, n, c, l, h1, h2, h3⟩ := h
  exact ⟨e, A, n, c, l, h1, h2.mono hF, h3⟩
/-- Sessions that stand in a map. -/
structure SesP (w : World) (F : Nat → Prop) (sb n : Nat) (ss : Int → Option Ses) : Prop where
  map : ∃ f, Mp.Mp Tryz.prog 3 w sb n f ∧ (∀ c, ss c = none → f (.int .i64 c) = none) ∧ ∀ c s, ss c = some s → ∃ v, f (.int .i64 c) = some v ∧ SesOk w F v s
/-- Where the parts of a shard lie. -/
structure Wh where
  t : Nat
  sb : Nat
  n : Nat
  nx : Int
  sr : Int
  d : Nat
  pf : Key
/-- What of it are the sessions' replies. -/
def FS (P PT : Nat → Prop) (b sb : Nat) (x : Nat) : Prop := P x ∧ ¬ PT x ∧ x ≠ b ∧ x ≠ sb
structure ShT (w : World) (P PT : Nat → Prop) (b : Nat) (h : Wh) (m : Sm) : Prop where
  c0 : w.cell? ⟨b, 0, none⟩ = some (.int .i64 m.ap)
  c1 : w.cell? ⟨b, 1, none⟩ = some (.int .i64 h.nx)
  c2 : w.cell? ⟨b, 2, none⟩ = some (.slice none 0 0)
  c3 : w.cell? ⟨b, 3, none⟩ = some (.map (some h.sb))
  c4 : w.cell? ⟨b, 4, none⟩ = some (.int .i64 h.sr)
  c5 : w.cell? ⟨b, 5, none⟩ = some (.pointer (some ⟨h.t, 0, none⟩))
  c6 : w.cell? ⟨b, 6, none⟩ = some (.pointer (some ⟨h.d, 0, none⟩))
  c7 : w.cell? ⟨b, 7, none⟩ = some (kv h.pf)
  zf : ∀ j, w.frozen? ⟨b, j, none⟩ = false
  tab : M.TabP w PT h.t m.ds m.gs
  ses : SesP w (FS P PT b h.sb) h.sb h.n m.ss
  pb : P b
  ps : P h.sb
  pt : ∀ x, PT x → P x
  nb : ¬ PT b
  ns : ¬ PT h.sb
  ne : b ≠ h.sb
  lt : ∀ x, P x → x < w.heap.size
  mp : ¬ P 4
  few : (h.n : Int) ≤ m.ap
/-- The program's shard at block b; all its blocks are of P. -/
def ShP (w : World) (P : Nat → Prop) (b : Nat) (m : Sm) : Prop := ∃ PT h, ShT w P PT b h m
section
variable {w w' : World} {P PT T : Nat → Prop} {b : Nat} {h : Wh} {m : Sm}
theorem SesP.ch {F S : Nat → Prop} {sb n : Nat} {ss : Int → Option Ses} (h : SesP w F sb n ss) (hc : Ch S w w') (hs : ¬ S sb) (hF : ∀ b, F b → b < w.heap.size → ¬ S b) : SesP w' F sb n ss := by
  obtain ⟨f, h1, h2, h3⟩ := h.map
  exact ⟨f, h1.ch hc hs, h2, fun c s e => by
    obtain ⟨v, h4, h5⟩ := h3 c s e
    exact ⟨v, h4, h5.ch hc hF⟩⟩
theorem SesP.mono {F G : Nat → Prop} {sb n : Nat} {ss : Int → Option Ses} (h : SesP w F sb n ss) (hF : ∀ b, b < w.heap.size → F b → G b) : SesP w G sb n ss := by
  obtain ⟨f, h1, h2, h3⟩ := h.map
  exact ⟨f, h1, h2, fun c s e => by
    obtain ⟨v, h4, h5⟩ := h3 c s e
    exact ⟨v, h4, h5.mono hF⟩⟩
theorem ShT.ch (H : ShT w P PT b h m) (hc : Ch T w w') (hP : ∀ x, P x → ¬ T x) (hV : ¬ T 4) : ShT w' P PT b h m := by
  have hb := hP b H.pb
  exact ⟨hc.cell (p := ⟨b, 0, none⟩) hb H.c0, hc.cell (p := ⟨b, 1, none⟩) hb H.c1, hc.cell (p := ⟨b, 2, none⟩) hb H.c2, hc.cell (p := ⟨b, 3, none⟩) hb H.c3, hc.cell (p := ⟨b, 4, none⟩) hb H.c4, hc.cell (p := ⟨b, 5, none⟩) hb H.c5, hc.cell (p := ⟨b, 6, none⟩) hb H.c6, hc.cell (p := ⟨b, 7, none⟩) hb H.c7,
    fun j => by rw [hc.frozen (p := ⟨b, j, none⟩) hb (H.lt b H.pb)]; exact H.zf j,
    H.tab.ch hc (fun x hx => hP x (H.pt x hx)) hV, H.ses.ch hc (hP _ H.ps) (fun x hx _ => hP x hx.1), H.pb, H.ps, H.pt, H.nb, H.ns, H.ne, fun x hx => Nat.lt_of_lt_of_le (H.lt x hx) hc.size, H.mp, H.few⟩
theorem ShT.keep (H : ShT w P PT b h m) (hc : Ch (fun _ => False) w w') : ShT w' P PT b h m := H.ch hc (fun _ _ h => h) (fun h => h)
theorem ShT.mx (H : ShT w P PT b h m) : MaxC w := H.tab.mx
/-- What the map of sessions says of a client. -/
theorem ShT.look (H : ShT w P PT b h m) {c : Int} (h0 : 0 ≤ c) (h1 : c ≤ 1099511627776) :
    ∃ (hb : Bool) (E : Int) (A : Option Addr) (N K : Nat) (Q : Int), (∀ w', Ch (fun _ => False) w w' → (Instr.lookup 57 (.map (some h.sb)) (.int .i64 c) true).run Tryz.prog w' = .ok (.tuple #[sesV E A N K Q, .bool hb]) w') ∧
    ((hb = false ∧ m.ss c = none) ∨ (hb = true ∧ ∃ s l, m.ss c = some s ∧ Q = s.sq ∧ Sl w (FS P PT b h.sb) .i64 A N l ∧ N ≤ 1000000 ∧ N ≤ K ∧ K ≤ maxLen ∧ s.rp = repB E l)) := by
  obtain ⟨f, hm, hn, hs⟩ := H.ses.map
  cases hc : m.ss c with
  | none =>
    refine ⟨false, 0, none, 0, 0, 0, fun w' hw => ?_, .inl ⟨rfl, rfl⟩⟩
    have hl := (hm.ch hw (fun h => h)).look_ok intLaw sesT (sesZ w') (int_key h0 h1)
    rw [hn c hc] at hl
    exact hl
  | some s =>
    obtain ⟨v, e1, e, A, n, k, l, rfl, h2, h3, h4, h5, h6⟩ := hs c s hc
    refine ⟨true, e, A, n, k, s.sq, fun w' hw => ?_, .inr ⟨rfl, s, l, rfl, rfl, h2, h3, h4, h5, h6⟩⟩
    have hl := (hm.ch hw (fun h => h)).look_ok intLaw sesT (sesZ w') (int_key h0 h1)
    rw [e1] at hl
    exact hl
end
end
section
open Go.RowKit Go.Oct Go.Su Go.Sg Go.Om Go.Sh Go.Maps
section
variable {w w' : World} {P PT T : Nat → Prop} {b : Nat} {h : Wh} {m : Sm}
theorem none_nil (w : World) : Calls Tryz.prog 21 #[.pointer none] w fun e w' => e = .returned (.bool true) ∧ w = w' := by
  go_enter Tryz.func21, Tryz.ntmps21
  go_wp2
  go_ret
  exact ⟨rfl, rfl⟩
theorem none_any (H : ShT w P PT b h m) : Calls Tryz.prog 21 #[.pointer (some ⟨b, 0, none⟩)] w fun e w' => e = .returned (.bool false) ∧ w = w' := by
  have c6 := H.c6
  clear H
  go_enter Tryz.func21, Tryz.ntmps21
  go_wp2
  go_ret
  exact ⟨rfl, rfl⟩
theorem comes_nil (i : Int) (w : World) : Calls Tryz.prog 20 #[.pointer none, .int .i64 i] w fun e w' => e = .returned (.bool false) ∧ w = w' := by
  go_enter Tryz.func20, Tryz.ntmps20
  go_wp2_with fail
  refine (none_nil w).mono ?_
  rintro e w1 ⟨rfl, rfl⟩
  go_wp2
  go_ret
  exact ⟨rfl, rfl⟩
theorem comes_any (H : ShT w P PT b h m) (h0 : 0 ≤ m.ap) (h1 : m.ap ≤ 1000000) : Calls Tryz.prog 20 #[.pointer (some ⟨b, 0, none⟩), .int .i64 (m.ap + 1)] w fun e w' => e = .returned (.bool true) ∧ w = w' := by
  have HN := Bx.mk (none_any H)
  have c0 := H.c0
  obtain ⟨a, ha⟩ : ∃ a, m.ap = a := ⟨_, rfl⟩
  rw [ha] at c0 h0 h1 ⊢
  clear H ha
  have e1 : decide (a < a + 1) = true := decide_eq_true (by omega)
  have e2 : a + 1 - 1 = a := by omega
  have e3 : IntKind.i64.wrap a = a := IntWalk.i64_in _ (by omega)
  have e4 : wrap64 a = a := by unfold wrap64; omega
  have e5 : IntKind.i64.wrap (a + 1 - 1) = a := by rw [e2, e3]
  have e6 : wrap64 (a + 1 - 1) = a := by rw [e2, e4]
  go_enter Tryz.func20, Tryz.ntmps20
  go_wp2_with fail
  refine HN.out.mono ?_
  rintro e w1 ⟨rfl, rfl⟩
  go_wp2
  go_ret
  exact ⟨rfl, rfl⟩
theorem applied_nil (w : World) : Calls Tryz.prog 12 #[.pointer none] w fun e w' => e = .returned (.int .i64 0) ∧ Ch (fun _ => False) w w' := by
  go_enter Tryz.func12, Tryz.ntmps12
  go_wp2_with fail
  refine (none_nil w).mono ?_
  rintro e w1 ⟨rfl, rfl⟩
  go_wp2
  go_ret
  exact ⟨rfl, Ch.refl _ _⟩
theorem applied_any (H : ShT w P PT b h m) : Calls Tryz.prog 12 #[.pointer (some ⟨b, 0, none⟩)] w fun e w' => e = .returned (.int .i64 m.ap) ∧ w = w' := by
  have HN := Bx.mk (none_any H)
  have c0 := H.c0
  clear H
  go_enter Tryz.func12, Tryz.ntmps12
  go_wp2_with fail
  refine HN.out.mono ?_
  rintro e w1 ⟨rfl, rfl⟩
  go_wp2
  go_ret
  exact ⟨rfl, rfl⟩
/-- The table as a layer. -/
def layV (t : Nat) : Value := .iface 60 (.pointer (some ⟨t, 0, none⟩))
/-- What layers makes. -/
def layW (w : World) (t : Nat) : World := w.alloc (.cells #[layV t] 68)
theorem layW_ch (w : World) (t : Nat) : Ch (fun _ => False) w (layW w t) := (Ch.refl _ _).alloc _
theorem layW_at (w : World) (t : Nat) : (layW w t).cell? ⟨w.heap.size, 0, none⟩ = some (layV t) := ncells_at (j := 0) rfl
theorem layers_any (H : ShT w P PT b h m) : Calls Tryz.prog 23 #[.pointer (some ⟨b, 0, none⟩)] w fun e w' => e = .returned (.slice (some ⟨w.heap.size, 0, none⟩) 1 1) ∧ w' = layW w h.t := by
  have c2 := H.c2
  have c5 := H.c5
  have d2 : (w.alloc (.cells #[.iface 60 (.pointer (some ⟨h.t, 0, none⟩))] 68)).cell? ⟨b, 2, none⟩ = some (.slice none 0 0) := ((Ch.refl (fun _ => False) w).alloc _).cell (fun h => h) c2
  clear H
  go_enter Tryz.func23, Tryz.ntmps23
  go_wp2
  go_rounds 1
  all_goals
    go_wp2
    go_ret
    exact ⟨rfl, rfl⟩
end
end
section
open Go.RowKit Go.Oct Go.Su Go.Sg Go.Om Go.Sh Go.Maps
section
variable {w w' : World} {P PT T : Nat → Prop} {b t : Nat} {h : Wh} {m : Sm} {ds : List Dc} {gs : List Key}
theorem gr_no {k : Key} {t : List Int} {hs : Bool} (h : M.GR ds gs k t hs false) : at_ ds k = none ∧ decide (k ∈ gs) = false := by
  unfold M.GR at h
  cases ha : at_ ds k with
  | some u => rw [ha] at h; simp at h
  | none => rw [ha] at h; exact ⟨rfl, h.2.2.symm⟩
theorem gr_has {k : Key} {t : List Int} {hs kn : Bool} (h : M.GR ds gs k t hs kn) : hs = hasB ds k ∧ t = txtOf ds k := by
  have e1 : hasB ds k = (at_ ds k).isSome := by
    unfold hasB at_
    rw [Option.isSome_map, Bool.eq_iff_iff, List.find?_isSome, List.any_eq_true]
  have e2 : txtOf ds k = (at_ ds k).getD [] := rfl
  unfold M.GR at h
  rw [e1, e2]
  cases ha : at_ ds k with
  | some u => rw [ha] at h; exact ⟨h.2.1, h.1⟩
  | none => rw [ha] at h; exact ⟨h.2.1, h.1⟩
/-- Of no layer nothing is known. -/
theorem ask_none (S : ByteArray) (A : Option Addr) (c : Nat) (w : World) : Calls Tryz.prog 22 #[.string S, .slice A 0 c] w fun e w' => e = .returned (.tuple #[.slice none 0 0, .bool false, .bool false]) ∧ w = w' := by
  go_enter Tryz.func22, Tryz.ntmps22
  go_wp2
  go_rounds 1
  all_goals
    go_wp2
    go_ret3
    exact ⟨rfl, rfl⟩
set_option maxHeartbeats 2000000 in
theorem ask_one (h : M.TabP w PT t ds gs) (k : Key) (hk : k.length ≤ 9223372036854775807) (bl : Nat) (hl : w.cell? ⟨bl, 0, none⟩ = some (layV t)) :
    Calls Tryz.prog 22 #[kv k, .slice (some ⟨bl, 0, none⟩) 1 1] w (M.GetOf ds gs k w) := by
  have HG := Bx.mk (M.mgetp_any h k hk)
  unfold layV at hl
  have eg : ∀ args w, (callFunc 424 args).run Tryz.prog w = .ok (.enter 424 args) w := enters_of Tryz.func424 (by kernel_rfl) rfl
  obtain ⟨S, hS⟩ : ∃ S : ByteArray, kv k = .string S := ⟨_, rfl⟩
  rw [hS] at HG ⊢
  clear h hS
  go_enter Tryz.func22, Tryz.ntmps22
  go_wp2_with fail
  go_loopw [14] (fun i wr => (i = .int .i64 0 ∧ wr = w) ∨ (i = .int .i64 1 ∧ Bx (Ch (fun _ => False) w wr ∧ at_ ds k = none ∧ decide (k ∈ gs) = false))) (fun i _ => 1 - (intOf i).toNat)
  case atStart => exact .inl ⟨rfl, rfl⟩
  case round =>
    rcases hrel with ⟨rfl, rfl⟩ | ⟨rfl, hN⟩
    · go_wp2_with fail
      refine HG.out.mono ?_
      rintro e w2 ⟨v, t2, hs, kn, rfl, hf, hgr⟩
      have HF := Bx.mk hf
      have HR := Bx.mk hgr
      clear hf hgr HG
      cases kn with
      | true =>
        go_wp2
        go_ret3
        exact ⟨v, t2, hs, true, rfl, HF.out, HR.out⟩
      | false =>
        go_wp2
        go_roundw
        case rel => exact .inr ⟨by go_num, ⟨HF.out.2.2, (gr_no HR.out).1, (gr_no HR.out).2⟩⟩
        case measure => simp [intOf]
    · go_wp2
      go_ret3
      exact ⟨_, [], false, false, rfl, fresh_none hN.out.1, M.GR.none hN.out.2.1 hN.out.2.2⟩
theorem get_nil_s (S : ByteArray) (w : World) : Calls Tryz.prog 6 #[.pointer none, .string S] w fun e w' => (∃ A c, e = .returned (.tuple #[.slice A 0 c, .bool false])) ∧ Ch (fun _ => False) w w' := by
  go_enter Tryz.func6, Tryz.ntmps6
  go_wp2_with fail
  refine (none_nil w).mono ?_
  rintro e w1 ⟨rfl, rfl⟩
  go_wp2
  go_ret2
  exact ⟨⟨_, _, rfl⟩, Ch.refl _ _⟩
/-- What Get leaves. -/
def GetS (ds : List Dc) (k : Key) (w : World) (e : Ending) (w' : World) : Prop := ∃ v, e = .returned (.tuple #[v, .bool (hasB ds k)]) ∧ Fresh w v (txtOf ds k) w'
theorem sget_any (H : ShT w P PT b h m) (k : Key) (hk : k.length ≤ 9223372036854775807) : Calls Tryz.prog 6 #[.pointer (some ⟨b, 0, none⟩), kv k] w (GetS m.ds k w) := by
  have HN := Bx.mk (none_any H)
  have HL := Bx.mk (layers_any H)
  have HC := Bx.mk (layW_ch w h.t)
  have HA := Bx.mk (ask_one (H.tab.keep HC.out) k hk w.heap.size (layW_at w h.t))
  obtain ⟨S, hS⟩ : ∃ S : ByteArray, kv k = .string S := ⟨_, rfl⟩
  rw [hS] at HA ⊢
  clear H hS
  go_enter Tryz.func6, Tryz.ntmps6
  go_wp2_with fail
  refine HN.out.mono ?_
  rintro e w1 ⟨rfl, rfl⟩
  go_wp2_with fail
  refine HL.out.mono ?_
  rintro e w1 ⟨rfl, rfl⟩
  go_wp2_with fail
  refine HA.out.mono ?_
  rintro e w2 ⟨v, t, hs, kn, rfl, hf, hg⟩
  obtain ⟨rfl, rfl⟩ := gr_has hg
  have HF := Bx.mk (Fresh.after HC.out hf)
  clear hf hg
  go_wp2
  go_ret2
  exact ⟨v, rfl, HF.out⟩
end
end
end Go.Proofs.YtbkakhfepiooaaaGreatDoor
