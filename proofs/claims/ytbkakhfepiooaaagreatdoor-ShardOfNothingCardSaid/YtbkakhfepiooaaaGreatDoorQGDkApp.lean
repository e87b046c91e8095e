/- Lemmas and contracts of this proof. Conditions: said at each. -/
import Derived.Test.YtbkakhfepiooaaaGreatDoorQGDkEach
namespace Go.Proofs.YtbkakhfepiooaaaGreatDoor.D
section
open Go.RowKit Go.Oct Go.Su Go.Dk Go.Maps
section
variable {w w' : World} {g g' : Nat → Tg} {d : Nat} {mb : Option Nat} {ad : Key → Nat} {s s' : Ds} {F S : Nat → Prop} {x y : Fl} {k : Key}
theorem lo_put (fs : Fs) (f : Fl) : lo (put fs f) f.nm = lo fs f.nm := by
  show (lo fs f.nm ++ f :: hi fs f.nm).filter _ = lo fs f.nm
  rw [List.filter_append, List.filter_cons_of_neg (by simp [key_irrefl]), List.filter_eq_self.2 (fun z hz => by simpa using (mem_lo.1 hz).2), List.filter_eq_nil_iff.2 (fun z hz => by simpa using key_le_of_lt (mem_hi.1 hz).2), List.append_nil]
theorem hi_put (fs : Fs) (f : Fl) : hi (put fs f) f.nm = hi fs f.nm := by
  show (lo fs f.nm ++ f :: hi fs f.nm).filter _ = hi fs f.nm
  rw [List.filter_append, List.filter_cons_of_neg (by simp [key_irrefl]), List.filter_eq_nil_iff.2 (fun z hz => by simpa using key_le_of_lt (mem_lo.1 hz).2), List.filter_eq_self.2 (fun z hz => by simpa using (mem_hi.1 hz).2), List.nil_append]
theorem put_put (fs : Fs) {f h : Fl} (e : h.nm = f.nm) : put (put fs f) h = put fs h := by
  show lo (put fs f) h.nm ++ h :: hi (put fs f) h.nm = lo fs h.nm ++ h :: hi fs h.nm
  rw [e, lo_put, hi_put]
theorem put_self {fs : Fs} (h : Rise (nms fs)) (hx : x ∈ fs) : put fs x = fs := (split_at h hx).symm
/-- A file with more bytes. -/
def addF (x : Fl) (b : List Int) : Fl := ⟨x.nm, x.bs ++ b, x.la⟩
theorem used_add {fs : Fs} (h : Rise (nms fs)) (hx : x ∈ fs) (b : List Int) : used (put fs (addF x b)) = used fs + b.length := by
  have e1 := used_put fs (addF x b)
  have e2 := used_at h hx
  have e3 : (addF x b).bs.length = x.bs.length + b.length := List.length_append
  have e4 : del fs (addF x b).nm = del fs x.nm := rfl
  rw [e1, e3, e4]
  omega
/-- A row is laid behind a file. -/
theorem Dsk.more {w1 : World} {v v' : Value} {b : List Int} (h : Dsk w g d mb ad s) (hx : x ∈ s.fs) (hroom : used s.fs + b.length ≤ s.room) (hb : ∀ z ∈ b, 0 ≤ z ∧ z < 256) (c0 : w.cell? ⟨ad x.nm, 0, none⟩ = some v) (ho : w1.ownsRow 0 5 1 v' (x.bs.length + b.length) (x.bs.map (Value.int .u8) ++ b.map (Value.int .u8)))
    (hg : w.grownBy w1 v.ownBlock) (hv : v'.ownBlock = v.ownBlock ∨ v'.ownBlock = some w.heap.size) :
    ∃ g', Dsk ((w1.setCell ⟨ad x.nm, 0, none⟩ v').setCell ⟨d, 2, none⟩ (.int .i64 ((used s.fs + b.length : Nat) : Int))) g' d mb ad ⟨s.room, put s.fs (addF x b), s.left⟩ ∧ Dgo w g ((w1.setCell ⟨ad x.nm, 0, none⟩ v').setCell ⟨d, 2, none⟩ (.int .i64 ((used s.fs + b.length : Nat) : Int))) g' := by
  have hF := h.files x hx
  obtain ⟨v0, b0, b1, ho0, hr⟩ := hF.row
  obtain rfl : v = v0 := by rw [b0] at c0; injection c0 with c0; exact c0.symm
  obtain ⟨fz, lf, c3, c4, hf⟩ := h.fuse
  have hne : ad x.nm ≠ d := fun e => by have := hF.tag; rw [e, h.tag] at this; cases this
  have hva : v.ownBlock ≠ some (ad x.nm) := fun e => by have := hr _ e; rw [hF.tag] at this; cases this
  have hvd : v.ownBlock ≠ some d := fun e => by have := hr _ e; rw [h.tag] at this; cases this
  have hvl : ∀ r, v.ownBlock = some r → r < w.heap.size := fun r e => h.lt r (by rw [hr r e]; exact fun e => by cases e)
  have hc1 : Ch (fun i => v.ownBlock = some i) w w1 := (Ch.refl _ w).grown hg (fun i hi => .inl hi)
  have hlt1 : ∀ r, v'.ownBlock = some r → r < w1.heap.size := fun r e => own_lt ho r e
  have hv2 : ∀ r, v'.ownBlock = some r → r ≠ ad x.nm ∧ r ≠ d := fun r e => by
    rcases hv with hv | hv
    · rw [hv] at e
      exact ⟨fun e2 => hva (e2 ▸ e), fun e2 => hvd (e2 ▸ e)⟩
    · rw [hv] at e
      injection e with e
      have h1 := hF.lt
      have h2 := h.lt_d
      exact ⟨by omega, by omega⟩
  have hc2 := ((Ch.refl (fun i => i = d ∨ i = ad x.nm) w1).setCell (p := ⟨ad x.nm, 0, none⟩) (.inl (.inr rfl)) v').setCell (p := ⟨d, 2, none⟩) (.inl (.inl rfl)) (.int .i64 ((used s.fs + b.length : Nat) : Int))
  have hc : Ch (fun i => i = d ∨ g i = .fl x.nm ∨ g i = .rw x.nm) w ((w1.setCell ⟨ad x.nm, 0, none⟩ v').setCell ⟨d, 2, none⟩ (.int .i64 ((used s.fs + b.length : Nat) : Int))) := by
    refine (hc1.mono fun i _ hi => .inr (.inr (hr i hi))).trans hc2 fun i _ hi => ?_
    rcases hi with hi | hi
    · exact .inl hi
    · rw [hi]; exact .inr (.inl hF.tag)
  have hsz : ((w1.setCell ⟨ad x.nm, 0, none⟩ v').setCell ⟨d, 2, none⟩ (.int .i64 ((used s.fs + b.length : Nat) : Int))).heap.size = w1.heap.size := by simp [World.setCell]
  refine ⟨fun i => if v'.ownBlock = some i then .rw x.nm else g i, h.turn hx (y := addF x b) rfl (fun i => ?_) hc (fun i hi => ?_) ⟨?_, fun j => ?_, v', ?_, ?_, ?_, fun r hr2 => if_pos hr2⟩ rfl ⟨h.ok.fine.put (h.ok.fine.ok x hx) ?_ ?_, ?_, h.ok.room, ?_⟩ ?_ ?_ ?_ (fun j => ?_) (fz := fz) (lf := lf) ?_ ?_ hf, ⟨hc.mono fun i _ hi => ?_, fun i hi => ?_⟩⟩
  · by_cases e : v'.ownBlock = some i
    · refine .inr ⟨?_, .inr (if_pos e)⟩
      rcases hv with hv | hv
      · rw [hv] at e; exact .inl (hr i e)
      · rw [hv] at e; injection e with e; exact .inr (by omega)
    · exact .inl (if_neg e)
  · rw [hsz]
    by_cases e : v'.ownBlock = some i
    · exact hlt1 i e
    · have hi2 : g i ≠ .no := fun e2 => hi ((if_neg e).trans e2)
      exact Nat.lt_of_lt_of_le (h.lt i hi2) hc1.size
  · exact (if_neg (fun e => (hv2 _ e).1 rfl)).trans hF.tag
  · exact (World.frozen?_setCell _ _ _ _).trans ((World.frozen?_setCell _ _ _ _).trans ((hc1.frozen (p := ⟨ad x.nm, j, none⟩) hva hF.lt).trans (hF.zf j)))
  · exact (set_far hne.symm).trans (set_same (hc1.cell (p := ⟨ad x.nm, 0, none⟩) hva b0))
  · exact (set_far hne.symm).trans ((set_off (by decide)).trans (hc1.cell (p := ⟨ad x.nm, 1, none⟩) hva b1))
  · rw [show (addF x b).bs = x.bs ++ b from rfl, List.map_append, List.length_append]
    exact hc2.own ho (fun r e hi => by
      obtain ⟨e1, e2⟩ := hv2 r e
      rcases hi with hi | hi
      · exact e2 hi
      · exact e1 hi)
  · show x.la ≤ (x.bs ++ b).length
    rw [List.length_append]
    have := h.ok.fine.la x hx
    omega
  · intro z hz
    rcases List.mem_append.1 hz with hz | hz
    · exact h.ok.fine.byte x hx z hz
    · exact hb z hz
  · show used (put s.fs (addF x b)) ≤ s.room
    rw [used_add h.ok.fine.rise hx]
    exact hroom
  · show (put s.fs (addF x b)).length ≤ 4096
    rw [len_put_old (g := addF x b) h.ok.fine.rise hx rfl]
    exact h.ok.most
  · exact (set_off (by decide)).trans ((set_far hne).trans (hc1.cell (p := ⟨d, 0, none⟩) hvd h.c0))
  · exact (set_off (by decide)).trans ((set_far hne).trans (hc1.cell (p := ⟨d, 1, none⟩) hvd h.c1))
  · rw [show (Ds.mk s.room (put s.fs (addF x b)) s.left).fs = put s.fs (addF x b) from rfl, used_add h.ok.fine.rise hx]
    exact set_same ((set_far hne).trans (hc1.cell (p := ⟨d, 2, none⟩) hvd h.c2))
  · exact (World.frozen?_setCell _ _ _ _).trans ((World.frozen?_setCell _ _ _ _).trans ((hc1.frozen (p := ⟨d, j, none⟩) hvd h.lt_d).trans (h.zf j)))
  · exact (set_off (by decide)).trans ((set_far hne).trans (hc1.cell (p := ⟨d, 3, none⟩) hvd c3))
  · exact (set_off (by decide)).trans ((set_far hne).trans (hc1.cell (p := ⟨d, 4, none⟩) hvd c4))
  · rcases hi with hi | hi | hi
    · rw [hi, h.tag]; exact fun e => by cases e
    · rw [hi]; exact fun e => by cases e
    · rw [hi]; exact fun e => by cases e
  · by_cases e : v'.ownBlock = some i
    · rcases hv with hv | hv
      · rw [hv] at e; exact .inl (by rw [hr i e]; exact fun e => by cases e)
      · rw [hv] at e; injection e with e; exact .inr (by omega)
    · exact .inl (fun e2 => hi ((if_neg e).trans e2))
/-- What the loop of Append keeps. -/
structure AppLoop (w : World) (g : Nat → Tg) (s : Ds) (d : Nat) (mb : Option Nat) (ad : Key → Nat) (s1 : Ds) (x : Fl) (xss : List (List Int)) (j : Nat) (wr : World) (g' : Nat → Tg) : Prop where
  dsk : Dsk wr g' d mb ad ⟨s1.room, put s1.fs (addF x (cat (xss.take j))), s1.left⟩
  go : Dgo w g wr g'
  mem : x ∈ s1.fs
  ok : DsOk s1
  room : used s1.fs + (cat xss).length ≤ s1.room
theorem AppLoop.start {w w1 : World} {g g1 : Nat → Tg} {s s1 : Ds} {d : Nat} {mb : Option Nat} {ad : Key → Nat} {x : Fl} {xss : List (List Int)} (h : Dsk w1 g1 d mb ad s1) (hg : Dgo w g w1 g1) (hx : x ∈ s1.fs) (hr : used s1.fs + (cat xss).length ≤ s1.room) : AppLoop w g s d mb ad s1 x xss 0 w1 g1 := by
  have e : addF x (cat (xss.take 0)) = x := by unfold addF; simp [cat]
  refine ⟨?_, hg, hx, h.ok, hr⟩
  rw [e, put_self h.ok.fine.rise hx]
  exact h
theorem AppLoop.step {w wr : World} {g g' : Nat → Tg} {s s1 : Ds} {d a : Nat} {mb : Option Nat} {ad : Key → Nat} {x : Fl} {xss : List (List Int)} {j : Nat} {t : List Int} (h : AppLoop w g s d mb ad s1 x xss j wr g') (ht : xss[j]? = some t) (hby : ∀ z ∈ t, 0 ≤ z ∧ z < 256) (ha : ad x.nm = a) :
    (∃ A c q u, wr.cell? ⟨a, 0, none⟩ = some (.slice A q c) ∧ wr.ownsRow 0 5 1 (.slice A q c) q ((x.bs ++ cat (xss.take j)).map (Value.int .u8)) ∧ wr.frozen? ⟨a, 0, none⟩ = false ∧ wr.cell? ⟨d, 2, none⟩ = some (.int .i64 (u : Nat)) ∧ wr.frozen? ⟨d, 2, none⟩ = false ∧ q + t.length ≤ 1073741824 ∧ u + t.length ≤ 1073741824) ∧
    (∀ A c q u, wr.cell? ⟨a, 0, none⟩ = some (.slice A q c) → wr.ownsRow 0 5 1 (.slice A q c) q ((x.bs ++ cat (xss.take j)).map (Value.int .u8)) → wr.cell? ⟨d, 2, none⟩ = some (.int .i64 (u : Nat)) → ∀ A1 c1 (w1 : World), w1.ownsRow 0 5 1 (.slice A1 (q + t.length) c1) (q + t.length) ((x.bs ++ cat (xss.take j)).map (Value.int .u8) ++ t.map (Value.int .u8)) → wr.grownBy w1 (Value.slice A q c).ownBlock → ((Value.slice A1 (q + t.length) c1).ownBlock = (Value.slice A q c).ownBlock ∨ (Value.slice A1 (q + t.length) c1).ownBlock = some wr.heap.size) →
      w1.cell? ⟨a, 0, none⟩ = some (.slice A q c) ∧ w1.frozen? ⟨a, 0, none⟩ = false ∧ w1.cell? ⟨d, 2, none⟩ = some (.int .i64 (u : Nat)) ∧ w1.frozen? ⟨d, 2, none⟩ = false ∧
      ∃ g2, AppLoop w g s d mb ad s1 x xss (j + 1) ((w1.setCell ⟨a, 0, none⟩ (.slice A1 (q + t.length) c1)).setCell ⟨d, 2, none⟩ (.int .i64 ((u + t.length : Nat) : Int))) g2) := by
  have hy : addF x (cat (xss.take j)) ∈ put s1.fs (addF x (cat (xss.take j))) := mem_put.2 (.inl rfl)
  have hF := h.dsk.files _ hy
  have hnm : (addF x (cat (xss.take j))).nm = x.nm := rfl
  have hbs : (addF x (cat (xss.take j))).bs = x.bs ++ cat (xss.take j) := rfl
  have hu1 : used (put s1.fs (addF x (cat (xss.take j)))) = used s1.fs + (cat (xss.take j)).length := used_add h.ok.fine.rise h.mem _
  have hcr := cat_room ht
  have hro := h.room
  have hr30 := h.ok.room
  have huse : used (put s1.fs (addF x (cat (xss.take j)))) + t.length ≤ s1.room := by omega
  rw [hnm, ha] at hF
  obtain ⟨v, b0, b1, ho, hr⟩ := hF.row
  rw [hbs] at ho
  have hql : (x.bs ++ cat (xss.take j)).length ≤ used (put s1.fs (addF x (cat (xss.take j)))) := by
    have := used_at h.dsk.ok.fine.rise hy
    rw [hbs] at this
    show _ ≤ used (put s1.fs (addF x (cat (xss.take j))))
    have e : used (Ds.mk s1.room (put s1.fs (addF x (cat (xss.take j)))) s1.left).fs = used (put s1.fs (addF x (cat (xss.take j)))) := rfl
    omega
  constructor
  · obtain ⟨A, c, rfl, h1, h2⟩ := own_shape ho
    exact ⟨A, c, _, _, b0, ho, hF.zf 0, h.dsk.c2, h.dsk.zf 2, by omega, Nat.le_trans huse hr30⟩
  · intro A c q u k0 ko ku A1 c1 w1 ho1 hg1 hb1
    have hu : u = used (put s1.fs (addF x (cat (xss.take j)))) := by
      have := h.dsk.c2.symm.trans ku
      injection this with this
      injection this with _ this
      exact (Int.ofNat.inj this).symm
    have hq : q = (x.bs ++ cat (xss.take j)).length := by have := ko.1; simpa using this.symm
    subst hu
    have hva : v = .slice A q c := by rw [k0] at b0; injection b0 with b0; exact b0.symm
    have hlt : (Value.slice A q c).ownBlock ≠ some a := fun e => by have := hr _ (hva ▸ e); rw [hF.tag] at this; cases this
    have hld : (Value.slice A q c).ownBlock ≠ some d := fun e => by have := hr _ (hva ▸ e); rw [h.dsk.tag] at this; cases this
    have hc1 : Ch (fun i => (Value.slice A q c).ownBlock = some i) wr w1 := (Ch.refl _ wr).grown hg1 (fun i hi => .inl hi)
    refine ⟨hc1.cell (p := ⟨a, 0, none⟩) hlt k0, (hc1.frozen (p := ⟨a, 0, none⟩) hlt hF.lt).trans (hF.zf 0), hc1.cell (p := ⟨d, 2, none⟩) hld ku, (hc1.frozen (p := ⟨d, 2, none⟩) hld h.dsk.lt_d).trans (h.dsk.zf 2), ?_⟩
    have hm := h.dsk.more (x := addF x (cat (xss.take j))) (b := t) (v := .slice A q c) (v' := .slice A1 (q + t.length) c1) (w1 := w1) hy huse hby (by rw [hnm, ha]; exact k0) (by rw [hbs, ← hq]; exact ho1) hg1 hb1
    obtain ⟨g2, hd2, hg2⟩ := hm
    rw [hnm, ha] at hd2 hg2
    have e3 : put (put s1.fs (addF x (cat (xss.take j)))) (addF (addF x (cat (xss.take j))) t) = put s1.fs (addF x (cat (xss.take (j + 1)))) := by
      rw [put_put _ (by rfl)]
      congr 1
      unfold addF
      simp only [cat_more ht, List.append_assoc]
    refine ⟨g2, ⟨?_, h.go.trans hg2, h.mem, h.ok, h.room⟩⟩
    have hd3 : Dsk _ g2 d mb ad ⟨s1.room, put (put s1.fs (addF x (cat (xss.take j)))) (addF (addF x (cat (xss.take j))) t), s1.left⟩ := hd2
    rw [e3] at hd3
    exact hd3
theorem len_map (h : Dsk w g d mb ad s) : (Builtin.len_ #[85] 3 #[.map mb]).run Tryz.prog w = .ok (.int .i64 (s.fs.length : Int)) w := by
  cases mb with
  | none => rw [h.none_ rfl]; exact Maps.len_nil mapT _
  | some b =>
    have := ((h.some_ b rfl).2).len mapT 3
    rw [size_mapD] at this
    exact this
end
end
section
open Go.RowKit Go.Oct Go.Su Go.Dk Go.Maps
section
variable {w w' : World} {g g' : Nat → Tg} {d : Nat} {mb : Option Nat} {ad : Key → Nat} {s s' : Ds} {F S : Nat → Prop} {x y : Fl} {k : Key}
theorem app_err (h : may s k ≠ 0) (b : List Int) : opApp s k b = (may s k, s) := by unfold opApp; rw [if_pos h]
theorem app_full (h : may s k = 0) {b : List Int} (hr : ¬ Room s k b.length) : opApp s k b = (6, s) := by unfold opApp; rw [if_neg (by simp [h]), if_neg hr]
theorem app_ok (h : may s k = 0) {b : List Int} (hr : Room s k b.length) : opApp s k b = (0, ⟨s.room, put s.fs (grow (fnd s.fs k) k b), tick s.left⟩) := by unfold opApp; rw [if_neg (by simp [h]), if_pos hr]
set_option maxRecDepth 100000 in
set_option maxHeartbeats 8000000 in
theorem append_any {A : Option Addr} {n c : Nat} {xss : List (List Int)} (h : Dsk w g d mb ad s) (hk : k.length ≤ 9223372036854775807) (hz : Sls w F A n xss) (hF : ∀ b, F b → g b = .no) (hn : n ≤ 140737488355328) (hby : ∀ xs ∈ xss, ∀ z ∈ xs, 0 ≤ z ∧ z < 256) :
    Calls Tryz.prog 211 #[pv d, kv k, .slice A n c] w (Post (opApp s k (cat xss)) d w g) := by
  have hp : pv d = .pointer (some ⟨d, 0, none⟩) := rfl
  have HM := Bx.mk (may1_any h hk)
  have H := Bx.mk h
  have HKL := Bx.mk hk
  have HZ := Bx.mk hz
  have HL := Bx.mk hz.len
  have HF := Bx.mk hF
  have HBY := Bx.mk hby
  have HFI : Bx (∀ w1, Ch (fun _ => False) w w1 → Calls Tryz.prog 267 #[pv d, .slice A n c] w1 fun e w' => e = .returned (.bool (decide (used s.fs + (cat xss).length ≤ s.room))) ∧ Ch (fun _ => False) w1 w') := ⟨fun w1 hc => fits_any xss A n c (h.keep hc) (hz.ch hc (fun _ _ _ h => h)) hn⟩
  have HAD : Bx (∀ w1, Ch (fun _ => False) w w1 → fnd s.fs k = none → okN k → s.fs.length < 4096 → Calls Tryz.prog 268 #[pv d, kv k] w1 (AddOf s k d w1 g)) := ⟨fun w1 hc h1 h2 h3 => add_any (h.keep hc) h1 h2 h3⟩
  obtain ⟨S, hkv⟩ : ∃ S, kv k = .string S := ⟨_, rfl⟩
  obtain ⟨m, hm⟩ : ∃ m, may s k = m := ⟨_, rfl⟩
  obtain ⟨fb, hfb⟩ : ∃ fb, decide (used s.fs + (cat xss).length ≤ s.room) = fb := ⟨_, rfl⟩
  have HKV := Bx.mk hkv
  rw [hp] at HM HFI HAD ⊢
  rw [hkv] at HM HAD ⊢
  rw [hm] at HM
  rw [hfb] at HFI
  clear hp h hk hkv hz hF hby
  by_cases h0 : m = 0
  · subst h0
    have HMY := Bx.mk hm
    have HLN := Bx.mk H.out.ok.most
    clear hm
    obtain ⟨fl, hfl⟩ : ∃ fl, s.fs.length = fl := ⟨_, rfl⟩
    cases hf : fnd s.fs k with
    | none =>
      have HFN := Bx.mk hf
      clear hf
      by_cases hroom : fb = true ∧ fl < 4096
      · obtain ⟨rfl, hfl4⟩ := hroom
        have HRM : Bx (Room s k (cat xss).length) := ⟨of_decide_eq_true hfb, fun _ => by omega⟩
        have HR := Bx.mk (app_ok HMY.out HRM.out)
        have i4 : decide ((4096 : Int) ≤ (fl : Int)) = false := decide_eq_false (by omega)
        have i4' : decide (4096 ≤ fl) = false := decide_eq_false (by omega)
        have HFL := Bx.mk hfl
        clear hfb hfl
        go_enter Tryz.func211, Tryz.ntmps211
        go_wp2_with fail
        refine HM.out.mono ?_
        rintro e w1 ⟨rfl, hc1⟩
        have H1 := Bx.mk (H.out.keep hc1)
        have hlk := H1.out.look_no HFN.out (by unfold maxLen; exact HKL.out)
        have c0 := H1.out.c0
        rw [HKV.out] at hlk
        have HC1 := Bx.mk hc1
        have HFI1 := Bx.mk (HFI.out w1 hc1)
        clear hc1 HM HFI
        go_wp2_with fail
        refine HFI1.out.mono ?_
        rintro e w2 ⟨rfl, hc2⟩
        have hc12 := HC1.out.trans hc2 (fun _ _ h => h)
        have H2 := Bx.mk (H.out.keep hc12)
        have hln := len_map H2.out
        rw [HFL.out] at hln
        have c0 := H2.out.c0
        have HC2 := Bx.mk hc12
        have HAD2 := Bx.mk (HAD.out w2 hc12 HFN.out (may_ok HMY.out).2 (by have := HFL.out; omega))
        clear hc2 hc12 hlk HFI1 H1 HC1 HAD
        go_wp2_with fail
        refine HAD2.out.mono ?_
        rintro e w3 ⟨g1, b1, ad1, rfl, hd1, hg1⟩
        obtain ⟨s1, hs1⟩ : ∃ s1 : Ds, s1 = ⟨s.room, put s.fs ⟨k, [], 0⟩, s.left⟩ := ⟨_, rfl⟩
        obtain ⟨x, hx⟩ : ∃ x : Fl, x = ⟨k, [], 0⟩ := ⟨_, rfl⟩
        have HB : Bx (AppLoop w g s d (some b1) ad1 s1 x xss 0 w3 g1) := ⟨AppLoop.start (by rw [hs1]; exact hd1) ((Dgo.quiet HC2.out).trans hg1) (by rw [hs1, hx]; exact mem_put.2 (.inl rfl)) (by
          rw [hs1]
          show used (put s.fs ⟨k, [], 0⟩) + _ ≤ s.room
          rw [used_put, del_no H.out.ok.fine.rise (fnd_none HFN.out)]
          exact HRM.out.1)⟩
        have HX : Bx (s1.left = s.left ∧ ∀ b, (⟨s1.room, put s1.fs (addF x b), tick s1.left⟩ : Ds) = ⟨s.room, put s.fs (grow (fnd s.fs k) k b), tick s.left⟩) := ⟨by rw [hs1], fun b => by
          rw [hs1, hx, HFN.out]
          show Ds.mk s.room (put (put s.fs ⟨k, [], 0⟩) (addF ⟨k, [], 0⟩ b)) _ = _
          rw [put_put _ (by rfl)]
          rfl⟩
        have hxk : x.nm = k := by rw [hx]
        obtain ⟨a, ha⟩ : ∃ a, ad1 k = a := ⟨_, rfl⟩
        have HA : Bx (ad1 x.nm = a) := ⟨by rw [hxk]; exact ha⟩
        have hpa : pv (ad1 k) = .pointer (some ⟨a, 0, none⟩) := by rw [ha]; rfl
        rw [hpa]
        clear hd1 hg1 hs1 hx hxk ha hpa HAD2 hln c0 H2
        go_wp2_with fail
        go_loopw [11, 51] (fun _ i wr => ∃ (j : Nat) (g' : Nat → Tg), j ≤ n ∧ i = .int .i64 j ∧ Bx (AppLoop w g s d (some b1) ad1 s1 x xss j wr g')) (fun _ i _ => n - (intOf i).toNat)
        case atStart => exact ⟨0, g1, Nat.zero_le _, rfl, HB⟩
        case round =>
          obtain ⟨j, g', hj, rfl, hR⟩ := hrel
          obtain ⟨wo, rfl⟩ : ∃ wo : World, wo = wr := ⟨_, rfl⟩
          by_cases hlt : j < n
          · have dk : decide ((j : Int) < (n : Int)) = true := decide_eq_true (by omega)
            have i3 : (j : Int) < (n : Int) := by omega
            obtain ⟨bt, ot, A', c', t, rfl, _, ht, hcell, hts, htc, htm⟩ := (HZ.out.ch hR.out.go.ch (fun b hb _ hs => hs (HF.out b hb))).at_ hlt
            have HTX := Bx.mk ht.out
            have HST := Bx.mk (hR.out.step ht.out (HBY.out t (List.mem_of_getElem? ht.out)) HA.out)
            obtain ⟨A0, c0, q, u, f0, f1, f2, f3, f4, f5⟩ := HST.out.1
            have HTS := Bx.mk hts
            obtain ⟨tl, htl⟩ : ∃ tl, t.length = tl := ⟨_, rfl⟩
            have HTL := Bx.mk htl
            rw [htl] at hcell HTS HST f5
            have HO := Bx.mk f1
            have hq9 : q + tl ≤ 1073741824 ∧ u + tl ≤ 1073741824 := f5
            have HCEL := Bx.mk f0
            clear ht htc htm hts htl f1 f5
            go_wp2_with (at_builtin; refine wp_app rfl (.tmp 59) (.tmp 60) Tb rfl rfl HO.out rfl HTS.out ?c1 ?c2 ?c3 ?_)
            case c1 => exact ints_cells _ _
            case c2 => omega
            case c3 => omega
            intro v1 w1 ho1 hg1 hb1
            obtain ⟨A1, c1, rfl, _, _⟩ := own_shape ho1
            have HN := Bx.mk (HST.out.2 A0 c0 q u HCEL.out HO.out f3 A1 c1 w1 (by simpa [List.map_append] using ho1) hg1 hb1)
            obtain ⟨k1, k2, k3, k4, k5⟩ := HN.out
            have HK5 := Bx.mk k5
            have e1 : (u : Int) + (tl : Int) = ((u + tl : Nat) : Int) := by omega
            obtain ⟨ut, hut⟩ : ∃ ut, u + tl = ut := ⟨_, rfl⟩
            rw [hut] at e1 HK5
            have HUT := Bx.mk hut
            have hut9 : ut ≤ 1073741824 := by omega
            clear ho1 hg1 hb1 f0 f2 f3 f4 k5 hut
            have e2 : wrap64 ((u : Int) + (tl : Int)) = (ut : Int) := by rw [e1]; exact w64_of (by omega)
            go_wp2
            clear e2
            go_roundw
            case rel =>
              obtain ⟨g2, hk6⟩ := HK5.out
              exact ⟨j + 1, g2, by omega, by go_num, ⟨hk6⟩⟩
            case measure => simp [intOf]; omega
          · obtain rfl : n = j := by omega
            have dk : decide ((n : Int) < (n : Int)) = false := decide_eq_false (by omega)
            have HE : Bx (xss.take n = xss) := ⟨List.take_of_length_le (by rw [HL.out]; exact Nat.le_refl _)⟩
            have hd := hR.out.dsk
            rw [HE.out] at hd
            have HD := Bx.mk (done_any hd (by show s1.left ≠ some 0; rw [HX.out.1]; exact (may_ok HMY.out).1))
            rw [show pv d = .pointer (some ⟨d, 0, none⟩) from rfl] at HD
            have HG := Bx.mk hR.out.go
            have HTD := Bx.mk hd.tag
            clear hd hR
            go_wp2_with fail
            refine HD.out.mono ?_
            rintro e w4 ⟨rfl, hd4, hc4⟩
            go_wp2
            go_ret
            refine ⟨by rw [HR.out]; rfl, g', (some b1), ad1, ?_, HG.out.trans ⟨hc4.mono (fun i _ hi => by rw [hi, HTD.out]; exact (fun e => by cases e)), fun b hb => .inl hb⟩⟩
            rw [HR.out]
            have h5 : Dsk w4 g' d (some b1) ad1 ⟨s1.room, put s1.fs (addF x (cat xss)), tick s1.left⟩ := hd4
            rw [HX.out.2] at h5
            exact h5
      · have HRM : Bx (¬ Room s k (cat xss).length) := ⟨fun hr => hroom ⟨by rw [← hfb]; exact decide_eq_true hr.1, by have := hr.2 HFN.out; omega⟩⟩
        have HR := Bx.mk (app_full HMY.out HRM.out)
        have HFL := Bx.mk hfl
        clear hfb hfl
        cases fb with
        | false =>
          clear hroom
          go_enter Tryz.func211, Tryz.ntmps211
          go_wp2_with fail
          refine HM.out.mono ?_
          rintro e w1 ⟨rfl, hc1⟩
          have H1 := Bx.mk (H.out.keep hc1)
          have hlk := H1.out.look_no HFN.out (by unfold maxLen; exact HKL.out)
          have c0 := H1.out.c0
          rw [HKV.out] at hlk
          have HC1 := Bx.mk hc1
          have HFI1 := Bx.mk (HFI.out w1 hc1)
          clear hc1 HM HFI
          go_wp2_with fail
          refine HFI1.out.mono ?_
          rintro e w2 ⟨rfl, hc2⟩
          have hc12 := HC1.out.trans hc2 (fun _ _ h => h)
          clear hlk c0
          go_wp2
          go_ret
          exact ⟨by rw [HR.out]; rfl, g, mb, ad, by rw [HR.out]; exact H.out.keep hc12, Dgo.quiet hc12⟩
        | true =>
          have hfl4 : 4096 ≤ fl := by
            rcases Nat.lt_or_ge fl 4096 with h | h
            · exact absurd ⟨rfl, h⟩ hroom
            · exact h
          have i4 : decide ((4096 : Int) ≤ (fl : Int)) = true := decide_eq_true (by omega)
          have i4' : decide (4096 ≤ fl) = true := decide_eq_true (by omega)
          clear hroom
          go_enter Tryz.func211, Tryz.ntmps211
          go_wp2_with fail
          refine HM.out.mono ?_
          rintro e w1 ⟨rfl, hc1⟩
          have H1 := Bx.mk (H.out.keep hc1)
          have hlk := H1.out.look_no HFN.out (by unfold maxLen; exact HKL.out)
          have c0 := H1.out.c0
          rw [HKV.out] at hlk
          have HC1 := Bx.mk hc1
          have HFI1 := Bx.mk (HFI.out w1 hc1)
          clear hc1 HM HFI
          go_wp2_with fail
          refine HFI1.out.mono ?_
          rintro e w2 ⟨rfl, hc2⟩
          have hc12 := HC1.out.trans hc2 (fun _ _ h => h)
          have H2 := Bx.mk (H.out.keep hc12)
          have hln := len_map H2.out
          rw [HFL.out] at hln
          have c0 := H2.out.c0
          clear hlk
          go_wp2
          go_ret
          exact ⟨by rw [HR.out]; rfl, g, mb, ad, by rw [HR.out]; exact H2.out, Dgo.quiet hc12⟩
    | some x =>
      have HFN := Bx.mk hf
      clear hf
      cases fb with
      | true =>
        have HRM : Bx (Room s k (cat xss).length) := ⟨of_decide_eq_true hfb, fun e => by rw [HFN.out] at e; cases e⟩
        have HR := Bx.mk (app_ok HMY.out HRM.out)
        clear hfb hfl
        go_enter Tryz.func211, Tryz.ntmps211
        go_wp2_with fail
        refine HM.out.mono ?_
        rintro e w1 ⟨rfl, hc1⟩
        have H1 := Bx.mk (H.out.keep hc1)
        have hlk := H1.out.look_yes HFN.out (by unfold maxLen; exact HKL.out)
        have c0 := H1.out.c0
        rw [HKV.out] at hlk
        have HC1 := Bx.mk hc1
        have HFI1 := Bx.mk (HFI.out w1 hc1)
        clear hc1 HM HFI
        obtain ⟨a, ha⟩ : ∃ a, ad k = a := ⟨_, rfl⟩
        rw [ha] at hlk
        obtain ⟨hxm, hxn⟩ := fnd_some HFN.out
        have HA : Bx (ad x.nm = a) := ⟨by rw [hxn]; exact ha⟩
        have HXM := Bx.mk hxm
        have HXN := Bx.mk hxn
        clear ha hxm hxn
        go_wp2_with fail
        refine HFI1.out.mono ?_
        rintro e w3 ⟨rfl, hc2⟩
        have hc12 := HC1.out.trans hc2 (fun _ _ h => h)
        have hg1 : Dgo w g w3 g := Dgo.quiet hc12
        obtain ⟨s1, hs1⟩ : ∃ s1 : Ds, s1 = s := ⟨_, rfl⟩
        have HB : Bx (AppLoop w g s d mb ad s1 x xss 0 w3 g) := ⟨AppLoop.start (by rw [hs1]; exact H.out.keep hc12) hg1 (by rw [hs1]; exact HXM.out) (by rw [hs1]; exact HRM.out.1)⟩
        have HX : Bx (s1.left = s.left ∧ ∀ b, (⟨s1.room, put s1.fs (addF x b), tick s1.left⟩ : Ds) = ⟨s.room, put s.fs (grow (fnd s.fs k) k b), tick s.left⟩) := ⟨by rw [hs1], fun b => by
          rw [hs1, HFN.out]
          show Ds.mk s.room (put s.fs (addF x b)) _ = Ds.mk s.room (put s.fs ⟨k, x.bs ++ b, x.la⟩) _
          unfold addF
          rw [HXN.out]⟩
        clear hc2 hc12 hlk c0 hg1 hs1 HFI1 H1 HC1
        go_wp2_with fail
        go_loopw [11, 51] (fun _ i wr => ∃ (j : Nat) (g' : Nat → Tg), j ≤ n ∧ i = .int .i64 j ∧ Bx (AppLoop w g s d mb ad s1 x xss j wr g')) (fun _ i _ => n - (intOf i).toNat)
        case atStart => exact ⟨0, g, Nat.zero_le _, rfl, HB⟩
        case round =>
          obtain ⟨j, g', hj, rfl, hR⟩ := hrel
          obtain ⟨wo, rfl⟩ : ∃ wo : World, wo = wr := ⟨_, rfl⟩
          by_cases hlt : j < n
          · have dk : decide ((j : Int) < (n : Int)) = true := decide_eq_true (by omega)
            have i3 : (j : Int) < (n : Int) := by omega
            obtain ⟨bt, ot, A', c', t, rfl, _, ht, hcell, hts, htc, htm⟩ := (HZ.out.ch hR.out.go.ch (fun b hb _ hs => hs (HF.out b hb))).at_ hlt
            have HTX := Bx.mk ht.out
            have HST := Bx.mk (hR.out.step ht.out (HBY.out t (List.mem_of_getElem? ht.out)) HA.out)
            obtain ⟨A0, c0, q, u, f0, f1, f2, f3, f4, f5⟩ := HST.out.1
            have HTS := Bx.mk hts
            obtain ⟨tl, htl⟩ : ∃ tl, t.length = tl := ⟨_, rfl⟩
            have HTL := Bx.mk htl
            rw [htl] at hcell HTS HST f5
            have HO := Bx.mk f1
            have hq9 : q + tl ≤ 1073741824 ∧ u + tl ≤ 1073741824 := f5
            have HCEL := Bx.mk f0
            clear ht htc htm hts htl f1 f5
            go_wp2_with (at_builtin; refine wp_app rfl (.tmp 59) (.tmp 60) Tb rfl rfl HO.out rfl HTS.out ?c1 ?c2 ?c3 ?_)
            case c1 => exact ints_cells _ _
            case c2 => omega
            case c3 => omega
            intro v1 w1 ho1 hg1 hb1
            obtain ⟨A1, c1, rfl, _, _⟩ := own_shape ho1
            have HN := Bx.mk (HST.out.2 A0 c0 q u HCEL.out HO.out f3 A1 c1 w1 (by simpa [List.map_append] using ho1) hg1 hb1)
            obtain ⟨k1, k2, k3, k4, k5⟩ := HN.out
            have HK5 := Bx.mk k5
            have e1 : (u : Int) + (tl : Int) = ((u + tl : Nat) : Int) := by omega
            obtain ⟨ut, hut⟩ : ∃ ut, u + tl = ut := ⟨_, rfl⟩
            rw [hut] at e1 HK5
            have HUT := Bx.mk hut
            have hut9 : ut ≤ 1073741824 := by omega
            clear ho1 hg1 hb1 f0 f2 f3 f4 k5 hut
            have e2 : wrap64 ((u : Int) + (tl : Int)) = (ut : Int) := by rw [e1]; exact w64_of (by omega)
            go_wp2
            clear e2
            go_roundw
            case rel =>
              obtain ⟨g2, hk6⟩ := HK5.out
              exact ⟨j + 1, g2, by omega, by go_num, ⟨hk6⟩⟩
            case measure => simp [intOf]; omega
          · obtain rfl : n = j := by omega
            have dk : decide ((n : Int) < (n : Int)) = false := decide_eq_false (by omega)
            have HE : Bx (xss.take n = xss) := ⟨List.take_of_length_le (by rw [HL.out]; exact Nat.le_refl _)⟩
            have hd := hR.out.dsk
            rw [HE.out] at hd
            have HD := Bx.mk (done_any hd (by show s1.left ≠ some 0; rw [HX.out.1]; exact (may_ok HMY.out).1))
            rw [show pv d = .pointer (some ⟨d, 0, none⟩) from rfl] at HD
            have HG := Bx.mk hR.out.go
            have HTD := Bx.mk hd.tag
            clear hd hR
            go_wp2_with fail
            refine HD.out.mono ?_
            rintro e w4 ⟨rfl, hd4, hc4⟩
            go_wp2
            go_ret
            refine ⟨by rw [HR.out]; rfl, g', mb, ad, ?_, HG.out.trans ⟨hc4.mono (fun i _ hi => by rw [hi, HTD.out]; exact (fun e => by cases e)), fun b hb => .inl hb⟩⟩
            rw [HR.out]
            have h5 : Dsk w4 g' d mb ad ⟨s1.room, put s1.fs (addF x (cat xss)), tick s1.left⟩ := hd4
            rw [HX.out.2] at h5
            exact h5
      | false =>
        have HRM : Bx (¬ Room s k (cat xss).length) := ⟨fun hr => absurd (decide_eq_true hr.1) (by rw [hfb]; simp)⟩
        have HR := Bx.mk (app_full HMY.out HRM.out)
        clear hfb hfl
        go_enter Tryz.func211, Tryz.ntmps211
        go_wp2_with fail
        refine HM.out.mono ?_
        rintro e w1 ⟨rfl, hc1⟩
        have H1 := Bx.mk (H.out.keep hc1)
        have hlk := H1.out.look_yes HFN.out (by unfold maxLen; exact HKL.out)
        have c0 := H1.out.c0
        rw [HKV.out] at hlk
        have HC1 := Bx.mk hc1
        have HFI1 := Bx.mk (HFI.out w1 hc1)
        clear hc1 HM HFI
        go_wp2_with fail
        refine HFI1.out.mono ?_
        rintro e w2 ⟨rfl, hc2⟩
        have hc12 := HC1.out.trans hc2 (fun _ _ h => h)
        clear hlk c0
        go_wp2
        go_ret
        exact ⟨by rw [HR.out]; rfl, g, mb, ad, by rw [HR.out]; exact H.out.keep hc12, Dgo.quiet hc12⟩
  · have HR := Bx.mk (app_err (s := s) (k := k) (by rw [hm]; exact h0) (cat xss))
    rw [hm] at HR
    have h0' : ¬ (m : Int) = 0 := by omega
    clear hm
    go_enter Tryz.func211, Tryz.ntmps211
    go_wp2_with fail
    refine HM.out.mono ?_
    rintro e w1 ⟨rfl, hc1⟩
    go_wp2
    go_ret
    exact ⟨by rw [HR.out]; rfl, g, mb, ad, by rw [HR.out]; exact H.out.keep hc1, Dgo.quiet hc1⟩
end
end
end Go.Proofs.YtbkakhfepiooaaaGreatDoor.D
