/-
  The law MemPlays' memory: the program's table and the document's, beside each other; what a round has besides. Conditions: none of the plain lemmas; of the contracts: what lies there reads as it says.
-/
import Derived.Test.YtpilekadcondnaaMtKnown
import Derived.Test.YtpilekadcondnaaMmPut
import Derived.Test.YtpilekadcondnaaMmGet
namespace Go.Proofs.Ytpilekadcondnaa
open Go.RowKit Go.Oct Go.Su Go.Sg Go.Mt Go.Maps

/-- The program's table at t (state s), the document's at b (state r); blocks of E stand apart from both. -/
structure Bt (W w : World) (P F E : Nat → Prop) (t b : Nat) (s r : List Dc × List Key) : Prop where
  tp : TabP w P t s.1 s.2
  td : TabD w F b r.1 r.2
  pl : ∀ x, P x → W.heap.size ≤ x
  fl : ∀ x, F x → W.heap.size ≤ x ∧ x < w.heap.size
  bl : W.heap.size ≤ b
  ap : ∀ x, P x → ¬ F x ∧ x ≠ b
  ex : ∀ x, E x → W.heap.size ≤ x ∧ x < w.heap.size ∧ ¬ P x ∧ ¬ F x ∧ x ≠ b
  ch : Ch (fun _ => False) W w
section
variable {W w w2 : World} {P F E E' S : Nat → Prop} {t b : Nat} {s s' r r' : List Dc × List Key}
theorem Bt.keep (h : Bt W w P F E t b s r) (hc : Ch (fun _ => False) w w2) : Bt W w2 P F E t b s r :=
  ⟨h.tp.keep hc, h.td.keep hc, h.pl, fun x hx => ⟨(h.fl x hx).1, Nat.lt_of_lt_of_le (h.fl x hx).2 hc.size⟩, h.bl, h.ap, fun x hx => ⟨(h.ex x hx).1, Nat.lt_of_lt_of_le (h.ex x hx).2.1 hc.size, (h.ex x hx).2.2⟩, h.ch.trans hc (fun _ _ h => h)⟩
theorem Bt.drop (h : Bt W w P F E t b s r) (hE : ∀ x, E' x → E x) : Bt W w P F E' t b s r :=
  ⟨h.tp, h.td, h.pl, h.fl, h.bl, h.ap, fun x hx => h.ex x (hE x hx), h.ch⟩
/-- New blocks beside both. -/
theorem Bt.more (h : Bt W w P F E t b s r) (hc : Ch (fun _ => False) w w2) (hE : ∀ x, E' x → E x ∨ (w.heap.size ≤ x ∧ x < w2.heap.size)) : Bt W w2 P F E' t b s r := by
  have hk := h.keep hc
  have hb := h.td.lt
  refine ⟨hk.tp, hk.td, hk.pl, hk.fl, hk.bl, hk.ap, fun x hx => ?_, hk.ch⟩
  rcases hE x hx with e | e
  · exact hk.ex x e
  · have := h.ch.size
    refine ⟨by omega, e.2, fun hP => ?_, fun hF => ?_, by omega⟩
    · have := h.tp.lt x hP
      omega
    · have := (h.fl x hF).2
      omega
/-- Blocks beside both turn. -/
theorem Bt.spoilt (h : Bt W w P F E t b s r) (hg : 0 < W.heap.size) (hc : Ch S w w2) (hS : ∀ x, S x → E x ∨ w.heap.size ≤ x) : Bt W w2 P F E t b s r := by
  have hb := h.td.lt
  have hw := h.ch.size
  refine ⟨h.tp.ch hc (fun x hx hs => ?_) (fun hs => ?_), h.td.ch hc (fun hs => ?_) (fun x hx _ hs => ?_), h.pl, fun x hx => ⟨(h.fl x hx).1, Nat.lt_of_lt_of_le (h.fl x hx).2 hc.size⟩, h.bl, h.ap, fun x hx => ⟨(h.ex x hx).1, Nat.lt_of_lt_of_le (h.ex x hx).2.1 hc.size, (h.ex x hx).2.2⟩, h.ch.trans hc (fun i hi hs => ?_)⟩
  · rcases hS x hs with e | e
    · exact (h.ex x e).2.2.1 hx
    · have := h.tp.lt x hx
      omega
  · rcases hS _ hs with e | e
    · have := (h.ex _ e).1
      omega
    · omega
  · rcases hS _ hs with e | e
    · exact (h.ex _ e).2.2.2.2 rfl
    · omega
  · rcases hS x hs with e | e
    · exact (h.ex x e).2.2.2.1 hx
    · have := (h.fl x hx).2
      omega
  · rcases hS i hs with e | e
    · have := (h.ex i e).1
      omega
    · omega
theorem Bt.prog (h : Bt W w P F E t b s r) (hp : MPost s' t w P w2) : ∃ P', Bt W w2 P' F E t b s' r ∧ Ch P w w2 := by
  obtain ⟨P', k1, k2, k3⟩ := hp
  have hb := h.td.lt
  have hw := h.ch.size
  refine ⟨P', ⟨k1, h.td.ch k3 (fun hx => (h.ap _ hx).2 rfl) (fun x hx _ hs => (h.ap x hs).1 hx), fun x hx => ?_, fun x hx => ⟨(h.fl x hx).1, Nat.lt_of_lt_of_le (h.fl x hx).2 k3.size⟩, h.bl, fun x hx => ?_, fun x hx => ⟨(h.ex x hx).1, Nat.lt_of_lt_of_le (h.ex x hx).2.1 k3.size, fun hP => ?_, (h.ex x hx).2.2.2⟩, h.ch.trans k3 (fun i hi hs => ?_)⟩, k3⟩
  · rcases k2 x hx with e | e
    · exact h.pl x e
    · omega
  · rcases k2 x hx with e | e
    · exact h.ap x e
    · refine ⟨fun hF => ?_, by omega⟩
      have := (h.fl x hF).2
      omega
  · rcases k2 x hP with e | e
    · exact (h.ex x hx).2.2.1 e
    · have := (h.ex x hx).2.1
      omega
  · have := h.pl i hs
    omega
theorem Bt.doc (h : Bt W w P F E t b s r) (hg : 0 < W.heap.size) (hp : TPost r' b w F w2) : ∃ F', Bt W w2 P F' E t b s r' ∧ Ch (fun x => x = b) w w2 := by
  obtain ⟨F', k1, k2, k3⟩ := hp
  have hb := h.td.lt
  have hw := h.ch.size
  have hbl := h.bl
  refine ⟨F', ⟨h.tp.ch k3 (fun x hx e => (h.ap x hx).2 e) (fun e => by omega), k1, h.pl, fun x hx => ?_, h.bl, fun x hx => ⟨fun hF => ?_, (h.ap x hx).2⟩, fun x hx => ⟨(h.ex x hx).1, Nat.lt_of_lt_of_le (h.ex x hx).2.1 k3.size, (h.ex x hx).2.2.1, fun hF => ?_, (h.ex x hx).2.2.2.2⟩, h.ch.trans k3 (fun i hi hs => by omega)⟩, k3⟩
  · rcases k2 x hx with e | e
    · exact ⟨(h.fl x e).1, Nat.lt_of_lt_of_le (h.fl x e).2 k3.size⟩
    · exact ⟨by omega, e.2⟩
  · rcases k2 x hF with e | e
    · exact (h.ap x hx).1 e
    · have := h.tp.lt x hx
      omega
  · rcases k2 x hF with e | e
    · exact (h.ex x hx).2.2.2.1 e
    · have := (h.ex x hx).2.1
      omega
end
/-- What a round has besides: the step's box, the row with room. -/
structure Xt (w : World) (bx g tl kk cB : Nat) (SK : ByteArray) (B : Option Addr) (xs : List Int) : Prop where
  f1 : w.cell? ⟨bx, 1, none⟩ = some (.string SK)
  f2 : w.cell? ⟨bx, 2, none⟩ = some (.slice B tl cB)
  rb : w.ownsRow 0 5 1 (.slice (some ⟨g, 0, none⟩) (tl + 1) kk) (tl + 1) (xs.map (Value.int .u8) ++ [.int .u8 171])
theorem Xt.ch {w w2 : World} {S : Nat → Prop} {bx g tl kk cB : Nat} {SK : ByteArray} {B : Option Addr} {xs : List Int} (h : Xt w bx g tl kk cB SK B xs) (hc : Ch S w w2) (h1 : ¬ S bx) (h2 : ¬ S g) : Xt w2 bx g tl kk cB SK B xs :=
  ⟨hc.cell (p := ⟨bx, 1, none⟩) h1 h.f1, hc.cell (p := ⟨bx, 2, none⟩) h1 h.f2, hc.own h.rb (fun k hk hs => by simp [Value.ownBlock] at hk; subst hk; exact h2 hs)⟩
/-- A round: the two tables, and what it has besides. -/
structure Rd (W w : World) (P F : Nat → Prop) (t b : Nat) (s r : List Dc × List Key) (bx g tl kk cB : Nat) (SK : ByteArray) (B : Option Addr) (key : Key) (xs : List Int) : Prop where
  bt : Bt W w P F (fun x => x = bx ∨ x = g) t b s r
  xt : Xt w bx g tl kk cB SK B xs
  hg : 0 < W.heap.size
  sk : kv key = .string SK
  kl : key.length ≤ 6000
  xl : xs.length = tl
  tm : tl ≤ 6000
  kr : tl + 1 ≤ kk ∧ kk ≤ maxLen
  by_ : ∀ x ∈ xs, 0 ≤ x ∧ x < 256
  sl : ∀ w, Ch (fun _ => False) W w → Sl w (fun x => x < W.heap.size) .u8 B tl xs
  few : s.1.length + s.2.length ≤ 1000 ∧ r.1.length + r.2.length ≤ 1000
section
variable {W w w2 : World} {P F E : Nat → Prop} {t b bx g tl kk cB : Nat} {s s' r r' : List Dc × List Key} {SK : ByteArray} {B : Option Addr} {key : Key} {xs : List Int}
theorem Rd.keep (h : Rd W w P F t b s r bx g tl kk cB SK B key xs) (hc : Ch (fun _ => False) w w2) : Rd W w2 P F t b s r bx g tl kk cB SK B key xs :=
  ⟨h.bt.keep hc, h.xt.ch hc (fun h => h) (fun h => h), h.hg, h.sk, h.kl, h.xl, h.tm, h.kr, h.by_, h.sl, h.few⟩
theorem Rd.prog (h : Rd W w P F t b s r bx g tl kk cB SK B key xs) (hp : MPost s' t w P w2) (hf : s'.1.length + s'.2.length ≤ 1000) : ∃ P', Rd W w2 P' F t b s' r bx g tl kk cB SK B key xs := by
  obtain ⟨P', h1, h2⟩ := h.bt.prog hp
  exact ⟨P', h1, h.xt.ch h2 (h.bt.ex bx (.inl rfl)).2.2.1 (h.bt.ex g (.inr rfl)).2.2.1, h.hg, h.sk, h.kl, h.xl, h.tm, h.kr, h.by_, h.sl, hf, h.few.2⟩
theorem Rd.doc (h : Rd W w P F t b s r bx g tl kk cB SK B key xs) (hp : TPost r' b w F w2) (hf : r'.1.length + r'.2.length ≤ 1000) : ∃ F', Rd W w2 P F' t b s r' bx g tl kk cB SK B key xs := by
  obtain ⟨F', h1, h2⟩ := h.bt.doc h.hg hp
  exact ⟨F', h1, h.xt.ch h2 (h.bt.ex bx (.inl rfl)).2.2.2.2 (h.bt.ex g (.inr rfl)).2.2.2.2, h.hg, h.sk, h.kl, h.xl, h.tm, h.kr, h.by_, h.sl, h.few.1, hf⟩
/-- The row with room, cut to the text. -/
theorem Rd.cut (h : Rd W w P F t b s r bx g tl kk cB SK B key xs) : Sl w (fun _ => True) .u8 (some ⟨g, 0, none⟩) tl xs := by
  have ht := own_takeB (k := tl) h.xt.rb (by omega)
  have e2 : (xs.map (Value.int .u8) ++ [Value.int .u8 171]).take tl = xs.map (Value.int .u8) := by
    rw [List.take_append_of_le_length (by simp; exact Nat.le_of_eq h.xl.symm)]
    exact List.take_of_length_le (by simp; exact Nat.le_of_eq h.xl)
  rw [e2] at ht
  exact (Sl.of_own ht).mono (fun _ _ _ => trivial)
theorem Rd.put (h : Rd W w P F t b s r bx g tl kk cB SK B key xs) (hf : s.1.length + s.2.length < 1000) : Calls Try.prog 12 #[.pointer (some ⟨t, 0, none⟩), .string SK, .slice (some ⟨g, 0, none⟩) tl kk] w fun e w' => e = .returned (.int .i64 (tPut s key xs).1) ∧ ∃ P', Rd W w' P' F t b (tPut s key xs).2 r bx g tl kk cB SK B key xs := by
  have h1 := mput_any (c0 := kk) h.bt.tp key (by have := h.kl; omega) h.cut h.by_ (by have := h.tm; omega) (by omega)
  rw [h.sk] at h1
  refine h1.mono fun e w' ⟨e1, e2⟩ => ⟨e1, h.prog e2 ?_⟩
  have := tPut_few h.bt.tp.ok key xs
  omega
theorem Rd.rput (h : Rd W w P F t b s r bx g tl kk cB SK B key xs) (hf : r.1.length + r.2.length < 1000) : Calls Try.prog 8 #[.pointer (some ⟨b, 0, none⟩), .string SK, .slice B tl cB] w fun e w' => e = .returned (.int .i64 (tPut r key xs).1) ∧ ∃ F', Rd W w' P F' t b s (tPut r key xs).2 bx g tl kk cB SK B key xs := by
  have h1 := put_any (c0 := cB) h.bt.td key (by have := h.kl; omega) (h.sl w h.bt.ch) h.by_ (fun x hx => by have := h.bt.bl; omega) (by have := h.tm; omega) (by omega)
  rw [h.sk] at h1
  refine h1.mono fun e w' ⟨e1, e2⟩ => ⟨e1, h.doc e2 ?_⟩
  have := tPut_few h.bt.td.ok key xs
  omega
theorem Rd.del (h : Rd W w P F t b s r bx g tl kk cB SK B key xs) (hf : s.1.length + s.2.length < 1000) : Calls Try.prog 13 #[.pointer (some ⟨t, 0, none⟩), .string SK] w fun e w' => e = .returned (.int .i64 (tDel s key).1) ∧ ∃ P', Rd W w' P' F t b (tDel s key).2 r bx g tl kk cB SK B key xs := by
  have h1 := mdel_any h.bt.tp key (by have := h.kl; omega) (by omega)
  rw [h.sk] at h1
  refine h1.mono fun e w' ⟨e1, e2⟩ => ⟨e1, h.prog e2 ?_⟩
  have := tDel_few h.bt.tp.ok key
  omega
theorem Rd.rdel (h : Rd W w P F t b s r bx g tl kk cB SK B key xs) (hf : r.1.length + r.2.length < 1000) : Calls Try.prog 14 #[.pointer (some ⟨b, 0, none⟩), .string SK] w fun e w' => e = .returned (.int .i64 (tDel r key).1) ∧ ∃ F', Rd W w' P F' t b s (tDel r key).2 bx g tl kk cB SK B key xs := by
  have h1 := delete_any h.bt.td key (by have := h.kl; omega) (by omega)
  rw [h.sk] at h1
  refine h1.mono fun e w' ⟨e1, e2⟩ => ⟨e1, h.doc e2 ?_⟩
  have := tDel_few h.bt.td.ok key
  omega
theorem beg_le : ∀ ds : List Dc, (∀ d ∈ ds, d.2.length ≤ 4096) → beg (ts ds) ds.length ≤ ds.length * 4097
  | [], _ => Nat.le_refl _
  | d :: l, h => by
    have h1 := beg_le l (fun e he => h e (List.mem_cons_of_mem _ he))
    have h2 := h d (by simp)
    have e : beg (ts (d :: l)) (d :: l).length = d.2.length + 1 + beg (ts l) l.length := beg_cons d.2 (ts l) l.length
    rw [e, List.length_cons]
    omega
theorem Rd.find (h : Rd W w P F t b s r bx g tl kk cB SK B key xs) (hf : s.1.length + s.2.length ≤ 250) : Calls Try.prog 16 #[.pointer (some ⟨t, 0, none⟩), .slice (some ⟨g, 0, none⟩) tl kk] w fun e w' => ∃ A n c, e = .returned (.slice A n c) ∧ n ≤ 9223372036854775806 ∧ Mts w' (fun _ => True) A n (finds s.1 xs) ∧ Ch (fun _ => False) w w' := by
  have hb := beg_le s.1 h.bt.tp.ok.len
  refine (mfind_any h.bt.tp xs (some ⟨g, 0, none⟩) tl kk h.cut h.by_ (by omega) (by have := h.tm; omega)).mono fun e w' ⟨A, n, c, e1, e2, e3, e4, e5⟩ => ⟨A, n, c, e1, ?_, e2.mono (by omega) (fun _ _ _ => trivial) (fun _ _ _ h => h), e5⟩
  have h1 : (finds s.1 xs).length = n := Ro.len e2
  have := finds_le xs s.1
  omega
theorem Rd.rfind (h : Rd W w P F t b s r bx g tl kk cB SK B key xs) (hf : r.1.length + r.2.length ≤ 250) : ∃ A n c, w.cell? ⟨b, 0, none⟩ = some (.slice A n c) ∧ ∀ w1, Ch (fun _ => False) w w1 → Calls Try.prog 17 #[.slice A n c, .slice B tl cB] w1 fun e w' => ∃ A n c, e = .returned (.slice A n c) ∧ Mts w' (fun _ => True) A n (finds r.1 xs) ∧ Ch (fun _ => False) w1 w' := by
  obtain ⟨A, c, _, _, h1, _, h3, _⟩ := h.bt.td.row
  refine ⟨A, _, c, h1, fun w1 hc => ?_⟩
  have hb := beg_le r.1 h.bt.td.ok.len
  refine (rfind_any r.1 xs A B _ c tl cB w1 (h3.ch hc (fun _ _ _ h => h)) (h.sl w1 (h.bt.ch.trans hc (fun _ _ h => h))) h.bt.td.ok.byte h.by_ (by omega) (by omega) (by have := h.tm; omega)).mono fun e w' ⟨A, n, c, e1, e2, e3, e4, e5⟩ => ⟨A, n, c, e1, e2.mono (by omega) (fun _ _ _ => trivial) (fun _ _ _ h => h), e5⟩
theorem Rd.get (h : Rd W w P F t b s r bx g tl kk cB SK B key xs) : Calls Try.prog 18 #[.pointer (some ⟨t, 0, none⟩), .string SK] w (GetOf s.1 s.2 key w) := by
  have h1 := mgetp_any h.bt.tp key (by have := h.kl; omega)
  rw [h.sk] at h1
  exact h1
theorem Rd.rget (h : Rd W w P F t b s r bx g tl kk cB SK B key xs) : Calls Try.prog 19 #[.pointer (some ⟨b, 0, none⟩), .string SK] w (GetOf r.1 r.2 key w) := by
  have h1 := mget_any h.bt.td key
  rw [h.sk] at h1
  exact h1
theorem Rd.stands (h : Rd W w P F t b s r bx g tl kk cB SK B key xs) : Calls Try.prog 20 #[.slice (some ⟨g, 0, none⟩) (tl + 1) kk, .slice B tl cB] w fun e w' => e = .returned (.bool true) ∧ Ch (fun _ => False) w w' :=
  (stands_any xs B tl cB g kk w _ (by have := h.tm; omega) h.kr.1 h.kr.2 (h.sl w h.bt.ch) h.xt.rb).mono fun e w' ⟨e1, j, e2⟩ => ⟨e1, by rw [e2]; exact (Ch.refl _ _).drewN j⟩
end
end Go.Proofs.Ytpilekadcondnaa
