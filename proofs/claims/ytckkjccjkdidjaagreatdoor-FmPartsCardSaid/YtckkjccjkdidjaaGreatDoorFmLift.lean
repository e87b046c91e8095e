/-
  What every law's row needs beside its walk: the table's variable as the row lists it; a start in which it stands; what the row asks behind the call. Conditions: none.
-/
import Derived.Test.YtckkjccjkdidjaaGreatDoorRows
import Derived.Test.YtckkjccjkdidjaaGreatDoorWaE
import Derived.ProofKit
import Derived.LaidMore
import Derived.OpenShut
import Derived.Stop.Joined
import Derived.WideKeyArgs
namespace Go.Proofs.YtckkjccjkdidjaaGreatDoor
open Go.ChangeShapes Go.WideShapes Go.ChangeAt Go.WideMaps Go.WideElems Go.RowKit Go.Oct Go.Bi

theorem own : ownKnob Tryz.prog.godebug = none := by kernel_rfl
theorem laidOut : laidOutB Tryz.prog = true := by kernel_rfl
theorem gTab : Tryz.prog.globalNamed "math/bits.deBruijn64tab" = some 0 := by kernel_rfl
theorem tTab : (Tryz.prog.globals[0]?).map (·.type) = some 143 := by kernel_rfl
abbrev laidL : List (String × DataW Unit) := [("math/bits.deBruijn64tab", Rows.laid_math_bits_deBruijn64tab)]

theorem door_met (os : Os) (args : Array Value) : laidMetH Tryz.prog laidL ((World.doorLaid Tryz.prog 400 os).forCall (fun _ _ => 0) ⟨#[], args, []⟩).memory := by
  rw [MakeChecks.laidMetH_plain _ _ _ (by kernel_rfl)]
  exact laidMet_of_run' 8 (by kernel_rfl) (by kernel_rfl)

set_option maxRecDepth 100000 in
theorem of_laid {W : World} (h : laidMetH Tryz.prog laidL W) : Go.Proofs.YtckkjccjkdidjaaGreatDoor.W.Tab W := by
  rw [MakeChecks.laidMetH_plain _ _ _ (by kernel_rfl)] at h
  obtain ⟨ps, ⟨g0, t0, cs0, f0, p0, q0, hg0, ht0, hv0, hd0, _⟩, _, _⟩ := h
  obtain rfl := Option.some.inj (gTab.symm.trans hg0)
  obtain rfl := Option.some.inj (tTab.symm.trans ht0)
  obtain ⟨xs, m1, rfl, hx1, hlen, hn3, hel⟩ := DataW.trod_array Tryz.underlying143 hd0
  have c3 : Tryz.prog.cellsOf 5 = 1 := by kernel_rfl
  have c24 : Tryz.prog.cellsOf 143 = 64 := by kernel_rfl
  rw [c3] at hel
  rw [c24] at hlen
  simp only [Prod.mk.injEq] at hx1
  intro i hi
  have hi64 : i < 64 := hi
  have hc := World.var?_cell hg0 hv0 i
  rw [hc]
  have hli : i < cs0.toList.length := by omega
  have hcs : cs0[i]? = some cs0.toList[i] := by
    rw [Array.getElem?_eq_getElem (by simpa using hli)]
    simp
  have hsub : List.take 1 (List.drop (i * 1) cs0.toList) = [cs0.toList[i]] := by
    rw [Nat.mul_one, List.drop_eq_getElem_cons hli]
    rfl
  have h1 := hel i hi
  rw [hsub, List.getElem?_eq_getElem (by omega)] at h1
  obtain ⟨k, e1, e2, _⟩ := DataW.trod_int Tryz.underlying5 h1
  have e3 : Rows.laid_math_bits_deBruijn64tab (H := Unit) = .agg (Lib.deBruijn64tab.map fun n => .lit (.int .u8 ((n : Nat) : Int))) := rfl
  rw [e3] at hx1
  have e4 : Lib.deBruijn64tab.map (fun n => (DataW.lit (.int .u8 ((n : Nat) : Int)) : DataW Unit)) = xs.map (·.1) := by
    have := hx1.1
    injection this
  have e5 := congrArg (fun l => l[i]?) e4
  simp only [List.getElem?_map] at e5
  have hti : i < Lib.deBruijn64tab.length := hi
  rw [List.getElem?_eq_getElem hti, List.getElem?_eq_getElem (show i < xs.length by omega)] at e5
  have e6 : (DataW.lit (.int .u8 ((Lib.deBruijn64tab[i] : Nat) : Int)) : DataW Unit) = xs[i].1 := by simpa using e5
  rw [e2] at e6
  injection e6 with e6
  injection e6 with _ e6
  rw [hcs]
  have e7 : Lib.deBruijn64tab.getD i 0 = Lib.deBruijn64tab[i] := by simp [List.getD, List.getElem?_eq_getElem hti]
  rw [e7, e6]
  simpa using e1

section
variable {H : Type} {enc : TypeId × Value → H} {P : Program}
theorem trodAll_again (hl : laidOutB P = true) {W W' : World} {sp' : Nat → Bool} : ∀ (ts : List TypeId) (vs : List Value) (ds : List (DataW H)) (ps : List MemPlace), (∀ t ∈ ts, P.readableRec t = true ∧ t < P.types.size) →
    DataW.TrodAll enc P W 0 (fun _ => true) true ts vs ds ps → (∀ p ∈ ps, W.sameAt W' p) → (∀ p ∈ ps, sp' p.block = true) → DataW.TrodAll enc P W' 0 sp' true ts vs ds ps := by
  intro ts
  induction ts with
  | nil =>
    intro vs ds ps _ h _ _
    obtain ⟨rfl, rfl, rfl⟩ := trodAll_nil h
    exact trodAll_mk0
  | cons t ts ih =>
    intro vs ds ps ht h hs hsp
    obtain ⟨v, vs', d, ds', p, q, rfl, rfl, rfl, h1, h2⟩ := trodAll_cons h
    have ht0 := ht t (by simp)
    exact ⟨p, q, Trod_stays hl ht0.1 ht0.2 h1 (fun x hx => hs x (by simp [hx])) (fun x hx => hsp x (by simp [hx])),
      ih vs' ds' q (fun u hu => ht u (by simp [hu])) h2 (fun x hx => hs x (by simp [hx])) (fun x hx => hsp x (by simp [hx])), rfl⟩

/-- What a law's row asks behind the call, where nothing old has turned. -/
theorem law_post {f : Func} {s : ChangeSpec} {W W' : World} {args : Array Value} {ds gs : List (DataW H)} {before : List MemPlace} {tb : TypeId} (hl : laidOutB P = true) (htb : P.underlying tb = some .bool)
    (hW : DataW.Whole enc P f.params.toList s.vars false W args.toList ds gs before) (hvars : s.vars = []) (hfn : s.fn H (ds ++ gs) = { results := [.lit (.bool true)], args := ds, vars := [] })
    (hres : f.resultTypes = #[tb]) (hr : ∀ t ∈ f.params.toList, P.readableRec t = true ∧ t < P.types.size) (hb : Ch (fun _ => False) W W') : s.post enc P f false true false false W args (.bool true) W' := by
  have hbel : Below W.heap.size W W' := hb.below (Nat.le_refl _) (fun _ _ h => h)
  have hlt : ∀ p ∈ before, p.block < W.heap.size := fun p hp => hW.lt p hp
  obtain ⟨p, q, hA, hV, rfl, hz, hn⟩ := hW
  have hV' := hV
  rw [hvars] at hV'
  obtain ⟨rfl, rfl⟩ := trodVars_none hV'
  refine ⟨ds, _, _, [], p, [], ⟨p, [], hA, hV, rfl, hz, hn⟩, ?_, ?_, ?_, hbel.frame _, fun h => by cases h⟩
  · rw [hres, hfn]
    exact trodAll_mk1 (shut_bool htb _)
  · rw [hfn]
    exact trodAll_again hl _ _ _ _ hr hA (fun x hx => hbel.same (hlt x (by simp [hx]))) (fun x hx => by simpa using hlt x (by simp [hx]))
  · rw [hfn, hvars]
    rfl
end
theorem byte_of_wf {z : Int} (h : (Lit.int .u8 z).wf = true) : 0 ≤ z ∧ z < 256 := by
  simp [Lit.wf, IntKind.min, IntKind.max, IntKind.signed, IntKind.bits] at h
  omega
end Go.Proofs.YtckkjccjkdidjaaGreatDoor
