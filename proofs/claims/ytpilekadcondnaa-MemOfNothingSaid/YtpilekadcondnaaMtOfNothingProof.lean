/-
  The law haystacklaw12.MemOfNothing answers true for every input and leaves its arguments as they were; its row. Conditions: none.
-/
import Derived.Test.YtpilekadcondnaaSvLift
import Derived.Test.YtpilekadcondnaaOcOpen
import Derived.Test.YtpilekadcondnaaMtOpen
import Derived.Test.YtpilekadcondnaaMtNil
import Derived.HandedShaped
namespace Go.Proofs.Ytpilekadcondnaa.MemOfNothingP
open Go Go.ChangeShapes Go.WideShapes Go.ChangeAt Go.WideMaps Go.WideElems Go.RowKit Go.Oct

theorem cells8 : Try.prog.cellsOf 5 = 1 := by kernel_rfl
theorem bytes8 : Try.prog.bytesOf 5 = 1 := by kernel_rfl
set_option maxRecDepth 100000 in
theorem lifted (os : Os) (started : os.Started) (H : Type) (enc : TypeId × Value → H) :
    ReturnsInHanded {} Try.checked os 4 .any (Rows.memOfNothingSpec.pre6 enc Try.prog Try.f4 Rows.memOfNothingRow.domain false) (Rows.memOfNothingSpec.post enc Try.prog Try.f4 false true false false) := by
  refine returnsInHanded_of_change_shaped (C := Try.checked) own started (by kernel_rfl) Try.func4
    (ChangeSpec.witness6 (enc := enc) (C := Try.checked) false ⟨#[], #[.string ByteArray.empty, .slice none 0 0], []⟩ 8 (by kernel_rfl) (by kernel_rfl) (by kernel_rfl) (by kernel_rfl)) ?_
  intro W base args ds gs before hval0 hW _ hsz hsh _
  have hmx : ∃ m, W.cell? ⟨0, 0, none⟩ = some (.int .i64 m) := Try.mtIndex.s1_3 W hsh
  have hval : ∀ (j : Nat) t v, Try.f4.params[j]? = some t → args[j]? = some v → Value.okWide Try.prog W .any base t v := hval0
  have hW' := hW
  obtain ⟨p, q, hA0, hV, rfl, hfz, hnd⟩ := hW
  have hA : DataW.TrodAll enc Try.prog W 0 (fun _ => true) true Try.f4.params.toList args.toList ds p := hA0
  rw [Try.params4] at hA hval
  have hcalls : Calls Try.prog 4 args W fun e w' => e = .returned (.bool true) ∧ Ch (fun _ => False) W w' := by
    obtain ⟨v0, v1, d0, d1, p0, p1, rfl, rfl, rfl, h0, h1⟩ := trodAll_two hA
    obtain ⟨S0, rfl, rfl, _⟩ := Go.ChangeMaps.open_string Try.underlying9 (hval 0 9 v0 rfl rfl) h0
    have hk0 : S0.data.toList.length ≤ 140737488351232 := (Go.Sg.Wt.of_sized (t := 9) hsz (j := 0) rfl rfl).str
    obtain ⟨A1, n1, c1, x1, rfl, hs1, hl1, hm1, hw1⟩ := open_sl Try.underlying30 Try.underlying5 cells8 (hval 1 30 v1 rfl rfl) h1
    have hz1 : n1 ≤ 140737488351232 := by
      obtain ⟨fuel, hf⟩ := h1
      have := Go.Sg.trod_len Try.underlying30 (Go.Sg.Wt.of_sized hsz (j := 1) (t := 30) rfl rfl) hf rfl
      rwa [bytes8, Nat.mul_one] at this
    exact (by
      have := nothing_law S0.data.toList x1 A1 n1 c1 W hs1 hk0 hz1 hmx
      rwa [Go.Sg.kv_data] at this)
  have hfn : Rows.memOfNothingSpec.fn H (ds ++ gs) = { results := [.lit (.bool true)], args := ds, vars := [] } := by
    obtain ⟨rfl, rfl⟩ := trodVars_none hV
    obtain ⟨v0, v1, d0, d1, p0, p1, rfl, rfl, rfl, h0, h1⟩ := trodAll_two hA
    rfl
  refine hcalls.mono fun e W' ⟨he, hc⟩ => ?_
  subst he
  exact ⟨_, rfl, law_post laidOut Try.underlying4 hW' rfl hfn rfl (fun t ht => by
    have hall : (Try.f4.params.toList.all fun u => Try.prog.readableRec u && decide (u < Try.prog.types.size)) = true := by kernel_rfl
    have h2 := List.all_eq_true.1 hall t ht
    rw [Bool.and_eq_true] at h2
    exact ⟨h2.1, of_decide_eq_true h2.2⟩) hc⟩

theorem said : Rows.MemOfNothingSaid :=
  OpenClaim.holds_of_wide 4 Try.f4 rfl rfl rfl rfl rfl rfl rfl ⟨rfl, rfl, rfl, rfl, rfl⟩ rfl rfl rfl rfl rfl (by kernel_rfl) Try.func4 (by kernel_rfl)
    (of_decide_eq_true (by kernel_rfl)) (by unfold Func.isWrapper; first | (rw [if_pos (by decide +kernel)]; kernel_rfl) | (rw [if_neg (by decide +kernel)]; exact ⟨rfl, rfl⟩))
    (fun os started H enc _ => lifted os started H enc)
end Go.Proofs.Ytpilekadcondnaa.MemOfNothingP
namespace Go.Proofs.Ytpilekadcondnaa
theorem memOfNothing_said : Rows.MemOfNothingSaid := MemOfNothingP.said
#print axioms memOfNothing_said
end Go.Proofs.Ytpilekadcondnaa
