/- CheckSums returns true for every slice of ints: check.Sum is the sum of all numbers, or none, and asks for none behind the one where it fails. No condition. -/
import Derived.Test.YtnmejabmnapmpaaRows
import Derived.Test.YtnmejabmnapmpaaSums
import Derived.WalkKit
import Derived.ProofKit
import Derived.OpenShut
import Derived.Test.YtnmejabmnapmpaaPost
namespace Go.Proofs.Ytnmejabmnapmpaa.CheckSums
open Go.ChangeShapes Go.WideShapes Go.ChangeAt Go.RowKit
set_option linter.unusedVariables false

theorem own : ownKnob Try.prog.godebug = none := by kernel_rfl
theorem cells3 : Try.prog.cellsOf 3 = 1 := by kernel_rfl
theorem laidOut : laidOutB Try.prog = true := by kernel_rfl

set_option maxRecDepth 100000 in
theorem lifted (os : Os) (started : os.Started) (H : Type) (enc : TypeId × Value → H) :
    ReturnsInHanded {} Try.checked os 4 .any (Rows.checkSumsSpec.pre6 enc Try.prog Try.f4 Rows.checkSumsRow.domain false) (Rows.checkSumsSpec.post enc Try.prog Try.f4 false true false false) := by
  refine returnsInHanded_of_change (C := Try.checked) own started (by kernel_rfl) Try.func4
    (ChangeSpec.witness6 (enc := enc) (C := Try.checked) false ⟨#[], #[.slice none 0 0], []⟩ 8 (by kernel_rfl) (by kernel_rfl) (by kernel_rfl) (by kernel_rfl)) ?_
  intro W base args ds gs before hval0 hW hcnd _
  have hval : ∀ (j : Nat) t v, Try.f4.params[j]? = some t → args[j]? = some v → Value.okWide Try.prog W .any base t v := hval0
  have hW' := hW
  obtain ⟨p, q, hA0, hV, rfl, hfz, hnd⟩ := hW
  have hA : DataW.TrodAll enc Try.prog W 0 (fun _ => true) true Try.f4.params.toList args.toList ds p := hA0
  have hAk := hA
  rw [Try.params4] at hA hval
  obtain ⟨v0, vs0, d0, ds0, p0, q0, hargs, rfl, rfl, h0, r0⟩ := trodAll_cons hA
  obtain ⟨rfl, rfl, rfl⟩ := trodAll_nil r0
  obtain rfl : args = #[v0] := by cases args; simp_all
  obtain ⟨rfl, rfl⟩ := trodVars_none hV
  obtain ⟨a0, len, cap, rfl⟩ := okWide_slice Try.underlying26 (hval 0 26 v0 rfl rfl)
  obtain ⟨fuel, hf⟩ := h0
  clear hA0 hval0
  simp only [List.append_nil] at hW' hAk
  have walk : Calls Try.prog 4 #[.slice a0 len cap] W fun e W' => e = .returned (.bool true) ∧ Below W.heap.size W W' := by
    rcases open_ints Try.underlying26 Try.underlying3 cells3 hf with ⟨hcs, hx⟩ | ⟨a, len', cap', zs, hcs, _, hl, hm, hz, hx, hcell, hwz⟩
    · simp [Value.cells] at hcs
      obtain ⟨rfl, rfl, rfl⟩ := hcs
      exact law_sums 0 0 0 none [] W (by decide) (by simp) (by simp)
    · simp [Value.cells] at hcs
      obtain ⟨rfl, rfl, rfl⟩ := hcs
      simp only [if_true] at hz
      have hlt : (zs.take len).length = len := by simp; omega
      have hcl : ∀ k, k < len → W.cell? (a.add k) = some (.int .i64 (nth (zs.take len) k)) := by
        intro k hk
        rw [hcell k (by omega)]
        simp [nth, List.getElem?_take, hk, List.getD]
      obtain ⟨b, off, spot⟩ := a
      have hsp : 0 < len → spot = none := fun h => by simpa [Addr.add] using World.cell?_spot (hcl 0 h)
      have := law_sums b off cap (some ⟨b, off, spot⟩) (zs.take len) W (by rw [hlt]; unfold maxLen at hm; omega)
        (by
          rw [hlt]
          intro h
          obtain rfl := hsp h
          refine ⟨rfl, ?_⟩
          obtain ⟨o, ho, _⟩ := cells_of_cell (hcl 0 h)
          exact (Array.getElem?_eq_some_iff.1 ho).1)
        (by
          rw [hlt]
          intro k hk
          obtain rfl := hsp (by omega)
          rw [← hcl k hk, Addr.add_lit])
      rwa [hlt] at this
  refine walk.mono fun e W' ⟨he, hb⟩ => ?_
  subst he
  exact ⟨_, rfl, law_post laidOut (by rw [Try.params4]; kernel_rfl) (by kernel_rfl) rfl Try.underlying4 hW' hb rfl rfl rfl⟩

theorem over : Rows.checkSumsRow.holds Try.pinned (OpenSpec.ofChange Rows.checkSumsSpec) :=
  OpenClaim.holds_of_wide 4 Try.f4 rfl rfl rfl rfl rfl rfl rfl ⟨rfl, rfl, rfl, rfl, rfl⟩ rfl rfl rfl rfl rfl (by kernel_rfl) Try.func4 (by kernel_rfl)
    (of_decide_eq_true (by kernel_rfl)) (by unfold Func.isWrapper; first | (rw [if_pos (by decide +kernel)]; kernel_rfl) | (rw [if_neg (by decide +kernel)]; exact ⟨rfl, rfl⟩))
    (fun os started H enc _ => lifted os started H enc)

theorem proved : Rows.CheckSumsSaid :=
  over
#print axioms proved
end Go.Proofs.Ytnmejabmnapmpaa.CheckSums
