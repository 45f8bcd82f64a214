/- ServerBudget returns true for any period and any tasks: the least budget with which none is late. No condition. -/
import Derived.Test.YtmaackdfhmpicaaRows
import Derived.Test.YtmaackdfhmpicaaPost
import Derived.Test.YtmaackdfhmpicaaOpenSv
import Derived.Test.YtmaackdfhmpicaaSVK
namespace Go.Proofs.Ytmaackdfhmpicaa.ServerBudget
open Go.ChangeShapes Go.WideShapes Go.ChangeAt Go.RowKit Go.Joins
set_option linter.unusedVariables false

set_option maxHeartbeats 4000000 in
set_option maxRecDepth 100000 in
theorem lifted (os : Os) (started : os.Started) (H : Type) (enc : TypeId × Value → H) :
    ReturnsInHanded {} Try.checked os 8 .any (Rows.serverBudgetSpec.pre6 enc Try.prog Try.f8 Rows.serverBudgetRow.domain false) (Rows.serverBudgetSpec.post enc Try.prog Try.f8 false true false false) := by
  refine returnsInHanded_of_change (C := Try.checked) own started (by kernel_rfl) Try.func8
    (ChangeSpec.witness6 (enc := enc) (C := Try.checked) false ⟨#[], #[.int .i64 0, .slice none 0 0], []⟩ 8 (by kernel_rfl) (by kernel_rfl) (by kernel_rfl) (by kernel_rfl)) ?_
  intro W base args ds gs before hval0 hW hcnd _
  have hval : ∀ (j : Nat) t v, Try.f8.params[j]? = some t → args[j]? = some v → Value.okWide Try.prog W .any base t v := hval0
  have hW' := hW
  obtain ⟨p, q, hA0, hV, rfl, hfz, hnd⟩ := hW
  have hA : DataW.TrodAll enc Try.prog W 0 (fun _ => true) true Try.f8.params.toList args.toList ds p := hA0
  rw [Try.params8] at hA hval
  obtain ⟨v0, vs0, d0, ds0, p0, q0, hargs, rfl, rfl, h0, r0⟩ := trodAll_cons hA
  obtain ⟨v1, vs1, d1, ds1, p1, q1, rfl, rfl, rfl, h1, r1⟩ := trodAll_cons r0
  obtain ⟨rfl, rfl, rfl⟩ := trodAll_nil r1
  obtain rfl : args = #[v0, v1] := by cases args; simp_all
  obtain ⟨rfl, rfl⟩ := trodVars_none hV
  obtain ⟨a0, rfl, rfl, rfl, w0⟩ := open_int Try.underlying3 (hval 0 3 v0 rfl rfl) h0
  obtain ⟨sq1, n1, c1, rfl⟩ := okWide_slice Try.underlying22 (hval 1 22 v1 rfl rfl)
  obtain ⟨fuel1, f1⟩ := h1
  have hcap1 := open_capT f1
  obtain ⟨S1, l1, e1, hs1, ht1⟩ := open_tasks (cs := [.slice sq1 n1 c1]) f1
  obtain ⟨rfl, rfl, rfl⟩ : sq1 = S1.sp ∧ n1 = l1.length ∧ c1 = S1.c := by simpa using e1
  clear hA0 hval0
  simp only [List.append_nil] at hW'
  have walk : Calls Try.prog 8 #[.int .i64 a0, .slice S1.sp l1.length S1.c] W fun e W' => e = .returned (.bool true) ∧ Below W.heap.size W W' := law_budget ⟨hs1, ht1⟩ hcap1 a0
  refine walk.mono fun e W' ⟨he, hb⟩ => ?_
  subst he
  exact ⟨_, rfl, law_post laidOut (by rw [Try.params8]; kernel_rfl) (by kernel_rfl) rfl Try.underlying4 hW' hb rfl rfl rfl⟩

theorem over : Rows.serverBudgetRow.holds Try.pinned (OpenSpec.ofChange Rows.serverBudgetSpec) :=
  OpenClaim.holds_of_wide 8 Try.f8 rfl rfl rfl rfl rfl rfl rfl ⟨rfl, rfl, rfl, rfl, rfl⟩ rfl rfl rfl rfl rfl (by kernel_rfl) Try.func8 (by kernel_rfl)
    (of_decide_eq_true (by kernel_rfl)) (by unfold Func.isWrapper; first | (rw [if_pos (by decide +kernel)]; kernel_rfl) | (rw [if_neg (by decide +kernel)]; exact ⟨rfl, rfl⟩))
    (fun os started H enc _ => lifted os started H enc)

theorem proved : Rows.ServerBudgetSaid :=
  over
#print axioms proved
end Go.Proofs.Ytmaackdfhmpicaa.ServerBudget
