/- ImageCopies returns true for any two images: they are the same just if all of them is; a copy is the same, and shares nothing. No condition. -/
import Derived.Test.YtandehdgpbflmaaRows
import Derived.Test.YtandehdgpbflmaaPost
import Derived.Test.YtandehdgpbflmaaVJ
import Derived.Test.YtandehdgpbflmaaLE
namespace Go.Proofs.Ytandehdgpbflmaa.ImageCopies
open Go.ChangeShapes Go.WideShapes Go.ChangeAt Go.RowKit Go.Joins
set_option linter.unusedVariables false

set_option maxRecDepth 100000 in
theorem lifted (os : Os) (started : os.Started) (H : Type) (enc : TypeId × Value → H) :
    ReturnsInHanded {} Try.checked os 5 .any (Rows.imageCopiesSpec.pre6 enc Try.prog Try.f5 Rows.imageCopiesRow.domain false) (Rows.imageCopiesSpec.post enc Try.prog Try.f5 false true false false) := by
  refine returnsInHanded_of_change (C := Try.checked) own started (by kernel_rfl) Try.func5
    (ChangeSpec.witness6 (enc := enc) (C := Try.checked) false ⟨#[], #[.agg #[.int .i64 0, .slice none 0 0, .slice none 0 0, .slice none 0 0], .agg #[.int .i64 0, .slice none 0 0, .slice none 0 0, .slice none 0 0]], []⟩ 8 (by kernel_rfl) (by kernel_rfl) (by kernel_rfl) (by kernel_rfl)) ?_
  intro W base args ds gs before hval0 hW hcnd _
  have hval : ∀ (j : Nat) t v, Try.f5.params[j]? = some t → args[j]? = some v → Value.okWide Try.prog W .any base t v := hval0
  have hW' := hW
  obtain ⟨p, q, hA0, hV, rfl, hfz, hnd⟩ := hW
  have hA : DataW.TrodAll enc Try.prog W 0 (fun _ => true) true Try.f5.params.toList args.toList ds p := hA0
  rw [Try.params5] at hA hval
  obtain ⟨v0, vs0, d0, ds0, p0, q0, hargs, rfl, rfl, h0, r0⟩ := trodAll_cons hA
  obtain ⟨v1, vs1, d1, ds1, p1, q1, rfl, rfl, rfl, h1, r1⟩ := trodAll_cons r0
  obtain ⟨rfl, rfl, rfl⟩ := trodAll_nil r1
  obtain rfl : args = #[v0, v1] := by cases args; simp_all
  obtain ⟨rfl, rfl⟩ := trodVars_none hV
  obtain ⟨x0, S0, rfl, hx0⟩ := open_img (hval 0 26 v0 rfl rfl) h0
  obtain ⟨x1, S1, rfl, hx1⟩ := open_img (hval 1 26 v1 rfl rfl) h1
  clear hA0 hval0
  simp only [List.append_nil] at hW'
  have walk : Calls Try.prog 5 #[.agg #[.int .i64 x0.res, .slice S0.t.sp x0.tasks.length S0.t.c, .slice S0.m.sp x0.modes.length S0.m.c, .slice S0.e.sp x0.edges.length S0.e.c], .agg #[.int .i64 x1.res, .slice S1.t.sp x1.tasks.length S1.t.c, .slice S1.m.sp x1.modes.length S1.m.c, .slice S1.e.sp x1.edges.length S1.e.c]] W fun e W' => e = .returned (.bool true) ∧ Below W.heap.size W W' := law_copies hx0 hx1
  refine walk.mono fun e W' ⟨he, hb⟩ => ?_
  subst he
  exact ⟨_, rfl, law_post laidOut (by rw [Try.params5]; kernel_rfl) (by kernel_rfl) rfl Try.underlying4 hW' hb rfl rfl rfl⟩

theorem over : Rows.imageCopiesRow.holds Try.pinned (OpenSpec.ofChange Rows.imageCopiesSpec) :=
  OpenClaim.holds_of_wide 5 Try.f5 rfl rfl rfl rfl rfl rfl rfl ⟨rfl, rfl, rfl, rfl, rfl⟩ rfl rfl rfl rfl rfl (by kernel_rfl) Try.func5 (by kernel_rfl)
    (of_decide_eq_true (by kernel_rfl)) (by unfold Func.isWrapper; first | (rw [if_pos (by decide +kernel)]; kernel_rfl) | (rw [if_neg (by decide +kernel)]; exact ⟨rfl, rfl⟩))
    (fun os started H enc _ => lifted os started H enc)

theorem proved : Rows.ImageCopiesSaid :=
  over
#print axioms proved
end Go.Proofs.Ytandehdgpbflmaa.ImageCopies
