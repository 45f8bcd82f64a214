/- What a job is asked for, as a row hands it in. No statement about the program's functions. -/
import Derived.Test.YtcipkkeegbfaeaaOpenJ
namespace Go.Proofs.Ytcipkkeegbfaeaa
open Go.ChangeShapes Go.WideShapes Go.ChangeAt Go.RowKit Go.Deep Go.Joins

section
variable {H : Type} {enc : TypeId × Value → H} {w : World} {base : Nat} {spare : Nat → Bool} {held : Bool}
set_option maxRecDepth 100000 in
theorem open_ask {r : Reach} {b0 : Nat} {v : Value} {d : DataW H} {p : List MemPlace} (hv : Value.okWide Try.prog w r b0 69 v) (h : DataW.Trod enc Try.prog w base spare held 69 v d p) :
    ∃ (id now cost : Int) (S : Src) (n : Nat) (L : Nat → Sec), v = .agg #[.int .i64 id, .int .i64 now, .int .i64 cost, .slice S.sp n S.c] ∧ SecsOf w S n L ∧ (∀ k, k < n → (-9223372036854775808 ≤ (L k).t ∧ (L k).t ≤ 9223372036854775807)) ∧ (-9223372036854775808 ≤ cost ∧ cost ≤ 9223372036854775807) := by
  obtain ⟨v0, v1, v2, v3, y0, y1, y2, y3, n, rfl, -, -, t0, t1, t2, t3⟩ := open_agg4 Try.underlying69 (by kernel_rfl) (by kernel_rfl) hv h
  obtain ⟨n0, e0, _⟩ := DataW.trod_int Try.underlying3 t0
  obtain ⟨n1, e1, _⟩ := DataW.trod_int Try.underlying3 t1
  obtain ⟨n2, e2, _, g2⟩ := DataW.trod_int Try.underlying3 t2
  simp at e0 e1 e2
  subst e0 e1 e2
  obtain ⟨sp, m, c, rfl⟩ : ∃ sp m c, v3 = .slice sp m c := by
    rcases open_slice Try.underlying63 t3 with ⟨hcs, _⟩ | ⟨a, len', cap', _, _, _, _, hcs, _⟩
    · exact ⟨_, _, _, by simpa using hcs⟩
    · exact ⟨_, _, _, by simpa using hcs⟩
  obtain ⟨L, b, o, h1, h2⟩ := open_secs t3
  exact ⟨n0, n1, n2, ⟨sp, b, o, c⟩, m, L, rfl, h1, h2, int_of g2⟩
end
end Go.Proofs.Ytcipkkeegbfaeaa
