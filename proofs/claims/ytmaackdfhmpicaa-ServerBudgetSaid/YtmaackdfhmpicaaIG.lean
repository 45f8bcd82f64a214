/- The contract of ref10's Great. -/
import Derived.Test.YtmaackdfhmpicaaIA
import Derived.Test.YtmaackdfhmpicaaVH
namespace Go.Proofs.Ytmaackdfhmpicaa
open Go.RowKit

/-- More than is asked of any image? -/
def greatI (x : Img) : Bool := decide (40 < x.tasks.length) || decide (20 < x.modes.length) || decide (60 < x.edges.length) || (List.range x.modes.length).any fun k => decide (20 < (x.m k).qs.length)
theorem great_not {x : Img} (h : greatI x = false) : x.tasks.length ≤ 40 ∧ x.modes.length ≤ 20 ∧ x.edges.length ≤ 60 ∧ ∀ k, k < x.modes.length → (x.m k).qs.length ≤ 20 := by
  unfold greatI at h
  simp only [Bool.or_eq_false_iff, decide_eq_false_iff_not, List.any_eq_false, List.mem_range, decide_eq_true_iff] at h
  obtain ⟨⟨⟨h1, h2⟩, h3⟩, h4⟩ := h
  exact ⟨by omega, by omega, by omega, fun k hk => by have := h4 k hk; omega⟩
end Go.Proofs.Ytmaackdfhmpicaa
