/- The contracts of the reference's three and Pack. -/
import Derived.Test.YtkbmgilceioieaaSM
namespace Go.Proofs.Ytkbmgilceioieaa
open Go.RowKit
attribute [local go_sem] Oper.semAt_some

theorem three_any (l : List Nat) (i : Nat) (sp : Option Addr) (b off cap : Nat) (w : World) (h : SL w sp b off l) (hl : l.length ≤ 100000) (hi : i ≤ 1000000) :
    Calls Try.prog 66 #[.slice sp l.length cap, .int .i64 i] w fun e w' => e = .returned (.bool (three (l.drop i))) ∧ ∃ n, w' = w.drewN n := by
  rw [three_at]
  have i0 : (0 : Int) ≤ (i : Int) := by omega
  have i9 : (i : Int) ≤ 1000000 := by omega
  by_cases h2 : i + 2 < l.length
  · obtain rfl := h.1 (by omega)
    have c0 := h.2 i (by omega)
    have c1 := h.2 (i + 1) (by omega)
    have c2 := h.2 (i + 2) (by omega)
    have d2 : (i : Int) + 2 < (l.length : Int) := by omega
    have d1 : (i : Int) + 1 < (l.length : Int) := by omega
    have d0 : (i : Int) < (l.length : Int) := by omega
    rw [decide_eq_true h2]
    obtain ⟨x, hx⟩ : ∃ x, nthW l i = x := ⟨_, rfl⟩
    obtain ⟨y, hy⟩ : ∃ y, nthW l (i + 1) = y := ⟨_, rfl⟩
    obtain ⟨z, hz⟩ : ∃ z, nthW l (i + 2) = z := ⟨_, rfl⟩
    rw [hx] at c0
    rw [hy] at c1
    rw [hz] at c2
    rw [hx, hy, hz]
    clear h h2 hx hy hz
    by_cases e1 : y = x
    · have b1 : ((y : Int) == (x : Int)) = true := by simp; omega
      by_cases e2 : z = x
      · have b2 : ((z : Int) == (x : Int)) = true := by simp; omega
        rw [decide_eq_true e1, decide_eq_true e2]
        clear e1 e2
        go_enter Try.func66, Try.ntmps66
        go_wp2
        go_quiet (fail)
        go_wp2
        go_ret
        exact ⟨rfl, _, rfl⟩
      · have b2 : ((z : Int) == (x : Int)) = false := by simp; omega
        rw [decide_eq_true e1, decide_eq_false e2]
        clear e1 e2
        go_enter Try.func66, Try.ntmps66
        go_wp2
        go_quiet (fail)
        go_wp2
        go_ret
        exact ⟨rfl, _, rfl⟩
    · have b1 : ((y : Int) == (x : Int)) = false := by simp; omega
      rw [decide_eq_false e1]
      clear e1
      go_enter Try.func66, Try.ntmps66
      go_wp2
      go_quiet (fail)
      go_wp2
      go_ret
      exact ⟨rfl, _, rfl⟩
  · have d2 : decide ((i : Int) + 2 < (l.length : Int)) = false := by rw [decide_eq_false_iff_not]; omega
    have w2 : IntKind.i64.wrap ((i : Int) + 2) = (i : Int) + 2 := by rw [IntKind.wrap_i64]; omega
    rw [decide_eq_false h2]
    clear h h2
    go_enter Try.func66, Try.ntmps66
    go_wp2
    go_quiet (fail)
    go_wp2
    go_ret
    exact ⟨rfl, _, rfl⟩
end Go.Proofs.Ytkbmgilceioieaa
