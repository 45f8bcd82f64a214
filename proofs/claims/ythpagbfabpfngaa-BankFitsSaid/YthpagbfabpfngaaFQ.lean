/- The contracts of the reference's small calls on a device. -/
import Derived.Test.YthpagbfabpfngaaFO
namespace Go.Proofs.Ythpagbfabpfngaa
open Go.RowKit

/-- The reference's device with its rows. -/
abbrev refX (bL cL bW cW : Nat) (d : Dev) : Value := refV (.slice (some ⟨bL, 0, none⟩) (d.ns * d.nw : Nat) cL) (.slice (some ⟨bW, 0, none⟩) d.ns cW) d
/-- A device's value, letter by letter. -/
abbrev vD (n0 n1 n2 : Int) (bL nL cL bW nW cW : Nat) (off ar : Bool) (af sd op : Int) : Value := .agg #[.int .i64 n0, .int .i64 n1, .int .i64 n2, .slice (some ⟨bL, 0, none⟩) nL cL, .slice (some ⟨bW, 0, none⟩) nW cW, .bool off, .bool ar, .int .i64 af, .int .u32 sd, .int .i64 op]
variable {n0 n1 n2 : Int} {bL nL cL bW nW cW : Nat} {off ar : Bool} {af sd op : Int}

theorem goesV_no (w : World) (w1 : IntKind.i64.wrap (op + 1) = op + 1) : Calls Try.prog 114 #[vD n0 n1 n2 bL nL cL bW nW cW off false af sd op] w fun e w' =>
    e = .returned (.tuple #[vD n0 n1 n2 bL nL cL bW nW cW off false af sd (op + 1), .bool false]) ∧ Below w.heap.size w w' := by
  go_enter Try.func114, Try.ntmps114
  go_wp2
  refine ⟨rfl, .tuple #[vD n0 n1 n2 bL nL cL bW nW cW off false af sd (op + 1), .bool false], ?_, rfl, ?_⟩
  · simp [results, Try.results114, go_sem]
  · repeat' (first | exact Below.refl _ _ | refine Below.alloc ?_ ?_ _ | refine Below.setCell ?_ ?_ _)
    all_goals first | omega | (simp only [World.size_alloc]; omega)
theorem goesV_more (w : World) (w1 : IntKind.i64.wrap (op + 1) = op + 1) (w2 : IntKind.i64.wrap (af - 1) = af - 1) (h0 : 0 < af) : Calls Try.prog 114 #[vD n0 n1 n2 bL nL cL bW nW cW off true af sd op] w fun e w' =>
    e = .returned (.tuple #[vD n0 n1 n2 bL nL cL bW nW cW off true (af - 1) sd (op + 1), .bool false]) ∧ Below w.heap.size w w' := by
  go_enter Try.func114, Try.ntmps114
  go_wp2
  refine ⟨rfl, .tuple #[vD n0 n1 n2 bL nL cL bW nW cW off true (af - 1) sd (op + 1), .bool false], ?_, rfl, ?_⟩
  · simp [results, Try.results114, go_sem]
  · repeat' (first | exact Below.refl _ _ | refine Below.alloc ?_ ?_ _ | refine Below.setCell ?_ ?_ _)
    all_goals first | omega | (simp only [World.size_alloc]; omega)
theorem goesV_cut (w : World) (w1 : IntKind.i64.wrap (op + 1) = op + 1) (h0 : ¬ 0 < af) : Calls Try.prog 114 #[vD n0 n1 n2 bL nL cL bW nW cW off true af sd op] w fun e w' =>
    e = .returned (.tuple #[vD n0 n1 n2 bL nL cL bW nW cW true false af sd (op + 1), .bool true]) ∧ Below w.heap.size w w' := by
  go_enter Try.func114, Try.ntmps114
  go_wp2
  refine ⟨rfl, .tuple #[vD n0 n1 n2 bL nL cL bW nW cW true false af sd (op + 1), .bool true], ?_, rfl, ?_⟩
  · simp [results, Try.results114, go_sem]
  · repeat' (first | exact Below.refl _ _ | refine Below.alloc ?_ ?_ _ | refine Below.setCell ?_ ?_ _)
    all_goals first | omega | (simp only [World.size_alloc]; omega)
theorem goesR_any (d : Dev) (bL cL bW cW : Nat) (ho : d.ok) (w : World) : Calls Try.prog 114 #[refX bL cL bW cW d] w fun e w' => e = .returned (.tuple #[refX bL cL bW cW d.goes.1, .bool d.goes.2]) ∧ Below w.heap.size w w' := by
  obtain ⟨o1, o2, o3, o4⟩ := ho
  have w1 : IntKind.i64.wrap (d.ops + 1) = d.ops + 1 := by rw [IntKind.wrap_i64]; omega
  obtain ⟨ns, nw, lim, on, op, ar, af, sd, wd, wn⟩ := d
  unfold refX refV Dev.goes
  cases ar with
  | false => exact goesV_no w w1
  | true =>
    by_cases h0 : 0 < af
    · have w2 : IntKind.i64.wrap (af - 1) = af - 1 := by rw [IntKind.wrap_i64]; simp only at o3 o4; omega
      simp only [h0, if_true]
      exact goesV_more w w1 w2 h0
    · simp only [h0, if_true, if_false]
      exact goesV_cut w w1 h0
theorem armV_any (w : World) (x y : Int) (hx : 0 ≤ x) : Calls Try.prog 60 #[vD n0 n1 n2 bL nL cL bW nW cW off ar af sd op, .int .i64 x, .int .u32 y] w fun e w' =>
    e = .returned (vD n0 n1 n2 bL nL cL bW nW cW off true x y op) ∧ Below w.heap.size w w' := by
  have h0 : ¬ x < 0 := by omega
  go_enter Try.func60, Try.ntmps60
  go_wp2
  refine ⟨rfl, vD n0 n1 n2 bL nL cL bW nW cW off true x y op, ?_, rfl, ?_⟩
  · simp [results, Try.results60, go_sem]
  · repeat' (first | exact Below.refl _ _ | refine Below.alloc ?_ ?_ _ | refine Below.setCell ?_ ?_ _)
    all_goals first | omega | (simp only [World.size_alloc]; omega)
theorem armV_neg (w : World) (x y : Int) (hx : x < 0) : Calls Try.prog 60 #[vD n0 n1 n2 bL nL cL bW nW cW off ar af sd op, .int .i64 x, .int .u32 y] w fun e w' =>
    e = .returned (vD n0 n1 n2 bL nL cL bW nW cW off true 0 y op) ∧ Below w.heap.size w w' := by
  go_enter Try.func60, Try.ntmps60
  go_wp2
  refine ⟨rfl, vD n0 n1 n2 bL nL cL bW nW cW off true 0 y op, ?_, rfl, ?_⟩
  · simp [results, Try.results60, go_sem]
  · repeat' (first | exact Below.refl _ _ | refine Below.alloc ?_ ?_ _ | refine Below.setCell ?_ ?_ _)
    all_goals first | omega | (simp only [World.size_alloc]; omega)
theorem armR_any (d : Dev) (bL cL bW cW : Nat) (x : Int) (y : BitVec 32) (w : World) : Calls Try.prog 60 #[refX bL cL bW cW d, .int .i64 x, .int .u32 (w32 y)] w fun e w' => e = .returned (refX bL cL bW cW (d.arm (max x 0) y)) ∧ Below w.heap.size w w' := by
  by_cases hx : x < 0
  · rw [show max x 0 = 0 by omega]; exact armV_neg w x _ hx
  · rw [show max x 0 = x by omega]; exact armV_any w x _ (by omega)
end Go.Proofs.Ythpagbfabpfngaa
