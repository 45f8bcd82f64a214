/- The contract of the reference's Erase, letter by letter. -/
import Derived.Test.YthpagbfabpfngaaFW
namespace Go.Proofs.Ythpagbfabpfngaa
open Go.RowKit

variable {n0 n1 n2 : Int} {bL nL cL bW nW cW : Nat} {off ar : Bool} {af sd op : Int}
theorem eraseV_off (w : World) (s : Int) : Calls Try.prog 93 #[vD n0 n1 n2 bL nL cL bW nW cW true ar af sd op, .int .i64 s] w fun e w' =>
    e = .returned (.tuple #[vD n0 n1 n2 bL nL cL bW nW cW true ar af sd op, .int .i64 63]) ∧ Below w.heap.size w w' := by
  go_enter Try.func93, Try.ntmps93
  go_wp2
  refine ⟨rfl, .tuple #[vD n0 n1 n2 bL nL cL bW nW cW true ar af sd op, .int .i64 63], ?_, rfl, ?_⟩
  · simp [results, Try.results93, go_sem]
  · repeat' (first | exact Below.refl _ _ | refine Below.alloc ?_ ?_ _ | refine Below.setCell ?_ ?_ _)
    all_goals first | omega | (simp only [World.size_alloc]; omega)
theorem eraseV_no (w : World) (s : Int) (hs : s < 0 ∨ n0 ≤ s) : Calls Try.prog 93 #[vD n0 n1 n2 bL nL cL bW nW cW false ar af sd op, .int .i64 s] w fun e w' =>
    e = .returned (.tuple #[vD n0 n1 n2 bL nL cL bW nW cW false ar af sd op, .int .i64 60]) ∧ Below w.heap.size w w' := by
  by_cases h0 : s < 0
  · clear hs
    go_enter Try.func93, Try.ntmps93
    go_wp2
    refine ⟨rfl, .tuple #[vD n0 n1 n2 bL nL cL bW nW cW false ar af sd op, .int .i64 60], ?_, rfl, ?_⟩
    · simp [results, Try.results93, go_sem]
    · repeat' (first | exact Below.refl _ _ | refine Below.alloc ?_ ?_ _ | refine Below.setCell ?_ ?_ _)
      all_goals first | omega | (simp only [World.size_alloc]; omega)
  · have h1 : n0 ≤ s := by omega
    clear hs
    go_enter Try.func93, Try.ntmps93
    go_wp2
    refine ⟨rfl, .tuple #[vD n0 n1 n2 bL nL cL bW nW cW false ar af sd op, .int .i64 60], ?_, rfl, ?_⟩
    · simp [results, Try.results93, go_sem]
    · repeat' (first | exact Below.refl _ _ | refine Below.alloc ?_ ?_ _ | refine Below.setCell ?_ ?_ _)
      all_goals first | omega | (simp only [World.size_alloc]; omega)
theorem eraseV_worn (w : World) (i : Nat) (wn : Int) (h1 : (i : Int) < n0) (hi : i < nW) (hc : w.cell? ⟨bW, i, none⟩ = some (.int .i64 wn)) (hl : n2 ≤ wn) : Calls Try.prog 93 #[vD n0 n1 n2 bL nL cL bW nW cW false ar af sd op, .int .i64 i] w fun e w' =>
    e = .returned (.tuple #[vD n0 n1 n2 bL nL cL bW nW cW false ar af sd op, .int .i64 62]) ∧ Below w.heap.size w w' := by
  have h0 : ¬ (i : Int) < 0 := by omega
  have h2 : ¬ n0 ≤ (i : Int) := by omega
  have t0 : (0 : Int) ≤ (i : Int) := by omega
  have t1 : (i : Int) < (nW : Int) := by omega
  have hb := World.block_lt_of_cell? w _ hc
  have hb2 : bW < w.heap.size := by simpa using hb
  have b1 : ¬ bW = w.heap.size := by omega
  have b2 : ¬ bW = w.heap.size + 1 := by omega
  clear hb
  go_enter Try.func93, Try.ntmps93
  go_wp2
  go_quiet (fail)
  go_wp2
  refine ⟨rfl, .tuple #[vD n0 n1 n2 bL nL cL bW nW cW false ar af sd op, .int .i64 62], ?_, rfl, ?_⟩
  · simp [results, Try.results93, go_sem]
  · repeat' (first | (with_reducible exact Below.refl _ _) | (with_reducible refine below_dn ?_ _) | (with_reducible refine Below.alloc ?_ ?_ _) | (with_reducible refine Below.setCell ?_ ?_ _))
    all_goals first | omega | (simp only [World.size_alloc]; omega)
end Go.Proofs.Ythpagbfabpfngaa
