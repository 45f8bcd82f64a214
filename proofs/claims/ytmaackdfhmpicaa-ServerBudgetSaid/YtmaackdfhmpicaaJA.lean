/- The contracts of image's within and taskMayBe, and of ref10's in and task. -/
import Derived.Test.YtmaackdfhmpicaaIB
namespace Go.Proofs.Ytmaackdfhmpicaa
open Go.RowKit

theorem lt8 {p : Nat → Prop} (h0 : p 0) (h1 : p 1) (h2 : p 2) (h3 : p 3) (h4 : p 4) (h5 : p 5) (h6 : p 6) (h7 : p 7) : ∀ k, k < 8 → p k := by
  intro k hk
  rcases k with _ | _ | _ | _ | _ | _ | _ | _ | k
  all_goals first | assumption | omega
def inB (n a b : Int) : Bool := decide (a ≤ n ∧ n ≤ b)
/-- How long a resource may be held at most. -/
def mostL (a2 res : Int) (r : Nat) : Int := if res ≤ (r : Int) then 0 else a2
/-- May a task be? -/
def taskOK (a0 a1 a2 : Int) (f : Nat → Int) (res : Int) : Bool := inB a0 1 4096 && (inB a1 1 a0 && (inB a2 1 a1 && (List.range 8).all fun r => inB (f r) 0 (mostL a2 res r)))
theorem run_index_a8 (f : Nat → Int) (w : World) : ∀ k : Nat, k < 8 → (Instr.index 42 (.agg #[.int .i64 (f 0), .int .i64 (f 1), .int .i64 (f 2), .int .i64 (f 3), .int .i64 (f 4), .int .i64 (f 5), .int .i64 (f 6), .int .i64 (f 7)]) (.int .i64 (k : Int))).run Try.prog w = .ok (.int .i64 (f k)) w := by
  refine lt8 ?_ ?_ ?_ ?_ ?_ ?_ ?_ ?_
  all_goals simp [Instr.index, run_underlying Try.underlying42, go_sem, part, asIntOf]
def task11 (a0 a1 a2 : Int) (f : Nat → Int) : Array Value := #[.int .i64 a0, .int .i64 a1, .int .i64 a2, .int .i64 (f 0), .int .i64 (f 1), .int .i64 (f 2), .int .i64 (f 3), .int .i64 (f 4), .int .i64 (f 5), .int .i64 (f 6), .int .i64 (f 7)]
theorem task11_at (a0 a1 a2 : Int) (f : Nat → Int) : ∀ r, r < 8 → (task11 a0 a1 a2 f)[3 + r]? = some (.int .i64 (f r)) := lt8 rfl rfl rfl rfl rfl rfl rfl rfl
end Go.Proofs.Ytmaackdfhmpicaa
