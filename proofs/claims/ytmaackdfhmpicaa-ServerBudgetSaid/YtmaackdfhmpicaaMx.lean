/- max and min of two ints, as arms of a walk. -/
import Derived.Test.YtmaackdfhmpicaaVary
namespace Go.Proofs.Ytmaackdfhmpicaa
open Go.RowKit

theorem max2_int (k : IntKind) (m n : Int) : Builtin.max2 (.int k m) (.int k n) = pure (.int k (max m n)) := by
  have : (if n > m then n else m) = max m n := by split <;> omega
  simp only [Builtin.max2, this]
theorem min2_int (k : IntKind) (m n : Int) : Builtin.min2 (.int k m) (.int k n) = pure (.int k (min m n)) := by
  have : (if n < m then n else m) = min m n := by split <;> omega
  simp only [Builtin.min2, this]
theorem wp_max {P : Program} {o : Oper} {a : Act} {w : World} {K : Act → World → Prop} {Q : Exit → Act → World → Prop} (x y : Operand) (ts : Array TypeId)
    (ho : o.op = .call { callee := .builtin .max, args := #[x, y], argTypes := ts }) (m n : Int) (hx : a.eval x = .int .i64 m) (hy : a.eval y = .int .i64 n)
    (h : K (a.put o.dst (.int .i64 (max m n))) w) : Oper.wp P o a w K Q := by
  unfold Oper.wp execOp
  simp only [ho, resolve, invoke, builtin, Builtin.max_, Sem.run_bind, Sem.run_pure, Result.andThen_ok, List.map_toArray, List.map_cons, List.map_nil, hx, hy, List.foldlM_cons, List.foldlM_nil, max2_int]
  exact h
theorem wp_min {P : Program} {o : Oper} {a : Act} {w : World} {K : Act → World → Prop} {Q : Exit → Act → World → Prop} (x y : Operand) (ts : Array TypeId)
    (ho : o.op = .call { callee := .builtin .min, args := #[x, y], argTypes := ts }) (m n : Int) (hx : a.eval x = .int .i64 m) (hy : a.eval y = .int .i64 n)
    (h : K (a.put o.dst (.int .i64 (min m n))) w) : Oper.wp P o a w K Q := by
  unfold Oper.wp execOp
  simp only [ho, resolve, invoke, builtin, Builtin.min_, Sem.run_bind, Sem.run_pure, Result.andThen_ok, List.map_toArray, List.map_cons, List.map_nil, hx, hy, List.foldlM_cons, List.foldlM_nil, min2_int]
  exact h
theorem wpList_max {P : Program} {ops : Array Oper} {rest : List Oper} {o : Oper} {a : Act} {w : World} {Q : Exit → Act → World → Prop} (hgd : o.guard = none) (x y : Operand) (ts : Array TypeId)
    (ho : o.op = .call { callee := .builtin .max, args := #[x, y], argTypes := ts }) (m n : Int) (hx : a.eval x = .int .i64 m) (hy : a.eval y = .int .i64 n)
    (h : wpList P ops Q rest (a.put o.dst (.int .i64 (max m n))) w) : wpList P ops Q (o :: rest) a w :=
  wpList_plain hgd fun _ hK => wp_max x y ts ho m n hx hy (hK _ _ h)
theorem wpList_min {P : Program} {ops : Array Oper} {rest : List Oper} {o : Oper} {a : Act} {w : World} {Q : Exit → Act → World → Prop} (hgd : o.guard = none) (x y : Operand) (ts : Array TypeId)
    (ho : o.op = .call { callee := .builtin .min, args := #[x, y], argTypes := ts }) (m n : Int) (hx : a.eval x = .int .i64 m) (hy : a.eval y = .int .i64 n)
    (h : wpList P ops Q rest (a.put o.dst (.int .i64 (min m n))) w) : wpList P ops Q (o :: rest) a w :=
  wpList_plain hgd fun _ hK => wp_min x y ts ho m n hx hy (hK _ _ h)
/-- For a walk's context: max and min stay folded. -/
theorem hmax (P : Program) : ∀ (w : World) (ts : Array TypeId) (t : TypeId) (m n : Int), (Builtin.max_ ts t #[.int .i64 m, .int .i64 n]).run P w = .ok (.int .i64 (max m n)) w := fun w ts t m n => by
  simp only [Builtin.max_, List.foldlM_cons, List.foldlM_nil, max2_int, Sem.run_bind, Sem.run_pure, Result.andThen_ok]
theorem hmin (P : Program) : ∀ (w : World) (ts : Array TypeId) (t : TypeId) (m n : Int), (Builtin.min_ ts t #[.int .i64 m, .int .i64 n]).run P w = .ok (.int .i64 (min m n)) w := fun w ts t m n => by
  simp only [Builtin.min_, List.foldlM_cons, List.foldlM_nil, min2_int, Sem.run_bind, Sem.run_pure, Result.andThen_ok]
end Go.Proofs.Ytmaackdfhmpicaa
