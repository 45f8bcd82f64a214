/- Where the reference's device lies; the contracts of its small calls. -/
import Derived.Test.YthpagbfabpfngaaFK
namespace Go.Proofs.Ythpagbfabpfngaa
open Go.RowKit

/-- The reference's device as a value. -/
def refV (vL vW : Value) (d : Dev) : Value := .agg #[.int .i64 d.ns, .int .i64 d.nw, .int .i64 d.limit, vL, vW, .bool (!d.on), .bool d.armed, .int .i64 d.after, .int .u32 (w32 d.seed), .int .i64 d.ops]
/-- All words, sector by sector. -/
def Dev.flat (d : Dev) : List (BitVec 32) := (List.range (d.ns * d.nw)).map fun t => d.word (t / d.nw) (t % d.nw)
def Dev.wears (d : Dev) : List Int := (List.range d.ns).map d.worn
def rowZ (l : List Int) : List Value := l.map (Value.int .i64)
structure RefAt (w : World) (base : Nat) (vL vW : Value) (d : Dev) : Prop where
  l : w.ownsRow base 26 1 vL (d.ns * d.nw) (rowB d.flat)
  wr : w.ownsRow base 3 1 vW d.ns (rowZ d.wears)
theorem flat_len (d : Dev) : d.flat.length = d.ns * d.nw := by simp [Dev.flat]
theorem wears_len (d : Dev) : d.wears.length = d.ns := by simp [Dev.wears]

theorem isR_any (vL vW : Value) (d : Dev) (s k : Int) (w : World) : Calls Try.prog 112 #[refV vL vW d, .int .i64 s, .int .i64 k] w fun e w' => e = .returned (.bool (d.okK s k)) ∧ Below w.heap.size w w' := by
  unfold Dev.okK Dev.has refV
  go_enter Try.func112, Try.ntmps112
  go_wp2
  all_goals
    go_ret
    refine ⟨?_, (Below.refl _ _).alloc (Nat.le_refl _) _⟩
    simp [*]
    try omega
end Go.Proofs.Ythpagbfabpfngaa
