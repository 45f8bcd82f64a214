/- The contracts of image's All and Edge, and of what Edge calls. -/
import Derived.Test.YtmaackdfhmpicaaJB
import Derived.Test.YtmaackdfhmpicaaVE
namespace Go.Proofs.Ytmaackdfhmpicaa
open Go.RowKit

theorem run_index_row {t : TypeId} {n : Nat} (hu : Try.prog.underlying t = some (.array n 3)) (l : List Int) (hl : l.length = n) (k : Nat) (hk : k < n) (w : World) :
    (Instr.index t (.agg (rowZ l).toArray) (.int .i64 (k : Int))).run Try.prog w = .ok (.int .i64 (l.getD k 0)) w := by
  have h0 : k < l.length := by omega
  have h1 : (rowZ l)[k]? = some (.int .i64 (l.getD k 0)) := by simp [rowZ, h0]
  have hk2 : (k : Int) < (n : Int) := by omega
  have hz : (rowZ l).length = l.length := rowZ_len l
  simp [Instr.index, run_underlying hu, go_sem, part, asIntOf]
  simp [h1]
  intro hc
  omega
def allI (x : Img) : BitVec 32 := btw 4294967295#32 (-1) (x.tasks.length : Int)
/-- Does an edge go so? -/
def isE (x : Img) (f t : Int) (k : Nat) : Bool := (x.e k).frm == f && (x.e k).dst == t
/-- The first edge that goes so. -/
def ixE (x : Img) (f t : Int) : Option Nat := (List.range x.edges.length).find? (isE x f t)
def ixI (o : Option Nat) : Int := match o with | some k => (k : Int) | none => -1
theorem ixE_some {x : Img} {f t : Int} {k : Nat} (hk : k < x.edges.length) (hn : ∀ j, j < k → isE x f t j = false) (h : isE x f t k = true) : ixE x f t = some k := by
  unfold ixE
  rw [List.find?_range_eq_some]
  exact ⟨h, by simpa using hk, fun j hj => by rw [hn j hj]; rfl⟩
theorem ixE_none {x : Img} {f t : Int} (hn : ∀ j, j < x.edges.length → isE x f t j = false) : ixE x f t = none := by
  unfold ixE
  rw [List.find?_eq_none]
  intro j hj
  rw [hn j (List.mem_range.1 hj)]; decide
end Go.Proofs.Ytmaackdfhmpicaa
