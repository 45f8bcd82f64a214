/- The contracts of image's All and Edge, and of what Edge calls. -/
import Derived.Test.YtknkhigmokooaaaDoorJB
import Derived.Test.YtknkhigmokooaaaDoorVE
namespace Go.Proofs.YtknkhigmokooaaaDoor
open Go.RowKit

theorem run_index_row {t : TypeId} {n : Nat} (hu : Tryd.prog.underlying t = some (.array n 3)) (l : List Int) (hl : l.length = n) (k : Nat) (hk : k < n) (w : World) :
    (Instr.index t (.agg (rowZ l).toArray) (.int .i64 (k : Int))).run Tryd.prog w = .ok (.int .i64 (l.getD k 0)) w := by
  have h0 : k < l.length := by omega
  have h1 : (rowZ l)[k]? = some (.int .i64 (l.getD k 0)) := by simp [rowZ, h0]
  have hk2 : (k : Int) < (n : Int) := by omega
  have hz : (rowZ l).length = l.length := rowZ_len l
  simp [Instr.index, run_underlying hu, go_sem, part, asIntOf]
  simp [h1]
  intro hc
  omega
def allI (x : Img) : BitVec 32 := btw 4294967295#32 (-1) (x.tasks.length : Int)
theorem iAll_any (x : Img) (S : ImgS) (w : World) : Calls Tryd.prog 41 #[.agg #[.int .i64 x.res, .slice S.t.sp x.tasks.length S.t.c, .slice S.m.sp x.modes.length S.m.c, .slice S.e.sp x.edges.length S.e.c]] w fun e w' => e = .returned (.int .u32 (w32 (allI x))) ∧ Below w.heap.size w w' := by
  have HB := Lib.hid (show ∀ wx, Calls Tryd.prog 33 #[.int .u32 4294967295, .int .i64 (x.tasks.length : Int)] wx fun e w' => e = .returned (.int .u32 (w32 (allI x))) ∧ wx = w' from fun wx => below_any 4294967295#32 (x.tasks.length : Int) wx)
  obtain ⟨nT, hnT⟩ : ∃ n, x.tasks.length = n := ⟨_, rfl⟩
  obtain ⟨nM, hnM⟩ : ∃ n, x.modes.length = n := ⟨_, rfl⟩
  obtain ⟨nE, hnE⟩ : ∃ n, x.edges.length = n := ⟨_, rfl⟩
  obtain ⟨a, ha⟩ : ∃ a, allI x = a := ⟨_, rfl⟩
  rw [hnT, ha] at HB
  rw [hnT, hnM, hnE, ha]
  have HZ := Lib.hid (show Below w.heap.size w (w.alloc (.cells #[.int .i64 x.res, .slice S.t.sp nT S.t.c, .slice S.m.sp nM S.m.c, .slice S.e.sp nE S.e.c] 26)) from (Below.refl _ _).alloc (Nat.le_refl _) _)
  clear hnT hnM hnE ha
  go_enter Tryd.func41, Tryd.ntmps41
  go_wp2_with (go_at_call 33; refine (HB.out _).mono ?_; rintro e w' ⟨rfl, rfl⟩)
  go_ret
  exact ⟨rfl, HZ.out⟩
/-- Does an edge go so? -/
def isE (x : Img) (f t : Int) (k : Nat) : Bool := (x.e k).frm == f && (x.e k).dst == t
/-- The first edge that goes so. -/
def ixE (x : Img) (f t : Int) : Option Nat := (List.range x.edges.length).find? (isE x f t)
def ixI (o : Option Nat) : Int := match o with | some k => (k : Int) | none => -1
theorem ixE_some {x : Img} {f t : Int} {k : Nat} (hk : k < x.edges.length) (hn : ∀ j, j < k → isE x f t j = false) (h : isE x f t k = true) : ixE x f t = some k := by
  unfold ixE
  rw [List.find?_range_eq_some]
  exact ⟨h, by simpa using hk, fun j hj => by rw [hn j hj]; rfl⟩
theorem ixE_none {x : Img} {f t : Int} (hn : ∀ j, j < x.edges.length → isE x f t j = false) : ixE x f t = none := by
  unfold ixE
  rw [List.find?_eq_none]
  intro j hj
  rw [hn j (List.mem_range.1 hj)]; decide
end Go.Proofs.YtknkhigmokooaaaDoor
