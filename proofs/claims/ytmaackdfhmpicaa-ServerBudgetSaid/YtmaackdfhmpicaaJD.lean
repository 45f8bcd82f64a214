/- The contract of image's checkTasks. -/
import Derived.Test.YtmaackdfhmpicaaJC
namespace Go.Proofs.Ytmaackdfhmpicaa
open Go.RowKit

abbrev exT (a0 a1 a2 : Int) (f : Nat → Int) : List Value := [.int .i64 a0, .int .i64 a1, .int .i64 a2, .int .i64 (f 0), .int .i64 (f 1), .int .i64 (f 2), .int .i64 (f 3), .int .i64 (f 4), .int .i64 (f 5), .int .i64 (f 6), .int .i64 (f 7)]
theorem taskC_row {t : TaskM} (h : t.lon.length = 8) : (taskC t).toArray = task11 t.per t.dl t.cost (fun r => t.lon.getD r 0) := by
  obtain ⟨p, d, c, l⟩ := t
  simp only at h
  rcases l with _ | ⟨a0, _ | ⟨a1, _ | ⟨a2, _ | ⟨a3, _ | ⟨a4, _ | ⟨a5, _ | ⟨a6, _ | ⟨a7, _ | ⟨a8, l⟩⟩⟩⟩⟩⟩⟩⟩⟩
  all_goals first | rfl | (simp only [List.length_cons, List.length_nil] at h; omega)
theorem taskC_ex {t : TaskM} (h : t.lon.length = 8) : taskC t = exT t.per t.dl t.cost (fun r => t.lon.getD r 0) := by
  have := congrArg Array.toList (taskC_row h)
  simpa [task11, exT] using this
theorem taskC_len {t : TaskM} (h : t.lon.length = 8) : (taskC t).length = 11 := by
  unfold taskC
  simp only [List.length_cons, rowZ_len, h]
theorem taskC_one (t : TaskM) : (taskC t).all (·.oneCell') = true := by
  unfold taskC
  simp only [List.all_cons, rowZ_one, Bool.and_true]
  rfl
/-- The first number below another one that is not as asked. -/
def firstNo (n : Nat) (p : Nat → Bool) : Option Nat := (List.range n).find? fun k => !p k
theorem firstNo_some {n : Nat} {p : Nat → Bool} {k : Nat} (hk : k < n) (hn : ∀ j, j < k → p j = true) (h : p k = false) : firstNo n p = some k := by
  unfold firstNo
  rw [List.find?_range_eq_some]
  exact ⟨by rw [h]; rfl, by simpa using hk, fun j hj => by rw [hn j hj]; rfl⟩
theorem firstNo_none {n : Nat} {p : Nat → Bool} (hn : ∀ j, j < n → p j = true) : firstNo n p = none := by
  unfold firstNo
  rw [List.find?_eq_none]
  intro j hj
  rw [hn j (List.mem_range.1 hj)]; decide
def codeOf (o : Option Nat) (c : Int) : Int × Int := match o with | some k => ((k : Int), c) | none => (0, 0)
/-- May the k-th task of an image be? -/
def tkOK (x : Img) (k : Nat) : Bool := taskOK (x.t k).per (x.t k).dl (x.t k).cost (fun r => (x.t k).lon.getD r 0) x.res
/-- What is said of an image's tasks. -/
def codeT (x : Img) : Int × Int := if inB (x.tasks.length : Int) 1 16 = true then codeOf (firstNo x.tasks.length (tkOK x)) 100 else ((x.tasks.length : Int), 100)
end Go.Proofs.Ytmaackdfhmpicaa
