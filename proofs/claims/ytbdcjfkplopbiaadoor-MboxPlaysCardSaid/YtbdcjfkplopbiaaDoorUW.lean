/- Maths of the messages of one degree among all: how many of it there are among the first so many. No statement about the program. -/
import Derived.Test.YtbdcjfkplopbiaaDoorUR
import Derived.Test.YtbdcjfkplopbiaaDoorUM
namespace Go.Proofs.YtbdcjfkplopbiaaDoor
open Go.RowKit

def cntK (X : List (Int × Int)) (a : Int) (n : Nat) : Nat := ((X.take n).filter (fun x => decide (x.1 = a))).length
theorem cntK_zero (X : List (Int × Int)) (a : Int) : cntK X a 0 = 0 := by simp [cntK]
theorem cntK_yes {X : List (Int × Int)} {a : Int} {n : Nat} (hn : n < X.length) (h : (pth X n).1 = a) : cntK X a (n + 1) = cntK X a n + 1 := by
  unfold cntK; rw [pth_take X n hn, List.filter_append, List.length_append]; simp [h]
theorem cntK_no {X : List (Int × Int)} {a : Int} {n : Nat} (hn : n < X.length) (h : ¬ (pth X n).1 = a) : cntK X a (n + 1) = cntK X a n := by
  unfold cntK; rw [pth_take X n hn, List.filter_append, List.length_append]; simp [h]
theorem cntK_le (X : List (Int × Int)) (a : Int) (n : Nat) : cntK X a n ≤ n := by
  unfold cntK
  have h1 := List.length_filter_le (fun x : Int × Int => decide (x.1 = a)) (X.take n)
  have h2 := List.length_take_le n X
  omega
theorem split_at (X : List (Int × Int)) (n : Nat) (hn : n < X.length) : X = X.take n ++ (pth X n :: X.drop (n + 1)) := by
  have h : pth X n = X[n] := by unfold pth; rw [List.getD_eq_getElem?_getD, List.getElem?_eq_getElem hn]; rfl
  rw [h, ← List.drop_eq_getElem_cons hn, List.take_append_drop]
theorem of_at (f : Nat → List Int) (a : Int) (n : Nat) (hn : n < (toldF f).length) (h : (pth (toldF f) n).1 = a) :
    cntK (toldF f) a n < (ofF f a).length ∧ nth (ofF f a) (cntK (toldF f) a n) = (pth (toldF f) n).2 := by
  rw [← told_of f a]
  generalize toldF f = X at *
  have e := split_at X n hn
  have e2 : X.filter (fun x => decide (x.1 = a)) = (X.take n).filter (fun x => decide (x.1 = a)) ++ (pth X n :: (X.drop (n + 1)).filter (fun x => decide (x.1 = a))) := by
    conv => lhs; rw [e]
    rw [List.filter_append, List.filter_cons_of_pos (by simpa using h)]
  rw [e2]
  unfold cntK
  generalize (X.take n).filter (fun x => decide (x.1 = a)) = A
  generalize (X.drop (n + 1)).filter (fun x => decide (x.1 = a)) = C
  constructor
  · simp
  · unfold nth; rw [List.map_append]; simp
theorem of_len (f : Nat → List Int) (a : Int) : cntK (toldF f) a (toldF f).length = (ofF f a).length := by
  rw [← told_of f a]; unfold cntK; rw [List.take_length, List.length_map]
end Go.Proofs.YtbdcjfkplopbiaaDoor
