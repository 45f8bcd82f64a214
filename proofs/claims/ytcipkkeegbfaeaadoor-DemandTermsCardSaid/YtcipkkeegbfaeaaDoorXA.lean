/- The contracts of the functions of check and of its reference that only compute with numbers: each returns what a plain function on integers says, for every argument, and leaves the world as it was. -/
import Derived.Test.YtcipkkeegbfaeaaDoorProg
import Derived.WalkKit
import Derived.ProofKit
import Derived.WalkLawsBesides
import Derived.WalkSpells
import Derived.Lib.Hide
namespace Go.Proofs.YtcipkkeegbfaeaaDoor
open Go.RowKit

def numB (a : Int) : Bool := decide (0 ≤ a ∧ a ≤ 1099511627776)
theorem numB_t {a : Int} (h : 0 ≤ a) (h' : a ≤ 1099511627776) : numB a = true := by simp [numB]; omega
theorem numB_f {a : Int} (h : a < 0 ∨ 1099511627776 < a) : numB a = false := by simp [numB]; omega
theorem numB_cases (a : Int) : (numB a = true ∧ 0 ≤ a ∧ a ≤ 1099511627776) ∨ (numB a = false ∧ (a < 0 ∨ 1099511627776 < a)) := by
  by_cases h : 0 ≤ a ∧ a ≤ 1099511627776
  · exact Or.inl ⟨numB_t h.1 h.2, h⟩
  · exact Or.inr ⟨numB_f (by omega), by omega⟩

theorem number_any (a : Int) (w : World) : Calls Tryd.prog 70 #[.int .i64 a] w fun e w' => e = .returned (.bool (numB a)) ∧ w = w' := by
  by_cases h : 0 ≤ a
  · by_cases h' : a ≤ 1099511627776
    · rw [numB_t h h']
      go_enter Tryd.func70, Tryd.ntmps70
      go_wp2
      go_ret
      exact ⟨rfl, rfl⟩
    · rw [numB_f (by omega)]
      go_enter Tryd.func70, Tryd.ntmps70
      go_wp2
      go_ret
      exact ⟨rfl, rfl⟩
  · rw [numB_f (by omega)]
    go_enter Tryd.func70, Tryd.ntmps70
    go_wp2
    go_ret
    exact ⟨rfl, rfl⟩


theorem answer_any (a : Int) (w : World) : Calls Tryd.prog 71 #[.int .i64 a] w fun e w' => e = .returned (.tuple #[.int .i64 (if numB a then a else 0), .bool (numB a)]) ∧ w = w' := by
  rcases numB_cases a with ⟨h, h1, h2⟩ | ⟨h, h1⟩
  · rw [h]
    go_enter Tryd.func71, Tryd.ntmps71
    go_wp2_with (go_at_call 70; refine (number_any _ _).mono ?_; rintro e w' ⟨rfl, rfl⟩)
    go_ret2
    exact ⟨rfl, rfl⟩
  · rw [h]
    go_enter Tryd.func71, Tryd.ntmps71
    go_wp2_with (go_at_call 70; refine (number_any _ _).mono ?_; rintro e w' ⟨rfl, rfl⟩)
    go_ret2
    exact ⟨rfl, rfl⟩

def addN (a b : Int) : Int := if numB a && numB b && numB (a + b) then a + b else 0
def addB (a b : Int) : Bool := numB a && numB b && numB (a + b)

theorem add_any (a b : Int) (w : World) : Calls Tryd.prog 61 #[.int .i64 a, .int .i64 b] w fun e w' => e = .returned (.tuple #[.int .i64 (addN a b), .bool (addB a b)]) ∧ w = w' := by
  unfold addN addB
  rcases numB_cases a with ⟨ha, ha1, ha2⟩ | ⟨ha, ha1⟩
  · rcases numB_cases b with ⟨hb, hb1, hb2⟩ | ⟨hb, hb1⟩
    · rw [ha, hb]
      go_enter Tryd.func61, Tryd.ntmps61
      go_wp2_with (first | (go_at_call 70; refine (number_any _ _).mono ?_; rintro e w' ⟨rfl, rfl⟩) | (go_at_call 71; refine (answer_any _ _).mono ?_; rintro e w' ⟨rfl, rfl⟩))
      all_goals
        go_ret2
        exact ⟨by simp_all, rfl⟩
    · rw [ha, hb]
      go_enter Tryd.func61, Tryd.ntmps61
      go_wp2_with (first | (go_at_call 70; refine (number_any _ _).mono ?_; rintro e w' ⟨rfl, rfl⟩) | (go_at_call 71; refine (answer_any _ _).mono ?_; rintro e w' ⟨rfl, rfl⟩))
      go_ret2
      exact ⟨by simp, rfl⟩
  · rw [ha]
    go_enter Tryd.func61, Tryd.ntmps61
    go_wp2_with (first | (go_at_call 70; refine (number_any _ _).mono ?_; rintro e w' ⟨rfl, rfl⟩) | (go_at_call 71; refine (answer_any _ _).mono ?_; rintro e w' ⟨rfl, rfl⟩))
    go_ret2
    exact ⟨by simp, rfl⟩

def mulN (a b : Int) : Int := if numB a && numB b && numB (a * b) then a * b else 0
def mulB (a b : Int) : Bool := numB a && numB b && numB (a * b)
theorem quo_lt {a b : Int} (hb : 0 < b) : 1099511627776 / b < a ↔ 1099511627776 < a * b := Int.ediv_lt_iff_lt_mul hb

theorem mul_any (a b : Int) (w : World) : Calls Tryd.prog 60 #[.int .i64 a, .int .i64 b] w fun e w' => e = .returned (.tuple #[.int .i64 (mulN a b), .bool (mulB a b)]) ∧ w = w' := by
  unfold mulN mulB
  rcases numB_cases a with ⟨ha, ha1, ha2⟩ | ⟨ha, ha1⟩
  · rcases numB_cases b with ⟨hb, hb1, hb2⟩ | ⟨hb, hb1⟩
    · by_cases h0 : 0 < b
      · have hp : 0 ≤ a * b := Int.mul_nonneg ha1 hb1
        by_cases hq : 1099511627776 / b < a
        · have hc : numB (a * b) = false := numB_f (by have := (quo_lt h0).1 hq; omega)
          rw [ha, hb, hc]
          go_enter Tryd.func60, Tryd.ntmps60
          go_wp2_with (go_at_call 70; refine (number_any _ _).mono ?_; rintro e w' ⟨rfl, rfl⟩)
          go_ret2
          exact ⟨by simp, rfl⟩
        · have hm : a * b ≤ 1099511627776 := by have h : ¬ 1099511627776 < a * b := fun h => hq ((quo_lt h0).2 h); omega
          have hc : numB (a * b) = true := numB_t hp hm
          rw [ha, hb, hc]
          go_enter Tryd.func60, Tryd.ntmps60
          go_wp2_with (go_at_call 70; refine (number_any _ _).mono ?_; rintro e w' ⟨rfl, rfl⟩)
          go_ret2
          exact ⟨by simp, rfl⟩
      · obtain rfl : b = 0 := by omega
        have hc : numB (a * 0) = true := numB_t (by omega) (by omega)
        rw [ha, hb, hc]
        go_enter Tryd.func60, Tryd.ntmps60
        go_wp2_with (go_at_call 70; refine (number_any _ _).mono ?_; rintro e w' ⟨rfl, rfl⟩)
        go_ret2
        exact ⟨by simp, rfl⟩
    · rw [ha, hb]
      go_enter Tryd.func60, Tryd.ntmps60
      go_wp2_with (go_at_call 70; refine (number_any _ _).mono ?_; rintro e w' ⟨rfl, rfl⟩)
      go_ret2
      exact ⟨by simp, rfl⟩
  · rw [ha]
    go_enter Tryd.func60, Tryd.ntmps60
    go_wp2_with (go_at_call 70; refine (number_any _ _).mono ?_; rintro e w' ⟨rfl, rfl⟩)
    go_ret2
    exact ⟨by simp, rfl⟩

def upN (a b : Int) : Int := if numB a && numB b && decide (0 < b) then (a + b - 1) / b else 0
def upB (a b : Int) : Bool := numB a && numB b && decide (0 < b)

theorem up_any (a b : Int) (w : World) : Calls Tryd.prog 59 #[.int .i64 a, .int .i64 b] w fun e w' => e = .returned (.tuple #[.int .i64 (upN a b), .bool (upB a b)]) ∧ w = w' := by
  unfold upN upB
  rcases numB_cases a with ⟨ha, ha1, ha2⟩ | ⟨ha, ha1⟩
  · rcases numB_cases b with ⟨hb, hb1, hb2⟩ | ⟨hb, hb1⟩
    · by_cases h0 : 0 < b
      · have eb : (b == 0) = false := by simp; omega
        rw [ha, hb, decide_eq_true h0]
        go_enter Tryd.func59, Tryd.ntmps59
        go_wp2_with (go_at_call 70; refine (number_any _ _).mono ?_; rintro e w' ⟨rfl, rfl⟩)
        go_ret2
        exact ⟨by simp, rfl⟩
      · obtain rfl : b = 0 := by omega
        rw [ha, hb]
        go_enter Tryd.func59, Tryd.ntmps59
        go_wp2_with (go_at_call 70; refine (number_any _ _).mono ?_; rintro e w' ⟨rfl, rfl⟩)
        go_ret2
        exact ⟨by simp, rfl⟩
    · rw [ha, hb]
      go_enter Tryd.func59, Tryd.ntmps59
      go_wp2_with (go_at_call 70; refine (number_any _ _).mono ?_; rintro e w' ⟨rfl, rfl⟩)
      go_ret2
      exact ⟨by simp, rfl⟩
  · rw [ha]
    go_enter Tryd.func59, Tryd.ntmps59
    go_wp2_with (go_at_call 70; refine (number_any _ _).mono ?_; rintro e w' ⟨rfl, rfl⟩)
    go_ret2
    exact ⟨by simp, rfl⟩

theorem quo_bds {a b : Int} (ha : 0 ≤ a) (hb : 0 < b) : 0 ≤ a / b ∧ a / b ≤ a ∧ 0 ≤ a / b * b ∧ a / b * b ≤ a ∧ a < a / b * b + b := by
  have h1 := Int.ediv_nonneg ha (by omega : 0 ≤ b)
  have h2 := Int.ediv_mul_add_emod a b
  have h3 := Int.emod_nonneg a (by omega : b ≠ 0)
  have h4 := Int.emod_lt_of_pos a hb
  have h5 := Int.ediv_le_self b ha
  have h6 := Int.mul_nonneg h1 (by omega : 0 ≤ b)
  omega
theorem up_eq {a b : Int} (ha : 0 ≤ a) (hb : 0 < b) : (a + b - 1) / b = if a / b * b < a then a / b + 1 else a / b := by
  obtain ⟨h1, h2, h3, h4, h5⟩ := quo_bds ha hb
  split
  · rename_i h
    rw [Int.ediv_eq_iff_of_pos hb]
    rw [Int.add_mul]
    omega
  · rename_i h
    rw [Int.ediv_eq_iff_of_pos hb]
    omega

def lessN (a b : Int) : Int := if numB a && numB b then (if a < b then 0 else a - b) else 0
def lessB (a b : Int) : Bool := numB a && numB b

theorem less_any (a b : Int) (w : World) : Calls Tryd.prog 58 #[.int .i64 a, .int .i64 b] w fun e w' => e = .returned (.tuple #[.int .i64 (lessN a b), .bool (lessB a b)]) ∧ w = w' := by
  unfold lessN lessB
  rcases numB_cases a with ⟨ha, ha1, ha2⟩ | ⟨ha, ha1⟩
  · rcases numB_cases b with ⟨hb, hb1, hb2⟩ | ⟨hb, hb1⟩
    · by_cases h0 : a < b
      · rw [ha, hb, if_pos h0]
        go_enter Tryd.func58, Tryd.ntmps58
        go_wp2_with (go_at_call 70; refine (number_any _ _).mono ?_; rintro e w' ⟨rfl, rfl⟩)
        go_ret2
        exact ⟨by simp, rfl⟩
      · rw [ha, hb, if_neg h0]
        go_enter Tryd.func58, Tryd.ntmps58
        go_wp2_with (go_at_call 70; refine (number_any _ _).mono ?_; rintro e w' ⟨rfl, rfl⟩)
        go_ret2
        exact ⟨by simp, rfl⟩
    · rw [ha, hb]
      go_enter Tryd.func58, Tryd.ntmps58
      go_wp2_with (go_at_call 70; refine (number_any _ _).mono ?_; rintro e w' ⟨rfl, rfl⟩)
      go_ret2
      exact ⟨by simp, rfl⟩
  · rw [ha]
    go_enter Tryd.func58, Tryd.ntmps58
    go_wp2_with (go_at_call 70; refine (number_any _ _).mono ?_; rintro e w' ⟨rfl, rfl⟩)
    go_ret2
    exact ⟨by simp, rfl⟩

end Go.Proofs.YtcipkkeegbfaeaaDoor
