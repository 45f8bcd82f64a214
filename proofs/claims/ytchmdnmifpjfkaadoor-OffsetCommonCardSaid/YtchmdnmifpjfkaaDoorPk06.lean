/- Several texts in one: XA, XB, XC, XD, XE. -/
import Derived.Test.YtchmdnmifpjfkaaDoorProg
import Derived.WalkKit
import Derived.ProofKit
import Derived.WalkLawsBesides
import Derived.WalkSpells
import Derived.Lib.Hide
import Derived.Test.YtchmdnmifpjfkaaDoorPk05
import Derived.RecoverIn
import Derived.OwnWalkIn
import Derived.TacticsInMore
import Derived.RegionIn
import Derived.LoopNIn
import Derived.LoopIn
import Derived.Shelf.Abstract
import Derived.Shelf.RegionOpen
import Derived.Test.YtchmdnmifpjfkaaDoorPk01
/- The contracts of the functions of check and of its reference that only compute with numbers: each returns what a plain function on integers says, for every argument, and leaves the world as it was. -/
namespace Go.Proofs.YtchmdnmifpjfkaaDoor
open Go.RowKit

def numB (a : Int) : Bool := decide (0 ≤ a ∧ a ≤ 1099511627776)
theorem numB_t {a : Int} (h : 0 ≤ a) (h' : a ≤ 1099511627776) : numB a = true := by simp [numB]; omega
theorem numB_f {a : Int} (h : a < 0 ∨ 1099511627776 < a) : numB a = false := by simp [numB]; omega
theorem numB_cases (a : Int) : (numB a = true ∧ 0 ≤ a ∧ a ≤ 1099511627776) ∨ (numB a = false ∧ (a < 0 ∨ 1099511627776 < a)) := by
  by_cases h : 0 ≤ a ∧ a ≤ 1099511627776
  · exact Or.inl ⟨numB_t h.1 h.2, h⟩
  · exact Or.inr ⟨numB_f (by omega), by omega⟩

theorem number_any (a : Int) (w : World) : Calls Tryd.prog 108 #[.int .i64 a] w fun e w' => e = .returned (.bool (numB a)) ∧ w = w' := by
  by_cases h : 0 ≤ a
  · by_cases h' : a ≤ 1099511627776
    · rw [numB_t h h']
      go_enter Tryd.func108, Tryd.ntmps108
      go_wp2
      go_ret
      exact ⟨rfl, rfl⟩
    · rw [numB_f (by omega)]
      go_enter Tryd.func108, Tryd.ntmps108
      go_wp2
      go_ret
      exact ⟨rfl, rfl⟩
  · rw [numB_f (by omega)]
    go_enter Tryd.func108, Tryd.ntmps108
    go_wp2
    go_ret
    exact ⟨rfl, rfl⟩


theorem in_any (a : Int) (w : World) : Calls Tryd.prog 95 #[.int .i64 a] w fun e w' => e = .returned (.bool (numB a)) ∧ w = w' := by
  by_cases h : 0 ≤ a
  · by_cases h' : a ≤ 1099511627776
    · rw [numB_t h h']
      go_enter Tryd.func95, Tryd.ntmps95
      go_wp2
      go_ret
      exact ⟨rfl, rfl⟩
    · rw [numB_f (by omega)]
      go_enter Tryd.func95, Tryd.ntmps95
      go_wp2
      go_ret
      exact ⟨rfl, rfl⟩
  · rw [numB_f (by omega)]
    go_enter Tryd.func95, Tryd.ntmps95
    go_wp2
    go_ret
    exact ⟨rfl, rfl⟩

theorem answer_any (a : Int) (w : World) : Calls Tryd.prog 109 #[.int .i64 a] w fun e w' => e = .returned (.tuple #[.int .i64 (if numB a then a else 0), .bool (numB a)]) ∧ w = w' := by
  rcases numB_cases a with ⟨h, h1, h2⟩ | ⟨h, h1⟩
  · rw [h]
    go_enter Tryd.func109, Tryd.ntmps109
    go_wp2_with (go_at_call 108; refine (number_any _ _).mono ?_; rintro e w' ⟨rfl, rfl⟩)
    go_ret2
    exact ⟨rfl, rfl⟩
  · rw [h]
    go_enter Tryd.func109, Tryd.ntmps109
    go_wp2_with (go_at_call 108; refine (number_any _ _).mono ?_; rintro e w' ⟨rfl, rfl⟩)
    go_ret2
    exact ⟨rfl, rfl⟩

def addN (a b : Int) : Int := if numB a && numB b && numB (a + b) then a + b else 0
def addB (a b : Int) : Bool := numB a && numB b && numB (a + b)

theorem add_any (a b : Int) (w : World) : Calls Tryd.prog 103 #[.int .i64 a, .int .i64 b] w fun e w' => e = .returned (.tuple #[.int .i64 (addN a b), .bool (addB a b)]) ∧ w = w' := by
  unfold addN addB
  rcases numB_cases a with ⟨ha, ha1, ha2⟩ | ⟨ha, ha1⟩
  · rcases numB_cases b with ⟨hb, hb1, hb2⟩ | ⟨hb, hb1⟩
    · rw [ha, hb]
      go_enter Tryd.func103, Tryd.ntmps103
      go_wp2_with (first | (go_at_call 108; refine (number_any _ _).mono ?_; rintro e w' ⟨rfl, rfl⟩) | (go_at_call 109; refine (answer_any _ _).mono ?_; rintro e w' ⟨rfl, rfl⟩))
      all_goals
        go_ret2
        exact ⟨by simp_all, rfl⟩
    · rw [ha, hb]
      go_enter Tryd.func103, Tryd.ntmps103
      go_wp2_with (first | (go_at_call 108; refine (number_any _ _).mono ?_; rintro e w' ⟨rfl, rfl⟩) | (go_at_call 109; refine (answer_any _ _).mono ?_; rintro e w' ⟨rfl, rfl⟩))
      go_ret2
      exact ⟨by simp, rfl⟩
  · rw [ha]
    go_enter Tryd.func103, Tryd.ntmps103
    go_wp2_with (first | (go_at_call 108; refine (number_any _ _).mono ?_; rintro e w' ⟨rfl, rfl⟩) | (go_at_call 109; refine (answer_any _ _).mono ?_; rintro e w' ⟨rfl, rfl⟩))
    go_ret2
    exact ⟨by simp, rfl⟩

theorem refadd_any (a b : Int) (w : World) : Calls Tryd.prog 71 #[.int .i64 a, .int .i64 b] w fun e w' => e = .returned (.tuple #[.int .i64 (addN a b), .bool (addB a b)]) ∧ w = w' := by
  unfold addN addB
  rcases numB_cases a with ⟨ha, ha1, ha2⟩ | ⟨ha, ha1⟩
  · rcases numB_cases b with ⟨hb, hb1, hb2⟩ | ⟨hb, hb1⟩
    · rcases numB_cases (a + b) with ⟨hc, hc1, hc2⟩ | ⟨hc, hc1⟩
      all_goals
        rw [ha, hb, hc]
        go_enter Tryd.func71, Tryd.ntmps71
        go_wp2_with (go_at_call 95; refine (in_any _ _).mono ?_; rintro e w' ⟨rfl, rfl⟩)
        go_ret2
        exact ⟨by simp, rfl⟩
    · rw [ha, hb]
      go_enter Tryd.func71, Tryd.ntmps71
      go_wp2_with (go_at_call 95; refine (in_any _ _).mono ?_; rintro e w' ⟨rfl, rfl⟩)
      go_ret2
      exact ⟨by simp, rfl⟩
  · rw [ha]
    go_enter Tryd.func71, Tryd.ntmps71
    go_wp2_with (go_at_call 95; refine (in_any _ _).mono ?_; rintro e w' ⟨rfl, rfl⟩)
    go_ret2
    exact ⟨by simp, rfl⟩

def mulN (a b : Int) : Int := if numB a && numB b && numB (a * b) then a * b else 0
def mulB (a b : Int) : Bool := numB a && numB b && numB (a * b)
theorem quo_lt {a b : Int} (hb : 0 < b) : 1099511627776 / b < a ↔ 1099511627776 < a * b := Int.ediv_lt_iff_lt_mul hb

theorem mul_any (a b : Int) (w : World) : Calls Tryd.prog 111 #[.int .i64 a, .int .i64 b] w fun e w' => e = .returned (.tuple #[.int .i64 (mulN a b), .bool (mulB a b)]) ∧ w = w' := by
  unfold mulN mulB
  rcases numB_cases a with ⟨ha, ha1, ha2⟩ | ⟨ha, ha1⟩
  · rcases numB_cases b with ⟨hb, hb1, hb2⟩ | ⟨hb, hb1⟩
    · by_cases h0 : 0 < b
      · have hp : 0 ≤ a * b := Int.mul_nonneg ha1 hb1
        by_cases hq : 1099511627776 / b < a
        · have hc : numB (a * b) = false := numB_f (by have := (quo_lt h0).1 hq; omega)
          rw [ha, hb, hc]
          go_enter Tryd.func111, Tryd.ntmps111
          go_wp2_with (go_at_call 108; refine (number_any _ _).mono ?_; rintro e w' ⟨rfl, rfl⟩)
          go_ret2
          exact ⟨by simp, rfl⟩
        · have hm : a * b ≤ 1099511627776 := by have h : ¬ 1099511627776 < a * b := fun h => hq ((quo_lt h0).2 h); omega
          have hc : numB (a * b) = true := numB_t hp hm
          rw [ha, hb, hc]
          go_enter Tryd.func111, Tryd.ntmps111
          go_wp2_with (go_at_call 108; refine (number_any _ _).mono ?_; rintro e w' ⟨rfl, rfl⟩)
          go_ret2
          exact ⟨by simp, rfl⟩
      · obtain rfl : b = 0 := by omega
        have hc : numB (a * 0) = true := numB_t (by omega) (by omega)
        rw [ha, hb, hc]
        go_enter Tryd.func111, Tryd.ntmps111
        go_wp2_with (go_at_call 108; refine (number_any _ _).mono ?_; rintro e w' ⟨rfl, rfl⟩)
        go_ret2
        exact ⟨by simp, rfl⟩
    · rw [ha, hb]
      go_enter Tryd.func111, Tryd.ntmps111
      go_wp2_with (go_at_call 108; refine (number_any _ _).mono ?_; rintro e w' ⟨rfl, rfl⟩)
      go_ret2
      exact ⟨by simp, rfl⟩
  · rw [ha]
    go_enter Tryd.func111, Tryd.ntmps111
    go_wp2_with (go_at_call 108; refine (number_any _ _).mono ?_; rintro e w' ⟨rfl, rfl⟩)
    go_ret2
    exact ⟨by simp, rfl⟩

theorem refmul_any (a b : Int) (w : World) : Calls Tryd.prog 101 #[.int .i64 a, .int .i64 b] w fun e w' => e = .returned (.tuple #[.int .i64 (mulN a b), .bool (mulB a b)]) ∧ w = w' := by
  unfold mulN mulB
  rcases numB_cases a with ⟨ha, ha1, ha2⟩ | ⟨ha, ha1⟩
  · rcases numB_cases b with ⟨hb, hb1, hb2⟩ | ⟨hb, hb1⟩
    · by_cases h0 : 0 < b
      · have eb : (b == 0) = false := by simp; omega
        by_cases h1 : 0 < a
        · have ea : (a == 0) = false := by simp; omega
          have hp : 0 ≤ a * b := Int.mul_nonneg ha1 hb1
          by_cases hq : 1099511627776 / a < b
          · have hc : numB (a * b) = false := numB_f (by have := (quo_lt h1).1 hq; rw [Int.mul_comm] at this; omega)
            rw [ha, hb, hc]
            go_enter Tryd.func101, Tryd.ntmps101
            go_wp2_with (go_at_call 95; refine (in_any _ _).mono ?_; rintro e w' ⟨rfl, rfl⟩)
            go_ret2
            exact ⟨by simp, rfl⟩
          · have hm : a * b ≤ 1099511627776 := by
              have h : ¬ 1099511627776 < b * a := fun h => hq ((quo_lt h1).2 h)
              rw [Int.mul_comm] at h; omega
            have hc : numB (a * b) = true := numB_t hp hm
            rw [ha, hb, hc]
            go_enter Tryd.func101, Tryd.ntmps101
            go_wp2_with (go_at_call 95; refine (in_any _ _).mono ?_; rintro e w' ⟨rfl, rfl⟩)
            go_ret2
            exact ⟨by simp, rfl⟩
        · obtain rfl : a = 0 := by omega
          have hc : numB (0 * b) = true := numB_t (by omega) (by omega)
          rw [ha, hb, hc]
          go_enter Tryd.func101, Tryd.ntmps101
          go_wp2_with (go_at_call 95; refine (in_any _ _).mono ?_; rintro e w' ⟨rfl, rfl⟩)
          go_ret2
          exact ⟨by simp, rfl⟩
      · obtain rfl : b = 0 := by omega
        have hc : numB (a * 0) = true := numB_t (by omega) (by omega)
        rw [ha, hb, hc]
        by_cases h1 : a = 0
        · subst h1
          go_enter Tryd.func101, Tryd.ntmps101
          go_wp2_with (go_at_call 95; refine (in_any _ _).mono ?_; rintro e w' ⟨rfl, rfl⟩)
          go_ret2
          exact ⟨by simp, rfl⟩
        · have ea : (a == 0) = false := by simp; omega
          go_enter Tryd.func101, Tryd.ntmps101
          go_wp2_with (go_at_call 95; refine (in_any _ _).mono ?_; rintro e w' ⟨rfl, rfl⟩)
          go_ret2
          exact ⟨by simp, rfl⟩
    · rw [ha, hb]
      go_enter Tryd.func101, Tryd.ntmps101
      go_wp2_with (go_at_call 95; refine (in_any _ _).mono ?_; rintro e w' ⟨rfl, rfl⟩)
      go_ret2
      exact ⟨by simp, rfl⟩
  · rw [ha]
    go_enter Tryd.func101, Tryd.ntmps101
    go_wp2_with (go_at_call 95; refine (in_any _ _).mono ?_; rintro e w' ⟨rfl, rfl⟩)
    go_ret2
    exact ⟨by simp, rfl⟩

def upN (a b : Int) : Int := if numB a && numB b && decide (0 < b) then (a + b - 1) / b else 0
def upB (a b : Int) : Bool := numB a && numB b && decide (0 < b)

theorem up_any (a b : Int) (w : World) : Calls Tryd.prog 116 #[.int .i64 a, .int .i64 b] w fun e w' => e = .returned (.tuple #[.int .i64 (upN a b), .bool (upB a b)]) ∧ w = w' := by
  unfold upN upB
  rcases numB_cases a with ⟨ha, ha1, ha2⟩ | ⟨ha, ha1⟩
  · rcases numB_cases b with ⟨hb, hb1, hb2⟩ | ⟨hb, hb1⟩
    · by_cases h0 : 0 < b
      · have eb : (b == 0) = false := by simp; omega
        rw [ha, hb, decide_eq_true h0]
        go_enter Tryd.func116, Tryd.ntmps116
        go_wp2_with (go_at_call 108; refine (number_any _ _).mono ?_; rintro e w' ⟨rfl, rfl⟩)
        go_ret2
        exact ⟨by simp, rfl⟩
      · obtain rfl : b = 0 := by omega
        rw [ha, hb]
        go_enter Tryd.func116, Tryd.ntmps116
        go_wp2_with (go_at_call 108; refine (number_any _ _).mono ?_; rintro e w' ⟨rfl, rfl⟩)
        go_ret2
        exact ⟨by simp, rfl⟩
    · rw [ha, hb]
      go_enter Tryd.func116, Tryd.ntmps116
      go_wp2_with (go_at_call 108; refine (number_any _ _).mono ?_; rintro e w' ⟨rfl, rfl⟩)
      go_ret2
      exact ⟨by simp, rfl⟩
  · rw [ha]
    go_enter Tryd.func116, Tryd.ntmps116
    go_wp2_with (go_at_call 108; refine (number_any _ _).mono ?_; rintro e w' ⟨rfl, rfl⟩)
    go_ret2
    exact ⟨by simp, rfl⟩

theorem quo_bds {a b : Int} (ha : 0 ≤ a) (hb : 0 < b) : 0 ≤ a / b ∧ a / b ≤ a ∧ 0 ≤ a / b * b ∧ a / b * b ≤ a ∧ a < a / b * b + b := by
  have h1 := Int.ediv_nonneg ha (by omega : 0 ≤ b)
  have h2 := Int.ediv_mul_add_emod a b
  have h3 := Int.emod_nonneg a (by omega : b ≠ 0)
  have h4 := Int.emod_lt_of_pos a hb
  have h5 := Int.ediv_le_self b ha
  have h6 := Int.mul_nonneg h1 (by omega : 0 ≤ b)
  omega
theorem up_eq {a b : Int} (ha : 0 ≤ a) (hb : 0 < b) : (a + b - 1) / b = if a / b * b < a then a / b + 1 else a / b := by
  obtain ⟨h1, h2, h3, h4, h5⟩ := quo_bds ha hb
  split
  · rename_i h
    rw [Int.ediv_eq_iff_of_pos hb]
    rw [Int.add_mul]
    omega
  · rename_i h
    rw [Int.ediv_eq_iff_of_pos hb]
    omega

theorem refup_any (a b : Int) (w : World) : Calls Tryd.prog 100 #[.int .i64 a, .int .i64 b] w fun e w' => e = .returned (.tuple #[.int .i64 (upN a b), .bool (upB a b)]) ∧ w = w' := by
  unfold upN upB
  rcases numB_cases a with ⟨ha, ha1, ha2⟩ | ⟨ha, ha1⟩
  · rcases numB_cases b with ⟨hb, hb1, hb2⟩ | ⟨hb, hb1⟩
    · by_cases h0 : 0 < b
      · have eb : (b == 0) = false := by simp; omega
        rw [ha, hb, decide_eq_true h0]
        obtain ⟨h1, h2, h3, h4, h5⟩ := quo_bds ha1 h0
        have hu := up_eq ha1 h0
        by_cases hlt : a / b * b < a
        · rw [if_pos hlt] at hu
          rw [hu]
          clear hu
          go_enter Tryd.func100, Tryd.ntmps100
          go_wp2_with (go_at_call 95; refine (in_any _ _).mono ?_; rintro e w' ⟨rfl, rfl⟩)
          go_ret2
          exact ⟨by simp, rfl⟩
        · rw [if_neg hlt] at hu
          rw [hu]
          clear hu
          go_enter Tryd.func100, Tryd.ntmps100
          go_wp2_with (go_at_call 95; refine (in_any _ _).mono ?_; rintro e w' ⟨rfl, rfl⟩)
          go_ret2
          exact ⟨by simp, rfl⟩
      · obtain rfl : b = 0 := by omega
        rw [ha, hb]
        go_enter Tryd.func100, Tryd.ntmps100
        go_wp2_with (go_at_call 95; refine (in_any _ _).mono ?_; rintro e w' ⟨rfl, rfl⟩)
        go_ret2
        exact ⟨by simp, rfl⟩
    · rw [ha, hb]
      go_enter Tryd.func100, Tryd.ntmps100
      go_wp2_with (go_at_call 95; refine (in_any _ _).mono ?_; rintro e w' ⟨rfl, rfl⟩)
      go_ret2
      exact ⟨by simp, rfl⟩
  · rw [ha]
    go_enter Tryd.func100, Tryd.ntmps100
    go_wp2_with (go_at_call 95; refine (in_any _ _).mono ?_; rintro e w' ⟨rfl, rfl⟩)
    go_ret2
    exact ⟨by simp, rfl⟩

def lessN (a b : Int) : Int := if numB a && numB b then (if a < b then 0 else a - b) else 0
def lessB (a b : Int) : Bool := numB a && numB b

theorem less_any (a b : Int) (w : World) : Calls Tryd.prog 115 #[.int .i64 a, .int .i64 b] w fun e w' => e = .returned (.tuple #[.int .i64 (lessN a b), .bool (lessB a b)]) ∧ w = w' := by
  unfold lessN lessB
  rcases numB_cases a with ⟨ha, ha1, ha2⟩ | ⟨ha, ha1⟩
  · rcases numB_cases b with ⟨hb, hb1, hb2⟩ | ⟨hb, hb1⟩
    · by_cases h0 : a < b
      · rw [ha, hb, if_pos h0]
        go_enter Tryd.func115, Tryd.ntmps115
        go_wp2_with (go_at_call 108; refine (number_any _ _).mono ?_; rintro e w' ⟨rfl, rfl⟩)
        go_ret2
        exact ⟨by simp, rfl⟩
      · rw [ha, hb, if_neg h0]
        go_enter Tryd.func115, Tryd.ntmps115
        go_wp2_with (go_at_call 108; refine (number_any _ _).mono ?_; rintro e w' ⟨rfl, rfl⟩)
        go_ret2
        exact ⟨by simp, rfl⟩
    · rw [ha, hb]
      go_enter Tryd.func115, Tryd.ntmps115
      go_wp2_with (go_at_call 108; refine (number_any _ _).mono ?_; rintro e w' ⟨rfl, rfl⟩)
      go_ret2
      exact ⟨by simp, rfl⟩
  · rw [ha]
    go_enter Tryd.func115, Tryd.ntmps115
    go_wp2_with (go_at_call 108; refine (number_any _ _).mono ?_; rintro e w' ⟨rfl, rfl⟩)
    go_ret2
    exact ⟨by simp, rfl⟩

theorem refless_any (a b : Int) (w : World) : Calls Tryd.prog 99 #[.int .i64 a, .int .i64 b] w fun e w' => e = .returned (.tuple #[.int .i64 (lessN a b), .bool (lessB a b)]) ∧ w = w' := by
  unfold lessN lessB
  rcases numB_cases a with ⟨ha, ha1, ha2⟩ | ⟨ha, ha1⟩
  · rcases numB_cases b with ⟨hb, hb1, hb2⟩ | ⟨hb, hb1⟩
    · by_cases h0 : a < b
      · rw [ha, hb, if_pos h0]
        go_enter Tryd.func99, Tryd.ntmps99
        go_wp2_with (go_at_call 95; refine (in_any _ _).mono ?_; rintro e w' ⟨rfl, rfl⟩)
        go_ret2
        exact ⟨by simp, rfl⟩
      · rw [ha, hb, if_neg h0]
        go_enter Tryd.func99, Tryd.ntmps99
        go_wp2_with (go_at_call 95; refine (in_any _ _).mono ?_; rintro e w' ⟨rfl, rfl⟩)
        go_ret2
        exact ⟨by simp, rfl⟩
    · rw [ha, hb]
      go_enter Tryd.func99, Tryd.ntmps99
      go_wp2_with (go_at_call 95; refine (in_any _ _).mono ?_; rintro e w' ⟨rfl, rfl⟩)
      go_ret2
      exact ⟨by simp, rfl⟩
  · rw [ha]
    go_enter Tryd.func99, Tryd.ntmps99
    go_wp2_with (go_at_call 95; refine (in_any _ _).mono ?_; rintro e w' ⟨rfl, rfl⟩)
    go_ret2
    exact ⟨by simp, rfl⟩

end Go.Proofs.YtchmdnmifpjfkaaDoor
/- The contract of check.total over whatever iterator keeps its word: the sum of all numbers that come, or none; and of its deferred closure, which finds nothing to recover. -/
namespace Go.Proofs.YtchmdnmifpjfkaaDoor
open Go.RowKit
attribute [local go_sem] Oper.semAt_some

def runS (n : Int) : List Int → Option Int
  | [] => some n
  | x :: r => if addB n x then runS (addN n x) r else none
theorem runS_snoc (n : Int) (l : List Int) (x : Int) : runS n (l ++ [x]) = (runS n l).bind fun s => if addB s x then some (addN s x) else none := by
  induction l generalizing n with
  | nil => simp [runS]
  | cons y l ih =>
    simp only [List.cons_append, runS]
    split
    · exact ih _
    · rfl
theorem runS_none (n : Int) (l r : List Int) (h : runS n l = none) : runS n (l ++ r) = none := by
  induction l generalizing n with
  | nil => simp [runS] at h
  | cons y l ih =>
    simp only [List.cons_append, runS] at h ⊢
    split
    · rename_i hb; rw [if_pos hb] at h; exact ih _ h
    · rfl
theorem runS_take_none {l : List Int} {k : Nat} (h : runS 0 (l.take k) = none) : runS 0 l = none := by
  have := runS_none 0 _ (l.drop k) h
  rwa [List.take_append_drop] at this
theorem take_succ_getD (l : List Int) (k : Nat) (h : k < l.length) : l.take (k + 1) = l.take k ++ [nth l k] := by
  rw [List.take_succ_eq_append_getElem h]; simp [nth, List.getElem?_eq_getElem h]
def resN (o : Option Int) : Int := o.getD 0
def resB (o : Option Int) : Bool := o.isSome
theorem addN_f {a b : Int} (h : addB a b = false) : addN a b = 0 := by unfold addB at h; unfold addN; rw [h]; rfl

theorem rec_idle (p q : Addr) (w : World) :
    CallsDIn Fence.wide 0 Tryd.prog 114 #[.pointer (some p), .pointer (some q)] .returning w fun e u' w' => e = .returned (.tuple #[]) ∧ u' = .returning ∧ w' = w := by
  refine callsDIn_of_wpSIn Tryd.func114 rfl trivial fun c₀ cs hu => ?_
  apply wpSIn_seq
  apply wpSIn_region
  simp [wpOpsSIn, go_sem, recoverD, hu, Tryd.ntmps114, Exit.thenS, Fence.wide]
  refine wpSIn_cond (t := false) (by simp [Act.eval, Array.replicate]) ?_
  simp only [Bool.false_eq_true, if_false]
  refine wpSIn_of_wpIn rfl (wpIn_skip ?_)
  cases c₀
  simp_all [bodyPostS, results, Tryd.results114]

/-- What total hands back: the numbers' sum, or none. -/
def resOf (xs : List Int) : Ending := .returned (.tuple #[.int .i64 (resN (runS 0 xs)), .bool (resB (runS 0 xs))])

/-- total's way out: the mark, the deferred closure, the two results in their cells. -/
theorem total_leaves (tmps : Array Value) (B D : Nat) (n : Int) (b : Bool) (R : Ending → World → Prop) (W : World)
    (ht2 : tmps[2]? = some (.pointer (some ⟨B, 0, none⟩))) (ht3 : tmps[3]? = some (.pointer (some ⟨B + 1, 0, none⟩)))
    (hn : W.cell? ⟨B, 0, none⟩ = some (.int .i64 n)) (hb : W.cell? ⟨B + 1, 0, none⟩ = some (.bool b)) (hD : W.heap[D]? = some (.deferred (some []))) (hB : B + 2 ≤ D)
    (hR : R (.returned (.tuple #[.int .i64 n, .bool b])) (W.putObj D (.deferred none))) :
    LeavesInM Fence.wide 0 Tryd.prog Tryd.f112 tmps R [{ target := .collected D, args := #[] }, { target := .fn (.func 114) #[.pointer (some ⟨B, 0, none⟩), .pointer (some ⟨B + 1, 0, none⟩)], args := #[] }] .returning W := by
  have hc : Ch (fun j => j = D) W (W.putObj D (.deferred none)) := (Ch.refl _ W).putObj _ _ rfl
  have hn' := hc.cell hn (by simp only; omega)
  have hb' := hc.cell hb (by simp only; omega)
  refine ⟨by simp, .inl ⟨_, _, rfl, run_takeDeferred hD, ?_⟩⟩
  refine ⟨by simp, .inr ⟨fun h => by simp [Fence.wide] at h, _, _, 114, _, rfl, by simp [invoke, go_sem]; rfl, fun _ _ => trivial, ?_⟩⟩
  refine (rec_idle _ _ _).mono ?_
  rintro e u' w' ⟨rfl, rfl, rfl⟩
  refine ⟨.tuple #[.int .i64 n, .bool b], ?_, hR⟩
  simp [results, Tryd.results112, go_sem, ht2, ht3, hn', hb']

theorem total_in (gf : Nat) (lb : Array Value) (eg : ∀ args w, (callFunc gf args).run Tryd.prog w = .ok (.enter gf args) w) (xs : List Int) (w : World)
    (hit : ∀ (J Jx : Nat → World → Prop) (W1 : World), w.heap.size + 4 = W1.heap.size → Below w.heap.size w W1 →
      (∀ k W, J k W → Below w.heap.size w W ∧ ∃ s, runS 0 (xs.take k) = some s) →
      (∀ k W W', J k W → Ch (fun _ => False) W W' → J k W') → (∀ k W W', Jx k W → Ch (fun _ => False) W W' → Jx k W') →
      Rounds Tryd.prog (w.heap.size + 3) xs.length (fun k => #[.int .i64 (nth xs k)]) (fun j => (j = w.heap.size ∨ j = w.heap.size + 1) ∨ j = w.heap.size + 3) J Jx → J 0 W1 →
      IterX Tryd.prog gf lb (w.heap.size + 3) xs.length (fun k => #[.int .i64 (nth xs k)]) (fun j => (j = w.heap.size ∨ j = w.heap.size + 1) ∨ j = w.heap.size + 3) J Jx W1) :
    Calls Tryd.prog 112 #[.func (.func gf) #[] lb] w fun e w' => e = resOf xs ∧ Below w.heap.size w w' := by
  refine (callsIn_wide (n := 0)).1 ?_
  have hmf : ∀ (fn : Fn) (first cap : Array Value) (w : World), (Instr.makeFunc fn first cap).run Tryd.prog w = .ok (.func fn first cap) w := fun _ _ _ _ => rfl
  refine callsIn_of_wp_marks Tryd.func112 rfl trivial ?_ rfl
  simp only [Tryd.ntmps112, List.size_toArray, List.length_cons, List.length_nil, Nat.reduceAdd, Nat.reduceSub, Array.replicate_succ, Array.replicate_zero, List.push_toArray, List.append_toArray, List.nil_append, List.cons_append]
  gi_wp2
  obtain ⟨w2, hw2⟩ : ∃ w2, (w.alloc (Obj.cells #[Value.int IntKind.i64 0] 3)).alloc (Obj.cells #[Value.bool true] 4) = w2 := ⟨_, rfl⟩
  have z2 : w2.heap.size = w.heap.size + 2 := by rw [← hw2]; simp
  have b2 : Below w.heap.size w w2 := by rw [← hw2]; exact ((Below.refl _ w).alloc (Nat.le_refl _) _).alloc (by simp) _
  have n2 : w2.cell? ⟨w.heap.size, 0, none⟩ = some (.int .i64 0) ∧ w2.frozen? ⟨w.heap.size, 0, none⟩ = false := by rw [← hw2]; simp [go_sem]
  have o2 : w2.cell? ⟨w.heap.size + 1, 0, none⟩ = some (.bool true) ∧ w2.frozen? ⟨w.heap.size + 1, 0, none⟩ = false := by rw [← hw2]; simp [go_sem]
  rw [hw2]
  clear hw2
  refine wpIn_range (gf := gf) (lb := lb) rfl eg xs.length (fun k => #[.int .i64 (nth xs k)]) (fun _ => rfl) (fun j => j = w.heap.size ∨ j = w.heap.size + 1) (fun _ => False)
    (by rw [z2]; intro k hk; omega) (fun _ h => h.elim)
    (fun k W => Below w.heap.size w W ∧ ∃ s, runS 0 (xs.take k) = some s ∧ W.cell? ⟨w.heap.size, 0, none⟩ = some (.int .i64 s) ∧ W.frozen? ⟨w.heap.size, 0, none⟩ = false ∧ W.cell? ⟨w.heap.size + 1, 0, none⟩ = some (.bool true) ∧ W.frozen? ⟨w.heap.size + 1, 0, none⟩ = false)
    (fun c k W => c = .exit 0 ∧ Below w.heap.size w W ∧ runS 0 (xs.take k) = none ∧ W.cell? ⟨w.heap.size, 0, none⟩ = some (.int .i64 0) ∧ W.frozen? ⟨w.heap.size, 0, none⟩ = false ∧ W.cell? ⟨w.heap.size + 1, 0, none⟩ = some (.bool false) ∧ W.frozen? ⟨w.heap.size + 1, 0, none⟩ = false)
    ?hI ?hIx ⟨b2, 0, rfl, n2.1, n2.2, o2.1, o2.2⟩
    (fun k a' _ => a' = { tmps := #[.func (.func gf) #[] lb, undef, .pointer (some ⟨w.heap.size, 0, none⟩), .pointer (some ⟨w.heap.size + 1, 0, none⟩), .int .i64 (nth xs k),
      .func (.func 114) #[] #[.pointer (some ⟨w.heap.size, 0, none⟩), .pointer (some ⟨w.heap.size + 1, 0, none⟩)], .func (.func gf) #[] lb, .int .i64 (nth xs k), undef, undef, undef, undef, undef, undef, undef, undef, undef, undef], defers := [] })
    (fun _ _ _ _ h _ => h) ?hit ?assign ?body ?done ?stop
  case hI =>
    rintro k W W' ⟨h1, s, h2, h3, h4, h5, h6⟩ hc
    have t1 : ¬ (False ∨ w.heap.size = w2.heap.size ∨ w.heap.size = w2.heap.size + 1) := by simp only [false_or]; omega
    have t2 : ¬ (False ∨ w.heap.size + 1 = w2.heap.size ∨ w.heap.size + 1 = w2.heap.size + 1) := by simp only [false_or]; omega
    exact ⟨h1.trans (hc.below (by intro k hk; simp only [false_or]; omega) h1.size), s, h2, hc.cell h3 t1, (hc.frozenCell h3 t1).trans h4, hc.cell h5 t2, (hc.frozenCell h5 t2).trans h6⟩
  case hIx =>
    rintro c k W W' ⟨h0, h1, h2, h3, h4, h5, h6⟩ hc
    have t1 : ¬ (False ∨ w.heap.size = w2.heap.size ∨ w.heap.size = w2.heap.size + 1) := by simp only [false_or]; omega
    have t2 : ¬ (False ∨ w.heap.size + 1 = w2.heap.size ∨ w.heap.size + 1 = w2.heap.size + 1) := by simp only [false_or]; omega
    exact ⟨h0, h1.trans (hc.below (by intro k hk; simp only [false_or]; omega) h1.size), h2, hc.cell h3 t1, (hc.frozenCell h3 t1).trans h4, hc.cell h5 t2, (hc.frozenCell h5 t2).trans h6⟩
  case hit =>
    intro J Jx W1 h1 h2 h3 h4 h5 h6 h7 h8
    rw [z2] at h1 h7 ⊢
    exact hit J Jx W1 (by omega) ⟨h2.os.trans b2.os, h2.tape.trans b2.tape, h2.output.trans b2.output, by omega, fun k hk => (h2.block k (by omega)).trans (b2.block k hk)⟩
      (fun k W h => ⟨(h3 k W h).1, (h3 k W h).2.choose, (h3 k W h).2.choose_spec.1⟩) h5 h6 h7 h8
  case assign =>
    intro k W K hi hk hK
    gi_wp2
    exact hK _ _ rfl (Ch.refl _ _) hi
  case body =>
    rintro k a' W ⟨h1, s, h2, h3, h4, h5, h6⟩ hk rfl hz
    have ht := take_succ_getD xs k hk
    have hrun : runS 0 (xs.take (k + 1)) = if addB s (nth xs k) then some (addN s (nth xs k)) else none := by rw [ht, runS_snoc, h2]; rfl
    have H2 := Lib.hid h2
    have HR := Lib.hid hrun
    clear h2 hrun ht
    cases hb : addB s (nth xs k)
    · have hn := addN_f hb
      gi_wp2_with (refine ⟨trivial, rfl, ?_⟩; gi_at_call 103; refine (CallsIn.inRound _ (callsIn_wide.2 (add_any _ _ _))).mono ?_; rintro e w' ⟨rfl, rfl⟩)
      have hr := HR.out
      rw [hb] at hr
      exact ⟨((Ch.refl _ W).setCell _ _ (.inl (.inl rfl))).setCell _ _ (.inl (.inr rfl)), rfl, (h1.setCell (Nat.le_refl _) _).setCell (by simp) _, hr, by simp [go_sem, h3], by simp [go_sem, h4], by simp [go_sem, h5], by simp [go_sem, h6]⟩
    · gi_wp2_with (refine ⟨trivial, rfl, ?_⟩; gi_at_call 103; refine (CallsIn.inRound _ (callsIn_wide.2 (add_any _ _ _))).mono ?_; rintro e w' ⟨rfl, rfl⟩)
      have hr := HR.out
      rw [hb] at hr
      exact ⟨((Ch.refl _ W).setCell _ _ (.inl (.inl rfl))).setCell _ _ (.inl (.inr rfl)), (h1.setCell (Nat.le_refl _) _).setCell (by simp) _, _, hr, by simp [go_sem, h3], by simp [go_sem, h4], by simp [go_sem, h5], by simp [go_sem, h6]⟩
  case done =>
    rintro W ⟨h1, s, h2, h3, h4, h5, h6⟩ hD
    have H2 := Lib.hid h2
    clear h2
    gi_wp2
    gi_region
    all_goals
      gi_wp2
      have h2 := H2.out
      rw [List.take_length] at h2
      have hc : Ch (fun j => j = w.heap.size ∨ j = w.heap.size + 1) W ((W.setCell ⟨w.heap.size, 0, none⟩ (Value.int IntKind.i64 s)).setCell ⟨w.heap.size + 1, 0, none⟩ (Value.bool true)).drew := (((Ch.refl _ W).setCell _ _ (.inl (.inl rfl))).setCell _ _ (.inl (.inr rfl))).drew
      refine total_leaves _ w.heap.size w2.heap.size s true _ _ rfl rfl (by simp [go_sem, h3]) (by simp [go_sem, h5]) (hc.obj hD (by omega)) (by omega) ⟨?_, ?_⟩
      · unfold resOf; rw [h2]; rfl
      · exact h1.trans ((hc.mono (T' := fun j => j = w.heap.size ∨ j = w.heap.size + 1 ∨ j = w2.heap.size) (by intro k _ h; omega)).putObj _ _ (.inr (.inr rfl)) |>.below (by intro k hk; omega) h1.size)
  case stop =>
    rintro c k W hk ⟨rfl, h1, h2, h3, h4, h5, h6⟩ hD
    have H2 := Lib.hid h2
    clear h2
    gi_wp2
    gi_region
    all_goals
      gi_wp2
      have h2 := runS_take_none H2.out
      have hc : Ch (fun j => j = w.heap.size ∨ j = w.heap.size + 1) W ((W.setCell ⟨w.heap.size, 0, none⟩ (Value.int IntKind.i64 0)).setCell ⟨w.heap.size + 1, 0, none⟩ (Value.bool false)).drew := (((Ch.refl _ W).setCell _ _ (.inl (.inl rfl))).setCell _ _ (.inl (.inr rfl))).drew
      refine total_leaves _ w.heap.size w2.heap.size 0 false _ _ rfl rfl (by simp [go_sem, h3]) (by simp [go_sem, h5]) (hc.obj hD (by omega)) (by omega) ⟨?_, ?_⟩
      · unfold resOf; rw [h2]; rfl
      · exact h1.trans ((hc.mono (T' := fun j => j = w.heap.size ∨ j = w.heap.size + 1 ∨ j = w2.heap.size) (by intro k _ h; omega)).putObj _ _ (.inr (.inr rfl)) |>.below (by intro k hk; omega) h1.size)

end Go.Proofs.YtchmdnmifpjfkaaDoor
/- The contracts of demand's terms: how many jobs, and how much work may come in so many ticks; the reference's likewise; the law's alive. -/
namespace Go.Proofs.YtchmdnmifpjfkaaDoor
open Go.RowKit

def jobsB (P O t : Int) : Bool := lessB t O && upB (lessN t O) P
def jobsN (P O t : Int) : Int := if lessB t O then upN (lessN t O) P else 0
def workB (P C O K t : Int) : Bool := jobsB P O t && (mulB (jobsN P O t) C && addB (mulN (jobsN P O t) C) K)
def workN (P C O K t : Int) : Int := if jobsB P O t && mulB (jobsN P O t) C then addN (mulN (jobsN P O t) C) K else 0

theorem jobs_any (P C O K t : Int) (w : World) : Calls Tryd.prog 113 #[.agg #[.int .i64 P, .int .i64 C, .int .i64 O, .int .i64 K], .int .i64 t] w fun e w' => e = .returned (.tuple #[.int .i64 (jobsN P O t), .bool (jobsB P O t)]) ∧ Below w.heap.size w w' := by
  unfold jobsN jobsB
  have h1 := Lib.hid (fun wx => less_any t O wx)
  have h2 := Lib.hid (fun wx => up_any (lessN t O) P wx)
  generalize lessN t O = n at h1 h2 ⊢
  generalize upN n P = m at h2 ⊢
  generalize upB n P = c at h2 ⊢
  have HB := Lib.hid (show Below w.heap.size w (w.alloc (.cells #[.int .i64 P, .int .i64 C, .int .i64 O, .int .i64 K] 118)) from (Below.refl _ _).alloc (Nat.le_refl _) _)
  generalize lessB t O = q at h1 ⊢
  cases q
  all_goals
    go_enter Tryd.func113, Tryd.ntmps113
    go_wp2_with (first
      | (go_at_call 115; refine (h1.out _).mono ?_; rintro e w' ⟨rfl, rfl⟩)
      | (go_at_call 116; refine (h2.out _).mono ?_; rintro e w' ⟨rfl, rfl⟩)
      | fail)
    go_ret2
    exact ⟨by simp, HB.out⟩

theorem twork_any (P C O K t : Int) (w : World) : Calls Tryd.prog 107 #[.agg #[.int .i64 P, .int .i64 C, .int .i64 O, .int .i64 K], .int .i64 t] w fun e w' => e = .returned (.tuple #[.int .i64 (workN P C O K t), .bool (workB P C O K t)]) ∧ Below w.heap.size w w' := by
  unfold workN workB
  have h1 := Lib.hid (fun wx => jobs_any P C O K t wx)
  have h2 := Lib.hid (fun wx => mul_any (jobsN P O t) C wx)
  have h3 := Lib.hid (fun wx => add_any (mulN (jobsN P O t) C) K wx)
  generalize jobsN P O t = n at h1 h2 h3 ⊢
  generalize mulN n C = m at h2 h3 ⊢
  generalize addN m K = a at h3 ⊢
  generalize addB m K = b at h3 ⊢
  obtain ⟨Z, hZ⟩ : ∃ Z, Z = w.heap.size := ⟨_, rfl⟩
  have HB := Lib.hid (show Below w.heap.size w (w.alloc (.cells #[.int .i64 P, .int .i64 C, .int .i64 O, .int .i64 K] 118)) ∧ RowAt (w.alloc (.cells #[.int .i64 P, .int .i64 C, .int .i64 O, .int .i64 K] 118)) Z 118 #[.int .i64 P, .int .i64 C, .int .i64 O, .int .i64 K] from by rw [hZ]; exact ⟨(Below.refl _ _).alloc (Nat.le_refl _) _, RowAt.mk _ _ _⟩)
  generalize jobsB P O t = q1 at h1 ⊢
  generalize mulB n C = q2 at h2 ⊢
  go_enter Tryd.func107, Tryd.ntmps107
  go_upto_region 1 with fail
  rw [← hZ]
  generalize hw2 : World.alloc _ _ = w2 at HB ⊢
  clear hw2
  clear hZ
  have c0 := HB.out.2.cell 0
  have c1 := HB.out.2.cell 1
  have c2 := HB.out.2.cell 2
  have c3 := HB.out.2.cell 3
  cases q1
  · go_wp2_with (first
      | (refine wpList_load_row rfl 118 (.tmp 2) rfl Z rfl 118 #[.int .i64 P, .int .i64 C, .int .i64 O, .int .i64 K] (0, 0) _ HB.out.2 Tryd.underlying118 rfl (by kernel_rfl) ?_)
      | (go_at_call 113; refine (h1.out _).mono ?_; rintro e w3 ⟨rfl, b3⟩; have H3 := Lib.hid (HB.out.1.trans (b3.mono HB.out.1.size)); clear b3)
      | fail)
    go_ret2
    exact ⟨by simp, H3.out⟩
  cases q2
  all_goals
    go_wp2_with (first
      | (refine wpList_load_row rfl 118 (.tmp 2) rfl Z rfl 118 #[.int .i64 P, .int .i64 C, .int .i64 O, .int .i64 K] (0, 0) _ HB.out.2 Tryd.underlying118 rfl (by kernel_rfl) ?_)
      | (go_at_call 113; refine (h1.out _).mono ?_; rintro e w3 ⟨rfl, b3⟩; have H3 := Lib.hid (HB.out.1.trans (b3.mono HB.out.1.size)); have c1 := (HB.out.2.new b3).cell 1; have c3 := (HB.out.2.new b3).cell 3; clear b3)
      | (go_at_call 111; refine (h2.out _).mono ?_; rintro e w' ⟨rfl, rfl⟩)
      | (go_at_call 103; refine (h3.out _).mono ?_; rintro e w' ⟨rfl, rfl⟩)
      | fail)
    go_ret2
    exact ⟨by simp, H3.out⟩
/-- The reference's. -/
theorem rwork_any (P C O K t : Int) (w : World) : Calls Tryd.prog 93 #[.agg #[.int .i64 P, .int .i64 C, .int .i64 O, .int .i64 K], .int .i64 t] w fun e w' => e = .returned (.tuple #[.int .i64 (workN P C O K t), .bool (workB P C O K t)]) ∧ Below w.heap.size w w' := by
  unfold workN workB jobsN jobsB
  have h0 := Lib.hid (fun wx => refless_any t O wx)
  have h1 := Lib.hid (fun wx => refup_any (lessN t O) P wx)
  generalize lessN t O = l at h0 h1 ⊢
  generalize lessB t O = q0 at h0 ⊢
  have h2 := Lib.hid (fun wx => refmul_any (upN l P) C wx)
  have h3 := Lib.hid (fun wx => refadd_any (mulN (upN l P) C) K wx)
  generalize upN l P = n at h1 h2 h3 ⊢
  generalize upB l P = q1 at h1 ⊢
  cases q0
  case true =>
    rw [if_pos rfl]
    generalize mulN n C = m at h2 h3 ⊢
    generalize mulB n C = q2 at h2 ⊢
    generalize addN m K = a at h3 ⊢
    generalize addB m K = b at h3 ⊢
    have HB := Lib.hid (show Below w.heap.size w (w.alloc (.cells #[.int .i64 P, .int .i64 C, .int .i64 O, .int .i64 K] 89)) from (Below.refl _ _).alloc (Nat.le_refl _) _)
    cases q1
    case true =>
      cases q2
      all_goals
        go_enter Tryd.func93, Tryd.ntmps93
        go_wp2_with (first
          | (go_at_call 99; refine (h0.out _).mono ?_; rintro e w' ⟨rfl, rfl⟩)
          | (go_at_call 100; refine (h1.out _).mono ?_; rintro e w' ⟨rfl, rfl⟩)
          | (go_at_call 101; refine (h2.out _).mono ?_; rintro e w' ⟨rfl, rfl⟩)
          | (go_at_call 71; refine (h3.out _).mono ?_; rintro e w' ⟨rfl, rfl⟩)
          | fail)
        go_ret2
        exact ⟨by simp, HB.out⟩
    case false =>
      go_enter Tryd.func93, Tryd.ntmps93
      go_wp2_with (first
        | (go_at_call 99; refine (h0.out _).mono ?_; rintro e w' ⟨rfl, rfl⟩)
        | (go_at_call 100; refine (h1.out _).mono ?_; rintro e w' ⟨rfl, rfl⟩)
        | fail)
      go_ret2
      exact ⟨by simp, HB.out⟩
  case false =>
    have HB := Lib.hid (show Below w.heap.size w (w.alloc (.cells #[.int .i64 P, .int .i64 C, .int .i64 O, .int .i64 K] 89)) from (Below.refl _ _).alloc (Nat.le_refl _) _)
    go_enter Tryd.func93, Tryd.ntmps93
    go_wp2_with (first
      | (go_at_call 99; refine (h0.out _).mono ?_; rintro e w' ⟨rfl, rfl⟩)
      | fail)
    go_ret2
    exact ⟨by simp, HB.out⟩
end Go.Proofs.YtchmdnmifpjfkaaDoor
/- The contracts of demand's Work of several terms, and of the reference's Sum. -/
namespace Go.Proofs.YtchmdnmifpjfkaaDoor
open Go.RowKit

structure Tm where
  per : Int
  cost : Int
  off : Int
  car : Int
instance : Inhabited Tm := ⟨⟨0, 0, 0, 0⟩⟩
def tmC (t : Tm) : List Value := [.int .i64 t.per, .int .i64 t.cost, .int .i64 t.off, .int .i64 t.car]
def tmB (t : Tm) (n : Int) : Bool := workB t.per t.cost t.off t.car n
def tmN (t : Tm) (n : Int) : Int := workN t.per t.cost t.off t.car n
/-- What the sum is handed: a term's work, or no number. -/
def wI (n : Int) (t : Tm) : Int := if tmB t n then tmN t n else -1
structure TermsAt (w : World) (V : Nat → Prop) (S : Src) (l : List Tm) : Prop where
  sl : SlAt w V S l.length
  at_ : ∀ k, k < l.length → At w S.b (S.o + k * 4) (tmC (l.getD k default))
theorem TermsAt.keep {V : Nat → Prop} {w w' : World} {S : Src} {l : List Tm} (h : TermsAt w V S l) (c : Ch V w w') : TermsAt w' V S l :=
  ⟨h.sl.keep c, fun k hk => (h.at_ k hk).keep c (h.sl.at_ (by omega)).2.2⟩
theorem TermsAt.new {V : Nat → Prop} {w w' : World} {S : Src} {l : List Tm} (h : TermsAt w V S l) (hb : Below w.heap.size w w') : TermsAt w' V S l := h.keep (Ch.new hb)

theorem equalIn_func_nil (d gf : Nat) (lb : Array Value) (w : World) : (Op.equalIn (d + 1) 94 (.func (.func gf) #[] lb) .nilFunc).run Tryd.prog w = .ok false w := by
  have ht : Tryd.prog.underlying 94 = some (.func #[72] #[] false) := by kernel_rfl
  simp [Op.equalIn, run_underlying ht]
theorem eql_func_nil (gf : Nat) (lb : Array Value) (w : World) : (Go.binOp .eql 94 (.func (.func gf) #[] lb) .nilFunc).run Tryd.prog w = .ok (.bool false) w := by
  have h : (Op.equal 94 (.func (.func gf) #[] lb) .nilFunc).run Tryd.prog w = .ok false w := equalIn_func_nil 9999 gf lb w
  simp [Go.binOp, h]
theorem sum_of (gf : Nat) (lb : Array Value) (xs : List Int) (w : World) (h : Calls Tryd.prog 112 #[.func (.func gf) #[] lb] w fun e w' => e = resOf xs ∧ Below w.heap.size w w') :
    Calls Tryd.prog 105 #[.func (.func gf) #[] lb] w fun e w' => e = resOf xs ∧ Below w.heap.size w w' := by
  unfold resOf at h ⊢
  have hne := eql_func_nil gf lb
  go_enter Tryd.func105, Tryd.ntmps105
  go_wp2_with (go_at_call 112; refine h.mono ?_; rintro e w' ⟨rfl, hb⟩)
  go_ret2
  exact ⟨rfl, hb⟩

set_option maxRecDepth 100000 in
/-- demand.Work's closure. -/
theorem dwork_in (l Bl Bt b o c : Nat) (sp : Option Addr) (L : List Tm) (n : Int) (T : Nat → Prop) (J Jx : Nat → World → Prop) (W : World)
    (hsm : L.length ≤ 9223372036854775807) (hsp : 0 < L.length → sp = some ⟨b, o, none⟩)
    (hJ : ∀ k W W', J k W → Ch (fun _ => False) W W' → J k W')
    (hbox : ∀ k W', J k W' → W'.cell? ⟨Bl, 0, none⟩ = some (.slice sp L.length c) ∧ W'.cell? ⟨Bt, 0, none⟩ = some (.int .i64 n))
    (hcell : ∀ k W', J k W' → k < L.length → At W' b (o + k * 4) (tmC (L.getD k default)))
    (hR : Rounds Tryd.prog l L.length (fun k => #[.int .i64 (nth (L.map (wI n)) k)]) T J Jx) (h0 : J 0 W) :
    IterX Tryd.prog 106 #[.pointer (some ⟨Bl, 0, none⟩), .pointer (some ⟨Bt, 0, none⟩)] l L.length (fun k => #[.int .i64 (nth (L.map (wI n)) k)]) T J Jx W := by
  refine callsIn_of_wp Tryd.func106 rfl trivial ?_ rfl
  simp only [Tryd.ntmps106, List.size_toArray, List.length_cons, List.length_nil, Nat.reduceAdd, Nat.reduceSub, Array.replicate_succ, Array.replicate_zero, List.push_toArray, List.append_toArray, List.nil_append, List.cons_append]
  have hb0 := (hbox 0 W h0).1
  obtain ⟨N, hN⟩ : ∃ N, L.length = N := ⟨_, rfl⟩
  have HB := Lib.hid hbox
  have HC := Lib.hid hcell
  have HS := Lib.hid hsp
  have HJ := Lib.hid hJ
  have HRR := Lib.hid hR
  rw [hN] at HB
  rw [hN] at HS
  rw [hN] at HC HRR hsm
  have hNth := Lib.hid (show ∀ k, k < N → nth (L.map (wI n)) k = wI n (L.getD k default) from fun k hk => by
    have hk' : k < L.length := by omega
    simp [nth, hk'])
  rw [hN]
  rw [hN] at hb0
  clear hbox hcell hsp hJ hR hN
  gi_wp2
  clear hb0
  gi_loopw [10] (fun i wr => ∃ k : Nat, k ≤ N ∧ i = .int .i64 k ∧ J k wr) (fun i _ => N - (intOf i).toNat)
  case atStart => exact ⟨0, Nat.zero_le _, rfl, h0⟩
  case round =>
    obtain ⟨k, hk, rfl, hj⟩ := hrel
    by_cases hlt : k < N
    · have hc := HC.out k wr hj hlt
      have hna := hNth.out k hlt
      obtain ⟨t, ht⟩ : ∃ t, L.getD k default = t := ⟨_, rfl⟩
      rw [ht] at hc hna
      obtain ⟨P, C, O, K⟩ := t
      have hT := Lib.hid (fun wx => twork_any P C O K n wx)
      have hna3 : wI n ⟨P, C, O, K⟩ = if workB P C O K n then workN P C O K n else -1 := rfl
      rw [hna3] at hna
      clear hna3
      generalize workN P C O K n = m at hT hna
      generalize workB P C O K n = q at hT hna
      obtain rfl := HS.out (by omega)
      have c0 : wr.cell? ⟨b, o + k * 4, none⟩ = some (.int .i64 P) := hc 0 _ rfl
      have c1 : wr.cell? ⟨b, o + k * 4 + 1, none⟩ = some (.int .i64 C) := hc 1 _ rfl
      have c2 : wr.cell? ⟨b, o + k * 4 + 2, none⟩ = some (.int .i64 O) := hc 2 _ rfl
      have c3 : wr.cell? ⟨b, o + k * 4 + 3, none⟩ = some (.int .i64 K) := hc 3 _ rfl
      have cb0 := (HB.out k wr hj).2
      have cb : (wr.alloc (.cells #[.int .i64 P, .int .i64 C, .int .i64 O, .int .i64 K] 118)).cell? ⟨Bt, 0, none⟩ = some (.int .i64 n) := (((Below.refl _ wr).alloc (Nat.le_refl _) _).cell (p := ⟨Bt, 0, none⟩) (World.block_lt_of_cell? _ _ cb0)).trans cb0
      clear cb0
      have hk2 : (k : Int) < (N : Int) := by omega
      have hk3 : (k : Int) + 1 ≤ 9223372036854775807 := by omega
      have HX := Lib.hid hj
      have HN := Lib.hid hna
      clear hc ht hj hna
      cases q
      · have HN1 := Lib.hid (show nth (L.map (wI n)) k = -1 from HN.out)
        clear HN HS
        gi_wp2_with (first
          | (refine ⟨trivial, rfl, ?_⟩; gi_at_call 107; refine (callsIn_wide.2 (hT.out _)).mono ?_; rintro e w4 ⟨rfl, b4⟩; have hR4 := HRR.out k w4 (HJ.out _ _ _ HX.out ((Ch.new ((Below.refl _ _).alloc (Nat.le_refl _) _)).trans (Ch.new b4))) hlt; dsimp only at hR4; rw [HN1.out] at hR4; obtain ⟨fn, tmps, assign, body, hy, hRo⟩ := hR4; clear c0 c1 c2 c3 cb b4)
          | fail)
        refine ⟨rfl, hRo.mono ?_⟩
        rintro e W3 (⟨rfl, hJ3, hc3⟩ | ⟨rfl, hJx3⟩)
        · gi_wp2
          go_roundw
          case rel => exact ⟨k + 1, by omega, by go_num, hJ3⟩
          case measure => simp [intOf]; omega
        · gi_wp2
          refine bodyPost_ret (results_none rfl _ _ _) rfl ?_
          exact ⟨⟨_, rfl⟩, .inr ⟨k + 1, by omega, hJx3⟩⟩
      · have HN1 := Lib.hid (show nth (L.map (wI n)) k = m from HN.out)
        clear HN HS
        gi_wp2_with (first
          | (refine ⟨trivial, rfl, ?_⟩; gi_at_call 107; refine (callsIn_wide.2 (hT.out _)).mono ?_; rintro e w4 ⟨rfl, b4⟩; have hR4 := HRR.out k w4 (HJ.out _ _ _ HX.out ((Ch.new ((Below.refl _ _).alloc (Nat.le_refl _) _)).trans (Ch.new b4))) hlt; dsimp only at hR4; rw [HN1.out] at hR4; obtain ⟨fn, tmps, assign, body, hy, hRo⟩ := hR4; clear c0 c1 c2 c3 cb b4)
          | fail)
        refine ⟨rfl, hRo.mono ?_⟩
        rintro e W3 (⟨rfl, hJ3, hc3⟩ | ⟨rfl, hJx3⟩)
        · gi_wp2
          go_roundw
          case rel => exact ⟨k + 1, by omega, by go_num, hJ3⟩
          case measure => simp [intOf]; omega
        · gi_wp2
          refine bodyPost_ret (results_none rfl _ _ _) rfl ?_
          exact ⟨⟨_, rfl⟩, .inr ⟨k + 1, by omega, hJx3⟩⟩
    · obtain rfl : k = N := by omega
      gi_wp2
      go_end0
      exact ⟨⟨_, rfl⟩, .inl hj⟩
end Go.Proofs.YtchmdnmifpjfkaaDoor
/- The contracts of demand's Work of several terms, of the reference's Sum and All, and of the law's Plain. -/
namespace Go.Proofs.YtchmdnmifpjfkaaDoor
open Go.RowKit

theorem dwork_any {w : World} {V : Nat → Prop} {S : Src} {L : List Tm} (h : TermsAt w V S L) (hl : L.length ≤ 1000) (n : Int) :
    Calls Tryd.prog 102 #[.int .i64 n, .slice S.sp L.length S.c] w fun e w' => e = resOf (L.map (wI n)) ∧ Below w.heap.size w w' := by
  have hmf : ∀ (fn : Fn) (first cap : Array Value) (w : World), (Instr.makeFunc fn first cap).run Tryd.prog w = .ok (.func fn first cap) w := fun _ _ _ _ => rfl
  obtain ⟨Z, hZ⟩ : ∃ Z, Z = w.heap.size := ⟨_, rfl⟩
  have HS := Lib.hid (show ∀ w2, Below w.heap.size w w2 → RowAt w2 Z 3 #[.int .i64 n] → RowAt w2 (Z + 1) 117 #[.slice S.sp L.length S.c] →
      Calls Tryd.prog 105 #[.func (.func 106) #[] #[.pointer (some ⟨Z + 1, 0, none⟩), .pointer (some ⟨Z, 0, none⟩)]] w2 fun e w' => e = resOf (L.map (wI n)) ∧ Below w2.heap.size w2 w' from fun w2 hb r0 r1 => by
    refine sum_of 106 _ _ w2 (total_in 106 _ (enters_of Tryd.func106 (by kernel_rfl) rfl) (L.map (wI n)) w2 ?_)
    intro J Jx W1 _ _ hJ hJ2 _ hR h0
    rw [List.length_map] at hR ⊢
    exact dwork_in _ (Z + 1) Z S.b S.o S.c S.sp L n _ J Jx W1 (by omega) (fun h0 => (h.sl.at_ h0).1) hJ2
      (fun k W' hj => ⟨(r1.new (hJ k W' hj).1).cell 0, (r0.new (hJ k W' hj).1).cell 0⟩)
      (fun k W' hj hk => ((h.new hb).new (hJ k W' hj).1).at_ k hk) hR h0)
  unfold resOf at HS ⊢
  clear h hl
  generalize resN (runS 0 (L.map (wI n))) = rn at HS ⊢
  generalize resB (runS 0 (L.map (wI n))) = rb at HS ⊢
  generalize L.length = N at HS ⊢
  generalize S.sp = sp at HS ⊢
  generalize S.c = c at HS ⊢
  go_enter Tryd.func102, Tryd.ntmps102
  go_upto_region 1 with fail
  rw [← hZ]
  generalize hw2 : World.alloc _ _ = w2
  have HB := Lib.hid (show Below w.heap.size w w2 ∧ RowAt w2 Z 3 #[.int .i64 n] ∧ RowAt w2 (Z + 1) 117 #[.slice sp N c] by rw [← hw2, hZ]; exact two_alloc (Below.refl _ _))
  clear hw2 hZ
  go_wp2_with (go_at_call 105; refine (HS.out _ HB.out.1 HB.out.2.1 HB.out.2.2).mono ?_; rintro e w3 ⟨rfl, b3⟩; have H3 := Lib.hid (HB.out.1.trans (b3.mono HB.out.1.size)); clear b3)
  go_ret2
  exact ⟨rfl, H3.out⟩

theorem refsum_any (b off cap : Nat) (sp : Option Addr) (xs : List Int) (w : World)
    (hcap : xs.length ≤ 9223372036854775807) (hsp : 0 < xs.length → sp = some ⟨b, off, none⟩)
    (hcell : ∀ k, k < xs.length → w.cell? ⟨b, off + k, none⟩ = some (.int .i64 (nth xs k))) :
    Calls Tryd.prog 94 #[.slice sp xs.length cap] w fun e w' => e = resOf xs ∧ w = w' := by
  have HC := Lib.hid hcell
  have HS := Lib.hid hsp
  clear hcell hsp
  go_enter Tryd.func94, Tryd.ntmps94
  go_wp2
  go_loop [4, 5] (fun n i => ∃ k : Nat, ∃ s : Int, k ≤ xs.length ∧ i = .int .i64 k ∧ n = .int .i64 s ∧ runS 0 (xs.take k) = some s) (fun _ i => xs.length - (intOf i).toNat)
  case atStart => exact ⟨0, 0, Nat.zero_le _, rfl, rfl, rfl⟩
  case round =>
    obtain ⟨k, s, hk, rfl, rfl, hs⟩ := hrel
    have H2 := Lib.hid hs
    clear hs
    by_cases hlt : k < xs.length
    · have hc := HC.out k hlt
      obtain rfl := HS.out (by omega)
      have ht := take_succ_getD xs k hlt
      have hrun : runS 0 (xs.take (k + 1)) = if addB s (nth xs k) then some (addN s (nth xs k)) else none := by rw [ht, runS_snoc, H2.out]; rfl
      have HR := Lib.hid hrun
      clear hrun ht
      cases hb : addB s (nth xs k)
      · go_wp2_with (go_at_call 71; refine (refadd_any _ _ _).mono ?_; rintro e w' ⟨rfl, rfl⟩)
        go_ret2
        have hr := HR.out
        rw [hb] at hr
        exact ⟨by unfold resOf; rw [runS_take_none hr]; rfl, rfl⟩
      · go_wp2_with (go_at_call 71; refine (refadd_any _ _ _).mono ?_; rintro e w' ⟨rfl, rfl⟩)
        go_round
        case rel => exact ⟨k + 1, addN s (nth xs k), by omega, by go_num, rfl, by rw [HR.out, hb]; rfl⟩
        case measure => simp [intOf]; omega
    · obtain rfl : k = xs.length := by omega
      go_wp2
      go_ret2
      have h2 := H2.out
      rw [List.take_length] at h2
      exact ⟨by unfold resOf; rw [h2]; rfl, rfl⟩

theorem runS_no {xs : List Int} {k : Nat} (hk : k < xs.length) (h : nth xs k = -1) : runS 0 xs = none := by
  cases hs : runS 0 (xs.take k) with
  | none => exact runS_take_none hs
  | some s =>
    refine runS_take_none (k := k + 1) ?_
    rw [take_succ_getD xs k hk, runS_snoc, hs, h]
    have : addB s (-1) = false := by unfold addB; rw [numB_f (a := -1) (by omega)]; simp
    simp [this]
theorem tm_nth (n : Int) (L : List Tm) (k : Nat) (hk : k < L.length) : nth (L.map (wI n)) k = wI n (L.getD k default) := by simp [nth, hk]
theorem take_succ_at {α : Type} [Inhabited α] (l : List α) (k : Nat) (h : k < l.length) : l.take (k + 1) = l.take k ++ [l.getD k default] := by
  rw [List.take_succ_eq_append_getElem h]; simp [h]
theorem cell_one_new (w : World) (x : Value) (t : TypeId) : ∀ (j : Nat) (u : Value), [x][j]? = some u → (w.alloc (.cells #[x] t)).cell? ((⟨w.heap.size, 0, none⟩ : Addr).add j) = some u :=
  World.news_of_block (World.alloc_heap_new w (.cells #[x] t))
set_option maxRecDepth 100000 in
set_option maxHeartbeats 2000000 in
theorem rall_any {w : World} {V : Nat → Prop} {S : Src} {L : List Tm} (h : TermsAt w V S L) (hl : L.length ≤ 1000) (n : Int) :
    Calls Tryd.prog 70 #[.slice S.sp L.length S.c, .int .i64 n] w fun e w' => e = resOf (L.map (wI n)) ∧ Below w.heap.size w w' := by
  obtain ⟨i0, hi, hz0, hz1, hz2⟩ := info_parts (show (Tryd.prog.info? 3).map (fun i => (i.zero, i.size, i.bytes)) = some (some (.int .i64 0), 1, 8) from by kernel_rfl)
  have HCell := Lib.hid (fun (k : Nat) (hk : k < L.length) (wx : World) (hb : Below w.heap.size w wx) => (h.new hb).at_ k hk)
  have HSp := Lib.hid (fun (h0 : 0 < L.length) => (h.sl.at_ h0).1)
  have HNth := Lib.hid (tm_nth n L)
  have HTk := Lib.hid (fun (k : Nat) (hk : k < L.length) => take_succ_getD (L.map (wI n)) k (by simpa using hk))
  have HNo := Lib.hid (fun (k : Nat) (hk : k < L.length) (hx : nth (L.map (wI n)) k = -1) => runS_no (xs := L.map (wI n)) (by simpa using hk) hx)
  have HFin := Lib.hid (fun (W : World) (b cap : Nat) (sp : Option Addr) h1 h2 => refsum_any b 0 cap sp (L.map (wI n)) W (by rw [List.length_map]; omega) h1 h2)
  have HLen := Lib.hid (show (L.map (wI n)).length = L.length from List.length_map _)
  obtain ⟨sp, hspn⟩ : ∃ s, S.sp = s := ⟨_, rfl⟩
  obtain ⟨b, hb⟩ : ∃ s, S.b = s := ⟨_, rfl⟩
  obtain ⟨o, ho⟩ : ∃ s, S.o = s := ⟨_, rfl⟩
  obtain ⟨c, hc⟩ : ∃ s, S.c = s := ⟨_, rfl⟩
  obtain ⟨N, hN⟩ : ∃ s, L.length = s := ⟨_, rfl⟩
  obtain ⟨xs, hxs⟩ : ∃ s, L.map (wI n) = s := ⟨_, rfl⟩
  rw [hb, ho, hN] at HCell
  rw [hspn, hb, ho, hN] at HSp
  rw [hN, hxs] at HNth HTk HNo HLen
  rw [hxs] at HFin
  rw [hN] at hl
  rw [hspn, hc, hN, hxs]
  clear h hspn hb ho hc hN hxs
  go_enter Tryd.func70, Tryd.ntmps70
  go_wp2
  go_loopg [6, 7] N (fun g v u wr => ∃ k : Nat, k + g = N ∧ u = .int .i64 (k : Nat) ∧ Aside (Below w.heap.size w wr ∧ wr.ownsRow w.heap.size 3 1 v k (rowI (xs.take k))))
  case atStart => exact ⟨0, by omega, rfl, Below.refl _ _, ⟨rfl, .inl ⟨rfl, rfl⟩⟩⟩
  case round =>
    obtain ⟨k, hkg, rfl, HR⟩ := hrel
    cases gk with
    | zero =>
      obtain rfl : k = N := by omega
      obtain ⟨sq, g, cap, rfl, hsp, hc⟩ := own_ints HR.out.2 (by rw [List.length_take]; have := HLen.out; omega)
      have HF := Lib.hid (HFin.out wr g cap sq)
      have HQ := Lib.hid (And.intro hsp hc)
      have ht : xs.take k = xs := List.take_of_length_le (by have := HLen.out; omega)
      rw [ht] at HQ
      have HF2 := Lib.hid (HF.out (fun h0 => (HQ.out.1 (by have := HLen.out; omega)).1) (fun j hj => by rw [Nat.zero_add]; exact HQ.out.2 j (by have := HLen.out; omega)))
      rw [HLen.out] at HF2
      unfold resOf at HF2
      clear hsp hc HF HQ ht HFin
      go_wp2_with (first | (go_at_call 94; refine HF2.out.mono ?_; rintro e w' ⟨rfl, rfl⟩) | fail)
      go_ret2
      exact ⟨rfl, HR.out.1⟩
    | succ g1 =>
      have hk : k < N := by omega
      obtain rfl := HSp.out (by omega)
      have hc := HCell.out k hk wr HR.out.1
      have hna := HNth.out k hk
      have htk := HTk.out k hk
      have hno := HNo.out k hk
      obtain ⟨t, ht⟩ : ∃ t, L.getD k default = t := ⟨_, rfl⟩
      rw [ht] at hc hna
      obtain ⟨P, C, O, K⟩ := t
      have hT := Lib.hid (fun wx => rwork_any P C O K n wx)
      have hna3 : wI n ⟨P, C, O, K⟩ = if workB P C O K n then workN P C O K n else -1 := rfl
      rw [hna3] at hna
      clear hna3
      generalize workN P C O K n = m at hT hna
      generalize workB P C O K n = q at hT hna
      have c0 : wr.cell? ⟨b, o + k * 4, none⟩ = some (.int .i64 P) := hc 0 _ rfl
      have c1 : wr.cell? ⟨b, o + k * 4 + 1, none⟩ = some (.int .i64 C) := hc 1 _ rfl
      have c2 : wr.cell? ⟨b, o + k * 4 + 2, none⟩ = some (.int .i64 O) := hc 2 _ rfl
      have c3 : wr.cell? ⟨b, o + k * 4 + 3, none⟩ = some (.int .i64 K) := hc 3 _ rfl
      have hk2 : (k : Int) < (N : Int) := by omega
      have hk3 : (k : Int) + 1 ≤ 9223372036854775807 := by omega
      cases q with
      | false =>
        have HV := Lib.hid (hno hna)
        clear hc ht hna htk hno
        go_wp2_with (first
          | (go_at_call 93; refine (hT.out _).mono ?_; rintro e w4 ⟨rfl, b4⟩; have H4 := Lib.hid (HR.out.1.trans (b4.mono HR.out.1.size)); clear b4)
          | fail)
        go_ret2
        exact ⟨by unfold resOf; rw [HV.out]; rfl, H4.out⟩
      | true =>
        have HV := Lib.hid (show xs.take (k + 1) = xs.take k ++ [m] by rw [htk, hna]; rfl)
        clear hc ht hna htk hno
        go_wp2_with (first
          | (go_at_call 93; refine (hT.out _).mono ?_; rintro e w4 ⟨rfl, b4⟩; have H4 := Lib.hid (And.intro (HR.out.1.trans (b4.mono HR.out.1.size)) (own_below HR.out.2 b4 (Nat.le_refl _))); clear b4 c0 c1 c2 c3)
          | (at_builtin; refine wpList_append_own _ rfl (.tmp 27) (.tmp 29) 44 rfl w.heap.size 3 i0 (.int .i64 0) 1 8 Tryd.underlying44 hi hz0 hz1 hz2 rfl Nat.one_pos _ k (rowI (xs.take k)) rfl (H4.out.2.alloc _) ⟨w4.heap.size, 0, none⟩ 1 1 [.int .i64 m] rfl rfl (cell_one_new _ _ _) (by simp [Value.oneCell']) (by unfold maxLen; omega) (by omega) (by rw [World.size_alloc]; exact Nat.le_succ_of_le H4.out.1.size) ?_; intro v1 w5 hown1 hg1 _; have HO := Lib.hid (And.intro (Below.grown (Below.alloc H4.out.1 H4.out.1.size _) hg1 (by rw [World.size_alloc]; exact Nat.le_succ_of_le H4.out.1.size) (fun j e => (H4.out.2.lt j e).1)) hown1); clear hown1 hg1)
          | fail)
        go_roundg g1
        case measure => omega
        case rel => exact ⟨k + 1, by omega, by go_num, HO.out.1, by rw [HV.out, rowI_snoc]; exact HO.out.2⟩
end Go.Proofs.YtchmdnmifpjfkaaDoor
