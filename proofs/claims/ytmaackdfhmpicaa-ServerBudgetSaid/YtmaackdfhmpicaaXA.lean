/- The contracts of the functions of check and of its reference that only compute with numbers: each returns what a plain function on integers says, for every argument, and leaves the world as it was. -/
import Derived.Test.YtmaackdfhmpicaaProg
import Derived.WalkKit
import Derived.ProofKit
import Derived.WalkLawsBesides
import Derived.WalkSpells
import Derived.Lib.Hide
namespace Go.Proofs.Ytmaackdfhmpicaa
open Go.RowKit

def numB (a : Int) : Bool := decide (0 ≤ a ∧ a ≤ 1099511627776)
theorem numB_t {a : Int} (h : 0 ≤ a) (h' : a ≤ 1099511627776) : numB a = true := by simp [numB]; omega
theorem numB_f {a : Int} (h : a < 0 ∨ 1099511627776 < a) : numB a = false := by simp [numB]; omega
theorem numB_cases (a : Int) : (numB a = true ∧ 0 ≤ a ∧ a ≤ 1099511627776) ∨ (numB a = false ∧ (a < 0 ∨ 1099511627776 < a)) := by
  by_cases h : 0 ≤ a ∧ a ≤ 1099511627776
  · exact Or.inl ⟨numB_t h.1 h.2, h⟩
  · exact Or.inr ⟨numB_f (by omega), by omega⟩

theorem number_any (a : Int) (w : World) : Calls Try.prog 65 #[.int .i64 a] w fun e w' => e = .returned (.bool (numB a)) ∧ w = w' := by
  by_cases h : 0 ≤ a
  · by_cases h' : a ≤ 1099511627776
    · rw [numB_t h h']
      go_enter Try.func65, Try.ntmps65
      go_wp2
      go_ret
      exact ⟨rfl, rfl⟩
    · rw [numB_f (by omega)]
      go_enter Try.func65, Try.ntmps65
      go_wp2
      go_ret
      exact ⟨rfl, rfl⟩
  · rw [numB_f (by omega)]
    go_enter Try.func65, Try.ntmps65
    go_wp2
    go_ret
    exact ⟨rfl, rfl⟩


theorem in_any (a : Int) (w : World) : Calls Try.prog 72 #[.int .i64 a] w fun e w' => e = .returned (.bool (numB a)) ∧ w = w' := by
  by_cases h : 0 ≤ a
  · by_cases h' : a ≤ 1099511627776
    · rw [numB_t h h']
      go_enter Try.func72, Try.ntmps72
      go_wp2
      go_ret
      exact ⟨rfl, rfl⟩
    · rw [numB_f (by omega)]
      go_enter Try.func72, Try.ntmps72
      go_wp2
      go_ret
      exact ⟨rfl, rfl⟩
  · rw [numB_f (by omega)]
    go_enter Try.func72, Try.ntmps72
    go_wp2
    go_ret
    exact ⟨rfl, rfl⟩

theorem answer_any (a : Int) (w : World) : Calls Try.prog 66 #[.int .i64 a] w fun e w' => e = .returned (.tuple #[.int .i64 (if numB a then a else 0), .bool (numB a)]) ∧ w = w' := by
  rcases numB_cases a with ⟨h, h1, h2⟩ | ⟨h, h1⟩
  · rw [h]
    go_enter Try.func66, Try.ntmps66
    go_wp2_with (go_at_call 65; refine (number_any _ _).mono ?_; rintro e w' ⟨rfl, rfl⟩)
    go_ret2
    exact ⟨rfl, rfl⟩
  · rw [h]
    go_enter Try.func66, Try.ntmps66
    go_wp2_with (go_at_call 65; refine (number_any _ _).mono ?_; rintro e w' ⟨rfl, rfl⟩)
    go_ret2
    exact ⟨rfl, rfl⟩

def addN (a b : Int) : Int := if numB a && numB b && numB (a + b) then a + b else 0
def addB (a b : Int) : Bool := numB a && numB b && numB (a + b)

theorem add_any (a b : Int) (w : World) : Calls Try.prog 55 #[.int .i64 a, .int .i64 b] w fun e w' => e = .returned (.tuple #[.int .i64 (addN a b), .bool (addB a b)]) ∧ w = w' := by
  unfold addN addB
  rcases numB_cases a with ⟨ha, ha1, ha2⟩ | ⟨ha, ha1⟩
  · rcases numB_cases b with ⟨hb, hb1, hb2⟩ | ⟨hb, hb1⟩
    · rw [ha, hb]
      go_enter Try.func55, Try.ntmps55
      go_wp2_with (first | (go_at_call 65; refine (number_any _ _).mono ?_; rintro e w' ⟨rfl, rfl⟩) | (go_at_call 66; refine (answer_any _ _).mono ?_; rintro e w' ⟨rfl, rfl⟩))
      all_goals
        go_ret2
        exact ⟨by simp_all, rfl⟩
    · rw [ha, hb]
      go_enter Try.func55, Try.ntmps55
      go_wp2_with (first | (go_at_call 65; refine (number_any _ _).mono ?_; rintro e w' ⟨rfl, rfl⟩) | (go_at_call 66; refine (answer_any _ _).mono ?_; rintro e w' ⟨rfl, rfl⟩))
      go_ret2
      exact ⟨by simp, rfl⟩
  · rw [ha]
    go_enter Try.func55, Try.ntmps55
    go_wp2_with (first | (go_at_call 65; refine (number_any _ _).mono ?_; rintro e w' ⟨rfl, rfl⟩) | (go_at_call 66; refine (answer_any _ _).mono ?_; rintro e w' ⟨rfl, rfl⟩))
    go_ret2
    exact ⟨by simp, rfl⟩

theorem refadd_any (a b : Int) (w : World) : Calls Try.prog 59 #[.int .i64 a, .int .i64 b] w fun e w' => e = .returned (.tuple #[.int .i64 (addN a b), .bool (addB a b)]) ∧ w = w' := by
  unfold addN addB
  rcases numB_cases a with ⟨ha, ha1, ha2⟩ | ⟨ha, ha1⟩
  · rcases numB_cases b with ⟨hb, hb1, hb2⟩ | ⟨hb, hb1⟩
    · rcases numB_cases (a + b) with ⟨hc, hc1, hc2⟩ | ⟨hc, hc1⟩
      all_goals
        rw [ha, hb, hc]
        go_enter Try.func59, Try.ntmps59
        go_wp2_with (go_at_call 72; refine (in_any _ _).mono ?_; rintro e w' ⟨rfl, rfl⟩)
        go_ret2
        exact ⟨by simp, rfl⟩
    · rw [ha, hb]
      go_enter Try.func59, Try.ntmps59
      go_wp2_with (go_at_call 72; refine (in_any _ _).mono ?_; rintro e w' ⟨rfl, rfl⟩)
      go_ret2
      exact ⟨by simp, rfl⟩
  · rw [ha]
    go_enter Try.func59, Try.ntmps59
    go_wp2_with (go_at_call 72; refine (in_any _ _).mono ?_; rintro e w' ⟨rfl, rfl⟩)
    go_ret2
    exact ⟨by simp, rfl⟩

def mulN (a b : Int) : Int := if numB a && numB b && numB (a * b) then a * b else 0
def mulB (a b : Int) : Bool := numB a && numB b && numB (a * b)
theorem quo_lt {a b : Int} (hb : 0 < b) : 1099511627776 / b < a ↔ 1099511627776 < a * b := Int.ediv_lt_iff_lt_mul hb

theorem mul_any (a b : Int) (w : World) : Calls Try.prog 76 #[.int .i64 a, .int .i64 b] w fun e w' => e = .returned (.tuple #[.int .i64 (mulN a b), .bool (mulB a b)]) ∧ w = w' := by
  unfold mulN mulB
  rcases numB_cases a with ⟨ha, ha1, ha2⟩ | ⟨ha, ha1⟩
  · rcases numB_cases b with ⟨hb, hb1, hb2⟩ | ⟨hb, hb1⟩
    · by_cases h0 : 0 < b
      · have hp : 0 ≤ a * b := Int.mul_nonneg ha1 hb1
        by_cases hq : 1099511627776 / b < a
        · have hc : numB (a * b) = false := numB_f (by have := (quo_lt h0).1 hq; omega)
          rw [ha, hb, hc]
          go_enter Try.func76, Try.ntmps76
          go_wp2_with (go_at_call 65; refine (number_any _ _).mono ?_; rintro e w' ⟨rfl, rfl⟩)
          go_ret2
          exact ⟨by simp, rfl⟩
        · have hm : a * b ≤ 1099511627776 := by have h : ¬ 1099511627776 < a * b := fun h => hq ((quo_lt h0).2 h); omega
          have hc : numB (a * b) = true := numB_t hp hm
          rw [ha, hb, hc]
          go_enter Try.func76, Try.ntmps76
          go_wp2_with (go_at_call 65; refine (number_any _ _).mono ?_; rintro e w' ⟨rfl, rfl⟩)
          go_ret2
          exact ⟨by simp, rfl⟩
      · obtain rfl : b = 0 := by omega
        have hc : numB (a * 0) = true := numB_t (by omega) (by omega)
        rw [ha, hb, hc]
        go_enter Try.func76, Try.ntmps76
        go_wp2_with (go_at_call 65; refine (number_any _ _).mono ?_; rintro e w' ⟨rfl, rfl⟩)
        go_ret2
        exact ⟨by simp, rfl⟩
    · rw [ha, hb]
      go_enter Try.func76, Try.ntmps76
      go_wp2_with (go_at_call 65; refine (number_any _ _).mono ?_; rintro e w' ⟨rfl, rfl⟩)
      go_ret2
      exact ⟨by simp, rfl⟩
  · rw [ha]
    go_enter Try.func76, Try.ntmps76
    go_wp2_with (go_at_call 65; refine (number_any _ _).mono ?_; rintro e w' ⟨rfl, rfl⟩)
    go_ret2
    exact ⟨by simp, rfl⟩

theorem refmul_any (a b : Int) (w : World) : Calls Try.prog 69 #[.int .i64 a, .int .i64 b] w fun e w' => e = .returned (.tuple #[.int .i64 (mulN a b), .bool (mulB a b)]) ∧ w = w' := by
  unfold mulN mulB
  rcases numB_cases a with ⟨ha, ha1, ha2⟩ | ⟨ha, ha1⟩
  · rcases numB_cases b with ⟨hb, hb1, hb2⟩ | ⟨hb, hb1⟩
    · by_cases h0 : 0 < b
      · have eb : (b == 0) = false := by simp; omega
        by_cases h1 : 0 < a
        · have ea : (a == 0) = false := by simp; omega
          have hp : 0 ≤ a * b := Int.mul_nonneg ha1 hb1
          by_cases hq : 1099511627776 / a < b
          · have hc : numB (a * b) = false := numB_f (by have := (quo_lt h1).1 hq; rw [Int.mul_comm] at this; omega)
            rw [ha, hb, hc]
            go_enter Try.func69, Try.ntmps69
            go_wp2_with (go_at_call 72; refine (in_any _ _).mono ?_; rintro e w' ⟨rfl, rfl⟩)
            go_ret2
            exact ⟨by simp, rfl⟩
          · have hm : a * b ≤ 1099511627776 := by
              have h : ¬ 1099511627776 < b * a := fun h => hq ((quo_lt h1).2 h)
              rw [Int.mul_comm] at h; omega
            have hc : numB (a * b) = true := numB_t hp hm
            rw [ha, hb, hc]
            go_enter Try.func69, Try.ntmps69
            go_wp2_with (go_at_call 72; refine (in_any _ _).mono ?_; rintro e w' ⟨rfl, rfl⟩)
            go_ret2
            exact ⟨by simp, rfl⟩
        · obtain rfl : a = 0 := by omega
          have hc : numB (0 * b) = true := numB_t (by omega) (by omega)
          rw [ha, hb, hc]
          go_enter Try.func69, Try.ntmps69
          go_wp2_with (go_at_call 72; refine (in_any _ _).mono ?_; rintro e w' ⟨rfl, rfl⟩)
          go_ret2
          exact ⟨by simp, rfl⟩
      · obtain rfl : b = 0 := by omega
        have hc : numB (a * 0) = true := numB_t (by omega) (by omega)
        rw [ha, hb, hc]
        by_cases h1 : a = 0
        · subst h1
          go_enter Try.func69, Try.ntmps69
          go_wp2_with (go_at_call 72; refine (in_any _ _).mono ?_; rintro e w' ⟨rfl, rfl⟩)
          go_ret2
          exact ⟨by simp, rfl⟩
        · have ea : (a == 0) = false := by simp; omega
          go_enter Try.func69, Try.ntmps69
          go_wp2_with (go_at_call 72; refine (in_any _ _).mono ?_; rintro e w' ⟨rfl, rfl⟩)
          go_ret2
          exact ⟨by simp, rfl⟩
    · rw [ha, hb]
      go_enter Try.func69, Try.ntmps69
      go_wp2_with (go_at_call 72; refine (in_any _ _).mono ?_; rintro e w' ⟨rfl, rfl⟩)
      go_ret2
      exact ⟨by simp, rfl⟩
  · rw [ha]
    go_enter Try.func69, Try.ntmps69
    go_wp2_with (go_at_call 72; refine (in_any _ _).mono ?_; rintro e w' ⟨rfl, rfl⟩)
    go_ret2
    exact ⟨by simp, rfl⟩

def upN (a b : Int) : Int := if numB a && numB b && decide (0 < b) then (a + b - 1) / b else 0
def upB (a b : Int) : Bool := numB a && numB b && decide (0 < b)

theorem up_any (a b : Int) (w : World) : Calls Try.prog 81 #[.int .i64 a, .int .i64 b] w fun e w' => e = .returned (.tuple #[.int .i64 (upN a b), .bool (upB a b)]) ∧ w = w' := by
  unfold upN upB
  rcases numB_cases a with ⟨ha, ha1, ha2⟩ | ⟨ha, ha1⟩
  · rcases numB_cases b with ⟨hb, hb1, hb2⟩ | ⟨hb, hb1⟩
    · by_cases h0 : 0 < b
      · have eb : (b == 0) = false := by simp; omega
        rw [ha, hb, decide_eq_true h0]
        go_enter Try.func81, Try.ntmps81
        go_wp2_with (go_at_call 65; refine (number_any _ _).mono ?_; rintro e w' ⟨rfl, rfl⟩)
        go_ret2
        exact ⟨by simp, rfl⟩
      · obtain rfl : b = 0 := by omega
        rw [ha, hb]
        go_enter Try.func81, Try.ntmps81
        go_wp2_with (go_at_call 65; refine (number_any _ _).mono ?_; rintro e w' ⟨rfl, rfl⟩)
        go_ret2
        exact ⟨by simp, rfl⟩
    · rw [ha, hb]
      go_enter Try.func81, Try.ntmps81
      go_wp2_with (go_at_call 65; refine (number_any _ _).mono ?_; rintro e w' ⟨rfl, rfl⟩)
      go_ret2
      exact ⟨by simp, rfl⟩
  · rw [ha]
    go_enter Try.func81, Try.ntmps81
    go_wp2_with (go_at_call 65; refine (number_any _ _).mono ?_; rintro e w' ⟨rfl, rfl⟩)
    go_ret2
    exact ⟨by simp, rfl⟩

theorem quo_bds {a b : Int} (ha : 0 ≤ a) (hb : 0 < b) : 0 ≤ a / b ∧ a / b ≤ a ∧ 0 ≤ a / b * b ∧ a / b * b ≤ a ∧ a < a / b * b + b := by
  have h1 := Int.ediv_nonneg ha (by omega : 0 ≤ b)
  have h2 := Int.ediv_mul_add_emod a b
  have h3 := Int.emod_nonneg a (by omega : b ≠ 0)
  have h4 := Int.emod_lt_of_pos a hb
  have h5 := Int.ediv_le_self b ha
  have h6 := Int.mul_nonneg h1 (by omega : 0 ≤ b)
  omega
theorem up_eq {a b : Int} (ha : 0 ≤ a) (hb : 0 < b) : (a + b - 1) / b = if a / b * b < a then a / b + 1 else a / b := by
  obtain ⟨h1, h2, h3, h4, h5⟩ := quo_bds ha hb
  split
  · rename_i h
    rw [Int.ediv_eq_iff_of_pos hb]
    rw [Int.add_mul]
    omega
  · rename_i h
    rw [Int.ediv_eq_iff_of_pos hb]
    omega

theorem refup_any (a b : Int) (w : World) : Calls Try.prog 68 #[.int .i64 a, .int .i64 b] w fun e w' => e = .returned (.tuple #[.int .i64 (upN a b), .bool (upB a b)]) ∧ w = w' := by
  unfold upN upB
  rcases numB_cases a with ⟨ha, ha1, ha2⟩ | ⟨ha, ha1⟩
  · rcases numB_cases b with ⟨hb, hb1, hb2⟩ | ⟨hb, hb1⟩
    · by_cases h0 : 0 < b
      · have eb : (b == 0) = false := by simp; omega
        rw [ha, hb, decide_eq_true h0]
        obtain ⟨h1, h2, h3, h4, h5⟩ := quo_bds ha1 h0
        have hu := up_eq ha1 h0
        by_cases hlt : a / b * b < a
        · rw [if_pos hlt] at hu
          rw [hu]
          clear hu
          go_enter Try.func68, Try.ntmps68
          go_wp2_with (go_at_call 72; refine (in_any _ _).mono ?_; rintro e w' ⟨rfl, rfl⟩)
          go_ret2
          exact ⟨by simp, rfl⟩
        · rw [if_neg hlt] at hu
          rw [hu]
          clear hu
          go_enter Try.func68, Try.ntmps68
          go_wp2_with (go_at_call 72; refine (in_any _ _).mono ?_; rintro e w' ⟨rfl, rfl⟩)
          go_ret2
          exact ⟨by simp, rfl⟩
      · obtain rfl : b = 0 := by omega
        rw [ha, hb]
        go_enter Try.func68, Try.ntmps68
        go_wp2_with (go_at_call 72; refine (in_any _ _).mono ?_; rintro e w' ⟨rfl, rfl⟩)
        go_ret2
        exact ⟨by simp, rfl⟩
    · rw [ha, hb]
      go_enter Try.func68, Try.ntmps68
      go_wp2_with (go_at_call 72; refine (in_any _ _).mono ?_; rintro e w' ⟨rfl, rfl⟩)
      go_ret2
      exact ⟨by simp, rfl⟩
  · rw [ha]
    go_enter Try.func68, Try.ntmps68
    go_wp2_with (go_at_call 72; refine (in_any _ _).mono ?_; rintro e w' ⟨rfl, rfl⟩)
    go_ret2
    exact ⟨by simp, rfl⟩

def lessN (a b : Int) : Int := if numB a && numB b then (if a < b then 0 else a - b) else 0
def lessB (a b : Int) : Bool := numB a && numB b

theorem less_any (a b : Int) (w : World) : Calls Try.prog 80 #[.int .i64 a, .int .i64 b] w fun e w' => e = .returned (.tuple #[.int .i64 (lessN a b), .bool (lessB a b)]) ∧ w = w' := by
  unfold lessN lessB
  rcases numB_cases a with ⟨ha, ha1, ha2⟩ | ⟨ha, ha1⟩
  · rcases numB_cases b with ⟨hb, hb1, hb2⟩ | ⟨hb, hb1⟩
    · by_cases h0 : a < b
      · rw [ha, hb, if_pos h0]
        go_enter Try.func80, Try.ntmps80
        go_wp2_with (go_at_call 65; refine (number_any _ _).mono ?_; rintro e w' ⟨rfl, rfl⟩)
        go_ret2
        exact ⟨by simp, rfl⟩
      · rw [ha, hb, if_neg h0]
        go_enter Try.func80, Try.ntmps80
        go_wp2_with (go_at_call 65; refine (number_any _ _).mono ?_; rintro e w' ⟨rfl, rfl⟩)
        go_ret2
        exact ⟨by simp, rfl⟩
    · rw [ha, hb]
      go_enter Try.func80, Try.ntmps80
      go_wp2_with (go_at_call 65; refine (number_any _ _).mono ?_; rintro e w' ⟨rfl, rfl⟩)
      go_ret2
      exact ⟨by simp, rfl⟩
  · rw [ha]
    go_enter Try.func80, Try.ntmps80
    go_wp2_with (go_at_call 65; refine (number_any _ _).mono ?_; rintro e w' ⟨rfl, rfl⟩)
    go_ret2
    exact ⟨by simp, rfl⟩

theorem refless_any (a b : Int) (w : World) : Calls Try.prog 67 #[.int .i64 a, .int .i64 b] w fun e w' => e = .returned (.tuple #[.int .i64 (lessN a b), .bool (lessB a b)]) ∧ w = w' := by
  unfold lessN lessB
  rcases numB_cases a with ⟨ha, ha1, ha2⟩ | ⟨ha, ha1⟩
  · rcases numB_cases b with ⟨hb, hb1, hb2⟩ | ⟨hb, hb1⟩
    · by_cases h0 : a < b
      · rw [ha, hb, if_pos h0]
        go_enter Try.func67, Try.ntmps67
        go_wp2_with (go_at_call 72; refine (in_any _ _).mono ?_; rintro e w' ⟨rfl, rfl⟩)
        go_ret2
        exact ⟨by simp, rfl⟩
      · rw [ha, hb, if_neg h0]
        go_enter Try.func67, Try.ntmps67
        go_wp2_with (go_at_call 72; refine (in_any _ _).mono ?_; rintro e w' ⟨rfl, rfl⟩)
        go_ret2
        exact ⟨by simp, rfl⟩
    · rw [ha, hb]
      go_enter Try.func67, Try.ntmps67
      go_wp2_with (go_at_call 72; refine (in_any _ _).mono ?_; rintro e w' ⟨rfl, rfl⟩)
      go_ret2
      exact ⟨by simp, rfl⟩
  · rw [ha]
    go_enter Try.func67, Try.ntmps67
    go_wp2_with (go_at_call 72; refine (in_any _ _).mono ?_; rintro e w' ⟨rfl, rfl⟩)
    go_ret2
    exact ⟨by simp, rfl⟩

end Go.Proofs.Ytmaackdfhmpicaa
