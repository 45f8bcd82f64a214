/- The contracts of mask's only, Has, With, Without, Below and Above. -/
import Derived.Test.YtknkhigmokooaaaDoorProg
import Derived.Test.YtknkhigmokooaaaDoorMMath
import Derived.WalkKit
import Derived.ProofKit
import Derived.LoopTactic
import Derived.RegionTactic
import Derived.Deep.LoopGhost
import Derived.Below
import Derived.Outline
import Derived.Lib.Hide
namespace Go.Proofs.YtknkhigmokooaaaDoor
open Go.RowKit

theorem only_any (n : Int) (w : World) : Calls Tryd.prog 49 #[.int .i64 n] w fun e w' => e = .returned (.int .u32 (w32 (onl n))) ∧ w = w' := by
  by_cases h : 0 ≤ n ∧ n < 32
  · obtain ⟨h0, h1⟩ := h
    obtain ⟨k, rfl⟩ := Int.eq_ofNat_of_zero_le h0
    have hs := shl_one k (by omega)
    have ho : onl (k : Int) = 1#32 <<< k := by unfold onl; rw [if_pos ⟨h0, h1⟩]; rfl
    rw [ho]
    go_enter Tryd.func49, Tryd.ntmps49
    go_wp2
    go_ret
    exact ⟨congrArg (fun z => Ending.returned (.int .u32 z)) hs, rfl⟩
  · have ho : onl n = 0#32 := by unfold onl; rw [if_neg h]
    rw [ho]
    by_cases h0 : n < 0
    · go_enter Tryd.func49, Tryd.ntmps49
      go_wp2
      go_ret
      exact ⟨rfl, rfl⟩
    · have h1 : (32 : Int) ≤ n := by omega
      go_enter Tryd.func49, Tryd.ntmps49
      go_wp2
      go_ret
      exact ⟨rfl, rfl⟩

theorem with_any (x : BitVec 32) (n : Int) (w : World) : Calls Tryd.prog 21 #[.int .u32 (w32 x), .int .i64 n] w fun e w' => e = .returned (.int .u32 (w32 (x ||| onl n))) ∧ w = w' := by
  have ha := or32 x (onl n)
  go_enter Tryd.func21, Tryd.ntmps21
  go_wp2_with (go_at_call 49; refine (only_any _ _).mono ?_; rintro e w' ⟨rfl, rfl⟩)
  go_ret
  exact ⟨rfl, rfl⟩

theorem without_any (x : BitVec 32) (n : Int) (w : World) : Calls Tryd.prog 65 #[.int .u32 (w32 x), .int .i64 n] w fun e w' => e = .returned (.int .u32 (w32 (x &&& ~~~onl n))) ∧ w = w' := by
  have ha := andNot32 x (onl n)
  go_enter Tryd.func65, Tryd.ntmps65
  go_wp2_with (go_at_call 49; refine (only_any _ _).mono ?_; rintro e w' ⟨rfl, rfl⟩)
  go_ret
  exact ⟨rfl, rfl⟩

theorem low_int' (m : Nat) (hm : m ≤ 32) : ((2 : Int) ^ m - 1) % (4294967296 : Int) = w32 (low m) := by
  rw [← low_int m hm]; omega
theorem below_any (x : BitVec 32) (n : Int) (w : World) : Calls Tryd.prog 33 #[.int .u32 (w32 x), .int .i64 n] w fun e w' => e = .returned (.int .u32 (w32 (btw x (-1) n))) ∧ w = w' := by
  rw [← below_eq]
  have hn : (n ≤ 0 ∧ cut n = 0) ∨ (0 < n ∧ n < 32 ∧ cut n = n.toNat) ∨ (32 ≤ n ∧ cut n = 32) := by unfold cut; omega
  have al : ∀ (m : Nat) (z : Int), z = w32 (low m) → bits .and .u32 (w32 x) z = w32 (x &&& low m) := fun m z h => by rw [h, and32]
  rcases hn with ⟨h, e⟩ | ⟨h, h2, e⟩ | ⟨h, e⟩
  · have hz := al 0 0 (by decide)
    rw [e]
    clear e al
    by_cases h0 : n < 0
    · go_enter Tryd.func33, Tryd.ntmps33
      go_wp2
      go_ret
      exact ⟨rfl, rfl⟩
    · obtain rfl : n = 0 := by omega
      go_enter Tryd.func33, Tryd.ntmps33
      go_wp2
      go_ret
      exact ⟨rfl, rfl⟩
  · obtain ⟨k, rfl⟩ := Int.eq_ofNat_of_zero_le (Int.le_of_lt h)
    have hz := al k _ (low_int' k (by omega))
    rw [e, Int.toNat_natCast]
    clear e al
    go_enter Tryd.func33, Tryd.ntmps33
    go_wp2
    go_ret
    exact ⟨rfl, rfl⟩
  · have hz := al 32 4294967295 (by decide)
    rw [e]
    clear e al
    by_cases h0 : n = 32
    · subst h0
      go_enter Tryd.func33, Tryd.ntmps33
      go_wp2
      go_ret
      exact ⟨rfl, rfl⟩
    · have h1 : 32 < n := by omega
      go_enter Tryd.func33, Tryd.ntmps33
      go_wp2
      go_ret
      exact ⟨rfl, rfl⟩

theorem above_any (x : BitVec 32) (n : Int) (w : World) : Calls Tryd.prog 42 #[.int .u32 (w32 x), .int .i64 n] w fun e w' => e = .returned (.int .u32 (w32 (btw x n 32))) ∧ w = w' := by
  rw [← above_eq]
  have ha := andNot32 x (btw x (-1) n)
  go_enter Tryd.func42, Tryd.ntmps42
  go_wp2_with (first | (go_at_call 33; refine (below_any _ _ _).mono ?_; rintro e w' ⟨rfl, rfl⟩) | (go_at_call 65; refine (without_any _ _ _).mono ?_; rintro e w' ⟨rfl, rfl⟩))
  go_ret
  exact ⟨rfl, rfl⟩
end Go.Proofs.YtknkhigmokooaaaDoor
