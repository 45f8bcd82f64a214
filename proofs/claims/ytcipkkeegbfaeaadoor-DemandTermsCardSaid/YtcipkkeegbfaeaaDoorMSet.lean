/- The contracts of mask's only, Has, With, Without, Below and Above. -/
import Derived.Test.YtcipkkeegbfaeaaDoorProg
import Derived.Test.YtcipkkeegbfaeaaDoorMMath
import Derived.WalkKit
import Derived.ProofKit
import Derived.LoopTactic
import Derived.RegionTactic
import Derived.Deep.LoopGhost
import Derived.Below
import Derived.Outline
import Derived.Lib.Hide
namespace Go.Proofs.YtcipkkeegbfaeaaDoor
open Go.RowKit

theorem only_any (n : Int) (w : World) : Calls Tryd.prog 67 #[.int .i64 n] w fun e w' => e = .returned (.int .u32 (w32 (onl n))) ∧ w = w' := by
  by_cases h : 0 ≤ n ∧ n < 32
  · obtain ⟨h0, h1⟩ := h
    obtain ⟨k, rfl⟩ := Int.eq_ofNat_of_zero_le h0
    have hs := shl_one k (by omega)
    have ho : onl (k : Int) = 1#32 <<< k := by unfold onl; rw [if_pos ⟨h0, h1⟩]; rfl
    rw [ho]
    go_enter Tryd.func67, Tryd.ntmps67
    go_wp2
    go_ret
    exact ⟨congrArg (fun z => Ending.returned (.int .u32 z)) hs, rfl⟩
  · have ho : onl n = 0#32 := by unfold onl; rw [if_neg h]
    rw [ho]
    by_cases h0 : n < 0
    · go_enter Tryd.func67, Tryd.ntmps67
      go_wp2
      go_ret
      exact ⟨rfl, rfl⟩
    · have h1 : (32 : Int) ≤ n := by omega
      go_enter Tryd.func67, Tryd.ntmps67
      go_wp2
      go_ret
      exact ⟨rfl, rfl⟩

theorem mhas_any (x : BitVec 32) (n : Int) (w : World) : Calls Tryd.prog 80 #[.int .u32 (w32 x), .int .i64 n] w fun e w' => e = .returned (.bool (decide (n ∈ ints (lst x 32)))) ∧ w = w' := by
  have ha := and32 x (onl n)
  have hb : (w32 (x &&& onl n) != 0) = decide (n ∈ ints (lst x 32)) := by
    rw [← has_eq, w32_zero, Bool.eq_iff_iff, bne_iff_ne, bne_iff_ne, Ne, Ne, w32_inj]
  go_enter Tryd.func80, Tryd.ntmps80
  go_wp2_with (go_at_call 67; refine (only_any _ _).mono ?_; rintro e w' ⟨rfl, rfl⟩)
  go_ret
  exact ⟨rfl, rfl⟩

theorem with_any (x : BitVec 32) (n : Int) (w : World) : Calls Tryd.prog 47 #[.int .u32 (w32 x), .int .i64 n] w fun e w' => e = .returned (.int .u32 (w32 (x ||| onl n))) ∧ w = w' := by
  have ha := or32 x (onl n)
  go_enter Tryd.func47, Tryd.ntmps47
  go_wp2_with (go_at_call 67; refine (only_any _ _).mono ?_; rintro e w' ⟨rfl, rfl⟩)
  go_ret
  exact ⟨rfl, rfl⟩

theorem without_any (x : BitVec 32) (n : Int) (w : World) : Calls Tryd.prog 57 #[.int .u32 (w32 x), .int .i64 n] w fun e w' => e = .returned (.int .u32 (w32 (x &&& ~~~onl n))) ∧ w = w' := by
  have ha := andNot32 x (onl n)
  go_enter Tryd.func57, Tryd.ntmps57
  go_wp2_with (go_at_call 67; refine (only_any _ _).mono ?_; rintro e w' ⟨rfl, rfl⟩)
  go_ret
  exact ⟨rfl, rfl⟩

theorem low_int' (m : Nat) (hm : m ≤ 32) : ((2 : Int) ^ m - 1) % (4294967296 : Int) = w32 (low m) := by
  rw [← low_int m hm]; omega
theorem below_any (x : BitVec 32) (n : Int) (w : World) : Calls Tryd.prog 38 #[.int .u32 (w32 x), .int .i64 n] w fun e w' => e = .returned (.int .u32 (w32 (btw x (-1) n))) ∧ w = w' := by
  rw [← below_eq]
  have hn : (n ≤ 0 ∧ cut n = 0) ∨ (0 < n ∧ n < 32 ∧ cut n = n.toNat) ∨ (32 ≤ n ∧ cut n = 32) := by unfold cut; omega
  have al : ∀ (m : Nat) (z : Int), z = w32 (low m) → bits .and .u32 (w32 x) z = w32 (x &&& low m) := fun m z h => by rw [h, and32]
  rcases hn with ⟨h, e⟩ | ⟨h, h2, e⟩ | ⟨h, e⟩
  · have hz := al 0 0 (by decide)
    rw [e]
    clear e al
    by_cases h0 : n < 0
    · go_enter Tryd.func38, Tryd.ntmps38
      go_wp2
      go_ret
      exact ⟨rfl, rfl⟩
    · obtain rfl : n = 0 := by omega
      go_enter Tryd.func38, Tryd.ntmps38
      go_wp2
      go_ret
      exact ⟨rfl, rfl⟩
  · obtain ⟨k, rfl⟩ := Int.eq_ofNat_of_zero_le (Int.le_of_lt h)
    have hz := al k _ (low_int' k (by omega))
    rw [e, Int.toNat_natCast]
    clear e al
    go_enter Tryd.func38, Tryd.ntmps38
    go_wp2
    go_ret
    exact ⟨rfl, rfl⟩
  · have hz := al 32 4294967295 (by decide)
    rw [e]
    clear e al
    by_cases h0 : n = 32
    · subst h0
      go_enter Tryd.func38, Tryd.ntmps38
      go_wp2
      go_ret
      exact ⟨rfl, rfl⟩
    · have h1 : 32 < n := by omega
      go_enter Tryd.func38, Tryd.ntmps38
      go_wp2
      go_ret
      exact ⟨rfl, rfl⟩

end Go.Proofs.YtcipkkeegbfaeaaDoor
