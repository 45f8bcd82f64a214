/- The contracts of mask's only, Has, With, Without, Below and Above. -/
import Derived.Test.YtimaihdlaaonbaaDoorProg
import Derived.Test.YtimaihdlaaonbaaDoorMath
import Derived.WalkKit
import Derived.ProofKit
import Derived.LoopTactic
import Derived.RegionTactic
import Derived.Deep.LoopGhost
import Derived.Below
import Derived.Outline
import Derived.Lib.Hide
namespace Go.Proofs.YtimaihdlaaonbaaDoor
open Go.RowKit

theorem only_any (n : Int) (w : World) : Calls Tryd.prog 23 #[.int .i64 n] w fun e w' => e = .returned (.int .u32 (w32 (onl n))) ∧ w = w' := by
  by_cases h : 0 ≤ n ∧ n < 32
  · obtain ⟨h0, h1⟩ := h
    obtain ⟨k, rfl⟩ := Int.eq_ofNat_of_zero_le h0
    have hs := shl_one k (by omega)
    have ho : onl (k : Int) = 1#32 <<< k := by unfold onl; rw [if_pos ⟨h0, h1⟩]; rfl
    rw [ho]
    go_enter Tryd.func23, Tryd.ntmps23
    go_wp2
    go_ret
    exact ⟨congrArg (fun z => Ending.returned (.int .u32 z)) hs, rfl⟩
  · have ho : onl n = 0#32 := by unfold onl; rw [if_neg h]
    rw [ho]
    by_cases h0 : n < 0
    · go_enter Tryd.func23, Tryd.ntmps23
      go_wp2
      go_ret
      exact ⟨rfl, rfl⟩
    · have h1 : (32 : Int) ≤ n := by omega
      go_enter Tryd.func23, Tryd.ntmps23
      go_wp2
      go_ret
      exact ⟨rfl, rfl⟩

theorem has_any (x : BitVec 32) (n : Int) (w : World) : Calls Tryd.prog 22 #[.int .u32 (w32 x), .int .i64 n] w fun e w' => e = .returned (.bool (decide (n ∈ ints (lst x 32)))) ∧ w = w' := by
  have ha := and32 x (onl n)
  have hb : (w32 (x &&& onl n) != 0) = decide (n ∈ ints (lst x 32)) := by
    rw [← has_eq, w32_zero, Bool.eq_iff_iff, bne_iff_ne, bne_iff_ne, Ne, Ne, w32_inj]
  go_enter Tryd.func22, Tryd.ntmps22
  go_wp2_with (go_at_call 23; refine (only_any _ _).mono ?_; rintro e w' ⟨rfl, rfl⟩)
  go_ret
  exact ⟨rfl, rfl⟩

theorem with_any (x : BitVec 32) (n : Int) (w : World) : Calls Tryd.prog 17 #[.int .u32 (w32 x), .int .i64 n] w fun e w' => e = .returned (.int .u32 (w32 (x ||| onl n))) ∧ w = w' := by
  have ha := or32 x (onl n)
  go_enter Tryd.func17, Tryd.ntmps17
  go_wp2_with (go_at_call 23; refine (only_any _ _).mono ?_; rintro e w' ⟨rfl, rfl⟩)
  go_ret
  exact ⟨rfl, rfl⟩

theorem without_any (x : BitVec 32) (n : Int) (w : World) : Calls Tryd.prog 15 #[.int .u32 (w32 x), .int .i64 n] w fun e w' => e = .returned (.int .u32 (w32 (x &&& ~~~onl n))) ∧ w = w' := by
  have ha := andNot32 x (onl n)
  go_enter Tryd.func15, Tryd.ntmps15
  go_wp2_with (go_at_call 23; refine (only_any _ _).mono ?_; rintro e w' ⟨rfl, rfl⟩)
  go_ret
  exact ⟨rfl, rfl⟩

end Go.Proofs.YtimaihdlaaonbaaDoor
