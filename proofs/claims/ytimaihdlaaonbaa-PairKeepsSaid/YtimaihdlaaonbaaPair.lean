/- The contracts of pair's functions and of the reference's: what each answers. -/
import Derived.Test.YtimaihdlaaonbaaProg
import Derived.Test.YtimaihdlaaonbaaMath
import Derived.WalkKit
import Derived.ProofKit
import Derived.LoopTactic
import Derived.RegionTactic
import Derived.Deep.LoopGhost
import Derived.Deep.RegionWith
import Derived.Below
import Derived.Outline
import Derived.Lib.Hide
import Derived.Handy
namespace Go.Proofs.Ytimaihdlaaonbaa
open Go.RowKit

theorem of_any (x : BitVec 32) (w : World) : Calls Try.prog 6 #[.int .u32 (w32 x)] w fun e w' => e = .returned (.agg #[.int .u32 (w32 x), .int .u32 (w32 (~~~x))]) ∧ w' = w.alloc (.cells #[.int .u32 (w32 x), .int .u32 (w32 (~~~x))] 24) := by
  have hn := not32 x
  go_enter Try.func6, Try.ntmps6
  go_wp2
  go_returns
  exact ⟨rfl, rfl⟩

theorem bit_any (x : BitVec 32) (k : Nat) (hk : k < 32) (w : World) : Calls Try.prog 23 #[.int .u32 (w32 x), .int .u64 k] w fun e w' => e = .returned (.bool (bt x k)) ∧ w = w' := by
  obtain ⟨b, h⟩ : ∃ b, bt x k = b := ⟨_, rfl⟩
  rw [h]
  have hb := bit_tmod x k b h
  clear h
  go_enter Try.func23, Try.ntmps23
  go_wp2
  go_ret
  exact ⟨rfl, rfl⟩

theorem within_any (x y : BitVec 32) (w : World) : Calls Try.prog 22 #[.int .u32 (w32 x), .int .u32 (w32 y)] w fun e w' => e = .returned (.bool (within x y)) ∧ w = w' := by
  have hb := andNot32 x y
  go_enter Try.func22, Try.ntmps22
  go_wp2
  go_ret
  exact ⟨by rw [← within_int]; rfl, rfl⟩

set_option maxHeartbeats 2000000 in
theorem is_any (x y z : BitVec 32) (w : World) : Calls Try.prog 9 #[.agg #[.int .u32 (w32 x), .int .u32 (w32 y)], .int .u32 (w32 z)] w fun e w' => e = .returned (.bool (x == z && y == ~~~z)) ∧ Below w.heap.size w w' := by
  have e1 : (x == z) = (w32 x == w32 z) := by rw [Bool.eq_iff_iff, beq_iff_eq, beq_iff_eq, w32_inj]
  have e2 : (y == ~~~z) = (w32 y == w32 (~~~z)) := by rw [Bool.eq_iff_iff, beq_iff_eq, beq_iff_eq, w32_inj]
  rw [e1, e2]
  clear e1 e2
  have bb : Below w.heap.size w ((w.alloc (.cells #[.int .u32 (w32 x), .int .u32 (w32 y)] 24)).alloc (.cells #[.int .u32 (w32 z), .int .u32 (w32 (~~~z))] 24)) := ((Below.refl _ _).alloc (Nat.le_refl _) _).alloc (by simp) _
  have BB := Lib.hid bb
  clear bb
  cases h1 : (w32 x == w32 z) <;> cases h2 : (w32 y == w32 (~~~z))
  all_goals
    go_enter Try.func9, Try.ntmps9
    go_wp2
    go_region_with (go_at_call 6; refine (of_any _ _).mono ?_; rintro e w' ⟨rfl, rfl⟩)
    all_goals go_wp2
    all_goals go_ret
    all_goals exact ⟨rfl, BB.out.drew⟩
end Go.Proofs.Ytimaihdlaaonbaa
