/- The walks of the law's alive and small facts. -/
import Derived.Test.YtimaihdlaaonbaaRef
import Derived.Deep.RegionHeld3
import Derived.BigQuiet
import Derived.Deep.QuietTactic
namespace Go.Proofs.Ytimaihdlaaonbaa
open Go.RowKit

theorem below_drewN {B n : Nat} {w w' : World} (h : Below B w w') : Below B w (w'.drewN n) := by
  induction n generalizing w' with
  | zero => exact h
  | succ n ih => exact (ih h).drew
/-- A contract that leaves the world as it was, as a quiet region asks for it. -/
theorem quietly {f : FuncId} {args : Array Value} {w : World} {n : Nat} {v : Value} (h : Calls Try.prog f args (w.drewN n) fun e w' => e = .returned v ∧ w.drewN n = w') :
    Calls Try.prog f args (w.drewN n) fun e w' => e = .returned v ∧ ∃ m, w' = w.drewN m :=
  h.mono fun _ _ hh => ⟨hh.1, n, hh.2.symm⟩

theorem alive_any (w : World) : Calls Try.prog 18 #[] w fun e w' => e = .returned (.bool true) ∧ Below w.heap.size w w' := by
  have c6 : ∀ wz : World, Calls Try.prog 6 #[.int .u32 0] wz fun e w' => e = .returned (.agg #[.int .u32 0, .int .u32 4294967295]) ∧ w' = wz.alloc (.cells #[.int .u32 0, .int .u32 4294967295] 24) := fun wz => by
    have := of_any 0#32 wz
    rwa [show w32 0#32 = 0 by decide, show w32 (~~~0#32) = 4294967295 by decide] at this
  have c14 : ∀ wz : World, Calls Try.prog 14 #[.int .u32 6, .int .u32 2, .int .u32 4] wz fun e w' => e = .returned (.int .u32 6) ∧ wz = w' := fun wz => falls_any 6#32 2#32 4#32 wz
  have c14b : ∀ wz : World, Calls Try.prog 14 #[.int .u32 6, .int .u32 2, .int .u32 0] wz fun e w' => e = .returned (.int .u32 2) ∧ wz = w' := fun wz => falls_any 6#32 2#32 0#32 wz
  have c6b : ∀ wz : World, Calls Try.prog 6 #[.int .u32 7] wz fun e w' => e = .returned (.agg #[.int .u32 7, .int .u32 4294967288]) ∧ w' = wz.alloc (.cells #[.int .u32 7, .int .u32 4294967288] 24) := fun wz => of_any 7#32 wz
  have c8 : ∀ wz : World, Calls Try.prog 8 #[.agg #[.int .u32 7, .int .u32 4294967288]] wz fun e w' => e = .returned (.bool true) ∧ Below wz.heap.size wz w' := fun wz => right_any 7#32 (~~~7#32) wz
  have bb : Below w.heap.size w ((w.alloc (.cells #[.int .u32 0, .int .u32 4294967295] 24)).alloc (.cells #[.int .u32 7, .int .u32 4294967288] 24)) := ((Below.refl _ _).alloc (Nat.le_refl _) _).alloc (by simp) _
  have C6 := Lib.hid c6
  have C14 := Lib.hid c14
  have C14b := Lib.hid c14b
  have C6b := Lib.hid c6b
  have C8 := Lib.hid c8
  have BB := Lib.hid bb
  clear c6 c14 c14b c6b c8 bb
  go_enter Try.func18, Try.ntmps18
  go_wp2_with fail
  refine (C6.out _).mono ?_
  rintro e w1 ⟨rfl, rfl⟩
  go_wp2_with fail
  refine (C14.out _).mono ?_
  rintro e w2 ⟨rfl, rfl⟩
  go_wp2_with fail
  refine (C14b.out _).mono ?_
  rintro e w3 ⟨rfl, rfl⟩
  go_wp2_with fail
  refine (C6b.out _).mono ?_
  rintro e w4 ⟨rfl, rfl⟩
  go_wp2_with fail
  refine (C8.out _).mono ?_
  rintro e w5 ⟨rfl, hb⟩
  go_wp2
  go_ret
  exact ⟨rfl, BB.out.trans (hb.mono BB.out.size)⟩

end Go.Proofs.Ytimaihdlaaonbaa
