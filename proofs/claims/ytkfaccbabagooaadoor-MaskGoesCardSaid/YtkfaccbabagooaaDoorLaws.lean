/- The walks of the law's alive, of MaskCuts and of MaskSets. -/
import Derived.Test.YtkfaccbabagooaaDoorBtw
namespace Go.Proofs.YtkfaccbabagooaaDoor
open Go.RowKit

def exS : BitVec 32 := ofL [3, 1, 40]
theorem alive_any (w : World) (ht : Tab w) : Calls Tryd.prog 16 #[] w fun e w' => e = .returned (.bool true) ∧ Below w.heap.size w w' := by
  have hp := ht.pos
  have c10 : Calls Tryd.prog 10 #[.slice (some ⟨w.heap.size, 0, none⟩) 3 3] (w.alloc (.cells #[.int .i64 3, .int .i64 1, .int .i64 40] 3)) fun e w' => e = .returned (.int .u32 (w32 exS)) ∧ (w.alloc (.cells #[.int .i64 3, .int .i64 1, .int .i64 40] 3)) = w' :=
    of_any _ w.heap.size 0 3 [3, 1, 40] _ (by decide) ⟨fun _ => ⟨rfl, by simp⟩, fun k hk => by
      have hk' : k < 3 := hk
      rcases k with _ | _ | _ | k
      all_goals first | omega | (simp [nth])⟩
  have c7 : ∀ wz : World, Tab wz → Calls Tryd.prog 7 #[.int .u32 (w32 exS)] wz fun e w' => e = .returned (.tuple #[.int .i64 1, .bool true]) ∧ wz = w' := fun wz hz => by
    have := first_any exS wz hz
    rwa [show (lst exS 32).headD 0 = 1 by decide, show decide (0 < (lst exS 32).length) = true by decide] at this
  have c15 : ∀ wz : World, Calls Tryd.prog 15 #[.int .u32 (w32 exS)] wz fun e w' => e = .returned (.int .i64 2) ∧ Below wz.heap.size wz w' := fun wz => by
    have := len_any exS wz
    rwa [show (lst exS 32).length = 2 by decide] at this
  have c17 : ∀ wz : World, Calls Tryd.prog 17 #[.int .u32 (w32 exS), .int .i64 3] wz fun e w' => e = .returned (.int .u32 2) ∧ wz = w' := fun wz => by
    have := below_any exS 3 wz
    rwa [show w32 (btw exS (-1) 3) = 2 by decide] at this
  have c10b : ∀ wz : World, Calls Tryd.prog 10 #[.slice (some ⟨wz.heap.size, 0, none⟩) 1 1] (wz.alloc (.cells #[.int .i64 1] 3)) fun e w' => e = .returned (.int .u32 2) ∧ (wz.alloc (.cells #[.int .i64 1] 3)) = w' := fun wz => by
    have := of_any (some ⟨wz.heap.size, 0, none⟩) wz.heap.size 0 1 [1] (wz.alloc (.cells #[.int .i64 1] 3)) (by decide) ⟨fun _ => ⟨rfl, by simp⟩, fun k hk => by
      have hk' : k < 1 := hk
      rcases k with _ | k
      all_goals first | omega | (simp [nth])⟩
    rwa [show w32 (ofL [1]) = 2 by decide] at this
  have c11 : ∀ wz : World, Calls Tryd.prog 11 #[.int .u32 (w32 exS), .int .i64 3] wz fun e w' => e = .returned (.bool true) ∧ wz = w' := fun wz => by
    have := has_any exS 3 wz
    rwa [show decide ((3 : Int) ∈ ints (lst exS 32)) = true by decide] at this
  have b1 : Below w.heap.size w (w.alloc (.cells #[.int .i64 3, .int .i64 1, .int .i64 40] 3)) := (Below.refl _ _).alloc (Nat.le_refl _) _
  have t1 := ht.below hp b1
  have C10 := Lib.hid c10
  have C7 := Lib.hid c7
  have C15 := Lib.hid c15
  have C17 := Lib.hid c17
  have C10b := Lib.hid c10b
  have C11 := Lib.hid c11
  have T1 := Lib.hid t1
  have B1 := Lib.hid b1
  clear c10 c7 c15 c17 c10b c11 t1 b1
  go_enter Tryd.func16, Tryd.ntmps16
  go_wp2_with fail
  refine C10.out.mono ?_
  rintro e w1 ⟨rfl, rfl⟩
  go_wp2_with fail
  refine (C7.out _ T1.out).mono ?_
  rintro e w2 ⟨rfl, rfl⟩
  go_wp2_with fail
  refine (C15.out _).mono ?_
  rintro e w3 ⟨rfl, hb3⟩
  have B3 := Lib.hid (B1.out.trans (hb3.mono (by simp)))
  clear hb3
  go_wp2_with fail
  refine (C17.out _).mono ?_
  rintro e w4 ⟨rfl, rfl⟩
  go_wp2_with fail
  refine (C10b.out _).mono ?_
  rintro e w5 ⟨rfl, rfl⟩
  go_wp2_with fail
  refine (C11.out _).mono ?_
  rintro e w6 ⟨rfl, rfl⟩
  go_wp2
  go_ret
  exact ⟨rfl, B3.out.alloc B3.out.size _⟩

theorem law_cuts (x : BitVec 32) (n : Int) (w : World) (ht : Tab w) : Calls Tryd.prog 4 #[.int .u32 (w32 x), .int .i64 n] w fun e w' => e = .returned (.bool true) ∧ Below w.heap.size w w' := by
  have hp := Lib.hid ht.pos
  have HT := Lib.hid ht
  clear ht
  go_enter Tryd.func4, Tryd.ntmps4
  go_wp2_with fail
  refine (below_any x n _).mono ?_
  rintro e w1 ⟨rfl, rfl⟩
  go_wp2_with fail
  refine (between_any x (-1) n _).mono ?_
  rintro e w2 ⟨rfl, hb2⟩
  have B2 := Lib.hid hb2
  clear hb2
  go_wp2_with fail
  refine (above_any x n _).mono ?_
  rintro e w3 ⟨rfl, rfl⟩
  go_wp2_with fail
  refine (between_any x n 32 _).mono ?_
  rintro e w4 ⟨rfl, hb4⟩
  have B4 := Lib.hid (B2.out.trans (hb4.mono B2.out.size))
  clear hb4
  go_wp2_with fail
  refine (alive_any _ (HT.out.below hp.out B4.out)).mono ?_
  rintro e w5 ⟨rfl, hb5⟩
  have B5 := Lib.hid (B4.out.trans (hb5.mono B4.out.size))
  clear hb5
  go_wp2
  go_ret
  exact ⟨rfl, B5.out⟩

end Go.Proofs.YtkfaccbabagooaaDoor
