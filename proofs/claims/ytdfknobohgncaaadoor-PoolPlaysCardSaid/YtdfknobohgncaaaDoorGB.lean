/- A new guard; the contract of the law's alive. -/
import Derived.Test.YtdfknobohgncaaaDoorGA
import Derived.Laws.ResultCell
namespace Go.Proofs.YtdfknobohgncaaaDoor
open Go.RowKit

def c0 : Nat → Int := fun _ => 0
theorem okC0 : okC c0 := fun i => by unfold c0; omega
theorem gs_zero : (gs c0).toArray = #[.int .i64 0, .int .i64 0, .int .i64 0, .int .i64 0, .int .i64 0, .int .i64 0, .int .i64 0, .int .i64 0, .int .i64 0, .int .i64 0, .int .i64 0, .int .i64 0, .int .i64 0, .int .i64 0, .int .i64 0, .int .i64 0, .int .i64 0, .int .i64 0, .int .i64 0, .int .i64 0, .int .i64 0, .int .i64 0, .int .i64 0, .int .i64 0, .int .i64 0, .int .i64 0, .int .i64 0, .int .i64 0, .int .i64 0, .int .i64 0, .int .i64 0, .int .i64 0] := by kernel_rfl
theorem GAt.new0 (w : World) : GAt (w.alloc (.cells #[.int .i64 0, .int .i64 0, .int .i64 0, .int .i64 0, .int .i64 0, .int .i64 0, .int .i64 0, .int .i64 0, .int .i64 0, .int .i64 0, .int .i64 0, .int .i64 0, .int .i64 0, .int .i64 0, .int .i64 0, .int .i64 0, .int .i64 0, .int .i64 0, .int .i64 0, .int .i64 0, .int .i64 0, .int .i64 0, .int .i64 0, .int .i64 0, .int .i64 0, .int .i64 0, .int .i64 0, .int .i64 0, .int .i64 0, .int .i64 0, .int .i64 0, .int .i64 0] 28)) w.heap.size c0 := by
  unfold GAt; rw [gs_zero]; exact heap_alloc_new w _
def cA : Nat → Int := cameG c0 0 5 10
def cB : Nat → Int := cameG cA 0 14 10
theorem numA : mayG c0 0 5 = true ∧ mayG cA 0 14 = false ∧ mayG cB 0 15 = true ∧ droppedG cB 0 = 1 ∧ fromG cB 0 = 15 := by decide
theorem galive_any (w : World) : Calls Tryd.prog 12 #[] w fun e w' => e = .returned (.bool true) ∧ Below w.heap.size w w' := by
  obtain ⟨w1, hw1⟩ : ∃ w1, w1 = w.alloc (.cells #[.int .i64 0, .int .i64 0, .int .i64 0, .int .i64 0, .int .i64 0, .int .i64 0, .int .i64 0, .int .i64 0, .int .i64 0, .int .i64 0, .int .i64 0, .int .i64 0, .int .i64 0, .int .i64 0, .int .i64 0, .int .i64 0, .int .i64 0, .int .i64 0, .int .i64 0, .int .i64 0, .int .i64 0, .int .i64 0, .int .i64 0, .int .i64 0, .int .i64 0, .int .i64 0, .int .i64 0, .int .i64 0, .int .i64 0, .int .i64 0, .int .i64 0, .int .i64 0] 28) := ⟨_, rfl⟩
  have g1 : GAt w1 w.heap.size c0 := by rw [hw1]; exact GAt.new0 w
  have b1 : Below w.heap.size w w1 := by rw [hw1]; exact (Below.refl _ _).alloc (Nat.le_refl _) _
  have H1 := Lib.hid (And.intro g1 b1)
  obtain ⟨n1, n2, n3, n4, n5⟩ := numA
  have C1 := Lib.hid (show ∀ wz, GAt wz w.heap.size c0 → Calls Tryd.prog 8 #[.pointer (some ⟨w.heap.size, 0, none⟩), .int .i64 0, .int .i64 5, .int .i64 10] wz fun e w' => e = .returned (.bool true) ∧ GAt w' w.heap.size cA ∧ Ch (fun j => j = w.heap.size) wz w' from fun wz hz => by
    have := came_any hz okC0 0 5 10 (by decide)
    rw [n1] at this; exact this)
  have C2 := Lib.hid (show ∀ wz, GAt wz w.heap.size cA → Calls Tryd.prog 8 #[.pointer (some ⟨w.heap.size, 0, none⟩), .int .i64 0, .int .i64 14, .int .i64 10] wz fun e w' => e = .returned (.bool false) ∧ GAt w' w.heap.size cB ∧ Ch (fun j => j = w.heap.size) wz w' from fun wz hz => by
    have := came_any hz (show okC cA from okC0.came 0 5 10 (by decide)) 0 14 10 (by decide)
    rw [n2] at this; exact this)
  have C3 := Lib.hid (show ∀ wz, GAt wz w.heap.size cB → Calls Tryd.prog 5 #[.pointer (some ⟨w.heap.size, 0, none⟩), .int .i64 0, .int .i64 15] wz fun e w' => e = .returned (.bool true) ∧ wz = w' from fun wz hz => by
    have := may_any hz 0 15
    rw [n3] at this; exact this)
  have C4 := Lib.hid (show ∀ wz, GAt wz w.heap.size cB → Calls Tryd.prog 11 #[.pointer (some ⟨w.heap.size, 0, none⟩), .int .i64 0] wz fun e w' => e = .returned (.int .i64 1) ∧ wz = w' from fun wz hz => by
    have := dropped_any hz 0
    rw [n4] at this; exact this)
  have C5 := Lib.hid (show ∀ wz, GAt wz w.heap.size cB → Calls Tryd.prog 10 #[.pointer (some ⟨w.heap.size, 0, none⟩), .int .i64 0] wz fun e w' => e = .returned (.int .i64 15) ∧ wz = w' from fun wz hz => by
    have := from_any hz 0
    rw [n5] at this; exact this)
  have HB := Lib.hid (show ∀ wa wb, Below w.heap.size w wa → Ch (fun j => j = w.heap.size) wa wb → Below w.heap.size w wb from fun wa wb h1 h2 => h1.trans (h2.below (fun j hj e => by omega) h1.size))
  clear n1 n2 n3 n4 n5 g1 b1
  go_enter Tryd.func12, Tryd.ntmps12
  go_wp2_with fail
  rw [← hw1]
  clear hw1
  refine (C1.out _ H1.out.1).mono ?_
  rintro e w2 ⟨rfl, g2, b2⟩
  have H2 := Lib.hid (And.intro g2 (HB.out _ _ H1.out.2 b2))
  clear g2 b2
  go_wp2_with fail
  refine (C2.out _ H2.out.1).mono ?_
  rintro e w3 ⟨rfl, g3, b3⟩
  have H3 := Lib.hid (And.intro g3 (HB.out _ _ H2.out.2 b3))
  clear g3 b3
  go_wp2_with fail
  refine (C3.out _ H3.out.1).mono ?_
  rintro e w4 ⟨rfl, rfl⟩
  go_wp2_with fail
  refine (C4.out _ H3.out.1).mono ?_
  rintro e w4 ⟨rfl, rfl⟩
  go_wp2_with fail
  refine (C5.out _ H3.out.1).mono ?_
  rintro e w4 ⟨rfl, rfl⟩
  go_wp2
  go_ret
  exact ⟨rfl, H3.out.2⟩
end Go.Proofs.YtdfknobohgncaaaDoor
