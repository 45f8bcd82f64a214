/- The contract of the law's alive; the walk of ReadyPlays. -/
import Derived.Test.YtimaihdlaaonbaaDoorSame
namespace Go.Proofs.YtimaihdlaaonbaaDoor
open Go.RowKit

def q0 : Nat → Nat := fun _ => 0
theorem lvs_zero : (lvs q0).toArray = #[.int .u32 0, .int .u32 0, .int .u32 0, .int .u32 0, .int .u32 0, .int .u32 0, .int .u32 0, .int .u32 0, .int .u32 0, .int .u32 0, .int .u32 0, .int .u32 0, .int .u32 0, .int .u32 0, .int .u32 0, .int .u32 0, .int .u32 0, .int .u32 0, .int .u32 0, .int .u32 0, .int .u32 0, .int .u32 0, .int .u32 0, .int .u32 0, .int .u32 0, .int .u32 0, .int .u32 0, .int .u32 0, .int .u32 0, .int .u32 0, .int .u32 0, .int .u32 0] := by kernel_rfl
theorem qs_zero : (qs q0).toArray = #[.int .i64 0, .int .i64 0, .int .i64 0, .int .i64 0, .int .i64 0, .int .i64 0, .int .i64 0, .int .i64 0, .int .i64 0, .int .i64 0, .int .i64 0, .int .i64 0, .int .i64 0, .int .i64 0, .int .i64 0, .int .i64 0, .int .i64 0, .int .i64 0, .int .i64 0, .int .i64 0, .int .i64 0, .int .i64 0, .int .i64 0, .int .i64 0, .int .i64 0, .int .i64 0, .int .i64 0, .int .i64 0, .int .i64 0, .int .i64 0, .int .i64 0, .int .i64 0] := by kernel_rfl
def qA : Nat → Nat := putQ (putQ q0 3 5) 4 2
theorem headA : headP qA = 4 ∧ decide (0 < (allP qA 32).length) = true := by
  constructor
  · kernel_rfl
  · kernel_rfl
theorem okA : okQ 3 5 = true ∧ okQ 4 2 = true := by decide

theorem alive_any (w : World) (ht : Tab w) : Calls Tryd.prog 10 #[] w fun e w' => e = .returned (.bool true) ∧ Below w.heap.size w w' := by
  obtain ⟨w1, hw1⟩ : ∃ w1, w1 = w.alloc (.cells #[.int .u32 0, .int .u32 0, .int .u32 0, .int .u32 0, .int .u32 0, .int .u32 0, .int .u32 0, .int .u32 0, .int .u32 0, .int .u32 0, .int .u32 0, .int .u32 0, .int .u32 0, .int .u32 0, .int .u32 0, .int .u32 0, .int .u32 0, .int .u32 0, .int .u32 0, .int .u32 0, .int .u32 0, .int .u32 0, .int .u32 0, .int .u32 0, .int .u32 0, .int .u32 0, .int .u32 0, .int .u32 0, .int .u32 0, .int .u32 0, .int .u32 0, .int .u32 0] 28) := ⟨_, rfl⟩
  have hz : w1.heap[w.heap.size]? = some (.cells #[.int .u32 0, .int .u32 0, .int .u32 0, .int .u32 0, .int .u32 0, .int .u32 0, .int .u32 0, .int .u32 0, .int .u32 0, .int .u32 0, .int .u32 0, .int .u32 0, .int .u32 0, .int .u32 0, .int .u32 0, .int .u32 0, .int .u32 0, .int .u32 0, .int .u32 0, .int .u32 0, .int .u32 0, .int .u32 0, .int .u32 0, .int .u32 0, .int .u32 0, .int .u32 0, .int .u32 0, .int .u32 0, .int .u32 0, .int .u32 0, .int .u32 0, .int .u32 0] 28 (0, 0)) := by rw [hw1]; exact heap_alloc_new w _
  have b0 : Below w.heap.size w w1 := by rw [hw1]; exact (Below.refl _ _).alloc (Nat.le_refl _) _
  have e1 := hw1.symm
  clear hw1
  obtain ⟨w1', hw1'⟩ : ∃ w1', w1' = w1.setRow w.heap.size #[.int .u32 0, .int .u32 0, .int .u32 0, .int .u32 0, .int .u32 0, .int .u32 0, .int .u32 0, .int .u32 0, .int .u32 0, .int .u32 0, .int .u32 0, .int .u32 0, .int .u32 0, .int .u32 0, .int .u32 0, .int .u32 0, .int .u32 0, .int .u32 0, .int .u32 0, .int .u32 0, .int .u32 0, .int .u32 0, .int .u32 0, .int .u32 0, .int .u32 0, .int .u32 0, .int .u32 0, .int .u32 0, .int .u32 0, .int .u32 0, .int .u32 0, .int .u32 0] := ⟨_, rfl⟩
  have qz : QAt w1' w.heap.size q0 := by unfold QAt; rw [hw1', lvs_zero]; exact setRow_heap _ _ _ _ 28 (0, 0) hz
  have b1 : Below w.heap.size w w1' := by
    rw [hw1']
    exact ⟨b0.os, b0.tape, b0.output, by rw [size_setRow]; exact b0.size, fun k hk => by rw [setRow_other _ _ _ _ (by omega)]; exact b0.block k hk⟩
  have HZ := Lib.hid hz
  have e2 := hw1'.symm
  clear hw1' hz b0
  have t1 := ht.below ht.pos b1
  have hb0 : ∀ i, q0 i ≤ 32 := fun i => by unfold q0; omega
  have c7 := put_any w.heap.size q0 3 5 w1' qz hb0
  rw [okA.1] at c7
  have C7 := Lib.hid c7
  have C7b := Lib.hid (show ∀ wz, QAt wz w.heap.size (putQ q0 3 5) → Calls Tryd.prog 7 #[.pointer (some ⟨w.heap.size, 0, none⟩), .int .i64 4, .int .i64 2] wz fun e w' => e = .returned (.bool true) ∧ QAt w' w.heap.size qA ∧ Ch (fun j => j = w.heap.size) wz w' from fun wz hz => by
    have := put_any w.heap.size (putQ q0 3 5) 4 2 wz hz (putQ_le hb0)
    rw [okA.2] at this
    exact this)
  have C12 := Lib.hid (show ∀ wz, QAt wz w.heap.size qA → Tab wz → Calls Tryd.prog 12 #[.pointer (some ⟨w.heap.size, 0, none⟩)] wz fun e w' => e = .returned (.tuple #[.int .i64 4, .bool true]) ∧ wz = w' from fun wz hz htz => by
    have := first_q w.heap.size qA wz hz htz
    rw [headA.1, headA.2] at this
    exact this)
  have B1 := Lib.hid (And.intro b1 (And.intro ht.pos t1))
  have HT := Lib.hid ht
  clear ht qz b1 t1 hb0 c7
  go_enter Tryd.func10, Tryd.ntmps10
  go_wp2_with (refine wpList_store_row rfl 28 (.tmp 1) (.tmp 6) rfl w.heap.size #[.int .u32 0, .int .u32 0, .int .u32 0, .int .u32 0, .int .u32 0, .int .u32 0, .int .u32 0, .int .u32 0, .int .u32 0, .int .u32 0, .int .u32 0, .int .u32 0, .int .u32 0, .int .u32 0, .int .u32 0, .int .u32 0, .int .u32 0, .int .u32 0, .int .u32 0, .int .u32 0, .int .u32 0, .int .u32 0, .int .u32 0, .int .u32 0, .int .u32 0, .int .u32 0, .int .u32 0, .int .u32 0, .int .u32 0, .int .u32 0, .int .u32 0, .int .u32 0] rfl rfl 28 _ HZ.out (by kernel_rfl) rfl (by kernel_rfl) ?_)
  refine C7.out.mono ?_
  rintro e w2 ⟨rfl, hq2, hb2⟩
  have H2 := Lib.hid (And.intro hq2 (B1.out.1.trans (hb2.below (fun j hj e => by omega) B1.out.1.size)))
  clear hq2 hb2
  go_wp2_with fail
  refine (C7b.out _ H2.out.1).mono ?_
  rintro e w3 ⟨rfl, hq3, hb3⟩
  have H3 := Lib.hid (And.intro hq3 (H2.out.2.trans (hb3.below (fun j hj e => by omega) H2.out.2.size)))
  clear hq3 hb3
  go_wp2_with fail
  refine (C12.out _ H3.out.1 (HT.out.below B1.out.2.1 H3.out.2)).mono ?_
  rintro e w4 ⟨rfl, rfl⟩
  go_wp2
  go_ret
  exact ⟨rfl, H3.out.2⟩
end Go.Proofs.YtimaihdlaaonbaaDoor
