/- law17's alive, and the walk of FixFinds. -/
import Derived.Test.YtjgnclhkoncnkaaZD
namespace Go.Proofs.Ytjgnclhkoncnkaa
open Go.RowKit

def termX : Array Value := #[.int .i64 5, .int .i64 2, .int .i64 0, .int .i64 0]
theorem one_terms {w : World} {B : Nat} (h : RowAt w B 32 termX) : TermsAt w (fun _ => False) ⟨some ⟨B, 0, none⟩, B, 0, 1⟩ [⟨5, 2, 0, 0⟩] := by
  refine ⟨⟨fun _ => ⟨rfl, h.lt, fun h => h⟩, by simp⟩, fun k hk j u hu => ?_⟩
  obtain rfl : k = 0 := by have : k < 1 := hk; omega
  have := h.cell j
  simp only [Nat.zero_mul, Nat.zero_add]
  refine this.trans ?_
  rcases j with _ | _ | _ | _ | j
  · exact hu
  · exact hu
  · exact hu
  · exact hu
  · simp [tmC] at hu
theorem look_x : lookR 2 100 [⟨5, 2, 0, 0⟩] = some (4, 2) := by kernel_rfl
theorem done_x : doneB 2 4 [⟨5, 2, 0, 0⟩] = true ∧ doneB 2 3 [⟨5, 2, 0, 0⟩] = false := ⟨by kernel_rfl, by kernel_rfl⟩
theorem least_x {w : World} {B : Nat} (h : RowAt w B 32 termX) : Calls Try.prog 14 #[.int .i64 2, .int .i64 100, .slice (some ⟨B, 0, none⟩) 1 1] w fun e w' => e = .returned (.tuple #[.int .i64 4, .bool true]) ∧ Below w.heap.size w w' := by
  have := least_any (one_terms h) (by simp) 2 100 (by omega)
  rw [look_x] at this
  exact this
theorem steps_x {w : World} {B : Nat} (h : RowAt w B 32 termX) : Calls Try.prog 15 #[.int .i64 2, .int .i64 100, .slice (some ⟨B, 0, none⟩) 1 1] w fun e w' => e = .returned (.tuple #[.int .i64 2, .bool true]) ∧ Below w.heap.size w w' := by
  have := steps_any (one_terms h) (by simp) 2 100 (by omega)
  rw [look_x] at this
  exact this
theorem done_x4 {w : World} {B : Nat} (h : RowAt w B 32 termX) : Calls Try.prog 16 #[.int .i64 2, .int .i64 4, .slice (some ⟨B, 0, none⟩) 1 1] w fun e w' => e = .returned (.bool true) ∧ Below w.heap.size w w' := by
  have := done_any (one_terms h) (by simp) 2 4
  rw [done_x.1] at this
  exact this
theorem done_x3 {w : World} {B : Nat} (h : RowAt w B 32 termX) : Calls Try.prog 16 #[.int .i64 2, .int .i64 3, .slice (some ⟨B, 0, none⟩) 1 1] w fun e w' => e = .returned (.bool false) ∧ Below w.heap.size w w' := by
  have := done_any (one_terms h) (by simp) 2 3
  rw [done_x.2] at this
  exact this
theorem alloc_call {w wx w' : World} {c : Array Value} {t : TypeId} {n : Nat} (hb : Below n w wx) (hn : n ≤ w.heap.size) (h : Below (wx.alloc (.cells c t)).heap.size (wx.alloc (.cells c t)) w') : Below n w w' :=
  (hb.alloc (Nat.le_trans hn hb.size) _).trans (h.mono (by have := hb.size; simp; omega))
set_option maxRecDepth 100000 in
set_option maxHeartbeats 4000000 in
theorem l17alive_any (w : World) : Calls Try.prog 17 #[] w fun e w' => e = .returned (.bool true) ∧ Below w.heap.size w w' := by
  obtain ⟨Z, hZ⟩ : ∃ Z, Z = w.heap.size := ⟨_, rfl⟩
  have HW := Lib.hid (show ∀ w2, w.alloc (.cells termX 32) = w2 → Below w.heap.size w w2 ∧ RowAt w2 Z 32 termX from fun w2 hw => by
    rw [← hw, hZ]
    exact ⟨(Below.refl _ w).alloc (Nat.le_refl _) _, RowAt.mk w 32 _⟩)
  have HD4 := Lib.hid (fun (wx : World) (B : Nat) (h : RowAt wx B 32 termX) => done_x4 h)
  have HD3 := Lib.hid (fun (wx : World) (B : Nat) (h : RowAt wx B 32 termX) => done_x3 h)
  go_enter Try.func17, Try.ntmps17
  go_upto_region 2 with fail
  generalize hw2 : World.alloc _ _ = w2
  have H2 := Lib.hid (HW.out w2 hw2)
  rw [← hZ]
  clear hw2 hZ HW
  go_wp2_with (first
    | (refine wpList_load_row rfl 32 (.tmp 1) rfl Z rfl 32 termX (0, 0) _ H2.out.2 Try.underlying32 rfl (by kernel_rfl) ?_; dsimp only [termX])
    | (go_at_call 14; refine (least_x (RowAt.mk w2 _ _)).mono ?_; rintro e w3 ⟨rfl, b3⟩; have H3 := Lib.hid (And.intro (alloc_call H2.out.1 (Nat.le_refl _) b3) (H2.out.2.new (alloc_call (Below.refl _ _) (Nat.le_refl _) b3))); clear b3)
    | (refine wpList_load_row rfl 32 (.tmp 1) rfl Z rfl 32 termX (0, 0) _ H3.out.2 Try.underlying32 rfl (by kernel_rfl) ?_; dsimp only [termX])
    | (go_at_call 15; refine (steps_x (RowAt.mk w3 _ _)).mono ?_; rintro e w4 ⟨rfl, b4⟩; have H4 := Lib.hid (And.intro (alloc_call H3.out.1 (Nat.le_refl _) b4) (H3.out.2.new (alloc_call (Below.refl _ _) (Nat.le_refl _) b4))); clear b4; have c0 : w4.cell? ⟨Z, 0, none⟩ = some (.int .i64 5) := H4.out.2.cell 0; have c1 : w4.cell? ⟨Z, 1, none⟩ = some (.int .i64 2) := H4.out.2.cell 1; have c2 : w4.cell? ⟨Z, 2, none⟩ = some (.int .i64 0) := H4.out.2.cell 2; have c3 : w4.cell? ⟨Z, 3, none⟩ = some (.int .i64 0) := H4.out.2.cell 3)
    | (go_at_call 16; refine (HD4.out _ _ (RowAt.mk w4 _ _)).mono ?_; clear HD4; rintro e w5 ⟨rfl, b5⟩; have H5 := Lib.hid (And.intro (alloc_call H4.out.1 (Nat.le_refl _) b5) (H4.out.2.new (alloc_call (Below.refl _ _) (Nat.le_refl _) b5))); clear b5 c0 c1 c2 c3; have c0 : w5.cell? ⟨Z, 0, none⟩ = some (.int .i64 5) := H5.out.2.cell 0; have c1 : w5.cell? ⟨Z, 1, none⟩ = some (.int .i64 2) := H5.out.2.cell 1; have c2 : w5.cell? ⟨Z, 2, none⟩ = some (.int .i64 0) := H5.out.2.cell 2; have c3 : w5.cell? ⟨Z, 3, none⟩ = some (.int .i64 0) := H5.out.2.cell 3)
    | (go_at_call 16; refine (HD3.out _ _ (RowAt.mk w5 _ _)).mono ?_; clear HD3; rintro e w6 ⟨rfl, b6⟩; have H6 := Lib.hid (alloc_call H5.out.1 (Nat.le_refl _) b6); clear b6)
    | fail)
  go_ret
  exact ⟨rfl, H6.out⟩
end Go.Proofs.Ytjgnclhkoncnkaa
