/- law17's alive, and the walk of FixFinds. -/
import Derived.Test.YtmaackdfhmpicaaZD
namespace Go.Proofs.Ytmaackdfhmpicaa
open Go.RowKit

def termX : Array Value := #[.int .i64 5, .int .i64 2, .int .i64 0, .int .i64 0]
theorem one_terms {w : World} {B : Nat} (h : RowAt w B 69 termX) : TermsAt w (fun _ => False) ⟨some ⟨B, 0, none⟩, B, 0, 1⟩ [⟨5, 2, 0, 0⟩] := by
  refine ⟨⟨fun _ => ⟨rfl, h.lt, fun h => h⟩, by simp⟩, fun k hk j u hu => ?_⟩
  obtain rfl : k = 0 := by have : k < 1 := hk; omega
  have := h.cell j
  simp only [Nat.zero_mul, Nat.zero_add]
  refine this.trans ?_
  rcases j with _ | _ | _ | _ | j
  · exact hu
  · exact hu
  · exact hu
  · exact hu
  · simp [tmC] at hu
theorem look_x : lookR 2 100 [⟨5, 2, 0, 0⟩] = some (4, 2) := by kernel_rfl
theorem done_x : doneB 2 4 [⟨5, 2, 0, 0⟩] = true ∧ doneB 2 3 [⟨5, 2, 0, 0⟩] = false := ⟨by kernel_rfl, by kernel_rfl⟩
theorem least_x {w : World} {B : Nat} (h : RowAt w B 69 termX) : Calls Try.prog 50 #[.int .i64 2, .int .i64 100, .slice (some ⟨B, 0, none⟩) 1 1] w fun e w' => e = .returned (.tuple #[.int .i64 4, .bool true]) ∧ Below w.heap.size w w' := by
  have := least_any (one_terms h) (by simp) 2 100 (by omega)
  rw [look_x] at this
  exact this
theorem alloc_call {w wx w' : World} {c : Array Value} {t : TypeId} {n : Nat} (hb : Below n w wx) (hn : n ≤ w.heap.size) (h : Below (wx.alloc (.cells c t)).heap.size (wx.alloc (.cells c t)) w') : Below n w w' :=
  (hb.alloc (Nat.le_trans hn hb.size) _).trans (h.mono (by have := hb.size; simp; omega))
end Go.Proofs.Ytmaackdfhmpicaa
