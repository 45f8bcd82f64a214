/- The contract of flash's alive. -/
import Derived.Test.YtkbmgilceioieaaFK
namespace Go.Proofs.Ytkbmgilceioieaa
open Go.RowKit

def D0 : Dev := Dev.fresh 2 4 9
def D1 : Dev := (D0.program 0 0 5#32).1
def D2 : Dev := (D1.program 0 0 2#32).1
def D3 : Dev := (D2.program 0 0 1#32).1
theorem d_ok : D0.ok ∧ D1.ok ∧ D2.ok := by
  refine ⟨⟨?_, ?_, ?_, ?_⟩, ⟨?_, ?_, ?_, ?_⟩, ⟨?_, ?_, ?_, ?_⟩⟩ <;> decide +kernel
theorem d_ans : (D0.program 0 0 5#32).2 = 0 ∧ (D1.program 0 0 2#32).2 = 61 ∧ (D2.program 0 0 1#32).2 = 0 ∧ D3.readW 0 0 = 1#32 ∧ D3.readE 0 0 = 0 ∧ D3.ops = 2 := by
  refine ⟨?_, ?_, ?_, ?_, ?_, ?_⟩ <;> decide +kernel

theorem aliveF_any (w : World) : Calls Try.prog 13 #[] w fun e w' => e = .returned (.bool true) ∧ Below w.heap.size w w' := by
  have hn := new_ok 2 4 9 w (by unfold okSize; omega)
  have HN := Lib.hid (show Calls Try.prog 12 #[.int .i64 2, .int .i64 4, .int .i64 9] w fun e w' => ∃ q S g, e = .returned (.tuple #[.pointer (some ⟨q, 0, none⟩), .int .i64 0]) ∧ DevAt w' q S g D0 ∧ (∀ j, OwnD q S g 2 j → w.heap.size ≤ j) ∧ Below w.heap.size w w' from hn)
  clear hn
  have HP : ∀ (D : Dev) (x : BitVec 32) (r : Int) (y : Int) (q S : Nat) (g : Nat → Nat) (w1 : World), D.ok → (D.program 0 0 x).2 = r → w32 x = y → D.ns = 2 → DevAt w1 q S g D → (∀ j, OwnD q S g 2 j → w.heap.size ≤ j) → Below w.heap.size w w1 →
      Calls Try.prog 45 #[.pointer (some ⟨q, 0, none⟩), .int .i64 0, .int .i64 0, .int .u32 y] w1 fun e w' => e = .returned (.int .i64 r) ∧ DevAt w' q S g (D.program 0 0 x).1 ∧ Below w.heap.size w w' := by
    intro D x r y q S g w1 ho hr hy hns hd hq hb
    rw [← hr, ← hy]
    refine (program_any hd ho 0 0 x).mono ?_
    rintro e w2 ⟨h1, h2, h3⟩
    rw [hns] at h3
    exact ⟨h1, h2, hb.trans (h3.below (fun j hj e => by have := hq j e; omega) hb.size)⟩
  have HP := Lib.hid HP
  go_enter Try.func13, Try.ntmps13
  go_wp2_with (first
    | (go_at_call 12; refine HN.out.mono ?_; clear HN; rintro e w1 ⟨q, S, g, rfl, hd, hq, hb⟩; have HA := Lib.hid (HP.out D0 5#32 0 5 q S g w1 d_ok.1 d_ans.1 rfl rfl hd hq hb); have HQ := Lib.hid hq; clear hd hq hb)
    | (go_at_call 45; refine HA.out.mono ?_; clear HA; rintro e w2 ⟨rfl, hd, hb⟩; have HB := Lib.hid (HP.out D1 2#32 61 2 q S g w2 d_ok.2.1 d_ans.2.1 rfl (by decide +kernel) hd HQ.out hb); clear hd hb)
    | (go_at_call 45; refine HB.out.mono ?_; clear HB; rintro e w3 ⟨rfl, hd, hb⟩; have HC := Lib.hid (HP.out D2 1#32 0 1 q S g w3 d_ok.2.2 d_ans.2.2.1 rfl (by decide +kernel) hd HQ.out hb); clear hd hb)
    | (go_at_call 45; refine HC.out.mono ?_; clear HC; rintro e w4 ⟨rfl, hd, hb⟩; have HD := Lib.hid (And.intro (show DevAt w4 q S g D3 from hd) hb); clear hd hb)
    | (go_at_call 15; refine (read_any HD.out.1 0 0).mono ?_; rintro e w5 ⟨rfl, rfl⟩; rw [d_ans.2.2.2.1, d_ans.2.2.2.2.1])
    | (go_at_call 46; refine (ops_any HD.out.1).mono ?_; rintro e w6 ⟨rfl, rfl⟩; rw [d_ans.2.2.2.2.2])
    | fail)
  exact ⟨rfl, .bool true, by simp [results, Try.results13, go_sem], rfl, HD.out.2⟩
end Go.Proofs.Ytkbmgilceioieaa
