/- The contracts of ref10's Has and of class's functions. -/
import Derived.Test.YtomdcmdgcnhnmaaMSet
import Derived.Test.YtomdcmdgcnhnmaaVR
import Derived.Handy
import Derived.IntWalk
import Derived.Deep.MidRow
import Derived.Laws.ResultCell
import Derived.Deep.RegionWith
import Derived.Deep.RegionHeld3
import Derived.BigQuiet
import Derived.Deep.QuietTactic
namespace Go.Proofs.Ytomdcmdgcnhnmaa
open Go.RowKit

theorem odd_test (x : BitVec 32) (k : Nat) : ((w32 x / 2 ^ k).tmod 2 == 1) = x.getLsbD k := by
  have e1 : w32 x / 2 ^ k = ((x.toNat / 2 ^ k : Nat) : Int) := by unfold w32; simp
  have e2 : ((x.toNat / 2 ^ k : Nat) : Int).tmod 2 = ((x.toNat / 2 ^ k % 2 : Nat) : Int) := rfl
  rw [e1, e2, BitVec.getLsbD, Nat.testBit_eq_decide_div_mod_eq]
  have : x.toNat / 2 ^ k % 2 < 2 := Nat.mod_lt _ (by omega)
  rw [Bool.eq_iff_iff, beq_iff_eq, decide_eq_true_iff]
  omega
/-- Is a number in a set? -/
def hasB (x : BitVec 32) (i : Int) : Bool := decide (i ∈ ints (lst x 32))
theorem hasB_nat (x : BitVec 32) (k : Nat) (hk : k < 32) : hasB x (k : Int) = x.getLsbD k := by
  unfold hasB
  rw [Bool.eq_iff_iff, decide_eq_true_iff, mem_ints, Int.toNat_natCast, mem_lst]
  simp [hk]
theorem hasB_none (x : BitVec 32) (i : Int) (h : ¬ (0 ≤ i ∧ i < 32)) : hasB x i = false := by
  unfold hasB
  rw [decide_eq_false_iff_not, mem_ints, mem_lst]
  rintro ⟨h1, h2, -⟩
  exact h ⟨h1, by omega⟩
theorem has10_any (x : BitVec 32) (i : Int) (w : World) : Calls Try.prog 22 #[.int .u32 (w32 x), .int .i64 i] w fun e w' => e = .returned (.bool (hasB x i)) ∧ w = w' := by
  by_cases h : 0 ≤ i ∧ i < 32
  · obtain ⟨h0, h1⟩ := h
    obtain ⟨k, rfl⟩ := Int.eq_ofNat_of_zero_le h0
    have ht := odd_test x k
    rw [hasB_nat x k (by omega)]
    go_enter Try.func22, Try.ntmps22
    go_wp2
    go_ret
    exact ⟨rfl, rfl⟩
  · rw [hasB_none x i h]
    by_cases h0 : 0 ≤ i
    · have h1 : ¬ i < 32 := by omega
      clear h
      go_enter Try.func22, Try.ntmps22
      go_wp2
      go_ret
      exact ⟨rfl, rfl⟩
    · clear h
      go_enter Try.func22, Try.ntmps22
      go_wp2
      go_ret
      exact ⟨rfl, rfl⟩
/-- Three sets, as a value. -/
def clsV (o n s : BitVec 32) : Value := .agg #[.int .u32 (w32 o), .int .u32 (w32 n), .int .u32 (w32 s)]
theorem clsOf_any (x y : BitVec 32) (w : World) : Calls Try.prog 21 #[.int .u32 (w32 x), .int .u32 (w32 y)] w fun e w' => e = .returned (.agg #[.int .u32 (w32 (x &&& ~~~y)), .int .u32 (w32 (y &&& ~~~x)), .int .u32 (w32 (x &&& y))]) ∧ Below w.heap.size w w' := by
  have h1 := andNot32 x y
  have h2 := andNot32 y x
  have h3 := and32 x y
  go_enter Try.func21, Try.ntmps21
  go_wp2
  go_returns
  exact ⟨rfl, (Below.refl _ _).alloc (Nat.le_refl _) _⟩
/-- Which of the kinds. -/
def kindB (o n s : BitVec 32) (i : Int) : Int := if hasB o i then 1 else if hasB n i then 2 else if hasB s i then 3 else 0
theorem clsKind_any (o n s : BitVec 32) (i : Int) (w : World) : Calls Try.prog 23 #[.agg #[.int .u32 (w32 o), .int .u32 (w32 n), .int .u32 (w32 s)], .int .i64 i] w fun e w' => e = .returned (.int .i64 (kindB o n s i)) ∧ Below w.heap.size w w' := by
  have H1 := Lib.hid (fun w => mhas_any o i w)
  have H2 := Lib.hid (fun w => mhas_any n i w)
  have H3 := Lib.hid (fun w => mhas_any s i w)
  unfold kindB hasB
  obtain ⟨b1, e1⟩ : ∃ b, decide (i ∈ ints (lst o 32)) = b := ⟨_, rfl⟩
  obtain ⟨b2, e2⟩ : ∃ b, decide (i ∈ ints (lst n 32)) = b := ⟨_, rfl⟩
  obtain ⟨b3, e3⟩ : ∃ b, decide (i ∈ ints (lst s 32)) = b := ⟨_, rfl⟩
  rw [e1] at H1 ⊢
  rw [e2] at H2 ⊢
  rw [e3] at H3 ⊢
  clear e1 e2 e3
  have hb : Below w.heap.size w (w.alloc (.cells #[.int .u32 (w32 o), .int .u32 (w32 n), .int .u32 (w32 s)] 61)) := (Below.refl _ _).alloc (Nat.le_refl _) _
  have HB := Lib.hid hb
  clear hb
  cases b1 with
  | true =>
    go_enter Try.func23, Try.ntmps23
    go_wp2_with (go_at_call 62; refine (H1.out _).mono ?_; rintro e w' ⟨rfl, rfl⟩)
    go_ret
    exact ⟨rfl, HB.out⟩
  | false =>
    cases b2 with
    | true =>
      go_enter Try.func23, Try.ntmps23
      go_wp2_with (first | (go_at_call 62; refine (H1.out _).mono ?_; rintro e w' ⟨rfl, rfl⟩; clear H1) | (go_at_call 62; refine (H2.out _).mono ?_; rintro e w' ⟨rfl, rfl⟩; clear H2) | fail)
      go_ret
      exact ⟨rfl, HB.out⟩
    | false =>
      cases b3 with
      | true =>
        go_enter Try.func23, Try.ntmps23
        go_wp2_with (first | (go_at_call 62; refine (H1.out _).mono ?_; rintro e w' ⟨rfl, rfl⟩; clear H1) | (go_at_call 62; refine (H2.out _).mono ?_; rintro e w' ⟨rfl, rfl⟩; clear H2) | (go_at_call 62; refine (H3.out _).mono ?_; rintro e w' ⟨rfl, rfl⟩; clear H3) | fail)
        go_ret
        exact ⟨rfl, HB.out⟩
      | false =>
        go_enter Try.func23, Try.ntmps23
        go_wp2_with (first | (go_at_call 62; refine (H1.out _).mono ?_; rintro e w' ⟨rfl, rfl⟩; clear H1) | (go_at_call 62; refine (H2.out _).mono ?_; rintro e w' ⟨rfl, rfl⟩; clear H2) | (go_at_call 62; refine (H3.out _).mono ?_; rintro e w' ⟨rfl, rfl⟩; clear H3) | fail)
        go_ret
        exact ⟨rfl, HB.out⟩
theorem clsFrom_any (o n s : BitVec 32) (w : World) : Calls Try.prog 24 #[.agg #[.int .u32 (w32 o), .int .u32 (w32 n), .int .u32 (w32 s)]] w fun e w' => e = .returned (.int .u32 (w32 (o ||| s))) ∧ Below w.heap.size w w' := by
  have h1 := or32 o s
  go_enter Try.func24, Try.ntmps24
  go_wp2
  go_ret
  exact ⟨rfl, (Below.refl _ _).alloc (Nat.le_refl _) _⟩
theorem clsTo_any (o n s : BitVec 32) (w : World) : Calls Try.prog 25 #[.agg #[.int .u32 (w32 o), .int .u32 (w32 n), .int .u32 (w32 s)]] w fun e w' => e = .returned (.int .u32 (w32 (n ||| s))) ∧ Below w.heap.size w w' := by
  have h1 := or32 n s
  go_enter Try.func25, Try.ntmps25
  go_wp2
  go_ret
  exact ⟨rfl, (Below.refl _ _).alloc (Nat.le_refl _) _⟩
theorem clsBoth_any (o n s : BitVec 32) (w : World) : Calls Try.prog 26 #[.agg #[.int .u32 (w32 o), .int .u32 (w32 n), .int .u32 (w32 s)]] w fun e w' => e = .returned (.int .u32 (w32 (o ||| n ||| s))) ∧ Below w.heap.size w w' := by
  have h1 := or32 o n
  have h2 := or32 (o ||| n) s
  go_enter Try.func26, Try.ntmps26
  go_wp2
  go_ret
  exact ⟨rfl, (Below.refl _ _).alloc (Nat.le_refl _) _⟩
theorem clsBack_any (o n s : BitVec 32) (w : World) : Calls Try.prog 27 #[.agg #[.int .u32 (w32 o), .int .u32 (w32 n), .int .u32 (w32 s)]] w fun e w' => e = .returned (.agg #[.int .u32 (w32 n), .int .u32 (w32 o), .int .u32 (w32 s)]) ∧ Below w.heap.size w w' := by
  go_enter Try.func27, Try.ntmps27
  go_wp2
  go_returns
  exact ⟨rfl, by repeat first | exact Below.refl _ _ | refine Below.alloc ?_ (by simp) _⟩
theorem l14alive_any (w : World) : Calls Try.prog 28 #[] w fun e w' => e = .returned (.bool true) ∧ Below w.heap.size w w' := by
  have H1 := Lib.hid (show ∀ w, Calls Try.prog 21 #[.int .u32 3, .int .u32 6] w fun e w' => e = .returned (.agg #[.int .u32 1, .int .u32 4, .int .u32 2]) ∧ Below w.heap.size w w' from fun w => clsOf_any 3#32 6#32 w)
  go_enter Try.func28, Try.ntmps28
  go_wp2_with (go_at_call 21; refine (H1.out _).mono ?_; rintro e w1 ⟨rfl, b1⟩)
  go_ret
  exact ⟨rfl, b1⟩
end Go.Proofs.Ytomdcmdgcnhnmaa
