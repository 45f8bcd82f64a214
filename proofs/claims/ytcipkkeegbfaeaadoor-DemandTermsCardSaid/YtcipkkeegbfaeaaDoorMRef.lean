/- The contracts of mask's First, Len and Of, and of the reference's In, Of, List and Between. -/
import Derived.Test.YtcipkkeegbfaeaaDoorMFew
import Derived.Test.YtcipkkeegbfaeaaDoorOwn
import Derived.Laws.AppendOwn
import Derived.Carry
import Derived.Maps.AppendAt
import Derived.Deep.AppendLies
import Derived.RangeFuncRecord
namespace Go.Proofs.YtcipkkeegbfaeaaDoor
open Go.RowKit

theorem ctz_bits {n : Nat} (h0 : n ≠ 0) (h : n < 2 ^ 32) : Lib.ctz 32 n < 32 ∧ n.testBit (Lib.ctz 32 n) = true ∧ ∀ i, i < Lib.ctz 32 n → n.testBit i = false := by
  have hc : Lib.ctz 32 n = Lib.ctzFrom 32 n := by unfold Lib.ctz; rw [if_neg h0]
  obtain ⟨m, hm, hl⟩ := Lib.ctzFrom_spec 32 n (by omega) h
  rw [← hc] at hm hl
  clear hc
  generalize Lib.ctz 32 n = c at hm hl ⊢
  refine ⟨hl, ?_, ?_⟩
  · rw [hm, Nat.testBit_two_pow_mul]; simp
  · intro i hi
    rw [hm, Nat.testBit_two_pow_mul]; simp; omega
theorem lst_zero : lst 0#32 32 = [] := by decide
theorem lst_head {x : BitVec 32} (h0 : x.toNat ≠ 0) : (lst x 32).headD 0 = Lib.ctz 32 x.toNat ∧ 0 < (lst x 32).length := by
  obtain ⟨h1, h2, h3⟩ := ctz_bits h0 x.isLt
  have hh : (lst x 32).head? = some (Lib.ctz 32 x.toNat) := by
    unfold lst
    rw [List.head?_filter, List.find?_range_eq_some]
    refine ⟨h2, by simpa using h1, fun j hj => ?_⟩
    show (!x.toNat.testBit j) = true
    rw [h3 j hj]; rfl
  cases hl : lst x 32 with
  | nil => rw [hl] at hh; cases hh
  | cons a l => rw [hl] at hh; simp at hh; simp [hh]

theorem first_any (x : BitVec 32) (w : World) (ht : Tab w) : Calls Tryd.prog 56 #[.int .u32 (w32 x)] w fun e w' => e = .returned (.tuple #[.int .i64 ((lst x 32).headD 0 : Nat), .bool (decide (0 < (lst x 32).length))]) ∧ w = w' := by
  by_cases h0 : x.toNat = 0
  · obtain rfl : x = 0#32 := by apply BitVec.eq_of_toNat_eq; simpa using h0
    rw [lst_zero]
    go_enter Tryd.func56, Tryd.ntmps56
    go_wp2
    go_ret2
    exact ⟨rfl, rfl⟩
  · have hne : (w32 x == 0) = false := by unfold w32; simpa using h0
    obtain ⟨h1, h2⟩ := lst_head h0
    rw [h1]
    have h3 : decide (0 < (lst x 32).length) = true := by simpa using h2
    rw [h3]
    clear h1 h2 h3
    go_enter Tryd.func56, Tryd.ntmps56
    go_wp2_with (go_at_call 69; refine (tz_any _ _ ht).mono ?_; rintro e w' ⟨rfl, rfl⟩)
    go_ret2
    exact ⟨rfl, rfl⟩

/-- Where a slice's ints lie. -/
def Lies (w : World) (sp : Option Addr) (b off : Nat) (l : List Int) : Prop :=
  (0 < l.length → sp = some ⟨b, off, none⟩ ∧ b < w.heap.size) ∧ ∀ k, k < l.length → w.cell? ⟨b, off + k, none⟩ = some (.int .i64 (nth l k))
theorem Lies.below {w w' : World} {sp : Option Addr} {b off n : Nat} {l : List Int} (h : Lies w sp b off l) (hb : Below n w w') (hn : 0 < l.length → b < n) : Lies w' sp b off l :=
  ⟨fun h0 => ⟨(h.1 h0).1, Nat.lt_of_lt_of_le (h.1 h0).2 hb.size⟩, fun k hk => by rw [hb.cell (p := ⟨b, off + k, none⟩) (hn (by omega))]; exact h.2 k hk⟩

end Go.Proofs.YtcipkkeegbfaeaaDoor
