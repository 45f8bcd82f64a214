/- The contracts of trials and NextTrial. -/
import Derived.Test.YthpagbfabpfngaaHE
namespace Go.Proofs.Ythpagbfabpfngaa
open Go.RowKit

theorem ones_b (x : BitVec 32) : (w32 x == 4294967295) = (x == BitVec.allOnes 32) := by
  rw [← w32_ones, Bool.eq_iff_iff, beq_iff_eq, beq_iff_eq, w32_inj]
theorem ones_nb (x : BitVec 32) : (w32 x != 4294967295) = !(x == BitVec.allOnes 32) := by
  unfold bne; rw [ones_b]
/-- How many words of trials aren't blank. -/
def trC (H : Nat → BitVec 32) : Nat → Nat
  | 0 => 0
  | k + 1 => if H (10 + k) == BitVec.allOnes 32 then trC H k else trC H k + 1
theorem trC_le (H : Nat → BitVec 32) (k : Nat) : trC H k ≤ k := by
  induction k with
  | zero => exact Nat.le_refl _
  | succ k ih => unfold trC; split <;> omega
set_option maxHeartbeats 1000000 in
theorem trials_any (H : Nat → BitVec 32) (w : World) : Calls Try.prog 90 #[.agg (hs H).toArray] w fun e w' => e = .returned (.int .i64 (trC H 3 : Nat)) ∧ Below w.heap.size w w' := by
  obtain ⟨r, hr⟩ : ∃ r, r = w.heap.size := ⟨_, rfl⟩
  obtain ⟨w1, hw1⟩ : ∃ w1, w1 = w.alloc (.cells (hs H).toArray 147) := ⟨_, rfl⟩
  have z1 : HAt w1 r H := by unfold HAt; rw [hw1, hr]; exact heap_alloc_new w _
  have b1 : Below r w w1 := by rw [hw1, hr]; exact (Below.refl _ _).alloc (Nat.le_refl _) _
  have HZ := Lib.hid (And.intro z1 b1)
  have HL := fun k => Lib.hid (trC_le H k)
  rw [← hr]
  clear z1 b1
  go_enter Try.func90, Try.ntmps90
  go_upto_region 2 with fail
  rw [← hw1, ← hr]
  clear hw1 hr
  go_wp2
  go_loopg [3, 8] 3 (fun g m i wr => ∃ (k : Nat), k + g = 3 ∧ m = .int .i64 (trC H k : Nat) ∧ i = .int .i64 k ∧ Aside (wr = w1))
  case atStart => exact ⟨0, by omega, rfl, rfl, rfl⟩
  case round =>
    obtain ⟨k, hkg, rfl, rfl, hw⟩ := hrel
    obtain rfl := hw.out
    clear hw
    cases gk with
    | zero =>
      obtain rfl : k = 3 := by omega
      go_wp2
      go_ret
      exact ⟨rfl, HZ.out.2⟩
    | succ g1 =>
      have hlt : k < 3 := by omega
      have hc := HZ.out.1.cell (10 + k) (by omega)
      have ho := ones_nb (H (10 + k))
      have hl := (HL k).out
      have hw : IntKind.i64.wrap ((trC H k : Nat) + 1) = ((trC H k + 1 : Nat) : Int) := by rw [IntKind.wrap_i64]; omega
      cases hb : (H (10 + k) == BitVec.allOnes 32) with
      | true =>
        rw [hb] at ho
        have HT := Lib.hid (show trC H (k + 1) = trC H k from if_pos hb)
        clear hb hl
        go_wp2
        go_roundg g1
        case measure => omega
        case rel => exact ⟨k + 1, by omega, by rw [HT.out], by go_num, rfl⟩
      | false =>
        rw [hb] at ho
        have HT := Lib.hid (show trC H (k + 1) = trC H k + 1 from if_neg (by rw [hb]; decide))
        clear hb hl
        go_wp2
        go_roundg g1
        case measure => omega
        case rel => exact ⟨k + 1, by omega, by rw [HT.out]; go_num, by go_num, rfl⟩
/-- Where the next trial's word is. -/
def nxN (H : Nat → BitVec 32) : Nat := if H 10 = BitVec.allOnes 32 then 10 else if H 11 = BitVec.allOnes 32 then 11 else if H 12 = BitVec.allOnes 32 then 12 else 0
def nxB (H : Nat → BitVec 32) : Bool := H 10 == BitVec.allOnes 32 || (H 11 == BitVec.allOnes 32 || H 12 == BitVec.allOnes 32)
theorem nx_yes {H : Nat → BitVec 32} {k : Nat} (hk : k < 3) (h0 : ∀ i, i < k → (H (10 + i) == BitVec.allOnes 32) = false) (h : (H (10 + k) == BitVec.allOnes 32) = true) : nxN H = 10 + k ∧ nxB H = true := by
  have h : H (10 + k) = BitVec.allOnes 32 := by simpa using h
  have h0 : ∀ i, i < k → ¬ H (10 + i) = BitVec.allOnes 32 := fun i hi => by simpa using h0 i hi
  obtain rfl | rfl | rfl : k = 0 ∨ k = 1 ∨ k = 2 := by omega
  · have h : H 10 = BitVec.allOnes 32 := h
    unfold nxN nxB; rw [if_pos h]; exact ⟨rfl, by simp [h]⟩
  · have h : H 11 = BitVec.allOnes 32 := h
    have a0 : ¬ H 10 = BitVec.allOnes 32 := h0 0 (by omega)
    unfold nxN nxB; rw [if_neg a0, if_pos h]; exact ⟨rfl, by simp [h]⟩
  · have h : H 12 = BitVec.allOnes 32 := h
    have a0 : ¬ H 10 = BitVec.allOnes 32 := h0 0 (by omega)
    have a1 : ¬ H 11 = BitVec.allOnes 32 := h0 1 (by omega)
    unfold nxN nxB; rw [if_neg a0, if_neg a1, if_pos h]; exact ⟨rfl, by simp [h]⟩
theorem nx_no {H : Nat → BitVec 32} (h0 : ∀ i, i < 3 → (H (10 + i) == BitVec.allOnes 32) = false) : nxN H = 0 ∧ nxB H = false := by
  have a0 : (H 10 == BitVec.allOnes 32) = false := h0 0 (by omega)
  have a1 : (H 11 == BitVec.allOnes 32) = false := h0 1 (by omega)
  have a2 : (H 12 == BitVec.allOnes 32) = false := h0 2 (by omega)
  unfold nxN nxB
  rw [a0, a1, a2, if_neg (by simpa using a0), if_neg (by simpa using a1), if_neg (by simpa using a2)]
  exact ⟨rfl, rfl⟩
set_option maxHeartbeats 1000000 in
theorem hnext_any (n b off cap : Nat) (sp : Option Addr) (l : Nat → BitVec 32) (w : World) (hn : n ≤ 9223372036854775807) (h : Ws w sp b off n l) :
    Calls Try.prog 97 #[.slice sp n cap] w fun e w' => e = .returned (.tuple #[.int .i64 (nxN (atW n l) : Nat), .bool (nxB (atW n l))]) ∧ Below w.heap.size w w' := by
  have HF := Lib.hid (filled_any n b off cap sp l w hn h)
  obtain ⟨H, hH⟩ : ∃ H, atW n l = H := ⟨_, rfl⟩
  rw [hH] at HF ⊢
  clear h hH
  go_enter Try.func97, Try.ntmps97
  go_wp2_with fail
  refine HF.out.mono ?_
  rintro e w1 ⟨rfl, hb⟩
  obtain ⟨r, hr⟩ : ∃ r, r = w1.heap.size := ⟨_, rfl⟩
  obtain ⟨w2, hw2⟩ : ∃ w2, w2 = w1.alloc (.cells #[.int .u32 0, .int .u32 0, .int .u32 0, .int .u32 0, .int .u32 0, .int .u32 0, .int .u32 0, .int .u32 0, .int .u32 0, .int .u32 0, .int .u32 0, .int .u32 0, .int .u32 0] 147) := ⟨_, rfl⟩
  have z2 : HAt w2 r z13 := by unfold HAt; rw [hs_zero, hw2, hr]; exact heap_alloc_new w1 _
  have HZ2 := Lib.hid z2
  have z3 : HAt (w2.setRow r (hs H).toArray) r H := setRow_heap _ _ _ _ 147 (0, 0) z2
  have b2 : Below w.heap.size w w2 := hb.trans (by rw [hw2]; exact (Below.refl _ _).alloc hb.size _)
  have b3 : Below w.heap.size w (w2.setRow r (hs H).toArray) := below_setRow b2 (by rw [hr]; exact hb.size) _
  obtain ⟨w3, hw3⟩ : ∃ w3, w3 = w2.setRow r (hs H).toArray := ⟨_, rfl⟩
  rw [← hw3] at z3 b3
  have HZ := Lib.hid (And.intro z3 b3)
  clear hb z2 b2 z3 b3
  go_upto_region 2 with (first | (rw [← hw2, ← hr]; refine wpList_store_row rfl 147 (.tmp 4) (.tmp 8) rfl r (hs H).toArray rfl rfl 147 _ HZ2.out (by rw [info73]; simp [hs_len]) (by simp [hs_len]) (all_oneCell_toArray (hs_one _)) ?_) | fail)
  rw [← hw3]
  clear hw2 hw3 hr
  go_wp2
  go_loopg [11] 3 (fun g i wr => ∃ (k : Nat), k + g = 3 ∧ i = .int .i64 k ∧ Aside (∀ j, j < k → (H (10 + j) == BitVec.allOnes 32) = false) ∧ Aside (wr = w3))
  case atStart => exact ⟨0, by omega, rfl, fun j hj => by omega, rfl⟩
  case round =>
    obtain ⟨k, hkg, rfl, HN, hw⟩ := hrel
    obtain rfl := hw.out
    clear hw
    cases gk with
    | zero =>
      obtain rfl : k = 3 := by omega
      have HE := Lib.hid (nx_no HN.out)
      go_wp2
      go_ret2
      exact ⟨by rw [HE.out.1, HE.out.2]; rfl, HZ.out.2⟩
    | succ g1 =>
      have hlt : k < 3 := by omega
      have hc := HZ.out.1.cell (10 + k) (by omega)
      have ho := ones_b (H (10 + k))
      cases hb : (H (10 + k) == BitVec.allOnes 32) with
      | true =>
        rw [hb] at ho
        have HE := Lib.hid (nx_yes hlt HN.out hb)
        have hw : IntKind.i64.wrap (10 + (k : Int)) = ((10 + k : Nat) : Int) := by rw [IntKind.wrap_i64]; omega
        clear hb
        go_wp2
        go_ret2
        exact ⟨by rw [HE.out.1, HE.out.2]; rfl, HZ.out.2⟩
      | false =>
        rw [hb] at ho
        have HB := Lib.hid hb
        clear hb
        go_wp2
        go_roundg g1
        case measure => omega
        case rel =>
          refine ⟨k + 1, by omega, by go_num, fun j hj => ?_, rfl⟩
          by_cases e : j = k
          · subst e; exact HB.out
          · exact HN.out j (by omega)
end Go.Proofs.Ythpagbfabpfngaa
