/- The contract of slices.Repeat, of one word: the row that it gives is the caller's own. -/
import Derived.Test.YthpagbfabpfngaaFH
import Derived.Laws.MakeOwn
import Derived.Laws.OwnMore
import Derived.Laws.CopyOwn
import Derived.Laws.Bits64b
namespace Go.Proofs.Ythpagbfabpfngaa
open Go.RowKit
attribute [local go_sem] Oper.semAt_some

/-- The first k of the m words are x. -/
def FillB (base B m x k : Nat) (W : World) : Prop := ∃ L : List Value, W.ownsRow base 26 1 (.slice (some ⟨B, 0, none⟩) m m) m L ∧ L.length = m ∧ ∀ j, j < k → L[j]? = some (.int .u32 (x : Int))
theorem FillB.at {base B m x k : Nat} {W : World} (h : FillB base B m x k W) (hk : k < m) : ∃ v, W.cell? ⟨B, k, none⟩ = some v ∧ W.frozen? ⟨B, k, none⟩ = false := by
  obtain ⟨L, h1, h2, -⟩ := h
  have h3 := h1.cellAt k (by omega)
  rw [List.getElem?_eq_getElem (by omega)] at h3
  exact ⟨_, h3, h1.frozenAt k⟩
theorem FillB.put {base B m x k : Nat} {W : World} (h : FillB base B m x k W) (hk : k < m) : FillB base B m x (k + 1) (W.setCell ⟨B, k, none⟩ (.int .u32 (x : Int))) := by
  obtain ⟨L, h1, h2, h3⟩ := h
  refine ⟨L.set k (.int .u32 (x : Int)), (h1.stored k _).1, by simpa using h2, fun j hj => ?_⟩
  by_cases e : j = k
  · subst e; rw [List.getElem?_set_self (by omega)]
  · rw [List.getElem?_set_ne (by omega)]; exact h3 j (by omega)
theorem mul64_two (y : Nat) (hy : y < 4294967296) (w : World) :
    Calls Try.prog 105 #[.int .u64 1, .int .u64 y] w fun e w' => e = .returned (.tuple #[.int .u64 0, .int .u64 y]) ∧ w' = w := by
  have h1 : bits .and .u64 1 4294967295 = 1 := by decide
  have h2 : bits .and .u64 (y : Int) 4294967295 = (y : Int) := by
    have h := bits_and_u64_nat y 4294967295 (by omega) (by omega)
    have e : y &&& 4294967295 = y % 4294967296 := Nat.and_two_pow_sub_one_eq_mod y 32
    rw [e, Nat.mod_eq_of_lt hy] at h
    exact h
  have h3 : (y : Int) / 4294967296 = 0 := by omega
  have h4 : bits .and .u64 0 4294967295 = 0 := by decide
  have h5 : IntKind.u64.wrap (y : Int) = (y : Int) := by rw [IntKind.wrap_u64]; omega
  go_enter Try.func105, Try.ntmps105
  go_wp2
  go_ret2
  exact ⟨rfl, rfl⟩
theorem mul_two (y : Nat) (hy : y < 4294967296) (w : World) :
    Calls Try.prog 75 #[.int .u64 1, .int .u64 y] w fun e w' => e = .returned (.tuple #[.int .u64 0, .int .u64 y]) ∧ w' = w := by
  go_enter Try.func75, Try.ntmps75
  go_wp2_with (go_at_call 105; refine (mul64_two y hy _).mono ?_; rintro e w' ⟨rfl, rfl⟩)
  go_ret2
  exact ⟨rfl, rfl⟩

theorem FillB.row {base B m x k : Nat} {W : World} (h : FillB base B m x k W) : ∃ L : List Value, W.heap[B]? = some (.cells L.toArray 26 (0, 0)) ∧ L.length = m ∧ ∀ j, j < k → L[j]? = some (.int .u32 (x : Int)) := by
  obtain ⟨L, h1, h2, h3⟩ := h
  rcases h1.2 with ⟨h4, -⟩ | ⟨g, cap, cur, h4, h5, h6, h7, h8, h9, h10⟩
  · cases h4
  · injection h4 with e1 e2 e3
    injection e1 with e1
    injection e1 with e1
    subst e1 e3
    refine ⟨L, ?_, h2, h3⟩
    have hc : cur = L.toArray := by
      rw [← h10, List.take_of_length_le (by simpa using Nat.le_of_eq h9)]
    rw [h6, hc]
theorem FillB.of {base B m x k : Nat} {W : World} {L : List Value} (hb : base ≤ B) (hm : m ≤ maxLen) (h : W.heap[B]? = some (.cells L.toArray 26 (0, 0))) (hl : L.length = m) (h3 : ∀ j, j < k → L[j]? = some (.int .u32 (x : Int))) : FillB base B m x k W := by
  refine ⟨L, ⟨by omega, .inr ⟨B, m, L.toArray, rfl, hb, h, Nat.le_refl _, hm, by simpa using hl, ?_⟩⟩, hl, h3⟩
  rw [List.take_of_length_le (by simp; omega)]
theorem splice_two {m x k c : Nat} {L : List Value} (hl : L.length = m) (hk : k + c ≤ m) (h3 : ∀ j, j < k → L[j]? = some (.int .u32 (x : Int))) : ∀ j, j < k + c → (splice L k (List.replicate c (.int .u32 (x : Int))))[j]? = some (.int .u32 (x : Int)) := by
  intro j hj
  unfold splice
  by_cases h : j < k
  · rw [List.getElem?_append_left (by rw [List.length_take]; omega), List.getElem?_take_of_lt h]; exact h3 j h
  · rw [List.getElem?_append_right (by rw [List.length_take]; omega), List.length_take, Nat.min_eq_left (by omega), List.getElem?_append_left (by rw [List.length_replicate]; omega), List.getElem?_replicate, if_pos (by omega)]
theorem cells_two {W : World} {B j : Nat} {L : List Value} (h : W.heap[B]? = some (.cells L.toArray 26 (0, 0))) (hj : j < L.length) : W.cell? ⟨B, j, none⟩ = L[j]? := by
  unfold World.cell?
  rw [h]
  simp [hj]
theorem size_two : (Try.prog.info? 26).map (·.size) = some 1 := by kernel_rfl
theorem one_two (c x : Nat) : ∀ v ∈ List.replicate c (Value.int .u32 (x : Int)), v.oneCell' = true := by
  intro v hv
  rw [List.eq_of_mem_replicate hv]; rfl

set_option maxRecDepth 100000 in
theorem repeat_two (x n : Nat) (b off capx : Nat) (w : World) (hc : w.cell? ⟨b, off, none⟩ = some (.int .u32 (x : Int))) (hn : n ≤ 4096) :
    Calls Try.prog 40 #[.slice (some ⟨b, off, none⟩) 1 capx, .int .i64 n] w fun e w' => e = .returned (.slice (some ⟨w.heap.size, 0, none⟩) n n) ∧ FillB w.heap.size w.heap.size n x n w' ∧ Below w.heap.size w w' := by
  obtain ⟨i0, hi, hz0, hz1, hz2⟩ := info_parts infoB
  obtain ⟨w1, hmk, hown, hgr⟩ := run_makeSlice_full (P := Try.prog) w w.heap.size 24 26 i0 (.int .u32 0) 1 Try.underlying24 hi hz0 hz1 .i64 .i64 n (by omega) (by rw [hz2]; omega) (by unfold maxLen; omega) (Nat.le_refl _)
  have hF : FillB w.heap.size w.heap.size n x 0 w1 := ⟨_, hown, by simp [size_madeCells], fun j hj => by omega⟩
  have hB : Below w.heap.size w w1 := (Below.refl _ w).grown hgr (Nat.le_refl _) (fun k hk => by simp at hk)
  obtain ⟨L1, hL1, hL2, -⟩ := hF.row
  have hblt : b < w.heap.size := by have := World.block_lt_of_cell? w _ hc; simpa using this
  have hc1 : w1.cell? ⟨b, off, none⟩ = some (.int .u32 (x : Int)) := (hB.cell (p := ⟨b, off, none⟩) hblt).trans hc
  obtain ⟨c1, hc1e⟩ : ∃ c1, Nat.min 1 n = c1 := ⟨_, rfl⟩
  have hc1n : c1 ≤ 1 ∧ c1 ≤ n ∧ (n = 0 ∨ c1 = 1) := by
    have h : min 1 n = c1 := hc1e
    omega
  have HCN := Lib.hid hc1n
  have HCL := Lib.hid (show (List.replicate c1 (Value.int .u32 (x : Int))).length = Nat.min 1 n by rw [List.length_replicate, hc1e])
  have HC1 := Lib.hid (show ∀ j v, (List.replicate c1 (Value.int .u32 (x : Int)))[j]? = some v → w1.cell? ((⟨b, off, none⟩ : Addr).add j) = some v by
    intro j v hv
    obtain ⟨hj, hv2⟩ := List.getElem?_eq_some_iff.1 hv
    rw [List.getElem_replicate] at hv2
    rw [List.length_replicate] at hj
    obtain rfl : j = 0 := by omega
    rw [show (⟨b, off, none⟩ : Addr).add 0 = ⟨b, off, none⟩ from Addr.add_lit ..]; exact hc1.trans (congrArg some hv2))
  obtain ⟨B, hBe⟩ : ∃ B, w.heap.size = B := ⟨_, rfl⟩
  rw [hBe] at hmk hL1 hB ⊢
  have HM := Lib.hid (And.intro hBe (And.intro hL1 (And.intro hL2 hB)))
  have HN := Lib.hid hn
  have HFi := Lib.hid (show 0 + (List.replicate c1 (Value.int .u32 (x : Int))).length ≤ L1.length by rw [List.length_replicate, hL2]; omega)
  have n1 : (0 : Int) ≤ (n : Int) := by omega
  have n3 : IntKind.u64.wrap (n : Int) = (n : Int) := by rw [IntKind.wrap_u64]; omega
  have n4 : IntKind.i64.wrap (n : Int) = (n : Int) := by rw [IntKind.wrap_i64]; omega
  have n5 : decide ((9223372036854775807 : Int) < (n : Int)) = false := by rw [decide_eq_false_iff_not]; omega
  have hsz1 := size_two
  clear hown hgr hF hB hBe hn hL1 hL2 hc hc1 hblt hc1e hc1n
  go_enter Try.func40, Try.ntmps40
  go_wp2_with (first
    | (go_at_call 75; refine (mul_two n (by have := HN.out; omega) _).mono ?_; rintro e w' ⟨rfl, hw⟩; subst hw)
    | (with_reducible refine wpList_copy_splice rfl (.tmp 31) (.tmp 32) 24 24 rfl 26 Try.underlying24 hsz1 _ _ _ _ _ _ rfl rfl B 0 L1 26 HM.out.2.1 (List.replicate c1 (.int .u32 (x : Int))) HCL.out (fun _ => ⟨rfl, _, rfl, HC1.out⟩) HFi.out (one_two _ _) B _ HM.out.2.2.2 (Nat.le_refl _) ?_; intro w4 hg4 hb4))
  have hF1 : FillB B B n x c1 w4 := FillB.of (Nat.le_refl _) (by have := HN.out; unfold maxLen; omega) hg4 (by rw [length_splice _ _ _ HFi.out]; exact HM.out.2.2.1) (fun j hj => by have := splice_two (k := 0) (x := x) (c := c1) HM.out.2.2.1 (by have := HCN.out; omega) (fun j hj => by omega) j (by omega); exact this)
  have HF1 := Lib.hid (And.intro hF1 hb4)
  clear hF1 hb4 hg4 hmk
  go_loopg [8] (n - c1) (fun g v wr => ∃ k : Nat, k + g = n ∧ v = .int .i64 k ∧ Aside (FillB B B n x k wr ∧ (n = 0 ∨ 0 < k) ∧ Below B w' wr))
  case atStart => exact ⟨c1, by have := HCN.out; omega, rfl, HF1.out.1, by have := HCN.out; omega, HF1.out.2⟩
  case round =>
    obtain ⟨k, hkg, rfl, HR⟩ := hrel
    by_cases hk : k = n
    · subst hk
      go_wp2
      go_ret
      exact ⟨rfl, HR.out.1, HR.out.2.2⟩
    · have hk1 : (k : Int) < (n : Int) := by omega
      have hk0 : (0 : Int) ≤ (k : Int) := by omega
      have hk3 : (k : Int) ≤ (n : Int) := by omega
      have hk4 : ¬ n = k := by omega
      have hk2 : 0 < k := by have := HR.out.2.1; omega
      obtain ⟨c, hcd⟩ : ∃ c, Nat.min k (n - k) = c := ⟨_, rfl⟩
      have hc3 : c ≤ k ∧ k + c ≤ n ∧ 0 < c := by
        have h : min k (n - k) = c := hcd
        omega
      obtain ⟨L, hL1, hL2, hL3⟩ := HR.out.1.row
      have HL := Lib.hid (And.intro hL1 (And.intro hL2 hL3))
      have HC := Lib.hid (And.intro hcd hc3)
      have HS := Lib.hid (show ∀ j v, (List.replicate c (Value.int .u32 (x : Int)))[j]? = some v → wr.drew.cell? ((⟨B, 0, none⟩ : Addr).add j) = some v by
        intro j v hv
        obtain ⟨hj, hv2⟩ := List.getElem?_eq_some_iff.1 hv
        rw [List.getElem_replicate] at hv2
        rw [List.length_replicate] at hj
        rw [show (⟨B, 0, none⟩ : Addr).add j = ⟨B, 0 + j, none⟩ from Addr.add_lit .., Nat.zero_add, ← hv2]
        have h1 := HR.out.1.row
        obtain ⟨L', h2, h3, h4⟩ := h1
        refine (cells_two h2 (by omega)).trans (h4 j (by omega)))
      have HLE := Lib.hid (show (List.replicate c (Value.int .u32 (x : Int))).length = Nat.min k (n - k) by rw [List.length_replicate, hcd])
      have HFT := Lib.hid (show k + (List.replicate c (Value.int .u32 (x : Int))).length ≤ L.length by rw [List.length_replicate, hL2]; exact hc3.2.1)
      have mixed : Try.prog.follows .mixedOrders = true := by kernel_rfl
      clear hcd hc3 hL1 hL2 hL3
      go_wp2
      go_region_held3 (fun _ => True) (first | exact trivial | go_keep)
        (first
         | (refine step_copy_splice rfl (.tmp 41) (.tmp 44) 24 24 rfl 26 Try.underlying24 hsz1 _ _ _ _ _ _ rfl rfl B k L 26 HL.out.1 (List.replicate c (.int .u32 (x : Int))) HLE.out (fun _ => ⟨rfl, _, rfl, HS.out⟩) HFT.out (one_two _ _) B _ HR.out.2.2.drew (Nat.le_refl _) ?_
            intro w5 hg5 hb5)
         | fail)
      have hF5 : FillB B B n x (k + c) w5 := FillB.of (Nat.le_refl _) (by have := HN.out; unfold maxLen; omega) hg5 (by rw [length_splice _ _ _ HFT.out]; exact HL.out.2.1) (splice_two HL.out.2.1 HC.out.2.2.1 HL.out.2.2)
      have HF5 := Lib.hid (And.intro hF5 hb5)
      clear hF5 hb5 hg5
      have hcw : IntKind.i64.wrap ((k : Int) + (c : Int)) = ((k + c : Nat) : Int) := by rw [IntKind.wrap_i64]; have := HC.out.2.2.1; have := HN.out; omega
      rw [hcw]
      go_wp2
      go_roundg (n - (k + c))
      case measure => have := HC.out.2.2.2; omega
      case rel => exact ⟨k + c, by have := HC.out.2.2.1; omega, rfl, HF5.out.1, .inr (by have := HC.out.2.2.2; omega), HF5.out.2⟩
end Go.Proofs.Ythpagbfabpfngaa
