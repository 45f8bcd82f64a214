/- The contract of flash's operate. -/
import Derived.Test.YthpagbfabpfngaaFD
namespace Go.Proofs.Ythpagbfabpfngaa
open Go.RowKit

/-- An operation: the device behind it, and whether the power goes in it. -/
def Dev.goes (d : Dev) : Dev × Bool :=
  if d.armed then (if 0 < d.after then ({ d with ops := d.ops + 1, after := d.after - 1 }, false) else ({ d with ops := d.ops + 1, on := false, armed := false }, true))
  else ({ d with ops := d.ops + 1 }, false)
def Dev.mask (d : Dev) : BitVec 32 := if d.goes.2 then sd d.seed else 0#32
/-- Its numbers are such that nothing wraps. -/
def Dev.ok (d : Dev) : Prop := 0 ≤ d.ops ∧ d.ops ≤ 1000000 ∧ -9223372036854775808 ≤ d.after ∧ d.after ≤ 9223372036854775807
variable {w w' : World} {q S : Nat} {g : Nat → Nat} {d : Dev}

theorem DevAt.own_lt (h : DevAt w q S g d) : ∀ j, OwnD q S g d.ns j → j < w.heap.size := by
  intro j hj
  rcases hj with rfl | rfl | ⟨i, hi, rfl⟩
  · have := World.block_lt_of_cell? w _ h.c0; simpa using this
  · have := World.block_lt_of_cell? w _ (h.cs 0 h.zn.2.2.1); simpa using this
  · have := World.block_lt_of_cell? w _ (h.cg i 0 hi h.zn.2.2.2); simpa using this
/-- A store into a block that is none of a device's. -/
theorem DevAt.aside (h : DevAt w q S g d) {N : Nat} {u : Value} (hc : w.cell? ⟨N, 0, none⟩ = some u) (hN : ¬ OwnD q S g d.ns N) (v : Value) : DevAt (w.setCell ⟨N, 0, none⟩ v) q S g d ∧ (w.setCell ⟨N, 0, none⟩ v).cell? ⟨N, 0, none⟩ = some v :=
  ⟨h.keep (T := fun j => j = N) ((Ch.refl _ _).setCell _ _ (.inl rfl)) (fun _ hj e => hN (e ▸ hj)), World.cell?_setCell_same _ _ _ hc⟩

theorem operate_any (h : DevAt w q S g d) (ho : d.ok) : Calls Try.prog 120 #[.pointer (some ⟨q, 0, none⟩)] w fun e w' => e = .returned (.tuple #[.agg #[.int .u32 (w32 d.mask)], .bool d.goes.2]) ∧ DevAt w' q S g d.goes.1 ∧ Ch (OwnD q S g d.ns) w w' := by
  obtain ⟨o1, o2, o3, o4⟩ := ho
  have hA := h.new ((Below.refl w.heap.size w).alloc (Nat.le_refl _) (.cells #[.int .u32 0] 186))
  have c4 := hA.c4
  have c5 := hA.c5
  have c6 := hA.c6
  have f3 := hA.fq 3
  have f4 := hA.fq 4
  have f5 := hA.fq 5
  have f6 := hA.fq 6
  have hqN : ¬ q = w.heap.size := by have h1 := World.block_lt_of_cell? w _ h.c0; have h2 : q < w.heap.size := by simpa using h1
                                     omega
  have hqN2 : ¬ w.heap.size = q := fun e => hqN e.symm
  have p0 : (w.alloc (.cells #[.int .u32 0] 186)).cell? ⟨w.heap.size, 0, none⟩ = some (.int .u32 0) := by simp [go_sem]
  have HA := Lib.hid (And.intro hA (And.intro (fun (e : OwnD q S g d.ns w.heap.size) => Nat.lt_irrefl _ (h.own_lt _ e)) p0))
  clear hA p0
  have w1 : IntKind.i64.wrap (d.ops + 1) = d.ops + 1 := by rw [IntKind.wrap_i64]; omega
  have HH := Lib.hid h
  unfold Dev.mask Dev.goes
  cases ha : d.armed with
  | false =>
    rw [ha] at c5
    clear h o1 o2 o3 o4
    go_enter Try.func120, Try.ntmps120
    go_wp2
    have h1 := HA.out.1.setQ 4 (.int .i64 (d.ops + 1)) { d with ops := d.ops + 1 } (by omega) rfl rfl rfl rfl rfl
    have h2 := h1.aside (N := w.heap.size) (World.cell?_setCell_other _ _ _ _ (fun e => hqN (by injection e)) |>.trans HA.out.2.2) HA.out.2.1 (.int .u32 0)
    refine ⟨rfl, .tuple #[.agg #[.int .u32 0], .bool false], ?_, rfl, ?_, ?_⟩
    · simp [results, Try.results120, go_sem, h2.2]
    · rw [← ha]; exact h2.1
    · exact (((Ch.new ((Below.refl w.heap.size w).alloc (Nat.le_refl _) _)).trans (ownD_q _ _)).setCell _ _ (.inr (Nat.le_refl _)))
  | true =>
    rw [ha] at c5
    by_cases h0 : 0 < d.after
    · have w2 : IntKind.i64.wrap (d.after - 1) = d.after - 1 := by rw [IntKind.wrap_i64]; omega
      rw [if_pos rfl, if_pos h0]
      clear h o1 o2 o3 o4
      go_enter Try.func120, Try.ntmps120
      go_wp2
      have h1 := HA.out.1.setQ 4 (.int .i64 (d.ops + 1)) { d with ops := d.ops + 1 } (by omega) rfl rfl rfl rfl rfl
      have h1b := h1.setQ 6 (.int .i64 (d.after - 1)) { d with ops := d.ops + 1, after := d.after - 1 } (by omega) rfl rfl rfl rfl rfl
      have h2 := h1b.aside (N := w.heap.size) (World.cell?_setCell_other _ _ _ _ (fun e => hqN (by injection e)) |>.trans (World.cell?_setCell_other _ _ _ _ (fun e => hqN (by injection e)) |>.trans HA.out.2.2)) HA.out.2.1 (.int .u32 0)
      refine ⟨rfl, .tuple #[.agg #[.int .u32 0], .bool false], ?_, rfl, ?_, ?_⟩
      · simp [results, Try.results120, go_sem, h2.2]
      · rw [← ha]; exact h2.1
      · exact ((((Ch.new ((Below.refl w.heap.size w).alloc (Nat.le_refl _) _)).trans (ownD_q _ _)).trans (ownD_q _ _)).setCell _ _ (.inr (Nat.le_refl _)))
    · rw [if_pos rfl, if_neg h0]
      have c3 := HA.out.1.c3
      have c7 := HA.out.1.c7
      clear h o1 o2 o3 o4
      go_enter Try.func120, Try.ntmps120
      go_wp2_with (go_at_call 127; refine (seeded_any _ _).mono ?_; rintro e w' ⟨rfl, rfl⟩)
      have h1 := HA.out.1.setQ 4 (.int .i64 (d.ops + 1)) { d with ops := d.ops + 1 } (by omega) rfl rfl rfl rfl rfl
      have h1b := h1.setQ 3 (.bool false) { d with ops := d.ops + 1, on := false } (by omega) rfl rfl rfl rfl rfl
      have h1c := h1b.setQ 5 (.bool false) { d with ops := d.ops + 1, on := false, armed := false } (by omega) rfl rfl rfl rfl rfl
      have h2 := h1c.aside (N := w.heap.size) (World.cell?_setCell_other _ _ _ _ (fun e => hqN (by injection e)) |>.trans (World.cell?_setCell_other _ _ _ _ (fun e => hqN (by injection e)) |>.trans (World.cell?_setCell_other _ _ _ _ (fun e => hqN (by injection e)) |>.trans HA.out.2.2))) HA.out.2.1 (.int .u32 (w32 (sd d.seed)))
      have hb := (Below.refl _ _).alloc (Nat.le_refl _) (w := ((((w.alloc (.cells #[.int .u32 0] 186)).setCell ⟨q, 4, none⟩ (.int .i64 (d.ops + 1))).setCell ⟨q, 3, none⟩ (.bool false)).setCell ⟨q, 5, none⟩ (.bool false)).setCell ⟨w.heap.size, 0, none⟩ (.int .u32 (w32 (sd d.seed)))) (.cells #[.int .u32 (w32 (sd d.seed))] 186)
      have h3 := h2.1.new hb
      refine ⟨rfl, .tuple #[.agg #[.int .u32 (w32 (sd d.seed))], .bool true], ?_, rfl, h3, ?_⟩
      · simp [results, Try.results120, go_sem]
      · exact ((((((Ch.new ((Below.refl w.heap.size w).alloc (Nat.le_refl _) _)).trans (ownD_q _ _)).trans (ownD_q _ _)).trans (ownD_q _ _)).setCell _ _ (.inr (Nat.le_refl _))).trans (Ch.new hb))
end Go.Proofs.Ythpagbfabpfngaa
