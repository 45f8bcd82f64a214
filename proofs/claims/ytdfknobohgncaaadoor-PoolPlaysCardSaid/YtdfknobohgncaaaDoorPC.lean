/- The contract of pool's Put. -/
import Derived.Test.YtdfknobohgncaaaDoorPB
import Derived.Deep.CutRange
import Derived.Deep.CutBlock
import Derived.BigQuiet
import Derived.Deep.QuietTactic
namespace Go.Proofs.YtdfknobohgncaaaDoor
open Go.RowKit

set_option maxHeartbeats 2000000 in
theorem put_bad {w : World} {B : Nat} {F U : BitVec 32} {g : Nat → Int} {lo : Int} (h : PAt w B F U g lo) (b y : Int) (hg : good U g b y = false) :
    Calls Tryd.prog 16 #[.pointer (some ⟨B, 0, none⟩), .agg #[.int .i64 b, .int .i64 y]] w fun e w' => e = .returned (.int .i64 80) ∧ Below w.heap.size w w' := by
  have b1 : Below w.heap.size w (w.alloc (.cells #[.int .i64 b, .int .i64 y] 50)) := (Below.refl _ _).alloc (Nat.le_refl _) _
  have HG := Lib.hid (good_any (h.new b1) b y)
  rw [hg] at HG
  have HB := Lib.hid b1
  have HE := Lib.hid (show ∀ w2, Below (w.alloc (.cells #[.int .i64 b, .int .i64 y] 50)).heap.size (w.alloc (.cells #[.int .i64 b, .int .i64 y] 50)) w2 → Below w.heap.size w w2 from fun w2 hb => b1.trans (hb.mono (by rw [size_add]; omega)))
  clear h hg b1
  go_enter Tryd.func16, Tryd.ntmps16
  go_wp2_with (go_at_call 15; refine HG.out.mono ?_; rintro e w2 ⟨rfl, b2⟩; have H2 := Lib.hid (HE.out _ b2); clear b2)
  go_ret
  exact ⟨rfl, H2.out⟩
set_option maxHeartbeats 2000000 in
theorem put_good {w : World} {B : Nat} {F U : BitVec 32} {g : Nat → Int} {lo : Int} (h : PAt w B F U g lo) (b y : Int) (hg : good U g b y = true) :
    Calls Tryd.prog 16 #[.pointer (some ⟨B, 0, none⟩), .agg #[.int .i64 b, .int .i64 y]] w fun e w' => e = .returned (.int .i64 0) ∧ PAt w' B (F ||| onl b) (U &&& ~~~onl b) g lo ∧ Ch (fun j => j = B) w w' := by
  have hB := h.lt
  obtain ⟨z, hz⟩ : ∃ z, z = w.heap.size := ⟨_, rfl⟩
  obtain ⟨w1, hw1⟩ : ∃ w1, w1 = w.alloc (.cells #[.int .i64 b, .int .i64 y] 50) := ⟨_, rfl⟩
  have b1 : Below w.heap.size w w1 := by rw [hw1]; exact (Below.refl _ _).alloc (Nat.le_refl _) _
  have hx : BoxAt w1 z [.int .i64 b, .int .i64 y] := by rw [hw1, hz]; exact BoxAt.mk_new w _ _
  have e0 := hx.cell 0 _ rfl
  have e1 := hx.cell 1 _ rfl
  have HG := Lib.hid (good_any (h.new b1) b y)
  rw [hg] at HG
  have H1 := Lib.hid (And.intro (h.new b1) (And.intro b1 (And.intro hx (show B < z by omega))))
  clear h hg b1 hx
  go_enter Tryd.func16, Tryd.ntmps16
  go_upto_region 1 with fail
  rw [← hw1, ← hz]
  clear hw1 hz
  go_upto_region 3 with (go_at_call 15; refine HG.out.mono ?_; rintro e w2 ⟨rfl, b2⟩; have H2 := Lib.hid (And.intro (H1.out.1.new b2) (And.intro (H1.out.2.1.trans (b2.mono H1.out.2.1.size)) (H1.out.2.2.1.new b2))); clear b2)
  have c0 := H2.out.1.c0
  have c1 := H2.out.1.c1
  have f0 := H2.out.1.frozen 0
  have f1 := H2.out.1.frozen 1
  have d0 := H2.out.2.2.cell 0 _ rfl
  have HS4 := Lib.hid (show ((w2.drew).setCell ⟨B, 0, none⟩ (.int .u32 (w32 (F ||| onl b)))).cell? ⟨B, 1, none⟩ = some (.int .u32 (w32 U)) ∧ ((w2.drew).setCell ⟨B, 0, none⟩ (.int .u32 (w32 (F ||| onl b)))).cell? ⟨z, 0, none⟩ = some (.int .i64 b) from
    ⟨(H2.out.1.dn 1).setF (F ||| onl b) |>.c1, ((H2.out.2.2.new (below_dn (Below.refl _ _) 1)).other ⟨B, 0, none⟩ _ (by have := H1.out.2.2.2; show B ≠ z; omega)).cell 0 _ rfl⟩)
  clear e0 e1
  refine wp_region_g (fun w' => w'.cell? ⟨B, 1, none⟩ = some (.int .u32 (w32 U)) ∧ w'.cell? ⟨z, 0, none⟩ = some (.int .i64 b)) 21 (by kernel_rfl) ⟨c1, d0⟩ (fun hS => ?_)
  refine wpAnyG_take (i := 0) (oi := { dst := some 9, op := .move (.tmp 0), type := 42, pos := "pool.go:60", after := #[], guard := none }) (v := ?_) rfl (by kernel_rfl) (by kernel_rfl) (by kernel_rfl) (by kernel_rfl) (fun _ _ _ h => h) (Or.inl ⟨by rfl, ?_⟩) hS ?_
  rotate_left 1
  · intro w hw; obtain ⟨s0, s1⟩ := hw; go_simp; try (with_reducible rfl)
  simp only [Act.put, List.setIfInBounds_toArray, List.set_cons_zero, List.set_cons_succ]
  refine wpAnyG_take (i := 1) (oi := { dst := some 10, op := .move (.tmp 0), type := 42, pos := "pool.go:60", after := #[{ on := 18, ground := .gcOnly Go.Departure.lateStores }], guard := none }) (v := ?_) rfl (by kernel_rfl) (by kernel_rfl) (by kernel_rfl) (by kernel_rfl) (fun _ _ _ h => h) (Or.inl ⟨by rfl, ?_⟩) hS ?_
  rotate_left 1
  · intro w hw; obtain ⟨s0, s1⟩ := hw; go_simp; try (with_reducible rfl)
  simp only [Act.put, List.setIfInBounds_toArray, List.set_cons_zero, List.set_cons_succ]
  refine wpAnyG_take (i := 2) (oi := { dst := some 11, op := .move (.tmp 0), type := 42, pos := "pool.go:60", after := #[], guard := none }) (v := ?_) rfl (by kernel_rfl) (by kernel_rfl) (by kernel_rfl) (by kernel_rfl) (fun _ _ _ h => h) (Or.inl ⟨by rfl, ?_⟩) hS ?_
  rotate_left 1
  · intro w hw; obtain ⟨s0, s1⟩ := hw; go_simp; try (with_reducible rfl)
  simp only [Act.put, List.setIfInBounds_toArray, List.set_cons_zero, List.set_cons_succ]
  refine wpAnyG_take (i := 3) (oi := { dst := some 12, op := .nilCheck (.tmp 11), type := 0, pos := "pool.go:60", after := #[{ on := 2, ground := .data }], guard := none }) (v := ?_) rfl (by kernel_rfl) (by kernel_rfl) (by kernel_rfl) (by kernel_rfl) (fun _ _ _ h => h) (Or.inl ⟨by rfl, ?_⟩) hS ?_
  rotate_left 1
  · intro w hw; obtain ⟨s0, s1⟩ := hw; go_simp; try (with_reducible rfl)
  simp only [Act.put, List.setIfInBounds_toArray, List.set_cons_zero, List.set_cons_succ]
  refine wpAnyG_take (i := 4) (oi := { dst := some 13, op := .fieldAddr 67 (.tmp 12) 0, type := 0, pos := "pool.go:60", after := #[{ on := 3, ground := .data }], guard := none }) (v := ?_) rfl (by kernel_rfl) (by kernel_rfl) (by kernel_rfl) (by kernel_rfl) (fun _ _ _ h => h) (Or.inl ⟨by rfl, ?_⟩) hS ?_
  rotate_left 1
  · intro w hw; obtain ⟨s0, s1⟩ := hw; go_simp; try (with_reducible rfl)
  simp only [Act.put, List.setIfInBounds_toArray, List.set_cons_zero, List.set_cons_succ]
  refine wpAnyG_take (i := 6) (oi := { dst := some 15, op := .fieldAddr 50 (.tmp 3) 0, type := 0, pos := "pool.go:60", after := #[], guard := none }) (v := ?_) rfl (by kernel_rfl) (by kernel_rfl) (by kernel_rfl) (by kernel_rfl) (fun _ _ _ h => h) (Or.inl ⟨by rfl, ?_⟩) hS ?_
  rotate_left 1
  · intro w hw; obtain ⟨s0, s1⟩ := hw; go_simp; try (with_reducible rfl)
  simp only [Act.put, List.setIfInBounds_toArray, List.set_cons_zero, List.set_cons_succ]
  refine wpAnyG_take (i := 7) (oi := { dst := some 16, op := .load 3 (.tmp 15), type := 3, pos := "pool.go:60", after := #[{ on := 6, ground := .data }], guard := none }) (v := ?_) rfl (by kernel_rfl) (by kernel_rfl) (by kernel_rfl) (by kernel_rfl) (fun _ _ _ h => h) (Or.inl ⟨by rfl, ?_⟩) hS ?_
  rotate_left 1
  · intro w hw; obtain ⟨s0, s1⟩ := hw; go_simp; try (with_reducible rfl)
  simp only [Act.put, List.setIfInBounds_toArray, List.set_cons_zero, List.set_cons_succ]
  refine wpAnyG_take (i := 9) (oi := { dst := some 18, op := .move (.tmp 0), type := 42, pos := "pool.go:60", after := #[], guard := none }) (v := ?_) rfl (by kernel_rfl) (by kernel_rfl) (by kernel_rfl) (by kernel_rfl) (fun _ _ _ h => h) (Or.inl ⟨by rfl, ?_⟩) hS ?_
  rotate_left 1
  · intro w hw; obtain ⟨s0, s1⟩ := hw; go_simp; try (with_reducible rfl)
  simp only [Act.put, List.setIfInBounds_toArray, List.set_cons_zero, List.set_cons_succ]
  refine wpAnyG_take (i := 10) (oi := { dst := some 19, op := .nilCheck (.tmp 18), type := 0, pos := "pool.go:60", after := #[{ on := 9, ground := .data }], guard := none }) (v := ?_) rfl (by kernel_rfl) (by kernel_rfl) (by kernel_rfl) (by kernel_rfl) (fun _ _ _ h => h) (Or.inl ⟨by rfl, ?_⟩) hS ?_
  rotate_left 1
  · intro w hw; obtain ⟨s0, s1⟩ := hw; go_simp; try (with_reducible rfl)
  simp only [Act.put, List.setIfInBounds_toArray, List.set_cons_zero, List.set_cons_succ]
  refine wpAnyG_take (i := 11) (oi := { dst := some 20, op := .fieldAddr 67 (.tmp 19) 1, type := 0, pos := "pool.go:60", after := #[{ on := 10, ground := .data }], guard := none }) (v := ?_) rfl (by kernel_rfl) (by kernel_rfl) (by kernel_rfl) (by kernel_rfl) (fun _ _ _ h => h) (Or.inl ⟨by rfl, ?_⟩) hS ?_
  rotate_left 1
  · intro w hw; obtain ⟨s0, s1⟩ := hw; go_simp; try (with_reducible rfl)
  simp only [Act.put, List.setIfInBounds_toArray, List.set_cons_zero, List.set_cons_succ]
  refine wpAnyG_take (i := 12) (oi := { dst := some 21, op := .load 24 (.tmp 20), type := 24, pos := "pool.go:60", after := #[{ on := 11, ground := .data }], guard := none }) (v := ?_) rfl (by kernel_rfl) (by kernel_rfl) (by kernel_rfl) (by kernel_rfl) (fun _ _ _ h => h) (Or.inl ⟨by rfl, ?_⟩) hS ?_
  rotate_left 1
  · intro w hw; obtain ⟨s0, s1⟩ := hw; go_simp; try (with_reducible rfl)
  simp only [Act.put, List.setIfInBounds_toArray, List.set_cons_zero, List.set_cons_succ]
  refine wpAnyG_take (i := 13) (oi := { dst := some 22, op := .fieldAddr 50 (.tmp 3) 0, type := 0, pos := "pool.go:60", after := #[], guard := none }) (v := ?_) rfl (by kernel_rfl) (by kernel_rfl) (by kernel_rfl) (by kernel_rfl) (fun _ _ _ h => h) (Or.inl ⟨by rfl, ?_⟩) hS ?_
  rotate_left 1
  · intro w hw; obtain ⟨s0, s1⟩ := hw; go_simp; try (with_reducible rfl)
  simp only [Act.put, List.setIfInBounds_toArray, List.set_cons_zero, List.set_cons_succ]
  refine wpAnyG_take (i := 14) (oi := { dst := some 23, op := .load 3 (.tmp 22), type := 3, pos := "pool.go:60", after := #[{ on := 13, ground := .data }], guard := none }) (v := ?_) rfl (by kernel_rfl) (by kernel_rfl) (by kernel_rfl) (by kernel_rfl) (fun _ _ _ h => h) (Or.inl ⟨by rfl, ?_⟩) hS ?_
  rotate_left 1
  · intro w hw; obtain ⟨s0, s1⟩ := hw; go_simp; try (with_reducible rfl)
  simp only [Act.put, List.setIfInBounds_toArray, List.set_cons_zero, List.set_cons_succ]
  refine wpAnyG_ready (rs := [5]) (by kernel_rfl) (by simp) (AllReadyG.cons (o := { dst := some 14, op := .load 24 (.tmp 13), type := 24, pos := "pool.go:60", after := #[{ on := 4, ground := .data }], guard := none }) rfl (fun K hK => ?_) AllReadyG.nil)
  go_simp
  refine hK.out _ _ hS (fun hHeld => ?_)
  clear hK K
  try simp only [Act.put, List.setIfInBounds_toArray, List.set_cons_zero, List.set_cons_succ]
  refine wpAnyG_ready (rs := [8]) (by kernel_rfl) (by simp) (AllReadyG.cons (o := { dst := some 17, op := .call { callee := .value (.func 23), args := #[.tmp 14, .tmp 16], argTypes := #[24, 3] }, type := 24, pos := "pool.go:60", after := #[{ on := 5, ground := .data }, { on := 7, ground := .data }], guard := none }) rfl (fun K hK => ?_) AllReadyG.nil)
  go_simp
  go_at_call 23
  refine (with_any _ _ _).mono ?_
  rintro e w' ⟨rfl, rfl⟩
  try dsimp only
  refine hK.out _ _ hS (fun hHeld => ?_)
  clear hK K
  try simp only [Act.put, List.setIfInBounds_toArray, List.set_cons_zero, List.set_cons_succ]
  refine wpAnyG_ready (rs := [15]) (by kernel_rfl) (by simp) (AllReadyG.cons (o := { dst := some 24, op := .call { callee := .value (.func 28), args := #[.tmp 21, .tmp 23], argTypes := #[24, 3] }, type := 24, pos := "pool.go:60", after := #[{ on := 12, ground := .data }, { on := 14, ground := .data }, { on := 8, ground := .chain }], guard := none }) rfl (fun K hK => ?_) AllReadyG.nil)
  go_simp
  go_at_call 28
  refine (without_any _ _ _).mono ?_
  rintro e w' ⟨rfl, rfl⟩
  try dsimp only
  refine hK.out _ _ hS (fun hHeld => ?_)
  clear hK K
  try simp only [Act.put, List.setIfInBounds_toArray, List.set_cons_zero, List.set_cons_succ]
  refine wpAnyG_ready (rs := [16]) (by kernel_rfl) (by simp) (AllReadyG.cons (o := { dst := some 25, op := .nilCheck (.tmp 9), type := 0, pos := "pool.go:60", after := #[{ on := 0, ground := .data }, { on := 0, ground := .phase }, { on := 1, ground := .textOnly Go.Departure.lateStores }, { on := 2, ground := .phase }, { on := 3, ground := .phase }, { on := 4, ground := .phase }, { on := 5, ground := .phase }, { on := 6, ground := .phase }, { on := 7, ground := .phase }, { on := 8, ground := .phase }, { on := 9, ground := .textOnly Go.Departure.lateStores }, { on := 10, ground := .textOnly Go.Departure.lateStoresUnsure }, { on := 11, ground := .textOnly Go.Departure.lateStoresUnsure }, { on := 12, ground := .phase }, { on := 13, ground := .textOnly Go.Departure.lateStores }, { on := 14, ground := .textOnly Go.Departure.lateStores }, { on := 15, ground := .phase }], guard := none }) rfl (fun K hK => ?_) AllReadyG.nil)
  go_simp
  refine hK.out _ _ hS (fun hHeld => ?_)
  clear hK K
  try simp only [Act.put, List.setIfInBounds_toArray, List.set_cons_zero, List.set_cons_succ]
  refine wpAnyG_ready (rs := [17]) (by kernel_rfl) (by simp) (AllReadyG.cons (o := { dst := some 26, op := .fieldAddr 67 (.tmp 25) 0, type := 0, pos := "pool.go:60", after := #[{ on := 16, ground := .data }, { on := 0, ground := .phase }, { on := 1, ground := .textOnly Go.Departure.lateStores }, { on := 2, ground := .phase }, { on := 3, ground := .phase }, { on := 4, ground := .phase }, { on := 5, ground := .phase }, { on := 6, ground := .phase }, { on := 7, ground := .phase }, { on := 8, ground := .phase }, { on := 9, ground := .textOnly Go.Departure.lateStores }, { on := 10, ground := .textOnly Go.Departure.lateStoresUnsure }, { on := 11, ground := .textOnly Go.Departure.lateStoresUnsure }, { on := 12, ground := .phase }, { on := 13, ground := .textOnly Go.Departure.lateStores }, { on := 14, ground := .textOnly Go.Departure.lateStores }, { on := 15, ground := .phase }], guard := none }) rfl (fun K hK => ?_) AllReadyG.nil)
  go_simp
  refine hK.out _ _ hS (fun hHeld => ?_)
  clear hK K
  try simp only [Act.put, List.setIfInBounds_toArray, List.set_cons_zero, List.set_cons_succ]
  refine wpAnyG_ready (rs := [18]) (by kernel_rfl) (by simp) (AllReadyG.cons (o := { dst := none, op := .store 24 (.tmp 26) (.tmp 17), type := 0, pos := "pool.go:60", after := #[{ on := 17, ground := .data }, { on := 8, ground := .data }, { on := 15, ground := .chain }, { on := 0, ground := .phase }, { on := 1, ground := .textOnly Go.Departure.lateStores }, { on := 2, ground := .phase }, { on := 3, ground := .phase }, { on := 4, ground := .phase }, { on := 5, ground := .phase }, { on := 6, ground := .phase }, { on := 7, ground := .phase }, { on := 8, ground := .phase }, { on := 9, ground := .textOnly Go.Departure.lateStores }, { on := 10, ground := .textOnly Go.Departure.lateStoresUnsure }, { on := 11, ground := .textOnly Go.Departure.lateStoresUnsure }, { on := 12, ground := .phase }, { on := 13, ground := .textOnly Go.Departure.lateStores }, { on := 14, ground := .textOnly Go.Departure.lateStores }, { on := 15, ground := .phase }], guard := none }) rfl (fun K hK => ?_) AllReadyG.nil)
  go_simp
  have hS4 := HS4.out
  refine hK.out _ _ hS4 (fun hHeld => ?_)
  clear hK K
  try simp only [Act.put, List.setIfInBounds_toArray, List.set_cons_zero, List.set_cons_succ]
  refine wpAnyG_ready (rs := [19]) (by kernel_rfl) (by simp) (AllReadyG.cons (o := { dst := some 27, op := .nilCheck (.tmp 10), type := 0, pos := "pool.go:60", after := #[{ on := 1, ground := .data }, { on := 0, ground := .phase }, { on := 1, ground := .phase }, { on := 2, ground := .phase }, { on := 3, ground := .phase }, { on := 4, ground := .phase }, { on := 5, ground := .phase }, { on := 6, ground := .phase }, { on := 7, ground := .phase }, { on := 8, ground := .phase }, { on := 9, ground := .phase }, { on := 10, ground := .phase }, { on := 11, ground := .phase }, { on := 12, ground := .phase }, { on := 13, ground := .phase }, { on := 14, ground := .phase }, { on := 15, ground := .phase }, { on := 16, ground := .phase }, { on := 17, ground := .phase }, { on := 18, ground := .phase }], guard := none }) rfl (fun K hK => ?_) AllReadyG.nil)
  go_simp
  refine hK.out _ _ hS4 (fun hHeld => ?_)
  clear hK K
  try simp only [Act.put, List.setIfInBounds_toArray, List.set_cons_zero, List.set_cons_succ]
  refine wpAnyG_ready (rs := [20]) (by kernel_rfl) (by simp) (AllReadyG.cons (o := { dst := some 28, op := .fieldAddr 67 (.tmp 27) 1, type := 0, pos := "pool.go:60", after := #[{ on := 19, ground := .data }, { on := 0, ground := .phase }, { on := 1, ground := .phase }, { on := 2, ground := .phase }, { on := 3, ground := .phase }, { on := 4, ground := .phase }, { on := 5, ground := .phase }, { on := 6, ground := .phase }, { on := 7, ground := .phase }, { on := 8, ground := .phase }, { on := 9, ground := .phase }, { on := 10, ground := .phase }, { on := 11, ground := .phase }, { on := 12, ground := .phase }, { on := 13, ground := .phase }, { on := 14, ground := .phase }, { on := 15, ground := .phase }, { on := 16, ground := .phase }, { on := 17, ground := .phase }, { on := 18, ground := .phase }], guard := none }) rfl (fun K hK => ?_) AllReadyG.nil)
  go_simp
  refine hK.out _ _ hS4 (fun hHeld => ?_)
  clear hK K
  try simp only [Act.put, List.setIfInBounds_toArray, List.set_cons_zero, List.set_cons_succ]
  refine wpAnyG_ready (rs := [21]) (by kernel_rfl) (by simp) (AllReadyG.last (o := { dst := none, op := .store 24 (.tmp 28) (.tmp 24), type := 0, pos := "pool.go:60", after := #[{ on := 20, ground := .data }, { on := 15, ground := .data }, { on := 18, ground := .chain }, { on := 0, ground := .phase }, { on := 1, ground := .phase }, { on := 2, ground := .phase }, { on := 3, ground := .phase }, { on := 4, ground := .phase }, { on := 5, ground := .phase }, { on := 6, ground := .phase }, { on := 7, ground := .phase }, { on := 8, ground := .phase }, { on := 9, ground := .phase }, { on := 10, ground := .phase }, { on := 11, ground := .phase }, { on := 12, ground := .phase }, { on := 13, ground := .phase }, { on := 14, ground := .phase }, { on := 15, ground := .phase }, { on := 16, ground := .phase }, { on := 17, ground := .phase }, { on := 18, ground := .phase }], guard := none }) rfl (fun K hK => ?_))
  go_simp
  refine hK.out _ _ ?_
  clear hK K
  try simp only [Act.put, List.setIfInBounds_toArray, List.set_cons_zero, List.set_cons_succ]
  refine wpAnyG_done (by kernel_rfl) ?_ _
  go_wp2
  go_ret
  exact ⟨rfl, ((H2.out.1.setF _).setU _).dn 1, (((Ch.new (T := fun j => j = B) H2.out.2.1).setCell ⟨B, 0, none⟩ _ (.inl rfl)).setCell ⟨B, 1, none⟩ _ (.inl rfl)).drew⟩
end Go.Proofs.YtdfknobohgncaaaDoor
