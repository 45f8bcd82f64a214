/- The contract of pool's Get. -/
import Derived.Test.YtdfknobohgncaaaDoorPC
namespace Go.Proofs.YtdfknobohgncaaaDoor
open Go.RowKit

theorem lst_of {x : BitVec 32} (h : lst x 32 ≠ []) : (lst x 32).headD 0 < 32 ∧ 0 < (lst x 32).length := by
  cases hl : lst x 32 with
  | nil => exact absurd hl h
  | cons a t =>
    have : a ∈ lst x 32 := by rw [hl]; simp
    exact ⟨((mem_lst _ _ _).1 this).1, by simp⟩
set_option maxHeartbeats 2000000 in
theorem get_none {w : World} {B : Nat} {F U : BitVec 32} {g : Nat → Int} {lo : Int} (h : PAt w B F U g lo) (ht : Tab w) (he : lst F 32 = []) :
    Calls Tryd.prog 17 #[.pointer (some ⟨B, 0, none⟩)] w fun e w' => e = .returned (.tuple #[.agg #[.int .i64 0, .int .i64 0], .int .i64 270]) ∧ Below w.heap.size w w' := by
  have b1 : Below w.heap.size w (w.alloc (.cells #[.int .i64 0, .int .i64 0] 50)) := (Below.refl _ _).alloc (Nat.le_refl _) _
  have c0 := (h.new b1).c0
  have HF := Lib.hid (first_any F _ (ht.below ht.pos (b1.mono (by have := ht.pos; omega))))
  have HD := Lib.hid (show (lst F 32).headD 0 = 0 ∧ decide (0 < (lst F 32).length) = false by rw [he]; exact ⟨rfl, rfl⟩)
  clear h ht he b1
  go_enter Tryd.func17, Tryd.ntmps17
  go_wp2_with (go_at_call 29; refine HF.out.mono ?_; rintro e w2 ⟨rfl, rfl⟩; rw [HD.out.1, HD.out.2])
  go_returns
  exact ⟨rfl, (Below.refl _ _).alloc (Nat.le_refl _) _⟩
set_option maxHeartbeats 4000000 in
theorem get_some {w : World} {B : Nat} {F U : BitVec 32} {g : Nat → Int} {lo : Int} (h : PAt w B F U g lo) (ht : Tab w) (k : Nat) (hk : (lst F 32).headD 0 = k) (hne : lst F 32 ≠ []) (hg : 0 ≤ g k ∧ g k ≤ 1000000) :
    Calls Tryd.prog 17 #[.pointer (some ⟨B, 0, none⟩)] w fun e w' => e = .returned (.tuple #[.agg #[.int .i64 (k : Nat), .int .i64 (g k + 1)], .int .i64 0]) ∧
      PAt w' B (F &&& ~~~onl (k : Int)) (U ||| onl (k : Int)) (upd g k (g k + 1)) (min lo ((lst (F &&& ~~~onl (k : Int)) 32).length : Nat)) ∧ Ch (fun j => j = B) w w' := by
  have hB := h.lt
  obtain ⟨hk32, hpos⟩ := lst_of hne
  rw [hk] at hk32
  obtain ⟨z, hz⟩ : ∃ z, z = w.heap.size := ⟨_, rfl⟩
  obtain ⟨w1, hw1⟩ : ∃ w1, w1 = w.alloc (.cells #[.int .i64 0, .int .i64 0] 50) := ⟨_, rfl⟩
  have b1 : Below w.heap.size w w1 := by rw [hw1]; exact (Below.refl _ _).alloc (Nat.le_refl _) _
  have hx : BoxAt w1 z [.int .i64 0, .int .i64 0] := by rw [hw1, hz]; exact BoxAt.mk_new w _ _
  have HZ := Lib.hid (show w.heap.size ≤ z by omega)
  have HF := Lib.hid (first_any F w1 (ht.below ht.pos (b1.mono (by have := ht.pos; omega))))
  rw [hk, decide_eq_true hpos] at HF
  have HT := Lib.hid (And.intro (h.new b1) (And.intro (Ch.new (T := fun j => j = B) b1) (And.intro hx (show B < z by omega))))
  obtain ⟨x, hxg⟩ : ∃ x, g k = x := ⟨_, rfl⟩
  rw [hxg] at hg ⊢
  have hw : IntKind.i64.wrap (x + 1) = x + 1 := by rw [IntKind.wrap_i64]; omega
  have HXG := Lib.hid hxg
  obtain ⟨m, hm⟩ : ∃ m, (lst (F &&& ~~~onl (k : Int)) 32).length = m := ⟨_, rfl⟩
  rw [hm]
  have HM := Lib.hid hm
  have hkI : (k : Int) < 32 := by omega
  have hk0 : (0 : Int) ≤ (k : Int) := by omega
  clear h ht b1 hx hk hne hpos hxg hg hm
  go_enter Tryd.func17, Tryd.ntmps17
  go_upto_region 1 with fail
  rw [← hw1, ← hz]
  clear hw1 hz
  have c00 := HT.out.1.c0
  go_upto_region 4 with (go_at_call 29; refine HF.out.mono ?_; rintro e w2 ⟨rfl, rfl⟩)
  have c0 := HT.out.1.c0
  have c1 := HT.out.1.c1
  have f0 := HT.out.1.frozen 0
  have f1 := HT.out.1.frozen 1
  have HS4 := Lib.hid (show ((w1.drew).setCell ⟨B, 0, none⟩ (.int .u32 (w32 (F &&& ~~~onl (k : Int))))).cell? ⟨B, 1, none⟩ = some (.int .u32 (w32 U)) from
    ((HT.out.1.dn 1).setF (F &&& ~~~onl (k : Int))).c1)
  clear c00
  refine wp_region_g (fun w' => w'.cell? ⟨B, 1, none⟩ = some (.int .u32 (w32 U))) 19 (by kernel_rfl) c1 (fun hS => ?_)
  refine wpAnyG_take (i := 0) (oi := { dst := some 17, op := .move (.tmp 0), type := 42, pos := "pool.go:39", after := #[], guard := none }) (v := ?_) rfl (by kernel_rfl) (by kernel_rfl) (by kernel_rfl) (by kernel_rfl) (fun _ _ _ h => h) (Or.inl ⟨by rfl, ?_⟩) hS ?_
  rotate_left 1
  · intro w hw; obtain s0 := hw; go_simp; try (with_reducible rfl)
  simp only [Act.put, List.setIfInBounds_toArray, List.set_cons_zero, List.set_cons_succ]
  refine wpAnyG_take (i := 1) (oi := { dst := some 18, op := .move (.tmp 0), type := 42, pos := "pool.go:39", after := #[{ on := 16, ground := .gcOnly Go.Departure.lateStores }], guard := none }) (v := ?_) rfl (by kernel_rfl) (by kernel_rfl) (by kernel_rfl) (by kernel_rfl) (fun _ _ _ h => h) (Or.inl ⟨by rfl, ?_⟩) hS ?_
  rotate_left 1
  · intro w hw; obtain s0 := hw; go_simp; try (with_reducible rfl)
  simp only [Act.put, List.setIfInBounds_toArray, List.set_cons_zero, List.set_cons_succ]
  refine wpAnyG_take (i := 2) (oi := { dst := some 19, op := .move (.tmp 0), type := 42, pos := "pool.go:39", after := #[], guard := none }) (v := ?_) rfl (by kernel_rfl) (by kernel_rfl) (by kernel_rfl) (by kernel_rfl) (fun _ _ _ h => h) (Or.inl ⟨by rfl, ?_⟩) hS ?_
  rotate_left 1
  · intro w hw; obtain s0 := hw; go_simp; try (with_reducible rfl)
  simp only [Act.put, List.setIfInBounds_toArray, List.set_cons_zero, List.set_cons_succ]
  refine wpAnyG_take (i := 3) (oi := { dst := some 20, op := .nilCheck (.tmp 19), type := 0, pos := "pool.go:39", after := #[{ on := 2, ground := .data }], guard := none }) (v := ?_) rfl (by kernel_rfl) (by kernel_rfl) (by kernel_rfl) (by kernel_rfl) (fun _ _ _ h => h) (Or.inl ⟨by rfl, ?_⟩) hS ?_
  rotate_left 1
  · intro w hw; obtain s0 := hw; go_simp; try (with_reducible rfl)
  simp only [Act.put, List.setIfInBounds_toArray, List.set_cons_zero, List.set_cons_succ]
  refine wpAnyG_take (i := 4) (oi := { dst := some 21, op := .fieldAddr 67 (.tmp 20) 0, type := 0, pos := "pool.go:39", after := #[{ on := 3, ground := .data }], guard := none }) (v := ?_) rfl (by kernel_rfl) (by kernel_rfl) (by kernel_rfl) (by kernel_rfl) (fun _ _ _ h => h) (Or.inl ⟨by rfl, ?_⟩) hS ?_
  rotate_left 1
  · intro w hw; obtain s0 := hw; go_simp; try (with_reducible rfl)
  simp only [Act.put, List.setIfInBounds_toArray, List.set_cons_zero, List.set_cons_succ]
  refine wpAnyG_take (i := 6) (oi := { dst := some 23, op := .move (.tmp 4), type := 3, pos := "pool.go:39", after := #[], guard := none }) (v := ?_) rfl (by kernel_rfl) (by kernel_rfl) (by kernel_rfl) (by kernel_rfl) (fun _ _ _ h => h) (Or.inl ⟨by rfl, ?_⟩) hS ?_
  rotate_left 1
  · intro w hw; obtain s0 := hw; go_simp; try (with_reducible rfl)
  simp only [Act.put, List.setIfInBounds_toArray, List.set_cons_zero, List.set_cons_succ]
  refine wpAnyG_take (i := 8) (oi := { dst := some 25, op := .move (.tmp 0), type := 42, pos := "pool.go:39", after := #[], guard := none }) (v := ?_) rfl (by kernel_rfl) (by kernel_rfl) (by kernel_rfl) (by kernel_rfl) (fun _ _ _ h => h) (Or.inl ⟨by rfl, ?_⟩) hS ?_
  rotate_left 1
  · intro w hw; obtain s0 := hw; go_simp; try (with_reducible rfl)
  simp only [Act.put, List.setIfInBounds_toArray, List.set_cons_zero, List.set_cons_succ]
  refine wpAnyG_take (i := 9) (oi := { dst := some 26, op := .nilCheck (.tmp 25), type := 0, pos := "pool.go:39", after := #[{ on := 8, ground := .data }], guard := none }) (v := ?_) rfl (by kernel_rfl) (by kernel_rfl) (by kernel_rfl) (by kernel_rfl) (fun _ _ _ h => h) (Or.inl ⟨by rfl, ?_⟩) hS ?_
  rotate_left 1
  · intro w hw; obtain s0 := hw; go_simp; try (with_reducible rfl)
  simp only [Act.put, List.setIfInBounds_toArray, List.set_cons_zero, List.set_cons_succ]
  refine wpAnyG_take (i := 10) (oi := { dst := some 27, op := .fieldAddr 67 (.tmp 26) 1, type := 0, pos := "pool.go:39", after := #[{ on := 9, ground := .data }], guard := none }) (v := ?_) rfl (by kernel_rfl) (by kernel_rfl) (by kernel_rfl) (by kernel_rfl) (fun _ _ _ h => h) (Or.inl ⟨by rfl, ?_⟩) hS ?_
  rotate_left 1
  · intro w hw; obtain s0 := hw; go_simp; try (with_reducible rfl)
  simp only [Act.put, List.setIfInBounds_toArray, List.set_cons_zero, List.set_cons_succ]
  refine wpAnyG_take (i := 11) (oi := { dst := some 28, op := .load 24 (.tmp 27), type := 24, pos := "pool.go:39", after := #[{ on := 10, ground := .data }], guard := none }) (v := ?_) rfl (by kernel_rfl) (by kernel_rfl) (by kernel_rfl) (by kernel_rfl) (fun _ _ _ h => h) (Or.inl ⟨by rfl, ?_⟩) hS ?_
  rotate_left 1
  · intro w hw; obtain s0 := hw; go_simp; try (with_reducible rfl)
  simp only [Act.put, List.setIfInBounds_toArray, List.set_cons_zero, List.set_cons_succ]
  refine wpAnyG_take (i := 12) (oi := { dst := some 29, op := .move (.tmp 4), type := 3, pos := "pool.go:39", after := #[], guard := none }) (v := ?_) rfl (by kernel_rfl) (by kernel_rfl) (by kernel_rfl) (by kernel_rfl) (fun _ _ _ h => h) (Or.inl ⟨by rfl, ?_⟩) hS ?_
  rotate_left 1
  · intro w hw; obtain s0 := hw; go_simp; try (with_reducible rfl)
  simp only [Act.put, List.setIfInBounds_toArray, List.set_cons_zero, List.set_cons_succ]
  refine wpAnyG_ready (rs := [5]) (by kernel_rfl) (by simp) (AllReadyG.cons (o := { dst := some 22, op := .load 24 (.tmp 21), type := 24, pos := "pool.go:39", after := #[{ on := 4, ground := .data }], guard := none }) rfl (fun K hK => ?_) AllReadyG.nil)
  go_simp
  refine hK.out _ _ hS (fun hHeld => ?_)
  clear hK K
  try simp only [Act.put, List.setIfInBounds_toArray, List.set_cons_zero, List.set_cons_succ]
  refine wpAnyG_ready (rs := [7]) (by kernel_rfl) (by simp) (AllReadyG.cons (o := { dst := some 24, op := .call { callee := .value (.func 28), args := #[.tmp 22, .tmp 23], argTypes := #[24, 3] }, type := 24, pos := "pool.go:39", after := #[{ on := 5, ground := .data }, { on := 6, ground := .data }], guard := none }) rfl (fun K hK => ?_) AllReadyG.nil)
  go_simp
  go_at_call 28
  refine (without_any _ _ _).mono ?_
  rintro e w' ⟨rfl, rfl⟩
  try dsimp only
  refine hK.out _ _ hS (fun hHeld => ?_)
  clear hK K
  try simp only [Act.put, List.setIfInBounds_toArray, List.set_cons_zero, List.set_cons_succ]
  refine wpAnyG_ready (rs := [13]) (by kernel_rfl) (by simp) (AllReadyG.cons (o := { dst := some 30, op := .call { callee := .value (.func 23), args := #[.tmp 28, .tmp 29], argTypes := #[24, 3] }, type := 24, pos := "pool.go:39", after := #[{ on := 11, ground := .data }, { on := 12, ground := .data }, { on := 7, ground := .chain }], guard := none }) rfl (fun K hK => ?_) AllReadyG.nil)
  go_simp
  go_at_call 23
  refine (with_any _ _ _).mono ?_
  rintro e w' ⟨rfl, rfl⟩
  try dsimp only
  refine hK.out _ _ hS (fun hHeld => ?_)
  clear hK K
  try simp only [Act.put, List.setIfInBounds_toArray, List.set_cons_zero, List.set_cons_succ]
  refine wpAnyG_ready (rs := [14]) (by kernel_rfl) (by simp) (AllReadyG.cons (o := { dst := some 31, op := .nilCheck (.tmp 17), type := 0, pos := "pool.go:39", after := #[{ on := 0, ground := .data }, { on := 0, ground := .phase }, { on := 1, ground := .textOnly Go.Departure.lateStores }, { on := 2, ground := .phase }, { on := 3, ground := .phase }, { on := 4, ground := .phase }, { on := 5, ground := .phase }, { on := 6, ground := .phase }, { on := 7, ground := .phase }, { on := 8, ground := .textOnly Go.Departure.lateStores }, { on := 9, ground := .textOnly Go.Departure.lateStoresUnsure }, { on := 10, ground := .textOnly Go.Departure.lateStoresUnsure }, { on := 11, ground := .phase }, { on := 12, ground := .textOnly Go.Departure.lateStores }, { on := 13, ground := .phase }], guard := none }) rfl (fun K hK => ?_) AllReadyG.nil)
  go_simp
  refine hK.out _ _ hS (fun hHeld => ?_)
  clear hK K
  try simp only [Act.put, List.setIfInBounds_toArray, List.set_cons_zero, List.set_cons_succ]
  refine wpAnyG_ready (rs := [15]) (by kernel_rfl) (by simp) (AllReadyG.cons (o := { dst := some 32, op := .fieldAddr 67 (.tmp 31) 0, type := 0, pos := "pool.go:39", after := #[{ on := 14, ground := .data }, { on := 0, ground := .phase }, { on := 1, ground := .textOnly Go.Departure.lateStores }, { on := 2, ground := .phase }, { on := 3, ground := .phase }, { on := 4, ground := .phase }, { on := 5, ground := .phase }, { on := 6, ground := .phase }, { on := 7, ground := .phase }, { on := 8, ground := .textOnly Go.Departure.lateStores }, { on := 9, ground := .textOnly Go.Departure.lateStoresUnsure }, { on := 10, ground := .textOnly Go.Departure.lateStoresUnsure }, { on := 11, ground := .phase }, { on := 12, ground := .textOnly Go.Departure.lateStores }, { on := 13, ground := .phase }], guard := none }) rfl (fun K hK => ?_) AllReadyG.nil)
  go_simp
  refine hK.out _ _ hS (fun hHeld => ?_)
  clear hK K
  try simp only [Act.put, List.setIfInBounds_toArray, List.set_cons_zero, List.set_cons_succ]
  refine wpAnyG_ready (rs := [16]) (by kernel_rfl) (by simp) (AllReadyG.cons (o := { dst := none, op := .store 24 (.tmp 32) (.tmp 24), type := 0, pos := "pool.go:39", after := #[{ on := 15, ground := .data }, { on := 7, ground := .data }, { on := 13, ground := .chain }, { on := 0, ground := .phase }, { on := 1, ground := .textOnly Go.Departure.lateStores }, { on := 2, ground := .phase }, { on := 3, ground := .phase }, { on := 4, ground := .phase }, { on := 5, ground := .phase }, { on := 6, ground := .phase }, { on := 7, ground := .phase }, { on := 8, ground := .textOnly Go.Departure.lateStores }, { on := 9, ground := .textOnly Go.Departure.lateStoresUnsure }, { on := 10, ground := .textOnly Go.Departure.lateStoresUnsure }, { on := 11, ground := .phase }, { on := 12, ground := .textOnly Go.Departure.lateStores }, { on := 13, ground := .phase }], guard := none }) rfl (fun K hK => ?_) AllReadyG.nil)
  go_simp
  have hS4 := HS4.out
  refine hK.out _ _ hS4 (fun hHeld => ?_)
  clear hK K
  try simp only [Act.put, List.setIfInBounds_toArray, List.set_cons_zero, List.set_cons_succ]
  refine wpAnyG_ready (rs := [17]) (by kernel_rfl) (by simp) (AllReadyG.cons (o := { dst := some 33, op := .nilCheck (.tmp 18), type := 0, pos := "pool.go:39", after := #[{ on := 1, ground := .data }, { on := 0, ground := .phase }, { on := 1, ground := .phase }, { on := 2, ground := .phase }, { on := 3, ground := .phase }, { on := 4, ground := .phase }, { on := 5, ground := .phase }, { on := 6, ground := .phase }, { on := 7, ground := .phase }, { on := 8, ground := .phase }, { on := 9, ground := .phase }, { on := 10, ground := .phase }, { on := 11, ground := .phase }, { on := 12, ground := .phase }, { on := 13, ground := .phase }, { on := 14, ground := .phase }, { on := 15, ground := .phase }, { on := 16, ground := .phase }], guard := none }) rfl (fun K hK => ?_) AllReadyG.nil)
  go_simp
  refine hK.out _ _ hS4 (fun hHeld => ?_)
  clear hK K
  try simp only [Act.put, List.setIfInBounds_toArray, List.set_cons_zero, List.set_cons_succ]
  refine wpAnyG_ready (rs := [18]) (by kernel_rfl) (by simp) (AllReadyG.cons (o := { dst := some 34, op := .fieldAddr 67 (.tmp 33) 1, type := 0, pos := "pool.go:39", after := #[{ on := 17, ground := .data }, { on := 0, ground := .phase }, { on := 1, ground := .phase }, { on := 2, ground := .phase }, { on := 3, ground := .phase }, { on := 4, ground := .phase }, { on := 5, ground := .phase }, { on := 6, ground := .phase }, { on := 7, ground := .phase }, { on := 8, ground := .phase }, { on := 9, ground := .phase }, { on := 10, ground := .phase }, { on := 11, ground := .phase }, { on := 12, ground := .phase }, { on := 13, ground := .phase }, { on := 14, ground := .phase }, { on := 15, ground := .phase }, { on := 16, ground := .phase }], guard := none }) rfl (fun K hK => ?_) AllReadyG.nil)
  go_simp
  refine hK.out _ _ hS4 (fun hHeld => ?_)
  clear hK K
  try simp only [Act.put, List.setIfInBounds_toArray, List.set_cons_zero, List.set_cons_succ]
  refine wpAnyG_ready (rs := [19]) (by kernel_rfl) (by simp) (AllReadyG.last (o := { dst := none, op := .store 24 (.tmp 34) (.tmp 30), type := 0, pos := "pool.go:39", after := #[{ on := 18, ground := .data }, { on := 13, ground := .data }, { on := 16, ground := .chain }, { on := 0, ground := .phase }, { on := 1, ground := .phase }, { on := 2, ground := .phase }, { on := 3, ground := .phase }, { on := 4, ground := .phase }, { on := 5, ground := .phase }, { on := 6, ground := .phase }, { on := 7, ground := .phase }, { on := 8, ground := .phase }, { on := 9, ground := .phase }, { on := 10, ground := .phase }, { on := 11, ground := .phase }, { on := 12, ground := .phase }, { on := 13, ground := .phase }, { on := 14, ground := .phase }, { on := 15, ground := .phase }, { on := 16, ground := .phase }], guard := none }) rfl (fun K hK => ?_))
  go_simp
  refine hK.out _ _ ?_
  clear hK K
  try simp only [Act.put, List.setIfInBounds_toArray, List.set_cons_zero, List.set_cons_succ]
  refine wpAnyG_done (by kernel_rfl) ?_ _
  go_upto_region 5 with fail
  generalize hw2 : World.drew _ = w2
  have H2 := Lib.hid (show PAt w2 B (F &&& ~~~onl (k : Int)) (U ||| onl (k : Int)) g lo ∧ Ch (fun j => j = B) w w2 ∧ BoxAt w2 z [.int .i64 0, .int .i64 0] by
    rw [← hw2]
    exact ⟨((HT.out.1.setF _).setU _).dn 1, ((HT.out.2.1.setCell ⟨B, 0, none⟩ _ (.inl rfl)).setCell ⟨B, 1, none⟩ _ (.inl rfl)).drew, ((HT.out.2.2.1.other ⟨B, 0, none⟩ _ (by have := HT.out.2.2.2; show B ≠ z; omega)).other ⟨B, 1, none⟩ _ (by have := HT.out.2.2.2; show B ≠ z; omega)).new (below_dn (Below.refl _ _) 1)⟩)
  clear hw2 c0 c1 f0 f1
  have ck := H2.out.1.cg k hk32
  rw [HXG.out] at ck
  have fk := H2.out.1.frozen (2 + k)
  refine wp_region_g (fun w' => w'.cell? ⟨B, 2 + k, none⟩ = some (.int .i64 x)) 10 (by kernel_rfl) ck (fun hS => ?_)
  refine wpAnyG_take (i := 0) (oi := { dst := some 35, op := .move (.tmp 0), type := 42, pos := "pool.go:40", after := #[], guard := none }) (v := ?_) rfl (by kernel_rfl) (by kernel_rfl) (by kernel_rfl) (by kernel_rfl) (fun _ _ _ h => h) (Or.inl ⟨by rfl, ?_⟩) hS ?_
  rotate_left 1
  · intro w hw; obtain s0 := hw; go_simp; try (with_reducible rfl)
  simp only [Act.put, List.setIfInBounds_toArray, List.set_cons_zero, List.set_cons_succ]
  refine wpAnyG_take (i := 1) (oi := { dst := some 36, op := .move (.tmp 4), type := 3, pos := "pool.go:40", after := #[], guard := none }) (v := ?_) rfl (by kernel_rfl) (by kernel_rfl) (by kernel_rfl) (by kernel_rfl) (fun _ _ _ h => h) (Or.inl ⟨by rfl, ?_⟩) hS ?_
  rotate_left 1
  · intro w hw; obtain s0 := hw; go_simp; try (with_reducible rfl)
  simp only [Act.put, List.setIfInBounds_toArray, List.set_cons_zero, List.set_cons_succ]
  refine wpAnyG_take (i := 2) (oi := { dst := some 37, op := .nilCheck (.tmp 35), type := 0, pos := "pool.go:40", after := #[{ on := 0, ground := .data }], guard := none }) (v := ?_) rfl (by kernel_rfl) (by kernel_rfl) (by kernel_rfl) (by kernel_rfl) (fun _ _ _ h => h) (Or.inl ⟨by rfl, ?_⟩) hS ?_
  rotate_left 1
  · intro w hw; obtain s0 := hw; go_simp; try (with_reducible rfl)
  simp only [Act.put, List.setIfInBounds_toArray, List.set_cons_zero, List.set_cons_succ]
  refine wpAnyG_take (i := 3) (oi := { dst := some 38, op := .fieldAddr 67 (.tmp 37) 2, type := 0, pos := "pool.go:40", after := #[{ on := 2, ground := .data }], guard := none }) (v := ?_) rfl (by kernel_rfl) (by kernel_rfl) (by kernel_rfl) (by kernel_rfl) (fun _ _ _ h => h) (Or.inl ⟨by rfl, ?_⟩) hS ?_
  rotate_left 1
  · intro w hw; obtain s0 := hw; go_simp; try (with_reducible rfl)
  simp only [Act.put, List.setIfInBounds_toArray, List.set_cons_zero, List.set_cons_succ]
  refine wpAnyG_take (i := 4) (oi := { dst := some 39, op := .indexAddr 46 (.tmp 38) (.tmp 36), type := 0, pos := "pool.go:40", after := #[{ on := 3, ground := .data }, { on := 1, ground := .data }], guard := none }) (v := ?_) rfl (by kernel_rfl) (by kernel_rfl) (by kernel_rfl) (by kernel_rfl) (fun _ _ _ h => h) (Or.inl ⟨by rfl, ?_⟩) hS ?_
  rotate_left 1
  · intro w hw; obtain s0 := hw; go_simp; try (with_reducible rfl)
  simp only [Act.put, List.setIfInBounds_toArray, List.set_cons_zero, List.set_cons_succ]
  refine wpAnyG_take (i := 5) (oi := { dst := some 40, op := .load 3 (.tmp 39), type := 3, pos := "pool.go:40", after := #[{ on := 4, ground := .data }], guard := none }) (v := ?_) rfl (by kernel_rfl) (by kernel_rfl) (by kernel_rfl) (by kernel_rfl) (fun _ _ _ h => h) (Or.inl ⟨by rfl, ?_⟩) hS ?_
  rotate_left 1
  · intro w hw; obtain s0 := hw; go_simp; try (with_reducible rfl)
  simp only [Act.put, List.setIfInBounds_toArray, List.set_cons_zero, List.set_cons_succ]
  refine wpAnyG_take (i := 6) (oi := { dst := some 41, op := .binOp .add 3 (.tmp 40) (.const (.int .i64 1)) 3, type := 3, pos := "pool.go:40", after := #[{ on := 5, ground := .data }], guard := none }) (v := ?_) rfl (by kernel_rfl) (by kernel_rfl) (by kernel_rfl) (by kernel_rfl) (fun _ _ _ h => h) (Or.inl ⟨by rfl, ?_⟩) hS ?_
  rotate_left 1
  · intro w hw; obtain s0 := hw; go_simp; try (with_reducible rfl)
  simp only [Act.put, List.setIfInBounds_toArray, List.set_cons_zero, List.set_cons_succ]
  refine wpAnyG_ready (rs := [7]) (by kernel_rfl) (by simp) (AllReadyG.cons (o := { dst := some 42, op := .nilCheck (.tmp 35), type := 0, pos := "pool.go:40", after := #[{ on := 0, ground := .data }], guard := none }) rfl (fun K hK => ?_) AllReadyG.nil)
  go_simp
  refine hK.out _ _ hS (fun hHeld => ?_)
  clear hK K
  try simp only [Act.put, List.setIfInBounds_toArray, List.set_cons_zero, List.set_cons_succ]
  refine wpAnyG_ready (rs := [8]) (by kernel_rfl) (by simp) (AllReadyG.cons (o := { dst := some 43, op := .fieldAddr 67 (.tmp 42) 2, type := 0, pos := "pool.go:40", after := #[{ on := 7, ground := .data }], guard := none }) rfl (fun K hK => ?_) AllReadyG.nil)
  go_simp
  refine hK.out _ _ hS (fun hHeld => ?_)
  clear hK K
  try simp only [Act.put, List.setIfInBounds_toArray, List.set_cons_zero, List.set_cons_succ]
  refine wpAnyG_ready (rs := [9]) (by kernel_rfl) (by simp) (AllReadyG.cons (o := { dst := some 44, op := .indexAddr 46 (.tmp 43) (.tmp 36), type := 0, pos := "pool.go:40", after := #[{ on := 8, ground := .data }, { on := 1, ground := .data }, { on := 0, ground := .phase }, { on := 1, ground := .phase }, { on := 2, ground := .phase }, { on := 3, ground := .phase }, { on := 4, ground := .phase }, { on := 5, ground := .phase }, { on := 6, ground := .phase }], guard := none }) rfl (fun K hK => ?_) AllReadyG.nil)
  go_simp
  refine hK.out _ _ hS (fun hHeld => ?_)
  clear hK K
  try simp only [Act.put, List.setIfInBounds_toArray, List.set_cons_zero, List.set_cons_succ]
  refine wpAnyG_ready (rs := [10]) (by kernel_rfl) (by simp) (AllReadyG.last (o := { dst := none, op := .store 3 (.tmp 44) (.tmp 41), type := 0, pos := "pool.go:40", after := #[{ on := 9, ground := .data }, { on := 6, ground := .data }, { on := 0, ground := .phase }, { on := 1, ground := .phase }, { on := 2, ground := .phase }, { on := 3, ground := .phase }, { on := 4, ground := .phase }, { on := 5, ground := .phase }, { on := 6, ground := .phase }], guard := none }) rfl (fun K hK => ?_))
  go_simp
  refine hK.out _ _ ?_
  clear hK K
  try simp only [Act.put, List.setIfInBounds_toArray, List.set_cons_zero, List.set_cons_succ]
  refine wpAnyG_done (by kernel_rfl) ?_ _
  go_upto_region 6 with fail
  generalize hw3 : World.drew _ = w3
  have H3 := Lib.hid (show PAt w3 B (F &&& ~~~onl (k : Int)) (U ||| onl (k : Int)) (upd g k (x + 1)) lo ∧ Ch (fun j => j = B) w w3 ∧ BoxAt w3 z [.int .i64 0, .int .i64 0] by
    rw [← hw3]
    exact ⟨(H2.out.1.setG k _ hk32).dn 1, (H2.out.2.1.setCell ⟨B, 2 + k, none⟩ _ (.inl rfl)).drew, (H2.out.2.2.other ⟨B, 2 + k, none⟩ _ (by have := HT.out.2.2.2; show B ≠ z; omega)).new (below_dn (Below.refl _ _) 1)⟩)
  clear hw3 ck fk
  have cl := H3.out.1.cl
  have fl := H3.out.1.frozen 34
  have HE := Lib.hid (show min lo (m : Int) = if (m : Int) < lo then (m : Int) else lo by split <;> omega)
  refine wp_region_g (fun w' => w'.cell? ⟨B, 34, none⟩ = some (.int .i64 lo)) 10 (by kernel_rfl) cl (fun hS => ?_)
  refine wpAnyG_take (i := 0) (oi := { dst := some 45, op := .move (.tmp 0), type := 42, pos := "pool.go:41", after := #[], guard := none }) (v := ?_) rfl (by kernel_rfl) (by kernel_rfl) (by kernel_rfl) (by kernel_rfl) (fun _ _ _ h => h) (Or.inl ⟨by rfl, ?_⟩) hS ?_
  rotate_left 1
  · intro w hw; obtain s0 := hw; go_simp; try (with_reducible rfl)
  simp only [Act.put, List.setIfInBounds_toArray, List.set_cons_zero, List.set_cons_succ]
  refine wpAnyG_take (i := 1) (oi := { dst := some 46, op := .move (.tmp 0), type := 42, pos := "pool.go:41", after := #[], guard := none }) (v := ?_) rfl (by kernel_rfl) (by kernel_rfl) (by kernel_rfl) (by kernel_rfl) (fun _ _ _ h => h) (Or.inl ⟨by rfl, ?_⟩) hS ?_
  rotate_left 1
  · intro w hw; obtain s0 := hw; go_simp; try (with_reducible rfl)
  simp only [Act.put, List.setIfInBounds_toArray, List.set_cons_zero, List.set_cons_succ]
  refine wpAnyG_take (i := 2) (oi := { dst := some 47, op := .nilCheck (.tmp 46), type := 0, pos := "pool.go:41", after := #[{ on := 1, ground := .data }], guard := none }) (v := ?_) rfl (by kernel_rfl) (by kernel_rfl) (by kernel_rfl) (by kernel_rfl) (fun _ _ _ h => h) (Or.inl ⟨by rfl, ?_⟩) hS ?_
  rotate_left 1
  · intro w hw; obtain s0 := hw; go_simp; try (with_reducible rfl)
  simp only [Act.put, List.setIfInBounds_toArray, List.set_cons_zero, List.set_cons_succ]
  refine wpAnyG_take (i := 3) (oi := { dst := some 48, op := .fieldAddr 67 (.tmp 47) 3, type := 0, pos := "pool.go:41", after := #[{ on := 2, ground := .data }], guard := none }) (v := ?_) rfl (by kernel_rfl) (by kernel_rfl) (by kernel_rfl) (by kernel_rfl) (fun _ _ _ h => h) (Or.inl ⟨by rfl, ?_⟩) hS ?_
  rotate_left 1
  · intro w hw; obtain s0 := hw; go_simp; try (with_reducible rfl)
  simp only [Act.put, List.setIfInBounds_toArray, List.set_cons_zero, List.set_cons_succ]
  refine wpAnyG_take (i := 4) (oi := { dst := some 49, op := .load 3 (.tmp 48), type := 3, pos := "pool.go:41", after := #[{ on := 3, ground := .data }], guard := none }) (v := ?_) rfl (by kernel_rfl) (by kernel_rfl) (by kernel_rfl) (by kernel_rfl) (fun _ _ _ h => h) (Or.inl ⟨by rfl, ?_⟩) hS ?_
  rotate_left 1
  · intro w hw; obtain s0 := hw; go_simp; try (with_reducible rfl)
  simp only [Act.put, List.setIfInBounds_toArray, List.set_cons_zero, List.set_cons_succ]
  refine wpAnyG_take (i := 5) (oi := { dst := some 50, op := .move (.tmp 0), type := 42, pos := "pool.go:41", after := #[], guard := none }) (v := ?_) rfl (by kernel_rfl) (by kernel_rfl) (by kernel_rfl) (by kernel_rfl) (fun _ _ _ h => h) (Or.inl ⟨by rfl, ?_⟩) hS ?_
  rotate_left 1
  · intro w hw; obtain s0 := hw; go_simp; try (with_reducible rfl)
  simp only [Act.put, List.setIfInBounds_toArray, List.set_cons_zero, List.set_cons_succ]
  refine wpAnyG_ready (rs := [6]) (by kernel_rfl) (by simp) (AllReadyG.cons (o := { dst := some 51, op := .call { callee := .value (.func 18), args := #[.tmp 50], argTypes := #[42] }, type := 3, pos := "pool.go:41", after := #[{ on := 5, ground := .data }], guard := none }) rfl (fun K hK => ?_) AllReadyG.nil)
  go_simp
  go_at_call 18
  refine (free_any (H3.out.1.dn 1)).mono ?_
  rintro e w4 ⟨rfl, b4⟩
  have H4 := Lib.hid (And.intro ((H3.out.1.dn 1).new b4) (And.intro ((H3.out.2.1.drewN 1).trans (Ch.new b4)) ((H3.out.2.2.new (below_dn (Below.refl _ _) 1)).new b4)))
  have c4 := H4.out.1.cl
  have f4 := H4.out.1.frozen 34
  clear b4
  rw [HM.out]
  try dsimp only
  refine hK.out _ _ c4 (fun hHeld => ?_)
  clear hK K
  try simp only [Act.put, List.setIfInBounds_toArray, List.set_cons_zero, List.set_cons_succ]
  refine wpAnyG_take (i := 7) (oi := { dst := some 52, op := .call { callee := .builtin .min, args := #[.tmp 49, .tmp 51], argTypes := #[3, 3] }, type := 3, pos := "pool.go:41", after := #[{ on := 4, ground := .data }, { on := 6, ground := .data }], guard := none }) (v := ?_) rfl (by kernel_rfl) (by kernel_rfl) (by kernel_rfl) (by kernel_rfl) (fun _ _ _ h => h) (Or.inl ⟨by rfl, ?_⟩) c4 ?_
  rotate_left 1
  · intro w hw; obtain s0 := hw; go_simp; try (with_reducible rfl)
  simp only [Act.put, List.setIfInBounds_toArray, List.set_cons_zero, List.set_cons_succ]
  refine wpAnyG_ready (rs := [8]) (by kernel_rfl) (by simp) (AllReadyG.cons (o := { dst := some 53, op := .nilCheck (.tmp 45), type := 0, pos := "pool.go:41", after := #[{ on := 0, ground := .data }, { on := 0, ground := .phase }, { on := 1, ground := .phase }, { on := 2, ground := .phase }, { on := 3, ground := .phase }, { on := 4, ground := .phase }, { on := 5, ground := .phase }, { on := 6, ground := .phase }, { on := 7, ground := .phase }], guard := none }) rfl (fun K hK => ?_) AllReadyG.nil)
  go_simp
  refine hK.out _ _ c4 (fun hHeld => ?_)
  clear hK K
  try simp only [Act.put, List.setIfInBounds_toArray, List.set_cons_zero, List.set_cons_succ]
  refine wpAnyG_ready (rs := [9]) (by kernel_rfl) (by simp) (AllReadyG.cons (o := { dst := some 54, op := .fieldAddr 67 (.tmp 53) 3, type := 0, pos := "pool.go:41", after := #[{ on := 8, ground := .data }, { on := 0, ground := .phase }, { on := 1, ground := .phase }, { on := 2, ground := .phase }, { on := 3, ground := .phase }, { on := 4, ground := .phase }, { on := 5, ground := .phase }, { on := 6, ground := .phase }, { on := 7, ground := .phase }], guard := none }) rfl (fun K hK => ?_) AllReadyG.nil)
  go_simp
  refine hK.out _ _ c4 (fun hHeld => ?_)
  clear hK K
  try simp only [Act.put, List.setIfInBounds_toArray, List.set_cons_zero, List.set_cons_succ]
  refine wpAnyG_ready (rs := [10]) (by kernel_rfl) (by simp) (AllReadyG.last (o := { dst := none, op := .store 3 (.tmp 54) (.tmp 52), type := 0, pos := "pool.go:41", after := #[{ on := 9, ground := .data }, { on := 7, ground := .data }, { on := 6, ground := .chain }, { on := 0, ground := .phase }, { on := 1, ground := .phase }, { on := 2, ground := .phase }, { on := 3, ground := .phase }, { on := 4, ground := .phase }, { on := 5, ground := .phase }, { on := 6, ground := .phase }, { on := 7, ground := .phase }], guard := none }) rfl (fun K hK => ?_))
  go_simp
  refine hK.out _ _ ?_
  clear hK K
  try simp only [Act.put, List.setIfInBounds_toArray, List.set_cons_zero, List.set_cons_succ]
  refine wpAnyG_done (by kernel_rfl) ?_ _
  go_upto_region 7 with fail
  generalize hw5 : World.setCell _ _ _ = w5
  have H5 := Lib.hid (show PAt w5 B (F &&& ~~~onl (k : Int)) (U ||| onl (k : Int)) (upd g k (x + 1)) (min lo (m : Int)) ∧ Ch (fun j => j = B) w w5 ∧ BoxAt w5 z [.int .i64 0, .int .i64 0] by
    rw [← hw5, HE.out]
    exact ⟨H4.out.1.setL _, H4.out.2.1.setCell ⟨B, 34, none⟩ _ (.inl rfl), H4.out.2.2.other ⟨B, 34, none⟩ _ (by have := HT.out.2.2.2; show B ≠ z; omega)⟩)
  clear hw5 cl fl c4 f4 HE
  generalize (if (m : Int) < lo then (m : Int) else lo) = mv
  go_wp2_with (go_at_call 27; refine (ref_any H5.out.1 k hk32).mono ?_; rintro e w6 ⟨rfl, b6⟩; have HX := Lib.hid (show upd g k (x + 1) k = x + 1 by unfold upd; rw [if_pos rfl]); rw [HX.out]; have H6 := Lib.hid (And.intro (H5.out.1.new b6) (And.intro (H5.out.2.1.trans (Ch.new b6)) (H5.out.2.2.new b6))); have z0 := H6.out.2.2.cell 0 _ rfl; have z1 := H6.out.2.2.cell 1 _ rfl; have fz0 := H6.out.2.2.fr 0; have fz1 := H6.out.2.2.fr 1; have y0 := World.cell?_setCell_same w6 ⟨z, 0, none⟩ (.int .i64 (k : Nat)) z0; have y1 := World.cell?_setCell_same (w6.setCell ⟨z, 0, none⟩ (.int .i64 (k : Nat))) ⟨z, 1, none⟩ (.int .i64 (x + 1)) ((H6.out.2.2.set 0 (.int .i64 (k : Nat)) (by decide)).cell 1 _ rfl); clear b6)
  try simp only [Exit.inBlock, Exit.then]
  generalize hw7 : World.setCell (World.setCell _ _ _) _ _ = w7
  have H7 := Lib.hid (show PAt w7 B (F &&& ~~~onl (k : Int)) (U ||| onl (k : Int)) (upd g k (x + 1)) (min lo (m : Int)) ∧ Ch (fun j => j = B) w w7 by
    rw [← hw7]
    have hc : Ch (fun j => j = z) w6 ((w6.setCell ⟨z, 0, none⟩ (.int .i64 (k : Nat))).setCell ⟨z, 1, none⟩ (.int .i64 (x + 1))) := ((Ch.refl (fun j => j = z) w6).setCell ⟨z, 0, none⟩ _ (.inl rfl)).setCell ⟨z, 1, none⟩ _ (.inl rfl)
    exact ⟨H6.out.1.keep hc (by have := HT.out.2.2.2; omega), (H6.out.2.1.setCell ⟨z, 0, none⟩ _ (.inr HZ.out)).setCell ⟨z, 1, none⟩ _ (.inr HZ.out)⟩)
  have x0 : w7.cell? ⟨z, 0, none⟩ = some (.int .i64 (k : Nat)) := by rw [← hw7]; exact ((H6.out.2.2.set 0 (.int .i64 (k : Nat)) (by decide)).set 1 (.int .i64 (x + 1)) (by simp)).cell 0 _ rfl
  have x1 : w7.cell? ⟨z, 1, none⟩ = some (.int .i64 (x + 1)) := by rw [← hw7]; exact ((H6.out.2.2.set 0 (.int .i64 (k : Nat)) (by decide)).set 1 (.int .i64 (x + 1)) (by simp)).cell 1 _ rfl
  clear hw7 z0 z1 fz0 fz1 y0 y1
  refine bodyPost_ret (v := .tuple #[.agg #[.int .i64 (k : Nat), .int .i64 (x + 1)], .int .i64 0]) (by simp [results, Tryd.results17, go_sem, x0, x1]) rfl ?_
  exact ⟨rfl, H7.out⟩
end Go.Proofs.YtdfknobohgncaaaDoor
