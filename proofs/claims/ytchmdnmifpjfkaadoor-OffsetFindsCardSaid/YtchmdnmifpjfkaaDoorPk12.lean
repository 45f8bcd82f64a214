/- Several texts in one: TF, TG, TH, TI, TJ, YF, TK. -/
import Derived.Test.YtchmdnmifpjfkaaDoorPk11
import Derived.Test.YtchmdnmifpjfkaaDoorPk01
import Derived.Test.YtchmdnmifpjfkaaDoorPk05
import Derived.Handy
import Derived.Deep.QuietTactic
import Derived.DeepKeys
import Derived.ChangeKeysEq
/- The contract of the reference's Response. -/
namespace Go.Proofs.YtchmdnmifpjfkaaDoor
open Go.RowKit

/-- The eleven cells of a task. -/
theorem task_cells {w : World} {V : Nat → Prop} {x : Img} {S : ImgS} (h : ImgAt w V x S) {i : Nat} (hi : i < x.tasks.length) :
    w.cell? ⟨S.t.b, S.t.o + i * 11, none⟩ = some (.int .i64 (x.t i).per) ∧ w.cell? ⟨S.t.b, S.t.o + i * 11 + 1, none⟩ = some (.int .i64 (x.t i).dl) ∧ w.cell? ⟨S.t.b, S.t.o + i * 11 + 2, none⟩ = some (.int .i64 (x.t i).cost) ∧ w.cell? ⟨S.t.b, S.t.o + i * 11 + 3, none⟩ = some (.int .i64 (lonF x i 0)) ∧ w.cell? ⟨S.t.b, S.t.o + i * 11 + 4, none⟩ = some (.int .i64 (lonF x i 1)) ∧ w.cell? ⟨S.t.b, S.t.o + i * 11 + 5, none⟩ = some (.int .i64 (lonF x i 2)) ∧ w.cell? ⟨S.t.b, S.t.o + i * 11 + 6, none⟩ = some (.int .i64 (lonF x i 3)) ∧ w.cell? ⟨S.t.b, S.t.o + i * 11 + 7, none⟩ = some (.int .i64 (lonF x i 4)) ∧ w.cell? ⟨S.t.b, S.t.o + i * 11 + 8, none⟩ = some (.int .i64 (lonF x i 5)) ∧ w.cell? ⟨S.t.b, S.t.o + i * 11 + 9, none⟩ = some (.int .i64 (lonF x i 6)) ∧ w.cell? ⟨S.t.b, S.t.o + i * 11 + 10, none⟩ = some (.int .i64 (lonF x i 7)) := by
  obtain ⟨hcs, h8⟩ := h.tk i hi
  exact ⟨hcs 0 _ rfl, hcs 1 _ rfl, hcs 2 _ rfl, hcs 3 _ (lon_at h8 0 (by omega)), hcs 4 _ (lon_at h8 1 (by omega)), hcs 5 _ (lon_at h8 2 (by omega)), hcs 6 _ (lon_at h8 3 (by omega)), hcs 7 _ (lon_at h8 4 (by omega)), hcs 8 _ (lon_at h8 5 (by omega)), hcs 9 _ (lon_at h8 6 (by omega)), hcs 10 _ (lon_at h8 7 (by omega))⟩
set_option maxHeartbeats 4000000 in
set_option maxRecDepth 100000 in
theorem r18Resp_any {w : World} {V : Nat → Prop} {x : Img} {S : ImgS} (h : ImgAt w V x S) (hG : GoodI x) (s hold c : BitVec 32) (i : Nat) (hi : i < x.tasks.length) :
    Calls Tryd.prog 45 #[.agg #[.int .i64 x.res, .slice S.t.sp x.tasks.length S.t.c, .slice S.m.sp x.modes.length S.m.c, .slice S.e.sp x.edges.length S.e.c], .int .u32 (w32 s), .int .u32 (w32 hold), .int .u32 (w32 c), .int .i64 (i : Nat)] w fun e w' => e = .returned (.tuple #[.int .i64 (tT (rspF x s hold (ceilF x c) i)), .bool (tB (rspF x s hold (ceilF x c) i))]) ∧ Below w.heap.size w w' := by
  have HBk := Lib.hid (show ∀ wx, Below w.heap.size w wx → _ from fun wx hb => r18Block_any (h.new hb) hG hold c i hi)
  have HAh := Lib.hid (show ∀ wx, Below w.heap.size w wx → _ from fun wx hb => Ahead_any (h.new hb) hG s i)
  have hb := blkF_rng hG hold (ceilF x c) (i : Int)
  have hcs := hG.cost i hi
  have hdl := hG.dl i hi
  obtain ⟨L, hL⟩ : ∃ L, tmL x (aheadL x s i) = L := ⟨_, rfl⟩
  have HLl := Lib.hid (show L.length ≤ 16 by rw [← hL, tmL_len]; exact aheadL_len hG s i)
  have hgt : ∀ t ∈ L, GoodT t := by rw [← hL]; exact good_tm hG (fun j hj => (aheadL_lt hj).1)
  have HR := Lib.hid (show rspF x s hold (ceilF x c) i = lookR ((x.t i).cost + blkF x hold (ceilF x c) (i : Int)) (x.t i).dl L by rw [← hL]; rfl)
  rw [HR.out]
  rw [hL] at HAh
  have hq := task_cells h hi
  obtain ⟨hsp, -, -⟩ := h.st.at_ (by omega)
  obtain ⟨f, hf⟩ : ∃ f, lonF x i = f := ⟨_, rfl⟩
  obtain ⟨a0, ha0⟩ : ∃ a, (x.t i).per = a := ⟨_, rfl⟩
  obtain ⟨a1, ha1⟩ : ∃ a, (x.t i).dl = a := ⟨_, rfl⟩
  obtain ⟨a2, ha2⟩ : ∃ a, (x.t i).cost = a := ⟨_, rfl⟩
  obtain ⟨bk, hbk⟩ : ∃ a, blkF x hold (ceilF x c) (i : Int) = a := ⟨_, rfl⟩
  rw [hf, ha0, ha1, ha2] at hq
  rw [ha1] at hdl
  rw [ha2] at hcs
  rw [hbk] at hb HBk
  rw [ha1, ha2, hbk]
  have HWr := Lib.hid (show IntKind.i64.wrap (a2 + bk) = a2 + bk by rw [IntKind.wrap_i64]; omega)
  have HLe := Lib.hid (show ∀ (wx : World) (V' : Nat → Prop) (S' : Src), TermsAt wx V' S' L → _ from fun wx V' S' ht => rleast_any ht (by have := HLl.out; omega) (a2 + bk) a1 (by omega) (by omega) (by omega) hgt)
  obtain ⟨N, hN⟩ : ∃ N, L.length = N := ⟨_, rfl⟩
  have HNN := Lib.hid hN
  rw [hN] at HAh HLe
  obtain ⟨nT, hnT⟩ : ∃ n, x.tasks.length = n := ⟨_, rfl⟩
  obtain ⟨nM, hnM⟩ : ∃ n, x.modes.length = n := ⟨_, rfl⟩
  obtain ⟨nE, hnE⟩ : ∃ n, x.edges.length = n := ⟨_, rfl⟩
  rw [hnT, hnM, hnE] at HBk HAh
  rw [hnT] at hi
  rw [hnT, hnM, hnE]
  rw [hsp] at HBk HAh ⊢
  obtain ⟨tb, htb⟩ : ∃ b, S.t.b = b := ⟨_, rfl⟩
  obtain ⟨to_, hto⟩ : ∃ b, S.t.o = b := ⟨_, rfl⟩
  rw [htb, hto] at hq HBk HAh ⊢
  obtain ⟨k0, k1, k2, k3, k4, k5, k6, k7, k8, k9, k10⟩ := hq
  have e1 : (i : Int) < (nT : Int) := by omega
  obtain ⟨Z, hZ⟩ : ∃ Z, Z = w.heap.size := ⟨_, rfl⟩
  have HZ := Lib.hid hZ
  have hkb := World.block_lt_of_cell? w _ k0
  simp only at hkb
  clear h hL hf ha0 ha1 ha2 hbk hN hnT hnM hnE htb hto hsp hG hb hcs hdl hgt
  go_enter Tryd.func45, Tryd.ntmps45
  go_upto_region 2 with fail
  rw [← hZ]
  generalize hw2 : World.alloc (World.alloc w _) _ = w2
  have H2 := Lib.hid (show Below w.heap.size w w2 ∧ RowAt w2 Z 26 #[.int .i64 x.res, .slice (some ⟨tb, to_, none⟩) nT S.t.c, .slice S.m.sp nM S.m.c, .slice S.e.sp nE S.e.c] ∧ w2.cell? ⟨Z + 1, 1, none⟩ = some (.int .i64 a1) ∧ w2.cell? ⟨Z + 1, 2, none⟩ = some (.int .i64 a2) ∧ Z + 1 < w2.heap.size by
    rw [← hw2, hZ]
    have r1 := RowAt.mk (w.alloc (.cells #[.int .i64 x.res, .slice (some ⟨tb, to_, none⟩) nT S.t.c, .slice S.m.sp nM S.m.c, .slice S.e.sp nE S.e.c] 26)) 70 #[.int .i64 a0, .int .i64 a1, .int .i64 a2, .int .i64 (f 0), .int .i64 (f 1), .int .i64 (f 2), .int .i64 (f 3), .int .i64 (f 4), .int .i64 (f 5), .int .i64 (f 6), .int .i64 (f 7)]
    rw [World.size_alloc] at r1
    exact ⟨((Below.refl _ _).alloc (Nat.le_refl _) _).alloc (by simp) _, row_keep (RowAt.mk _ _ _) _, r1.cell 1, r1.cell 2, by simp⟩)
  have HCe := Lib.hid (show ∀ w', Below w2.heap.size w2 w' → (w'.cell? ⟨Z, 0, none⟩ = some (.int .i64 x.res) ∧ w'.cell? ⟨Z, 1, none⟩ = some (.slice (some ⟨tb, to_, none⟩) nT S.t.c) ∧ w'.cell? ⟨Z, 2, none⟩ = some (.slice S.m.sp nM S.m.c) ∧ w'.cell? ⟨Z, 3, none⟩ = some (.slice S.e.sp nE S.e.c) ∧ w'.cell? ⟨Z + 1, 1, none⟩ = some (.int .i64 a1) ∧ w'.cell? ⟨Z + 1, 2, none⟩ = some (.int .i64 a2)) from fun w' hb =>
    ⟨(hb.cell H2.out.2.1.lt).trans (H2.out.2.1.cell 0), (hb.cell H2.out.2.1.lt).trans (H2.out.2.1.cell 1), (hb.cell H2.out.2.1.lt).trans (H2.out.2.1.cell 2), (hb.cell H2.out.2.1.lt).trans (H2.out.2.1.cell 3), (hb.cell H2.out.2.2.2.2).trans H2.out.2.2.1, (hb.cell H2.out.2.2.2.2).trans H2.out.2.2.2.1⟩)
  have HB2 := Lib.hid (show ∀ w', Below w2.heap.size w2 w' → Below w.heap.size w w' from fun w' hb => H2.out.1.trans (hb.mono H2.out.1.size))
  clear hw2 hZ k0 k1 k2 k3 k4 k5 k6 k7 k8 k9 k10 hkb
  refine wp_region_held_drew (S := fun w' => Below w2.heap.size w2 w') (by kernel_rfl) (below_dn (Below.refl _ _) 1) (fun hS => ?_)
  refine wpAnyH_take (i := 0) (oi := { dst := some 18, op := .fieldAddr 70 (.tmp 12) 2, type := 0, pos := "ref.go:52", after := #[], guard := none }) (v := ?_) rfl (by kernel_rfl) (by kernel_rfl) (by kernel_rfl) (fun _ _ _ h => h) (Or.inl ⟨by rfl, ?_⟩) hS ?_
  rotate_left 1
  · intro w hw; obtain hs := hw; go_simp; try (with_reducible rfl)
  simp only [Act.put, List.setIfInBounds_toArray, List.set_cons_zero, List.set_cons_succ]
  refine wpAnyH_take (i := 1) (oi := { dst := some 19, op := .load 3 (.tmp 18), type := 3, pos := "ref.go:52", after := #[{ on := 0, ground := .data }], guard := none }) (v := ?_) rfl (by kernel_rfl) (by kernel_rfl) (by kernel_rfl) (fun _ _ _ h => h) (Or.inl ⟨by rfl, ?_⟩) hS ?_
  rotate_left 1
  · intro w hw; obtain hs := hw; obtain ⟨k0, k1, k2, k3, k4, k5⟩ := HCe.out _ hw; go_simp; try (with_reducible rfl)
  simp only [Act.put, List.setIfInBounds_toArray, List.set_cons_zero, List.set_cons_succ]
  refine wpAnyH_take (i := 2) (oi := { dst := some 20, op := .load 26 (.tmp 5), type := 26, pos := "ref.go:52", after := #[], guard := none }) (v := ?_) rfl (by kernel_rfl) (by kernel_rfl) (by kernel_rfl) (fun _ _ _ h => h) (Or.inl ⟨by rfl, ?_⟩) hS ?_
  rotate_left 1
  · intro w hw; obtain hs := hw; obtain ⟨k0, k1, k2, k3, k4, k5⟩ := HCe.out _ hw; go_simp; try (with_reducible rfl)
  simp only [Act.put, List.setIfInBounds_toArray, List.set_cons_zero, List.set_cons_succ]
  refine wpAnyH_take (i := 3) (oi := { dst := some 21, op := .move (.tmp 2), type := 30, pos := "ref.go:52", after := #[], guard := none }) (v := ?_) rfl (by kernel_rfl) (by kernel_rfl) (by kernel_rfl) (fun _ _ _ h => h) (Or.inl ⟨by rfl, ?_⟩) hS ?_
  rotate_left 1
  · intro w hw; obtain hs := hw; go_simp; try (with_reducible rfl)
  simp only [Act.put, List.setIfInBounds_toArray, List.set_cons_zero, List.set_cons_succ]
  refine wpAnyH_take (i := 4) (oi := { dst := some 22, op := .move (.tmp 3), type := 30, pos := "ref.go:52", after := #[], guard := none }) (v := ?_) rfl (by kernel_rfl) (by kernel_rfl) (by kernel_rfl) (fun _ _ _ h => h) (Or.inl ⟨by rfl, ?_⟩) hS ?_
  rotate_left 1
  · intro w hw; obtain hs := hw; go_simp; try (with_reducible rfl)
  simp only [Act.put, List.setIfInBounds_toArray, List.set_cons_zero, List.set_cons_succ]
  refine wpAnyH_take (i := 5) (oi := { dst := some 23, op := .move (.tmp 4), type := 3, pos := "ref.go:52", after := #[], guard := none }) (v := ?_) rfl (by kernel_rfl) (by kernel_rfl) (by kernel_rfl) (fun _ _ _ h => h) (Or.inl ⟨by rfl, ?_⟩) hS ?_
  rotate_left 1
  · intro w hw; obtain hs := hw; go_simp; try (with_reducible rfl)
  simp only [Act.put, List.setIfInBounds_toArray, List.set_cons_zero, List.set_cons_succ]
  refine wpAnyH_take (i := 8) (oi := { dst := some 26, op := .fieldAddr 70 (.tmp 12) 1, type := 0, pos := "ref.go:52", after := #[], guard := none }) (v := ?_) rfl (by kernel_rfl) (by kernel_rfl) (by kernel_rfl) (fun _ _ _ h => h) (Or.inl ⟨by rfl, ?_⟩) hS ?_
  rotate_left 1
  · intro w hw; obtain hs := hw; go_simp; try (with_reducible rfl)
  simp only [Act.put, List.setIfInBounds_toArray, List.set_cons_zero, List.set_cons_succ]
  refine wpAnyH_take (i := 9) (oi := { dst := some 27, op := .load 3 (.tmp 26), type := 3, pos := "ref.go:52", after := #[{ on := 8, ground := .data }], guard := none }) (v := ?_) rfl (by kernel_rfl) (by kernel_rfl) (by kernel_rfl) (fun _ _ _ h => h) (Or.inl ⟨by rfl, ?_⟩) hS ?_
  rotate_left 1
  · intro w hw; obtain hs := hw; obtain ⟨k0, k1, k2, k3, k4, k5⟩ := HCe.out _ hw; go_simp; try (with_reducible rfl)
  simp only [Act.put, List.setIfInBounds_toArray, List.set_cons_zero, List.set_cons_succ]
  refine wpAnyH_take (i := 10) (oi := { dst := some 28, op := .load 26 (.tmp 5), type := 26, pos := "ref.go:52", after := #[], guard := none }) (v := ?_) rfl (by kernel_rfl) (by kernel_rfl) (by kernel_rfl) (fun _ _ _ h => h) (Or.inl ⟨by rfl, ?_⟩) hS ?_
  rotate_left 1
  · intro w hw; obtain hs := hw; obtain ⟨k0, k1, k2, k3, k4, k5⟩ := HCe.out _ hw; go_simp; try (with_reducible rfl)
  simp only [Act.put, List.setIfInBounds_toArray, List.set_cons_zero, List.set_cons_succ]
  refine wpAnyH_take (i := 11) (oi := { dst := some 29, op := .move (.tmp 1), type := 30, pos := "ref.go:52", after := #[], guard := none }) (v := ?_) rfl (by kernel_rfl) (by kernel_rfl) (by kernel_rfl) (fun _ _ _ h => h) (Or.inl ⟨by rfl, ?_⟩) hS ?_
  rotate_left 1
  · intro w hw; obtain hs := hw; go_simp; try (with_reducible rfl)
  simp only [Act.put, List.setIfInBounds_toArray, List.set_cons_zero, List.set_cons_succ]
  refine wpAnyH_take (i := 12) (oi := { dst := some 30, op := .move (.tmp 4), type := 3, pos := "ref.go:52", after := #[], guard := none }) (v := ?_) rfl (by kernel_rfl) (by kernel_rfl) (by kernel_rfl) (fun _ _ _ h => h) (Or.inl ⟨by rfl, ?_⟩) hS ?_
  rotate_left 1
  · intro w hw; obtain hs := hw; go_simp; try (with_reducible rfl)
  simp only [Act.put, List.setIfInBounds_toArray, List.set_cons_zero, List.set_cons_succ]
  refine wpAnyH_ready (rs := [6]) (by kernel_rfl) (by simp) (AllReadyH.cons (o := { dst := some 24, op := .call { callee := .value (.func 44), args := #[.tmp 20, .tmp 21, .tmp 22, .tmp 23], argTypes := #[26, 30, 30, 3] }, type := 3, pos := "ref.go:52", after := #[{ on := 2, ground := .data }, { on := 3, ground := .data }, { on := 4, ground := .data }, { on := 5, ground := .data }], guard := none }) rfl (fun K hK => ?_) AllReadyH.nil)
  go_simp
  go_at_call 44
  refine (HBk.out _ (HB2.out _ hS)).mono ?_
  rintro e w5 ⟨rfl, b5⟩
  have H5 := Lib.hid (show Below w2.heap.size w2 w5 from hS.trans (b5.mono hS.size))
  clear b5
  try dsimp only
  refine hK.out _ _ H5.out (fun hHeld => ?_)
  clear hK K
  try simp only [Act.put, List.setIfInBounds_toArray, List.set_cons_zero, List.set_cons_succ]
  refine wpAnyH_take (i := 7) (oi := { dst := some 25, op := .binOp .add 3 (.tmp 19) (.tmp 24) 3, type := 3, pos := "ref.go:52", after := #[{ on := 1, ground := .data }, { on := 6, ground := .data }], guard := none }) (v := (.int .i64 (a2 + bk))) rfl (by kernel_rfl) (by kernel_rfl) (by kernel_rfl) (fun _ _ _ h => h) (Or.inl ⟨by rfl, ?_⟩) H5.out ?_
  · intro w hw; obtain hs := hw; have k0 := HWr.out; go_simp; try (with_reducible rfl)
  simp only [Act.put, List.setIfInBounds_toArray, List.set_cons_zero, List.set_cons_succ]
  refine wpAnyH_ready (rs := [13]) (by kernel_rfl) (by simp) (AllReadyH.cons (o := { dst := some 31, op := .call { callee := .value (.func 73), args := #[.tmp 28, .tmp 29, .tmp 30], argTypes := #[26, 30, 3] }, type := 86, pos := "ref.go:52", after := #[{ on := 10, ground := .data }, { on := 11, ground := .data }, { on := 12, ground := .data }, { on := 6, ground := .chain }], guard := none }) rfl (fun K hK => ?_) AllReadyH.nil)
  go_simp
  go_at_call 73
  refine (HAh.out _ (HB2.out _ H5.out)).mono ?_
  rintro e w6 ⟨v6, rfl, o6, b6⟩
  rw [← HNN.out] at o6
  obtain ⟨S6, rfl, t6⟩ := own_terms o6 (by have := HLl.out; omega)
  rw [HNN.out]
  have H6 := Lib.hid (show Below w2.heap.size w2 w6 ∧ TermsAt w6 (fun j => j < w5.heap.size) S6 L from ⟨H5.out.trans (b6.mono H5.out.size), t6⟩)
  clear b6 t6 o6
  try dsimp only
  refine hK.out _ _ H6.out.1 (fun hHeld => ?_)
  clear hK K
  try simp only [Act.put, List.setIfInBounds_toArray, List.set_cons_zero, List.set_cons_succ]
  refine wpAnyH_ready (rs := [14]) (by kernel_rfl) (by simp) (AllReadyH.cons (o := { dst := some 32, op := .call { callee := .value (.func 43), args := #[.tmp 25, .tmp 27, .tmp 31], argTypes := #[3, 3, 86] }, type := 40, pos := "ref.go:52", after := #[{ on := 7, ground := .data }, { on := 9, ground := .data }, { on := 13, ground := .data }, { on := 13, ground := .chain }], guard := none }) rfl (fun K hK => ?_) AllReadyH.nil)
  go_simp
  go_at_call 43
  refine (HLe.out _ _ S6 H6.out.2).mono ?_
  rintro e w7 ⟨rfl, b7⟩
  have H7 := Lib.hid (show Below w2.heap.size w2 w7 from H6.out.1.trans (b7.mono H6.out.1.size))
  clear b7
  try dsimp only
  refine hK.out _ _ H7.out (fun hHeld => ?_)
  clear hK K
  try simp only [Act.put, List.setIfInBounds_toArray, List.set_cons_zero, List.set_cons_succ]
  refine wpAnyH_take (i := 15) (oi := { dst := some 33, op := .extract (.tmp 32) 0, type := 3, pos := "ref.go:52", after := #[{ on := 14, ground := .data }], guard := none }) (v := ?_) rfl (by kernel_rfl) (by kernel_rfl) (by kernel_rfl) (fun _ _ _ h => h) (Or.inl ⟨by rfl, ?_⟩) H7.out ?_
  rotate_left 1
  · intro w hw; obtain hs := hw; go_simp; try (with_reducible rfl)
  simp only [Act.put, List.setIfInBounds_toArray, List.set_cons_zero, List.set_cons_succ]
  refine wpAnyH_take (i := 16) (oi := { dst := some 34, op := .extract (.tmp 32) 1, type := 4, pos := "ref.go:52", after := #[{ on := 14, ground := .data }], guard := none }) (v := ?_) rfl (by kernel_rfl) (by kernel_rfl) (by kernel_rfl) (fun _ _ _ h => h) (Or.inl ⟨by rfl, ?_⟩) H7.out ?_
  rotate_left 1
  · intro w hw; obtain hs := hw; go_simp; try (with_reducible rfl)
  simp only [Act.put, List.setIfInBounds_toArray, List.set_cons_zero, List.set_cons_succ]
  refine wpAnyH_ready (rs := [17]) (by kernel_rfl) (by simp) (AllReadyH.cons (o := { dst := some 10, op := .assign (.tmp 33), type := 3, pos := "ref.go:52", after := #[{ on := 15, ground := .data }, { on := 14, ground := .chain }, { on := 0, ground := .phase }, { on := 1, ground := .phase }, { on := 2, ground := .phase }, { on := 3, ground := .phase }, { on := 4, ground := .phase }, { on := 5, ground := .phase }, { on := 6, ground := .phase }, { on := 7, ground := .phase }, { on := 8, ground := .phase }, { on := 9, ground := .phase }, { on := 10, ground := .phase }, { on := 11, ground := .phase }, { on := 12, ground := .phase }, { on := 13, ground := .phase }, { on := 14, ground := .phase }, { on := 15, ground := .phase }, { on := 16, ground := .phase }], guard := none }) rfl (fun K hK => ?_) AllReadyH.nil)
  go_simp
  refine hK.out _ _ H7.out (fun hHeld => ?_)
  clear hK K
  try simp only [Act.put, List.setIfInBounds_toArray, List.set_cons_zero, List.set_cons_succ]
  refine wpAnyH_ready (rs := [18]) (by kernel_rfl) (by simp) (AllReadyH.cons (o := { dst := some 11, op := .assign (.tmp 34), type := 4, pos := "ref.go:52", after := #[{ on := 16, ground := .data }, { on := 17, ground := .chain }, { on := 0, ground := .phase }, { on := 1, ground := .phase }, { on := 2, ground := .phase }, { on := 3, ground := .phase }, { on := 4, ground := .phase }, { on := 5, ground := .phase }, { on := 6, ground := .phase }, { on := 7, ground := .phase }, { on := 8, ground := .phase }, { on := 9, ground := .phase }, { on := 10, ground := .phase }, { on := 11, ground := .phase }, { on := 12, ground := .phase }, { on := 13, ground := .phase }, { on := 14, ground := .phase }, { on := 15, ground := .phase }, { on := 16, ground := .phase }, { on := 17, ground := .phase }], guard := none }) rfl (fun K hK => ?_) AllReadyH.nil)
  go_simp
  refine hK.out _ _ H7.out (fun hHeld => ?_)
  clear hK K
  try simp only [Act.put, List.setIfInBounds_toArray, List.set_cons_zero, List.set_cons_succ]
  refine wpAnyH_done (by kernel_rfl) ?_ _

  go_wp2
  go_ret2
  exact ⟨rfl, HB2.out _ H7.out⟩
end Go.Proofs.YtchmdnmifpjfkaaDoor
/- The contract of steady's Response. -/
namespace Go.Proofs.YtchmdnmifpjfkaaDoor
open Go.RowKit

set_option maxHeartbeats 4000000 in
set_option maxRecDepth 100000 in
theorem stResp_no {w : World} {x : Img} {S : ImgS} (s hold : BitVec 32) (f : Nat → Int) (task : Int) (hi : task < 0 ∨ (x.tasks.length : Int) ≤ task) :
    Calls Tryd.prog 37 #[.agg #[.int .i64 x.res, .slice S.t.sp x.tasks.length S.t.c, .slice S.m.sp x.modes.length S.m.c, .slice S.e.sp x.edges.length S.e.c], .int .u32 (w32 s), .int .u32 (w32 hold), .agg (tb f), .int .i64 task] w fun e w' => e = .returned (.tuple #[.agg #[.int .i64 0, .int .i64 0, .int .i64 0], .bool false]) ∧ Below w.heap.size w w' := by
  obtain ⟨T, hT⟩ : ∃ T, tb f = T := ⟨_, rfl⟩
  rw [hT]
  obtain ⟨nT, hnT⟩ : ∃ n, x.tasks.length = n := ⟨_, rfl⟩
  rw [hnT] at hi ⊢
  have HB := Lib.hid (show ∀ (a b c : Obj), Below w.heap.size w (((w.alloc a).alloc b).alloc c) from fun a b c => (((Below.refl _ _).alloc (Nat.le_refl _) _).alloc (by simp) _).alloc (by simp; omega) _)
  clear hT hnT
  by_cases h0 : task < 0
  · clear hi
    go_enter Tryd.func37, Tryd.ntmps37
    go_wp2
    go_returns
    exact ⟨rfl, HB.out _ _ _⟩
  · have h1 : (nT : Int) ≤ task := by omega
    clear hi
    go_enter Tryd.func37, Tryd.ntmps37
    go_wp2
    go_returns
    exact ⟨rfl, HB.out _ _ _⟩
set_option maxHeartbeats 4000000 in
set_option maxRecDepth 100000 in
theorem stResp_any {w : World} {V : Nat → Prop} {x : Img} {S : ImgS} (h : ImgAt w V x S) (ht : Tab w) (hG : GoodI x) (s hold : BitVec 32) (ff : Nat → Int) (i : Nat) (hi : i < x.tasks.length) :
    Calls Tryd.prog 37 #[.agg #[.int .i64 x.res, .slice S.t.sp x.tasks.length S.t.c, .slice S.m.sp x.modes.length S.m.c, .slice S.e.sp x.edges.length S.e.c], .int .u32 (w32 s), .int .u32 (w32 hold), .agg (tb ff), .int .i64 (i : Nat)] w fun e w' => e = .returned (.tuple #[.agg #[.int .i64 (i : Nat), .int .i64 (blkF x hold ff (i : Int)), .int .i64 (tT (rspF x s hold ff i))], .bool (tB (rspF x s hold ff i))]) ∧ Below w.heap.size w w' := by
  have hp := ht.pos
  have HBk := Lib.hid (show ∀ wx, Below w.heap.size w wx → _ from fun wx hb => stBlock_any (h.new hb) (ht.below hp hb) hG hold ff (i : Int))
  have HTm := Lib.hid (show ∀ wx, Below w.heap.size w wx → _ from fun wx hb => terms_any (h.new hb) (ht.below hp hb) (btw s (-1) (i : Int)))
  have HBl := Lib.hid (show ∀ wx, _ from fun wx => below_any s (i : Int) wx)
  have hb := blkF_rng hG hold ff (i : Int)
  have hcs := hG.cost i hi
  have hdl := hG.dl i hi
  obtain ⟨L, hL⟩ : ∃ L, tmL x (aheadL x s i) = L := ⟨_, rfl⟩
  have HLl := Lib.hid (show L.length ≤ 16 by rw [← hL, tmL_len]; exact aheadL_len hG s i)
  have HR := Lib.hid (show rspF x s hold ff i = lookR ((x.t i).cost + blkF x hold ff (i : Int)) (x.t i).dl L by rw [← hL]; rfl)
  rw [HR.out]
  rw [aheadL_eq hG, tmL_row, show (aheadL x s i).length = (tmL x (aheadL x s i)).length from (tmL_len _ _).symm, hL] at HTm
  have hq := task_cells h hi
  obtain ⟨hsp, -, -⟩ := h.st.at_ (by omega)
  obtain ⟨f, hf⟩ : ∃ f, lonF x i = f := ⟨_, rfl⟩
  obtain ⟨a0, ha0⟩ : ∃ a, (x.t i).per = a := ⟨_, rfl⟩
  obtain ⟨a1, ha1⟩ : ∃ a, (x.t i).dl = a := ⟨_, rfl⟩
  obtain ⟨a2, ha2⟩ : ∃ a, (x.t i).cost = a := ⟨_, rfl⟩
  obtain ⟨bk, hbk⟩ : ∃ a, blkF x hold ff (i : Int) = a := ⟨_, rfl⟩
  rw [hf, ha0, ha1, ha2] at hq
  rw [ha1] at hdl
  rw [ha2] at hcs
  rw [hbk] at hb HBk
  rw [ha1, ha2, hbk]
  have HWr := Lib.hid (show IntKind.i64.wrap (a2 + bk) = a2 + bk by rw [IntKind.wrap_i64]; omega)
  have HLe := Lib.hid (show ∀ (wx : World) (V' : Nat → Prop) (S' : Src), TermsAt wx V' S' L → _ from fun wx V' S' ht => least_any ht (by have := HLl.out; omega) (a2 + bk) a1 (by omega))
  obtain ⟨tt, htt⟩ : ∃ v, tT (lookR (a2 + bk) a1 L) = v := ⟨_, rfl⟩
  obtain ⟨bt, hbt⟩ : ∃ v, tB (lookR (a2 + bk) a1 L) = v := ⟨_, rfl⟩
  rw [htt, hbt] at HLe ⊢
  clear htt hbt
  obtain ⟨N, hN⟩ : ∃ N, L.length = N := ⟨_, rfl⟩
  have HNN := Lib.hid hN
  rw [hN] at HTm HLe
  have HTi := Lib.hid (tb_info ff)
  obtain ⟨T, hT⟩ : ∃ T, tb ff = T := ⟨_, rfl⟩
  rw [hT] at HBk HTi ⊢
  obtain ⟨nT, hnT⟩ : ∃ n, x.tasks.length = n := ⟨_, rfl⟩
  obtain ⟨nM, hnM⟩ : ∃ n, x.modes.length = n := ⟨_, rfl⟩
  obtain ⟨nE, hnE⟩ : ∃ n, x.edges.length = n := ⟨_, rfl⟩
  rw [hnT, hnM, hnE] at HBk HTm
  rw [hnT] at hi
  rw [hnT, hnM, hnE]
  rw [hsp] at HBk HTm ⊢
  obtain ⟨tb, htb⟩ : ∃ b, S.t.b = b := ⟨_, rfl⟩
  obtain ⟨to_, hto⟩ : ∃ b, S.t.o = b := ⟨_, rfl⟩
  rw [htb, hto] at hq HBk HTm ⊢
  have e1 : (i : Int) < (nT : Int) := by omega
  obtain ⟨Z, hZ⟩ : ∃ Z, Z = w.heap.size := ⟨_, rfl⟩
  have HZ := Lib.hid hZ
  obtain ⟨k0, k1, k2, k3, k4, k5, k6, k7, k8, k9, k10⟩ := hq
  have hkb := World.block_lt_of_cell? w _ k0
  simp only at hkb
  obtain ⟨y, hy⟩ : ∃ y, btw s (-1) (i : Int) = y := ⟨_, rfl⟩
  rw [hy] at HTm HBl
  clear h ht hp hL hf ha0 ha1 ha2 hbk hN hnT hnM hnE htb hto hsp hG hb hcs hdl hT hy
  go_enter Tryd.func37, Tryd.ntmps37
  go_upto_region 1 with fail
  rw [← hZ]
  generalize hw1 : World.alloc (World.alloc (World.alloc w _) _) _ = w1
  have H1 := Lib.hid (show Below w.heap.size w w1 ∧ w1.heap.size = Z + 3 ∧ RowAt w1 Z 26 #[.int .i64 x.res, .slice (some ⟨tb, to_, none⟩) nT S.t.c, .slice S.m.sp nM S.m.c, .slice S.e.sp nE S.e.c] ∧ RowAt w1 (Z + 1) 73 T ∧ RowAt w1 (Z + 2) 79 #[.int .i64 0, .int .i64 0, .int .i64 0] by
    rw [← hw1, hZ]
    exact rows3 w _ _ _ _ _ _)
  clear hw1 hZ
  have c1 : w1.cell? ⟨Z, 1, none⟩ = some (.slice (some ⟨tb, to_, none⟩) nT S.t.c) := H1.out.2.2.1.cell 1
  have k0 := (H1.out.1.cell hkb).trans k0
  have k1 := (H1.out.1.cell hkb).trans k1
  have k2 := (H1.out.1.cell hkb).trans k2
  have k3 := (H1.out.1.cell hkb).trans k3
  have k4 := (H1.out.1.cell hkb).trans k4
  have k5 := (H1.out.1.cell hkb).trans k5
  have k6 := (H1.out.1.cell hkb).trans k6
  have k7 := (H1.out.1.cell hkb).trans k7
  have k8 := (H1.out.1.cell hkb).trans k8
  have k9 := (H1.out.1.cell hkb).trans k9
  have k10 := (H1.out.1.cell hkb).trans k10
  have hn0 : ¬ (i : Int) < 0 := by omega
  have hn1 : ¬ (nT : Int) ≤ (i : Int) := by omega
  go_upto_region 4 with fail
  rw [H1.out.2.1]
  generalize hw2 : World.alloc w1 _ = w2
  have H2 := Lib.hid (show Below w.heap.size w w2 ∧ w2.heap.size = Z + 4 ∧ RowAt w2 Z 26 #[.int .i64 x.res, .slice (some ⟨tb, to_, none⟩) nT S.t.c, .slice S.m.sp nM S.m.c, .slice S.e.sp nE S.e.c] ∧ RowAt w2 (Z + 1) 73 T ∧ RowAt w2 (Z + 2) 79 #[.int .i64 0, .int .i64 0, .int .i64 0] ∧ RowAt w2 (Z + 3) 70 #[.int .i64 a0, .int .i64 a1, .int .i64 a2, .int .i64 (f 0), .int .i64 (f 1), .int .i64 (f 2), .int .i64 (f 3), .int .i64 (f 4), .int .i64 (f 5), .int .i64 (f 6), .int .i64 (f 7)] by
    rw [← hw2]
    exact ⟨below_alloc H1.out.1 (Nat.le_refl _) _, by simp [H1.out.2.1], row_keep H1.out.2.2.1 _, row_keep H1.out.2.2.2.1 _, row_keep H1.out.2.2.2.2 _, row_next _ _ H1.out.2.1 _ _⟩)
  clear hw2 k0 k1 k2 k3 k4 k5 k6 k7 k8 k9 k10 hkb c1 H1
  have c0 : w2.cell? ⟨Z, 0, none⟩ = some (.int .i64 x.res) := H2.out.2.2.1.cell 0
  have c1 : w2.cell? ⟨Z, 1, none⟩ = some (.slice (some ⟨tb, to_, none⟩) nT S.t.c) := H2.out.2.2.1.cell 1
  have c2 : w2.cell? ⟨Z, 2, none⟩ = some (.slice S.m.sp nM S.m.c) := H2.out.2.2.1.cell 2
  have c3 : w2.cell? ⟨Z, 3, none⟩ = some (.slice S.e.sp nE S.e.c) := H2.out.2.2.1.cell 3
  go_upto_region 5 with (first
    | (refine wpList_load_row rfl 73 (.tmp 8) rfl (Z + 1) rfl 73 T (0, 0) _ H2.out.2.2.2.1 Tryd.underlying73 rfl HTi.out ?_)
    | (go_at_call 35; refine (HBk.out _ H2.out.1).mono ?_; rintro e w3 ⟨rfl, b3⟩; have H3 := Lib.hid b3; clear b3)
    | fail)
  obtain ⟨B, hB⟩ : ∃ B, B = w3.heap.size := ⟨_, rfl⟩
  rw [← hB]
  generalize hw4 : World.alloc w3 _ = w4
  have H4 := Lib.hid (show Below w.heap.size w w4 ∧ w4.heap.size = B + 1 ∧ RowAt w4 Z 26 #[.int .i64 x.res, .slice (some ⟨tb, to_, none⟩) nT S.t.c, .slice S.m.sp nM S.m.c, .slice S.e.sp nE S.e.c] ∧ RowAt w4 (Z + 2) 79 #[.int .i64 0, .int .i64 0, .int .i64 0] ∧ w4.cell? ⟨Z + 3, 1, none⟩ = some (.int .i64 a1) ∧ w4.cell? ⟨Z + 3, 2, none⟩ = some (.int .i64 a2) ∧ RowAt w4 B 79 #[.int .i64 (i : Nat), .int .i64 bk, .int .i64 0] ∧ Z + 3 < B by
    have hz := H3.out.size
    have hz2 := H2.out.2.1
    have bb : Below w2.heap.size w2 w4 := by rw [← hw4]; exact below_alloc H3.out (Nat.le_refl _) _
    rw [← hw4]
    refine ⟨H2.out.1.trans ((below_alloc H3.out (Nat.le_refl _) _).mono H2.out.1.size), by simp [hB], row_keep (H2.out.2.2.1.new H3.out) _, row_keep (H2.out.2.2.2.2.1.new H3.out) _, ?_, ?_, row_next _ _ hB.symm _ _, by omega⟩
    · exact (row_keep (H2.out.2.2.2.2.2.new H3.out) _).cell 1
    · exact (row_keep (H2.out.2.2.2.2.2.new H3.out) _).cell 2)
  clear hw4 hB H2 H3 c0 c1 c2 c3 HBk
  have HCe := Lib.hid (show ∀ w', Below w4.heap.size w4 w' → (w'.cell? ⟨Z, 0, none⟩ = some (.int .i64 x.res) ∧ w'.cell? ⟨Z, 1, none⟩ = some (.slice (some ⟨tb, to_, none⟩) nT S.t.c) ∧ w'.cell? ⟨Z, 2, none⟩ = some (.slice S.m.sp nM S.m.c) ∧ w'.cell? ⟨Z, 3, none⟩ = some (.slice S.e.sp nE S.e.c) ∧ w'.cell? ⟨Z + 3, 1, none⟩ = some (.int .i64 a1) ∧ w'.cell? ⟨Z + 3, 2, none⟩ = some (.int .i64 a2) ∧ w'.cell? ⟨B, 1, none⟩ = some (.int .i64 bk)) from fun w' hb => by
    have h0 := H4.out.2.2.1.lt
    have h3 : Z + 3 < w4.heap.size := by have := H4.out.2.1; have := H4.out.2.2.2.2.2.2.2; omega
    have hb3 := H4.out.2.2.2.2.2.2.1.lt
    exact ⟨(hb.cell h0).trans (H4.out.2.2.1.cell 0), (hb.cell h0).trans (H4.out.2.2.1.cell 1), (hb.cell h0).trans (H4.out.2.2.1.cell 2), (hb.cell h0).trans (H4.out.2.2.1.cell 3), (hb.cell h3).trans H4.out.2.2.2.2.1, (hb.cell h3).trans H4.out.2.2.2.2.2.1, (hb.cell hb3).trans (H4.out.2.2.2.2.2.2.1.cell 1)⟩)
  have HB2 := Lib.hid (show ∀ w', Below w4.heap.size w4 w' → Below w.heap.size w w' from fun w' hb => H4.out.1.trans (hb.mono H4.out.1.size))
  refine wp_region_held_drew (S := fun w' => Below w4.heap.size w4 w') (by kernel_rfl) (below_dn (Below.refl _ _) 1) (fun hS => ?_)
  refine wpAnyH_take (i := 0) (oi := { dst := some 39, op := .fieldAddr 70 (.tmp 12) 2, type := 0, pos := "steady.go:44", after := #[], guard := none }) (v := ?_) rfl (by kernel_rfl) (by kernel_rfl) (by kernel_rfl) (fun _ _ _ h => h) (Or.inl ⟨by rfl, ?_⟩) hS ?_
  rotate_left 1
  · intro w hw; obtain hs := hw; go_simp; try (with_reducible rfl)
  simp only [Act.put, List.setIfInBounds_toArray, List.set_cons_zero, List.set_cons_succ]
  refine wpAnyH_take (i := 1) (oi := { dst := some 40, op := .load 3 (.tmp 39), type := 3, pos := "steady.go:44", after := #[{ on := 0, ground := .data }], guard := none }) (v := ?_) rfl (by kernel_rfl) (by kernel_rfl) (by kernel_rfl) (fun _ _ _ h => h) (Or.inl ⟨by rfl, ?_⟩) hS ?_
  rotate_left 1
  · intro w hw; obtain hs := hw; obtain ⟨k0, k1, k2, k3, k4, k5, k6⟩ := HCe.out _ hw; go_simp; try (with_reducible rfl)
  simp only [Act.put, List.setIfInBounds_toArray, List.set_cons_zero, List.set_cons_succ]
  refine wpAnyH_take (i := 2) (oi := { dst := some 41, op := .fieldAddr 79 (.tmp 13) 1, type := 0, pos := "steady.go:44", after := #[], guard := none }) (v := ?_) rfl (by kernel_rfl) (by kernel_rfl) (by kernel_rfl) (fun _ _ _ h => h) (Or.inl ⟨by rfl, ?_⟩) hS ?_
  rotate_left 1
  · intro w hw; obtain hs := hw; go_simp; try (with_reducible rfl)
  simp only [Act.put, List.setIfInBounds_toArray, List.set_cons_zero, List.set_cons_succ]
  refine wpAnyH_take (i := 3) (oi := { dst := some 42, op := .load 3 (.tmp 41), type := 3, pos := "steady.go:44", after := #[{ on := 2, ground := .data }], guard := none }) (v := ?_) rfl (by kernel_rfl) (by kernel_rfl) (by kernel_rfl) (fun _ _ _ h => h) (Or.inl ⟨by rfl, ?_⟩) hS ?_
  rotate_left 1
  · intro w hw; obtain hs := hw; obtain ⟨k0, k1, k2, k3, k4, k5, k6⟩ := HCe.out _ hw; go_simp; try (with_reducible rfl)
  simp only [Act.put, List.setIfInBounds_toArray, List.set_cons_zero, List.set_cons_succ]
  refine wpAnyH_take (i := 4) (oi := { dst := some 43, op := .binOp .add 3 (.tmp 40) (.tmp 42) 3, type := 3, pos := "steady.go:44", after := #[{ on := 1, ground := .data }, { on := 3, ground := .data }], guard := none }) (v := (.int .i64 (a2 + bk))) rfl (by kernel_rfl) (by kernel_rfl) (by kernel_rfl) (fun _ _ _ h => h) (Or.inl ⟨by rfl, ?_⟩) hS ?_
  · intro w hw; obtain hs := hw; have k0 := HWr.out; go_simp; try (with_reducible rfl)
  simp only [Act.put, List.setIfInBounds_toArray, List.set_cons_zero, List.set_cons_succ]
  refine wpAnyH_take (i := 5) (oi := { dst := some 44, op := .fieldAddr 70 (.tmp 12) 1, type := 0, pos := "steady.go:44", after := #[], guard := none }) (v := ?_) rfl (by kernel_rfl) (by kernel_rfl) (by kernel_rfl) (fun _ _ _ h => h) (Or.inl ⟨by rfl, ?_⟩) hS ?_
  rotate_left 1
  · intro w hw; obtain hs := hw; go_simp; try (with_reducible rfl)
  simp only [Act.put, List.setIfInBounds_toArray, List.set_cons_zero, List.set_cons_succ]
  refine wpAnyH_take (i := 6) (oi := { dst := some 45, op := .load 3 (.tmp 44), type := 3, pos := "steady.go:44", after := #[{ on := 5, ground := .data }], guard := none }) (v := ?_) rfl (by kernel_rfl) (by kernel_rfl) (by kernel_rfl) (fun _ _ _ h => h) (Or.inl ⟨by rfl, ?_⟩) hS ?_
  rotate_left 1
  · intro w hw; obtain hs := hw; obtain ⟨k0, k1, k2, k3, k4, k5, k6⟩ := HCe.out _ hw; go_simp; try (with_reducible rfl)
  simp only [Act.put, List.setIfInBounds_toArray, List.set_cons_zero, List.set_cons_succ]
  refine wpAnyH_take (i := 7) (oi := { dst := some 46, op := .load 26 (.tmp 5), type := 26, pos := "steady.go:44", after := #[], guard := none }) (v := ?_) rfl (by kernel_rfl) (by kernel_rfl) (by kernel_rfl) (fun _ _ _ h => h) (Or.inl ⟨by rfl, ?_⟩) hS ?_
  rotate_left 1
  · intro w hw; obtain hs := hw; obtain ⟨k0, k1, k2, k3, k4, k5, k6⟩ := HCe.out _ hw; go_simp; try (with_reducible rfl)
  simp only [Act.put, List.setIfInBounds_toArray, List.set_cons_zero, List.set_cons_succ]
  refine wpAnyH_take (i := 8) (oi := { dst := some 47, op := .move (.tmp 1), type := 31, pos := "steady.go:44", after := #[], guard := none }) (v := ?_) rfl (by kernel_rfl) (by kernel_rfl) (by kernel_rfl) (fun _ _ _ h => h) (Or.inl ⟨by rfl, ?_⟩) hS ?_
  rotate_left 1
  · intro w hw; obtain hs := hw; go_simp; try (with_reducible rfl)
  simp only [Act.put, List.setIfInBounds_toArray, List.set_cons_zero, List.set_cons_succ]
  refine wpAnyH_take (i := 9) (oi := { dst := some 48, op := .move (.tmp 4), type := 3, pos := "steady.go:44", after := #[], guard := none }) (v := ?_) rfl (by kernel_rfl) (by kernel_rfl) (by kernel_rfl) (fun _ _ _ h => h) (Or.inl ⟨by rfl, ?_⟩) hS ?_
  rotate_left 1
  · intro w hw; obtain hs := hw; go_simp; try (with_reducible rfl)
  simp only [Act.put, List.setIfInBounds_toArray, List.set_cons_zero, List.set_cons_succ]
  refine wpAnyH_ready (rs := [10]) (by kernel_rfl) (by simp) (AllReadyH.cons (o := { dst := some 49, op := .call { callee := .value (.func 61), args := #[.tmp 47, .tmp 48], argTypes := #[31, 3] }, type := 31, pos := "steady.go:44", after := #[{ on := 8, ground := .data }, { on := 9, ground := .data }], guard := none }) rfl (fun K hK => ?_) AllReadyH.nil)
  go_simp
  go_at_call 61
  refine (HBl.out _).mono ?_
  rintro e w5 ⟨rfl, rfl⟩
  try dsimp only
  refine hK.out _ _ hS (fun hHeld => ?_)
  clear hK K
  try simp only [Act.put, List.setIfInBounds_toArray, List.set_cons_zero, List.set_cons_succ]
  refine wpAnyH_ready (rs := [11]) (by kernel_rfl) (by simp) (AllReadyH.cons (o := { dst := some 50, op := .call { callee := .value (.func 69), args := #[.tmp 46, .tmp 49], argTypes := #[26, 31] }, type := 117, pos := "steady.go:44", after := #[{ on := 7, ground := .data }, { on := 10, ground := .data }, { on := 10, ground := .chain }], guard := none }) rfl (fun K hK => ?_) AllReadyH.nil)
  go_simp
  go_at_call 69
  refine (HTm.out _ (HB2.out _ hHeld)).mono ?_
  rintro e w6 ⟨v6, rfl, o6, b6⟩
  rw [← HNN.out] at o6
  obtain ⟨S6, rfl, t6⟩ := own_terms o6 (by have := HLl.out; omega)
  rw [HNN.out]
  have H6 := Lib.hid (show Below w4.heap.size w4 w6 ∧ ∃ V6, TermsAt w6 V6 S6 L from ⟨hHeld.trans (b6.mono hHeld.size), _, t6⟩)
  clear b6 t6 o6
  try dsimp only
  refine hK.out _ _ H6.out.1 (fun hHeld => ?_)
  clear hK K
  try simp only [Act.put, List.setIfInBounds_toArray, List.set_cons_zero, List.set_cons_succ]
  refine wpAnyH_ready (rs := [12]) (by kernel_rfl) (by simp) (AllReadyH.cons (o := { dst := some 51, op := .call { callee := .value (.func 64), args := #[.tmp 43, .tmp 45, .tmp 50], argTypes := #[3, 3, 117] }, type := 40, pos := "steady.go:44", after := #[{ on := 4, ground := .data }, { on := 6, ground := .data }, { on := 11, ground := .data }, { on := 11, ground := .chain }], guard := none }) rfl (fun K hK => ?_) AllReadyH.nil)
  go_simp
  go_at_call 64
  obtain ⟨V6, h6⟩ := H6.out.2
  refine (HLe.out _ _ S6 h6).mono ?_
  rintro e w7 ⟨rfl, b7⟩
  have H7 := Lib.hid (show Below w4.heap.size w4 w7 from H6.out.1.trans (b7.mono H6.out.1.size))
  clear b7
  try dsimp only
  refine hK.out _ _ H7.out (fun hHeld => ?_)
  clear hK K
  try simp only [Act.put, List.setIfInBounds_toArray, List.set_cons_zero, List.set_cons_succ]
  refine wpAnyH_take (i := 13) (oi := { dst := some 38, op := .move (.tmp 51), type := 40, pos := "steady.go:44", after := #[{ on := 12, ground := .data }], guard := none }) (v := ?_) rfl (by kernel_rfl) (by kernel_rfl) (by kernel_rfl) (fun _ _ _ h => h) (Or.inl ⟨by rfl, ?_⟩) H7.out ?_
  rotate_left 1
  · intro w hw; obtain hs := hw; go_simp; try (with_reducible rfl)
  simp only [Act.put, List.setIfInBounds_toArray, List.set_cons_zero, List.set_cons_succ]
  refine wpAnyH_take (i := 14) (oi := { dst := some 52, op := .extract (.tmp 38) 0, type := 3, pos := "steady.go:44", after := #[{ on := 13, ground := .data }], guard := none }) (v := ?_) rfl (by kernel_rfl) (by kernel_rfl) (by kernel_rfl) (fun _ _ _ h => h) (Or.inl ⟨by rfl, ?_⟩) H7.out ?_
  rotate_left 1
  · intro w hw; obtain hs := hw; go_simp; try (with_reducible rfl)
  simp only [Act.put, List.setIfInBounds_toArray, List.set_cons_zero, List.set_cons_succ]
  refine wpAnyH_take (i := 15) (oi := { dst := some 53, op := .extract (.tmp 38) 1, type := 4, pos := "steady.go:44", after := #[{ on := 13, ground := .data }, { on := 16, ground := .gcOnly Go.Departure.lateStores }], guard := none }) (v := ?_) rfl (by kernel_rfl) (by kernel_rfl) (by kernel_rfl) (fun _ _ _ h => h) (Or.inl ⟨by rfl, ?_⟩) H7.out ?_
  rotate_left 1
  · intro w hw; obtain hs := hw; go_simp; try (with_reducible rfl)
  simp only [Act.put, List.setIfInBounds_toArray, List.set_cons_zero, List.set_cons_succ]
  refine wpAnyH_ready (rs := [16]) (by kernel_rfl) (by simp) (AllReadyH.cons (o := { dst := some 14, op := .assign (.tmp 52), type := 3, pos := "steady.go:44", after := #[{ on := 14, ground := .data }, { on := 12, ground := .chain }, { on := 0, ground := .phase }, { on := 1, ground := .phase }, { on := 2, ground := .phase }, { on := 3, ground := .phase }, { on := 4, ground := .phase }, { on := 5, ground := .phase }, { on := 6, ground := .phase }, { on := 7, ground := .phase }, { on := 8, ground := .phase }, { on := 9, ground := .phase }, { on := 10, ground := .phase }, { on := 11, ground := .phase }, { on := 12, ground := .phase }, { on := 13, ground := .phase }, { on := 14, ground := .phase }, { on := 15, ground := .textOnly Go.Departure.lateStores }], guard := none }) rfl (fun K hK => ?_) AllReadyH.nil)
  go_simp
  refine hK.out _ _ H7.out (fun hHeld => ?_)
  clear hK K
  try simp only [Act.put, List.setIfInBounds_toArray, List.set_cons_zero, List.set_cons_succ]
  refine wpAnyH_ready (rs := [17]) (by kernel_rfl) (by simp) (AllReadyH.cons (o := { dst := some 15, op := .assign (.tmp 53), type := 4, pos := "steady.go:44", after := #[{ on := 15, ground := .data }, { on := 16, ground := .chain }, { on := 0, ground := .phase }, { on := 1, ground := .phase }, { on := 2, ground := .phase }, { on := 3, ground := .phase }, { on := 4, ground := .phase }, { on := 5, ground := .phase }, { on := 6, ground := .phase }, { on := 7, ground := .phase }, { on := 8, ground := .phase }, { on := 9, ground := .phase }, { on := 10, ground := .phase }, { on := 11, ground := .phase }, { on := 12, ground := .phase }, { on := 13, ground := .phase }, { on := 14, ground := .phase }, { on := 15, ground := .phase }, { on := 16, ground := .phase }], guard := none }) rfl (fun K hK => ?_) AllReadyH.nil)
  go_simp
  refine hK.out _ _ H7.out (fun hHeld => ?_)
  clear hK K
  try simp only [Act.put, List.setIfInBounds_toArray, List.set_cons_zero, List.set_cons_succ]
  refine wpAnyH_done (by kernel_rfl) ?_ _

  clear HCe
  have HR7 := Lib.hid (H4.out.2.2.2.2.2.2.1.new H7.out)
  have HZ7 := Lib.hid (H4.out.2.2.2.1.new H7.out)
  have r2 : w7.cell? ⟨B, 2, none⟩ = some (.int .i64 0) := HR7.out.cell 2
  have f2 : w7.frozen? ⟨B, 2, none⟩ = false := HR7.out.fr 2
  go_upto_region 7 with fail
  generalize hw8 : World.setCell w7 _ _ = w8
  have H8 := Lib.hid (show Below w.heap.size w w8 ∧ RowAt w8 B 79 #[.int .i64 (i : Nat), .int .i64 bk, .int .i64 tt] ∧ RowAt w8 (Z + 2) 79 #[.int .i64 0, .int .i64 0, .int .i64 0] by
    have hz := HZ.out
    have hlt := H4.out.2.2.2.2.2.2.2
    rw [← hw8]
    exact ⟨(HB2.out _ H7.out).setCell (by show _ ≤ B; omega) _, HR7.out.setC 2 _, HZ7.out.keep (T := fun j => j = B) ((Ch.refl _ _).setCell _ _ (.inl rfl)) (fun e => by omega)⟩)
  clear hw8 r2 f2 HR7 HZ7 H7
  have r0 : w8.cell? ⟨B, 0, none⟩ = some (.int .i64 (i : Nat)) := H8.out.2.1.cell 0
  have r1 : w8.cell? ⟨B, 1, none⟩ = some (.int .i64 bk) := H8.out.2.1.cell 1
  have r2 : w8.cell? ⟨B, 2, none⟩ = some (.int .i64 tt) := H8.out.2.1.cell 2
  have s0 : w8.cell? ⟨Z + 2, 0, none⟩ = some (.int .i64 0) := H8.out.2.2.cell 0
  have s1 : w8.cell? ⟨Z + 2, 1, none⟩ = some (.int .i64 0) := H8.out.2.2.cell 1
  have s2 : w8.cell? ⟨Z + 2, 2, none⟩ = some (.int .i64 0) := H8.out.2.2.cell 2
  have g0 : w8.frozen? ⟨Z + 2, 0, none⟩ = false := H8.out.2.2.fr 0
  have g1 : w8.frozen? ⟨Z + 2, 1, none⟩ = false := H8.out.2.2.fr 1
  have g2 : w8.frozen? ⟨Z + 2, 2, none⟩ = false := H8.out.2.2.fr 2
  go_wp2
  generalize hw9 : World.setCell (World.setCell (World.setCell w8 _ _) _ _) _ _ = w9
  have H9 := Lib.hid (show Below w.heap.size w w9 ∧ RowAt w9 (Z + 1 + 1) 79 #[.int .i64 (i : Nat), .int .i64 bk, .int .i64 tt] by
    have hz := HZ.out
    rw [← hw9]
    refine ⟨((H8.out.1.setCell (by show _ ≤ Z + 2; omega) _).setCell (by show _ ≤ Z + 2; omega) _).setCell (by show _ ≤ Z + 2; omega) _, ?_⟩
    exact ((H8.out.2.2.setC 0 _).setC 1 _).setC 2 _)
  clear hw9 r0 r1 r2 s0 s1 s2 g0 g1 g2 H8
  have x0 : w9.cell? ⟨Z + 1 + 1, 0, none⟩ = some (.int .i64 (i : Nat)) := H9.out.2.cell 0
  have x1 : w9.cell? ⟨Z + 1 + 1, 1, none⟩ = some (.int .i64 bk) := H9.out.2.cell 1
  have x2 : w9.cell? ⟨Z + 1 + 1, 2, none⟩ = some (.int .i64 tt) := H9.out.2.cell 2
  refine bodyPost_ret (v := .tuple #[.agg #[.int .i64 (i : Nat), .int .i64 bk, .int .i64 tt], .bool bt]) (by simp [results, Tryd.results37, go_sem, x0, x1, x2]) rfl ?_
  exact ⟨rfl, H9.out.1⟩
end Go.Proofs.YtchmdnmifpjfkaaDoor
/- The contract of steady's Mode. -/
namespace Go.Proofs.YtchmdnmifpjfkaaDoor
open Go.RowKit
attribute [local go_sem] Oper.semAt_some

/-- The response of a task of a mode's set. -/
def mdR (x : Img) (s : BitVec 32) (i : Nat) : Option (Int × Int) := rspF x s s (ceilF x s) i
/-- The first task of a set that may be late. -/
def mdBad (x : Img) (s : BitVec 32) : Option Nat := (lst s 32).find? fun i => !tB (mdR x s i)
theorem mdBad_some {x : Img} {s : BitVec 32} {L : List Nat} (hL : lst s 32 = L) {k : Nat} (hk : k < L.length) (hn : ∀ j, j < k → tB (mdR x s (L.getD j 0)) = true) (h : tB (mdR x s (L.getD k 0)) = false) : mdBad x s = some (L.getD k 0) := by
  have e : ∀ j, j < L.length → L.getD j 0 = L[j]! := fun j hj => by simp [List.getD_eq_getElem?_getD, hj]
  unfold mdBad
  rw [hL, List.find?_eq_some_iff_getElem]
  refine ⟨by rw [h]; rfl, k, hk, by simp [hk], fun j hj => ?_⟩
  have := hn j hj
  rw [List.getD_eq_getElem?_getD, List.getElem?_eq_getElem (by omega)] at this
  simp only [Option.getD_some] at this
  rw [this]; rfl
theorem mdBad_none {x : Img} {s : BitVec 32} {L : List Nat} (hL : lst s 32 = L) (hn : ∀ j, j < L.length → tB (mdR x s (L.getD j 0)) = true) : mdBad x s = none := by
  unfold mdBad
  rw [hL, List.find?_eq_none]
  intro i hi
  obtain ⟨j, hj, rfl⟩ := List.getElem_of_mem hi
  have := hn j hj
  rw [List.getD_eq_getElem?_getD, List.getElem?_eq_getElem hj] at this
  simp only [Option.getD_some] at this
  rw [this]; decide
/-- What is told of one. -/
def mdV (x : Img) (s : BitVec 32) (L : List Nat) (k : Nat) : List Value := [.int .i64 (L.getD k 0 : Nat), .int .i64 (blkF x s (ceilF x s) ((L.getD k 0 : Nat) : Int)), .int .i64 (tT (mdR x s (L.getD k 0)))]
/-- What Mode answers. -/
def MdOut (x : Img) (s : BitVec 32) (w' : World) (base : Nat) (v : Value) (ix : Int) (ok : Bool) : Prop :=
  (mdBad x s = none ∧ ix = 0 ∧ ok = true ∧ w'.ownsRow base 79 3 v (lst s 32).length (rowsOf (mdV x s (lst s 32)) (lst s 32).length)) ∨ (∃ b : Nat, mdBad x s = some b ∧ ix = (b : Int) ∧ ok = false ∧ v = .slice none 0 0)
theorem Foot.pure {F : World → Nat → Prop} {I : World → Prop} (p : Prop) (h : Foot F I) : Foot F (fun W => p ∧ I W) where
  lt := fun W hi j hj => h.lt W hi.2 j hj
  keep := fun W W' hi hc => ⟨⟨hi.1, (h.keep W W' hi.2 hc).1⟩, (h.keep W W' hi.2 hc).2⟩
theorem three_newM (A : World) (x y z : Value) (t : TypeId) : ∀ j u, [x, y, z][j]? = some u → (A.alloc (.cells #[x, y, z] t)).cell? ((⟨A.heap.size, 0, none⟩ : Addr).add j) = some u := by
  intro j u hu
  rw [Addr.add_lit]
  have := (RowAt.mk A t #[x, y, z]).cell (0 + j)
  refine this.trans ?_
  rcases j with _ | _ | _ | j
  · exact hu
  · exact hu
  · exact hu
  · simp at hu
theorem three_newN (A : World) (o : Obj) (x y z : Value) (t : TypeId) : ∀ j u, [x, y, z][j]? = some u → ((A.alloc o).alloc (.cells #[x, y, z] t)).cell? ((⟨A.heap.size + 1, 0, none⟩ : Addr).add j) = some u := by
  have := three_newM (A.alloc o) x y z t
  rwa [World.size_alloc] at this
end Go.Proofs.YtchmdnmifpjfkaaDoor
/- The contracts of the reference's Mode and of steady's Slack. -/
namespace Go.Proofs.YtchmdnmifpjfkaaDoor
open Go.RowKit

theorem mdBad_first {x : Img} {s : BitVec 32} {i : Nat} (hi : i < 32) (hb : s.getLsbD i = true) (hf : tB (mdR x s i) = false) (hn : ∀ j, j < i → s.getLsbD j = true → tB (mdR x s j) = true) : mdBad x s = some i := by
  unfold mdBad lst
  rw [List.find?_filter]
  refine (List.find?_range_eq_some).2 ⟨by simp [hb, hf], by simpa using hi, fun j hj => ?_⟩
  by_cases h : s.getLsbD j = true
  · simp [h, hn j hj h]
  · simp [h]
theorem mdBad_all {x : Img} {s : BitVec 32} (hn : ∀ j, j < 32 → s.getLsbD j = true → tB (mdR x s j) = true) : mdBad x s = none := by
  unfold mdBad
  rw [List.find?_eq_none]
  intro i hi
  obtain ⟨h1, h2⟩ := (mem_lst _ _ _).1 hi
  rw [hn i h1 h2]; decide
def mdI (x : Img) (s : BitVec 32) : Int := match mdBad x s with | some b => (b : Int) | none => -1
/-- The least slack of the first so many of a list. -/
def slK (x : Img) (s : BitVec 32) (L : List Nat) : Nat → Int
  | 0 => 4096
  | k + 1 => min (slK x s L k) ((x.t (L.getD k 0)).dl - tT (mdR x s (L.getD k 0)))
/-- What Slack answers. -/
def slV (x : Img) (s : BitVec 32) : Int := if mdBad x s = none ∧ 0 < (lst s 32).length then slK x s (lst s 32) (lst s 32).length else 0
def slB (x : Img) (s : BitVec 32) : Bool := (mdBad x s).isNone && decide (0 < (lst s 32).length)
theorem rsp_rng {x : Img} (hG : GoodI x) (s hold : BitVec 32) (f : Nat → Int) {i : Nat} (hi : i < x.tasks.length) : 0 ≤ tT (rspF x s hold f i) ∧ tT (rspF x s hold f i) ≤ (x.t i).dl := by
  have h1 := ownF_rng hG hold f hi
  have h2 := hG.dl i hi
  have hg := good_tm hG (L := aheadL x s i) (fun j hj => (aheadL_lt hj).1)
  have hl : (tmL x (aheadL x s i)).length ≤ 20 := by rw [tmL_len]; have := aheadL_len hG s i; omega
  obtain ⟨g1, -⟩ := lookR_spec (own := ownF x hold f i) (most := (x.t i).dl) (L := tmL x (aheadL x s i)) (by omega) (fun t a b => ⟨_, good_ff hg hl (by omega) (by omega) a (by omega)⟩)
  unfold rspF
  cases hr : lookR (ownF x hold f i) (x.t i).dl (tmL x (aheadL x s i)) with
  | none => exact ⟨Int.le_refl _, by show (0 : Int) ≤ _; omega⟩
  | some q =>
    obtain ⟨a, b⟩ := q
    obtain ⟨c1, c2, -⟩ := g1 a b hr
    show 0 ≤ a ∧ a ≤ _
    split at c1 <;> omega
theorem slK_rng {x : Img} (hG : GoodI x) (s : BitVec 32) {L : List Nat} (hL : ∀ k, k < L.length → L.getD k 0 < x.tasks.length) : ∀ k, k ≤ L.length → 0 ≤ slK x s L k ∧ slK x s L k ≤ 4096
  | 0, _ => by unfold slK; omega
  | k + 1, hk => by
    have ih := slK_rng hG s hL k (by omega)
    have h1 := rsp_rng hG s s (ceilF x s) (hL k (by omega))
    unfold slK mdR
    omega
end Go.Proofs.YtchmdnmifpjfkaaDoor
/- The contracts of Busy, of both sides. -/
namespace Go.Proofs.YtchmdnmifpjfkaaDoor
open Go.RowKit

/-- A row of terms whose first so many have their cost at once, too. -/
structure CarI (W : World) (S4 : Src) (x : Img) (L : List Nat) (k : Nat) : Prop where
  lt : 0 < L.length → S4.b < W.heap.size
  fr : ∀ q, 0 < L.length → W.frozen? ⟨S4.b, q, none⟩ = false
  c0 : ∀ j, j < L.length → W.cell? ⟨S4.b, S4.o + j * 4, none⟩ = some (.int .i64 (x.t (L.getD j 0)).per)
  c1 : ∀ j, j < L.length → W.cell? ⟨S4.b, S4.o + j * 4 + 1, none⟩ = some (.int .i64 (x.t (L.getD j 0)).cost)
  c2 : ∀ j, j < L.length → W.cell? ⟨S4.b, S4.o + j * 4 + 2, none⟩ = some (.int .i64 0)
  c3 : ∀ j, j < L.length → W.cell? ⟨S4.b, S4.o + j * 4 + 3, none⟩ = some (.int .i64 (if j < k then (x.t (L.getD j 0)).cost else 0))
theorem CarI.new {W W' : World} {S4 : Src} {x : Img} {L : List Nat} {k : Nat} (h : CarI W S4 x L k) (hb : Below W.heap.size W W') : CarI W' S4 x L k where
  lt := fun h0 => Nat.lt_of_lt_of_le (h.lt h0) hb.size
  fr := fun q h0 => (hb.frozen (h.lt h0)).trans (h.fr q h0)
  c0 := fun j hj => (hb.cell (h.lt (by omega))).trans (h.c0 j hj)
  c1 := fun j hj => (hb.cell (h.lt (by omega))).trans (h.c1 j hj)
  c2 := fun j hj => (hb.cell (h.lt (by omega))).trans (h.c2 j hj)
  c3 := fun j hj => (hb.cell (h.lt (by omega))).trans (h.c3 j hj)
theorem CarI.step {W : World} {S4 : Src} {x : Img} {L : List Nat} {k : Nat} (h : CarI W S4 x L k) (hk : k < L.length) : CarI (W.setCell ⟨S4.b, S4.o + k * 4 + 3, none⟩ (.int .i64 (x.t (L.getD k 0)).cost)) S4 x L (k + 1) := by
  have ho : ∀ q v, q ≠ S4.o + k * 4 + 3 → W.cell? ⟨S4.b, q, none⟩ = some v → (W.setCell ⟨S4.b, S4.o + k * 4 + 3, none⟩ (.int .i64 (x.t (L.getD k 0)).cost)).cell? ⟨S4.b, q, none⟩ = some v := fun q v hq hc => by
    rw [World.cell?_setCell_other _ _ _ _ (fun e => by injection e with _ e _; exact hq e.symm)]; exact hc
  refine ⟨fun h0 => ?_, fun q h0 => ?_, fun j hj => ho _ _ (by omega) (h.c0 j hj), fun j hj => ho _ _ (by omega) (h.c1 j hj), fun j hj => ho _ _ (by omega) (h.c2 j hj), fun j hj => ?_⟩
  · have := ((Ch.refl (fun _ => True) W).setCell ⟨S4.b, S4.o + k * 4 + 3, none⟩ (.int .i64 (x.t (L.getD k 0)).cost) (.inl trivial)).size
    have := h.lt h0
    omega
  · rw [World.frozen?_setCell]; exact h.fr q h0
  · by_cases e : j = k
    · subst e
      rw [if_pos (by omega)]
      exact World.cell?_setCell_same _ _ _ (h.c3 j hj)
    · have h3 := h.c3 j hj
      by_cases e2 : j < k
      · rw [if_pos e2] at h3; rw [if_pos (by omega)]; exact ho _ _ (by omega) h3
      · rw [if_neg e2] at h3; rw [if_neg (by omega)]; exact ho _ _ (by omega) h3
/-- The terms, each with its cost at once. -/
def tmB2 (x : Img) (i : Nat) : Tm := ⟨(x.t i).per, (x.t i).cost, 0, (x.t i).cost⟩
def carL (x : Img) (L : List Nat) : List Tm := L.map (tmB2 x)
theorem carL_len (x : Img) (L : List Nat) : (carL x L).length = L.length := by simp [carL]
theorem CarI.terms {W : World} {S4 : Src} {x : Img} {L : List Nat} (h : CarI W S4 x L L.length) (hsp : 0 < L.length → S4.sp = some ⟨S4.b, S4.o, none⟩) (hl : L.length ≤ 1000) : TermsAt W (fun _ => False) S4 (carL x L) := by
  refine ⟨⟨fun h0 => ⟨hsp (by rwa [carL_len] at h0), h.lt (by rwa [carL_len] at h0), fun h => h⟩, by rw [carL_len]; omega⟩, fun k hk j u hu => ?_⟩
  rw [carL_len] at hk
  have e : (carL x L).getD k default = tmB2 x (L.getD k 0) := by unfold carL; simp [hk]
  rw [e] at hu
  rcases j with _ | _ | _ | _ | j
  · rw [← hu]; exact h.c0 k hk
  · rw [← hu]; exact h.c1 k hk
  · rw [← hu]; exact h.c2 k hk
  · rw [← hu]; have := h.c3 k hk; rwa [if_pos hk] at this
  · simp [tmC] at hu
theorem CarI.start {W : World} {base : Nat} {v : Value} {e : TypeId} {x : Img} {L : List Nat} (h : W.ownsRow base e 4 v L.length (rowsOf (termV x L) L.length)) (hl : L.length ≤ 1000) :
    ∃ S4 : Src, v = .slice S4.sp L.length S4.c ∧ (0 < L.length → S4.sp = some ⟨S4.b, S4.o, none⟩ ∧ base ≤ S4.b) ∧ CarI W S4 x L 0 := by
  obtain ⟨S4, rfl, h4, at4⟩ := own_rows h (fun _ _ => rfl) (by omega)
  refine ⟨S4, rfl, fun h0 => ⟨(h4 h0).1, (h4 h0).2.1⟩, ⟨fun h0 => (h4 h0).2.2.1, fun q h0 => (h4 h0).2.2.2 q, fun j hj => at4 j hj 0 _ rfl, fun j hj => at4 j hj 1 _ rfl, fun j hj => at4 j hj 2 _ rfl, fun j hj => ?_⟩⟩
  rw [if_neg (by omega)]
  exact at4 j hj 3 _ rfl
theorem good_car {x : Img} (h : GoodI x) {L : List Nat} (hL : ∀ i, i ∈ L → i < x.tasks.length) : ∀ t ∈ carL x L, GoodT t := by
  intro t ht
  obtain ⟨i, hi, rfl⟩ := List.mem_map.1 ht
  have h1 := h.per i (hL i hi)
  have h2 := h.cost i (hL i hi)
  exact ⟨⟨h1.1, by show (x.t i).per ≤ _; omega⟩, ⟨by show 0 ≤ (x.t i).cost; omega, by show (x.t i).cost ≤ _; omega⟩, ⟨Int.le_refl _, by show (0 : Int) ≤ _; omega⟩, ⟨by show 0 ≤ (x.t i).cost; omega, by show (x.t i).cost ≤ _; omega⟩⟩
/-- Within how many ticks nobody is there. -/
def bsR (x : Img) (s : BitVec 32) : Option (Int × Int) := lookR 0 65536 (carL x (aheadL x s x.tasks.length))
/-- How far the reference has looked. -/
def BI (L : List Tm) (g : Nat) (w m : Int) : Prop := lookF (FF 0 L) 65536 g w m = lookR 0 65536 L ∧ 1 ≤ w ∧ (65536 : Int) < w + g
theorem BI.start (L : List Tm) : BI L 65537 1 1 := by
  refine ⟨?_, by omega, by omega⟩
  unfold lookR w0
  rw [if_neg (by omega)]
  rfl
theorem BI.over {L : List Tm} {g : Nat} {w m : Int} (h : BI L g w m) (hw : 65536 < w) : tT (lookR 0 65536 L) = 0 ∧ tB (lookR 0 65536 L) = false := by
  rw [← h.1, lookF_most g hw]; exact ⟨rfl, rfl⟩
theorem BI.ff {L : List Tm} {g : Nat} {w m : Int} (h : BI L g w m) (hl : L.length ≤ 20) (hg : ∀ x ∈ L, GoodT x) (hw : w ≤ 65536) :
    ∃ g1, g = g1 + 1 ∧ lookR 0 65536 L = (if valL L w ≤ w then some (w, m) else lookF (FF 0 L) 65536 g1 (valL L w) (m + 1)) := by
  obtain ⟨h1, h2, h3⟩ := h
  cases g with
  | zero => omega
  | succ g1 =>
    refine ⟨g1, rfl, ?_⟩
    have hf := good_ff (own := 0) hg hl (by omega) (by omega) h2 (show w ≤ 70000 by omega)
    rw [← h1]
    conv => lhs; unfold lookF
    rw [if_pos hw, hf]
    simp only [Int.zero_add]
theorem BI.found {L : List Tm} {g : Nat} {w m : Int} (h : BI L g w m) (hl : L.length ≤ 20) (hg : ∀ x ∈ L, GoodT x) (hw : w ≤ 65536) (hn : valL L w ≤ w) : tT (lookR 0 65536 L) = w ∧ tB (lookR 0 65536 L) = true := by
  obtain ⟨g1, -, e⟩ := h.ff hl hg hw
  rw [e, if_pos hn]; exact ⟨rfl, rfl⟩
theorem BI.next {L : List Tm} {g : Nat} {w m : Int} (h : BI L g w m) (hl : L.length ≤ 20) (hg : ∀ x ∈ L, GoodT x) (hw : w ≤ 65536) (hn : ¬ valL L w ≤ w) : ∃ g1, g = g1 + 1 ∧ BI L g1 (valL L w) (m + 1) := by
  obtain ⟨g1, e1, e⟩ := h.ff hl hg hw
  refine ⟨g1, e1, ?_⟩
  obtain ⟨-, h2, h3⟩ := h
  rw [if_neg hn] at e
  exact ⟨e.symm, by omega, by omega⟩
end Go.Proofs.YtchmdnmifpjfkaaDoor
/- The contract of law15's alive. -/
namespace Go.Proofs.YtchmdnmifpjfkaaDoor
open Go.RowKit

def TZ : TaskM := ⟨0, 0, 0, [0, 0, 0, 0, 0, 0, 0, 0]⟩
def T1 : TaskM := ⟨0, 0, 0, [1, 0, 0, 0, 0, 0, 0, 0]⟩
def X0 : Img := ⟨0, [TZ, T1, T1], [], []⟩
def S0 (b c : Nat) : ImgS := ⟨⟨some ⟨b, 0, none⟩, b, 0, c⟩, ⟨none, 0, 0, 0⟩, ⟨none, 0, 0, 0⟩, fun _ => ⟨none, 0, 0, 0⟩⟩
def row33 : Array Value := (taskC TZ ++ (taskC T1 ++ taskC T1)).toArray
theorem at_of_row {w : World} {b off : Nat} {t : TypeId} {cs : Array Value} {l : List Value} (h : RowAt w b t cs) (hs : ∀ j, j < l.length → cs[off + j]? = l[j]?) : At w b off l := fun j u hu => by
  rw [h.cell, hs j (List.getElem?_eq_some_iff.1 hu).1]; exact hu
theorem lt11 {p : Nat → Prop} (h0 : p 0) (h1 : p 1) (h2 : p 2) (h3 : p 3) (h4 : p 4) (h5 : p 5) (h6 : p 6) (h7 : p 7) (h8 : p 8) (h9 : p 9) (h10 : p 10) : ∀ k, k < 11 → p k := by
  intro k hk
  rcases k with _ | _ | _ | _ | _ | _ | _ | _ | _ | _ | _ | k
  all_goals first | assumption | omega
theorem X0_at {w : World} {b c : Nat} {t : TypeId} (h : RowAt w b t row33) : ImgAt w (fun _ => False) X0 (S0 b c) where
  st := ⟨fun _ => ⟨rfl, h.lt, fun h => h⟩, by show (3 : Nat) ≤ _; omega⟩
  sm := ⟨fun h0 => absurd h0 (Nat.lt_irrefl 0), Nat.zero_le _⟩
  se := ⟨fun h0 => absurd h0 (Nat.lt_irrefl 0), Nat.zero_le _⟩
  tk := fun k hk => by
    have hk3 : k < 3 := hk
    rcases k with _ | _ | _ | k
    · exact ⟨at_of_row h (lt11 rfl rfl rfl rfl rfl rfl rfl rfl rfl rfl rfl), rfl⟩
    · exact ⟨at_of_row h (lt11 rfl rfl rfl rfl rfl rfl rfl rfl rfl rfl rfl), rfl⟩
    · exact ⟨at_of_row h (lt11 rfl rfl rfl rfl rfl rfl rfl rfl rfl rfl rfl), rfl⟩
    · omega
  md := fun k hk => absurd hk (Nat.not_lt_zero k)
  qu := fun k hk => absurd hk (Nat.not_lt_zero k)
  ed := fun k hk => absurd hk (Nat.not_lt_zero k)
def g0 : Nat → Int := fun r => if r = 0 then 1 else 16
theorem g0_is : tb (ceilF X0 (ofL [0, 1, 2])) = tb g0 := tb_ext (lt8c (by decide +kernel) (by decide +kernel) (by decide +kernel) (by decide +kernel) (by decide +kernel) (by decide +kernel) (by decide +kernel) (by decide +kernel))
theorem g0_lv : tbLv g0 2 0 = 1 := by decide
theorem g0_ov : tbOv g0 1 8 = ofL [0] := by decide +kernel
end Go.Proofs.YtchmdnmifpjfkaaDoor
/- The contracts of law18's Within and alive. -/
namespace Go.Proofs.YtchmdnmifpjfkaaDoor
open Go.RowKit

/-- Those of a set that the image has. -/
def wthF (x : Img) (s : BitVec 32) : BitVec 32 := pre s.getLsbD x.tasks.length
theorem wthF_bit (x : Img) (s : BitVec 32) (i : Nat) (hi : i < 32) : (wthF x s).getLsbD i = (decide (i < x.tasks.length) && s.getLsbD i) := pre_bit _ _ _ hi
theorem wthF_lt {x : Img} {s : BitVec 32} {i : Nat} (hi : i < 32) (h : (wthF x s).getLsbD i = true) : i < x.tasks.length := by
  rw [wthF_bit _ _ _ hi] at h
  simp at h
  exact h.1
def Z8 : List Int := [0, 0, 0, 0, 0, 0, 0, 0]
def X18 : Img := ⟨0, [⟨10, 10, 2, Z8⟩, ⟨20, 20, 5, Z8⟩], [⟨3#32, []⟩], []⟩
def S18 (b c : Nat) : ImgS := ⟨⟨some ⟨b, 0, none⟩, b, 0, 2⟩, ⟨some ⟨c, 0, none⟩, c, 0, 1⟩, ⟨none, 0, 0, 0⟩, fun _ => ⟨none, 0, 0, 0⟩⟩
def row22 : Array Value := (taskC ⟨10, 10, 2, Z8⟩ ++ taskC ⟨20, 20, 5, Z8⟩).toArray
theorem X18_at {w : World} {b c : Nat} {t u : TypeId} (h : RowAt w b t row22) (h2 : RowAt w c u #[.int .u32 3, .slice none 0 0]) : ImgAt w (fun _ => False) X18 (S18 b c) where
  st := ⟨fun _ => ⟨rfl, h.lt, fun h => h⟩, by decide⟩
  sm := ⟨fun _ => ⟨rfl, h2.lt, fun h => h⟩, by decide⟩
  se := ⟨fun h => absurd h (Nat.not_lt_zero 0), by decide⟩
  tk := fun k hk => by
    have hk2 : k < 2 := hk
    rcases k with _ | _ | k
    · exact ⟨at_of_row h (lt11 rfl rfl rfl rfl rfl rfl rfl rfl rfl rfl rfl), rfl⟩
    · exact ⟨at_of_row h (lt11 rfl rfl rfl rfl rfl rfl rfl rfl rfl rfl rfl), rfl⟩
    · omega
  md := fun k hk => by
    have hk2 : k < 1 := hk
    rcases k with _ | k
    · exact ⟨h2.cell 0, h2.cell 1, ⟨fun h => absurd h (Nat.not_lt_zero 0), by decide⟩⟩
    · omega
  qu := fun k hk j hj => by
    have hk2 : k < 1 := hk
    rcases k with _ | k
    · exact absurd hj (Nat.not_lt_zero j)
    · omega
  ed := fun k hk => absurd hk (Nat.not_lt_zero k)
theorem good18 : GoodI X18 := good_of_code (by kernel_rfl)
theorem mode18 : mdBad X18 3#32 = none ∧ (lst 3#32 32).length = 2 ∧ tT (mdR X18 3#32 ((lst 3#32 32).getD 0 0)) = 2 ∧ tT (mdR X18 3#32 ((lst 3#32 32).getD 1 0)) = 7 ∧ tT (bsR X18 3#32) = 16 ∧ tB (bsR X18 3#32) = true :=
  ⟨by kernel_rfl, by kernel_rfl, by kernel_rfl, by kernel_rfl, by kernel_rfl, by kernel_rfl⟩
end Go.Proofs.YtchmdnmifpjfkaaDoor
