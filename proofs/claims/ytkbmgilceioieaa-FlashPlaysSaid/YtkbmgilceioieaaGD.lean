/- The law's Do, way by way. -/
import Derived.Test.YtkbmgilceioieaaGC
import Derived.Test.YtkbmgilceioieaaBl
import Derived.Deep.Cut
import Derived.Deep.CutRange
namespace Go.Proofs.Ytkbmgilceioieaa
open Go.RowKit

/-- The three blocks in which Do keeps the reference's device, the call, and its result. -/
structure ThreeAt (T : Nat → Prop) (w0 w : World) (l lo : List Value) : Prop where
  x : BoxAt w w0.heap.size l
  o : BoxAt w (w0.heap.size + 1) lo
  y : BoxAt w (w0.heap.size + 1 + 1) lZ
  c : Ch T w0 w
theorem ThreeAt.start (T : Nat → Prop) (w : World) (n0 n1 n2 : Int) (bL nL cL bW nW cW : Nat) (off ar : Bool) (af sd op : Int) (k s j x : Int) :
    ThreeAt T w (((w.alloc (.cells #[.int .i64 n0, .int .i64 n1, .int .i64 n2, .slice (some ⟨bL, 0, none⟩) nL cL, .slice (some ⟨bW, 0, none⟩) nW cW, .bool off, .bool ar, .int .i64 af, .int .u32 sd, .int .i64 op] 29)).alloc (.cells #[.int .i64 k, .int .i64 s, .int .i64 j, .int .u32 x] 40)).alloc (.cells #[.int .i64 0, .int .i64 0, .int .i64 0, .slice none 0 0, .slice none 0 0, .bool false, .bool false, .int .i64 0, .int .u32 0, .int .i64 0] 29)) (lD n0 n1 n2 bL nL cL bW nW cW off ar af sd op) [.int .i64 k, .int .i64 s, .int .i64 j, .int .u32 x] := by
  refine ⟨((BoxAt.mk_new w _ 29).alloc _).alloc _, ?_, ?_, Ch.new ((((Below.refl _ w).alloc (Nat.le_refl _) _).alloc (by rw [World.size_alloc]; omega) _).alloc (by simp only [World.size_alloc]; omega) _)⟩
  · rw [← size_add w]
    exact (BoxAt.mk_new _ _ 40).alloc _
  · rw [← size_add w, ← size_add (w.alloc _)]
    exact BoxAt.mk_new _ _ 29
variable {T : Nat → Prop}
theorem ThreeAt.new {w0 w w' : World} {l lo : List Value} (h : ThreeAt T w0 w l lo) (c : Below w.heap.size w w') : ThreeAt T w0 w' l lo :=
  ⟨h.x.new c, h.o.new c, h.y.new c, h.c.then_below (c.mono h.c.size)⟩
theorem ThreeAt.dev {w0 w w' : World} {l lo : List Value} (h : ThreeAt T w0 w l lo) (c : Ch T w w') (hT : ∀ j, T j → j < w0.heap.size) : ThreeAt T w0 w' l lo :=
  ⟨h.x.keep c (fun e => by have := hT _ e; omega), h.o.keep c (fun e => by have := hT _ e; omega), h.y.keep c (fun e => by have := hT _ e; omega), h.c.trans c⟩
theorem ThreeAt.put {w0 w : World} {l lo : List Value} (h : ThreeAt T w0 w l lo) (hl : l.length = 10) (v0 v1 v2 v3 v4 v5 v6 v7 v8 v9 : Value) :
    ThreeAt T w0 ((((((((((w.setCell ⟨w0.heap.size, 0, none⟩ v0).setCell ⟨w0.heap.size, 1, none⟩ v1).setCell ⟨w0.heap.size, 2, none⟩ v2).setCell ⟨w0.heap.size, 3, none⟩ v3).setCell ⟨w0.heap.size, 4, none⟩ v4).setCell ⟨w0.heap.size, 5, none⟩ v5).setCell ⟨w0.heap.size, 6, none⟩ v6).setCell ⟨w0.heap.size, 7, none⟩ v7).setCell ⟨w0.heap.size, 8, none⟩ v8).setCell ⟨w0.heap.size, 9, none⟩ v9) [v0, v1, v2, v3, v4, v5, v6, v7, v8, v9] lo := by
  obtain ⟨x, o, y, c⟩ := h
  have hc := ch_put w w0.heap.size v0 v1 v2 v3 v4 v5 v6 v7 v8 v9
  match l, hl with
  | [a0, a1, a2, a3, a4, a5, a6, a7, a8, a9], _ =>
    refine ⟨?_, o.keep hc (by omega), y.keep hc (by omega), c.then_below (hc.below (fun j hj e => by omega) (by have := x.lt; omega))⟩
    exact (((((((((x.set 0 v0 (by decide : 0 < 10)).set 1 v1 (by decide : 1 < 10)).set 2 v2 (by decide : 2 < 10)).set 3 v3 (by decide : 3 < 10)).set 4 v4 (by decide : 4 < 10)).set 5 v5 (by decide : 5 < 10)).set 6 v6 (by decide : 6 < 10)).set 7 v7 (by decide : 7 < 10)).set 8 v8 (by decide : 8 < 10)).set 9 v9 (by decide : 9 < 10)
/-- What Do leaves. -/
def DoOut (T : Nat → Prop) (w w' : World) (q S : Nat) (g : Nat → Nat) (bL bW : Nat) (D3 D2 : Dev) (r : Nat → Nat → Nat → Nat → Value) (e : Ending) : Prop :=
  ∃ bL' cL' bW' cW', e = .returned (.tuple #[r bL' cL' bW' cW', .bool true]) ∧ DevAt w' q S g D3 ∧ RefIn w' bL' bW' D2 ∧ (bL' = bL ∨ w.heap.size ≤ bL') ∧ (bW' = bW ∨ w.heap.size ≤ bW') ∧ Ch T w w'
variable {n0 n1 n2 : Int} {bL nL cL bW nW cW : Nat} {off ar : Bool} {af sd op : Int}
set_option maxHeartbeats 1000000 in
theorem do_erase (w : World) (q S : Nat) (g : Nat → Nat) (d D0 D2 D3 : Dev) (k s j x E r r8 : Int) (off' ar' : Bool) (af' op' : Int) (hd : DevAt w q S g d) (hr : RefIn w bL bW D0) (hT : ∀ j, T j → j < w.heap.size) (hn1 : ¬ T bL) (hn2 : ¬ T bW) (e3 : D3.ns = d.ns) (m1 : k.tmod 8 = r) (m2 : wrap64 (r + 8) = r8) (m3 : r8.tmod 8 = 4)
    (hR : ∀ w1, RefIn w1 bL bW D0 → Calls Try.prog 47 #[vD n0 n1 n2 bL nL cL bW nW cW off ar af sd op, .int .i64 s] w1 fun e w' => ∃ bL' cL' bW' cW', e = .returned (.tuple #[vD n0 n1 n2 bL' nL cL' bW' nW cW' off' ar' af' sd op', .int .i64 E]) ∧ RefIn w' bL' bW' D2 ∧ (bL' = bL ∨ w1.heap.size ≤ bL') ∧ (bW' = bW ∨ w1.heap.size ≤ bW') ∧ Below w1.heap.size w1 w')
    (hD : ∀ w1, DevAt w1 q S g d → Calls Try.prog 48 #[.pointer (some ⟨q, 0, none⟩), .int .i64 s] w1 fun e w' => e = .returned (.int .i64 E) ∧ DevAt w' q S g D3 ∧ Ch T w1 w') :
    Calls Try.prog 14 #[.pointer (some ⟨q, 0, none⟩), vD n0 n1 n2 bL nL cL bW nW cW off ar af sd op, .agg #[.int .i64 k, .int .i64 s, .int .i64 j, .int .u32 x]] w fun e w' => DoOut T w w' q S g bL bW D3 D2 (fun bL' cL' bW' cW' => vD n0 n1 n2 bL' nL cL' bW' nW cW' off' ar' af' sd op') e := by
  have HTA := Lib.hid (ThreeAt.start T w n0 n1 n2 bL nL cL bW nW cW off ar af sd op k s j x)
  have HB := Lib.hid (show Below w.heap.size w _ from (((Below.refl _ w).alloc (Nat.le_refl _) (.cells #[.int .i64 n0, .int .i64 n1, .int .i64 n2, .slice (some ⟨bL, 0, none⟩) nL cL, .slice (some ⟨bW, 0, none⟩) nW cW, .bool off, .bool ar, .int .i64 af, .int .u32 sd, .int .i64 op] 29)).alloc (by rw [World.size_alloc]; omega) (.cells #[.int .i64 k, .int .i64 s, .int .i64 j, .int .u32 x] 40)).alloc (by simp only [World.size_alloc]; omega) (.cells #[.int .i64 0, .int .i64 0, .int .i64 0, .slice none 0 0, .slice none 0 0, .bool false, .bool false, .int .i64 0, .int .u32 0, .int .i64 0] 29))
  have HE3 := Lib.hid e3
  have HR := Lib.hid hR
  have HD := Lib.hid hD
  have HT := Lib.hid hT
  have HNT0 := Lib.hid (And.intro hn1 hn2)
  have HH := Lib.hid (And.intro hd hr)
  have HLT := Lib.hid (And.intro hr.ltL hr.ltW)
  obtain ⟨B, hB⟩ : ∃ B, w.heap.size = B := ⟨_, rfl⟩
  clear hd hr hR hD hT hn1 hn2 e3
  go_enter Try.func14, Try.ntmps14
  go_upto_region 5 with (first
    | (go_at_call 47; go_must (
        refine (HR.out _ (HH.out.2.new HB.out)).mono ?_
        rintro e w1 ⟨bL', cL', bW', cW', rfl, hr1, h1L, h1W, hb1⟩
        have h1 := HTA.out.new hb1
        have hd1 := (HH.out.1.new HB.out).new hb1
        have hn1 : (bL' = bL ∨ w.heap.size ≤ bL') ∧ (bW' = bW ∨ w.heap.size ≤ bW') := ⟨h1L.imp id (Nat.le_trans HB.out.size), h1W.imp id (Nat.le_trans HB.out.size)⟩
        have hne : (bL' = bL ∨ B + 1 + 1 + 1 ≤ bL') ∧ (bW' = bW ∨ B + 1 + 1 + 1 ≤ bW') := ⟨h1L.imp id (Nat.le_trans (by have := HTA.out.y.lt; rw [hB] at this; exact this)), h1W.imp id (Nat.le_trans (by have := HTA.out.y.lt; rw [hB] at this; exact this))⟩
        have H1 := Lib.hid (And.intro h1 (And.intro hr1 (And.intro hd1 (And.intro hn1 hne))))
        obtain ⟨x1, o1, y1, b1⟩ := h1; rw [hB] at x1
        have c0 := x1.cell 0 _ rfl; have c1 := x1.cell 1 _ rfl; have c2 := x1.cell 2 _ rfl; have c3 := x1.cell 3 _ rfl; have c4 := x1.cell 4 _ rfl; have c5 := x1.cell 5 _ rfl; have c6 := x1.cell 6 _ rfl; have c7 := x1.cell 7 _ rfl; have c8 := x1.cell 8 _ rfl; have c9 := x1.cell 9 _ rfl; have f0 := x1.fr 0; have f1 := x1.fr 1; have f2 := x1.fr 2; have f3 := x1.fr 3; have f4 := x1.fr 4; have f5 := x1.fr 5; have f6 := x1.fr 6; have f7 := x1.fr 7; have f8 := x1.fr 8; have f9 := x1.fr 9
        clear hr1 hd1 hb1 h1L h1W hn1 hne x1 o1 y1 b1))
    | fail)
  have hlt := HLT.out
  have hne := H1.out.2.2.2.2
  have hb1 : bL' ≠ B ∧ bW' ≠ B ∧ bL' ≠ B + 1 + 1 ∧ bW' ≠ B + 1 + 1 := by rw [hB] at hlt; refine ⟨?_, ?_, ?_, ?_⟩ <;> omega
  have hnt : ¬ T bL' ∧ ¬ T bW' := ⟨fun e => by
    rcases H1.out.2.2.2.1.1 with h | h
    · rw [h] at e; exact HNT0.out.1 e
    · have := HT.out _ e; omega, fun e => by
    rcases H1.out.2.2.2.1.2 with h | h
    · rw [h] at e; exact HNT0.out.2 e
    · have := HT.out _ e; omega⟩
  have HNT := Lib.hid hnt
  have HBB := Lib.hid hb1
  have h2 := H1.out.1.put rfl (.int .i64 n0) (.int .i64 n1) (.int .i64 n2) (.slice (some ⟨bL', 0, none⟩) nL cL') (.slice (some ⟨bW', 0, none⟩) nW cW') (.bool off') (.bool ar') (.int .i64 af') (.int .u32 sd) (.int .i64 op')
  have hr2 := H1.out.2.1.keep (ch_put w1 B (.int .i64 n0) (.int .i64 n1) (.int .i64 n2) (.slice (some ⟨bL', 0, none⟩) nL cL') (.slice (some ⟨bW', 0, none⟩) nW cW') (.bool off') (.bool ar') (.int .i64 af') (.int .u32 sd) (.int .i64 op')) hb1.1 hb1.2.1
  have hd2 := H1.out.2.2.1.keep (ch_put w1 B (.int .i64 n0) (.int .i64 n1) (.int .i64 n2) (.slice (some ⟨bL', 0, none⟩) nL cL') (.slice (some ⟨bW', 0, none⟩) nW cW') (.bool off') (.bool ar') (.int .i64 af') (.int .u32 sd) (.int .i64 op')) (fun jj hj e => by have := HH.out.1.own_lt _ hj; rw [hB] at this; omega)
  rw [hB] at h2
  generalize hw2 : World.setCell _ _ _ = w2 at h2 hr2 hd2 ⊢
  have H2 := Lib.hid (And.intro h2 (And.intro hr2 (And.intro hd2 trivial)))
  have hS2 : BoxAt w2 B (lD n0 n1 n2 bL' nL cL' bW' nW cW' off' ar' af' sd op') ∧ BoxAt w2 (B + 1) [.int .i64 k, .int .i64 s, .int .i64 j, .int .u32 x] := by have := And.intro h2.x h2.o; rw [hB] at this; exact this
  clear c0 f0 c1 f1 c2 f2 c3 f3 c4 f4 c5 f5 c6 f6 c7 f7 c8 f8 c9 f9 hw2 h2 hr2 hd2 hnt hb1 hlt hne
  refine wp_region_g (fun w' => BoxAt w' B (lD n0 n1 n2 bL' nL cL' bW' nW cW' off' ar' af' sd op') ∧ BoxAt w' (B + 1) [.int .i64 k, .int .i64 s, .int .i64 j, .int .u32 x]) 8 (by kernel_rfl) ⟨hS2.1.new (below_dn (Below.refl _ _) 1), hS2.2.new (below_dn (Below.refl _ _) 1)⟩ (fun hS => ?_)
  refine wpAnyG_take (i := 0) (oi := { dst := some 24, op := .load 29 (.tmp 4), type := 29, pos := "law.go:34", after := #[], guard := none }) (v := ?_) rfl (by kernel_rfl) (by kernel_rfl) (by kernel_rfl) (by kernel_rfl) (fun _ _ _ h => h) (Or.inl ⟨by rfl, ?_⟩) hS ?_
  rotate_left 1
  · intro w hw; obtain ⟨hx, ho⟩ := hw; have s0 := hx.cell 0 _ rfl; have s1 := hx.cell 1 _ rfl; have s2 := hx.cell 2 _ rfl; have s3 := hx.cell 3 _ rfl; have s4 := hx.cell 4 _ rfl; have s5 := hx.cell 5 _ rfl; have s6 := hx.cell 6 _ rfl; have s7 := hx.cell 7 _ rfl; have s8 := hx.cell 8 _ rfl; have s9 := hx.cell 9 _ rfl; have p0 := ho.cell 0 _ rfl; have p1 := ho.cell 1 _ rfl; have p2 := ho.cell 2 _ rfl; have p3 := ho.cell 3 _ rfl; go_simp; try (with_reducible rfl)
  simp only [Act.put, List.setIfInBounds_toArray, List.set_cons_zero, List.set_cons_succ]
  refine wpAnyG_take (i := 1) (oi := { dst := some 25, op := .move (.tmp 0), type := 32, pos := "law.go:34", after := #[], guard := none }) (v := ?_) rfl (by kernel_rfl) (by kernel_rfl) (by kernel_rfl) (by kernel_rfl) (fun _ _ _ h => h) (Or.inl ⟨by rfl, ?_⟩) hS ?_
  rotate_left 1
  · intro w hw; obtain ⟨hx, ho⟩ := hw; go_simp; try (with_reducible rfl)
  simp only [Act.put, List.setIfInBounds_toArray, List.set_cons_zero, List.set_cons_succ]
  refine wpAnyG_take (i := 2) (oi := { dst := some 26, op := .fieldAddr 40 (.tmp 5) 1, type := 0, pos := "law.go:34", after := #[], guard := none }) (v := ?_) rfl (by kernel_rfl) (by kernel_rfl) (by kernel_rfl) (by kernel_rfl) (fun _ _ _ h => h) (Or.inl ⟨by rfl, ?_⟩) hS ?_
  rotate_left 1
  · intro w hw; obtain ⟨hx, ho⟩ := hw; go_simp; try (with_reducible rfl)
  simp only [Act.put, List.setIfInBounds_toArray, List.set_cons_zero, List.set_cons_succ]
  refine wpAnyG_take (i := 3) (oi := { dst := some 27, op := .load 3 (.tmp 26), type := 3, pos := "law.go:34", after := #[{ on := 2, ground := .data }], guard := none }) (v := ?_) rfl (by kernel_rfl) (by kernel_rfl) (by kernel_rfl) (by kernel_rfl) (fun _ _ _ h => h) (Or.inl ⟨by rfl, ?_⟩) hS ?_
  rotate_left 1
  · intro w hw; obtain ⟨hx, ho⟩ := hw; have s0 := hx.cell 0 _ rfl; have s1 := hx.cell 1 _ rfl; have s2 := hx.cell 2 _ rfl; have s3 := hx.cell 3 _ rfl; have s4 := hx.cell 4 _ rfl; have s5 := hx.cell 5 _ rfl; have s6 := hx.cell 6 _ rfl; have s7 := hx.cell 7 _ rfl; have s8 := hx.cell 8 _ rfl; have s9 := hx.cell 9 _ rfl; have p0 := ho.cell 0 _ rfl; have p1 := ho.cell 1 _ rfl; have p2 := ho.cell 2 _ rfl; have p3 := ho.cell 3 _ rfl; go_simp; try (with_reducible rfl)
  simp only [Act.put, List.setIfInBounds_toArray, List.set_cons_zero, List.set_cons_succ]
  refine wpAnyG_take (i := 5) (oi := { dst := some 29, op := .move (.tmp 8), type := 3, pos := "law.go:34", after := #[{ on := 7, ground := .gcOnly Go.Departure.lateStores }], guard := none }) (v := ?_) rfl (by kernel_rfl) (by kernel_rfl) (by kernel_rfl) (by kernel_rfl) (fun _ _ _ h => h) (Or.inl ⟨by rfl, ?_⟩) hS ?_
  rotate_left 1
  · intro w hw; obtain ⟨hx, ho⟩ := hw; go_simp; try (with_reducible rfl)
  simp only [Act.put, List.setIfInBounds_toArray, List.set_cons_zero, List.set_cons_succ]
  refine wpAnyG_ready (rs := [4]) (by kernel_rfl) (by simp) (AllReadyG.cons (o := { dst := some 28, op := .call { callee := .value (.func 48), args := #[.tmp 25, .tmp 27], argTypes := #[32, 3] }, type := 33, pos := "law.go:34", after := #[{ on := 1, ground := .data }, { on := 3, ground := .data }], guard := none }) rfl (fun K hK => ?_) AllReadyG.nil)
  go_simp
  refine (HD.out _ (H2.out.2.2.1.drewN 1)).mono ?_
  rintro e w3 ⟨rfl, hd3, hc3⟩
  have h3 := H2.out.1.dev ((Ch.refl _ _).drewN 1 |>.trans hc3) HT.out
  have hr3 := H2.out.2.1.keep ((Ch.refl _ _).drewN 1 |>.trans hc3) HNT.out.1 HNT.out.2
  have H3 := Lib.hid (And.intro h3 (And.intro hr3 hd3))
  have hS3 := And.intro h3.x h3.o; rw [hB] at hS3
  have f0 := h3.y.fr 0; have f1 := h3.y.fr 1; have f2 := h3.y.fr 2; have f3 := h3.y.fr 3; have f4 := h3.y.fr 4; have f5 := h3.y.fr 5; have f6 := h3.y.fr 6; have f7 := h3.y.fr 7; have f8 := h3.y.fr 8; have f9 := h3.y.fr 9
  have z0 := h3.y.cell 0 _ rfl; have z1 := h3.y.cell 1 _ rfl; have z2 := h3.y.cell 2 _ rfl; have z3 := h3.y.cell 3 _ rfl; have z4 := h3.y.cell 4 _ rfl; have z5 := h3.y.cell 5 _ rfl; have z6 := h3.y.cell 6 _ rfl; have z7 := h3.y.cell 7 _ rfl; have z8 := h3.y.cell 8 _ rfl; have z9 := h3.y.cell 9 _ rfl
  rw [hB] at f0 z0 f1 z1 f2 z2 f3 z3 f4 z4 f5 z5 f6 z6 f7 z7 f8 z8 f9 z9
  clear h3 hr3 hd3 hc3
  dsimp only
  refine hK.out _ _ hS3 (fun hHeld => ?_)
  clear hK K
  try simp only [Act.put, List.setIfInBounds_toArray, List.set_cons_zero, List.set_cons_succ]
  refine wpAnyG_take (i := 6) (oi := { dst := some 30, op := .binOp .eql 3 (.tmp 28) (.tmp 29) 3, type := 4, pos := "law.go:34", after := #[{ on := 4, ground := .data }, { on := 5, ground := .data }, { on := 7, ground := .gcOnly Go.Departure.lateStores }], guard := none }) (v := ?_) rfl (by kernel_rfl) (by kernel_rfl) (by kernel_rfl) (by kernel_rfl) (fun _ _ _ h => h) (Or.inl ⟨by rfl, ?_⟩) hS3 ?_
  rotate_left 1
  · intro w hw; obtain ⟨hx, ho⟩ := hw; go_simp; try (with_reducible rfl)
  simp only [Act.put, List.setIfInBounds_toArray, List.set_cons_zero, List.set_cons_succ]
  refine wpAnyG_ready (rs := [7]) (by kernel_rfl) (by simp) (AllReadyG.cons (o := { dst := none, op := .store 29 (.tmp 6) (.tmp 24), type := 0, pos := "law.go:34", after := #[{ on := 0, ground := .data }, { on := 4, ground := .chain }, { on := 0, ground := .phase }, { on := 1, ground := .textOnly Go.Departure.lateStores }, { on := 2, ground := .textOnly Go.Departure.lateStores }, { on := 3, ground := .textOnly Go.Departure.lateStores }, { on := 4, ground := .textOnly Go.Departure.lateStoresUnsure }, { on := 5, ground := .textOnly Go.Departure.lateStores }, { on := 6, ground := .textOnly Go.Departure.lateStores }], guard := none }) rfl (fun K hK => ?_) AllReadyG.nil)
  go_simp
  refine hK.out _ _ ⟨hS3.1.keep (ch_put w3 (B + 1 + 1) (.int .i64 n0) (.int .i64 n1) (.int .i64 n2) (.slice (some ⟨bL', 0, none⟩) nL cL') (.slice (some ⟨bW', 0, none⟩) nW cW') (.bool off') (.bool ar') (.int .i64 af') (.int .u32 sd) (.int .i64 op')) (by omega), hS3.2.keep (ch_put w3 (B + 1 + 1) (.int .i64 n0) (.int .i64 n1) (.int .i64 n2) (.slice (some ⟨bL', 0, none⟩) nL cL') (.slice (some ⟨bW', 0, none⟩) nW cW') (.bool off') (.bool ar') (.int .i64 af') (.int .u32 sd) (.int .i64 op')) (by omega)⟩ (fun hHeld => ?_)
  clear hK K
  try simp only [Act.put, List.setIfInBounds_toArray, List.set_cons_zero, List.set_cons_succ]
  refine wpAnyG_ready (rs := [8]) (by kernel_rfl) (by simp) (AllReadyG.last (o := { dst := some 7, op := .assign (.tmp 30), type := 4, pos := "law.go:34", after := #[{ on := 6, ground := .data }, { on := 7, ground := .chain }, { on := 0, ground := .phase }, { on := 1, ground := .phase }, { on := 2, ground := .phase }, { on := 3, ground := .phase }, { on := 4, ground := .phase }, { on := 5, ground := .phase }, { on := 6, ground := .phase }, { on := 7, ground := .phase }], guard := none }) rfl (fun K hK => ?_))
  go_simp
  refine hK.out _ _ ?_
  clear hK K
  try simp only [Act.put, List.setIfInBounds_toArray, List.set_cons_zero, List.set_cons_succ]
  refine wpAnyG_done (by kernel_rfl) ?_ _
  go_wp2
  have hbb := HBB.out
  have hltB : w.heap.size ≤ B := Nat.le_of_eq hB
  have hd4 := H3.out.2.2.keep (ch_put w3 (B + 1 + 1) (.int .i64 n0) (.int .i64 n1) (.int .i64 n2) (.slice (some ⟨bL', 0, none⟩) nL cL') (.slice (some ⟨bW', 0, none⟩) nW cW') (.bool off') (.bool ar') (.int .i64 af') (.int .u32 sd) (.int .i64 op')) (fun jj hj e => by have := HH.out.1.own_lt _ (by rw [← HE3.out]; exact hj); omega)
  have hr4 := H3.out.2.1.keep (ch_put w3 (B + 1 + 1) (.int .i64 n0) (.int .i64 n1) (.int .i64 n2) (.slice (some ⟨bL', 0, none⟩) nL cL') (.slice (some ⟨bW', 0, none⟩) nW cW') (.bool off') (.bool ar') (.int .i64 af') (.int .u32 sd) (.int .i64 op')) hbb.2.2.1 hbb.2.2.2
  have hc4 := H3.out.1.c.then_below ((ch_put w3 (B + 1 + 1) (.int .i64 n0) (.int .i64 n1) (.int .i64 n2) (.slice (some ⟨bL', 0, none⟩) nL cL') (.slice (some ⟨bW', 0, none⟩) nW cW') (.bool off') (.bool ar') (.int .i64 af') (.int .u32 sd) (.int .i64 op')).below (n := w.heap.size) (fun jj hj e => by omega) H3.out.1.c.size)
  refine ⟨rfl, .tuple #[vD n0 n1 n2 bL' nL cL' bW' nW cW' off' ar' af' sd op', .bool true], ?_, bL', cL', bW', cW', rfl, hd4, hr4, H1.out.2.2.2.1.1, H1.out.2.2.2.1.2, hc4⟩
  simp [results, Try.results14, go_sem, *]
set_option maxHeartbeats 1000000 in
theorem do_program (w : World) (q S : Nat) (g : Nat → Nat) (d D0 D2 D3 : Dev) (k s j x E r r8 : Int) (off' ar' : Bool) (af' op' : Int) (hd : DevAt w q S g d) (hr : RefIn w bL bW D0) (hT : ∀ j, T j → j < w.heap.size) (hn1 : ¬ T bL) (hn2 : ¬ T bW) (e3 : D3.ns = d.ns) (m1 : k.tmod 8 = r) (m2 : wrap64 (r + 8) = r8) (kk : Int) (m3 : r8.tmod 8 = kk) (m4 : (kk == 4) = false) (m5 : (kk == 5) = false) (m6 : (kk == 6) = false) (m7 : (kk == 7) = false)
    (hR : ∀ w1, RefIn w1 bL bW D0 → Calls Try.prog 52 #[vD n0 n1 n2 bL nL cL bW nW cW off ar af sd op, .int .i64 s, .int .i64 j, .int .u32 x] w1 fun e w' => ∃ bL' cL' bW' cW', e = .returned (.tuple #[vD n0 n1 n2 bL' nL cL' bW' nW cW' off' ar' af' sd op', .int .i64 E]) ∧ RefIn w' bL' bW' D2 ∧ (bL' = bL ∨ w1.heap.size ≤ bL') ∧ (bW' = bW ∨ w1.heap.size ≤ bW') ∧ Below w1.heap.size w1 w')
    (hD : ∀ w1, DevAt w1 q S g d → Calls Try.prog 45 #[.pointer (some ⟨q, 0, none⟩), .int .i64 s, .int .i64 j, .int .u32 x] w1 fun e w' => e = .returned (.int .i64 E) ∧ DevAt w' q S g D3 ∧ Ch T w1 w') :
    Calls Try.prog 14 #[.pointer (some ⟨q, 0, none⟩), vD n0 n1 n2 bL nL cL bW nW cW off ar af sd op, .agg #[.int .i64 k, .int .i64 s, .int .i64 j, .int .u32 x]] w fun e w' => DoOut T w w' q S g bL bW D3 D2 (fun bL' cL' bW' cW' => vD n0 n1 n2 bL' nL cL' bW' nW cW' off' ar' af' sd op') e := by
  have HTA := Lib.hid (ThreeAt.start T w n0 n1 n2 bL nL cL bW nW cW off ar af sd op k s j x)
  have HB := Lib.hid (show Below w.heap.size w _ from (((Below.refl _ w).alloc (Nat.le_refl _) (.cells #[.int .i64 n0, .int .i64 n1, .int .i64 n2, .slice (some ⟨bL, 0, none⟩) nL cL, .slice (some ⟨bW, 0, none⟩) nW cW, .bool off, .bool ar, .int .i64 af, .int .u32 sd, .int .i64 op] 29)).alloc (by rw [World.size_alloc]; omega) (.cells #[.int .i64 k, .int .i64 s, .int .i64 j, .int .u32 x] 40)).alloc (by simp only [World.size_alloc]; omega) (.cells #[.int .i64 0, .int .i64 0, .int .i64 0, .slice none 0 0, .slice none 0 0, .bool false, .bool false, .int .i64 0, .int .u32 0, .int .i64 0] 29))
  have HE3 := Lib.hid e3
  have HR := Lib.hid hR
  have HD := Lib.hid hD
  have HT := Lib.hid hT
  have HNT0 := Lib.hid (And.intro hn1 hn2)
  have HH := Lib.hid (And.intro hd hr)
  have HLT := Lib.hid (And.intro hr.ltL hr.ltW)
  obtain ⟨B, hB⟩ : ∃ B, w.heap.size = B := ⟨_, rfl⟩
  clear hd hr hR hD hT hn1 hn2 e3
  go_enter Try.func14, Try.ntmps14
  go_upto_region 16 with (first
    | (go_at_call 52; go_must (
        refine (HR.out _ (HH.out.2.new HB.out)).mono ?_
        rintro e w1 ⟨bL', cL', bW', cW', rfl, hr1, h1L, h1W, hb1⟩
        have h1 := HTA.out.new hb1
        have hd1 := (HH.out.1.new HB.out).new hb1
        have hn1 : (bL' = bL ∨ w.heap.size ≤ bL') ∧ (bW' = bW ∨ w.heap.size ≤ bW') := ⟨h1L.imp id (Nat.le_trans HB.out.size), h1W.imp id (Nat.le_trans HB.out.size)⟩
        have hne : (bL' = bL ∨ B + 1 + 1 + 1 ≤ bL') ∧ (bW' = bW ∨ B + 1 + 1 + 1 ≤ bW') := ⟨h1L.imp id (Nat.le_trans (by have := HTA.out.y.lt; rw [hB] at this; exact this)), h1W.imp id (Nat.le_trans (by have := HTA.out.y.lt; rw [hB] at this; exact this))⟩
        have H1 := Lib.hid (And.intro h1 (And.intro hr1 (And.intro hd1 (And.intro hn1 hne))))
        obtain ⟨x1, o1, y1, b1⟩ := h1; rw [hB] at x1
        have c0 := x1.cell 0 _ rfl; have c1 := x1.cell 1 _ rfl; have c2 := x1.cell 2 _ rfl; have c3 := x1.cell 3 _ rfl; have c4 := x1.cell 4 _ rfl; have c5 := x1.cell 5 _ rfl; have c6 := x1.cell 6 _ rfl; have c7 := x1.cell 7 _ rfl; have c8 := x1.cell 8 _ rfl; have c9 := x1.cell 9 _ rfl; have f0 := x1.fr 0; have f1 := x1.fr 1; have f2 := x1.fr 2; have f3 := x1.fr 3; have f4 := x1.fr 4; have f5 := x1.fr 5; have f6 := x1.fr 6; have f7 := x1.fr 7; have f8 := x1.fr 8; have f9 := x1.fr 9
        clear hr1 hd1 hb1 h1L h1W hn1 hne x1 o1 y1 b1))
    | fail)
  have hlt := HLT.out
  have hne := H1.out.2.2.2.2
  have hb1 : bL' ≠ B ∧ bW' ≠ B ∧ bL' ≠ B + 1 + 1 ∧ bW' ≠ B + 1 + 1 := by rw [hB] at hlt; refine ⟨?_, ?_, ?_, ?_⟩ <;> omega
  have hnt : ¬ T bL' ∧ ¬ T bW' := ⟨fun e => by
    rcases H1.out.2.2.2.1.1 with h | h
    · rw [h] at e; exact HNT0.out.1 e
    · have := HT.out _ e; omega, fun e => by
    rcases H1.out.2.2.2.1.2 with h | h
    · rw [h] at e; exact HNT0.out.2 e
    · have := HT.out _ e; omega⟩
  have HNT := Lib.hid hnt
  have HBB := Lib.hid hb1
  have h2 := H1.out.1.put rfl (.int .i64 n0) (.int .i64 n1) (.int .i64 n2) (.slice (some ⟨bL', 0, none⟩) nL cL') (.slice (some ⟨bW', 0, none⟩) nW cW') (.bool off') (.bool ar') (.int .i64 af') (.int .u32 sd) (.int .i64 op')
  have hr2 := H1.out.2.1.keep (ch_put w1 B (.int .i64 n0) (.int .i64 n1) (.int .i64 n2) (.slice (some ⟨bL', 0, none⟩) nL cL') (.slice (some ⟨bW', 0, none⟩) nW cW') (.bool off') (.bool ar') (.int .i64 af') (.int .u32 sd) (.int .i64 op')) hb1.1 hb1.2.1
  have hd2 := H1.out.2.2.1.keep (ch_put w1 B (.int .i64 n0) (.int .i64 n1) (.int .i64 n2) (.slice (some ⟨bL', 0, none⟩) nL cL') (.slice (some ⟨bW', 0, none⟩) nW cW') (.bool off') (.bool ar') (.int .i64 af') (.int .u32 sd) (.int .i64 op')) (fun jj hj e => by have := HH.out.1.own_lt _ hj; rw [hB] at this; omega)
  rw [hB] at h2
  generalize hw2 : World.setCell _ _ _ = w2 at h2 hr2 hd2 ⊢
  have H2 := Lib.hid (And.intro h2 (And.intro hr2 (And.intro hd2 trivial)))
  have hS2 : BoxAt w2 B (lD n0 n1 n2 bL' nL cL' bW' nW cW' off' ar' af' sd op') ∧ BoxAt w2 (B + 1) [.int .i64 k, .int .i64 s, .int .i64 j, .int .u32 x] := by have := And.intro h2.x h2.o; rw [hB] at this; exact this
  clear c0 f0 c1 f1 c2 f2 c3 f3 c4 f4 c5 f5 c6 f6 c7 f7 c8 f8 c9 f9 hw2 h2 hr2 hd2 hnt hb1 hlt hne
  refine wp_region_g (fun w' => BoxAt w' B (lD n0 n1 n2 bL' nL cL' bW' nW cW' off' ar' af' sd op') ∧ BoxAt w' (B + 1) [.int .i64 k, .int .i64 s, .int .i64 j, .int .u32 x]) 12 (by kernel_rfl) ⟨hS2.1.new (below_dn (Below.refl _ _) 1), hS2.2.new (below_dn (Below.refl _ _) 1)⟩ (fun hS => ?_)
  refine wpAnyG_take (i := 0) (oi := { dst := some 73, op := .load 29 (.tmp 4), type := 29, pos := "law.go:45", after := #[], guard := none }) (v := ?_) rfl (by kernel_rfl) (by kernel_rfl) (by kernel_rfl) (by kernel_rfl) (fun _ _ _ h => h) (Or.inl ⟨by rfl, ?_⟩) hS ?_
  rotate_left 1
  · intro w hw; obtain ⟨hx, ho⟩ := hw; have s0 := hx.cell 0 _ rfl; have s1 := hx.cell 1 _ rfl; have s2 := hx.cell 2 _ rfl; have s3 := hx.cell 3 _ rfl; have s4 := hx.cell 4 _ rfl; have s5 := hx.cell 5 _ rfl; have s6 := hx.cell 6 _ rfl; have s7 := hx.cell 7 _ rfl; have s8 := hx.cell 8 _ rfl; have s9 := hx.cell 9 _ rfl; have p0 := ho.cell 0 _ rfl; have p1 := ho.cell 1 _ rfl; have p2 := ho.cell 2 _ rfl; have p3 := ho.cell 3 _ rfl; go_simp; try (with_reducible rfl)
  simp only [Act.put, List.setIfInBounds_toArray, List.set_cons_zero, List.set_cons_succ]
  refine wpAnyG_take (i := 1) (oi := { dst := some 74, op := .move (.tmp 0), type := 32, pos := "law.go:45", after := #[], guard := none }) (v := ?_) rfl (by kernel_rfl) (by kernel_rfl) (by kernel_rfl) (by kernel_rfl) (fun _ _ _ h => h) (Or.inl ⟨by rfl, ?_⟩) hS ?_
  rotate_left 1
  · intro w hw; obtain ⟨hx, ho⟩ := hw; go_simp; try (with_reducible rfl)
  simp only [Act.put, List.setIfInBounds_toArray, List.set_cons_zero, List.set_cons_succ]
  refine wpAnyG_take (i := 2) (oi := { dst := some 75, op := .fieldAddr 40 (.tmp 5) 1, type := 0, pos := "law.go:45", after := #[], guard := none }) (v := ?_) rfl (by kernel_rfl) (by kernel_rfl) (by kernel_rfl) (by kernel_rfl) (fun _ _ _ h => h) (Or.inl ⟨by rfl, ?_⟩) hS ?_
  rotate_left 1
  · intro w hw; obtain ⟨hx, ho⟩ := hw; go_simp; try (with_reducible rfl)
  simp only [Act.put, List.setIfInBounds_toArray, List.set_cons_zero, List.set_cons_succ]
  refine wpAnyG_take (i := 3) (oi := { dst := some 76, op := .load 3 (.tmp 75), type := 3, pos := "law.go:45", after := #[{ on := 2, ground := .data }], guard := none }) (v := ?_) rfl (by kernel_rfl) (by kernel_rfl) (by kernel_rfl) (by kernel_rfl) (fun _ _ _ h => h) (Or.inl ⟨by rfl, ?_⟩) hS ?_
  rotate_left 1
  · intro w hw; obtain ⟨hx, ho⟩ := hw; have s0 := hx.cell 0 _ rfl; have s1 := hx.cell 1 _ rfl; have s2 := hx.cell 2 _ rfl; have s3 := hx.cell 3 _ rfl; have s4 := hx.cell 4 _ rfl; have s5 := hx.cell 5 _ rfl; have s6 := hx.cell 6 _ rfl; have s7 := hx.cell 7 _ rfl; have s8 := hx.cell 8 _ rfl; have s9 := hx.cell 9 _ rfl; have p0 := ho.cell 0 _ rfl; have p1 := ho.cell 1 _ rfl; have p2 := ho.cell 2 _ rfl; have p3 := ho.cell 3 _ rfl; go_simp; try (with_reducible rfl)
  simp only [Act.put, List.setIfInBounds_toArray, List.set_cons_zero, List.set_cons_succ]
  refine wpAnyG_take (i := 4) (oi := { dst := some 77, op := .fieldAddr 40 (.tmp 5) 2, type := 0, pos := "law.go:45", after := #[], guard := none }) (v := ?_) rfl (by kernel_rfl) (by kernel_rfl) (by kernel_rfl) (by kernel_rfl) (fun _ _ _ h => h) (Or.inl ⟨by rfl, ?_⟩) hS ?_
  rotate_left 1
  · intro w hw; obtain ⟨hx, ho⟩ := hw; go_simp; try (with_reducible rfl)
  simp only [Act.put, List.setIfInBounds_toArray, List.set_cons_zero, List.set_cons_succ]
  refine wpAnyG_take (i := 5) (oi := { dst := some 78, op := .load 3 (.tmp 77), type := 3, pos := "law.go:45", after := #[{ on := 4, ground := .data }], guard := none }) (v := ?_) rfl (by kernel_rfl) (by kernel_rfl) (by kernel_rfl) (by kernel_rfl) (fun _ _ _ h => h) (Or.inl ⟨by rfl, ?_⟩) hS ?_
  rotate_left 1
  · intro w hw; obtain ⟨hx, ho⟩ := hw; have s0 := hx.cell 0 _ rfl; have s1 := hx.cell 1 _ rfl; have s2 := hx.cell 2 _ rfl; have s3 := hx.cell 3 _ rfl; have s4 := hx.cell 4 _ rfl; have s5 := hx.cell 5 _ rfl; have s6 := hx.cell 6 _ rfl; have s7 := hx.cell 7 _ rfl; have s8 := hx.cell 8 _ rfl; have s9 := hx.cell 9 _ rfl; have p0 := ho.cell 0 _ rfl; have p1 := ho.cell 1 _ rfl; have p2 := ho.cell 2 _ rfl; have p3 := ho.cell 3 _ rfl; go_simp; try (with_reducible rfl)
  simp only [Act.put, List.setIfInBounds_toArray, List.set_cons_zero, List.set_cons_succ]
  refine wpAnyG_take (i := 6) (oi := { dst := some 79, op := .fieldAddr 40 (.tmp 5) 3, type := 0, pos := "law.go:45", after := #[], guard := none }) (v := ?_) rfl (by kernel_rfl) (by kernel_rfl) (by kernel_rfl) (by kernel_rfl) (fun _ _ _ h => h) (Or.inl ⟨by rfl, ?_⟩) hS ?_
  rotate_left 1
  · intro w hw; obtain ⟨hx, ho⟩ := hw; go_simp; try (with_reducible rfl)
  simp only [Act.put, List.setIfInBounds_toArray, List.set_cons_zero, List.set_cons_succ]
  refine wpAnyG_take (i := 7) (oi := { dst := some 80, op := .load 27 (.tmp 79), type := 27, pos := "law.go:45", after := #[{ on := 6, ground := .data }], guard := none }) (v := ?_) rfl (by kernel_rfl) (by kernel_rfl) (by kernel_rfl) (by kernel_rfl) (fun _ _ _ h => h) (Or.inl ⟨by rfl, ?_⟩) hS ?_
  rotate_left 1
  · intro w hw; obtain ⟨hx, ho⟩ := hw; have s0 := hx.cell 0 _ rfl; have s1 := hx.cell 1 _ rfl; have s2 := hx.cell 2 _ rfl; have s3 := hx.cell 3 _ rfl; have s4 := hx.cell 4 _ rfl; have s5 := hx.cell 5 _ rfl; have s6 := hx.cell 6 _ rfl; have s7 := hx.cell 7 _ rfl; have s8 := hx.cell 8 _ rfl; have s9 := hx.cell 9 _ rfl; have p0 := ho.cell 0 _ rfl; have p1 := ho.cell 1 _ rfl; have p2 := ho.cell 2 _ rfl; have p3 := ho.cell 3 _ rfl; go_simp; try (with_reducible rfl)
  simp only [Act.put, List.setIfInBounds_toArray, List.set_cons_zero, List.set_cons_succ]
  refine wpAnyG_take (i := 9) (oi := { dst := some 82, op := .move (.tmp 8), type := 3, pos := "law.go:45", after := #[{ on := 11, ground := .gcOnly Go.Departure.lateStores }], guard := none }) (v := ?_) rfl (by kernel_rfl) (by kernel_rfl) (by kernel_rfl) (by kernel_rfl) (fun _ _ _ h => h) (Or.inl ⟨by rfl, ?_⟩) hS ?_
  rotate_left 1
  · intro w hw; obtain ⟨hx, ho⟩ := hw; go_simp; try (with_reducible rfl)
  simp only [Act.put, List.setIfInBounds_toArray, List.set_cons_zero, List.set_cons_succ]
  refine wpAnyG_ready (rs := [8]) (by kernel_rfl) (by simp) (AllReadyG.cons (o := { dst := some 81, op := .call { callee := .value (.func 45), args := #[.tmp 74, .tmp 76, .tmp 78, .tmp 80], argTypes := #[32, 3, 3, 27] }, type := 33, pos := "law.go:45", after := #[{ on := 1, ground := .data }, { on := 3, ground := .data }, { on := 5, ground := .data }, { on := 7, ground := .data }], guard := none }) rfl (fun K hK => ?_) AllReadyG.nil)
  go_simp
  refine (HD.out _ (H2.out.2.2.1.drewN 1)).mono ?_
  rintro e w3 ⟨rfl, hd3, hc3⟩
  have h3 := H2.out.1.dev ((Ch.refl _ _).drewN 1 |>.trans hc3) HT.out
  have hr3 := H2.out.2.1.keep ((Ch.refl _ _).drewN 1 |>.trans hc3) HNT.out.1 HNT.out.2
  have H3 := Lib.hid (And.intro h3 (And.intro hr3 hd3))
  have hS3 := And.intro h3.x h3.o; rw [hB] at hS3
  have f0 := h3.y.fr 0; have f1 := h3.y.fr 1; have f2 := h3.y.fr 2; have f3 := h3.y.fr 3; have f4 := h3.y.fr 4; have f5 := h3.y.fr 5; have f6 := h3.y.fr 6; have f7 := h3.y.fr 7; have f8 := h3.y.fr 8; have f9 := h3.y.fr 9
  have z0 := h3.y.cell 0 _ rfl; have z1 := h3.y.cell 1 _ rfl; have z2 := h3.y.cell 2 _ rfl; have z3 := h3.y.cell 3 _ rfl; have z4 := h3.y.cell 4 _ rfl; have z5 := h3.y.cell 5 _ rfl; have z6 := h3.y.cell 6 _ rfl; have z7 := h3.y.cell 7 _ rfl; have z8 := h3.y.cell 8 _ rfl; have z9 := h3.y.cell 9 _ rfl
  rw [hB] at f0 z0 f1 z1 f2 z2 f3 z3 f4 z4 f5 z5 f6 z6 f7 z7 f8 z8 f9 z9
  clear h3 hr3 hd3 hc3
  dsimp only
  refine hK.out _ _ hS3 (fun hHeld => ?_)
  clear hK K
  try simp only [Act.put, List.setIfInBounds_toArray, List.set_cons_zero, List.set_cons_succ]
  refine wpAnyG_take (i := 10) (oi := { dst := some 83, op := .binOp .eql 3 (.tmp 81) (.tmp 82) 3, type := 4, pos := "law.go:45", after := #[{ on := 8, ground := .data }, { on := 9, ground := .data }, { on := 11, ground := .gcOnly Go.Departure.lateStores }], guard := none }) (v := ?_) rfl (by kernel_rfl) (by kernel_rfl) (by kernel_rfl) (by kernel_rfl) (fun _ _ _ h => h) (Or.inl ⟨by rfl, ?_⟩) hS3 ?_
  rotate_left 1
  · intro w hw; obtain ⟨hx, ho⟩ := hw; go_simp; try (with_reducible rfl)
  simp only [Act.put, List.setIfInBounds_toArray, List.set_cons_zero, List.set_cons_succ]
  refine wpAnyG_ready (rs := [11]) (by kernel_rfl) (by simp) (AllReadyG.cons (o := { dst := none, op := .store 29 (.tmp 6) (.tmp 73), type := 0, pos := "law.go:45", after := #[{ on := 0, ground := .data }, { on := 8, ground := .chain }, { on := 0, ground := .phase }, { on := 1, ground := .textOnly Go.Departure.lateStores }, { on := 2, ground := .textOnly Go.Departure.lateStores }, { on := 3, ground := .textOnly Go.Departure.lateStores }, { on := 4, ground := .textOnly Go.Departure.lateStores }, { on := 5, ground := .textOnly Go.Departure.lateStores }, { on := 6, ground := .textOnly Go.Departure.lateStores }, { on := 7, ground := .textOnly Go.Departure.lateStores }, { on := 8, ground := .textOnly Go.Departure.lateStoresUnsure }, { on := 9, ground := .textOnly Go.Departure.lateStores }, { on := 10, ground := .textOnly Go.Departure.lateStores }], guard := none }) rfl (fun K hK => ?_) AllReadyG.nil)
  go_simp
  refine hK.out _ _ ⟨hS3.1.keep (ch_put w3 (B + 1 + 1) (.int .i64 n0) (.int .i64 n1) (.int .i64 n2) (.slice (some ⟨bL', 0, none⟩) nL cL') (.slice (some ⟨bW', 0, none⟩) nW cW') (.bool off') (.bool ar') (.int .i64 af') (.int .u32 sd) (.int .i64 op')) (by omega), hS3.2.keep (ch_put w3 (B + 1 + 1) (.int .i64 n0) (.int .i64 n1) (.int .i64 n2) (.slice (some ⟨bL', 0, none⟩) nL cL') (.slice (some ⟨bW', 0, none⟩) nW cW') (.bool off') (.bool ar') (.int .i64 af') (.int .u32 sd) (.int .i64 op')) (by omega)⟩ (fun hHeld => ?_)
  clear hK K
  try simp only [Act.put, List.setIfInBounds_toArray, List.set_cons_zero, List.set_cons_succ]
  refine wpAnyG_ready (rs := [12]) (by kernel_rfl) (by simp) (AllReadyG.last (o := { dst := some 7, op := .assign (.tmp 83), type := 4, pos := "law.go:45", after := #[{ on := 10, ground := .data }, { on := 11, ground := .chain }, { on := 0, ground := .phase }, { on := 1, ground := .phase }, { on := 2, ground := .phase }, { on := 3, ground := .phase }, { on := 4, ground := .phase }, { on := 5, ground := .phase }, { on := 6, ground := .phase }, { on := 7, ground := .phase }, { on := 8, ground := .phase }, { on := 9, ground := .phase }, { on := 10, ground := .phase }, { on := 11, ground := .phase }], guard := none }) rfl (fun K hK => ?_))
  go_simp
  refine hK.out _ _ ?_
  clear hK K
  try simp only [Act.put, List.setIfInBounds_toArray, List.set_cons_zero, List.set_cons_succ]
  refine wpAnyG_done (by kernel_rfl) ?_ _
  go_wp2
  have hbb := HBB.out
  have hltB : w.heap.size ≤ B := Nat.le_of_eq hB
  have hd4 := H3.out.2.2.keep (ch_put w3 (B + 1 + 1) (.int .i64 n0) (.int .i64 n1) (.int .i64 n2) (.slice (some ⟨bL', 0, none⟩) nL cL') (.slice (some ⟨bW', 0, none⟩) nW cW') (.bool off') (.bool ar') (.int .i64 af') (.int .u32 sd) (.int .i64 op')) (fun jj hj e => by have := HH.out.1.own_lt _ (by rw [← HE3.out]; exact hj); omega)
  have hr4 := H3.out.2.1.keep (ch_put w3 (B + 1 + 1) (.int .i64 n0) (.int .i64 n1) (.int .i64 n2) (.slice (some ⟨bL', 0, none⟩) nL cL') (.slice (some ⟨bW', 0, none⟩) nW cW') (.bool off') (.bool ar') (.int .i64 af') (.int .u32 sd) (.int .i64 op')) hbb.2.2.1 hbb.2.2.2
  have hc4 := H3.out.1.c.then_below ((ch_put w3 (B + 1 + 1) (.int .i64 n0) (.int .i64 n1) (.int .i64 n2) (.slice (some ⟨bL', 0, none⟩) nL cL') (.slice (some ⟨bW', 0, none⟩) nW cW') (.bool off') (.bool ar') (.int .i64 af') (.int .u32 sd) (.int .i64 op')).below (n := w.heap.size) (fun jj hj e => by omega) H3.out.1.c.size)
  refine ⟨rfl, .tuple #[vD n0 n1 n2 bL' nL cL' bW' nW cW' off' ar' af' sd op', .bool true], ?_, bL', cL', bW', cW', rfl, hd4, hr4, H1.out.2.2.2.1.1, H1.out.2.2.2.1.2, hc4⟩
  simp [results, Try.results14, go_sem, *]
end Go.Proofs.Ytkbmgilceioieaa
