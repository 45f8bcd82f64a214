/- The contract of mbox's Send. -/
import Derived.Test.YtbdcjfkplopbiaaDoorUE
namespace Go.Proofs.YtbdcjfkplopbiaaDoor
open Go.RowKit

set_option maxHeartbeats 1000000 in
theorem send_bad {w : World} {B : Nat} (t x : Int) (ht : ¬ (0 ≤ t ∧ t < 32)) :
    Calls Tryd.prog 8 #[.pointer (some ⟨B, 0, none⟩), .agg #[.int .i64 t, .int .i64 x]] w fun e w' => e = .returned (.tuple #[.bool false, .int .i64 104]) ∧ Below w.heap.size w w' := by
  have HR := Lib.hid (mright_any t)
  rw [decide_eq_false ht] at HR
  have HB := Lib.hid (show Below w.heap.size w (w.alloc (.cells #[.int .i64 t, .int .i64 x] 30)) from (Below.refl _ _).alloc (Nat.le_refl _) _)
  clear ht
  go_enter Tryd.func8, Tryd.ntmps8
  go_wp2_with (go_at_call 15; refine (HR.out _).mono ?_; rintro e w' ⟨rfl, rfl⟩)
  go_ret2
  exact ⟨rfl, HB.out⟩
/-- The facts for the append and the store of a message. -/
theorem send_tail {w w4 : World} {V : Nat → Prop} {B X : Nat} {rm : Int} {sp : Nat → Option Addr} {cp : Nat → Nat} {f : Nat → List Int} {d : Nat} {x : Int} (h : BX w4 V B rm sp cp f) (hc : Ch (fun j => ¬ V j) w w4) (hr : RowAt w4 X 30 #[.int .i64 (d : Nat), .int .i64 x]) (hV : ∀ j, V j → j < w4.heap.size) (hd : d < 32) (hsb : X ≠ B ∧ ∀ e a, e < 32 → sp e = some a → a.block ≠ X) :
    Slc (w4.alloc (.cells #[.int .i64 x] 3)) (sp d) (cp d) (f d) ∧ (w4.alloc (.cells #[.int .i64 x] 3)).cell? ⟨w4.heap.size, 0, none⟩ = some (.int .i64 x) ∧
    (w4.cell? ⟨X, 0, none⟩ = some (.int .i64 (d : Nat)) ∧ w4.cell? ⟨X, 1, none⟩ = some (.int .i64 x) ∧ w4.cell? ⟨B, 1 + d, none⟩ = some (.slice (sp d) (f d).length (cp d))) ∧
    ((w4.alloc (.cells #[.int .i64 x] 3)).cell? ⟨X, 0, none⟩ = some (.int .i64 (d : Nat)) ∧ (w4.alloc (.cells #[.int .i64 x] 3)).cell? ⟨X, 1, none⟩ = some (.int .i64 x) ∧ (w4.alloc (.cells #[.int .i64 x] 3)).cell? ⟨B, 1 + d, none⟩ = some (.slice (sp d) (f d).length (cp d))) ∧
    ∀ (s5 : Option Addr) (c5 : Nat) (w5 : World), Slc w5 s5 c5 (f d ++ [x]) → Ch (fun j => ∃ b, sp d = some b ∧ b.block = j) (w4.alloc (.cells #[.int .i64 x] 3)) w5 → (∀ a', s5 = some a' → a'.block < w5.heap.size ∧ ((∃ b, sp d = some b ∧ b.block = a'.block) ∨ (w4.alloc (.cells #[.int .i64 x] 3)).heap.size ≤ a'.block)) →
      (w5.cell? ⟨X, 0, none⟩ = some (.int .i64 (d : Nat)) ∧ w5.cell? ⟨X, 1, none⟩ = some (.int .i64 x) ∧ w5.cell? ⟨B, 1 + d, none⟩ = some (.slice (sp d) (f d).length (cp d))) ∧ w5.frozen? ⟨B, 1 + d, none⟩ = false ∧ ((w5.setCell ⟨B, 1 + d, none⟩ (.slice s5 ((f d).length + 1) c5)).cell? ⟨X, 0, none⟩ = some (.int .i64 (d : Nat)) ∧ (w5.setCell ⟨B, 1 + d, none⟩ (.slice s5 ((f d).length + 1) c5)).cell? ⟨X, 1, none⟩ = some (.int .i64 x)) ∧
      BX (w5.setCell ⟨B, 1 + d, none⟩ (.slice s5 ((f d).length + 1) c5)) V B rm (updF sp d s5) (updF cp d c5) (updF f d (f d ++ [x])) ∧ Ch (fun j => ¬ V j) w (w5.setCell ⟨B, 1 + d, none⟩ (.slice s5 ((f d).length + 1) c5)) := by
  have ha : Below w4.heap.size w4 (w4.alloc (.cells #[.int .i64 x] 3)) := (Below.refl _ _).alloc (Nat.le_refl _) _
  have h1 := h.new ha
  have r1 := hr.new ha
  have hV1 : ∀ j, V j → j < (w4.alloc (.cells #[.int .i64 x] 3)).heap.size := fun j hj => by have := hV j hj; have := ha.size; omega
  refine ⟨h1.sl d hd, by simp [go_sem], ⟨hr.cell 0, hr.cell 1, h.cd d hd⟩, ⟨r1.cell 0, r1.cell 1, h1.cd d hd⟩, fun s5 c5 w5 hs5 hc5 hn5 => ?_⟩
  have ht := h1.turn hV1 hd hc5 hs5 hn5
  rw [List.length_append] at ht
  have nX : ¬ ∃ b, sp d = some b ∧ b.block = X := fun ⟨b, hb, e⟩ => hsb.2 d b hd hb e
  have nB : ¬ ∃ b, sp d = some b ∧ b.block = B := fun ⟨b, hb, e⟩ => (h.av d b hd hb).2.1 e
  exact ⟨⟨hc5.cell (r1.cell 0) nX, hc5.cell (r1.cell 1) nX, hc5.cell (h1.cd d hd) nB⟩, frozen_of_row w5 B (1 + d) _ _ (hc5.obj h1.row nB), ⟨(World.cell?_setCell_other _ _ _ _ (fun e => hsb.1 (by injection e with e _; first | exact e | exact e.symm))).trans (hc5.cell (r1.cell 0) nX), (World.cell?_setCell_other _ _ _ _ (fun e => hsb.1 (by injection e with e _; first | exact e | exact e.symm))).trans (hc5.cell (r1.cell 1) nX)⟩, ht.1, (hc.trans (Ch.new ha)).trans ht.2⟩
set_option maxHeartbeats 4000000 in
set_option maxRecDepth 100000 in
theorem send_room {w : World} {V : Nat → Prop} {B : Nat} {rm : Int} {f : Nat → List Int} (h : BAt w V B rm f) (hV : ∀ j, V j → j < w.heap.size) (d : Nat) (x : Int) (hd : d < 32) (hm : many f 32 ≤ 65536) (hr : ((many f 32 : Nat) : Int) ≠ rm) :
    Calls Tryd.prog 8 #[.pointer (some ⟨B, 0, none⟩), .agg #[.int .i64 (d : Nat), .int .i64 x]] w fun e w' => e = .returned (.tuple #[.bool false, .int .i64 0]) ∧ BAt w' V B rm (updF f d (f d ++ [x])) ∧ Ch (fun j => ¬ V j) w w' := by
  obtain ⟨sp, cp, hx⟩ := h
  have HR := Lib.hid (mright_any (d : Int))
  rw [decide_eq_true (by omega)] at HR
  obtain ⟨X, hX⟩ : ∃ X, X = w.heap.size := ⟨_, rfl⟩
  obtain ⟨w1, hw1⟩ : ∃ w1, w.alloc (.cells #[.int .i64 (d : Nat), .int .i64 x] 30) = w1 := ⟨_, rfl⟩
  have b1 : Below w.heap.size w w1 := by rw [← hw1]; exact (Below.refl _ _).alloc (Nat.le_refl _) _
  have hr1 : RowAt w1 X 30 #[.int .i64 (d : Nat), .int .i64 x] := by rw [← hw1, hX]; exact RowAt.mk _ _ _
  have hx1 := hx.new b1
  have c0 := hx1.c0
  have k0 : w1.cell? ⟨X, 0, none⟩ = some (.int .i64 (d : Nat)) := hr1.cell 0
  have k1 : w1.cell? ⟨X, 1, none⟩ = some (.int .i64 x) := hr1.cell 1
  have HLn := fun n => Lib.hid (quietly (mlen_any (hx1.new (below_dn (Below.refl w1.heap.size w1) n)) hm))
  have hb : (((many f 32 : Nat) : Int) == rm) = false := by simpa using hr
  have HX := Lib.hid (And.intro hx1 (And.intro (Ch.new (T := fun j => ¬ V j) b1) (And.intro hr1 (fun j (hj : V j) => (show j < w1.heap.size by have := hV j hj; have := b1.size; omega)))))
  have HF := Lib.hid (And.intro hd (show (f d).length ≤ 65536 from by have := many_mono f (d + 1) 32 (by omega); have e : many f (d + 1) = many f d + (f d).length := rfl; omega))
  have HSB := Lib.hid (show X ≠ B ∧ ∀ e a, e < 32 → sp e = some a → a.block ≠ X from ⟨by have := hx.lt; omega, fun e a he ha => by have := (hx.av e a he ha).2.2; omega⟩)
  have HN := Lib.hid (show ∀ j, V j → j ≠ X from fun j hj e => by have := hV j hj; omega)
  obtain ⟨mm, hmm⟩ : ∃ mm, many f 32 = mm := ⟨_, rfl⟩
  rw [hmm] at hb HLn
  have d0 : (0 : Int) ≤ (d : Int) := by omega
  have d1 : (d : Int) < 32 := by omega
  clear hx hV hd hm hr b1 hr1 hx1 hmm
  go_enter Tryd.func8, Tryd.ntmps8
  go_upto_region 1 with fail
  try rw [hw1]
  try rw [← hX]
  clear hw1 hX
  go_upto_region 3 with (go_at_call 15; refine (HR.out _).mono ?_; rintro e w' ⟨rfl, rfl⟩)
  go_quiet ((go_at_call 12; exact (HLn _).out))
  generalize hwq : World.drewN _ _ = wq
  have HQ := Lib.hid (show BX wq.drew V B rm sp cp f ∧ Ch (fun j => ¬ V j) w wq.drew ∧ RowAt wq.drew X 30 #[.int .i64 (d : Nat), .int .i64 x] ∧ (∀ j, V j → j < wq.drew.heap.size) by
    rw [← hwq]
    exact ⟨(HX.out.1.new (below_dn (Below.refl _ _) _)).new (below_dn (Below.refl _ _) 1), (HX.out.2.1.drewN _).drewN 1, HX.out.2.2.1, HX.out.2.2.2⟩)
  clear hwq HLn k0 k1 c0 HX
  go_upto_region 6 with fail
  have HT := Lib.hid (send_tail HQ.out.1 HQ.out.2.1 HQ.out.2.2.1 HQ.out.2.2.2 HF.out.1 HSB.out)
  obtain ⟨n, hn⟩ : ∃ n, (f d).length = n := ⟨_, rfl⟩
  obtain ⟨sq, hsq⟩ : ∃ sq, sp d = sq := ⟨_, rfl⟩
  obtain ⟨cq, hcq⟩ : ∃ cq, cp d = cq := ⟨_, rfl⟩
  rw [hn, hsq, hcq] at HT
  have HNN := Lib.hid hn
  clear hn hsq hcq
  obtain ⟨k0, k1, cd⟩ := HT.out.2.2.1
  obtain ⟨a0, a1, ca⟩ := HT.out.2.2.2.1
  have ca' : (wq.alloc (.cells #[.int .i64 x] 3)).cell? ⟨B, 1 + d, none⟩ = some (.slice sq n cq) := ca
  refine wp_region_held_drew (S := fun w' => w'.cell? ⟨X, 0, none⟩ = some (.int .i64 (d : Nat)) ∧ w'.cell? ⟨X, 1, none⟩ = some (.int .i64 x)) (by kernel_rfl) ⟨k0, k1⟩ (fun hS => ?_)
  refine wpAnyH_take (i := 0) (oi := { dst := some 26, op := .move (.tmp 0), type := 23, pos := "mbox.go:66", after := #[], guard := none }) (v := ?_) rfl (by kernel_rfl) (by kernel_rfl) (by kernel_rfl) (fun _ _ _ h => h) (Or.inl ⟨by rfl, ?_⟩) hS ?_
  rotate_left 1
  · intro w hw; obtain ⟨s0, s1⟩ := hw; go_simp; try (with_reducible rfl)
  simp only [Act.put, List.setIfInBounds_toArray, List.set_cons_zero, List.set_cons_succ]
  refine wpAnyH_take (i := 1) (oi := { dst := some 27, op := .fieldAddr 30 (.tmp 3) 0, type := 0, pos := "mbox.go:66", after := #[], guard := none }) (v := ?_) rfl (by kernel_rfl) (by kernel_rfl) (by kernel_rfl) (fun _ _ _ h => h) (Or.inl ⟨by rfl, ?_⟩) hS ?_
  rotate_left 1
  · intro w hw; obtain ⟨s0, s1⟩ := hw; go_simp; try (with_reducible rfl)
  simp only [Act.put, List.setIfInBounds_toArray, List.set_cons_zero, List.set_cons_succ]
  refine wpAnyH_take (i := 2) (oi := { dst := some 28, op := .load 3 (.tmp 27), type := 3, pos := "mbox.go:66", after := #[{ on := 1, ground := .data }], guard := none }) (v := ?_) rfl (by kernel_rfl) (by kernel_rfl) (by kernel_rfl) (fun _ _ _ h => h) (Or.inl ⟨by rfl, ?_⟩) hS ?_
  rotate_left 1
  · intro w hw; obtain ⟨s0, s1⟩ := hw; go_simp; try (with_reducible rfl)
  simp only [Act.put, List.setIfInBounds_toArray, List.set_cons_zero, List.set_cons_succ]
  refine wpAnyH_take (i := 3) (oi := { dst := some 29, op := .move (.tmp 0), type := 23, pos := "mbox.go:66", after := #[], guard := none }) (v := ?_) rfl (by kernel_rfl) (by kernel_rfl) (by kernel_rfl) (fun _ _ _ h => h) (Or.inl ⟨by rfl, ?_⟩) hS ?_
  rotate_left 1
  · intro w hw; obtain ⟨s0, s1⟩ := hw; go_simp; try (with_reducible rfl)
  simp only [Act.put, List.setIfInBounds_toArray, List.set_cons_zero, List.set_cons_succ]
  refine wpAnyH_take (i := 4) (oi := { dst := some 30, op := .fieldAddr 30 (.tmp 3) 0, type := 0, pos := "mbox.go:66", after := #[], guard := none }) (v := ?_) rfl (by kernel_rfl) (by kernel_rfl) (by kernel_rfl) (fun _ _ _ h => h) (Or.inl ⟨by rfl, ?_⟩) hS ?_
  rotate_left 1
  · intro w hw; obtain ⟨s0, s1⟩ := hw; go_simp; try (with_reducible rfl)
  simp only [Act.put, List.setIfInBounds_toArray, List.set_cons_zero, List.set_cons_succ]
  refine wpAnyH_take (i := 5) (oi := { dst := some 31, op := .load 3 (.tmp 30), type := 3, pos := "mbox.go:66", after := #[{ on := 4, ground := .data }], guard := none }) (v := ?_) rfl (by kernel_rfl) (by kernel_rfl) (by kernel_rfl) (fun _ _ _ h => h) (Or.inl ⟨by rfl, ?_⟩) hS ?_
  rotate_left 1
  · intro w hw; obtain ⟨s0, s1⟩ := hw; go_simp; try (with_reducible rfl)
  simp only [Act.put, List.setIfInBounds_toArray, List.set_cons_zero, List.set_cons_succ]
  refine wpAnyH_take (i := 6) (oi := { dst := some 32, op := .nilCheck (.tmp 29), type := 0, pos := "mbox.go:66", after := #[{ on := 3, ground := .data }], guard := none }) (v := ?_) rfl (by kernel_rfl) (by kernel_rfl) (by kernel_rfl) (fun _ _ _ h => h) (Or.inl ⟨by rfl, ?_⟩) hS ?_
  rotate_left 1
  · intro w hw; obtain ⟨s0, s1⟩ := hw; go_simp; try (with_reducible rfl)
  simp only [Act.put, List.setIfInBounds_toArray, List.set_cons_zero, List.set_cons_succ]
  refine wpAnyH_take (i := 7) (oi := { dst := some 33, op := .fieldAddr 47 (.tmp 32) 1, type := 0, pos := "mbox.go:66", after := #[{ on := 6, ground := .data }], guard := none }) (v := ?_) rfl (by kernel_rfl) (by kernel_rfl) (by kernel_rfl) (fun _ _ _ h => h) (Or.inl ⟨by rfl, ?_⟩) hS ?_
  rotate_left 1
  · intro w hw; obtain ⟨s0, s1⟩ := hw; go_simp; try (with_reducible rfl)
  simp only [Act.put, List.setIfInBounds_toArray, List.set_cons_zero, List.set_cons_succ]
  refine wpAnyH_take (i := 8) (oi := { dst := some 34, op := .indexAddr 45 (.tmp 33) (.tmp 31), type := 0, pos := "mbox.go:66", after := #[{ on := 7, ground := .data }, { on := 5, ground := .data }], guard := none }) (v := ?_) rfl (by kernel_rfl) (by kernel_rfl) (by kernel_rfl) (fun _ _ _ h => h) (Or.inl ⟨by rfl, ?_⟩) hS ?_
  rotate_left 1
  · intro w hw; obtain ⟨s0, s1⟩ := hw; go_simp; try (with_reducible rfl)
  simp only [Act.put, List.setIfInBounds_toArray, List.set_cons_zero, List.set_cons_succ]
  refine wpAnyH_take (i := 10) (oi := { dst := some 36, op := .fieldAddr 30 (.tmp 3) 1, type := 0, pos := "mbox.go:66", after := #[], guard := none }) (v := ?_) rfl (by kernel_rfl) (by kernel_rfl) (by kernel_rfl) (fun _ _ _ h => h) (Or.inl ⟨by rfl, ?_⟩) hS ?_
  rotate_left 1
  · intro w hw; obtain ⟨s0, s1⟩ := hw; go_simp; try (with_reducible rfl)
  simp only [Act.put, List.setIfInBounds_toArray, List.set_cons_zero, List.set_cons_succ]
  refine wpAnyH_take (i := 11) (oi := { dst := some 37, op := .load 3 (.tmp 36), type := 3, pos := "mbox.go:66", after := #[{ on := 10, ground := .data }], guard := none }) (v := ?_) rfl (by kernel_rfl) (by kernel_rfl) (by kernel_rfl) (fun _ _ _ h => h) (Or.inl ⟨by rfl, ?_⟩) hS ?_
  rotate_left 1
  · intro w hw; obtain ⟨s0, s1⟩ := hw; go_simp; try (with_reducible rfl)
  simp only [Act.put, List.setIfInBounds_toArray, List.set_cons_zero, List.set_cons_succ]
  refine wpAnyH_take (i := 14) (oi := { dst := some 40, op := .nilCheck (.tmp 26), type := 0, pos := "mbox.go:66", after := #[{ on := 0, ground := .data }], guard := none }) (v := ?_) rfl (by kernel_rfl) (by kernel_rfl) (by kernel_rfl) (fun _ _ _ h => h) (Or.inl ⟨by rfl, ?_⟩) hS ?_
  rotate_left 1
  · intro w hw; obtain ⟨s0, s1⟩ := hw; go_simp; try (with_reducible rfl)
  simp only [Act.put, List.setIfInBounds_toArray, List.set_cons_zero, List.set_cons_succ]
  refine wpAnyH_take (i := 15) (oi := { dst := some 41, op := .fieldAddr 47 (.tmp 40) 1, type := 0, pos := "mbox.go:66", after := #[{ on := 14, ground := .data }], guard := none }) (v := ?_) rfl (by kernel_rfl) (by kernel_rfl) (by kernel_rfl) (fun _ _ _ h => h) (Or.inl ⟨by rfl, ?_⟩) hS ?_
  rotate_left 1
  · intro w hw; obtain ⟨s0, s1⟩ := hw; go_simp; try (with_reducible rfl)
  simp only [Act.put, List.setIfInBounds_toArray, List.set_cons_zero, List.set_cons_succ]
  refine wpAnyH_ready (rs := [9, 12]) (by kernel_rfl) (by simp) (AllReadyH.cons (o := { dst := some 35, op := .load 40 (.tmp 34), type := 40, pos := "mbox.go:66", after := #[{ on := 8, ground := .data }], guard := none }) rfl (fun K hK => ?_) (AllReadyH.cons (o := { dst := some 38, op := .buildSlice 40 1 #[(0, .tmp 37)], type := 40, pos := "mbox.go:66", after := #[{ on := 11, ground := .data }], guard := none }) rfl (fun K hK => ?_) AllReadyH.nil))
  · go_simp
    refine hK.out _ _ ⟨k0, k1⟩ (fun hHeld => ?_)
    clear hK K
    try simp only [Act.put, List.setIfInBounds_toArray, List.set_cons_zero, List.set_cons_succ]
    refine wpAnyH_ready (rs := [12]) (by kernel_rfl) (by simp) (AllReadyH.cons (o := { dst := some 38, op := .buildSlice 40 1 #[(0, .tmp 37)], type := 40, pos := "mbox.go:66", after := #[{ on := 11, ground := .data }], guard := none }) rfl (fun K hK => ?_) AllReadyH.nil)
    go_simp
    refine hK.out _ _ ⟨a0, a1⟩ (fun hHeld => ?_)
    clear hK K
    try simp only [Act.put, List.setIfInBounds_toArray, List.set_cons_zero, List.set_cons_succ]
    refine wpAnyH_ready (rs := [13]) (by kernel_rfl) (by simp) (AllReadyH.cons (o := { dst := some 39, op := .call { callee := .builtin .append, args := #[.tmp 35, .tmp 38], argTypes := #[40, 40] }, type := 40, pos := "mbox.go:66", after := #[{ on := 9, ground := .data }, { on := 12, ground := .data }], guard := none }) rfl (fun K hK => ?_) AllReadyH.nil)
    rw [if_pos (by rfl)]
    refine wp_append_slc (.tmp 35) (.tmp 38) 40 (by rfl) HT.out.1 Tryd.underlying40 (by rw [HNN.out]; rfl) x ⟨wq.drew.heap.size, 0, none⟩ 1 (by rfl) HT.out.2.1 (by have := HF.out.2; omega) ?_
    intro s5 c5 w5 hs5 hc5 hn5
    have H5 := Lib.hid (HT.out.2.2.2.2 _ _ _ hs5 hc5 hn5)
    obtain ⟨-, -, t2⟩ := H5.out.1
    have t3 := H5.out.2.1
    rw [HNN.out]
    clear hs5 hc5 hn5
    refine hK.out _ _ ⟨H5.out.1.1, H5.out.1.2.1⟩ (fun hHeld => ?_)
    clear hK K
    try simp only [Act.put, List.setIfInBounds_toArray, List.set_cons_zero, List.set_cons_succ]
    refine wpAnyH_take (i := 16) (oi := { dst := some 42, op := .indexAddr 45 (.tmp 41) (.tmp 28), type := 0, pos := "mbox.go:66", after := #[{ on := 15, ground := .data }, { on := 2, ground := .data }, { on := 0, ground := .phase }, { on := 1, ground := .phase }, { on := 2, ground := .phase }, { on := 3, ground := .phase }, { on := 4, ground := .phase }, { on := 5, ground := .phase }, { on := 6, ground := .phase }, { on := 7, ground := .phase }, { on := 8, ground := .phase }, { on := 9, ground := .phase }, { on := 10, ground := .phase }, { on := 11, ground := .phase }, { on := 12, ground := .phase }, { on := 13, ground := .phase }], guard := none }) (v := ?_) rfl (by kernel_rfl) (by kernel_rfl) (by kernel_rfl) (fun _ _ _ h => h) (Or.inl ⟨by rfl, ?_⟩) ⟨H5.out.1.1, H5.out.1.2.1⟩ ?_
    rotate_left 1
    · intro w hw; obtain ⟨s0, s1⟩ := hw; go_simp; try (with_reducible rfl)
    simp only [Act.put, List.setIfInBounds_toArray, List.set_cons_zero, List.set_cons_succ]
    refine wpAnyH_ready (rs := [17]) (by kernel_rfl) (by simp) (AllReadyH.cons (o := { dst := none, op := .store 40 (.tmp 42) (.tmp 39), type := 0, pos := "mbox.go:66", after := #[{ on := 16, ground := .data }, { on := 13, ground := .data }, { on := 13, ground := .chain }, { on := 0, ground := .phase }, { on := 1, ground := .phase }, { on := 2, ground := .phase }, { on := 3, ground := .phase }, { on := 4, ground := .phase }, { on := 5, ground := .phase }, { on := 6, ground := .phase }, { on := 7, ground := .phase }, { on := 8, ground := .phase }, { on := 9, ground := .phase }, { on := 10, ground := .phase }, { on := 11, ground := .phase }, { on := 12, ground := .phase }, { on := 13, ground := .phase }], guard := none }) rfl (fun K hK => ?_) AllReadyH.nil)
    go_simp
    refine hK.out _ _ H5.out.2.2.1 (fun hHeld => ?_)
    clear hK K
    try simp only [Act.put, List.setIfInBounds_toArray, List.set_cons_zero, List.set_cons_succ]
    refine wpAnyH_done (by kernel_rfl) ?_ _
    have H6 := Lib.hid H5.out.2.2.2
    go_wp2
    go_ret2
    exact ⟨rfl, ⟨_, _, H6.out.1⟩, H6.out.2⟩
  · go_simp
    refine hK.out _ _ ⟨a0, a1⟩ (fun hHeld => ?_)
    clear hK K
    try simp only [Act.put, List.setIfInBounds_toArray, List.set_cons_zero, List.set_cons_succ]
    refine wpAnyH_ready (rs := [9]) (by kernel_rfl) (by simp) (AllReadyH.cons (o := { dst := some 35, op := .load 40 (.tmp 34), type := 40, pos := "mbox.go:66", after := #[{ on := 8, ground := .data }], guard := none }) rfl (fun K hK => ?_) AllReadyH.nil)
    go_simp
    refine hK.out _ _ ⟨a0, a1⟩ (fun hHeld => ?_)
    clear hK K
    try simp only [Act.put, List.setIfInBounds_toArray, List.set_cons_zero, List.set_cons_succ]
    refine wpAnyH_ready (rs := [13]) (by kernel_rfl) (by simp) (AllReadyH.cons (o := { dst := some 39, op := .call { callee := .builtin .append, args := #[.tmp 35, .tmp 38], argTypes := #[40, 40] }, type := 40, pos := "mbox.go:66", after := #[{ on := 9, ground := .data }, { on := 12, ground := .data }], guard := none }) rfl (fun K hK => ?_) AllReadyH.nil)
    rw [if_pos (by rfl)]
    refine wp_append_slc (.tmp 35) (.tmp 38) 40 (by rfl) HT.out.1 Tryd.underlying40 (by rw [HNN.out]; rfl) x ⟨wq.drew.heap.size, 0, none⟩ 1 (by rfl) HT.out.2.1 (by have := HF.out.2; omega) ?_
    intro s5 c5 w5 hs5 hc5 hn5
    have H5 := Lib.hid (HT.out.2.2.2.2 _ _ _ hs5 hc5 hn5)
    obtain ⟨-, -, t2⟩ := H5.out.1
    have t3 := H5.out.2.1
    rw [HNN.out]
    clear hs5 hc5 hn5
    refine hK.out _ _ ⟨H5.out.1.1, H5.out.1.2.1⟩ (fun hHeld => ?_)
    clear hK K
    try simp only [Act.put, List.setIfInBounds_toArray, List.set_cons_zero, List.set_cons_succ]
    refine wpAnyH_take (i := 16) (oi := { dst := some 42, op := .indexAddr 45 (.tmp 41) (.tmp 28), type := 0, pos := "mbox.go:66", after := #[{ on := 15, ground := .data }, { on := 2, ground := .data }, { on := 0, ground := .phase }, { on := 1, ground := .phase }, { on := 2, ground := .phase }, { on := 3, ground := .phase }, { on := 4, ground := .phase }, { on := 5, ground := .phase }, { on := 6, ground := .phase }, { on := 7, ground := .phase }, { on := 8, ground := .phase }, { on := 9, ground := .phase }, { on := 10, ground := .phase }, { on := 11, ground := .phase }, { on := 12, ground := .phase }, { on := 13, ground := .phase }], guard := none }) (v := ?_) rfl (by kernel_rfl) (by kernel_rfl) (by kernel_rfl) (fun _ _ _ h => h) (Or.inl ⟨by rfl, ?_⟩) ⟨H5.out.1.1, H5.out.1.2.1⟩ ?_
    rotate_left 1
    · intro w hw; obtain ⟨s0, s1⟩ := hw; go_simp; try (with_reducible rfl)
    simp only [Act.put, List.setIfInBounds_toArray, List.set_cons_zero, List.set_cons_succ]
    refine wpAnyH_ready (rs := [17]) (by kernel_rfl) (by simp) (AllReadyH.cons (o := { dst := none, op := .store 40 (.tmp 42) (.tmp 39), type := 0, pos := "mbox.go:66", after := #[{ on := 16, ground := .data }, { on := 13, ground := .data }, { on := 13, ground := .chain }, { on := 0, ground := .phase }, { on := 1, ground := .phase }, { on := 2, ground := .phase }, { on := 3, ground := .phase }, { on := 4, ground := .phase }, { on := 5, ground := .phase }, { on := 6, ground := .phase }, { on := 7, ground := .phase }, { on := 8, ground := .phase }, { on := 9, ground := .phase }, { on := 10, ground := .phase }, { on := 11, ground := .phase }, { on := 12, ground := .phase }, { on := 13, ground := .phase }], guard := none }) rfl (fun K hK => ?_) AllReadyH.nil)
    go_simp
    refine hK.out _ _ H5.out.2.2.1 (fun hHeld => ?_)
    clear hK K
    try simp only [Act.put, List.setIfInBounds_toArray, List.set_cons_zero, List.set_cons_succ]
    refine wpAnyH_done (by kernel_rfl) ?_ _
    have H6 := Lib.hid H5.out.2.2.2
    go_wp2
    go_ret2
    exact ⟨rfl, ⟨_, _, H6.out.1⟩, H6.out.2⟩


set_option maxHeartbeats 4000000 in
set_option maxRecDepth 100000 in
theorem send_over {w : World} {V : Nat → Prop} {B : Nat} {rm : Int} {f : Nat → List Int} (h : BAt w V B rm f) (ht : Tab w) (d : Nat) (x : Int) (hd : d < 32) (hm : many f 32 ≤ 65536) (hr : ((many f 32 : Nat) : Int) = rm) (hy : btw (dgK f 32) (d : Int) 32 = 0#32) :
    Calls Tryd.prog 8 #[.pointer (some ⟨B, 0, none⟩), .agg #[.int .i64 (d : Nat), .int .i64 x]] w fun e w' => e = .returned (.tuple #[.bool false, .int .i64 271]) ∧ Below w.heap.size w w' := by
  obtain ⟨sp, cp, hx⟩ := h
  have HR := Lib.hid (mright_any (d : Int))
  rw [decide_eq_true (by omega)] at HR
  obtain ⟨X, hX⟩ : ∃ X, X = w.heap.size := ⟨_, rfl⟩
  obtain ⟨w1, hw1⟩ : ∃ w1, w.alloc (.cells #[.int .i64 (d : Nat), .int .i64 x] 30) = w1 := ⟨_, rfl⟩
  have b1 : Below w.heap.size w w1 := by rw [← hw1]; exact (Below.refl _ _).alloc (Nat.le_refl _) _
  have hr1 : RowAt w1 X 30 #[.int .i64 (d : Nat), .int .i64 x] := by rw [← hw1, hX]; exact RowAt.mk _ _ _
  have hx1 := hx.new b1
  have c0 := hx1.c0
  have k0 : w1.cell? ⟨X, 0, none⟩ = some (.int .i64 (d : Nat)) := hr1.cell 0
  have HLn := fun n => Lib.hid (quietly (mlen_any (hx1.new (below_dn (Below.refl w1.heap.size w1) n)) hm))
  have HX := Lib.hid (And.intro hx1 (And.intro b1 (ht.below ht.pos b1)))
  rw [hr] at HLn
  have HY := Lib.hid hy
  clear hx hd hm hr b1 hr1 hx1 hy ht
  go_enter Tryd.func8, Tryd.ntmps8
  go_upto_region 1 with fail
  try rw [hw1]
  try rw [← hX]
  clear hw1 hX
  go_upto_region 3 with (go_at_call 15; refine (HR.out _).mono ?_; rintro e w' ⟨rfl, rfl⟩)
  go_quiet ((go_at_call 12; exact (HLn _).out))
  generalize hwq : World.drewN _ _ = wq
  have HQ := Lib.hid (show BX wq V B rm sp cp f ∧ Below w.heap.size w wq ∧ Tab wq by
    rw [← hwq]
    exact ⟨HX.out.1.new (below_dn (Below.refl _ _) _), below_dn HX.out.2.1 _, HX.out.2.2.below HX.out.2.2.pos (below_dn (Below.refl _ _) _)⟩)
  have k0' : wq.cell? ⟨X, 0, none⟩ = some (.int .i64 (d : Nat)) := by rw [← hwq]; exact k0
  have HG := Lib.hid (give_no ⟨_, _, HQ.out.1⟩ HQ.out.2.2 (d : Int) HY.out)
  clear hwq HLn k0 c0 HX
  go_wp2_with (go_at_call 16; refine HG.out.mono ?_; rintro e w5 ⟨rfl, b5⟩; have H5 := Lib.hid b5; clear b5)
  go_ret2
  exact ⟨rfl, HQ.out.2.1.trans (H5.out.mono HQ.out.2.1.size)⟩
set_option maxHeartbeats 4000000 in
set_option maxRecDepth 100000 in
theorem send_gives {w : World} {V : Nat → Prop} {B : Nat} {rm : Int} {f : Nat → List Int} (h : BAt w V B rm f) (hV : ∀ j, V j → j < w.heap.size) (ht : Tab w) (d : Nat) (x : Int) (hd : d < 32) (hm : many f 32 ≤ 65536) (hr : ((many f 32 : Nat) : Int) = rm) (g : Nat) (hy : btw (dgK f 32) (d : Int) 32 ≠ 0#32) (hg : lastI (btw (dgK f 32) (d : Int) 32) = (g : Int)) (hgd : d < g) (hg3 : g < 32) (h0 : (f g).length ≠ 0) :
    Calls Tryd.prog 8 #[.pointer (some ⟨B, 0, none⟩), .agg #[.int .i64 (d : Nat), .int .i64 x]] w fun e w' => e = .returned (.tuple #[.bool true, .int .i64 0]) ∧ BAt w' V B rm (updF (updF f g (f g).dropLast) d (f d ++ [x])) ∧ Ch (fun j => ¬ V j) w w' := by
  obtain ⟨sp, cp, hx⟩ := h
  have HR := Lib.hid (mright_any (d : Int))
  rw [decide_eq_true (by omega)] at HR
  obtain ⟨X, hX⟩ : ∃ X, X = w.heap.size := ⟨_, rfl⟩
  obtain ⟨V', hV'⟩ : ∃ V' : Nat → Prop, V' = fun j => V j ∨ j = X := ⟨_, rfl⟩
  obtain ⟨w1, hw1⟩ : ∃ w1, w.alloc (.cells #[.int .i64 (d : Nat), .int .i64 x] 30) = w1 := ⟨_, rfl⟩
  have b1 : Below w.heap.size w w1 := by rw [← hw1]; exact (Below.refl _ _).alloc (Nat.le_refl _) _
  have hr1 : RowAt w1 X 30 #[.int .i64 (d : Nat), .int .i64 x] := by rw [← hw1, hX]; exact RowAt.mk _ _ _
  have hx1 : BX w1 V' B rm sp cp f := (hx.more (V' := V') (fun j hj hv => by
    rw [hV'] at hv
    rcases hv with hv | hv
    · exact hv
    · omega)).new b1
  have c0 := hx1.c0
  have k0 : w1.cell? ⟨X, 0, none⟩ = some (.int .i64 (d : Nat)) := hr1.cell 0
  have HLn := fun n => Lib.hid (quietly (mlen_any (hx1.new (below_dn (Below.refl w1.heap.size w1) n)) hm))
  have HX := Lib.hid (And.intro hx1 (And.intro (Ch.new (T := fun j => ¬ V' j) b1) (And.intro hr1 (And.intro (fun j (hj : V' j) => (show j < w1.heap.size by
    rw [hV'] at hj
    rcases hj with hj | hj
    · have := hV j hj; have := b1.size; omega
    · have := hr1.lt; omega)) (ht.below ht.pos b1)))))
  have hfl : ∀ k, k < 32 → (f k).length ≤ 65536 := fun k hk => by have := many_mono f (k + 1) 32 (by omega); have e : many f (k + 1) = many f k + (f k).length := rfl; omega
  obtain ⟨f1, hf1⟩ : ∃ f1, updF f g (f g).dropLast = f1 := ⟨_, rfl⟩
  have hfd : f1 d = f d := by rw [← hf1]; exact updF_ne _ _ _ _ (by omega)
  have HF := Lib.hid (And.intro hd (show (f1 d).length ≤ 65536 by rw [hfd]; exact hfl d hd))
  have HVV := Lib.hid (And.intro (show V' X by rw [hV']; exact .inr rfl) (show ∀ j, V j → V' j from fun j hj => by rw [hV']; exact .inl hj))
  have HG := Lib.hid (show ∀ wz, BAt wz V' B rm f → (∀ j, V' j → j < wz.heap.size) → Tab wz → Calls Tryd.prog 16 #[.pointer (some ⟨B, 0, none⟩), .int .i64 (d : Int)] wz fun e w' => e = .returned (.bool true) ∧ BAt w' V' B rm f1 ∧ Ch (fun j => ¬ V' j) wz w' from fun wz hb hv ht' => by
    have := give_yes hb hv ht' (d : Int) g hy hg hg3 h0 (hfl g hg3)
    rw [hf1] at this
    exact this)
  rw [hr] at HLn
  have HFD := Lib.hid hfd
  have d0 : (0 : Int) ≤ (d : Int) := by omega
  have d1 : (d : Int) < 32 := by omega
  rw [← hfd]
  clear hx hV hd hm hr b1 hr1 hx1 hy hg hgd hg3 h0 hfl ht hV' hfd
  go_enter Tryd.func8, Tryd.ntmps8
  go_upto_region 1 with fail
  try rw [hw1]
  try rw [← hX]
  clear hw1 hX
  go_upto_region 3 with (go_at_call 15; refine (HR.out _).mono ?_; rintro e w' ⟨rfl, rfl⟩)
  go_quiet ((go_at_call 12; exact (HLn _).out))
  generalize hwq : World.drewN _ _ = wq
  have HQ := Lib.hid (show BX wq V' B rm sp cp f ∧ Ch (fun j => ¬ V' j) w wq ∧ RowAt wq X 30 #[.int .i64 (d : Nat), .int .i64 x] ∧ (∀ j, V' j → j < wq.heap.size) ∧ Tab wq by
    rw [← hwq]
    exact ⟨HX.out.1.new (below_dn (Below.refl _ _) _), HX.out.2.1.drewN _, HX.out.2.2.1, HX.out.2.2.2.1, HX.out.2.2.2.2.below HX.out.2.2.2.2.pos (below_dn (Below.refl _ _) _)⟩)
  have k0' : wq.cell? ⟨X, 0, none⟩ = some (.int .i64 (d : Nat)) := by rw [← hwq]; exact k0
  have HGG := Lib.hid (HG.out wq ⟨_, _, HQ.out.1⟩ HQ.out.2.2.2.1 HQ.out.2.2.2.2)
  clear hwq HLn k0 c0 HX HG
  go_upto_region 6 with (go_at_call 16; refine HGG.out.mono ?_; rintro e w4 ⟨rfl, h4, c4⟩; obtain ⟨sp2, cp2, h4⟩ := h4; have H4a := Lib.hid (And.intro h4 c4); clear h4 c4)
  have H4 := Lib.hid (show BX w4.drew V' B rm sp2 cp2 f1 ∧ Ch (fun j => ¬ V' j) w w4.drew ∧ RowAt w4.drew X 30 #[.int .i64 (d : Nat), .int .i64 x] ∧ (∀ j, V' j → j < w4.drew.heap.size) from
    ⟨H4a.out.1.new (below_dn (Below.refl _ _) 1), (HQ.out.2.1.trans H4a.out.2).drewN 1, (show RowAt w4 X 30 _ from HQ.out.2.2.1.keep H4a.out.2 (fun hn => hn HVV.out.1)), fun j hj => Nat.lt_of_lt_of_le (HQ.out.2.2.2.1 j hj) H4a.out.2.size⟩)
  have HSB := Lib.hid (show X ≠ B ∧ ∀ e a, e < 32 → sp2 e = some a → a.block ≠ X from ⟨fun e => H4.out.1.vB (e ▸ HVV.out.1), fun e a he ha hn => (H4.out.1.av e a he ha).1 (hn ▸ HVV.out.1)⟩)
  clear k0' H4a HQ HGG
  have HT := Lib.hid (send_tail H4.out.1 H4.out.2.1 H4.out.2.2.1 H4.out.2.2.2 HF.out.1 HSB.out)
  obtain ⟨n, hn⟩ : ∃ n, (f1 d).length = n := ⟨_, rfl⟩
  obtain ⟨sq, hsq⟩ : ∃ sq, sp2 d = sq := ⟨_, rfl⟩
  obtain ⟨cq, hcq⟩ : ∃ cq, cp2 d = cq := ⟨_, rfl⟩
  rw [hn, hsq, hcq] at HT
  have HNN := Lib.hid hn
  clear hn hsq hcq
  obtain ⟨k0, k1, cd⟩ := HT.out.2.2.1
  obtain ⟨a0, a1, ca⟩ := HT.out.2.2.2.1
  have ca' : (w4.alloc (.cells #[.int .i64 x] 3)).cell? ⟨B, 1 + d, none⟩ = some (.slice sq n cq) := ca
  refine wp_region_held_drew (S := fun w' => w'.cell? ⟨X, 0, none⟩ = some (.int .i64 (d : Nat)) ∧ w'.cell? ⟨X, 1, none⟩ = some (.int .i64 x)) (by kernel_rfl) ⟨k0, k1⟩ (fun hS => ?_)
  refine wpAnyH_take (i := 0) (oi := { dst := some 26, op := .move (.tmp 0), type := 23, pos := "mbox.go:66", after := #[], guard := none }) (v := ?_) rfl (by kernel_rfl) (by kernel_rfl) (by kernel_rfl) (fun _ _ _ h => h) (Or.inl ⟨by rfl, ?_⟩) hS ?_
  rotate_left 1
  · intro w hw; obtain ⟨s0, s1⟩ := hw; go_simp; try (with_reducible rfl)
  simp only [Act.put, List.setIfInBounds_toArray, List.set_cons_zero, List.set_cons_succ]
  refine wpAnyH_take (i := 1) (oi := { dst := some 27, op := .fieldAddr 30 (.tmp 3) 0, type := 0, pos := "mbox.go:66", after := #[], guard := none }) (v := ?_) rfl (by kernel_rfl) (by kernel_rfl) (by kernel_rfl) (fun _ _ _ h => h) (Or.inl ⟨by rfl, ?_⟩) hS ?_
  rotate_left 1
  · intro w hw; obtain ⟨s0, s1⟩ := hw; go_simp; try (with_reducible rfl)
  simp only [Act.put, List.setIfInBounds_toArray, List.set_cons_zero, List.set_cons_succ]
  refine wpAnyH_take (i := 2) (oi := { dst := some 28, op := .load 3 (.tmp 27), type := 3, pos := "mbox.go:66", after := #[{ on := 1, ground := .data }], guard := none }) (v := ?_) rfl (by kernel_rfl) (by kernel_rfl) (by kernel_rfl) (fun _ _ _ h => h) (Or.inl ⟨by rfl, ?_⟩) hS ?_
  rotate_left 1
  · intro w hw; obtain ⟨s0, s1⟩ := hw; go_simp; try (with_reducible rfl)
  simp only [Act.put, List.setIfInBounds_toArray, List.set_cons_zero, List.set_cons_succ]
  refine wpAnyH_take (i := 3) (oi := { dst := some 29, op := .move (.tmp 0), type := 23, pos := "mbox.go:66", after := #[], guard := none }) (v := ?_) rfl (by kernel_rfl) (by kernel_rfl) (by kernel_rfl) (fun _ _ _ h => h) (Or.inl ⟨by rfl, ?_⟩) hS ?_
  rotate_left 1
  · intro w hw; obtain ⟨s0, s1⟩ := hw; go_simp; try (with_reducible rfl)
  simp only [Act.put, List.setIfInBounds_toArray, List.set_cons_zero, List.set_cons_succ]
  refine wpAnyH_take (i := 4) (oi := { dst := some 30, op := .fieldAddr 30 (.tmp 3) 0, type := 0, pos := "mbox.go:66", after := #[], guard := none }) (v := ?_) rfl (by kernel_rfl) (by kernel_rfl) (by kernel_rfl) (fun _ _ _ h => h) (Or.inl ⟨by rfl, ?_⟩) hS ?_
  rotate_left 1
  · intro w hw; obtain ⟨s0, s1⟩ := hw; go_simp; try (with_reducible rfl)
  simp only [Act.put, List.setIfInBounds_toArray, List.set_cons_zero, List.set_cons_succ]
  refine wpAnyH_take (i := 5) (oi := { dst := some 31, op := .load 3 (.tmp 30), type := 3, pos := "mbox.go:66", after := #[{ on := 4, ground := .data }], guard := none }) (v := ?_) rfl (by kernel_rfl) (by kernel_rfl) (by kernel_rfl) (fun _ _ _ h => h) (Or.inl ⟨by rfl, ?_⟩) hS ?_
  rotate_left 1
  · intro w hw; obtain ⟨s0, s1⟩ := hw; go_simp; try (with_reducible rfl)
  simp only [Act.put, List.setIfInBounds_toArray, List.set_cons_zero, List.set_cons_succ]
  refine wpAnyH_take (i := 6) (oi := { dst := some 32, op := .nilCheck (.tmp 29), type := 0, pos := "mbox.go:66", after := #[{ on := 3, ground := .data }], guard := none }) (v := ?_) rfl (by kernel_rfl) (by kernel_rfl) (by kernel_rfl) (fun _ _ _ h => h) (Or.inl ⟨by rfl, ?_⟩) hS ?_
  rotate_left 1
  · intro w hw; obtain ⟨s0, s1⟩ := hw; go_simp; try (with_reducible rfl)
  simp only [Act.put, List.setIfInBounds_toArray, List.set_cons_zero, List.set_cons_succ]
  refine wpAnyH_take (i := 7) (oi := { dst := some 33, op := .fieldAddr 47 (.tmp 32) 1, type := 0, pos := "mbox.go:66", after := #[{ on := 6, ground := .data }], guard := none }) (v := ?_) rfl (by kernel_rfl) (by kernel_rfl) (by kernel_rfl) (fun _ _ _ h => h) (Or.inl ⟨by rfl, ?_⟩) hS ?_
  rotate_left 1
  · intro w hw; obtain ⟨s0, s1⟩ := hw; go_simp; try (with_reducible rfl)
  simp only [Act.put, List.setIfInBounds_toArray, List.set_cons_zero, List.set_cons_succ]
  refine wpAnyH_take (i := 8) (oi := { dst := some 34, op := .indexAddr 45 (.tmp 33) (.tmp 31), type := 0, pos := "mbox.go:66", after := #[{ on := 7, ground := .data }, { on := 5, ground := .data }], guard := none }) (v := ?_) rfl (by kernel_rfl) (by kernel_rfl) (by kernel_rfl) (fun _ _ _ h => h) (Or.inl ⟨by rfl, ?_⟩) hS ?_
  rotate_left 1
  · intro w hw; obtain ⟨s0, s1⟩ := hw; go_simp; try (with_reducible rfl)
  simp only [Act.put, List.setIfInBounds_toArray, List.set_cons_zero, List.set_cons_succ]
  refine wpAnyH_take (i := 10) (oi := { dst := some 36, op := .fieldAddr 30 (.tmp 3) 1, type := 0, pos := "mbox.go:66", after := #[], guard := none }) (v := ?_) rfl (by kernel_rfl) (by kernel_rfl) (by kernel_rfl) (fun _ _ _ h => h) (Or.inl ⟨by rfl, ?_⟩) hS ?_
  rotate_left 1
  · intro w hw; obtain ⟨s0, s1⟩ := hw; go_simp; try (with_reducible rfl)
  simp only [Act.put, List.setIfInBounds_toArray, List.set_cons_zero, List.set_cons_succ]
  refine wpAnyH_take (i := 11) (oi := { dst := some 37, op := .load 3 (.tmp 36), type := 3, pos := "mbox.go:66", after := #[{ on := 10, ground := .data }], guard := none }) (v := ?_) rfl (by kernel_rfl) (by kernel_rfl) (by kernel_rfl) (fun _ _ _ h => h) (Or.inl ⟨by rfl, ?_⟩) hS ?_
  rotate_left 1
  · intro w hw; obtain ⟨s0, s1⟩ := hw; go_simp; try (with_reducible rfl)
  simp only [Act.put, List.setIfInBounds_toArray, List.set_cons_zero, List.set_cons_succ]
  refine wpAnyH_take (i := 14) (oi := { dst := some 40, op := .nilCheck (.tmp 26), type := 0, pos := "mbox.go:66", after := #[{ on := 0, ground := .data }], guard := none }) (v := ?_) rfl (by kernel_rfl) (by kernel_rfl) (by kernel_rfl) (fun _ _ _ h => h) (Or.inl ⟨by rfl, ?_⟩) hS ?_
  rotate_left 1
  · intro w hw; obtain ⟨s0, s1⟩ := hw; go_simp; try (with_reducible rfl)
  simp only [Act.put, List.setIfInBounds_toArray, List.set_cons_zero, List.set_cons_succ]
  refine wpAnyH_take (i := 15) (oi := { dst := some 41, op := .fieldAddr 47 (.tmp 40) 1, type := 0, pos := "mbox.go:66", after := #[{ on := 14, ground := .data }], guard := none }) (v := ?_) rfl (by kernel_rfl) (by kernel_rfl) (by kernel_rfl) (fun _ _ _ h => h) (Or.inl ⟨by rfl, ?_⟩) hS ?_
  rotate_left 1
  · intro w hw; obtain ⟨s0, s1⟩ := hw; go_simp; try (with_reducible rfl)
  simp only [Act.put, List.setIfInBounds_toArray, List.set_cons_zero, List.set_cons_succ]
  refine wpAnyH_ready (rs := [9, 12]) (by kernel_rfl) (by simp) (AllReadyH.cons (o := { dst := some 35, op := .load 40 (.tmp 34), type := 40, pos := "mbox.go:66", after := #[{ on := 8, ground := .data }], guard := none }) rfl (fun K hK => ?_) (AllReadyH.cons (o := { dst := some 38, op := .buildSlice 40 1 #[(0, .tmp 37)], type := 40, pos := "mbox.go:66", after := #[{ on := 11, ground := .data }], guard := none }) rfl (fun K hK => ?_) AllReadyH.nil))
  · go_simp
    refine hK.out _ _ ⟨k0, k1⟩ (fun hHeld => ?_)
    clear hK K
    try simp only [Act.put, List.setIfInBounds_toArray, List.set_cons_zero, List.set_cons_succ]
    refine wpAnyH_ready (rs := [12]) (by kernel_rfl) (by simp) (AllReadyH.cons (o := { dst := some 38, op := .buildSlice 40 1 #[(0, .tmp 37)], type := 40, pos := "mbox.go:66", after := #[{ on := 11, ground := .data }], guard := none }) rfl (fun K hK => ?_) AllReadyH.nil)
    go_simp
    refine hK.out _ _ ⟨a0, a1⟩ (fun hHeld => ?_)
    clear hK K
    try simp only [Act.put, List.setIfInBounds_toArray, List.set_cons_zero, List.set_cons_succ]
    refine wpAnyH_ready (rs := [13]) (by kernel_rfl) (by simp) (AllReadyH.cons (o := { dst := some 39, op := .call { callee := .builtin .append, args := #[.tmp 35, .tmp 38], argTypes := #[40, 40] }, type := 40, pos := "mbox.go:66", after := #[{ on := 9, ground := .data }, { on := 12, ground := .data }], guard := none }) rfl (fun K hK => ?_) AllReadyH.nil)
    rw [if_pos (by rfl)]
    refine wp_append_slc (.tmp 35) (.tmp 38) 40 (by rfl) HT.out.1 Tryd.underlying40 (by rw [HNN.out]; rfl) x ⟨w4.drew.heap.size, 0, none⟩ 1 (by rfl) HT.out.2.1 (by have := HF.out.2; omega) ?_
    intro s5 c5 w5 hs5 hc5 hn5
    have H5 := Lib.hid (HT.out.2.2.2.2 _ _ _ hs5 hc5 hn5)
    obtain ⟨-, -, t2⟩ := H5.out.1
    have t3 := H5.out.2.1
    rw [HNN.out]
    clear hs5 hc5 hn5
    refine hK.out _ _ ⟨H5.out.1.1, H5.out.1.2.1⟩ (fun hHeld => ?_)
    clear hK K
    try simp only [Act.put, List.setIfInBounds_toArray, List.set_cons_zero, List.set_cons_succ]
    refine wpAnyH_take (i := 16) (oi := { dst := some 42, op := .indexAddr 45 (.tmp 41) (.tmp 28), type := 0, pos := "mbox.go:66", after := #[{ on := 15, ground := .data }, { on := 2, ground := .data }, { on := 0, ground := .phase }, { on := 1, ground := .phase }, { on := 2, ground := .phase }, { on := 3, ground := .phase }, { on := 4, ground := .phase }, { on := 5, ground := .phase }, { on := 6, ground := .phase }, { on := 7, ground := .phase }, { on := 8, ground := .phase }, { on := 9, ground := .phase }, { on := 10, ground := .phase }, { on := 11, ground := .phase }, { on := 12, ground := .phase }, { on := 13, ground := .phase }], guard := none }) (v := ?_) rfl (by kernel_rfl) (by kernel_rfl) (by kernel_rfl) (fun _ _ _ h => h) (Or.inl ⟨by rfl, ?_⟩) ⟨H5.out.1.1, H5.out.1.2.1⟩ ?_
    rotate_left 1
    · intro w hw; obtain ⟨s0, s1⟩ := hw; go_simp; try (with_reducible rfl)
    simp only [Act.put, List.setIfInBounds_toArray, List.set_cons_zero, List.set_cons_succ]
    refine wpAnyH_ready (rs := [17]) (by kernel_rfl) (by simp) (AllReadyH.cons (o := { dst := none, op := .store 40 (.tmp 42) (.tmp 39), type := 0, pos := "mbox.go:66", after := #[{ on := 16, ground := .data }, { on := 13, ground := .data }, { on := 13, ground := .chain }, { on := 0, ground := .phase }, { on := 1, ground := .phase }, { on := 2, ground := .phase }, { on := 3, ground := .phase }, { on := 4, ground := .phase }, { on := 5, ground := .phase }, { on := 6, ground := .phase }, { on := 7, ground := .phase }, { on := 8, ground := .phase }, { on := 9, ground := .phase }, { on := 10, ground := .phase }, { on := 11, ground := .phase }, { on := 12, ground := .phase }, { on := 13, ground := .phase }], guard := none }) rfl (fun K hK => ?_) AllReadyH.nil)
    go_simp
    refine hK.out _ _ H5.out.2.2.1 (fun hHeld => ?_)
    clear hK K
    try simp only [Act.put, List.setIfInBounds_toArray, List.set_cons_zero, List.set_cons_succ]
    refine wpAnyH_done (by kernel_rfl) ?_ _
    have H6 := Lib.hid H5.out.2.2.2
    go_wp2
    go_ret2
    exact ⟨rfl, ⟨_, _, by rw [hf1]; exact H6.out.1.more (fun j _ hj => HVV.out.2 j hj)⟩, H6.out.2.mono (fun j _ hn hj => hn (HVV.out.2 j hj))⟩
  · go_simp
    refine hK.out _ _ ⟨a0, a1⟩ (fun hHeld => ?_)
    clear hK K
    try simp only [Act.put, List.setIfInBounds_toArray, List.set_cons_zero, List.set_cons_succ]
    refine wpAnyH_ready (rs := [9]) (by kernel_rfl) (by simp) (AllReadyH.cons (o := { dst := some 35, op := .load 40 (.tmp 34), type := 40, pos := "mbox.go:66", after := #[{ on := 8, ground := .data }], guard := none }) rfl (fun K hK => ?_) AllReadyH.nil)
    go_simp
    refine hK.out _ _ ⟨a0, a1⟩ (fun hHeld => ?_)
    clear hK K
    try simp only [Act.put, List.setIfInBounds_toArray, List.set_cons_zero, List.set_cons_succ]
    refine wpAnyH_ready (rs := [13]) (by kernel_rfl) (by simp) (AllReadyH.cons (o := { dst := some 39, op := .call { callee := .builtin .append, args := #[.tmp 35, .tmp 38], argTypes := #[40, 40] }, type := 40, pos := "mbox.go:66", after := #[{ on := 9, ground := .data }, { on := 12, ground := .data }], guard := none }) rfl (fun K hK => ?_) AllReadyH.nil)
    rw [if_pos (by rfl)]
    refine wp_append_slc (.tmp 35) (.tmp 38) 40 (by rfl) HT.out.1 Tryd.underlying40 (by rw [HNN.out]; rfl) x ⟨w4.drew.heap.size, 0, none⟩ 1 (by rfl) HT.out.2.1 (by have := HF.out.2; omega) ?_
    intro s5 c5 w5 hs5 hc5 hn5
    have H5 := Lib.hid (HT.out.2.2.2.2 _ _ _ hs5 hc5 hn5)
    obtain ⟨-, -, t2⟩ := H5.out.1
    have t3 := H5.out.2.1
    rw [HNN.out]
    clear hs5 hc5 hn5
    refine hK.out _ _ ⟨H5.out.1.1, H5.out.1.2.1⟩ (fun hHeld => ?_)
    clear hK K
    try simp only [Act.put, List.setIfInBounds_toArray, List.set_cons_zero, List.set_cons_succ]
    refine wpAnyH_take (i := 16) (oi := { dst := some 42, op := .indexAddr 45 (.tmp 41) (.tmp 28), type := 0, pos := "mbox.go:66", after := #[{ on := 15, ground := .data }, { on := 2, ground := .data }, { on := 0, ground := .phase }, { on := 1, ground := .phase }, { on := 2, ground := .phase }, { on := 3, ground := .phase }, { on := 4, ground := .phase }, { on := 5, ground := .phase }, { on := 6, ground := .phase }, { on := 7, ground := .phase }, { on := 8, ground := .phase }, { on := 9, ground := .phase }, { on := 10, ground := .phase }, { on := 11, ground := .phase }, { on := 12, ground := .phase }, { on := 13, ground := .phase }], guard := none }) (v := ?_) rfl (by kernel_rfl) (by kernel_rfl) (by kernel_rfl) (fun _ _ _ h => h) (Or.inl ⟨by rfl, ?_⟩) ⟨H5.out.1.1, H5.out.1.2.1⟩ ?_
    rotate_left 1
    · intro w hw; obtain ⟨s0, s1⟩ := hw; go_simp; try (with_reducible rfl)
    simp only [Act.put, List.setIfInBounds_toArray, List.set_cons_zero, List.set_cons_succ]
    refine wpAnyH_ready (rs := [17]) (by kernel_rfl) (by simp) (AllReadyH.cons (o := { dst := none, op := .store 40 (.tmp 42) (.tmp 39), type := 0, pos := "mbox.go:66", after := #[{ on := 16, ground := .data }, { on := 13, ground := .data }, { on := 13, ground := .chain }, { on := 0, ground := .phase }, { on := 1, ground := .phase }, { on := 2, ground := .phase }, { on := 3, ground := .phase }, { on := 4, ground := .phase }, { on := 5, ground := .phase }, { on := 6, ground := .phase }, { on := 7, ground := .phase }, { on := 8, ground := .phase }, { on := 9, ground := .phase }, { on := 10, ground := .phase }, { on := 11, ground := .phase }, { on := 12, ground := .phase }, { on := 13, ground := .phase }], guard := none }) rfl (fun K hK => ?_) AllReadyH.nil)
    go_simp
    refine hK.out _ _ H5.out.2.2.1 (fun hHeld => ?_)
    clear hK K
    try simp only [Act.put, List.setIfInBounds_toArray, List.set_cons_zero, List.set_cons_succ]
    refine wpAnyH_done (by kernel_rfl) ?_ _
    have H6 := Lib.hid H5.out.2.2.2
    go_wp2
    go_ret2
    exact ⟨rfl, ⟨_, _, by rw [hf1]; exact H6.out.1.more (fun j _ hj => HVV.out.2 j hj)⟩, H6.out.2.mono (fun j _ hn hj => hn (HVV.out.2 j hj))⟩


end Go.Proofs.YtbdcjfkplopbiaaDoor
