/- JobCuts' walk. -/
import Derived.Test.YtcipkkeegbfaeaaXO
import Derived.Deep.RegionWith
import Derived.Deep.RegionHeld3
namespace Go.Proofs.Ytcipkkeegbfaeaa
open Go.RowKit

set_option maxHeartbeats 8000000 in
set_option maxRecDepth 100000 in
theorem law_cuts {w : World} {S : Src} {n : Nat} {L : Nat → Sec} (h : SecsOf w S n L) (a0 a1 a2 : Int) (f : Nat → Int) (cost : Int) (hr : ∀ k, k < n → (-9223372036854775808 ≤ (L k).t ∧ (L k).t ≤ 9223372036854775807)) (hc : -9223372036854775808 ≤ cost ∧ cost ≤ 9223372036854775807) :
    Calls Try.prog 7 #[.agg #[.int .i64 a0, .int .i64 a1, .int .i64 a2, .int .i64 (f 0), .int .i64 (f 1), .int .i64 (f 2), .int .i64 (f 3), .int .i64 (f 4), .int .i64 (f 5), .int .i64 (f 6), .int .i64 (f 7)], .int .i64 cost, .slice S.sp n S.c] w fun e w' => e = .returned (.bool true) ∧ Below w.heap.size w w' := by
  obtain ⟨Z, hZ⟩ : ∃ Z, Z = w.heap.size := ⟨_, rfl⟩
  have HW := Lib.hid (show ∀ w2, w.alloc (.cells #[.int .i64 a0, .int .i64 a1, .int .i64 a2, .int .i64 (f 0), .int .i64 (f 1), .int .i64 (f 2), .int .i64 (f 3), .int .i64 (f 4), .int .i64 (f 5), .int .i64 (f 6), .int .i64 (f 7)] 62) = w2 → Below w.heap.size w w2 ∧ RowAt w2 Z 62 #[.int .i64 a0, .int .i64 a1, .int .i64 a2, .int .i64 (f 0), .int .i64 (f 1), .int .i64 (f 2), .int .i64 (f 3), .int .i64 (f 4), .int .i64 (f 5), .int .i64 (f 6), .int .i64 (f 7)] from fun w2 hw => by
    rw [← hw, hZ]; exact ⟨(Below.refl _ w).alloc (Nat.le_refl _) _, RowAt.mk w _ _⟩)
  have hsm := h.sl.sm
  have HRt := Lib.hid (fun wx => right_any a0 a1 a2 f wx)
  by_cases hn : 1000 < n
  · clear h HRt
    go_enter Try.func7, Try.ntmps7
    go_upto_region 1 with fail
    generalize hw2 : World.alloc _ _ = w2
    have H2 := Lib.hid (HW.out w2 hw2)
    rw [← hZ]
    clear hw2 hZ HW
    have hn2 : (1000 : Int) < n := by omega
    go_wp2
    go_ret
    exact ⟨rfl, H2.out.1⟩
  have hn1 : n ≤ 1000 := by omega
  have hn2 : ¬ (1000 : Int) < n := by omega
  cases hv : rightB f with
  | false =>
    rw [hv] at HRt
    clear h hv
    go_enter Try.func7, Try.ntmps7
    go_upto_region 1 with fail
    generalize hw2 : World.alloc _ _ = w2
    have H2 := Lib.hid (HW.out w2 hw2)
    rw [← hZ]
    clear hw2 hZ HW
    have c0 : w2.cell? ⟨Z, 0, none⟩ = some (.int .i64 a0) := H2.out.2.cell 0
    have c1 : w2.cell? ⟨Z, 1, none⟩ = some (.int .i64 a1) := H2.out.2.cell 1
    have c2 : w2.cell? ⟨Z, 2, none⟩ = some (.int .i64 a2) := H2.out.2.cell 2
    have c3 : w2.cell? ⟨Z, 3, none⟩ = some (.int .i64 (f 0)) := H2.out.2.cell 3
    have c4 : w2.cell? ⟨Z, 4, none⟩ = some (.int .i64 (f 1)) := H2.out.2.cell 4
    have c5 : w2.cell? ⟨Z, 5, none⟩ = some (.int .i64 (f 2)) := H2.out.2.cell 5
    have c6 : w2.cell? ⟨Z, 6, none⟩ = some (.int .i64 (f 3)) := H2.out.2.cell 6
    have c7 : w2.cell? ⟨Z, 7, none⟩ = some (.int .i64 (f 4)) := H2.out.2.cell 7
    have c8 : w2.cell? ⟨Z, 8, none⟩ = some (.int .i64 (f 5)) := H2.out.2.cell 8
    have c9 : w2.cell? ⟨Z, 9, none⟩ = some (.int .i64 (f 6)) := H2.out.2.cell 9
    have c10 : w2.cell? ⟨Z, 10, none⟩ = some (.int .i64 (f 7)) := H2.out.2.cell 10
    go_wp2_with (first
      | (go_at_call 28; refine (HRt.out _).mono ?_; rintro e w3 ⟨rfl, b3⟩; have H3 := Lib.hid (H2.out.1.trans (b3.mono H2.out.1.size)); clear b3)
      | fail)
    go_ret
    exact ⟨rfl, H3.out⟩
  | true =>
    rw [hv] at HRt
    have hf0 := (rightB_iff f).1 hv
    obtain ⟨N, hN⟩ : ∃ N, (secsJ f cost L n).length = N := ⟨_, rfl⟩
    obtain ⟨g, hg⟩ : ∃ g : Nat → Sec, (fun k => (secsJ f cost L n).getD k default) = g := ⟨_, rfl⟩
    have hN8 : N ≤ 8 := by rw [← hN]; exact goJ_len f cost L n
    have HL := Lib.hid (show ∀ wx, Below w.heap.size w wx → Calls Try.prog 30 #[.agg #[.int .i64 a0, .int .i64 a1, .int .i64 a2, .int .i64 (f 0), .int .i64 (f 1), .int .i64 (f 2), .int .i64 (f 3), .int .i64 (f 4), .int .i64 (f 5), .int .i64 (f 6), .int .i64 (f 7)], .int .i64 cost, .slice S.sp n S.c] wx fun e w' => ∃ S' : Src, e = .returned (.slice S'.sp N S'.c) ∧ SecsOf w' S' N g ∧ Below wx.heap.size wx w' from fun wx hb => by
      have hx := h.new hb
      refine (list_any a0 a1 a2 f cost S n L wx hn1 hr hc hx.sl hx.e).mono ?_
      rintro e w' ⟨v, rfl, ho, hb'⟩
      rw [hN, hg] at ho
      obtain ⟨S', rfl, hS⟩ := secs_of ho (by omega)
      exact ⟨S', rfl, hS, hb'⟩)
    have HR := Lib.hid (show ∀ wx, Below w.heap.size w wx → Calls Try.prog 31 #[.agg #[.int .i64 a0, .int .i64 a1, .int .i64 a2, .int .i64 (f 0), .int .i64 (f 1), .int .i64 (f 2), .int .i64 (f 3), .int .i64 (f 4), .int .i64 (f 5), .int .i64 (f 6), .int .i64 (f 7)], .int .i64 cost, .slice S.sp n S.c] wx fun e w' => ∃ S' : Src, e = .returned (.slice S'.sp N S'.c) ∧ SecsOf w' S' N g ∧ Below wx.heap.size wx w' from fun wx hb => by
      have hx := h.new hb
      refine (rSecs_any a0 a1 a2 f cost S n L wx hn1 hf0 hr hc hx.sl hx.e).mono ?_
      rintro e w' ⟨v, rfl, ho, hb'⟩
      rw [← secR_list, hN, hg] at ho
      obtain ⟨S', rfl, hS⟩ := secs_of ho (by omega)
      exact ⟨S', rfl, hS, hb'⟩)
    have HRow := Lib.hid (fun (wx : World) (A B : Src) (hA : SecsOf wx A N g) (hB : SecsOf wx B N g) => row_same A B N g wx (by omega) hA.sl hB.sl hA.e hB.e)
    obtain ⟨sp, sb, so, sc⟩ := S
    dsimp only at HL HR
    clear h hv hf0 hN hg hr hc
    go_enter Try.func7, Try.ntmps7
    go_upto_region 1 with fail
    generalize hw2 : World.alloc _ _ = w2
    have H2 := Lib.hid (HW.out w2 hw2)
    rw [← hZ]
    clear hw2 hZ HW
    have c0 : w2.cell? ⟨Z, 0, none⟩ = some (.int .i64 a0) := H2.out.2.cell 0
    have c1 : w2.cell? ⟨Z, 1, none⟩ = some (.int .i64 a1) := H2.out.2.cell 1
    have c2 : w2.cell? ⟨Z, 2, none⟩ = some (.int .i64 a2) := H2.out.2.cell 2
    have c3 : w2.cell? ⟨Z, 3, none⟩ = some (.int .i64 (f 0)) := H2.out.2.cell 3
    have c4 : w2.cell? ⟨Z, 4, none⟩ = some (.int .i64 (f 1)) := H2.out.2.cell 4
    have c5 : w2.cell? ⟨Z, 5, none⟩ = some (.int .i64 (f 2)) := H2.out.2.cell 5
    have c6 : w2.cell? ⟨Z, 6, none⟩ = some (.int .i64 (f 3)) := H2.out.2.cell 6
    have c7 : w2.cell? ⟨Z, 7, none⟩ = some (.int .i64 (f 4)) := H2.out.2.cell 7
    have c8 : w2.cell? ⟨Z, 8, none⟩ = some (.int .i64 (f 5)) := H2.out.2.cell 8
    have c9 : w2.cell? ⟨Z, 9, none⟩ = some (.int .i64 (f 6)) := H2.out.2.cell 9
    have c10 : w2.cell? ⟨Z, 10, none⟩ = some (.int .i64 (f 7)) := H2.out.2.cell 10
    go_upto_region 3 with (first
      | (go_at_call 28; refine (HRt.out _).mono ?_; rintro e w3 ⟨rfl, b3⟩; have H3 := Lib.hid (And.intro (H2.out.1.trans (b3.mono H2.out.1.size)) (H2.out.2.new b3)); clear b3)
      | fail)
    clear c0 c1 c2 c3 c4 c5 c6 c7 c8 c9 c10 H2 HRt
    obtain ⟨wd, hwd⟩ : ∃ wd, w3.drew = wd := ⟨_, rfl⟩
    have HG1 := Lib.hid (show Below w.heap.size w wd ∧ RowAt wd Z 62 #[.int .i64 a0, .int .i64 a1, .int .i64 a2, .int .i64 (f 0), .int .i64 (f 1), .int .i64 (f 2), .int .i64 (f 3), .int .i64 (f 4), .int .i64 (f 5), .int .i64 (f 6), .int .i64 (f 7)] by
      rw [← hwd]; exact ⟨below_dn H3.out.1 1, H3.out.2.new (below_dn (Below.refl _ w3) 1)⟩)
    clear H3
    refine wp_region_held_drew (S := fun w' => Below w.heap.size w w' ∧ RowAt w' Z 62 #[.int .i64 a0, .int .i64 a1, .int .i64 a2, .int .i64 (f 0), .int .i64 (f 1), .int .i64 (f 2), .int .i64 (f 3), .int .i64 (f 4), .int .i64 (f 5), .int .i64 (f 6), .int .i64 (f 7)]) (by kernel_rfl) (by rw [hwd]; exact HG1.out) (fun hS => ?_)
    rw [hwd] at hS ⊢
    clear hwd
    refine wpAnyH_take (i := 0) (oi := { dst := some 15, op := .load 62 (.tmp 3), type := 62, pos := "law.go:57", after := #[], guard := none }) (v := (.agg #[.int .i64 a0, .int .i64 a1, .int .i64 a2, .int .i64 (f 0), .int .i64 (f 1), .int .i64 (f 2), .int .i64 (f 3), .int .i64 (f 4), .int .i64 (f 5), .int .i64 (f 6), .int .i64 (f 7)])) rfl (by kernel_rfl) (by kernel_rfl) (by kernel_rfl) (fun _ _ _ h => h) (Or.inl ⟨by rfl, ?_⟩) hS ?_
    · intro w hw; obtain ⟨s0, s1⟩ := hw; exact exec_load_row 62 (.tmp 3) (by exact rfl) Z (by exact rfl) 62 #[.int .i64 a0, .int .i64 a1, .int .i64 a2, .int .i64 (f 0), .int .i64 (f 1), .int .i64 (f 2), .int .i64 (f 3), .int .i64 (f 4), .int .i64 (f 5), .int .i64 (f 6), .int .i64 (f 7)] (0, 0) _ s1 Try.underlying62 rfl (by kernel_rfl)
    simp only [Act.put, List.setIfInBounds_toArray, List.set_cons_zero, List.set_cons_succ]
    refine wpAnyH_take (i := 1) (oi := { dst := some 16, op := .move (.tmp 1), type := 3, pos := "law.go:57", after := #[], guard := none }) (v := ?_) rfl (by kernel_rfl) (by kernel_rfl) (by kernel_rfl) (fun _ _ _ h => h) (Or.inl ⟨by rfl, ?_⟩) hS ?_
    rotate_left 1
    · intro w hw; obtain ⟨s0, s1⟩ := hw; go_simp; try (with_reducible rfl)
    simp only [Act.put, List.setIfInBounds_toArray, List.set_cons_zero, List.set_cons_succ]
    refine wpAnyH_take (i := 2) (oi := { dst := some 17, op := .move (.tmp 2), type := 63, pos := "law.go:57", after := #[], guard := none }) (v := ?_) rfl (by kernel_rfl) (by kernel_rfl) (by kernel_rfl) (fun _ _ _ h => h) (Or.inl ⟨by rfl, ?_⟩) hS ?_
    rotate_left 1
    · intro w hw; obtain ⟨s0, s1⟩ := hw; go_simp; try (with_reducible rfl)
    simp only [Act.put, List.setIfInBounds_toArray, List.set_cons_zero, List.set_cons_succ]
    refine wpAnyH_take (i := 4) (oi := { dst := some 19, op := .load 62 (.tmp 3), type := 62, pos := "law.go:57", after := #[], guard := none }) (v := (.agg #[.int .i64 a0, .int .i64 a1, .int .i64 a2, .int .i64 (f 0), .int .i64 (f 1), .int .i64 (f 2), .int .i64 (f 3), .int .i64 (f 4), .int .i64 (f 5), .int .i64 (f 6), .int .i64 (f 7)])) rfl (by kernel_rfl) (by kernel_rfl) (by kernel_rfl) (fun _ _ _ h => h) (Or.inl ⟨by rfl, ?_⟩) hS ?_
    · intro w hw; obtain ⟨s0, s1⟩ := hw; exact exec_load_row 62 (.tmp 3) (by exact rfl) Z (by exact rfl) 62 #[.int .i64 a0, .int .i64 a1, .int .i64 a2, .int .i64 (f 0), .int .i64 (f 1), .int .i64 (f 2), .int .i64 (f 3), .int .i64 (f 4), .int .i64 (f 5), .int .i64 (f 6), .int .i64 (f 7)] (0, 0) _ s1 Try.underlying62 rfl (by kernel_rfl)
    simp only [Act.put, List.setIfInBounds_toArray, List.set_cons_zero, List.set_cons_succ]
    refine wpAnyH_take (i := 5) (oi := { dst := some 20, op := .move (.tmp 1), type := 3, pos := "law.go:57", after := #[], guard := none }) (v := ?_) rfl (by kernel_rfl) (by kernel_rfl) (by kernel_rfl) (fun _ _ _ h => h) (Or.inl ⟨by rfl, ?_⟩) hS ?_
    rotate_left 1
    · intro w hw; obtain ⟨s0, s1⟩ := hw; go_simp; try (with_reducible rfl)
    simp only [Act.put, List.setIfInBounds_toArray, List.set_cons_zero, List.set_cons_succ]
    refine wpAnyH_take (i := 6) (oi := { dst := some 21, op := .move (.tmp 2), type := 63, pos := "law.go:57", after := #[], guard := none }) (v := ?_) rfl (by kernel_rfl) (by kernel_rfl) (by kernel_rfl) (fun _ _ _ h => h) (Or.inl ⟨by rfl, ?_⟩) hS ?_
    rotate_left 1
    · intro w hw; obtain ⟨s0, s1⟩ := hw; go_simp; try (with_reducible rfl)
    simp only [Act.put, List.setIfInBounds_toArray, List.set_cons_zero, List.set_cons_succ]
    refine wpAnyH_ready (rs := [3]) (by kernel_rfl) (by simp) (AllReadyH.cons (o := { dst := some 18, op := .call { callee := .value (.func 30), args := #[.tmp 15, .tmp 16, .tmp 17], argTypes := #[62, 3, 63] }, type := 63, pos := "law.go:57", after := #[{ on := 0, ground := .data }, { on := 1, ground := .data }, { on := 2, ground := .data }], guard := none }) rfl (fun K hK => ?_) AllReadyH.nil)
    go_simp
    go_at_call 30
    refine (HL.out _ HG1.out.1).mono ?_
    rintro e wg101 ⟨A, rfl, kA, bA⟩
    have HG102 := Lib.hid (show Below w.heap.size w wg101 ∧ RowAt wg101 Z 62 #[.int .i64 a0, .int .i64 a1, .int .i64 a2, .int .i64 (f 0), .int .i64 (f 1), .int .i64 (f 2), .int .i64 (f 3), .int .i64 (f 4), .int .i64 (f 5), .int .i64 (f 6), .int .i64 (f 7)] ∧ SecsOf wg101 A N g from ⟨(HG1.out.1.trans ((bA).mono HG1.out.1.size)), (HG1.out.2.new (bA)), kA⟩)
    clear kA bA
    try dsimp only
    refine hK.out _ _ ⟨HG102.out.1, HG102.out.2.1⟩ (fun hHeld => ?_)
    clear hK K
    try simp only [Act.put, List.setIfInBounds_toArray, List.set_cons_zero, List.set_cons_succ]
    refine wpAnyH_ready (rs := [7]) (by kernel_rfl) (by simp) (AllReadyH.cons (o := { dst := some 22, op := .call { callee := .value (.func 31), args := #[.tmp 19, .tmp 20, .tmp 21], argTypes := #[62, 3, 63] }, type := 63, pos := "law.go:57", after := #[{ on := 4, ground := .data }, { on := 5, ground := .data }, { on := 6, ground := .data }, { on := 3, ground := .chain }], guard := none }) rfl (fun K hK => ?_) AllReadyH.nil)
    go_simp
    go_at_call 31
    refine (HR.out _ HG102.out.1).mono ?_
    rintro e wg103 ⟨B, rfl, kB, bB⟩
    have HG104 := Lib.hid (show Below w.heap.size w wg103 ∧ RowAt wg103 Z 62 #[.int .i64 a0, .int .i64 a1, .int .i64 a2, .int .i64 (f 0), .int .i64 (f 1), .int .i64 (f 2), .int .i64 (f 3), .int .i64 (f 4), .int .i64 (f 5), .int .i64 (f 6), .int .i64 (f 7)] ∧ SecsOf wg103 A N g ∧ SecsOf wg103 B N g from ⟨(HG102.out.1.trans ((bB).mono HG102.out.1.size)), (HG102.out.2.1.new (bB)), (HG102.out.2.2.new (bB)), kB⟩)
    clear kB bB
    try dsimp only
    refine hK.out _ _ ⟨HG104.out.1, HG104.out.2.1⟩ (fun hHeld => ?_)
    clear hK K
    try simp only [Act.put, List.setIfInBounds_toArray, List.set_cons_zero, List.set_cons_succ]
    refine wpAnyH_ready (rs := [8]) (by kernel_rfl) (by simp) (AllReadyH.cons (o := { dst := some 23, op := .call { callee := .value (.func 29), args := #[.tmp 18, .tmp 22], argTypes := #[63, 63] }, type := 4, pos := "law.go:57", after := #[{ on := 3, ground := .data }, { on := 7, ground := .data }, { on := 7, ground := .chain }], guard := none }) rfl (fun K hK => ?_) AllReadyH.nil)
    go_simp
    go_at_call 29
    refine (HRow.out _ A B HG104.out.2.2.1 HG104.out.2.2.2).mono ?_
    rintro e wg105 ⟨rfl, bc105⟩
    have HG106 := Lib.hid (show Below w.heap.size w wg105 ∧ RowAt wg105 Z 62 #[.int .i64 a0, .int .i64 a1, .int .i64 a2, .int .i64 (f 0), .int .i64 (f 1), .int .i64 (f 2), .int .i64 (f 3), .int .i64 (f 4), .int .i64 (f 5), .int .i64 (f 6), .int .i64 (f 7)] ∧ SecsOf wg105 A N g ∧ SecsOf wg105 B N g from ⟨(HG104.out.1.trans ((bc105).mono HG104.out.1.size)), (HG104.out.2.1.new (bc105)), (HG104.out.2.2.1.new (bc105)), (HG104.out.2.2.2.new (bc105))⟩)
    clear bc105
    try dsimp only
    refine hK.out _ _ ⟨HG106.out.1, HG106.out.2.1⟩ (fun hHeld => ?_)
    clear hK K
    try simp only [Act.put, List.setIfInBounds_toArray, List.set_cons_zero, List.set_cons_succ]
    refine wpAnyH_take (i := 9) (oi := { dst := some 24, op := .move (.tmp 23), type := 4, pos := "law.go:57", after := #[{ on := 8, ground := .data }, { on := 8, ground := .chain }], guard := none }) (v := ?_) rfl (by kernel_rfl) (by kernel_rfl) (by kernel_rfl) (fun _ _ _ h => h) (Or.inl ⟨by rfl, ?_⟩) ⟨HG106.out.1, HG106.out.2.1⟩ ?_
    rotate_left 1
    · intro w hw; obtain ⟨s0, s1⟩ := hw; go_simp; try (with_reducible rfl)
    simp only [Act.put, List.setIfInBounds_toArray, List.set_cons_zero, List.set_cons_succ]
    refine wpAnyH_ready (rs := [10]) (by kernel_rfl) (by simp) (AllReadyH.cons (o := { dst := some 25, op := .call { callee := .value (.func 32), args := #[], argTypes := #[] }, type := 4, pos := "law.go:57", after := #[{ on := 9, ground := .chain }, { on := 9, ground := .guard }], guard := some (9, true) }) rfl (fun K hK => ?_) AllReadyH.nil)
    go_simp
    go_at_call 32
    refine (l25alive_any _).mono ?_
    rintro e wg107 ⟨rfl, bc107⟩
    have HG108 := Lib.hid (show Below w.heap.size w wg107 ∧ RowAt wg107 Z 62 #[.int .i64 a0, .int .i64 a1, .int .i64 a2, .int .i64 (f 0), .int .i64 (f 1), .int .i64 (f 2), .int .i64 (f 3), .int .i64 (f 4), .int .i64 (f 5), .int .i64 (f 6), .int .i64 (f 7)] ∧ SecsOf wg107 A N g ∧ SecsOf wg107 B N g from ⟨(HG106.out.1.trans ((bc107).mono HG106.out.1.size)), (HG106.out.2.1.new (bc107)), (HG106.out.2.2.1.new (bc107)), (HG106.out.2.2.2.new (bc107))⟩)
    clear bc107
    try dsimp only
    refine hK.out _ _ ⟨HG108.out.1, HG108.out.2.1⟩ (fun hHeld => ?_)
    clear hK K
    try simp only [Act.put, List.setIfInBounds_toArray, List.set_cons_zero, List.set_cons_succ]
    refine wpAnyH_take (i := 11) (oi := { dst := some 26, op := .pick (.tmp 24) (.tmp 25) (.const (.bool false)), type := 4, pos := "law.go:57", after := #[{ on := 9, ground := .data }, { on := 10, ground := .data }], guard := none }) (v := ?_) rfl (by kernel_rfl) (by kernel_rfl) (by kernel_rfl) (fun _ _ _ h => h) (Or.inl ⟨by rfl, ?_⟩) ⟨HG108.out.1, HG108.out.2.1⟩ ?_
    rotate_left 1
    · intro w hw; obtain ⟨s0, s1⟩ := hw; go_simp; try (with_reducible rfl)
    simp only [Act.put, List.setIfInBounds_toArray, List.set_cons_zero, List.set_cons_succ]
    refine wpAnyH_take (i := 12) (oi := { dst := some 6, op := .assign (.tmp 26), type := 4, pos := "law.go:57", after := #[{ on := 11, ground := .data }, { on := 10, ground := .chain }, { on := 0, ground := .phase }, { on := 1, ground := .phase }, { on := 2, ground := .phase }, { on := 3, ground := .phase }, { on := 4, ground := .phase }, { on := 5, ground := .phase }, { on := 6, ground := .phase }, { on := 7, ground := .phase }, { on := 8, ground := .phase }, { on := 9, ground := .phase }, { on := 10, ground := .phase }, { on := 11, ground := .phase }], guard := none }) (v := ?_) rfl (by kernel_rfl) (by kernel_rfl) (by kernel_rfl) (fun _ _ _ h => h) (Or.inl ⟨by rfl, ?_⟩) ⟨HG108.out.1, HG108.out.2.1⟩ ?_
    rotate_left 1
    · intro w hw; obtain ⟨s0, s1⟩ := hw; go_simp; try (with_reducible rfl)
    simp only [Act.put, List.setIfInBounds_toArray, List.set_cons_zero, List.set_cons_succ]
    refine wpAnyH_done (by kernel_rfl) ?_ _
    go_wp2
    go_ret
    exact ⟨rfl, HG108.out.1⟩

end Go.Proofs.Ytcipkkeegbfaeaa
