/- DiffLines' walk. -/
import Derived.Test.YtknkhigmokooaaaDoorEH
namespace Go.Proofs.YtknkhigmokooaaaDoor
open Go.RowKit Go.Lib

theorem wrap_small {j : Nat} (h : j < 100) : IntKind.i64.wrap (j : Int) = (j : Int) := by
  unfold IntKind.wrap
  simp [IntKind.signed, IntKind.bits]
  omega
set_option maxHeartbeats 4000000 in
set_option maxRecDepth 100000 in
theorem law_lines {w : World} (hw : WTab w) (ht : PTab w) (K A : Int) (o n : Bool) (hA : A ≤ 9223372036854775807) (hA' : -9223372036854775808 ≤ A) :
    Calls Tryd.prog 8 #[.agg #[.int .i64 K, .int .i64 A, .bool o, .bool n]] w fun e w' => e = .returned (.bool true) ∧ Below w.heap.size w w' := by
  have HLn := Lib.hid (fun (wx : World) (hb : Below w.heap.size w wx) => dfLine_any (hw.below hb) (ht.below hb) K A o n hA)
  have HAl := Lib.hid (fun (wx : World) (hb : Below w.heap.size w wx) => l42alive_any (hw.below hb) (ht.below hb))
  have HRt := Lib.hid (fun (wx : World) => reftext_any A wx hA' hA)
  have HB0 := Lib.hid (show Below w.heap.size w (w.alloc (.cells #[.int .i64 K, .int .i64 A, .bool o, .bool n] 57)) from below_alloc (Below.refl _ _) (Nat.le_refl _) _)
  obtain ⟨Z, hZ⟩ : ∃ Z, Z = w.heap.size := ⟨_, rfl⟩
  obtain ⟨W1, hW1⟩ : ∃ W, w.alloc (.cells #[.int .i64 K, .int .i64 A, .bool o, .bool n] 57) = W := ⟨_, rfl⟩
  have HR1 := Lib.hid (show RowAt W1 Z 57 #[.int .i64 K, .int .i64 A, .bool o, .bool n] by rw [← hW1, hZ]; exact RowAt.mk _ _ _)
  have HX := Lib.hid (show ∀ wx, Below W1.heap.size W1 wx → wx.cell? ⟨Z, 0, none⟩ = some (.int .i64 K) ∧ wx.cell? ⟨Z, 1, none⟩ = some (.int .i64 A) ∧ wx.cell? ⟨Z, 2, none⟩ = some (.bool o) ∧ wx.cell? ⟨Z, 3, none⟩ = some (.bool n) from fun wx hb =>
    have r := HR1.out.new hb
    ⟨r.cell 0, r.cell 1, r.cell 2, r.cell 3⟩)
  rw [hW1] at HB0
  have HW1 := Lib.hid hW1
  obtain ⟨r, hr⟩ : ∃ s, lineB K A o n = s := ⟨_, rfl⟩
  rw [hr] at HLn
  unfold lineB at hr
  obtain ⟨p0, p1, p2, p3⟩ := HX.out W1 (Below.refl _ _)
  have HZ := Lib.hid hZ
  clear hw ht
  by_cases h1 : K < 1
  · rw [if_pos h1] at hr
    subst hr
    go_enter Tryd.func8, Tryd.ntmps8
    go_upto_region 1 with fail
    rw [← HZ.out]
    clear hZ hW1
    go_wp2_with (first
        | (go_at_call 28; refine (HLn.out W1 HB0.out).mono ?_; rintro e w3 ⟨rfl, b3⟩; have H3 := Lib.hid ((HB0.out).trans (b3.mono (HB0.out).size)); clear b3)
        | (go_at_call 26; refine (HAl.out w3 H3.out).mono ?_; rintro e w4 ⟨rfl, b4⟩; have H4 := Lib.hid (H3.out.trans (b4.mono H3.out.size)); clear b4)
        | fail)
    go_ret
    exact ⟨rfl, H4.out⟩
  rw [if_neg h1] at hr
  by_cases h5 : 5 < K
  · rw [if_pos h5] at hr
    subst hr
    go_enter Tryd.func8, Tryd.ntmps8
    go_upto_region 1 with fail
    rw [← HZ.out]
    clear hZ hW1
    go_wp2_with (first
        | (go_at_call 28; refine (HLn.out W1 HB0.out).mono ?_; rintro e w3 ⟨rfl, b3⟩; have H3 := Lib.hid ((HB0.out).trans (b3.mono (HB0.out).size)); clear b3)
        | (go_at_call 26; refine (HAl.out w3 H3.out).mono ?_; rintro e w4 ⟨rfl, b4⟩; have H4 := Lib.hid (H3.out.trans (b4.mono H3.out.size)); clear b4)
        | fail)
    go_ret
    exact ⟨rfl, H4.out⟩
  rw [if_neg h5] at hr
  by_cases hA0 : A < 0
  · rw [if_pos hA0] at hr
    subst hr
    go_enter Tryd.func8, Tryd.ntmps8
    go_upto_region 1 with fail
    rw [← HZ.out]
    clear hZ hW1
    go_wp2_with (first
        | (go_at_call 28; refine (HLn.out W1 HB0.out).mono ?_; rintro e w3 ⟨rfl, b3⟩; have H3 := Lib.hid ((HB0.out).trans (b3.mono (HB0.out).size)); clear b3)
        | (go_at_call 26; refine (HAl.out w3 H3.out).mono ?_; rintro e w4 ⟨rfl, b4⟩; have H4 := Lib.hid (H3.out.trans (b4.mono H3.out.size)); clear b4)
        | fail)
    go_ret
    exact ⟨rfl, H4.out⟩
  rw [if_neg hA0] at hr
  by_cases hon : o = false ∧ n = false
  · rw [if_pos hon] at hr
    subst hr
    obtain ⟨rfl, rfl⟩ := hon
    go_enter Tryd.func8, Tryd.ntmps8
    go_upto_region 1 with fail
    rw [← HZ.out]
    clear hZ hW1
    go_wp2_with (first
        | (go_at_call 28; refine (HLn.out W1 HB0.out).mono ?_; rintro e w3 ⟨rfl, b3⟩; have H3 := Lib.hid ((HB0.out).trans (b3.mono (HB0.out).size)); clear b3)
        | (go_at_call 26; refine (HAl.out w3 H3.out).mono ?_; rintro e w4 ⟨rfl, b4⟩; have H4 := Lib.hid (H3.out.trans (b4.mono H3.out.size)); clear b4)
        | fail)
    go_ret
    exact ⟨rfl, H4.out⟩
  rw [if_neg hon] at hr
  obtain ⟨j, rfl⟩ : ∃ j : Nat, K = (j : Int) + 1 := ⟨(K - 1).toNat, by omega⟩
  have hj : j < 5 := by omega
  obtain ⟨wb, hwb⟩ : ∃ s, wordB ((j : Int) + 1) = s := ⟨_, rfl⟩
  rw [hwb] at hr
  have HWd := Lib.hid (show ∀ (wx : World) (b : Nat), RowAt wx b 9 #[.string ⟨#[114, 101, 115]⟩, .string ⟨#[116, 97, 115, 107]⟩, .string ⟨#[109, 111, 100, 101]⟩, .string ⟨#[113, 117, 101, 117, 101, 115]⟩, .string ⟨#[101, 100, 103, 101]⟩] → wx.cell? ⟨b, j, none⟩ = some (.string wb) from fun wx b hrow => by
    rw [← hwb]
    rcases j with _ | _ | _ | _ | _ | j
    · exact hrow.cell 0
    · exact hrow.cell 1
    · exact hrow.cell 2
    · exact hrow.cell 3
    · exact hrow.cell 4
    · omega)
  have hwl : wb.size ≤ 6 := by
    rw [← hwb]; unfold wordB; repeat' split
    all_goals decide
  obtain ⟨ds, hds⟩ : ∃ d, (⟨(decDigits (clamp A)).toArray⟩ : ByteArray) = d := ⟨_, rfl⟩
  have hdl : ds.size ≤ 2147483648 := by
    rw [← hds]
    have h1 := dec_len (clamp A)
    have h2 := clamp_le A
    show (decDigits (clamp A)).toArray.size ≤ _
    simp
    omega
  rw [hds] at hr HRt
  have HSz := Lib.hid (And.intro hwl hdl)
  have hj1 : (j : Int) < 5 := by omega
  have HJ := Lib.hid (And.intro hj hj1)
  clear hwb hds hwl hdl h1 h5
  by_cases htruetrue : o = true ∧ n = true
  · obtain ⟨rfl, rfl⟩ := htruetrue
    clear hon
    have hr2 : wb ++ ⟨#[32]⟩ ++ ds ++ ⟨#[32]⟩ ++ ⟨#[111, 116, 104, 101, 114]⟩ = r := hr
    have HR := Lib.hid hr2
    clear hr hr2
    go_enter Tryd.func8, Tryd.ntmps8
    go_upto_region 1 with fail
    rw [← HZ.out]
    clear hZ hW1
    have hj0 : (1 : Int) ≤ (j : Int) + 1 := by omega
    have hj5 : (j : Int) + 1 ≤ 5 := by omega
    go_upto_region 8 with fail
    have HG0 := Lib.hid (show Below W1.heap.size W1 W1.drew from below_dn (Below.refl _ _) 1)
    obtain ⟨wd, hwd⟩ : ∃ wd, W1.drew = wd := ⟨_, rfl⟩
    rw [hwd] at HG0
    refine wp_region_held_drew (S := fun w' => Below W1.heap.size W1 w') (by kernel_rfl) (by rw [hwd]; exact HG0.out) (fun hS => ?_)
    rw [hwd] at hS ⊢
    clear hwd
    refine wpAnyH_take (i := 1) (oi := { dst := some 33, op := .fieldAddr 57 (.tmp 1) 0, type := 0, pos := "law.go:122", after := #[], guard := none }) (v := ?_) rfl (by kernel_rfl) (by kernel_rfl) (by kernel_rfl) (fun _ _ _ h => h) (Or.inl ⟨by rfl, ?_⟩) hS ?_
    rotate_left 1
    · intro w hw; obtain s0 := hw; go_simp; try (with_reducible rfl)
    simp only [Act.put, List.setIfInBounds_toArray, List.set_cons_zero, List.set_cons_succ]
    refine wpAnyH_take (i := 2) (oi := { dst := some 34, op := .load 55 (.tmp 33), type := 55, pos := "law.go:122", after := #[{ on := 1, ground := .data }], guard := none }) (v := ?_) rfl (by kernel_rfl) (by kernel_rfl) (by kernel_rfl) (fun _ _ _ h => h) (Or.inl ⟨by rfl, ?_⟩) hS ?_
    rotate_left 1
    · intro w hw; obtain s0 := hw; obtain ⟨k0, k1, -⟩ := HX.out _ hw; go_simp; try (with_reducible rfl)
    simp only [Act.put, List.setIfInBounds_toArray, List.set_cons_zero, List.set_cons_succ]
    refine wpAnyH_take (i := 3) (oi := { dst := some 35, op := .binOp .sub 3 (.tmp 34) (.const (.int .i64 1)) 3, type := 3, pos := "law.go:122", after := #[{ on := 2, ground := .data }], guard := none }) (v := (.int .i64 (j : Nat))) rfl (by kernel_rfl) (by kernel_rfl) (by kernel_rfl) (fun _ _ _ h => h) (Or.inl ⟨by rfl, ?_⟩) hS ?_
    · intro w hw; obtain s0 := hw; obtain ⟨k0, k1⟩ := HJ.out; go_simp; exact wrap_small (by omega)
    simp only [Act.put, List.setIfInBounds_toArray, List.set_cons_zero, List.set_cons_succ]
    refine wpAnyH_take (i := 7) (oi := { dst := some 39, op := .fieldAddr 57 (.tmp 1) 1, type := 0, pos := "law.go:122", after := #[], guard := none }) (v := ?_) rfl (by kernel_rfl) (by kernel_rfl) (by kernel_rfl) (fun _ _ _ h => h) (Or.inl ⟨by rfl, ?_⟩) hS ?_
    rotate_left 1
    · intro w hw; obtain s0 := hw; go_simp; try (with_reducible rfl)
    simp only [Act.put, List.setIfInBounds_toArray, List.set_cons_zero, List.set_cons_succ]
    refine wpAnyH_take (i := 8) (oi := { dst := some 40, op := .load 3 (.tmp 39), type := 3, pos := "law.go:122", after := #[{ on := 7, ground := .data }], guard := none }) (v := ?_) rfl (by kernel_rfl) (by kernel_rfl) (by kernel_rfl) (fun _ _ _ h => h) (Or.inl ⟨by rfl, ?_⟩) hS ?_
    rotate_left 1
    · intro w hw; obtain s0 := hw; obtain ⟨k0, k1, -⟩ := HX.out _ hw; go_simp; try (with_reducible rfl)
    simp only [Act.put, List.setIfInBounds_toArray, List.set_cons_zero, List.set_cons_succ]
    refine wpAnyH_take (i := 12) (oi := { dst := some 44, op := .move (.tmp 4), type := 9, pos := "law.go:122", after := #[], guard := none }) (v := ?_) rfl (by kernel_rfl) (by kernel_rfl) (by kernel_rfl) (fun _ _ _ h => h) (Or.inl ⟨by rfl, ?_⟩) hS ?_
    rotate_left 1
    · intro w hw; obtain s0 := hw; go_simp; try (with_reducible rfl)
    simp only [Act.put, List.setIfInBounds_toArray, List.set_cons_zero, List.set_cons_succ]
    refine wpAnyH_ready (rs := [0, 9]) (by kernel_rfl) (by simp) (AllReadyH.cons (o := { dst := some 32, op := .buildSlice 63 5 #[(0, .const (.string { data := #[114, 101, 115] })), (1, .const (.string { data := #[116, 97, 115, 107] })), (2, .const (.string { data := #[109, 111, 100, 101] })), (3, .const (.string { data := #[113, 117, 101, 117, 101, 115] })), (4, .const (.string { data := #[101, 100, 103, 101] }))], type := 63, pos := "law.go:122", after := #[], guard := none }) rfl (fun K hK => ?_) (AllReadyH.cons (o := { dst := some 41, op := .call { callee := .value (.func 29), args := #[.tmp 40], argTypes := #[3] }, type := 9, pos := "law.go:122", after := #[{ on := 8, ground := .data }], guard := none }) rfl (fun K hK => ?_) AllReadyH.nil))
    · go_simp
      obtain ⟨bS, hbS⟩ : ∃ b, b = (wd).heap.size := ⟨_, rfl⟩
      rw [← hbS]
      generalize hwg101 : World.alloc _ _ = wg101
      have bwg101 : Below (wd).heap.size (wd) wg101 := by rw [← hwg101]; exact (Below.refl _ _).alloc (Nat.le_refl _) _
      have rwg101 : RowAt wg101 bS 9 #[.string ⟨#[114, 101, 115]⟩, .string ⟨#[116, 97, 115, 107]⟩, .string ⟨#[109, 111, 100, 101]⟩, .string ⟨#[113, 117, 101, 117, 101, 115]⟩, .string ⟨#[101, 100, 103, 101]⟩] := by rw [← hwg101, hbS]; exact RowAt.mk _ _ _
      have HG102 := Lib.hid (show Below W1.heap.size W1 wg101 ∧ RowAt wg101 bS 9 #[.string ⟨#[114, 101, 115]⟩, .string ⟨#[116, 97, 115, 107]⟩, .string ⟨#[109, 111, 100, 101]⟩, .string ⟨#[113, 117, 101, 117, 101, 115]⟩, .string ⟨#[101, 100, 103, 101]⟩] from ⟨(HG0.out.trans ((bwg101).mono HG0.out.size)), rwg101⟩)
      clear hwg101 bwg101 rwg101 hbS
      refine hK.out _ _ HG102.out.1 (fun hHeld => ?_)
      clear hK K
      try simp only [Act.put, List.setIfInBounds_toArray, List.set_cons_zero, List.set_cons_succ]
      refine wpAnyH_take (i := 4) (oi := { dst := some 36, op := .indexAddr 63 (.tmp 32) (.tmp 35), type := 0, pos := "law.go:122", after := #[{ on := 0, ground := .data }, { on := 3, ground := .data }], guard := none }) (v := ?_) rfl (by kernel_rfl) (by kernel_rfl) (by kernel_rfl) (fun _ _ _ h => h) (Or.inl ⟨by rfl, ?_⟩) HG102.out.1 ?_
      rotate_left 1
      · intro w hw; obtain s0 := hw; obtain ⟨k0, k1⟩ := HJ.out; go_simp; try (with_reducible rfl)
      simp only [Act.put, List.setIfInBounds_toArray, List.set_cons_zero, List.set_cons_succ]
      refine wpAnyH_ready (rs := [5, 9]) (by kernel_rfl) (by simp) (AllReadyH.cons (o := { dst := some 37, op := .load 9 (.tmp 36), type := 9, pos := "law.go:122", after := #[{ on := 4, ground := .data }], guard := none }) rfl (fun K hK => ?_) (AllReadyH.cons (o := { dst := some 41, op := .call { callee := .value (.func 29), args := #[.tmp 40], argTypes := #[3] }, type := 9, pos := "law.go:122", after := #[{ on := 8, ground := .data }], guard := none }) rfl (fun K hK => ?_) AllReadyH.nil))
      · have k0 := HWd.out _ _ (HG102.out.2)
        go_simp
        refine hK.out _ _ HG102.out.1 (fun hHeld => ?_)
        clear hK K
        try simp only [Act.put, List.setIfInBounds_toArray, List.set_cons_zero, List.set_cons_succ]
        refine wpAnyH_take (i := 6) (oi := { dst := some 38, op := .binOp .add 9 (.tmp 37) (.const (.string { data := #[32] })) 9, type := 9, pos := "law.go:122", after := #[{ on := 5, ground := .data }], guard := none }) (v := ?_) rfl (by kernel_rfl) (by kernel_rfl) (by kernel_rfl) (fun _ _ _ h => h) (Or.inl ⟨by rfl, ?_⟩) HG102.out.1 ?_
        rotate_left 1
        · intro w hw; obtain s0 := hw; go_simp; rw [if_neg (by obtain ⟨k1, k2⟩ := HSz.out; simp; omega)]
        simp only [Act.put, List.setIfInBounds_toArray, List.set_cons_zero, List.set_cons_succ]
        refine wpAnyH_ready (rs := [9]) (by kernel_rfl) (by simp) (AllReadyH.cons (o := { dst := some 41, op := .call { callee := .value (.func 29), args := #[.tmp 40], argTypes := #[3] }, type := 9, pos := "law.go:122", after := #[{ on := 8, ground := .data }], guard := none }) rfl (fun K hK => ?_) AllReadyH.nil)
        go_simp
        go_at_call 29
        refine (HRt.out _).mono ?_
        rintro e wg103 ⟨rfl, bc103⟩
        have HG104 := Lib.hid (show Below W1.heap.size W1 wg103 ∧ RowAt wg103 bS 9 #[.string ⟨#[114, 101, 115]⟩, .string ⟨#[116, 97, 115, 107]⟩, .string ⟨#[109, 111, 100, 101]⟩, .string ⟨#[113, 117, 101, 117, 101, 115]⟩, .string ⟨#[101, 100, 103, 101]⟩] from ⟨(HG102.out.1.trans ((bc103).mono HG102.out.1.size)), (HG102.out.2.new (bc103))⟩)
        clear bc103
        try dsimp only
        refine hK.out _ _ HG104.out.1 (fun hHeld => ?_)
        clear hK K
        try simp only [Act.put, List.setIfInBounds_toArray, List.set_cons_zero, List.set_cons_succ]
        refine wpAnyH_take (i := 10) (oi := { dst := some 42, op := .binOp .add 9 (.tmp 38) (.tmp 41) 9, type := 9, pos := "law.go:122", after := #[{ on := 6, ground := .data }, { on := 9, ground := .data }], guard := none }) (v := ?_) rfl (by kernel_rfl) (by kernel_rfl) (by kernel_rfl) (fun _ _ _ h => h) (Or.inl ⟨by rfl, ?_⟩) HG104.out.1 ?_
        rotate_left 1
        · intro w hw; obtain s0 := hw; go_simp; rw [if_neg (by obtain ⟨k1, k2⟩ := HSz.out; simp; omega)]
        simp only [Act.put, List.setIfInBounds_toArray, List.set_cons_zero, List.set_cons_succ]
        refine wpAnyH_take (i := 11) (oi := { dst := some 43, op := .binOp .add 9 (.tmp 42) (.const (.string { data := #[32] })) 9, type := 9, pos := "law.go:122", after := #[{ on := 10, ground := .data }], guard := none }) (v := ?_) rfl (by kernel_rfl) (by kernel_rfl) (by kernel_rfl) (fun _ _ _ h => h) (Or.inl ⟨by rfl, ?_⟩) HG104.out.1 ?_
        rotate_left 1
        · intro w hw; obtain s0 := hw; go_simp; rw [if_neg (by obtain ⟨k1, k2⟩ := HSz.out; simp; omega)]
        simp only [Act.put, List.setIfInBounds_toArray, List.set_cons_zero, List.set_cons_succ]
        refine wpAnyH_take (i := 13) (oi := { dst := some 45, op := .binOp .add 9 (.tmp 43) (.tmp 44) 9, type := 9, pos := "law.go:122", after := #[{ on := 11, ground := .data }, { on := 12, ground := .data }], guard := none }) (v := ?_) rfl (by kernel_rfl) (by kernel_rfl) (by kernel_rfl) (fun _ _ _ h => h) (Or.inl ⟨by rfl, ?_⟩) HG104.out.1 ?_
        rotate_left 1
        · intro w hw; obtain s0 := hw; go_simp; rw [if_neg (by obtain ⟨k1, k2⟩ := HSz.out; simp; omega)]
        simp only [Act.put, List.setIfInBounds_toArray, List.set_cons_zero, List.set_cons_succ]
        refine wpAnyH_take (i := 14) (oi := { dst := some 3, op := .assign (.tmp 45), type := 9, pos := "law.go:122", after := #[{ on := 13, ground := .data }, { on := 9, ground := .chain }, { on := 0, ground := .phase }, { on := 1, ground := .phase }, { on := 2, ground := .phase }, { on := 3, ground := .phase }, { on := 4, ground := .phase }, { on := 5, ground := .phase }, { on := 6, ground := .phase }, { on := 7, ground := .phase }, { on := 8, ground := .phase }, { on := 9, ground := .phase }, { on := 10, ground := .phase }, { on := 11, ground := .phase }, { on := 12, ground := .phase }, { on := 13, ground := .phase }], guard := none }) (v := ?_) rfl (by kernel_rfl) (by kernel_rfl) (by kernel_rfl) (fun _ _ _ h => h) (Or.inl ⟨by rfl, ?_⟩) HG104.out.1 ?_
        rotate_left 1
        · intro w hw; obtain s0 := hw; go_simp; try (with_reducible rfl)
        simp only [Act.put, List.setIfInBounds_toArray, List.set_cons_zero, List.set_cons_succ]
        refine wpAnyH_done (by kernel_rfl) ?_ _
        obtain ⟨q0, q1, q2, q3⟩ := HX.out _ (HG104.out.1)
        have HBe := Lib.hid (HB0.out.trans ((HG104.out.1).mono HB0.out.size))
        rw [HR.out]
        go_wp2_with (first
            | (go_at_call 28; refine (HLn.out wg103 HBe.out).mono ?_; rintro e w3 ⟨rfl, b3⟩; have H3 := Lib.hid (HBe.out.trans (b3.mono HBe.out.size)); clear b3)
            | (go_at_call 26; refine (HAl.out w3 H3.out).mono ?_; rintro e w4 ⟨rfl, b4⟩; have H4 := Lib.hid (H3.out.trans (b4.mono H3.out.size)); clear b4)
            | fail)
        go_ret
        exact ⟨rfl, H4.out⟩
      · go_simp
        go_at_call 29
        refine (HRt.out _).mono ?_
        rintro e wg105 ⟨rfl, bc105⟩
        have HG106 := Lib.hid (show Below W1.heap.size W1 wg105 ∧ RowAt wg105 bS 9 #[.string ⟨#[114, 101, 115]⟩, .string ⟨#[116, 97, 115, 107]⟩, .string ⟨#[109, 111, 100, 101]⟩, .string ⟨#[113, 117, 101, 117, 101, 115]⟩, .string ⟨#[101, 100, 103, 101]⟩] from ⟨(HG102.out.1.trans ((bc105).mono HG102.out.1.size)), (HG102.out.2.new (bc105))⟩)
        clear bc105
        try dsimp only
        refine hK.out _ _ HG106.out.1 (fun hHeld => ?_)
        clear hK K
        try simp only [Act.put, List.setIfInBounds_toArray, List.set_cons_zero, List.set_cons_succ]
        refine wpAnyH_ready (rs := [5]) (by kernel_rfl) (by simp) (AllReadyH.cons (o := { dst := some 37, op := .load 9 (.tmp 36), type := 9, pos := "law.go:122", after := #[{ on := 4, ground := .data }], guard := none }) rfl (fun K hK => ?_) AllReadyH.nil)
        have k0 := HWd.out _ _ (HG106.out.2)
        go_simp
        refine hK.out _ _ HG106.out.1 (fun hHeld => ?_)
        clear hK K
        try simp only [Act.put, List.setIfInBounds_toArray, List.set_cons_zero, List.set_cons_succ]
        refine wpAnyH_take (i := 6) (oi := { dst := some 38, op := .binOp .add 9 (.tmp 37) (.const (.string { data := #[32] })) 9, type := 9, pos := "law.go:122", after := #[{ on := 5, ground := .data }], guard := none }) (v := ?_) rfl (by kernel_rfl) (by kernel_rfl) (by kernel_rfl) (fun _ _ _ h => h) (Or.inl ⟨by rfl, ?_⟩) HG106.out.1 ?_
        rotate_left 1
        · intro w hw; obtain s0 := hw; go_simp; rw [if_neg (by obtain ⟨k1, k2⟩ := HSz.out; simp; omega)]
        simp only [Act.put, List.setIfInBounds_toArray, List.set_cons_zero, List.set_cons_succ]
        refine wpAnyH_take (i := 10) (oi := { dst := some 42, op := .binOp .add 9 (.tmp 38) (.tmp 41) 9, type := 9, pos := "law.go:122", after := #[{ on := 6, ground := .data }, { on := 9, ground := .data }], guard := none }) (v := ?_) rfl (by kernel_rfl) (by kernel_rfl) (by kernel_rfl) (fun _ _ _ h => h) (Or.inl ⟨by rfl, ?_⟩) HG106.out.1 ?_
        rotate_left 1
        · intro w hw; obtain s0 := hw; go_simp; rw [if_neg (by obtain ⟨k1, k2⟩ := HSz.out; simp; omega)]
        simp only [Act.put, List.setIfInBounds_toArray, List.set_cons_zero, List.set_cons_succ]
        refine wpAnyH_take (i := 11) (oi := { dst := some 43, op := .binOp .add 9 (.tmp 42) (.const (.string { data := #[32] })) 9, type := 9, pos := "law.go:122", after := #[{ on := 10, ground := .data }], guard := none }) (v := ?_) rfl (by kernel_rfl) (by kernel_rfl) (by kernel_rfl) (fun _ _ _ h => h) (Or.inl ⟨by rfl, ?_⟩) HG106.out.1 ?_
        rotate_left 1
        · intro w hw; obtain s0 := hw; go_simp; rw [if_neg (by obtain ⟨k1, k2⟩ := HSz.out; simp; omega)]
        simp only [Act.put, List.setIfInBounds_toArray, List.set_cons_zero, List.set_cons_succ]
        refine wpAnyH_take (i := 13) (oi := { dst := some 45, op := .binOp .add 9 (.tmp 43) (.tmp 44) 9, type := 9, pos := "law.go:122", after := #[{ on := 11, ground := .data }, { on := 12, ground := .data }], guard := none }) (v := ?_) rfl (by kernel_rfl) (by kernel_rfl) (by kernel_rfl) (fun _ _ _ h => h) (Or.inl ⟨by rfl, ?_⟩) HG106.out.1 ?_
        rotate_left 1
        · intro w hw; obtain s0 := hw; go_simp; rw [if_neg (by obtain ⟨k1, k2⟩ := HSz.out; simp; omega)]
        simp only [Act.put, List.setIfInBounds_toArray, List.set_cons_zero, List.set_cons_succ]
        refine wpAnyH_take (i := 14) (oi := { dst := some 3, op := .assign (.tmp 45), type := 9, pos := "law.go:122", after := #[{ on := 13, ground := .data }, { on := 9, ground := .chain }, { on := 0, ground := .phase }, { on := 1, ground := .phase }, { on := 2, ground := .phase }, { on := 3, ground := .phase }, { on := 4, ground := .phase }, { on := 5, ground := .phase }, { on := 6, ground := .phase }, { on := 7, ground := .phase }, { on := 8, ground := .phase }, { on := 9, ground := .phase }, { on := 10, ground := .phase }, { on := 11, ground := .phase }, { on := 12, ground := .phase }, { on := 13, ground := .phase }], guard := none }) (v := ?_) rfl (by kernel_rfl) (by kernel_rfl) (by kernel_rfl) (fun _ _ _ h => h) (Or.inl ⟨by rfl, ?_⟩) HG106.out.1 ?_
        rotate_left 1
        · intro w hw; obtain s0 := hw; go_simp; try (with_reducible rfl)
        simp only [Act.put, List.setIfInBounds_toArray, List.set_cons_zero, List.set_cons_succ]
        refine wpAnyH_done (by kernel_rfl) ?_ _
        obtain ⟨q0, q1, q2, q3⟩ := HX.out _ (HG106.out.1)
        have HBe := Lib.hid (HB0.out.trans ((HG106.out.1).mono HB0.out.size))
        rw [HR.out]
        go_wp2_with (first
            | (go_at_call 28; refine (HLn.out wg105 HBe.out).mono ?_; rintro e w3 ⟨rfl, b3⟩; have H3 := Lib.hid (HBe.out.trans (b3.mono HBe.out.size)); clear b3)
            | (go_at_call 26; refine (HAl.out w3 H3.out).mono ?_; rintro e w4 ⟨rfl, b4⟩; have H4 := Lib.hid (H3.out.trans (b4.mono H3.out.size)); clear b4)
            | fail)
        go_ret
        exact ⟨rfl, H4.out⟩
    · go_simp
      go_at_call 29
      refine (HRt.out _).mono ?_
      rintro e wg107 ⟨rfl, bc107⟩
      have HG108 := Lib.hid (show Below W1.heap.size W1 wg107 from (HG0.out.trans ((bc107).mono HG0.out.size)))
      clear bc107
      try dsimp only
      refine hK.out _ _ HG108.out (fun hHeld => ?_)
      clear hK K
      try simp only [Act.put, List.setIfInBounds_toArray, List.set_cons_zero, List.set_cons_succ]
      refine wpAnyH_ready (rs := [0]) (by kernel_rfl) (by simp) (AllReadyH.cons (o := { dst := some 32, op := .buildSlice 63 5 #[(0, .const (.string { data := #[114, 101, 115] })), (1, .const (.string { data := #[116, 97, 115, 107] })), (2, .const (.string { data := #[109, 111, 100, 101] })), (3, .const (.string { data := #[113, 117, 101, 117, 101, 115] })), (4, .const (.string { data := #[101, 100, 103, 101] }))], type := 63, pos := "law.go:122", after := #[], guard := none }) rfl (fun K hK => ?_) AllReadyH.nil)
      go_simp
      obtain ⟨bS, hbS⟩ : ∃ b, b = (wg107).heap.size := ⟨_, rfl⟩
      rw [← hbS]
      generalize hwg109 : World.alloc _ _ = wg109
      have bwg109 : Below (wg107).heap.size (wg107) wg109 := by rw [← hwg109]; exact (Below.refl _ _).alloc (Nat.le_refl _) _
      have rwg109 : RowAt wg109 bS 9 #[.string ⟨#[114, 101, 115]⟩, .string ⟨#[116, 97, 115, 107]⟩, .string ⟨#[109, 111, 100, 101]⟩, .string ⟨#[113, 117, 101, 117, 101, 115]⟩, .string ⟨#[101, 100, 103, 101]⟩] := by rw [← hwg109, hbS]; exact RowAt.mk _ _ _
      have HG110 := Lib.hid (show Below W1.heap.size W1 wg109 ∧ RowAt wg109 bS 9 #[.string ⟨#[114, 101, 115]⟩, .string ⟨#[116, 97, 115, 107]⟩, .string ⟨#[109, 111, 100, 101]⟩, .string ⟨#[113, 117, 101, 117, 101, 115]⟩, .string ⟨#[101, 100, 103, 101]⟩] from ⟨(HG108.out.trans ((bwg109).mono HG108.out.size)), rwg109⟩)
      clear hwg109 bwg109 rwg109 hbS
      refine hK.out _ _ HG110.out.1 (fun hHeld => ?_)
      clear hK K
      try simp only [Act.put, List.setIfInBounds_toArray, List.set_cons_zero, List.set_cons_succ]
      refine wpAnyH_take (i := 4) (oi := { dst := some 36, op := .indexAddr 63 (.tmp 32) (.tmp 35), type := 0, pos := "law.go:122", after := #[{ on := 0, ground := .data }, { on := 3, ground := .data }], guard := none }) (v := ?_) rfl (by kernel_rfl) (by kernel_rfl) (by kernel_rfl) (fun _ _ _ h => h) (Or.inl ⟨by rfl, ?_⟩) HG110.out.1 ?_
      rotate_left 1
      · intro w hw; obtain s0 := hw; obtain ⟨k0, k1⟩ := HJ.out; go_simp; try (with_reducible rfl)
      simp only [Act.put, List.setIfInBounds_toArray, List.set_cons_zero, List.set_cons_succ]
      refine wpAnyH_ready (rs := [5]) (by kernel_rfl) (by simp) (AllReadyH.cons (o := { dst := some 37, op := .load 9 (.tmp 36), type := 9, pos := "law.go:122", after := #[{ on := 4, ground := .data }], guard := none }) rfl (fun K hK => ?_) AllReadyH.nil)
      have k0 := HWd.out _ _ (HG110.out.2)
      go_simp
      refine hK.out _ _ HG110.out.1 (fun hHeld => ?_)
      clear hK K
      try simp only [Act.put, List.setIfInBounds_toArray, List.set_cons_zero, List.set_cons_succ]
      refine wpAnyH_take (i := 6) (oi := { dst := some 38, op := .binOp .add 9 (.tmp 37) (.const (.string { data := #[32] })) 9, type := 9, pos := "law.go:122", after := #[{ on := 5, ground := .data }], guard := none }) (v := ?_) rfl (by kernel_rfl) (by kernel_rfl) (by kernel_rfl) (fun _ _ _ h => h) (Or.inl ⟨by rfl, ?_⟩) HG110.out.1 ?_
      rotate_left 1
      · intro w hw; obtain s0 := hw; go_simp; rw [if_neg (by obtain ⟨k1, k2⟩ := HSz.out; simp; omega)]
      simp only [Act.put, List.setIfInBounds_toArray, List.set_cons_zero, List.set_cons_succ]
      refine wpAnyH_take (i := 10) (oi := { dst := some 42, op := .binOp .add 9 (.tmp 38) (.tmp 41) 9, type := 9, pos := "law.go:122", after := #[{ on := 6, ground := .data }, { on := 9, ground := .data }], guard := none }) (v := ?_) rfl (by kernel_rfl) (by kernel_rfl) (by kernel_rfl) (fun _ _ _ h => h) (Or.inl ⟨by rfl, ?_⟩) HG110.out.1 ?_
      rotate_left 1
      · intro w hw; obtain s0 := hw; go_simp; rw [if_neg (by obtain ⟨k1, k2⟩ := HSz.out; simp; omega)]
      simp only [Act.put, List.setIfInBounds_toArray, List.set_cons_zero, List.set_cons_succ]
      refine wpAnyH_take (i := 11) (oi := { dst := some 43, op := .binOp .add 9 (.tmp 42) (.const (.string { data := #[32] })) 9, type := 9, pos := "law.go:122", after := #[{ on := 10, ground := .data }], guard := none }) (v := ?_) rfl (by kernel_rfl) (by kernel_rfl) (by kernel_rfl) (fun _ _ _ h => h) (Or.inl ⟨by rfl, ?_⟩) HG110.out.1 ?_
      rotate_left 1
      · intro w hw; obtain s0 := hw; go_simp; rw [if_neg (by obtain ⟨k1, k2⟩ := HSz.out; simp; omega)]
      simp only [Act.put, List.setIfInBounds_toArray, List.set_cons_zero, List.set_cons_succ]
      refine wpAnyH_take (i := 13) (oi := { dst := some 45, op := .binOp .add 9 (.tmp 43) (.tmp 44) 9, type := 9, pos := "law.go:122", after := #[{ on := 11, ground := .data }, { on := 12, ground := .data }], guard := none }) (v := ?_) rfl (by kernel_rfl) (by kernel_rfl) (by kernel_rfl) (fun _ _ _ h => h) (Or.inl ⟨by rfl, ?_⟩) HG110.out.1 ?_
      rotate_left 1
      · intro w hw; obtain s0 := hw; go_simp; rw [if_neg (by obtain ⟨k1, k2⟩ := HSz.out; simp; omega)]
      simp only [Act.put, List.setIfInBounds_toArray, List.set_cons_zero, List.set_cons_succ]
      refine wpAnyH_take (i := 14) (oi := { dst := some 3, op := .assign (.tmp 45), type := 9, pos := "law.go:122", after := #[{ on := 13, ground := .data }, { on := 9, ground := .chain }, { on := 0, ground := .phase }, { on := 1, ground := .phase }, { on := 2, ground := .phase }, { on := 3, ground := .phase }, { on := 4, ground := .phase }, { on := 5, ground := .phase }, { on := 6, ground := .phase }, { on := 7, ground := .phase }, { on := 8, ground := .phase }, { on := 9, ground := .phase }, { on := 10, ground := .phase }, { on := 11, ground := .phase }, { on := 12, ground := .phase }, { on := 13, ground := .phase }], guard := none }) (v := ?_) rfl (by kernel_rfl) (by kernel_rfl) (by kernel_rfl) (fun _ _ _ h => h) (Or.inl ⟨by rfl, ?_⟩) HG110.out.1 ?_
      rotate_left 1
      · intro w hw; obtain s0 := hw; go_simp; try (with_reducible rfl)
      simp only [Act.put, List.setIfInBounds_toArray, List.set_cons_zero, List.set_cons_succ]
      refine wpAnyH_done (by kernel_rfl) ?_ _
      obtain ⟨q0, q1, q2, q3⟩ := HX.out _ (HG110.out.1)
      have HBe := Lib.hid (HB0.out.trans ((HG110.out.1).mono HB0.out.size))
      rw [HR.out]
      go_wp2_with (first
          | (go_at_call 28; refine (HLn.out wg109 HBe.out).mono ?_; rintro e w3 ⟨rfl, b3⟩; have H3 := Lib.hid (HBe.out.trans (b3.mono HBe.out.size)); clear b3)
          | (go_at_call 26; refine (HAl.out w3 H3.out).mono ?_; rintro e w4 ⟨rfl, b4⟩; have H4 := Lib.hid (H3.out.trans (b4.mono H3.out.size)); clear b4)
          | fail)
      go_ret
      exact ⟨rfl, H4.out⟩

  by_cases htruefalse : o = true ∧ n = false
  · obtain ⟨rfl, rfl⟩ := htruefalse
    clear hon
    have hr2 : wb ++ ⟨#[32]⟩ ++ ds ++ ⟨#[32]⟩ ++ ⟨#[103, 111, 110, 101]⟩ = r := hr
    have HR := Lib.hid hr2
    clear hr hr2
    go_enter Tryd.func8, Tryd.ntmps8
    go_upto_region 1 with fail
    rw [← HZ.out]
    clear hZ hW1
    have hj0 : (1 : Int) ≤ (j : Int) + 1 := by omega
    have hj5 : (j : Int) + 1 ≤ 5 := by omega
    go_upto_region 8 with fail
    have HG0 := Lib.hid (show Below W1.heap.size W1 W1.drew from below_dn (Below.refl _ _) 1)
    obtain ⟨wd, hwd⟩ : ∃ wd, W1.drew = wd := ⟨_, rfl⟩
    rw [hwd] at HG0
    refine wp_region_held_drew (S := fun w' => Below W1.heap.size W1 w') (by kernel_rfl) (by rw [hwd]; exact HG0.out) (fun hS => ?_)
    rw [hwd] at hS ⊢
    clear hwd
    refine wpAnyH_take (i := 1) (oi := { dst := some 33, op := .fieldAddr 57 (.tmp 1) 0, type := 0, pos := "law.go:122", after := #[], guard := none }) (v := ?_) rfl (by kernel_rfl) (by kernel_rfl) (by kernel_rfl) (fun _ _ _ h => h) (Or.inl ⟨by rfl, ?_⟩) hS ?_
    rotate_left 1
    · intro w hw; obtain s0 := hw; go_simp; try (with_reducible rfl)
    simp only [Act.put, List.setIfInBounds_toArray, List.set_cons_zero, List.set_cons_succ]
    refine wpAnyH_take (i := 2) (oi := { dst := some 34, op := .load 55 (.tmp 33), type := 55, pos := "law.go:122", after := #[{ on := 1, ground := .data }], guard := none }) (v := ?_) rfl (by kernel_rfl) (by kernel_rfl) (by kernel_rfl) (fun _ _ _ h => h) (Or.inl ⟨by rfl, ?_⟩) hS ?_
    rotate_left 1
    · intro w hw; obtain s0 := hw; obtain ⟨k0, k1, -⟩ := HX.out _ hw; go_simp; try (with_reducible rfl)
    simp only [Act.put, List.setIfInBounds_toArray, List.set_cons_zero, List.set_cons_succ]
    refine wpAnyH_take (i := 3) (oi := { dst := some 35, op := .binOp .sub 3 (.tmp 34) (.const (.int .i64 1)) 3, type := 3, pos := "law.go:122", after := #[{ on := 2, ground := .data }], guard := none }) (v := (.int .i64 (j : Nat))) rfl (by kernel_rfl) (by kernel_rfl) (by kernel_rfl) (fun _ _ _ h => h) (Or.inl ⟨by rfl, ?_⟩) hS ?_
    · intro w hw; obtain s0 := hw; obtain ⟨k0, k1⟩ := HJ.out; go_simp; exact wrap_small (by omega)
    simp only [Act.put, List.setIfInBounds_toArray, List.set_cons_zero, List.set_cons_succ]
    refine wpAnyH_take (i := 7) (oi := { dst := some 39, op := .fieldAddr 57 (.tmp 1) 1, type := 0, pos := "law.go:122", after := #[], guard := none }) (v := ?_) rfl (by kernel_rfl) (by kernel_rfl) (by kernel_rfl) (fun _ _ _ h => h) (Or.inl ⟨by rfl, ?_⟩) hS ?_
    rotate_left 1
    · intro w hw; obtain s0 := hw; go_simp; try (with_reducible rfl)
    simp only [Act.put, List.setIfInBounds_toArray, List.set_cons_zero, List.set_cons_succ]
    refine wpAnyH_take (i := 8) (oi := { dst := some 40, op := .load 3 (.tmp 39), type := 3, pos := "law.go:122", after := #[{ on := 7, ground := .data }], guard := none }) (v := ?_) rfl (by kernel_rfl) (by kernel_rfl) (by kernel_rfl) (fun _ _ _ h => h) (Or.inl ⟨by rfl, ?_⟩) hS ?_
    rotate_left 1
    · intro w hw; obtain s0 := hw; obtain ⟨k0, k1, -⟩ := HX.out _ hw; go_simp; try (with_reducible rfl)
    simp only [Act.put, List.setIfInBounds_toArray, List.set_cons_zero, List.set_cons_succ]
    refine wpAnyH_take (i := 12) (oi := { dst := some 44, op := .move (.tmp 4), type := 9, pos := "law.go:122", after := #[], guard := none }) (v := ?_) rfl (by kernel_rfl) (by kernel_rfl) (by kernel_rfl) (fun _ _ _ h => h) (Or.inl ⟨by rfl, ?_⟩) hS ?_
    rotate_left 1
    · intro w hw; obtain s0 := hw; go_simp; try (with_reducible rfl)
    simp only [Act.put, List.setIfInBounds_toArray, List.set_cons_zero, List.set_cons_succ]
    refine wpAnyH_ready (rs := [0, 9]) (by kernel_rfl) (by simp) (AllReadyH.cons (o := { dst := some 32, op := .buildSlice 63 5 #[(0, .const (.string { data := #[114, 101, 115] })), (1, .const (.string { data := #[116, 97, 115, 107] })), (2, .const (.string { data := #[109, 111, 100, 101] })), (3, .const (.string { data := #[113, 117, 101, 117, 101, 115] })), (4, .const (.string { data := #[101, 100, 103, 101] }))], type := 63, pos := "law.go:122", after := #[], guard := none }) rfl (fun K hK => ?_) (AllReadyH.cons (o := { dst := some 41, op := .call { callee := .value (.func 29), args := #[.tmp 40], argTypes := #[3] }, type := 9, pos := "law.go:122", after := #[{ on := 8, ground := .data }], guard := none }) rfl (fun K hK => ?_) AllReadyH.nil))
    · go_simp
      obtain ⟨bS, hbS⟩ : ∃ b, b = (wd).heap.size := ⟨_, rfl⟩
      rw [← hbS]
      generalize hwg111 : World.alloc _ _ = wg111
      have bwg111 : Below (wd).heap.size (wd) wg111 := by rw [← hwg111]; exact (Below.refl _ _).alloc (Nat.le_refl _) _
      have rwg111 : RowAt wg111 bS 9 #[.string ⟨#[114, 101, 115]⟩, .string ⟨#[116, 97, 115, 107]⟩, .string ⟨#[109, 111, 100, 101]⟩, .string ⟨#[113, 117, 101, 117, 101, 115]⟩, .string ⟨#[101, 100, 103, 101]⟩] := by rw [← hwg111, hbS]; exact RowAt.mk _ _ _
      have HG112 := Lib.hid (show Below W1.heap.size W1 wg111 ∧ RowAt wg111 bS 9 #[.string ⟨#[114, 101, 115]⟩, .string ⟨#[116, 97, 115, 107]⟩, .string ⟨#[109, 111, 100, 101]⟩, .string ⟨#[113, 117, 101, 117, 101, 115]⟩, .string ⟨#[101, 100, 103, 101]⟩] from ⟨(HG0.out.trans ((bwg111).mono HG0.out.size)), rwg111⟩)
      clear hwg111 bwg111 rwg111 hbS
      refine hK.out _ _ HG112.out.1 (fun hHeld => ?_)
      clear hK K
      try simp only [Act.put, List.setIfInBounds_toArray, List.set_cons_zero, List.set_cons_succ]
      refine wpAnyH_take (i := 4) (oi := { dst := some 36, op := .indexAddr 63 (.tmp 32) (.tmp 35), type := 0, pos := "law.go:122", after := #[{ on := 0, ground := .data }, { on := 3, ground := .data }], guard := none }) (v := ?_) rfl (by kernel_rfl) (by kernel_rfl) (by kernel_rfl) (fun _ _ _ h => h) (Or.inl ⟨by rfl, ?_⟩) HG112.out.1 ?_
      rotate_left 1
      · intro w hw; obtain s0 := hw; obtain ⟨k0, k1⟩ := HJ.out; go_simp; try (with_reducible rfl)
      simp only [Act.put, List.setIfInBounds_toArray, List.set_cons_zero, List.set_cons_succ]
      refine wpAnyH_ready (rs := [5, 9]) (by kernel_rfl) (by simp) (AllReadyH.cons (o := { dst := some 37, op := .load 9 (.tmp 36), type := 9, pos := "law.go:122", after := #[{ on := 4, ground := .data }], guard := none }) rfl (fun K hK => ?_) (AllReadyH.cons (o := { dst := some 41, op := .call { callee := .value (.func 29), args := #[.tmp 40], argTypes := #[3] }, type := 9, pos := "law.go:122", after := #[{ on := 8, ground := .data }], guard := none }) rfl (fun K hK => ?_) AllReadyH.nil))
      · have k0 := HWd.out _ _ (HG112.out.2)
        go_simp
        refine hK.out _ _ HG112.out.1 (fun hHeld => ?_)
        clear hK K
        try simp only [Act.put, List.setIfInBounds_toArray, List.set_cons_zero, List.set_cons_succ]
        refine wpAnyH_take (i := 6) (oi := { dst := some 38, op := .binOp .add 9 (.tmp 37) (.const (.string { data := #[32] })) 9, type := 9, pos := "law.go:122", after := #[{ on := 5, ground := .data }], guard := none }) (v := ?_) rfl (by kernel_rfl) (by kernel_rfl) (by kernel_rfl) (fun _ _ _ h => h) (Or.inl ⟨by rfl, ?_⟩) HG112.out.1 ?_
        rotate_left 1
        · intro w hw; obtain s0 := hw; go_simp; rw [if_neg (by obtain ⟨k1, k2⟩ := HSz.out; simp; omega)]
        simp only [Act.put, List.setIfInBounds_toArray, List.set_cons_zero, List.set_cons_succ]
        refine wpAnyH_ready (rs := [9]) (by kernel_rfl) (by simp) (AllReadyH.cons (o := { dst := some 41, op := .call { callee := .value (.func 29), args := #[.tmp 40], argTypes := #[3] }, type := 9, pos := "law.go:122", after := #[{ on := 8, ground := .data }], guard := none }) rfl (fun K hK => ?_) AllReadyH.nil)
        go_simp
        go_at_call 29
        refine (HRt.out _).mono ?_
        rintro e wg113 ⟨rfl, bc113⟩
        have HG114 := Lib.hid (show Below W1.heap.size W1 wg113 ∧ RowAt wg113 bS 9 #[.string ⟨#[114, 101, 115]⟩, .string ⟨#[116, 97, 115, 107]⟩, .string ⟨#[109, 111, 100, 101]⟩, .string ⟨#[113, 117, 101, 117, 101, 115]⟩, .string ⟨#[101, 100, 103, 101]⟩] from ⟨(HG112.out.1.trans ((bc113).mono HG112.out.1.size)), (HG112.out.2.new (bc113))⟩)
        clear bc113
        try dsimp only
        refine hK.out _ _ HG114.out.1 (fun hHeld => ?_)
        clear hK K
        try simp only [Act.put, List.setIfInBounds_toArray, List.set_cons_zero, List.set_cons_succ]
        refine wpAnyH_take (i := 10) (oi := { dst := some 42, op := .binOp .add 9 (.tmp 38) (.tmp 41) 9, type := 9, pos := "law.go:122", after := #[{ on := 6, ground := .data }, { on := 9, ground := .data }], guard := none }) (v := ?_) rfl (by kernel_rfl) (by kernel_rfl) (by kernel_rfl) (fun _ _ _ h => h) (Or.inl ⟨by rfl, ?_⟩) HG114.out.1 ?_
        rotate_left 1
        · intro w hw; obtain s0 := hw; go_simp; rw [if_neg (by obtain ⟨k1, k2⟩ := HSz.out; simp; omega)]
        simp only [Act.put, List.setIfInBounds_toArray, List.set_cons_zero, List.set_cons_succ]
        refine wpAnyH_take (i := 11) (oi := { dst := some 43, op := .binOp .add 9 (.tmp 42) (.const (.string { data := #[32] })) 9, type := 9, pos := "law.go:122", after := #[{ on := 10, ground := .data }], guard := none }) (v := ?_) rfl (by kernel_rfl) (by kernel_rfl) (by kernel_rfl) (fun _ _ _ h => h) (Or.inl ⟨by rfl, ?_⟩) HG114.out.1 ?_
        rotate_left 1
        · intro w hw; obtain s0 := hw; go_simp; rw [if_neg (by obtain ⟨k1, k2⟩ := HSz.out; simp; omega)]
        simp only [Act.put, List.setIfInBounds_toArray, List.set_cons_zero, List.set_cons_succ]
        refine wpAnyH_take (i := 13) (oi := { dst := some 45, op := .binOp .add 9 (.tmp 43) (.tmp 44) 9, type := 9, pos := "law.go:122", after := #[{ on := 11, ground := .data }, { on := 12, ground := .data }], guard := none }) (v := ?_) rfl (by kernel_rfl) (by kernel_rfl) (by kernel_rfl) (fun _ _ _ h => h) (Or.inl ⟨by rfl, ?_⟩) HG114.out.1 ?_
        rotate_left 1
        · intro w hw; obtain s0 := hw; go_simp; rw [if_neg (by obtain ⟨k1, k2⟩ := HSz.out; simp; omega)]
        simp only [Act.put, List.setIfInBounds_toArray, List.set_cons_zero, List.set_cons_succ]
        refine wpAnyH_take (i := 14) (oi := { dst := some 3, op := .assign (.tmp 45), type := 9, pos := "law.go:122", after := #[{ on := 13, ground := .data }, { on := 9, ground := .chain }, { on := 0, ground := .phase }, { on := 1, ground := .phase }, { on := 2, ground := .phase }, { on := 3, ground := .phase }, { on := 4, ground := .phase }, { on := 5, ground := .phase }, { on := 6, ground := .phase }, { on := 7, ground := .phase }, { on := 8, ground := .phase }, { on := 9, ground := .phase }, { on := 10, ground := .phase }, { on := 11, ground := .phase }, { on := 12, ground := .phase }, { on := 13, ground := .phase }], guard := none }) (v := ?_) rfl (by kernel_rfl) (by kernel_rfl) (by kernel_rfl) (fun _ _ _ h => h) (Or.inl ⟨by rfl, ?_⟩) HG114.out.1 ?_
        rotate_left 1
        · intro w hw; obtain s0 := hw; go_simp; try (with_reducible rfl)
        simp only [Act.put, List.setIfInBounds_toArray, List.set_cons_zero, List.set_cons_succ]
        refine wpAnyH_done (by kernel_rfl) ?_ _
        obtain ⟨q0, q1, q2, q3⟩ := HX.out _ (HG114.out.1)
        have HBe := Lib.hid (HB0.out.trans ((HG114.out.1).mono HB0.out.size))
        rw [HR.out]
        go_wp2_with (first
            | (go_at_call 28; refine (HLn.out wg113 HBe.out).mono ?_; rintro e w3 ⟨rfl, b3⟩; have H3 := Lib.hid (HBe.out.trans (b3.mono HBe.out.size)); clear b3)
            | (go_at_call 26; refine (HAl.out w3 H3.out).mono ?_; rintro e w4 ⟨rfl, b4⟩; have H4 := Lib.hid (H3.out.trans (b4.mono H3.out.size)); clear b4)
            | fail)
        go_ret
        exact ⟨rfl, H4.out⟩
      · go_simp
        go_at_call 29
        refine (HRt.out _).mono ?_
        rintro e wg115 ⟨rfl, bc115⟩
        have HG116 := Lib.hid (show Below W1.heap.size W1 wg115 ∧ RowAt wg115 bS 9 #[.string ⟨#[114, 101, 115]⟩, .string ⟨#[116, 97, 115, 107]⟩, .string ⟨#[109, 111, 100, 101]⟩, .string ⟨#[113, 117, 101, 117, 101, 115]⟩, .string ⟨#[101, 100, 103, 101]⟩] from ⟨(HG112.out.1.trans ((bc115).mono HG112.out.1.size)), (HG112.out.2.new (bc115))⟩)
        clear bc115
        try dsimp only
        refine hK.out _ _ HG116.out.1 (fun hHeld => ?_)
        clear hK K
        try simp only [Act.put, List.setIfInBounds_toArray, List.set_cons_zero, List.set_cons_succ]
        refine wpAnyH_ready (rs := [5]) (by kernel_rfl) (by simp) (AllReadyH.cons (o := { dst := some 37, op := .load 9 (.tmp 36), type := 9, pos := "law.go:122", after := #[{ on := 4, ground := .data }], guard := none }) rfl (fun K hK => ?_) AllReadyH.nil)
        have k0 := HWd.out _ _ (HG116.out.2)
        go_simp
        refine hK.out _ _ HG116.out.1 (fun hHeld => ?_)
        clear hK K
        try simp only [Act.put, List.setIfInBounds_toArray, List.set_cons_zero, List.set_cons_succ]
        refine wpAnyH_take (i := 6) (oi := { dst := some 38, op := .binOp .add 9 (.tmp 37) (.const (.string { data := #[32] })) 9, type := 9, pos := "law.go:122", after := #[{ on := 5, ground := .data }], guard := none }) (v := ?_) rfl (by kernel_rfl) (by kernel_rfl) (by kernel_rfl) (fun _ _ _ h => h) (Or.inl ⟨by rfl, ?_⟩) HG116.out.1 ?_
        rotate_left 1
        · intro w hw; obtain s0 := hw; go_simp; rw [if_neg (by obtain ⟨k1, k2⟩ := HSz.out; simp; omega)]
        simp only [Act.put, List.setIfInBounds_toArray, List.set_cons_zero, List.set_cons_succ]
        refine wpAnyH_take (i := 10) (oi := { dst := some 42, op := .binOp .add 9 (.tmp 38) (.tmp 41) 9, type := 9, pos := "law.go:122", after := #[{ on := 6, ground := .data }, { on := 9, ground := .data }], guard := none }) (v := ?_) rfl (by kernel_rfl) (by kernel_rfl) (by kernel_rfl) (fun _ _ _ h => h) (Or.inl ⟨by rfl, ?_⟩) HG116.out.1 ?_
        rotate_left 1
        · intro w hw; obtain s0 := hw; go_simp; rw [if_neg (by obtain ⟨k1, k2⟩ := HSz.out; simp; omega)]
        simp only [Act.put, List.setIfInBounds_toArray, List.set_cons_zero, List.set_cons_succ]
        refine wpAnyH_take (i := 11) (oi := { dst := some 43, op := .binOp .add 9 (.tmp 42) (.const (.string { data := #[32] })) 9, type := 9, pos := "law.go:122", after := #[{ on := 10, ground := .data }], guard := none }) (v := ?_) rfl (by kernel_rfl) (by kernel_rfl) (by kernel_rfl) (fun _ _ _ h => h) (Or.inl ⟨by rfl, ?_⟩) HG116.out.1 ?_
        rotate_left 1
        · intro w hw; obtain s0 := hw; go_simp; rw [if_neg (by obtain ⟨k1, k2⟩ := HSz.out; simp; omega)]
        simp only [Act.put, List.setIfInBounds_toArray, List.set_cons_zero, List.set_cons_succ]
        refine wpAnyH_take (i := 13) (oi := { dst := some 45, op := .binOp .add 9 (.tmp 43) (.tmp 44) 9, type := 9, pos := "law.go:122", after := #[{ on := 11, ground := .data }, { on := 12, ground := .data }], guard := none }) (v := ?_) rfl (by kernel_rfl) (by kernel_rfl) (by kernel_rfl) (fun _ _ _ h => h) (Or.inl ⟨by rfl, ?_⟩) HG116.out.1 ?_
        rotate_left 1
        · intro w hw; obtain s0 := hw; go_simp; rw [if_neg (by obtain ⟨k1, k2⟩ := HSz.out; simp; omega)]
        simp only [Act.put, List.setIfInBounds_toArray, List.set_cons_zero, List.set_cons_succ]
        refine wpAnyH_take (i := 14) (oi := { dst := some 3, op := .assign (.tmp 45), type := 9, pos := "law.go:122", after := #[{ on := 13, ground := .data }, { on := 9, ground := .chain }, { on := 0, ground := .phase }, { on := 1, ground := .phase }, { on := 2, ground := .phase }, { on := 3, ground := .phase }, { on := 4, ground := .phase }, { on := 5, ground := .phase }, { on := 6, ground := .phase }, { on := 7, ground := .phase }, { on := 8, ground := .phase }, { on := 9, ground := .phase }, { on := 10, ground := .phase }, { on := 11, ground := .phase }, { on := 12, ground := .phase }, { on := 13, ground := .phase }], guard := none }) (v := ?_) rfl (by kernel_rfl) (by kernel_rfl) (by kernel_rfl) (fun _ _ _ h => h) (Or.inl ⟨by rfl, ?_⟩) HG116.out.1 ?_
        rotate_left 1
        · intro w hw; obtain s0 := hw; go_simp; try (with_reducible rfl)
        simp only [Act.put, List.setIfInBounds_toArray, List.set_cons_zero, List.set_cons_succ]
        refine wpAnyH_done (by kernel_rfl) ?_ _
        obtain ⟨q0, q1, q2, q3⟩ := HX.out _ (HG116.out.1)
        have HBe := Lib.hid (HB0.out.trans ((HG116.out.1).mono HB0.out.size))
        rw [HR.out]
        go_wp2_with (first
            | (go_at_call 28; refine (HLn.out wg115 HBe.out).mono ?_; rintro e w3 ⟨rfl, b3⟩; have H3 := Lib.hid (HBe.out.trans (b3.mono HBe.out.size)); clear b3)
            | (go_at_call 26; refine (HAl.out w3 H3.out).mono ?_; rintro e w4 ⟨rfl, b4⟩; have H4 := Lib.hid (H3.out.trans (b4.mono H3.out.size)); clear b4)
            | fail)
        go_ret
        exact ⟨rfl, H4.out⟩
    · go_simp
      go_at_call 29
      refine (HRt.out _).mono ?_
      rintro e wg117 ⟨rfl, bc117⟩
      have HG118 := Lib.hid (show Below W1.heap.size W1 wg117 from (HG0.out.trans ((bc117).mono HG0.out.size)))
      clear bc117
      try dsimp only
      refine hK.out _ _ HG118.out (fun hHeld => ?_)
      clear hK K
      try simp only [Act.put, List.setIfInBounds_toArray, List.set_cons_zero, List.set_cons_succ]
      refine wpAnyH_ready (rs := [0]) (by kernel_rfl) (by simp) (AllReadyH.cons (o := { dst := some 32, op := .buildSlice 63 5 #[(0, .const (.string { data := #[114, 101, 115] })), (1, .const (.string { data := #[116, 97, 115, 107] })), (2, .const (.string { data := #[109, 111, 100, 101] })), (3, .const (.string { data := #[113, 117, 101, 117, 101, 115] })), (4, .const (.string { data := #[101, 100, 103, 101] }))], type := 63, pos := "law.go:122", after := #[], guard := none }) rfl (fun K hK => ?_) AllReadyH.nil)
      go_simp
      obtain ⟨bS, hbS⟩ : ∃ b, b = (wg117).heap.size := ⟨_, rfl⟩
      rw [← hbS]
      generalize hwg119 : World.alloc _ _ = wg119
      have bwg119 : Below (wg117).heap.size (wg117) wg119 := by rw [← hwg119]; exact (Below.refl _ _).alloc (Nat.le_refl _) _
      have rwg119 : RowAt wg119 bS 9 #[.string ⟨#[114, 101, 115]⟩, .string ⟨#[116, 97, 115, 107]⟩, .string ⟨#[109, 111, 100, 101]⟩, .string ⟨#[113, 117, 101, 117, 101, 115]⟩, .string ⟨#[101, 100, 103, 101]⟩] := by rw [← hwg119, hbS]; exact RowAt.mk _ _ _
      have HG120 := Lib.hid (show Below W1.heap.size W1 wg119 ∧ RowAt wg119 bS 9 #[.string ⟨#[114, 101, 115]⟩, .string ⟨#[116, 97, 115, 107]⟩, .string ⟨#[109, 111, 100, 101]⟩, .string ⟨#[113, 117, 101, 117, 101, 115]⟩, .string ⟨#[101, 100, 103, 101]⟩] from ⟨(HG118.out.trans ((bwg119).mono HG118.out.size)), rwg119⟩)
      clear hwg119 bwg119 rwg119 hbS
      refine hK.out _ _ HG120.out.1 (fun hHeld => ?_)
      clear hK K
      try simp only [Act.put, List.setIfInBounds_toArray, List.set_cons_zero, List.set_cons_succ]
      refine wpAnyH_take (i := 4) (oi := { dst := some 36, op := .indexAddr 63 (.tmp 32) (.tmp 35), type := 0, pos := "law.go:122", after := #[{ on := 0, ground := .data }, { on := 3, ground := .data }], guard := none }) (v := ?_) rfl (by kernel_rfl) (by kernel_rfl) (by kernel_rfl) (fun _ _ _ h => h) (Or.inl ⟨by rfl, ?_⟩) HG120.out.1 ?_
      rotate_left 1
      · intro w hw; obtain s0 := hw; obtain ⟨k0, k1⟩ := HJ.out; go_simp; try (with_reducible rfl)
      simp only [Act.put, List.setIfInBounds_toArray, List.set_cons_zero, List.set_cons_succ]
      refine wpAnyH_ready (rs := [5]) (by kernel_rfl) (by simp) (AllReadyH.cons (o := { dst := some 37, op := .load 9 (.tmp 36), type := 9, pos := "law.go:122", after := #[{ on := 4, ground := .data }], guard := none }) rfl (fun K hK => ?_) AllReadyH.nil)
      have k0 := HWd.out _ _ (HG120.out.2)
      go_simp
      refine hK.out _ _ HG120.out.1 (fun hHeld => ?_)
      clear hK K
      try simp only [Act.put, List.setIfInBounds_toArray, List.set_cons_zero, List.set_cons_succ]
      refine wpAnyH_take (i := 6) (oi := { dst := some 38, op := .binOp .add 9 (.tmp 37) (.const (.string { data := #[32] })) 9, type := 9, pos := "law.go:122", after := #[{ on := 5, ground := .data }], guard := none }) (v := ?_) rfl (by kernel_rfl) (by kernel_rfl) (by kernel_rfl) (fun _ _ _ h => h) (Or.inl ⟨by rfl, ?_⟩) HG120.out.1 ?_
      rotate_left 1
      · intro w hw; obtain s0 := hw; go_simp; rw [if_neg (by obtain ⟨k1, k2⟩ := HSz.out; simp; omega)]
      simp only [Act.put, List.setIfInBounds_toArray, List.set_cons_zero, List.set_cons_succ]
      refine wpAnyH_take (i := 10) (oi := { dst := some 42, op := .binOp .add 9 (.tmp 38) (.tmp 41) 9, type := 9, pos := "law.go:122", after := #[{ on := 6, ground := .data }, { on := 9, ground := .data }], guard := none }) (v := ?_) rfl (by kernel_rfl) (by kernel_rfl) (by kernel_rfl) (fun _ _ _ h => h) (Or.inl ⟨by rfl, ?_⟩) HG120.out.1 ?_
      rotate_left 1
      · intro w hw; obtain s0 := hw; go_simp; rw [if_neg (by obtain ⟨k1, k2⟩ := HSz.out; simp; omega)]
      simp only [Act.put, List.setIfInBounds_toArray, List.set_cons_zero, List.set_cons_succ]
      refine wpAnyH_take (i := 11) (oi := { dst := some 43, op := .binOp .add 9 (.tmp 42) (.const (.string { data := #[32] })) 9, type := 9, pos := "law.go:122", after := #[{ on := 10, ground := .data }], guard := none }) (v := ?_) rfl (by kernel_rfl) (by kernel_rfl) (by kernel_rfl) (fun _ _ _ h => h) (Or.inl ⟨by rfl, ?_⟩) HG120.out.1 ?_
      rotate_left 1
      · intro w hw; obtain s0 := hw; go_simp; rw [if_neg (by obtain ⟨k1, k2⟩ := HSz.out; simp; omega)]
      simp only [Act.put, List.setIfInBounds_toArray, List.set_cons_zero, List.set_cons_succ]
      refine wpAnyH_take (i := 13) (oi := { dst := some 45, op := .binOp .add 9 (.tmp 43) (.tmp 44) 9, type := 9, pos := "law.go:122", after := #[{ on := 11, ground := .data }, { on := 12, ground := .data }], guard := none }) (v := ?_) rfl (by kernel_rfl) (by kernel_rfl) (by kernel_rfl) (fun _ _ _ h => h) (Or.inl ⟨by rfl, ?_⟩) HG120.out.1 ?_
      rotate_left 1
      · intro w hw; obtain s0 := hw; go_simp; rw [if_neg (by obtain ⟨k1, k2⟩ := HSz.out; simp; omega)]
      simp only [Act.put, List.setIfInBounds_toArray, List.set_cons_zero, List.set_cons_succ]
      refine wpAnyH_take (i := 14) (oi := { dst := some 3, op := .assign (.tmp 45), type := 9, pos := "law.go:122", after := #[{ on := 13, ground := .data }, { on := 9, ground := .chain }, { on := 0, ground := .phase }, { on := 1, ground := .phase }, { on := 2, ground := .phase }, { on := 3, ground := .phase }, { on := 4, ground := .phase }, { on := 5, ground := .phase }, { on := 6, ground := .phase }, { on := 7, ground := .phase }, { on := 8, ground := .phase }, { on := 9, ground := .phase }, { on := 10, ground := .phase }, { on := 11, ground := .phase }, { on := 12, ground := .phase }, { on := 13, ground := .phase }], guard := none }) (v := ?_) rfl (by kernel_rfl) (by kernel_rfl) (by kernel_rfl) (fun _ _ _ h => h) (Or.inl ⟨by rfl, ?_⟩) HG120.out.1 ?_
      rotate_left 1
      · intro w hw; obtain s0 := hw; go_simp; try (with_reducible rfl)
      simp only [Act.put, List.setIfInBounds_toArray, List.set_cons_zero, List.set_cons_succ]
      refine wpAnyH_done (by kernel_rfl) ?_ _
      obtain ⟨q0, q1, q2, q3⟩ := HX.out _ (HG120.out.1)
      have HBe := Lib.hid (HB0.out.trans ((HG120.out.1).mono HB0.out.size))
      rw [HR.out]
      go_wp2_with (first
          | (go_at_call 28; refine (HLn.out wg119 HBe.out).mono ?_; rintro e w3 ⟨rfl, b3⟩; have H3 := Lib.hid (HBe.out.trans (b3.mono HBe.out.size)); clear b3)
          | (go_at_call 26; refine (HAl.out w3 H3.out).mono ?_; rintro e w4 ⟨rfl, b4⟩; have H4 := Lib.hid (H3.out.trans (b4.mono H3.out.size)); clear b4)
          | fail)
      go_ret
      exact ⟨rfl, H4.out⟩

  by_cases hfalsetrue : o = false ∧ n = true
  · obtain ⟨rfl, rfl⟩ := hfalsetrue
    clear hon
    have hr2 : wb ++ ⟨#[32]⟩ ++ ds ++ ⟨#[32]⟩ ++ ⟨#[110, 101, 119]⟩ = r := hr
    have HR := Lib.hid hr2
    clear hr hr2
    go_enter Tryd.func8, Tryd.ntmps8
    go_upto_region 1 with fail
    rw [← HZ.out]
    clear hZ hW1
    have hj0 : (1 : Int) ≤ (j : Int) + 1 := by omega
    have hj5 : (j : Int) + 1 ≤ 5 := by omega
    go_upto_region 8 with fail
    have HG0 := Lib.hid (show Below W1.heap.size W1 W1.drew from below_dn (Below.refl _ _) 1)
    obtain ⟨wd, hwd⟩ : ∃ wd, W1.drew = wd := ⟨_, rfl⟩
    rw [hwd] at HG0
    refine wp_region_held_drew (S := fun w' => Below W1.heap.size W1 w') (by kernel_rfl) (by rw [hwd]; exact HG0.out) (fun hS => ?_)
    rw [hwd] at hS ⊢
    clear hwd
    refine wpAnyH_take (i := 1) (oi := { dst := some 33, op := .fieldAddr 57 (.tmp 1) 0, type := 0, pos := "law.go:122", after := #[], guard := none }) (v := ?_) rfl (by kernel_rfl) (by kernel_rfl) (by kernel_rfl) (fun _ _ _ h => h) (Or.inl ⟨by rfl, ?_⟩) hS ?_
    rotate_left 1
    · intro w hw; obtain s0 := hw; go_simp; try (with_reducible rfl)
    simp only [Act.put, List.setIfInBounds_toArray, List.set_cons_zero, List.set_cons_succ]
    refine wpAnyH_take (i := 2) (oi := { dst := some 34, op := .load 55 (.tmp 33), type := 55, pos := "law.go:122", after := #[{ on := 1, ground := .data }], guard := none }) (v := ?_) rfl (by kernel_rfl) (by kernel_rfl) (by kernel_rfl) (fun _ _ _ h => h) (Or.inl ⟨by rfl, ?_⟩) hS ?_
    rotate_left 1
    · intro w hw; obtain s0 := hw; obtain ⟨k0, k1, -⟩ := HX.out _ hw; go_simp; try (with_reducible rfl)
    simp only [Act.put, List.setIfInBounds_toArray, List.set_cons_zero, List.set_cons_succ]
    refine wpAnyH_take (i := 3) (oi := { dst := some 35, op := .binOp .sub 3 (.tmp 34) (.const (.int .i64 1)) 3, type := 3, pos := "law.go:122", after := #[{ on := 2, ground := .data }], guard := none }) (v := (.int .i64 (j : Nat))) rfl (by kernel_rfl) (by kernel_rfl) (by kernel_rfl) (fun _ _ _ h => h) (Or.inl ⟨by rfl, ?_⟩) hS ?_
    · intro w hw; obtain s0 := hw; obtain ⟨k0, k1⟩ := HJ.out; go_simp; exact wrap_small (by omega)
    simp only [Act.put, List.setIfInBounds_toArray, List.set_cons_zero, List.set_cons_succ]
    refine wpAnyH_take (i := 7) (oi := { dst := some 39, op := .fieldAddr 57 (.tmp 1) 1, type := 0, pos := "law.go:122", after := #[], guard := none }) (v := ?_) rfl (by kernel_rfl) (by kernel_rfl) (by kernel_rfl) (fun _ _ _ h => h) (Or.inl ⟨by rfl, ?_⟩) hS ?_
    rotate_left 1
    · intro w hw; obtain s0 := hw; go_simp; try (with_reducible rfl)
    simp only [Act.put, List.setIfInBounds_toArray, List.set_cons_zero, List.set_cons_succ]
    refine wpAnyH_take (i := 8) (oi := { dst := some 40, op := .load 3 (.tmp 39), type := 3, pos := "law.go:122", after := #[{ on := 7, ground := .data }], guard := none }) (v := ?_) rfl (by kernel_rfl) (by kernel_rfl) (by kernel_rfl) (fun _ _ _ h => h) (Or.inl ⟨by rfl, ?_⟩) hS ?_
    rotate_left 1
    · intro w hw; obtain s0 := hw; obtain ⟨k0, k1, -⟩ := HX.out _ hw; go_simp; try (with_reducible rfl)
    simp only [Act.put, List.setIfInBounds_toArray, List.set_cons_zero, List.set_cons_succ]
    refine wpAnyH_take (i := 12) (oi := { dst := some 44, op := .move (.tmp 4), type := 9, pos := "law.go:122", after := #[], guard := none }) (v := ?_) rfl (by kernel_rfl) (by kernel_rfl) (by kernel_rfl) (fun _ _ _ h => h) (Or.inl ⟨by rfl, ?_⟩) hS ?_
    rotate_left 1
    · intro w hw; obtain s0 := hw; go_simp; try (with_reducible rfl)
    simp only [Act.put, List.setIfInBounds_toArray, List.set_cons_zero, List.set_cons_succ]
    refine wpAnyH_ready (rs := [0, 9]) (by kernel_rfl) (by simp) (AllReadyH.cons (o := { dst := some 32, op := .buildSlice 63 5 #[(0, .const (.string { data := #[114, 101, 115] })), (1, .const (.string { data := #[116, 97, 115, 107] })), (2, .const (.string { data := #[109, 111, 100, 101] })), (3, .const (.string { data := #[113, 117, 101, 117, 101, 115] })), (4, .const (.string { data := #[101, 100, 103, 101] }))], type := 63, pos := "law.go:122", after := #[], guard := none }) rfl (fun K hK => ?_) (AllReadyH.cons (o := { dst := some 41, op := .call { callee := .value (.func 29), args := #[.tmp 40], argTypes := #[3] }, type := 9, pos := "law.go:122", after := #[{ on := 8, ground := .data }], guard := none }) rfl (fun K hK => ?_) AllReadyH.nil))
    · go_simp
      obtain ⟨bS, hbS⟩ : ∃ b, b = (wd).heap.size := ⟨_, rfl⟩
      rw [← hbS]
      generalize hwg121 : World.alloc _ _ = wg121
      have bwg121 : Below (wd).heap.size (wd) wg121 := by rw [← hwg121]; exact (Below.refl _ _).alloc (Nat.le_refl _) _
      have rwg121 : RowAt wg121 bS 9 #[.string ⟨#[114, 101, 115]⟩, .string ⟨#[116, 97, 115, 107]⟩, .string ⟨#[109, 111, 100, 101]⟩, .string ⟨#[113, 117, 101, 117, 101, 115]⟩, .string ⟨#[101, 100, 103, 101]⟩] := by rw [← hwg121, hbS]; exact RowAt.mk _ _ _
      have HG122 := Lib.hid (show Below W1.heap.size W1 wg121 ∧ RowAt wg121 bS 9 #[.string ⟨#[114, 101, 115]⟩, .string ⟨#[116, 97, 115, 107]⟩, .string ⟨#[109, 111, 100, 101]⟩, .string ⟨#[113, 117, 101, 117, 101, 115]⟩, .string ⟨#[101, 100, 103, 101]⟩] from ⟨(HG0.out.trans ((bwg121).mono HG0.out.size)), rwg121⟩)
      clear hwg121 bwg121 rwg121 hbS
      refine hK.out _ _ HG122.out.1 (fun hHeld => ?_)
      clear hK K
      try simp only [Act.put, List.setIfInBounds_toArray, List.set_cons_zero, List.set_cons_succ]
      refine wpAnyH_take (i := 4) (oi := { dst := some 36, op := .indexAddr 63 (.tmp 32) (.tmp 35), type := 0, pos := "law.go:122", after := #[{ on := 0, ground := .data }, { on := 3, ground := .data }], guard := none }) (v := ?_) rfl (by kernel_rfl) (by kernel_rfl) (by kernel_rfl) (fun _ _ _ h => h) (Or.inl ⟨by rfl, ?_⟩) HG122.out.1 ?_
      rotate_left 1
      · intro w hw; obtain s0 := hw; obtain ⟨k0, k1⟩ := HJ.out; go_simp; try (with_reducible rfl)
      simp only [Act.put, List.setIfInBounds_toArray, List.set_cons_zero, List.set_cons_succ]
      refine wpAnyH_ready (rs := [5, 9]) (by kernel_rfl) (by simp) (AllReadyH.cons (o := { dst := some 37, op := .load 9 (.tmp 36), type := 9, pos := "law.go:122", after := #[{ on := 4, ground := .data }], guard := none }) rfl (fun K hK => ?_) (AllReadyH.cons (o := { dst := some 41, op := .call { callee := .value (.func 29), args := #[.tmp 40], argTypes := #[3] }, type := 9, pos := "law.go:122", after := #[{ on := 8, ground := .data }], guard := none }) rfl (fun K hK => ?_) AllReadyH.nil))
      · have k0 := HWd.out _ _ (HG122.out.2)
        go_simp
        refine hK.out _ _ HG122.out.1 (fun hHeld => ?_)
        clear hK K
        try simp only [Act.put, List.setIfInBounds_toArray, List.set_cons_zero, List.set_cons_succ]
        refine wpAnyH_take (i := 6) (oi := { dst := some 38, op := .binOp .add 9 (.tmp 37) (.const (.string { data := #[32] })) 9, type := 9, pos := "law.go:122", after := #[{ on := 5, ground := .data }], guard := none }) (v := ?_) rfl (by kernel_rfl) (by kernel_rfl) (by kernel_rfl) (fun _ _ _ h => h) (Or.inl ⟨by rfl, ?_⟩) HG122.out.1 ?_
        rotate_left 1
        · intro w hw; obtain s0 := hw; go_simp; rw [if_neg (by obtain ⟨k1, k2⟩ := HSz.out; simp; omega)]
        simp only [Act.put, List.setIfInBounds_toArray, List.set_cons_zero, List.set_cons_succ]
        refine wpAnyH_ready (rs := [9]) (by kernel_rfl) (by simp) (AllReadyH.cons (o := { dst := some 41, op := .call { callee := .value (.func 29), args := #[.tmp 40], argTypes := #[3] }, type := 9, pos := "law.go:122", after := #[{ on := 8, ground := .data }], guard := none }) rfl (fun K hK => ?_) AllReadyH.nil)
        go_simp
        go_at_call 29
        refine (HRt.out _).mono ?_
        rintro e wg123 ⟨rfl, bc123⟩
        have HG124 := Lib.hid (show Below W1.heap.size W1 wg123 ∧ RowAt wg123 bS 9 #[.string ⟨#[114, 101, 115]⟩, .string ⟨#[116, 97, 115, 107]⟩, .string ⟨#[109, 111, 100, 101]⟩, .string ⟨#[113, 117, 101, 117, 101, 115]⟩, .string ⟨#[101, 100, 103, 101]⟩] from ⟨(HG122.out.1.trans ((bc123).mono HG122.out.1.size)), (HG122.out.2.new (bc123))⟩)
        clear bc123
        try dsimp only
        refine hK.out _ _ HG124.out.1 (fun hHeld => ?_)
        clear hK K
        try simp only [Act.put, List.setIfInBounds_toArray, List.set_cons_zero, List.set_cons_succ]
        refine wpAnyH_take (i := 10) (oi := { dst := some 42, op := .binOp .add 9 (.tmp 38) (.tmp 41) 9, type := 9, pos := "law.go:122", after := #[{ on := 6, ground := .data }, { on := 9, ground := .data }], guard := none }) (v := ?_) rfl (by kernel_rfl) (by kernel_rfl) (by kernel_rfl) (fun _ _ _ h => h) (Or.inl ⟨by rfl, ?_⟩) HG124.out.1 ?_
        rotate_left 1
        · intro w hw; obtain s0 := hw; go_simp; rw [if_neg (by obtain ⟨k1, k2⟩ := HSz.out; simp; omega)]
        simp only [Act.put, List.setIfInBounds_toArray, List.set_cons_zero, List.set_cons_succ]
        refine wpAnyH_take (i := 11) (oi := { dst := some 43, op := .binOp .add 9 (.tmp 42) (.const (.string { data := #[32] })) 9, type := 9, pos := "law.go:122", after := #[{ on := 10, ground := .data }], guard := none }) (v := ?_) rfl (by kernel_rfl) (by kernel_rfl) (by kernel_rfl) (fun _ _ _ h => h) (Or.inl ⟨by rfl, ?_⟩) HG124.out.1 ?_
        rotate_left 1
        · intro w hw; obtain s0 := hw; go_simp; rw [if_neg (by obtain ⟨k1, k2⟩ := HSz.out; simp; omega)]
        simp only [Act.put, List.setIfInBounds_toArray, List.set_cons_zero, List.set_cons_succ]
        refine wpAnyH_take (i := 13) (oi := { dst := some 45, op := .binOp .add 9 (.tmp 43) (.tmp 44) 9, type := 9, pos := "law.go:122", after := #[{ on := 11, ground := .data }, { on := 12, ground := .data }], guard := none }) (v := ?_) rfl (by kernel_rfl) (by kernel_rfl) (by kernel_rfl) (fun _ _ _ h => h) (Or.inl ⟨by rfl, ?_⟩) HG124.out.1 ?_
        rotate_left 1
        · intro w hw; obtain s0 := hw; go_simp; rw [if_neg (by obtain ⟨k1, k2⟩ := HSz.out; simp; omega)]
        simp only [Act.put, List.setIfInBounds_toArray, List.set_cons_zero, List.set_cons_succ]
        refine wpAnyH_take (i := 14) (oi := { dst := some 3, op := .assign (.tmp 45), type := 9, pos := "law.go:122", after := #[{ on := 13, ground := .data }, { on := 9, ground := .chain }, { on := 0, ground := .phase }, { on := 1, ground := .phase }, { on := 2, ground := .phase }, { on := 3, ground := .phase }, { on := 4, ground := .phase }, { on := 5, ground := .phase }, { on := 6, ground := .phase }, { on := 7, ground := .phase }, { on := 8, ground := .phase }, { on := 9, ground := .phase }, { on := 10, ground := .phase }, { on := 11, ground := .phase }, { on := 12, ground := .phase }, { on := 13, ground := .phase }], guard := none }) (v := ?_) rfl (by kernel_rfl) (by kernel_rfl) (by kernel_rfl) (fun _ _ _ h => h) (Or.inl ⟨by rfl, ?_⟩) HG124.out.1 ?_
        rotate_left 1
        · intro w hw; obtain s0 := hw; go_simp; try (with_reducible rfl)
        simp only [Act.put, List.setIfInBounds_toArray, List.set_cons_zero, List.set_cons_succ]
        refine wpAnyH_done (by kernel_rfl) ?_ _
        obtain ⟨q0, q1, q2, q3⟩ := HX.out _ (HG124.out.1)
        have HBe := Lib.hid (HB0.out.trans ((HG124.out.1).mono HB0.out.size))
        rw [HR.out]
        go_wp2_with (first
            | (go_at_call 28; refine (HLn.out wg123 HBe.out).mono ?_; rintro e w3 ⟨rfl, b3⟩; have H3 := Lib.hid (HBe.out.trans (b3.mono HBe.out.size)); clear b3)
            | (go_at_call 26; refine (HAl.out w3 H3.out).mono ?_; rintro e w4 ⟨rfl, b4⟩; have H4 := Lib.hid (H3.out.trans (b4.mono H3.out.size)); clear b4)
            | fail)
        go_ret
        exact ⟨rfl, H4.out⟩
      · go_simp
        go_at_call 29
        refine (HRt.out _).mono ?_
        rintro e wg125 ⟨rfl, bc125⟩
        have HG126 := Lib.hid (show Below W1.heap.size W1 wg125 ∧ RowAt wg125 bS 9 #[.string ⟨#[114, 101, 115]⟩, .string ⟨#[116, 97, 115, 107]⟩, .string ⟨#[109, 111, 100, 101]⟩, .string ⟨#[113, 117, 101, 117, 101, 115]⟩, .string ⟨#[101, 100, 103, 101]⟩] from ⟨(HG122.out.1.trans ((bc125).mono HG122.out.1.size)), (HG122.out.2.new (bc125))⟩)
        clear bc125
        try dsimp only
        refine hK.out _ _ HG126.out.1 (fun hHeld => ?_)
        clear hK K
        try simp only [Act.put, List.setIfInBounds_toArray, List.set_cons_zero, List.set_cons_succ]
        refine wpAnyH_ready (rs := [5]) (by kernel_rfl) (by simp) (AllReadyH.cons (o := { dst := some 37, op := .load 9 (.tmp 36), type := 9, pos := "law.go:122", after := #[{ on := 4, ground := .data }], guard := none }) rfl (fun K hK => ?_) AllReadyH.nil)
        have k0 := HWd.out _ _ (HG126.out.2)
        go_simp
        refine hK.out _ _ HG126.out.1 (fun hHeld => ?_)
        clear hK K
        try simp only [Act.put, List.setIfInBounds_toArray, List.set_cons_zero, List.set_cons_succ]
        refine wpAnyH_take (i := 6) (oi := { dst := some 38, op := .binOp .add 9 (.tmp 37) (.const (.string { data := #[32] })) 9, type := 9, pos := "law.go:122", after := #[{ on := 5, ground := .data }], guard := none }) (v := ?_) rfl (by kernel_rfl) (by kernel_rfl) (by kernel_rfl) (fun _ _ _ h => h) (Or.inl ⟨by rfl, ?_⟩) HG126.out.1 ?_
        rotate_left 1
        · intro w hw; obtain s0 := hw; go_simp; rw [if_neg (by obtain ⟨k1, k2⟩ := HSz.out; simp; omega)]
        simp only [Act.put, List.setIfInBounds_toArray, List.set_cons_zero, List.set_cons_succ]
        refine wpAnyH_take (i := 10) (oi := { dst := some 42, op := .binOp .add 9 (.tmp 38) (.tmp 41) 9, type := 9, pos := "law.go:122", after := #[{ on := 6, ground := .data }, { on := 9, ground := .data }], guard := none }) (v := ?_) rfl (by kernel_rfl) (by kernel_rfl) (by kernel_rfl) (fun _ _ _ h => h) (Or.inl ⟨by rfl, ?_⟩) HG126.out.1 ?_
        rotate_left 1
        · intro w hw; obtain s0 := hw; go_simp; rw [if_neg (by obtain ⟨k1, k2⟩ := HSz.out; simp; omega)]
        simp only [Act.put, List.setIfInBounds_toArray, List.set_cons_zero, List.set_cons_succ]
        refine wpAnyH_take (i := 11) (oi := { dst := some 43, op := .binOp .add 9 (.tmp 42) (.const (.string { data := #[32] })) 9, type := 9, pos := "law.go:122", after := #[{ on := 10, ground := .data }], guard := none }) (v := ?_) rfl (by kernel_rfl) (by kernel_rfl) (by kernel_rfl) (fun _ _ _ h => h) (Or.inl ⟨by rfl, ?_⟩) HG126.out.1 ?_
        rotate_left 1
        · intro w hw; obtain s0 := hw; go_simp; rw [if_neg (by obtain ⟨k1, k2⟩ := HSz.out; simp; omega)]
        simp only [Act.put, List.setIfInBounds_toArray, List.set_cons_zero, List.set_cons_succ]
        refine wpAnyH_take (i := 13) (oi := { dst := some 45, op := .binOp .add 9 (.tmp 43) (.tmp 44) 9, type := 9, pos := "law.go:122", after := #[{ on := 11, ground := .data }, { on := 12, ground := .data }], guard := none }) (v := ?_) rfl (by kernel_rfl) (by kernel_rfl) (by kernel_rfl) (fun _ _ _ h => h) (Or.inl ⟨by rfl, ?_⟩) HG126.out.1 ?_
        rotate_left 1
        · intro w hw; obtain s0 := hw; go_simp; rw [if_neg (by obtain ⟨k1, k2⟩ := HSz.out; simp; omega)]
        simp only [Act.put, List.setIfInBounds_toArray, List.set_cons_zero, List.set_cons_succ]
        refine wpAnyH_take (i := 14) (oi := { dst := some 3, op := .assign (.tmp 45), type := 9, pos := "law.go:122", after := #[{ on := 13, ground := .data }, { on := 9, ground := .chain }, { on := 0, ground := .phase }, { on := 1, ground := .phase }, { on := 2, ground := .phase }, { on := 3, ground := .phase }, { on := 4, ground := .phase }, { on := 5, ground := .phase }, { on := 6, ground := .phase }, { on := 7, ground := .phase }, { on := 8, ground := .phase }, { on := 9, ground := .phase }, { on := 10, ground := .phase }, { on := 11, ground := .phase }, { on := 12, ground := .phase }, { on := 13, ground := .phase }], guard := none }) (v := ?_) rfl (by kernel_rfl) (by kernel_rfl) (by kernel_rfl) (fun _ _ _ h => h) (Or.inl ⟨by rfl, ?_⟩) HG126.out.1 ?_
        rotate_left 1
        · intro w hw; obtain s0 := hw; go_simp; try (with_reducible rfl)
        simp only [Act.put, List.setIfInBounds_toArray, List.set_cons_zero, List.set_cons_succ]
        refine wpAnyH_done (by kernel_rfl) ?_ _
        obtain ⟨q0, q1, q2, q3⟩ := HX.out _ (HG126.out.1)
        have HBe := Lib.hid (HB0.out.trans ((HG126.out.1).mono HB0.out.size))
        rw [HR.out]
        go_wp2_with (first
            | (go_at_call 28; refine (HLn.out wg125 HBe.out).mono ?_; rintro e w3 ⟨rfl, b3⟩; have H3 := Lib.hid (HBe.out.trans (b3.mono HBe.out.size)); clear b3)
            | (go_at_call 26; refine (HAl.out w3 H3.out).mono ?_; rintro e w4 ⟨rfl, b4⟩; have H4 := Lib.hid (H3.out.trans (b4.mono H3.out.size)); clear b4)
            | fail)
        go_ret
        exact ⟨rfl, H4.out⟩
    · go_simp
      go_at_call 29
      refine (HRt.out _).mono ?_
      rintro e wg127 ⟨rfl, bc127⟩
      have HG128 := Lib.hid (show Below W1.heap.size W1 wg127 from (HG0.out.trans ((bc127).mono HG0.out.size)))
      clear bc127
      try dsimp only
      refine hK.out _ _ HG128.out (fun hHeld => ?_)
      clear hK K
      try simp only [Act.put, List.setIfInBounds_toArray, List.set_cons_zero, List.set_cons_succ]
      refine wpAnyH_ready (rs := [0]) (by kernel_rfl) (by simp) (AllReadyH.cons (o := { dst := some 32, op := .buildSlice 63 5 #[(0, .const (.string { data := #[114, 101, 115] })), (1, .const (.string { data := #[116, 97, 115, 107] })), (2, .const (.string { data := #[109, 111, 100, 101] })), (3, .const (.string { data := #[113, 117, 101, 117, 101, 115] })), (4, .const (.string { data := #[101, 100, 103, 101] }))], type := 63, pos := "law.go:122", after := #[], guard := none }) rfl (fun K hK => ?_) AllReadyH.nil)
      go_simp
      obtain ⟨bS, hbS⟩ : ∃ b, b = (wg127).heap.size := ⟨_, rfl⟩
      rw [← hbS]
      generalize hwg129 : World.alloc _ _ = wg129
      have bwg129 : Below (wg127).heap.size (wg127) wg129 := by rw [← hwg129]; exact (Below.refl _ _).alloc (Nat.le_refl _) _
      have rwg129 : RowAt wg129 bS 9 #[.string ⟨#[114, 101, 115]⟩, .string ⟨#[116, 97, 115, 107]⟩, .string ⟨#[109, 111, 100, 101]⟩, .string ⟨#[113, 117, 101, 117, 101, 115]⟩, .string ⟨#[101, 100, 103, 101]⟩] := by rw [← hwg129, hbS]; exact RowAt.mk _ _ _
      have HG130 := Lib.hid (show Below W1.heap.size W1 wg129 ∧ RowAt wg129 bS 9 #[.string ⟨#[114, 101, 115]⟩, .string ⟨#[116, 97, 115, 107]⟩, .string ⟨#[109, 111, 100, 101]⟩, .string ⟨#[113, 117, 101, 117, 101, 115]⟩, .string ⟨#[101, 100, 103, 101]⟩] from ⟨(HG128.out.trans ((bwg129).mono HG128.out.size)), rwg129⟩)
      clear hwg129 bwg129 rwg129 hbS
      refine hK.out _ _ HG130.out.1 (fun hHeld => ?_)
      clear hK K
      try simp only [Act.put, List.setIfInBounds_toArray, List.set_cons_zero, List.set_cons_succ]
      refine wpAnyH_take (i := 4) (oi := { dst := some 36, op := .indexAddr 63 (.tmp 32) (.tmp 35), type := 0, pos := "law.go:122", after := #[{ on := 0, ground := .data }, { on := 3, ground := .data }], guard := none }) (v := ?_) rfl (by kernel_rfl) (by kernel_rfl) (by kernel_rfl) (fun _ _ _ h => h) (Or.inl ⟨by rfl, ?_⟩) HG130.out.1 ?_
      rotate_left 1
      · intro w hw; obtain s0 := hw; obtain ⟨k0, k1⟩ := HJ.out; go_simp; try (with_reducible rfl)
      simp only [Act.put, List.setIfInBounds_toArray, List.set_cons_zero, List.set_cons_succ]
      refine wpAnyH_ready (rs := [5]) (by kernel_rfl) (by simp) (AllReadyH.cons (o := { dst := some 37, op := .load 9 (.tmp 36), type := 9, pos := "law.go:122", after := #[{ on := 4, ground := .data }], guard := none }) rfl (fun K hK => ?_) AllReadyH.nil)
      have k0 := HWd.out _ _ (HG130.out.2)
      go_simp
      refine hK.out _ _ HG130.out.1 (fun hHeld => ?_)
      clear hK K
      try simp only [Act.put, List.setIfInBounds_toArray, List.set_cons_zero, List.set_cons_succ]
      refine wpAnyH_take (i := 6) (oi := { dst := some 38, op := .binOp .add 9 (.tmp 37) (.const (.string { data := #[32] })) 9, type := 9, pos := "law.go:122", after := #[{ on := 5, ground := .data }], guard := none }) (v := ?_) rfl (by kernel_rfl) (by kernel_rfl) (by kernel_rfl) (fun _ _ _ h => h) (Or.inl ⟨by rfl, ?_⟩) HG130.out.1 ?_
      rotate_left 1
      · intro w hw; obtain s0 := hw; go_simp; rw [if_neg (by obtain ⟨k1, k2⟩ := HSz.out; simp; omega)]
      simp only [Act.put, List.setIfInBounds_toArray, List.set_cons_zero, List.set_cons_succ]
      refine wpAnyH_take (i := 10) (oi := { dst := some 42, op := .binOp .add 9 (.tmp 38) (.tmp 41) 9, type := 9, pos := "law.go:122", after := #[{ on := 6, ground := .data }, { on := 9, ground := .data }], guard := none }) (v := ?_) rfl (by kernel_rfl) (by kernel_rfl) (by kernel_rfl) (fun _ _ _ h => h) (Or.inl ⟨by rfl, ?_⟩) HG130.out.1 ?_
      rotate_left 1
      · intro w hw; obtain s0 := hw; go_simp; rw [if_neg (by obtain ⟨k1, k2⟩ := HSz.out; simp; omega)]
      simp only [Act.put, List.setIfInBounds_toArray, List.set_cons_zero, List.set_cons_succ]
      refine wpAnyH_take (i := 11) (oi := { dst := some 43, op := .binOp .add 9 (.tmp 42) (.const (.string { data := #[32] })) 9, type := 9, pos := "law.go:122", after := #[{ on := 10, ground := .data }], guard := none }) (v := ?_) rfl (by kernel_rfl) (by kernel_rfl) (by kernel_rfl) (fun _ _ _ h => h) (Or.inl ⟨by rfl, ?_⟩) HG130.out.1 ?_
      rotate_left 1
      · intro w hw; obtain s0 := hw; go_simp; rw [if_neg (by obtain ⟨k1, k2⟩ := HSz.out; simp; omega)]
      simp only [Act.put, List.setIfInBounds_toArray, List.set_cons_zero, List.set_cons_succ]
      refine wpAnyH_take (i := 13) (oi := { dst := some 45, op := .binOp .add 9 (.tmp 43) (.tmp 44) 9, type := 9, pos := "law.go:122", after := #[{ on := 11, ground := .data }, { on := 12, ground := .data }], guard := none }) (v := ?_) rfl (by kernel_rfl) (by kernel_rfl) (by kernel_rfl) (fun _ _ _ h => h) (Or.inl ⟨by rfl, ?_⟩) HG130.out.1 ?_
      rotate_left 1
      · intro w hw; obtain s0 := hw; go_simp; rw [if_neg (by obtain ⟨k1, k2⟩ := HSz.out; simp; omega)]
      simp only [Act.put, List.setIfInBounds_toArray, List.set_cons_zero, List.set_cons_succ]
      refine wpAnyH_take (i := 14) (oi := { dst := some 3, op := .assign (.tmp 45), type := 9, pos := "law.go:122", after := #[{ on := 13, ground := .data }, { on := 9, ground := .chain }, { on := 0, ground := .phase }, { on := 1, ground := .phase }, { on := 2, ground := .phase }, { on := 3, ground := .phase }, { on := 4, ground := .phase }, { on := 5, ground := .phase }, { on := 6, ground := .phase }, { on := 7, ground := .phase }, { on := 8, ground := .phase }, { on := 9, ground := .phase }, { on := 10, ground := .phase }, { on := 11, ground := .phase }, { on := 12, ground := .phase }, { on := 13, ground := .phase }], guard := none }) (v := ?_) rfl (by kernel_rfl) (by kernel_rfl) (by kernel_rfl) (fun _ _ _ h => h) (Or.inl ⟨by rfl, ?_⟩) HG130.out.1 ?_
      rotate_left 1
      · intro w hw; obtain s0 := hw; go_simp; try (with_reducible rfl)
      simp only [Act.put, List.setIfInBounds_toArray, List.set_cons_zero, List.set_cons_succ]
      refine wpAnyH_done (by kernel_rfl) ?_ _
      obtain ⟨q0, q1, q2, q3⟩ := HX.out _ (HG130.out.1)
      have HBe := Lib.hid (HB0.out.trans ((HG130.out.1).mono HB0.out.size))
      rw [HR.out]
      go_wp2_with (first
          | (go_at_call 28; refine (HLn.out wg129 HBe.out).mono ?_; rintro e w3 ⟨rfl, b3⟩; have H3 := Lib.hid (HBe.out.trans (b3.mono HBe.out.size)); clear b3)
          | (go_at_call 26; refine (HAl.out w3 H3.out).mono ?_; rintro e w4 ⟨rfl, b4⟩; have H4 := Lib.hid (H3.out.trans (b4.mono H3.out.size)); clear b4)
          | fail)
      go_ret
      exact ⟨rfl, H4.out⟩

  exact absurd hon (by rcases o with _ | _ <;> rcases n with _ | _ <;> simp_all)
end Go.Proofs.YtknkhigmokooaaaDoor
