/- Several texts in one: QZI. -/
import Derived.Test.YtchmdnmifpjfkaaDoorPk20
import Derived.Test.YtchmdnmifpjfkaaDoorPk13
/- The walk of OffsetCommon. -/
namespace Go.Proofs.YtchmdnmifpjfkaaDoor
open Go.RowKit

/-- What Common's answer keeps. -/
theorem cmE_is (x : Img) (k : Int) : (fitE x k (farE x k) = false → cmE x k = 0) ∧ (fitE x k (farE x k) = true → cmE x k ≤ 16384 ∧ fitE x k (wdF zF (frE x k) (cmE x k : Nat)) = true ∧ ∀ m : Nat, m + 1 = cmE x k → fitE x k (wdF zF (frE x k) (m : Nat)) = false) := by
  constructor
  · intro h
    unfold cmE
    rw [if_neg (by simp [h])]
  · intro h
    have e : cmE x k = lsE x k zF (frE x k) := by unfold cmE; rw [if_pos h]
    obtain ⟨h1, h2, h3⟩ := bsN_ok (fun n => fitE x k (wdF zF (frE x k) (n : Int))) 16384
    rw [e]
    refine ⟨h1, ?_, fun m hm => ?_⟩
    · by_cases h4 : lsE x k zF (frE x k) < 16384
      · exact h3 h4
      · have h5 : lsE x k zF (frE x k) = 16384 := by unfold lsE at h4 ⊢; omega
        rw [h5]
        exact h
    · have h5 := h2 (by unfold lsE at hm; omega)
      unfold lsE at hm
      rw [← hm] at h5
      simpa using h5
theorem fitE_in {x : Img} {k : Int} {l : Nat → Int} (h : ¬ (0 ≤ k ∧ k < (x.edges.length : Int))) : fitE x k l = false := by unfold fitE; rw [if_neg h]
set_option maxHeartbeats 16000000 in
set_option maxRecDepth 100000 in
theorem law_common20 {w : World} {V : Nat → Prop} {x : Img} {S : ImgS} (h : ImgAt w V x S) (ht : Tab w) (hcap : x.tasks.length ≤ S.t.c) (k : Int) :
    Calls Tryd.prog 6 #[.agg #[.int .i64 x.res, .slice S.t.sp x.tasks.length S.t.c, .slice S.m.sp x.modes.length S.m.c, .slice S.e.sp x.edges.length S.e.c], .int .i64 k] w fun e w' => e = .returned (.bool true) ∧ Below w.heap.size w w' := by
  have hp := ht.pos
  have HGr := Lib.hid (show ∀ wx, Below w.heap.size w wx → _ from fun wx hb => great10_any (h.new hb))
  have HRi := Lib.hid (show ∀ wx, Below w.heap.size w wx → _ from fun wx hb => rRight_any (h.new hb))
  have HAl := Lib.hid (show ∀ wx, Below w.heap.size w wx → _ from fun wx hb => l20alive_any wx (ht.below hp hb))
  have HCm := Lib.hid (show GoodI x → ∀ wx, Below w.heap.size w wx → _ from fun hG wx hb => ofCommon_any (⟨h.new hb, ht.below hp hb, hG, hcap⟩ : ImgOk wx V x S) k)
  have HFt := Lib.hid (show GoodI x → ∀ n : Int, 0 ≤ n → n ≤ 16384 → ∀ wx, Below w.heap.size w wx → _ from fun hG n h0 h1 wx hb => l20fits_any (⟨h.new hb, ht.below hp hb, hG, hcap⟩ : ImgOk wx V x S) k (wdF zF (frE x k) n) (wdF_rng zF_rng ⟨h0, h1⟩))
  have HAll := Lib.hid (show rightB x = true → 0 ≤ k ∧ k < (x.edges.length : Int) → ∀ (n : Int) wx, Below w.heap.size w wx → Calls Tryd.prog 24 #[.agg #[.int .i64 x.res, .slice S.t.sp x.tasks.length S.t.c, .slice S.m.sp x.modes.length S.m.c, .slice S.e.sp x.edges.length S.e.c], .int .i64 k, .int .i64 n] wx fun e w' => e = .returned (.agg (tml (wdF zF (frE x k) n)).toArray) ∧ Below wx.heap.size wx w' from fun hr hk n wx hb => by
    obtain ⟨m, rfl⟩ : ∃ m : Nat, k = m := ⟨k.toNat, by omega⟩
    exact l20all_any (h.new hb) hr m (by omega) n)
  have HIs := Lib.hid (cmE_is x k)
  have HIn := Lib.hid (show ¬ (0 ≤ k ∧ k < (x.edges.length : Int)) → fitE x k (farE x k) = false from fitE_in)
  rw [show fitE x k (farE x k) = fitE x k (wdF zF (frE x k) (16384 : Int)) from rfl] at HCm HIs HIn
  obtain ⟨p, hpp⟩ : ∃ p : Int → Bool, (fun n => fitE x k (wdF zF (frE x k) n)) = p := ⟨_, rfl⟩
  have hpe : ∀ n, fitE x k (wdF zF (frE x k) n) = p n := fun n => by rw [← hpp]
  obtain ⟨C, hC⟩ : ∃ C : Int → Array Value, (fun n => (tml (wdF zF (frE x k) n)).toArray) = C := ⟨_, rfl⟩
  have hCe : ∀ n, (tml (wdF zF (frE x k) n)).toArray = C n := fun n => by rw [← hC]
  simp only [hpe, hCe] at HCm HIs HIn HFt HAll
  obtain ⟨R, hR⟩ : ∃ r, cmE x k = r := ⟨_, rfl⟩
  rw [hR] at HCm HIs
  obtain ⟨nT, hnT⟩ : ∃ n, x.tasks.length = n := ⟨_, rfl⟩
  obtain ⟨nM, hnM⟩ : ∃ n, x.modes.length = n := ⟨_, rfl⟩
  obtain ⟨nE, hnE⟩ : ∃ n, x.edges.length = n := ⟨_, rfl⟩
  rw [hnT, hnM, hnE] at HGr HRi HCm HFt HAll
  rw [hnE] at HIn
  rw [hnT, hnM, hnE]
  obtain ⟨fr, hfr⟩ : ∃ b, p 16384 = b := ⟨_, rfl⟩
  rw [hfr] at HCm HIs HIn
  have HP := Lib.hid hfr
  obtain ⟨Z, hZ⟩ : ∃ Z, Z = w.heap.size := ⟨_, rfl⟩
  clear h ht hp hcap hnT hnM hnE hpp hpe hC hCe hR hfr
  go_enter Tryd.func6, Tryd.ntmps6
  go_upto_region 1 with fail
  rw [← hZ]
  generalize hw2 : World.alloc _ _ = w2
  have H2 := Lib.hid (show Below w.heap.size w w2 ∧ RowAt w2 Z 26 #[.int .i64 x.res, .slice S.t.sp nT S.t.c, .slice S.m.sp nM S.m.c, .slice S.e.sp nE S.e.c] by
    rw [← hw2, hZ]
    exact ⟨(Below.refl _ _).alloc (Nat.le_refl _) _, RowAt.mk _ _ _⟩)
  clear hw2 hZ
  obtain ⟨c0, c1, c2, c3⟩ := img_cells H2.out.2
  cases hg : greatI x
  case true =>
    rw [hg] at HGr
    clear hg
    go_wp2_with (first
      | (go_at_call 20; refine (HGr.out _ H2.out.1).mono ?_; rintro e w3 ⟨rfl, b3⟩; have H3 := Lib.hid (H2.out.1.trans (b3.mono H2.out.1.size)); clear b3)
      | fail)
    go_ret
    exact ⟨rfl, H3.out⟩
  case false =>
    rw [hg] at HGr
    clear hg
    cases hr : rightB x
    case false =>
      rw [hr] at HRi
      clear hr
      go_wp2_with (first
        | (go_at_call 20; refine (HGr.out _ H2.out.1).mono ?_; rintro e w3 ⟨rfl, b3⟩; have H3 := Lib.hid (And.intro (H2.out.1.trans (b3.mono H2.out.1.size)) (H2.out.2.new b3)); clear b3 c0 c1 c2 c3 HGr; obtain ⟨c0, c1, c2, c3⟩ := img_cells H3.out.2)
        | (go_at_call 21; refine (HRi.out _ H3.out.1).mono ?_; rintro e w4 ⟨rfl, b4⟩; have H4 := Lib.hid (H3.out.1.trans (b4.mono H3.out.1.size)); clear b4)
        | fail)
      go_ret
      exact ⟨rfl, H4.out⟩
    case true =>
      have hG := rightB_good hr
      have HCm2 := Lib.hid (HCm.out hG)
      have HFt2 := Lib.hid (HFt.out hG)
      have HAll2 := Lib.hid (HAll.out hr)
      rw [hr] at HRi
      clear hr hG HCm HFt HAll
      go_upto_region 4 with (first
        | (go_at_call 20; refine (HGr.out _ H2.out.1).mono ?_; rintro e w3 ⟨rfl, b3⟩; have H3 := Lib.hid (And.intro (H2.out.1.trans (b3.mono H2.out.1.size)) (H2.out.2.new b3)); clear b3 c0 c1 c2 c3 HGr; obtain ⟨c0, c1, c2, c3⟩ := img_cells H3.out.2)
        | (go_at_call 21; refine (HRi.out _ H3.out.1).mono ?_; rintro e w4 ⟨rfl, b4⟩; have H4 := Lib.hid (And.intro (H3.out.1.trans (b4.mono H3.out.1.size)) (H3.out.2.new b4)); clear b4 c0 c1 c2 c3 HRi; obtain ⟨c0, c1, c2, c3⟩ := img_cells H4.out.2)
        | (go_at_call 27; refine (HCm2.out _ H4.out.1).mono ?_; rintro e w5 ⟨rfl, b5⟩; have H5 := Lib.hid (And.intro (H4.out.1.trans (b5.mono H4.out.1.size)) (H4.out.2.new b5)); clear b5 c0 c1 c2 c3 HCm2)
        | fail)
      have HA := Lib.hid (show ∀ wx, Below w5.heap.size w5 wx → (wx.cell? ⟨Z, 0, none⟩ = some (.int .i64 x.res) ∧ wx.cell? ⟨Z, 1, none⟩ = some (.slice S.t.sp nT S.t.c) ∧ wx.cell? ⟨Z, 2, none⟩ = some (.slice S.m.sp nM S.m.c) ∧ wx.cell? ⟨Z, 3, none⟩ = some (.slice S.e.sp nE S.e.c)) ∧ Below w.heap.size w wx from fun wx hb => ⟨img_cells (H5.out.2.new hb), H5.out.1.trans (hb.mono H5.out.1.size)⟩)
      by_cases h1 : k < 0
      · have hf : fr = false := HIn.out (by omega)
        subst hf
        have hR := HIs.out.1 rfl
        subst hR
        refine wp_region_held_drew (S := fun w' => Below w5.heap.size w5 w') (by kernel_rfl) (below_dn (Below.refl _ _) 1) (fun hS => ?_)
        refine wpAnyH_take (i := 0) (oi := { dst := some 20, op := .move (.tmp 1), type := 3, pos := "law.go:85", after := #[], guard := none }) (v := ?_) rfl (by kernel_rfl) (by kernel_rfl) (by kernel_rfl) (fun _ _ _ h => h) (Or.inl ⟨by rfl, ?_⟩) hS ?_
        rotate_left 1
        · intro w hw; go_simp; try (with_reducible rfl)
        simp only [Act.put, List.setIfInBounds_toArray, List.set_cons_zero, List.set_cons_succ]
        refine wpAnyH_take (i := 1) (oi := { dst := some 21, op := .binOp .lss 3 (.tmp 20) (.const (.int .i64 0)) 3, type := 4, pos := "law.go:85", after := #[{ on := 0, ground := .data }], guard := none }) (v := ?_) rfl (by kernel_rfl) (by kernel_rfl) (by kernel_rfl) (fun _ _ _ h => h) (Or.inl ⟨by rfl, ?_⟩) hS ?_
        rotate_left 1
        · intro w hw; go_simp; try (with_reducible rfl)
        simp only [Act.put, List.setIfInBounds_toArray, List.set_cons_zero, List.set_cons_succ]
        refine wpAnyH_take (i := 2) (oi := { dst := some 22, op := .move (.tmp 21), type := 4, pos := "law.go:85", after := #[{ on := 1, ground := .data }], guard := none }) (v := ?_) rfl (by kernel_rfl) (by kernel_rfl) (by kernel_rfl) (fun _ _ _ h => h) (Or.inl ⟨by rfl, ?_⟩) hS ?_
        rotate_left 1
        · intro w hw; go_simp; try (with_reducible rfl)
        simp only [Act.put, List.setIfInBounds_toArray, List.set_cons_zero, List.set_cons_succ]
        refine wpAnyH_take (i := 3) (oi := { dst := some 23, op := .move (.tmp 1), type := 3, pos := "law.go:85", after := #[{ on := 2, ground := .guard }], guard := some (2, false) }) (v := undef) rfl (by kernel_rfl) (by kernel_rfl) (by kernel_rfl) (fun _ _ _ h => h) (Or.inr ⟨by rfl, rfl⟩) hS ?_
        simp only [Act.put, List.setIfInBounds_toArray, List.set_cons_zero, List.set_cons_succ]
        refine wpAnyH_take (i := 4) (oi := { dst := some 24, op := .fieldAddr 26 (.tmp 2) 3, type := 0, pos := "law.go:85", after := #[{ on := 2, ground := .guard }], guard := some (2, false) }) (v := undef) rfl (by kernel_rfl) (by kernel_rfl) (by kernel_rfl) (fun _ _ _ h => h) (Or.inr ⟨by rfl, rfl⟩) hS ?_
        simp only [Act.put, List.setIfInBounds_toArray, List.set_cons_zero, List.set_cons_succ]
        refine wpAnyH_take (i := 5) (oi := { dst := some 25, op := .load 24 (.tmp 24), type := 24, pos := "law.go:85", after := #[{ on := 4, ground := .data }, { on := 2, ground := .guard }], guard := some (2, false) }) (v := undef) rfl (by kernel_rfl) (by kernel_rfl) (by kernel_rfl) (fun _ _ _ h => h) (Or.inr ⟨by rfl, rfl⟩) hS ?_
        simp only [Act.put, List.setIfInBounds_toArray, List.set_cons_zero, List.set_cons_succ]
        refine wpAnyH_take (i := 6) (oi := { dst := some 26, op := .call { callee := .builtin .len, args := #[.tmp 25], argTypes := #[24] }, type := 3, pos := "law.go:85", after := #[{ on := 5, ground := .data }, { on := 2, ground := .guard }], guard := some (2, false) }) (v := undef) rfl (by kernel_rfl) (by kernel_rfl) (by kernel_rfl) (fun _ _ _ h => h) (Or.inr ⟨by rfl, rfl⟩) hS ?_
        simp only [Act.put, List.setIfInBounds_toArray, List.set_cons_zero, List.set_cons_succ]
        refine wpAnyH_take (i := 7) (oi := { dst := some 27, op := .binOp .geq 3 (.tmp 23) (.tmp 26) 3, type := 4, pos := "law.go:85", after := #[{ on := 3, ground := .data }, { on := 6, ground := .data }, { on := 2, ground := .guard }], guard := some (2, false) }) (v := undef) rfl (by kernel_rfl) (by kernel_rfl) (by kernel_rfl) (fun _ _ _ h => h) (Or.inr ⟨by rfl, rfl⟩) hS ?_
        simp only [Act.put, List.setIfInBounds_toArray, List.set_cons_zero, List.set_cons_succ]
        refine wpAnyH_take (i := 8) (oi := { dst := some 28, op := .pick (.tmp 22) (.const (.bool true)) (.tmp 27), type := 4, pos := "law.go:85", after := #[{ on := 2, ground := .data }, { on := 7, ground := .data }], guard := none }) (v := ?_) rfl (by kernel_rfl) (by kernel_rfl) (by kernel_rfl) (fun _ _ _ h => h) (Or.inl ⟨by rfl, ?_⟩) hS ?_
        rotate_left 1
        · intro w hw; go_simp; try (with_reducible rfl)
        simp only [Act.put, List.setIfInBounds_toArray, List.set_cons_zero, List.set_cons_succ]
        refine wpAnyH_take (i := 9) (oi := { dst := some 29, op := .move (.tmp 28), type := 4, pos := "law.go:85", after := #[{ on := 8, ground := .data }, { on := 2, ground := .chain }], guard := none }) (v := ?_) rfl (by kernel_rfl) (by kernel_rfl) (by kernel_rfl) (fun _ _ _ h => h) (Or.inl ⟨by rfl, ?_⟩) hS ?_
        rotate_left 1
        · intro w hw; go_simp; try (with_reducible rfl)
        simp only [Act.put, List.setIfInBounds_toArray, List.set_cons_zero, List.set_cons_succ]
        refine wpAnyH_take (i := 10) (oi := { dst := some 30, op := .load 26 (.tmp 2), type := 26, pos := "law.go:85", after := #[{ on := 9, ground := .guard }], guard := some (9, false) }) (v := undef) rfl (by kernel_rfl) (by kernel_rfl) (by kernel_rfl) (fun _ _ _ h => h) (Or.inr ⟨by rfl, rfl⟩) hS ?_
        simp only [Act.put, List.setIfInBounds_toArray, List.set_cons_zero, List.set_cons_succ]
        refine wpAnyH_take (i := 11) (oi := { dst := some 31, op := .move (.tmp 1), type := 3, pos := "law.go:85", after := #[{ on := 9, ground := .guard }], guard := some (9, false) }) (v := undef) rfl (by kernel_rfl) (by kernel_rfl) (by kernel_rfl) (fun _ _ _ h => h) (Or.inr ⟨by rfl, rfl⟩) hS ?_
        simp only [Act.put, List.setIfInBounds_toArray, List.set_cons_zero, List.set_cons_succ]
        refine wpAnyH_take (i := 12) (oi := { dst := some 32, op := .load 26 (.tmp 2), type := 26, pos := "law.go:85", after := #[{ on := 9, ground := .guard }], guard := some (9, false) }) (v := undef) rfl (by kernel_rfl) (by kernel_rfl) (by kernel_rfl) (fun _ _ _ h => h) (Or.inr ⟨by rfl, rfl⟩) hS ?_
        simp only [Act.put, List.setIfInBounds_toArray, List.set_cons_zero, List.set_cons_succ]
        refine wpAnyH_take (i := 13) (oi := { dst := some 33, op := .move (.tmp 1), type := 3, pos := "law.go:85", after := #[{ on := 9, ground := .guard }], guard := some (9, false) }) (v := undef) rfl (by kernel_rfl) (by kernel_rfl) (by kernel_rfl) (fun _ _ _ h => h) (Or.inr ⟨by rfl, rfl⟩) hS ?_
        simp only [Act.put, List.setIfInBounds_toArray, List.set_cons_zero, List.set_cons_succ]
        refine wpAnyH_take (i := 14) (oi := { dst := some 34, op := .call { callee := .value (.func 24), args := #[.tmp 32, .tmp 33, .const (.int .i64 16384)], argTypes := #[26, 3, 3] }, type := 27, pos := "law.go:85", after := #[{ on := 12, ground := .data }, { on := 13, ground := .data }, { on := 9, ground := .chain }, { on := 9, ground := .guard }], guard := some (9, false) }) (v := undef) rfl (by kernel_rfl) (by kernel_rfl) (by kernel_rfl) (fun _ _ _ h => h) (Or.inr ⟨by rfl, rfl⟩) hS ?_
        simp only [Act.put, List.setIfInBounds_toArray, List.set_cons_zero, List.set_cons_succ]
        refine wpAnyH_take (i := 15) (oi := { dst := some 35, op := .call { callee := .value (.func 23), args := #[.tmp 30, .tmp 31, .tmp 34], argTypes := #[26, 3, 27] }, type := 4, pos := "law.go:85", after := #[{ on := 10, ground := .data }, { on := 11, ground := .data }, { on := 14, ground := .data }, { on := 14, ground := .chain }, { on := 9, ground := .guard }], guard := some (9, false) }) (v := undef) rfl (by kernel_rfl) (by kernel_rfl) (by kernel_rfl) (fun _ _ _ h => h) (Or.inr ⟨by rfl, rfl⟩) hS ?_
        simp only [Act.put, List.setIfInBounds_toArray, List.set_cons_zero, List.set_cons_succ]
        refine wpAnyH_take (i := 16) (oi := { dst := some 36, op := .unOp .not 4 (.tmp 35), type := 4, pos := "law.go:85", after := #[{ on := 15, ground := .data }, { on := 9, ground := .guard }], guard := some (9, false) }) (v := undef) rfl (by kernel_rfl) (by kernel_rfl) (by kernel_rfl) (fun _ _ _ h => h) (Or.inr ⟨by rfl, rfl⟩) hS ?_
        simp only [Act.put, List.setIfInBounds_toArray, List.set_cons_zero, List.set_cons_succ]
        refine wpAnyH_take (i := 17) (oi := { dst := some 37, op := .pick (.tmp 29) (.const (.bool true)) (.tmp 36), type := 4, pos := "law.go:85", after := #[{ on := 9, ground := .data }, { on := 16, ground := .data }], guard := none }) (v := ?_) rfl (by kernel_rfl) (by kernel_rfl) (by kernel_rfl) (fun _ _ _ h => h) (Or.inl ⟨by rfl, ?_⟩) hS ?_
        rotate_left 1
        · intro w hw; go_simp; try (with_reducible rfl)
        simp only [Act.put, List.setIfInBounds_toArray, List.set_cons_zero, List.set_cons_succ]
        refine wpAnyH_done (by kernel_rfl) ?_ _

        go_wp2_with (first
          | (go_at_call 25; refine (HAl.out _ (HA.out _ (below_dn (Below.refl _ _) 1)).2).mono ?_; rintro e w8 ⟨rfl, b8⟩; have H8 := Lib.hid ((HA.out _ (below_dn (Below.refl _ _) 1)).2.trans (b8.mono (HA.out _ (below_dn (Below.refl _ _) 1)).2.size)); clear b8)
          | fail)
        go_ret
        exact ⟨rfl, H8.out⟩
      · by_cases h2 : (nE : Int) ≤ k
        · have hf : fr = false := HIn.out (by omega)
          subst hf
          have hR := HIs.out.1 rfl
          subst hR
          refine wp_region_held_drew (S := fun w' => Below w5.heap.size w5 w') (by kernel_rfl) (below_dn (Below.refl _ _) 1) (fun hS => ?_)
          refine wpAnyH_take (i := 0) (oi := { dst := some 20, op := .move (.tmp 1), type := 3, pos := "law.go:85", after := #[], guard := none }) (v := ?_) rfl (by kernel_rfl) (by kernel_rfl) (by kernel_rfl) (fun _ _ _ h => h) (Or.inl ⟨by rfl, ?_⟩) hS ?_
          rotate_left 1
          · intro w hw; go_simp; try (with_reducible rfl)
          simp only [Act.put, List.setIfInBounds_toArray, List.set_cons_zero, List.set_cons_succ]
          refine wpAnyH_take (i := 1) (oi := { dst := some 21, op := .binOp .lss 3 (.tmp 20) (.const (.int .i64 0)) 3, type := 4, pos := "law.go:85", after := #[{ on := 0, ground := .data }], guard := none }) (v := ?_) rfl (by kernel_rfl) (by kernel_rfl) (by kernel_rfl) (fun _ _ _ h => h) (Or.inl ⟨by rfl, ?_⟩) hS ?_
          rotate_left 1
          · intro w hw; go_simp; try (with_reducible rfl)
          simp only [Act.put, List.setIfInBounds_toArray, List.set_cons_zero, List.set_cons_succ]
          refine wpAnyH_take (i := 2) (oi := { dst := some 22, op := .move (.tmp 21), type := 4, pos := "law.go:85", after := #[{ on := 1, ground := .data }], guard := none }) (v := ?_) rfl (by kernel_rfl) (by kernel_rfl) (by kernel_rfl) (fun _ _ _ h => h) (Or.inl ⟨by rfl, ?_⟩) hS ?_
          rotate_left 1
          · intro w hw; go_simp; try (with_reducible rfl)
          simp only [Act.put, List.setIfInBounds_toArray, List.set_cons_zero, List.set_cons_succ]
          refine wpAnyH_take (i := 3) (oi := { dst := some 23, op := .move (.tmp 1), type := 3, pos := "law.go:85", after := #[{ on := 2, ground := .guard }], guard := some (2, false) }) (v := ?_) rfl (by kernel_rfl) (by kernel_rfl) (by kernel_rfl) (fun _ _ _ h => h) (Or.inl ⟨by rfl, ?_⟩) hS ?_
          rotate_left 1
          · intro w hw; go_simp; try (with_reducible rfl)
          simp only [Act.put, List.setIfInBounds_toArray, List.set_cons_zero, List.set_cons_succ]
          refine wpAnyH_take (i := 4) (oi := { dst := some 24, op := .fieldAddr 26 (.tmp 2) 3, type := 0, pos := "law.go:85", after := #[{ on := 2, ground := .guard }], guard := some (2, false) }) (v := ?_) rfl (by kernel_rfl) (by kernel_rfl) (by kernel_rfl) (fun _ _ _ h => h) (Or.inl ⟨by rfl, ?_⟩) hS ?_
          rotate_left 1
          · intro w hw; go_simp; try (with_reducible rfl)
          simp only [Act.put, List.setIfInBounds_toArray, List.set_cons_zero, List.set_cons_succ]
          refine wpAnyH_take (i := 5) (oi := { dst := some 25, op := .load 24 (.tmp 24), type := 24, pos := "law.go:85", after := #[{ on := 4, ground := .data }, { on := 2, ground := .guard }], guard := some (2, false) }) (v := ?_) rfl (by kernel_rfl) (by kernel_rfl) (by kernel_rfl) (fun _ _ _ h => h) (Or.inl ⟨by rfl, ?_⟩) hS ?_
          rotate_left 1
          · intro w hw; obtain ⟨⟨k0, k1, k2, k3⟩, _⟩ := HA.out _ hw; go_simp; try (with_reducible rfl)
          simp only [Act.put, List.setIfInBounds_toArray, List.set_cons_zero, List.set_cons_succ]
          refine wpAnyH_take (i := 6) (oi := { dst := some 26, op := .call { callee := .builtin .len, args := #[.tmp 25], argTypes := #[24] }, type := 3, pos := "law.go:85", after := #[{ on := 5, ground := .data }, { on := 2, ground := .guard }], guard := some (2, false) }) (v := ?_) rfl (by kernel_rfl) (by kernel_rfl) (by kernel_rfl) (fun _ _ _ h => h) (Or.inl ⟨by rfl, ?_⟩) hS ?_
          rotate_left 1
          · intro w hw; go_simp; try (with_reducible rfl)
          simp only [Act.put, List.setIfInBounds_toArray, List.set_cons_zero, List.set_cons_succ]
          refine wpAnyH_take (i := 7) (oi := { dst := some 27, op := .binOp .geq 3 (.tmp 23) (.tmp 26) 3, type := 4, pos := "law.go:85", after := #[{ on := 3, ground := .data }, { on := 6, ground := .data }, { on := 2, ground := .guard }], guard := some (2, false) }) (v := ?_) rfl (by kernel_rfl) (by kernel_rfl) (by kernel_rfl) (fun _ _ _ h => h) (Or.inl ⟨by rfl, ?_⟩) hS ?_
          rotate_left 1
          · intro w hw; go_simp; try (with_reducible rfl)
          simp only [Act.put, List.setIfInBounds_toArray, List.set_cons_zero, List.set_cons_succ]
          refine wpAnyH_take (i := 8) (oi := { dst := some 28, op := .pick (.tmp 22) (.const (.bool true)) (.tmp 27), type := 4, pos := "law.go:85", after := #[{ on := 2, ground := .data }, { on := 7, ground := .data }], guard := none }) (v := ?_) rfl (by kernel_rfl) (by kernel_rfl) (by kernel_rfl) (fun _ _ _ h => h) (Or.inl ⟨by rfl, ?_⟩) hS ?_
          rotate_left 1
          · intro w hw; go_simp; try (with_reducible rfl)
          simp only [Act.put, List.setIfInBounds_toArray, List.set_cons_zero, List.set_cons_succ]
          refine wpAnyH_take (i := 9) (oi := { dst := some 29, op := .move (.tmp 28), type := 4, pos := "law.go:85", after := #[{ on := 8, ground := .data }, { on := 2, ground := .chain }], guard := none }) (v := ?_) rfl (by kernel_rfl) (by kernel_rfl) (by kernel_rfl) (fun _ _ _ h => h) (Or.inl ⟨by rfl, ?_⟩) hS ?_
          rotate_left 1
          · intro w hw; go_simp; try (with_reducible rfl)
          simp only [Act.put, List.setIfInBounds_toArray, List.set_cons_zero, List.set_cons_succ]
          refine wpAnyH_take (i := 10) (oi := { dst := some 30, op := .load 26 (.tmp 2), type := 26, pos := "law.go:85", after := #[{ on := 9, ground := .guard }], guard := some (9, false) }) (v := undef) rfl (by kernel_rfl) (by kernel_rfl) (by kernel_rfl) (fun _ _ _ h => h) (Or.inr ⟨by rfl, rfl⟩) hS ?_
          simp only [Act.put, List.setIfInBounds_toArray, List.set_cons_zero, List.set_cons_succ]
          refine wpAnyH_take (i := 11) (oi := { dst := some 31, op := .move (.tmp 1), type := 3, pos := "law.go:85", after := #[{ on := 9, ground := .guard }], guard := some (9, false) }) (v := undef) rfl (by kernel_rfl) (by kernel_rfl) (by kernel_rfl) (fun _ _ _ h => h) (Or.inr ⟨by rfl, rfl⟩) hS ?_
          simp only [Act.put, List.setIfInBounds_toArray, List.set_cons_zero, List.set_cons_succ]
          refine wpAnyH_take (i := 12) (oi := { dst := some 32, op := .load 26 (.tmp 2), type := 26, pos := "law.go:85", after := #[{ on := 9, ground := .guard }], guard := some (9, false) }) (v := undef) rfl (by kernel_rfl) (by kernel_rfl) (by kernel_rfl) (fun _ _ _ h => h) (Or.inr ⟨by rfl, rfl⟩) hS ?_
          simp only [Act.put, List.setIfInBounds_toArray, List.set_cons_zero, List.set_cons_succ]
          refine wpAnyH_take (i := 13) (oi := { dst := some 33, op := .move (.tmp 1), type := 3, pos := "law.go:85", after := #[{ on := 9, ground := .guard }], guard := some (9, false) }) (v := undef) rfl (by kernel_rfl) (by kernel_rfl) (by kernel_rfl) (fun _ _ _ h => h) (Or.inr ⟨by rfl, rfl⟩) hS ?_
          simp only [Act.put, List.setIfInBounds_toArray, List.set_cons_zero, List.set_cons_succ]
          refine wpAnyH_take (i := 14) (oi := { dst := some 34, op := .call { callee := .value (.func 24), args := #[.tmp 32, .tmp 33, .const (.int .i64 16384)], argTypes := #[26, 3, 3] }, type := 27, pos := "law.go:85", after := #[{ on := 12, ground := .data }, { on := 13, ground := .data }, { on := 9, ground := .chain }, { on := 9, ground := .guard }], guard := some (9, false) }) (v := undef) rfl (by kernel_rfl) (by kernel_rfl) (by kernel_rfl) (fun _ _ _ h => h) (Or.inr ⟨by rfl, rfl⟩) hS ?_
          simp only [Act.put, List.setIfInBounds_toArray, List.set_cons_zero, List.set_cons_succ]
          refine wpAnyH_take (i := 15) (oi := { dst := some 35, op := .call { callee := .value (.func 23), args := #[.tmp 30, .tmp 31, .tmp 34], argTypes := #[26, 3, 27] }, type := 4, pos := "law.go:85", after := #[{ on := 10, ground := .data }, { on := 11, ground := .data }, { on := 14, ground := .data }, { on := 14, ground := .chain }, { on := 9, ground := .guard }], guard := some (9, false) }) (v := undef) rfl (by kernel_rfl) (by kernel_rfl) (by kernel_rfl) (fun _ _ _ h => h) (Or.inr ⟨by rfl, rfl⟩) hS ?_
          simp only [Act.put, List.setIfInBounds_toArray, List.set_cons_zero, List.set_cons_succ]
          refine wpAnyH_take (i := 16) (oi := { dst := some 36, op := .unOp .not 4 (.tmp 35), type := 4, pos := "law.go:85", after := #[{ on := 15, ground := .data }, { on := 9, ground := .guard }], guard := some (9, false) }) (v := undef) rfl (by kernel_rfl) (by kernel_rfl) (by kernel_rfl) (fun _ _ _ h => h) (Or.inr ⟨by rfl, rfl⟩) hS ?_
          simp only [Act.put, List.setIfInBounds_toArray, List.set_cons_zero, List.set_cons_succ]
          refine wpAnyH_take (i := 17) (oi := { dst := some 37, op := .pick (.tmp 29) (.const (.bool true)) (.tmp 36), type := 4, pos := "law.go:85", after := #[{ on := 9, ground := .data }, { on := 16, ground := .data }], guard := none }) (v := ?_) rfl (by kernel_rfl) (by kernel_rfl) (by kernel_rfl) (fun _ _ _ h => h) (Or.inl ⟨by rfl, ?_⟩) hS ?_
          rotate_left 1
          · intro w hw; go_simp; try (with_reducible rfl)
          simp only [Act.put, List.setIfInBounds_toArray, List.set_cons_zero, List.set_cons_succ]
          refine wpAnyH_done (by kernel_rfl) ?_ _

          go_wp2_with (first
            | (go_at_call 25; refine (HAl.out _ (HA.out _ (below_dn (Below.refl _ _) 1)).2).mono ?_; rintro e w8 ⟨rfl, b8⟩; have H8 := Lib.hid ((HA.out _ (below_dn (Below.refl _ _) 1)).2.trans (b8.mono (HA.out _ (below_dn (Below.refl _ _) 1)).2.size)); clear b8)
            | fail)
          go_ret
          exact ⟨rfl, H8.out⟩
        · have HAk := Lib.hid (HAll2.out (by omega))
          have HFf := Lib.hid (HFt2.out 16384 (by omega) (by omega))
          rw [HP.out] at HFf
          refine wp_region_held_drew (S := fun w' => Below w5.heap.size w5 w') (by kernel_rfl) (below_dn (Below.refl _ _) 1) (fun hS => ?_)
          refine wpAnyH_take (i := 0) (oi := { dst := some 20, op := .move (.tmp 1), type := 3, pos := "law.go:85", after := #[], guard := none }) (v := ?_) rfl (by kernel_rfl) (by kernel_rfl) (by kernel_rfl) (fun _ _ _ h => h) (Or.inl ⟨by rfl, ?_⟩) hS ?_
          rotate_left 1
          · intro w hw; go_simp; try (with_reducible rfl)
          simp only [Act.put, List.setIfInBounds_toArray, List.set_cons_zero, List.set_cons_succ]
          refine wpAnyH_take (i := 1) (oi := { dst := some 21, op := .binOp .lss 3 (.tmp 20) (.const (.int .i64 0)) 3, type := 4, pos := "law.go:85", after := #[{ on := 0, ground := .data }], guard := none }) (v := ?_) rfl (by kernel_rfl) (by kernel_rfl) (by kernel_rfl) (fun _ _ _ h => h) (Or.inl ⟨by rfl, ?_⟩) hS ?_
          rotate_left 1
          · intro w hw; go_simp; try (with_reducible rfl)
          simp only [Act.put, List.setIfInBounds_toArray, List.set_cons_zero, List.set_cons_succ]
          refine wpAnyH_take (i := 2) (oi := { dst := some 22, op := .move (.tmp 21), type := 4, pos := "law.go:85", after := #[{ on := 1, ground := .data }], guard := none }) (v := ?_) rfl (by kernel_rfl) (by kernel_rfl) (by kernel_rfl) (fun _ _ _ h => h) (Or.inl ⟨by rfl, ?_⟩) hS ?_
          rotate_left 1
          · intro w hw; go_simp; try (with_reducible rfl)
          simp only [Act.put, List.setIfInBounds_toArray, List.set_cons_zero, List.set_cons_succ]
          refine wpAnyH_take (i := 3) (oi := { dst := some 23, op := .move (.tmp 1), type := 3, pos := "law.go:85", after := #[{ on := 2, ground := .guard }], guard := some (2, false) }) (v := ?_) rfl (by kernel_rfl) (by kernel_rfl) (by kernel_rfl) (fun _ _ _ h => h) (Or.inl ⟨by rfl, ?_⟩) hS ?_
          rotate_left 1
          · intro w hw; go_simp; try (with_reducible rfl)
          simp only [Act.put, List.setIfInBounds_toArray, List.set_cons_zero, List.set_cons_succ]
          refine wpAnyH_take (i := 4) (oi := { dst := some 24, op := .fieldAddr 26 (.tmp 2) 3, type := 0, pos := "law.go:85", after := #[{ on := 2, ground := .guard }], guard := some (2, false) }) (v := ?_) rfl (by kernel_rfl) (by kernel_rfl) (by kernel_rfl) (fun _ _ _ h => h) (Or.inl ⟨by rfl, ?_⟩) hS ?_
          rotate_left 1
          · intro w hw; go_simp; try (with_reducible rfl)
          simp only [Act.put, List.setIfInBounds_toArray, List.set_cons_zero, List.set_cons_succ]
          refine wpAnyH_take (i := 5) (oi := { dst := some 25, op := .load 24 (.tmp 24), type := 24, pos := "law.go:85", after := #[{ on := 4, ground := .data }, { on := 2, ground := .guard }], guard := some (2, false) }) (v := ?_) rfl (by kernel_rfl) (by kernel_rfl) (by kernel_rfl) (fun _ _ _ h => h) (Or.inl ⟨by rfl, ?_⟩) hS ?_
          rotate_left 1
          · intro w hw; obtain ⟨⟨k0, k1, k2, k3⟩, _⟩ := HA.out _ hw; go_simp; try (with_reducible rfl)
          simp only [Act.put, List.setIfInBounds_toArray, List.set_cons_zero, List.set_cons_succ]
          refine wpAnyH_take (i := 6) (oi := { dst := some 26, op := .call { callee := .builtin .len, args := #[.tmp 25], argTypes := #[24] }, type := 3, pos := "law.go:85", after := #[{ on := 5, ground := .data }, { on := 2, ground := .guard }], guard := some (2, false) }) (v := ?_) rfl (by kernel_rfl) (by kernel_rfl) (by kernel_rfl) (fun _ _ _ h => h) (Or.inl ⟨by rfl, ?_⟩) hS ?_
          rotate_left 1
          · intro w hw; go_simp; try (with_reducible rfl)
          simp only [Act.put, List.setIfInBounds_toArray, List.set_cons_zero, List.set_cons_succ]
          refine wpAnyH_take (i := 7) (oi := { dst := some 27, op := .binOp .geq 3 (.tmp 23) (.tmp 26) 3, type := 4, pos := "law.go:85", after := #[{ on := 3, ground := .data }, { on := 6, ground := .data }, { on := 2, ground := .guard }], guard := some (2, false) }) (v := ?_) rfl (by kernel_rfl) (by kernel_rfl) (by kernel_rfl) (fun _ _ _ h => h) (Or.inl ⟨by rfl, ?_⟩) hS ?_
          rotate_left 1
          · intro w hw; go_simp; try (with_reducible rfl)
          simp only [Act.put, List.setIfInBounds_toArray, List.set_cons_zero, List.set_cons_succ]
          refine wpAnyH_take (i := 8) (oi := { dst := some 28, op := .pick (.tmp 22) (.const (.bool true)) (.tmp 27), type := 4, pos := "law.go:85", after := #[{ on := 2, ground := .data }, { on := 7, ground := .data }], guard := none }) (v := ?_) rfl (by kernel_rfl) (by kernel_rfl) (by kernel_rfl) (fun _ _ _ h => h) (Or.inl ⟨by rfl, ?_⟩) hS ?_
          rotate_left 1
          · intro w hw; go_simp; try (with_reducible rfl)
          simp only [Act.put, List.setIfInBounds_toArray, List.set_cons_zero, List.set_cons_succ]
          refine wpAnyH_take (i := 9) (oi := { dst := some 29, op := .move (.tmp 28), type := 4, pos := "law.go:85", after := #[{ on := 8, ground := .data }, { on := 2, ground := .chain }], guard := none }) (v := ?_) rfl (by kernel_rfl) (by kernel_rfl) (by kernel_rfl) (fun _ _ _ h => h) (Or.inl ⟨by rfl, ?_⟩) hS ?_
          rotate_left 1
          · intro w hw; go_simp; try (with_reducible rfl)
          simp only [Act.put, List.setIfInBounds_toArray, List.set_cons_zero, List.set_cons_succ]
          refine wpAnyH_take (i := 10) (oi := { dst := some 30, op := .load 26 (.tmp 2), type := 26, pos := "law.go:85", after := #[{ on := 9, ground := .guard }], guard := some (9, false) }) (v := ?_) rfl (by kernel_rfl) (by kernel_rfl) (by kernel_rfl) (fun _ _ _ h => h) (Or.inl ⟨by rfl, ?_⟩) hS ?_
          rotate_left 1
          · intro w hw; obtain ⟨⟨k0, k1, k2, k3⟩, _⟩ := HA.out _ hw; go_simp; try (with_reducible rfl)
          simp only [Act.put, List.setIfInBounds_toArray, List.set_cons_zero, List.set_cons_succ]
          refine wpAnyH_take (i := 11) (oi := { dst := some 31, op := .move (.tmp 1), type := 3, pos := "law.go:85", after := #[{ on := 9, ground := .guard }], guard := some (9, false) }) (v := ?_) rfl (by kernel_rfl) (by kernel_rfl) (by kernel_rfl) (fun _ _ _ h => h) (Or.inl ⟨by rfl, ?_⟩) hS ?_
          rotate_left 1
          · intro w hw; go_simp; try (with_reducible rfl)
          simp only [Act.put, List.setIfInBounds_toArray, List.set_cons_zero, List.set_cons_succ]
          refine wpAnyH_take (i := 12) (oi := { dst := some 32, op := .load 26 (.tmp 2), type := 26, pos := "law.go:85", after := #[{ on := 9, ground := .guard }], guard := some (9, false) }) (v := ?_) rfl (by kernel_rfl) (by kernel_rfl) (by kernel_rfl) (fun _ _ _ h => h) (Or.inl ⟨by rfl, ?_⟩) hS ?_
          rotate_left 1
          · intro w hw; obtain ⟨⟨k0, k1, k2, k3⟩, _⟩ := HA.out _ hw; go_simp; try (with_reducible rfl)
          simp only [Act.put, List.setIfInBounds_toArray, List.set_cons_zero, List.set_cons_succ]
          refine wpAnyH_take (i := 13) (oi := { dst := some 33, op := .move (.tmp 1), type := 3, pos := "law.go:85", after := #[{ on := 9, ground := .guard }], guard := some (9, false) }) (v := ?_) rfl (by kernel_rfl) (by kernel_rfl) (by kernel_rfl) (fun _ _ _ h => h) (Or.inl ⟨by rfl, ?_⟩) hS ?_
          rotate_left 1
          · intro w hw; go_simp; try (with_reducible rfl)
          simp only [Act.put, List.setIfInBounds_toArray, List.set_cons_zero, List.set_cons_succ]
          refine wpAnyH_ready (rs := [14]) (by kernel_rfl) (by simp) (AllReadyH.cons (o := { dst := some 34, op := .call { callee := .value (.func 24), args := #[.tmp 32, .tmp 33, .const (.int .i64 16384)], argTypes := #[26, 3, 3] }, type := 27, pos := "law.go:85", after := #[{ on := 12, ground := .data }, { on := 13, ground := .data }, { on := 9, ground := .chain }, { on := 9, ground := .guard }], guard := some (9, false) }) rfl (fun K hK => ?_) AllReadyH.nil)
          go_simp
          go_at_call 24
          refine (HAk.out 16384 _ (HA.out _ (below_dn (Below.refl w5.heap.size w5) 1)).2).mono ?_
          rintro e w6 ⟨rfl, b6⟩
          have H6 := Lib.hid (show Below w5.heap.size w5 w6 from (below_dn (Below.refl w5.heap.size w5) 1).trans (b6.mono (below_dn (Below.refl w5.heap.size w5) 1).size))
          clear b6
          try dsimp only
          refine hK.out _ _ H6.out (fun hHeld => ?_)
          clear hK K
          try simp only [Act.put, List.setIfInBounds_toArray, List.set_cons_zero, List.set_cons_succ]
          refine wpAnyH_ready (rs := [15]) (by kernel_rfl) (by simp) (AllReadyH.cons (o := { dst := some 35, op := .call { callee := .value (.func 23), args := #[.tmp 30, .tmp 31, .tmp 34], argTypes := #[26, 3, 27] }, type := 4, pos := "law.go:85", after := #[{ on := 10, ground := .data }, { on := 11, ground := .data }, { on := 14, ground := .data }, { on := 14, ground := .chain }, { on := 9, ground := .guard }], guard := some (9, false) }) rfl (fun K hK => ?_) AllReadyH.nil)
          go_simp
          go_at_call 23
          refine (HFf.out _ (HA.out _ H6.out).2).mono ?_
          rintro e w7 ⟨rfl, b7⟩
          have H7 := Lib.hid (show Below w5.heap.size w5 w7 from H6.out.trans (b7.mono H6.out.size))
          clear b7
          try dsimp only
          refine hK.out _ _ H7.out (fun hHeld => ?_)
          clear hK K
          try simp only [Act.put, List.setIfInBounds_toArray, List.set_cons_zero, List.set_cons_succ]
          refine wpAnyH_take (i := 16) (oi := { dst := some 36, op := .unOp .not 4 (.tmp 35), type := 4, pos := "law.go:85", after := #[{ on := 15, ground := .data }, { on := 9, ground := .guard }], guard := some (9, false) }) (v := ?_) rfl (by kernel_rfl) (by kernel_rfl) (by kernel_rfl) (fun _ _ _ h => h) (Or.inl ⟨by rfl, ?_⟩) H7.out ?_
          rotate_left 1
          · intro w hw; go_simp; try (with_reducible rfl)
          simp only [Act.put, List.setIfInBounds_toArray, List.set_cons_zero, List.set_cons_succ]
          refine wpAnyH_take (i := 17) (oi := { dst := some 37, op := .pick (.tmp 29) (.const (.bool true)) (.tmp 36), type := 4, pos := "law.go:85", after := #[{ on := 9, ground := .data }, { on := 16, ground := .data }], guard := none }) (v := ?_) rfl (by kernel_rfl) (by kernel_rfl) (by kernel_rfl) (fun _ _ _ h => h) (Or.inl ⟨by rfl, ?_⟩) H7.out ?_
          rotate_left 1
          · intro w hw; go_simp; try (with_reducible rfl)
          simp only [Act.put, List.setIfInBounds_toArray, List.set_cons_zero, List.set_cons_succ]
          refine wpAnyH_done (by kernel_rfl) ?_ _

          cases fr with
          | false =>
            have hR := HIs.out.1 rfl
            subst hR
            go_wp2_with (first
              | (go_at_call 25; refine (HAl.out _ (HA.out _ H7.out).2).mono ?_; rintro e w8 ⟨rfl, b8⟩; have H8 := Lib.hid ((HA.out _ H7.out).2.trans (b8.mono (HA.out _ H7.out).2.size)); clear b8)
              | fail)
            go_ret
            exact ⟨rfl, H8.out⟩
          | true =>
            obtain ⟨hR1, hR2, hR3⟩ := HIs.out.2 rfl
            have HFn := Lib.hid (HFt2.out (R : Int) (by omega) (by omega))
            rw [hR2] at HFn
            have g1 : ¬ ((R : Int) < 0) := by omega
            have g2 : ¬ ((16384 : Int) < (R : Int)) := by omega
            go_upto_region 6 with fail
            refine wp_region_held_drew (S := fun w' => Below w5.heap.size w5 w') (by kernel_rfl) (below_dn H7.out 1) (fun hS => ?_)
            refine wpAnyH_take (i := 0) (oi := { dst := some 47, op := .move (.tmp 6), type := 4, pos := "law.go:88", after := #[], guard := none }) (v := ?_) rfl (by kernel_rfl) (by kernel_rfl) (by kernel_rfl) (fun _ _ _ h => h) (Or.inl ⟨by rfl, ?_⟩) hS ?_
            rotate_left 1
            · intro w hw; go_simp; try (with_reducible rfl)
            simp only [Act.put, List.setIfInBounds_toArray, List.set_cons_zero, List.set_cons_succ]
            refine wpAnyH_take (i := 1) (oi := { dst := some 48, op := .unOp .not 4 (.tmp 47), type := 4, pos := "law.go:88", after := #[{ on := 0, ground := .data }], guard := none }) (v := ?_) rfl (by kernel_rfl) (by kernel_rfl) (by kernel_rfl) (fun _ _ _ h => h) (Or.inl ⟨by rfl, ?_⟩) hS ?_
            rotate_left 1
            · intro w hw; go_simp; try (with_reducible rfl)
            simp only [Act.put, List.setIfInBounds_toArray, List.set_cons_zero, List.set_cons_succ]
            refine wpAnyH_take (i := 2) (oi := { dst := some 49, op := .move (.tmp 48), type := 4, pos := "law.go:88", after := #[{ on := 1, ground := .data }], guard := none }) (v := ?_) rfl (by kernel_rfl) (by kernel_rfl) (by kernel_rfl) (fun _ _ _ h => h) (Or.inl ⟨by rfl, ?_⟩) hS ?_
            rotate_left 1
            · intro w hw; go_simp; try (with_reducible rfl)
            simp only [Act.put, List.setIfInBounds_toArray, List.set_cons_zero, List.set_cons_succ]
            refine wpAnyH_take (i := 3) (oi := { dst := some 50, op := .move (.tmp 5), type := 3, pos := "law.go:88", after := #[{ on := 2, ground := .guard }], guard := some (2, false) }) (v := ?_) rfl (by kernel_rfl) (by kernel_rfl) (by kernel_rfl) (fun _ _ _ h => h) (Or.inl ⟨by rfl, ?_⟩) hS ?_
            rotate_left 1
            · intro w hw; go_simp; try (with_reducible rfl)
            simp only [Act.put, List.setIfInBounds_toArray, List.set_cons_zero, List.set_cons_succ]
            refine wpAnyH_take (i := 4) (oi := { dst := some 51, op := .binOp .lss 3 (.tmp 50) (.const (.int .i64 0)) 3, type := 4, pos := "law.go:88", after := #[{ on := 3, ground := .data }, { on := 2, ground := .guard }], guard := some (2, false) }) (v := ?_) rfl (by kernel_rfl) (by kernel_rfl) (by kernel_rfl) (fun _ _ _ h => h) (Or.inl ⟨by rfl, ?_⟩) hS ?_
            rotate_left 1
            · intro w hw; go_simp; try (with_reducible rfl)
            simp only [Act.put, List.setIfInBounds_toArray, List.set_cons_zero, List.set_cons_succ]
            refine wpAnyH_take (i := 5) (oi := { dst := some 52, op := .pick (.tmp 49) (.const (.bool true)) (.tmp 51), type := 4, pos := "law.go:88", after := #[{ on := 2, ground := .data }, { on := 4, ground := .data }], guard := none }) (v := ?_) rfl (by kernel_rfl) (by kernel_rfl) (by kernel_rfl) (fun _ _ _ h => h) (Or.inl ⟨by rfl, ?_⟩) hS ?_
            rotate_left 1
            · intro w hw; go_simp; try (with_reducible rfl)
            simp only [Act.put, List.setIfInBounds_toArray, List.set_cons_zero, List.set_cons_succ]
            refine wpAnyH_take (i := 6) (oi := { dst := some 53, op := .move (.tmp 52), type := 4, pos := "law.go:88", after := #[{ on := 5, ground := .data }, { on := 2, ground := .chain }], guard := none }) (v := ?_) rfl (by kernel_rfl) (by kernel_rfl) (by kernel_rfl) (fun _ _ _ h => h) (Or.inl ⟨by rfl, ?_⟩) hS ?_
            rotate_left 1
            · intro w hw; go_simp; try (with_reducible rfl)
            simp only [Act.put, List.setIfInBounds_toArray, List.set_cons_zero, List.set_cons_succ]
            refine wpAnyH_take (i := 7) (oi := { dst := some 54, op := .move (.tmp 5), type := 3, pos := "law.go:88", after := #[{ on := 6, ground := .guard }], guard := some (6, false) }) (v := ?_) rfl (by kernel_rfl) (by kernel_rfl) (by kernel_rfl) (fun _ _ _ h => h) (Or.inl ⟨by rfl, ?_⟩) hS ?_
            rotate_left 1
            · intro w hw; go_simp; try (with_reducible rfl)
            simp only [Act.put, List.setIfInBounds_toArray, List.set_cons_zero, List.set_cons_succ]
            refine wpAnyH_take (i := 8) (oi := { dst := some 55, op := .binOp .gtr 3 (.tmp 54) (.const (.int .i64 16384)) 3, type := 4, pos := "law.go:88", after := #[{ on := 7, ground := .data }, { on := 6, ground := .guard }], guard := some (6, false) }) (v := ?_) rfl (by kernel_rfl) (by kernel_rfl) (by kernel_rfl) (fun _ _ _ h => h) (Or.inl ⟨by rfl, ?_⟩) hS ?_
            rotate_left 1
            · intro w hw; go_simp; try (with_reducible rfl)
            simp only [Act.put, List.setIfInBounds_toArray, List.set_cons_zero, List.set_cons_succ]
            refine wpAnyH_take (i := 9) (oi := { dst := some 56, op := .pick (.tmp 53) (.const (.bool true)) (.tmp 55), type := 4, pos := "law.go:88", after := #[{ on := 6, ground := .data }, { on := 8, ground := .data }], guard := none }) (v := ?_) rfl (by kernel_rfl) (by kernel_rfl) (by kernel_rfl) (fun _ _ _ h => h) (Or.inl ⟨by rfl, ?_⟩) hS ?_
            rotate_left 1
            · intro w hw; go_simp; try (with_reducible rfl)
            simp only [Act.put, List.setIfInBounds_toArray, List.set_cons_zero, List.set_cons_succ]
            refine wpAnyH_take (i := 10) (oi := { dst := some 57, op := .move (.tmp 56), type := 4, pos := "law.go:88", after := #[{ on := 9, ground := .data }, { on := 6, ground := .chain }], guard := none }) (v := ?_) rfl (by kernel_rfl) (by kernel_rfl) (by kernel_rfl) (fun _ _ _ h => h) (Or.inl ⟨by rfl, ?_⟩) hS ?_
            rotate_left 1
            · intro w hw; go_simp; try (with_reducible rfl)
            simp only [Act.put, List.setIfInBounds_toArray, List.set_cons_zero, List.set_cons_succ]
            refine wpAnyH_take (i := 11) (oi := { dst := some 58, op := .load 26 (.tmp 2), type := 26, pos := "law.go:88", after := #[{ on := 10, ground := .guard }], guard := some (10, false) }) (v := ?_) rfl (by kernel_rfl) (by kernel_rfl) (by kernel_rfl) (fun _ _ _ h => h) (Or.inl ⟨by rfl, ?_⟩) hS ?_
            rotate_left 1
            · intro w hw; obtain ⟨⟨k0, k1, k2, k3⟩, _⟩ := HA.out _ hw; go_simp; try (with_reducible rfl)
            simp only [Act.put, List.setIfInBounds_toArray, List.set_cons_zero, List.set_cons_succ]
            refine wpAnyH_take (i := 12) (oi := { dst := some 59, op := .move (.tmp 1), type := 3, pos := "law.go:88", after := #[{ on := 10, ground := .guard }], guard := some (10, false) }) (v := ?_) rfl (by kernel_rfl) (by kernel_rfl) (by kernel_rfl) (fun _ _ _ h => h) (Or.inl ⟨by rfl, ?_⟩) hS ?_
            rotate_left 1
            · intro w hw; go_simp; try (with_reducible rfl)
            simp only [Act.put, List.setIfInBounds_toArray, List.set_cons_zero, List.set_cons_succ]
            refine wpAnyH_take (i := 13) (oi := { dst := some 60, op := .load 26 (.tmp 2), type := 26, pos := "law.go:88", after := #[{ on := 10, ground := .guard }], guard := some (10, false) }) (v := ?_) rfl (by kernel_rfl) (by kernel_rfl) (by kernel_rfl) (fun _ _ _ h => h) (Or.inl ⟨by rfl, ?_⟩) hS ?_
            rotate_left 1
            · intro w hw; obtain ⟨⟨k0, k1, k2, k3⟩, _⟩ := HA.out _ hw; go_simp; try (with_reducible rfl)
            simp only [Act.put, List.setIfInBounds_toArray, List.set_cons_zero, List.set_cons_succ]
            refine wpAnyH_take (i := 14) (oi := { dst := some 61, op := .move (.tmp 1), type := 3, pos := "law.go:88", after := #[{ on := 10, ground := .guard }], guard := some (10, false) }) (v := ?_) rfl (by kernel_rfl) (by kernel_rfl) (by kernel_rfl) (fun _ _ _ h => h) (Or.inl ⟨by rfl, ?_⟩) hS ?_
            rotate_left 1
            · intro w hw; go_simp; try (with_reducible rfl)
            simp only [Act.put, List.setIfInBounds_toArray, List.set_cons_zero, List.set_cons_succ]
            refine wpAnyH_take (i := 15) (oi := { dst := some 62, op := .move (.tmp 5), type := 3, pos := "law.go:88", after := #[{ on := 10, ground := .guard }], guard := some (10, false) }) (v := ?_) rfl (by kernel_rfl) (by kernel_rfl) (by kernel_rfl) (fun _ _ _ h => h) (Or.inl ⟨by rfl, ?_⟩) hS ?_
            rotate_left 1
            · intro w hw; go_simp; try (with_reducible rfl)
            simp only [Act.put, List.setIfInBounds_toArray, List.set_cons_zero, List.set_cons_succ]
            refine wpAnyH_ready (rs := [16]) (by kernel_rfl) (by simp) (AllReadyH.cons (o := { dst := some 63, op := .call { callee := .value (.func 24), args := #[.tmp 60, .tmp 61, .tmp 62], argTypes := #[26, 3, 3] }, type := 27, pos := "law.go:88", after := #[{ on := 13, ground := .data }, { on := 14, ground := .data }, { on := 15, ground := .data }, { on := 10, ground := .chain }, { on := 10, ground := .guard }], guard := some (10, false) }) rfl (fun K hK => ?_) AllReadyH.nil)
            go_simp
            go_at_call 24
            refine (HAk.out (R : Int) _ (HA.out _ (below_dn H7.out 1)).2).mono ?_
            rintro e w6 ⟨rfl, b6⟩
            have H6 := Lib.hid (show Below w5.heap.size w5 w6 from (below_dn H7.out 1).trans (b6.mono (below_dn H7.out 1).size))
            clear b6
            try dsimp only
            refine hK.out _ _ H6.out (fun hHeld => ?_)
            clear hK K
            try simp only [Act.put, List.setIfInBounds_toArray, List.set_cons_zero, List.set_cons_succ]
            refine wpAnyH_ready (rs := [17]) (by kernel_rfl) (by simp) (AllReadyH.cons (o := { dst := some 64, op := .call { callee := .value (.func 23), args := #[.tmp 58, .tmp 59, .tmp 63], argTypes := #[26, 3, 27] }, type := 4, pos := "law.go:88", after := #[{ on := 11, ground := .data }, { on := 12, ground := .data }, { on := 16, ground := .data }, { on := 16, ground := .chain }, { on := 10, ground := .guard }], guard := some (10, false) }) rfl (fun K hK => ?_) AllReadyH.nil)
            go_simp
            go_at_call 23
            refine (HFn.out _ (HA.out _ H6.out).2).mono ?_
            rintro e w8 ⟨rfl, b7⟩
            have H8 := Lib.hid (show Below w5.heap.size w5 w8 from H6.out.trans (b7.mono H6.out.size))
            clear b7
            try dsimp only
            refine hK.out _ _ H8.out (fun hHeld => ?_)
            clear hK K
            try simp only [Act.put, List.setIfInBounds_toArray, List.set_cons_zero, List.set_cons_succ]
            refine wpAnyH_take (i := 18) (oi := { dst := some 65, op := .unOp .not 4 (.tmp 64), type := 4, pos := "law.go:88", after := #[{ on := 17, ground := .data }, { on := 10, ground := .guard }], guard := some (10, false) }) (v := ?_) rfl (by kernel_rfl) (by kernel_rfl) (by kernel_rfl) (fun _ _ _ h => h) (Or.inl ⟨by rfl, ?_⟩) H8.out ?_
            rotate_left 1
            · intro w hw; go_simp; try (with_reducible rfl)
            simp only [Act.put, List.setIfInBounds_toArray, List.set_cons_zero, List.set_cons_succ]
            refine wpAnyH_take (i := 19) (oi := { dst := some 66, op := .pick (.tmp 57) (.const (.bool true)) (.tmp 65), type := 4, pos := "law.go:88", after := #[{ on := 10, ground := .data }, { on := 18, ground := .data }], guard := none }) (v := ?_) rfl (by kernel_rfl) (by kernel_rfl) (by kernel_rfl) (fun _ _ _ h => h) (Or.inl ⟨by rfl, ?_⟩) H8.out ?_
            rotate_left 1
            · intro w hw; go_simp; try (with_reducible rfl)
            simp only [Act.put, List.setIfInBounds_toArray, List.set_cons_zero, List.set_cons_succ]
            refine wpAnyH_done (by kernel_rfl) ?_ _

            go_upto_region 8 with fail
            cases R with
            | zero =>
              refine wp_region_held_drew (S := fun w' => Below w5.heap.size w5 w') (by kernel_rfl) (below_dn H8.out 1) (fun hS => ?_)
              refine wpAnyH_take (i := 0) (oi := { dst := some 67, op := .move (.tmp 5), type := 3, pos := "law.go:91", after := #[], guard := none }) (v := ?_) rfl (by kernel_rfl) (by kernel_rfl) (by kernel_rfl) (fun _ _ _ h => h) (Or.inl ⟨by rfl, ?_⟩) hS ?_
              rotate_left 1
              · intro w hw; go_simp; try (with_reducible rfl)
              simp only [Act.put, List.setIfInBounds_toArray, List.set_cons_zero, List.set_cons_succ]
              refine wpAnyH_take (i := 1) (oi := { dst := some 68, op := .binOp .eql 3 (.tmp 67) (.const (.int .i64 0)) 3, type := 4, pos := "law.go:91", after := #[{ on := 0, ground := .data }], guard := none }) (v := ?_) rfl (by kernel_rfl) (by kernel_rfl) (by kernel_rfl) (fun _ _ _ h => h) (Or.inl ⟨by rfl, ?_⟩) hS ?_
              rotate_left 1
              · intro w hw; go_simp; try (with_reducible rfl)
              simp only [Act.put, List.setIfInBounds_toArray, List.set_cons_zero, List.set_cons_succ]
              refine wpAnyH_take (i := 2) (oi := { dst := some 69, op := .move (.tmp 68), type := 4, pos := "law.go:91", after := #[{ on := 1, ground := .data }], guard := none }) (v := ?_) rfl (by kernel_rfl) (by kernel_rfl) (by kernel_rfl) (fun _ _ _ h => h) (Or.inl ⟨by rfl, ?_⟩) hS ?_
              rotate_left 1
              · intro w hw; go_simp; try (with_reducible rfl)
              simp only [Act.put, List.setIfInBounds_toArray, List.set_cons_zero, List.set_cons_succ]
              refine wpAnyH_take (i := 3) (oi := { dst := some 70, op := .load 26 (.tmp 2), type := 26, pos := "law.go:91", after := #[{ on := 2, ground := .guard }], guard := some (2, false) }) (v := undef) rfl (by kernel_rfl) (by kernel_rfl) (by kernel_rfl) (fun _ _ _ h => h) (Or.inr ⟨by rfl, rfl⟩) hS ?_
              simp only [Act.put, List.setIfInBounds_toArray, List.set_cons_zero, List.set_cons_succ]
              refine wpAnyH_take (i := 4) (oi := { dst := some 71, op := .move (.tmp 1), type := 3, pos := "law.go:91", after := #[{ on := 2, ground := .guard }], guard := some (2, false) }) (v := undef) rfl (by kernel_rfl) (by kernel_rfl) (by kernel_rfl) (fun _ _ _ h => h) (Or.inr ⟨by rfl, rfl⟩) hS ?_
              simp only [Act.put, List.setIfInBounds_toArray, List.set_cons_zero, List.set_cons_succ]
              refine wpAnyH_take (i := 5) (oi := { dst := some 72, op := .load 26 (.tmp 2), type := 26, pos := "law.go:91", after := #[{ on := 2, ground := .guard }], guard := some (2, false) }) (v := undef) rfl (by kernel_rfl) (by kernel_rfl) (by kernel_rfl) (fun _ _ _ h => h) (Or.inr ⟨by rfl, rfl⟩) hS ?_
              simp only [Act.put, List.setIfInBounds_toArray, List.set_cons_zero, List.set_cons_succ]
              refine wpAnyH_take (i := 6) (oi := { dst := some 73, op := .move (.tmp 1), type := 3, pos := "law.go:91", after := #[{ on := 2, ground := .guard }], guard := some (2, false) }) (v := undef) rfl (by kernel_rfl) (by kernel_rfl) (by kernel_rfl) (fun _ _ _ h => h) (Or.inr ⟨by rfl, rfl⟩) hS ?_
              simp only [Act.put, List.setIfInBounds_toArray, List.set_cons_zero, List.set_cons_succ]
              refine wpAnyH_take (i := 7) (oi := { dst := some 74, op := .move (.tmp 5), type := 3, pos := "law.go:91", after := #[{ on := 2, ground := .guard }], guard := some (2, false) }) (v := undef) rfl (by kernel_rfl) (by kernel_rfl) (by kernel_rfl) (fun _ _ _ h => h) (Or.inr ⟨by rfl, rfl⟩) hS ?_
              simp only [Act.put, List.setIfInBounds_toArray, List.set_cons_zero, List.set_cons_succ]
              refine wpAnyH_take (i := 8) (oi := { dst := some 75, op := .binOp .sub 3 (.tmp 74) (.const (.int .i64 1)) 3, type := 3, pos := "law.go:91", after := #[{ on := 7, ground := .data }, { on := 2, ground := .guard }], guard := some (2, false) }) (v := undef) rfl (by kernel_rfl) (by kernel_rfl) (by kernel_rfl) (fun _ _ _ h => h) (Or.inr ⟨by rfl, rfl⟩) hS ?_
              simp only [Act.put, List.setIfInBounds_toArray, List.set_cons_zero, List.set_cons_succ]
              refine wpAnyH_take (i := 9) (oi := { dst := some 76, op := .call { callee := .value (.func 24), args := #[.tmp 72, .tmp 73, .tmp 75], argTypes := #[26, 3, 3] }, type := 27, pos := "law.go:91", after := #[{ on := 5, ground := .data }, { on := 6, ground := .data }, { on := 8, ground := .data }, { on := 2, ground := .chain }, { on := 2, ground := .guard }], guard := some (2, false) }) (v := undef) rfl (by kernel_rfl) (by kernel_rfl) (by kernel_rfl) (fun _ _ _ h => h) (Or.inr ⟨by rfl, rfl⟩) hS ?_
              simp only [Act.put, List.setIfInBounds_toArray, List.set_cons_zero, List.set_cons_succ]
              refine wpAnyH_take (i := 10) (oi := { dst := some 77, op := .call { callee := .value (.func 23), args := #[.tmp 70, .tmp 71, .tmp 76], argTypes := #[26, 3, 27] }, type := 4, pos := "law.go:91", after := #[{ on := 3, ground := .data }, { on := 4, ground := .data }, { on := 9, ground := .data }, { on := 9, ground := .chain }, { on := 2, ground := .guard }], guard := some (2, false) }) (v := undef) rfl (by kernel_rfl) (by kernel_rfl) (by kernel_rfl) (fun _ _ _ h => h) (Or.inr ⟨by rfl, rfl⟩) hS ?_
              simp only [Act.put, List.setIfInBounds_toArray, List.set_cons_zero, List.set_cons_succ]
              refine wpAnyH_take (i := 11) (oi := { dst := some 78, op := .unOp .not 4 (.tmp 77), type := 4, pos := "law.go:91", after := #[{ on := 10, ground := .data }, { on := 2, ground := .guard }], guard := some (2, false) }) (v := undef) rfl (by kernel_rfl) (by kernel_rfl) (by kernel_rfl) (fun _ _ _ h => h) (Or.inr ⟨by rfl, rfl⟩) hS ?_
              simp only [Act.put, List.setIfInBounds_toArray, List.set_cons_zero, List.set_cons_succ]
              refine wpAnyH_take (i := 12) (oi := { dst := some 79, op := .pick (.tmp 69) (.const (.bool true)) (.tmp 78), type := 4, pos := "law.go:91", after := #[{ on := 2, ground := .data }, { on := 11, ground := .data }], guard := none }) (v := ?_) rfl (by kernel_rfl) (by kernel_rfl) (by kernel_rfl) (fun _ _ _ h => h) (Or.inl ⟨by rfl, ?_⟩) hS ?_
              rotate_left 1
              · intro w hw; go_simp; try (with_reducible rfl)
              simp only [Act.put, List.setIfInBounds_toArray, List.set_cons_zero, List.set_cons_succ]
              refine wpAnyH_take (i := 13) (oi := { dst := some 80, op := .move (.tmp 79), type := 4, pos := "law.go:91", after := #[{ on := 12, ground := .data }, { on := 10, ground := .chain }], guard := none }) (v := ?_) rfl (by kernel_rfl) (by kernel_rfl) (by kernel_rfl) (fun _ _ _ h => h) (Or.inl ⟨by rfl, ?_⟩) hS ?_
              rotate_left 1
              · intro w hw; go_simp; try (with_reducible rfl)
              simp only [Act.put, List.setIfInBounds_toArray, List.set_cons_zero, List.set_cons_succ]
              refine wpAnyH_ready (rs := [14]) (by kernel_rfl) (by simp) (AllReadyH.cons (o := { dst := some 81, op := .call { callee := .value (.func 25), args := #[], argTypes := #[] }, type := 4, pos := "law.go:91", after := #[{ on := 13, ground := .chain }, { on := 13, ground := .guard }], guard := some (13, true) }) rfl (fun K hK => ?_) AllReadyH.nil)
              go_simp
              go_at_call 25
              refine (HAl.out _ (HA.out _ (below_dn H8.out 1)).2).mono ?_
              rintro e w9 ⟨rfl, b9⟩
              have H9 := Lib.hid (show Below w5.heap.size w5 w9 from (below_dn H8.out 1).trans (b9.mono (below_dn H8.out 1).size))
              clear b9
              try dsimp only
              refine hK.out _ _ H9.out (fun hHeld => ?_)
              clear hK K
              try simp only [Act.put, List.setIfInBounds_toArray, List.set_cons_zero, List.set_cons_succ]
              refine wpAnyH_take (i := 15) (oi := { dst := some 82, op := .pick (.tmp 80) (.tmp 81) (.const (.bool false)), type := 4, pos := "law.go:91", after := #[{ on := 13, ground := .data }, { on := 14, ground := .data }], guard := none }) (v := ?_) rfl (by kernel_rfl) (by kernel_rfl) (by kernel_rfl) (fun _ _ _ h => h) (Or.inl ⟨by rfl, ?_⟩) H9.out ?_
              rotate_left 1
              · intro w hw; go_simp; try (with_reducible rfl)
              simp only [Act.put, List.setIfInBounds_toArray, List.set_cons_zero, List.set_cons_succ]
              refine wpAnyH_take (i := 16) (oi := { dst := some 4, op := .assign (.tmp 82), type := 4, pos := "law.go:91", after := #[{ on := 15, ground := .data }, { on := 14, ground := .chain }, { on := 0, ground := .phase }, { on := 1, ground := .phase }, { on := 2, ground := .phase }, { on := 3, ground := .phase }, { on := 4, ground := .phase }, { on := 5, ground := .phase }, { on := 6, ground := .phase }, { on := 7, ground := .phase }, { on := 8, ground := .phase }, { on := 9, ground := .phase }, { on := 10, ground := .phase }, { on := 11, ground := .phase }, { on := 12, ground := .phase }, { on := 13, ground := .phase }, { on := 14, ground := .phase }, { on := 15, ground := .phase }], guard := none }) (v := ?_) rfl (by kernel_rfl) (by kernel_rfl) (by kernel_rfl) (fun _ _ _ h => h) (Or.inl ⟨by rfl, ?_⟩) H9.out ?_
              rotate_left 1
              · intro w hw; go_simp; try (with_reducible rfl)
              simp only [Act.put, List.setIfInBounds_toArray, List.set_cons_zero, List.set_cons_succ]
              refine wpAnyH_done (by kernel_rfl) ?_ _

              go_wp2
              go_ret
              exact ⟨rfl, (HA.out _ H9.out).2⟩
            | succ m =>
              have hm := hR3 m rfl
              have HFm := Lib.hid (HFt2.out (m : Int) (by omega) (by omega))
              rw [hm] at HFm
              have e2 : ¬ ((m : Int) + 1 = 0) := by omega
              have e3 : IntKind.i64.wrap (m : Int) = (m : Int) := by rw [IntKind.wrap_i64]; omega
              refine wp_region_held_drew (S := fun w' => Below w5.heap.size w5 w') (by kernel_rfl) (below_dn H8.out 1) (fun hS => ?_)
              refine wpAnyH_take (i := 0) (oi := { dst := some 67, op := .move (.tmp 5), type := 3, pos := "law.go:91", after := #[], guard := none }) (v := ?_) rfl (by kernel_rfl) (by kernel_rfl) (by kernel_rfl) (fun _ _ _ h => h) (Or.inl ⟨by rfl, ?_⟩) hS ?_
              rotate_left 1
              · intro w hw; go_simp; try (with_reducible rfl)
              simp only [Act.put, List.setIfInBounds_toArray, List.set_cons_zero, List.set_cons_succ]
              refine wpAnyH_take (i := 1) (oi := { dst := some 68, op := .binOp .eql 3 (.tmp 67) (.const (.int .i64 0)) 3, type := 4, pos := "law.go:91", after := #[{ on := 0, ground := .data }], guard := none }) (v := ?_) rfl (by kernel_rfl) (by kernel_rfl) (by kernel_rfl) (fun _ _ _ h => h) (Or.inl ⟨by rfl, ?_⟩) hS ?_
              rotate_left 1
              · intro w hw; go_simp; try (with_reducible rfl)
              simp only [Act.put, List.setIfInBounds_toArray, List.set_cons_zero, List.set_cons_succ]
              refine wpAnyH_take (i := 2) (oi := { dst := some 69, op := .move (.tmp 68), type := 4, pos := "law.go:91", after := #[{ on := 1, ground := .data }], guard := none }) (v := ?_) rfl (by kernel_rfl) (by kernel_rfl) (by kernel_rfl) (fun _ _ _ h => h) (Or.inl ⟨by rfl, ?_⟩) hS ?_
              rotate_left 1
              · intro w hw; go_simp; try (with_reducible rfl)
              simp only [Act.put, List.setIfInBounds_toArray, List.set_cons_zero, List.set_cons_succ]
              refine wpAnyH_take (i := 3) (oi := { dst := some 70, op := .load 26 (.tmp 2), type := 26, pos := "law.go:91", after := #[{ on := 2, ground := .guard }], guard := some (2, false) }) (v := ?_) rfl (by kernel_rfl) (by kernel_rfl) (by kernel_rfl) (fun _ _ _ h => h) (Or.inl ⟨by rfl, ?_⟩) hS ?_
              rotate_left 1
              · intro w hw; obtain ⟨⟨k0, k1, k2, k3⟩, _⟩ := HA.out _ hw; go_simp; try (with_reducible rfl)
              simp only [Act.put, List.setIfInBounds_toArray, List.set_cons_zero, List.set_cons_succ]
              refine wpAnyH_take (i := 4) (oi := { dst := some 71, op := .move (.tmp 1), type := 3, pos := "law.go:91", after := #[{ on := 2, ground := .guard }], guard := some (2, false) }) (v := ?_) rfl (by kernel_rfl) (by kernel_rfl) (by kernel_rfl) (fun _ _ _ h => h) (Or.inl ⟨by rfl, ?_⟩) hS ?_
              rotate_left 1
              · intro w hw; go_simp; try (with_reducible rfl)
              simp only [Act.put, List.setIfInBounds_toArray, List.set_cons_zero, List.set_cons_succ]
              refine wpAnyH_take (i := 5) (oi := { dst := some 72, op := .load 26 (.tmp 2), type := 26, pos := "law.go:91", after := #[{ on := 2, ground := .guard }], guard := some (2, false) }) (v := ?_) rfl (by kernel_rfl) (by kernel_rfl) (by kernel_rfl) (fun _ _ _ h => h) (Or.inl ⟨by rfl, ?_⟩) hS ?_
              rotate_left 1
              · intro w hw; obtain ⟨⟨k0, k1, k2, k3⟩, _⟩ := HA.out _ hw; go_simp; try (with_reducible rfl)
              simp only [Act.put, List.setIfInBounds_toArray, List.set_cons_zero, List.set_cons_succ]
              refine wpAnyH_take (i := 6) (oi := { dst := some 73, op := .move (.tmp 1), type := 3, pos := "law.go:91", after := #[{ on := 2, ground := .guard }], guard := some (2, false) }) (v := ?_) rfl (by kernel_rfl) (by kernel_rfl) (by kernel_rfl) (fun _ _ _ h => h) (Or.inl ⟨by rfl, ?_⟩) hS ?_
              rotate_left 1
              · intro w hw; go_simp; try (with_reducible rfl)
              simp only [Act.put, List.setIfInBounds_toArray, List.set_cons_zero, List.set_cons_succ]
              refine wpAnyH_take (i := 7) (oi := { dst := some 74, op := .move (.tmp 5), type := 3, pos := "law.go:91", after := #[{ on := 2, ground := .guard }], guard := some (2, false) }) (v := ?_) rfl (by kernel_rfl) (by kernel_rfl) (by kernel_rfl) (fun _ _ _ h => h) (Or.inl ⟨by rfl, ?_⟩) hS ?_
              rotate_left 1
              · intro w hw; go_simp; try (with_reducible rfl)
              simp only [Act.put, List.setIfInBounds_toArray, List.set_cons_zero, List.set_cons_succ]
              refine wpAnyH_take (i := 8) (oi := { dst := some 75, op := .binOp .sub 3 (.tmp 74) (.const (.int .i64 1)) 3, type := 3, pos := "law.go:91", after := #[{ on := 7, ground := .data }, { on := 2, ground := .guard }], guard := some (2, false) }) (v := ?_) rfl (by kernel_rfl) (by kernel_rfl) (by kernel_rfl) (fun _ _ _ h => h) (Or.inl ⟨by rfl, ?_⟩) hS ?_
              rotate_left 1
              · intro w hw; go_simp; try (with_reducible rfl)
              simp only [Act.put, List.setIfInBounds_toArray, List.set_cons_zero, List.set_cons_succ]
              refine wpAnyH_ready (rs := [9]) (by kernel_rfl) (by simp) (AllReadyH.cons (o := { dst := some 76, op := .call { callee := .value (.func 24), args := #[.tmp 72, .tmp 73, .tmp 75], argTypes := #[26, 3, 3] }, type := 27, pos := "law.go:91", after := #[{ on := 5, ground := .data }, { on := 6, ground := .data }, { on := 8, ground := .data }, { on := 2, ground := .chain }, { on := 2, ground := .guard }], guard := some (2, false) }) rfl (fun K hK => ?_) AllReadyH.nil)
              go_simp
              go_at_call 24
              refine (HAk.out (m : Int) _ (HA.out _ (below_dn H8.out 1)).2).mono ?_
              rintro e w6 ⟨rfl, b6⟩
              have H6 := Lib.hid (show Below w5.heap.size w5 w6 from (below_dn H8.out 1).trans (b6.mono (below_dn H8.out 1).size))
              clear b6
              try dsimp only
              refine hK.out _ _ H6.out (fun hHeld => ?_)
              clear hK K
              try simp only [Act.put, List.setIfInBounds_toArray, List.set_cons_zero, List.set_cons_succ]
              refine wpAnyH_ready (rs := [10]) (by kernel_rfl) (by simp) (AllReadyH.cons (o := { dst := some 77, op := .call { callee := .value (.func 23), args := #[.tmp 70, .tmp 71, .tmp 76], argTypes := #[26, 3, 27] }, type := 4, pos := "law.go:91", after := #[{ on := 3, ground := .data }, { on := 4, ground := .data }, { on := 9, ground := .data }, { on := 9, ground := .chain }, { on := 2, ground := .guard }], guard := some (2, false) }) rfl (fun K hK => ?_) AllReadyH.nil)
              go_simp
              go_at_call 23
              refine (HFm.out _ (HA.out _ H6.out).2).mono ?_
              rintro e w10 ⟨rfl, b7⟩
              have H10 := Lib.hid (show Below w5.heap.size w5 w10 from H6.out.trans (b7.mono H6.out.size))
              clear b7
              try dsimp only
              refine hK.out _ _ H10.out (fun hHeld => ?_)
              clear hK K
              try simp only [Act.put, List.setIfInBounds_toArray, List.set_cons_zero, List.set_cons_succ]
              refine wpAnyH_take (i := 11) (oi := { dst := some 78, op := .unOp .not 4 (.tmp 77), type := 4, pos := "law.go:91", after := #[{ on := 10, ground := .data }, { on := 2, ground := .guard }], guard := some (2, false) }) (v := ?_) rfl (by kernel_rfl) (by kernel_rfl) (by kernel_rfl) (fun _ _ _ h => h) (Or.inl ⟨by rfl, ?_⟩) H10.out ?_
              rotate_left 1
              · intro w hw; go_simp; try (with_reducible rfl)
              simp only [Act.put, List.setIfInBounds_toArray, List.set_cons_zero, List.set_cons_succ]
              refine wpAnyH_take (i := 12) (oi := { dst := some 79, op := .pick (.tmp 69) (.const (.bool true)) (.tmp 78), type := 4, pos := "law.go:91", after := #[{ on := 2, ground := .data }, { on := 11, ground := .data }], guard := none }) (v := ?_) rfl (by kernel_rfl) (by kernel_rfl) (by kernel_rfl) (fun _ _ _ h => h) (Or.inl ⟨by rfl, ?_⟩) H10.out ?_
              rotate_left 1
              · intro w hw; go_simp; try (with_reducible rfl)
              simp only [Act.put, List.setIfInBounds_toArray, List.set_cons_zero, List.set_cons_succ]
              refine wpAnyH_take (i := 13) (oi := { dst := some 80, op := .move (.tmp 79), type := 4, pos := "law.go:91", after := #[{ on := 12, ground := .data }, { on := 10, ground := .chain }], guard := none }) (v := ?_) rfl (by kernel_rfl) (by kernel_rfl) (by kernel_rfl) (fun _ _ _ h => h) (Or.inl ⟨by rfl, ?_⟩) H10.out ?_
              rotate_left 1
              · intro w hw; go_simp; try (with_reducible rfl)
              simp only [Act.put, List.setIfInBounds_toArray, List.set_cons_zero, List.set_cons_succ]
              refine wpAnyH_ready (rs := [14]) (by kernel_rfl) (by simp) (AllReadyH.cons (o := { dst := some 81, op := .call { callee := .value (.func 25), args := #[], argTypes := #[] }, type := 4, pos := "law.go:91", after := #[{ on := 13, ground := .chain }, { on := 13, ground := .guard }], guard := some (13, true) }) rfl (fun K hK => ?_) AllReadyH.nil)
              go_simp
              go_at_call 25
              refine (HAl.out _ (HA.out _ H10.out).2).mono ?_
              rintro e w9 ⟨rfl, b9⟩
              have H9 := Lib.hid (show Below w5.heap.size w5 w9 from H10.out.trans (b9.mono H10.out.size))
              clear b9
              try dsimp only
              refine hK.out _ _ H9.out (fun hHeld => ?_)
              clear hK K
              try simp only [Act.put, List.setIfInBounds_toArray, List.set_cons_zero, List.set_cons_succ]
              refine wpAnyH_take (i := 15) (oi := { dst := some 82, op := .pick (.tmp 80) (.tmp 81) (.const (.bool false)), type := 4, pos := "law.go:91", after := #[{ on := 13, ground := .data }, { on := 14, ground := .data }], guard := none }) (v := ?_) rfl (by kernel_rfl) (by kernel_rfl) (by kernel_rfl) (fun _ _ _ h => h) (Or.inl ⟨by rfl, ?_⟩) H9.out ?_
              rotate_left 1
              · intro w hw; go_simp; try (with_reducible rfl)
              simp only [Act.put, List.setIfInBounds_toArray, List.set_cons_zero, List.set_cons_succ]
              refine wpAnyH_take (i := 16) (oi := { dst := some 4, op := .assign (.tmp 82), type := 4, pos := "law.go:91", after := #[{ on := 15, ground := .data }, { on := 14, ground := .chain }, { on := 0, ground := .phase }, { on := 1, ground := .phase }, { on := 2, ground := .phase }, { on := 3, ground := .phase }, { on := 4, ground := .phase }, { on := 5, ground := .phase }, { on := 6, ground := .phase }, { on := 7, ground := .phase }, { on := 8, ground := .phase }, { on := 9, ground := .phase }, { on := 10, ground := .phase }, { on := 11, ground := .phase }, { on := 12, ground := .phase }, { on := 13, ground := .phase }, { on := 14, ground := .phase }, { on := 15, ground := .phase }], guard := none }) (v := ?_) rfl (by kernel_rfl) (by kernel_rfl) (by kernel_rfl) (fun _ _ _ h => h) (Or.inl ⟨by rfl, ?_⟩) H9.out ?_
              rotate_left 1
              · intro w hw; go_simp; try (with_reducible rfl)
              simp only [Act.put, List.setIfInBounds_toArray, List.set_cons_zero, List.set_cons_succ]
              refine wpAnyH_done (by kernel_rfl) ?_ _

              go_wp2
              go_ret
              exact ⟨rfl, (HA.out _ H9.out).2⟩
end Go.Proofs.YtchmdnmifpjfkaaDoor
