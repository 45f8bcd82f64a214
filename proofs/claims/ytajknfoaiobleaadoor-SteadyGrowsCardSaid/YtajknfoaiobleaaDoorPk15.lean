/- Several texts in one: TN, TO. -/
import Derived.Test.YtajknfoaiobleaaDoorPk14
import Derived.Test.YtajknfoaiobleaaDoorPk13
/- The walk of SteadyTells. -/
namespace Go.Proofs.YtajknfoaiobleaaDoor
open Go.RowKit

theorem eqIn_strow (d : Nat) (a b c : Int) (w : World) : (Op.equalIn (d + 2) 37 (.agg #[.int .i64 a, .int .i64 b, .int .i64 c]) (.agg #[.int .i64 a, .int .i64 b, .int .i64 c])).run Tryd.prog w = .ok true w := by
  rw [run_equalIn_agg (P := Tryd.prog) w (d + 1) 37 _ _ (by kernel_rfl) (by kernel_rfl)]
  simp [Op.eqFields, go_sem, part]
theorem neq_strow (a b c : Int) (w : World) : (Go.binOp .neq 37 (.agg #[.int .i64 a, .int .i64 b, .int .i64 c]) (.agg #[.int .i64 a, .int .i64 b, .int .i64 c])).run Tryd.prog w = .ok (.bool false) w := by
  have h : (Op.equal 37 (.agg #[.int .i64 a, .int .i64 b, .int .i64 c]) (.agg #[.int .i64 a, .int .i64 b, .int .i64 c])).run Tryd.prog w = .ok true w := eqIn_strow 9998 a b c w
  simp [Go.binOp, h]
set_option maxHeartbeats 8000000 in
set_option maxRecDepth 100000 in
theorem law_tells18 {w : World} {V : Nat → Prop} {x : Img} {S : ImgS} (h : ImgAt w V x S) (ht : Tab w) (s hold : BitVec 32) :
    Calls Tryd.prog 3 #[.agg #[.int .i64 x.res, .slice S.t.sp x.tasks.length S.t.c, .slice S.m.sp x.modes.length S.m.c, .slice S.e.sp x.edges.length S.e.c], .int .u32 (w32 s), .int .u32 (w32 hold)] w fun e w' => e = .returned (.bool true) ∧ Below w.heap.size w w' := by
  have hp := ht.pos
  have HGr := Lib.hid (show ∀ wx, Below w.heap.size w wx → _ from fun wx hb => great10_any (h.new hb))
  have HRi := Lib.hid (show ∀ wx, Below w.heap.size w wx → _ from fun wx hb => rRight_any (h.new hb))
  have HWs := Lib.hid (show x.tasks.length ≤ 32 → ∀ wx : World, _ from fun hn wx => Within_any (w := wx) (x := x) (S := S) s hn)
  have HWh := Lib.hid (show x.tasks.length ≤ 32 → ∀ wx : World, _ from fun hn wx => Within_any (w := wx) (x := x) (S := S) hold hn)
  have HWl := Lib.hid (show ∀ i, i < 32 → (wthF x s).getLsbD i = true → i < x.tasks.length from fun i a b => wthF_lt a b)
  obtain ⟨y, hy⟩ : ∃ y, wthF x s = y := ⟨_, rfl⟩
  obtain ⟨yh, hyh⟩ : ∃ y, wthF x hold = y := ⟨_, rfl⟩
  rw [hy] at HWs HWl
  rw [hyh] at HWh
  clear hy hyh
  have HOr := Lib.hid (or32 y yh)
  obtain ⟨u, hu⟩ : ∃ u, y ||| yh = u := ⟨_, rfl⟩
  rw [hu] at HOr
  clear hu
  have HOf := Lib.hid (show ∀ wx, Below w.heap.size w wx → _ from fun wx hb => cOf_any (h.new hb) (ht.below hp hb) u)
  have HRs := Lib.hid (show GoodI x → ∀ i, i < x.tasks.length → ∀ wx, Below w.heap.size w wx → _ from fun hG i hi wx hb => r18Resp_any (h.new hb) hG y yh u i hi)
  have HSr := Lib.hid (show GoodI x → ∀ i, i < x.tasks.length → ∀ wx, Below w.heap.size w wx → _ from fun hG i hi wx hb => stResp_any (h.new hb) (ht.below hp hb) hG y yh (ceilF x u) i hi)
  have HBr := Lib.hid (show GoodI x → ∀ i, i < x.tasks.length → ∀ wx, Below w.heap.size w wx → _ from fun hG i hi wx hb => r18Block_any (h.new hb) hG yh u i hi)
  have HBs := Lib.hid (show GoodI x → ∀ i : Nat, ∀ wx, Below w.heap.size w wx → _ from fun hG i wx hb => stBlock_any (h.new hb) (ht.below hp hb) hG yh (ceilF x u) (i : Int))
  have HNo := Lib.hid (show ∀ t : Int, (t < 0 ∨ (x.tasks.length : Int) ≤ t) → ∀ wx, Below w.heap.size w wx → _ from fun t htt wx _ => stResp_no (w := wx) (x := x) (S := S) y yh (ceilF x u) t htt)
  have HMo := Lib.hid (show GoodI x → ∀ wx, Below w.heap.size w wx → _ from fun hG wx hb => modes_any (h.new hb) (ht.below hp hb) hG y HWl.out)
  have HAl := Lib.hid (show ∀ wx, Below w.heap.size w wx → _ from fun wx hb => l18alive_any wx (ht.below hp hb))
  have HGd := Lib.hid (show rightB x = true → GoodI x from rightB_good)
  have HTi := Lib.hid (tb_info (ceilF x u))
  have HTs := Lib.hid (And.intro (tb_size (ceilF x u)) (tb_one (ceilF x u)))
  obtain ⟨T, hT⟩ : ∃ T, tb (ceilF x u) = T := ⟨_, rfl⟩
  rw [hT] at HOf HSr HBs HNo HTi HTs
  obtain ⟨nT, hnT⟩ : ∃ n, x.tasks.length = n := ⟨_, rfl⟩
  obtain ⟨nM, hnM⟩ : ∃ n, x.modes.length = n := ⟨_, rfl⟩
  obtain ⟨nE, hnE⟩ : ∃ n, x.edges.length = n := ⟨_, rfl⟩
  rw [hnT, hnM, hnE] at HGr HRi HWs HWh HOf HRs HSr HBr HBs HNo HMo
  rw [hnT, hnM, hnE]
  have HN := Lib.hid hnT
  obtain ⟨Z, hZ⟩ : ∃ Z, Z = w.heap.size := ⟨_, rfl⟩
  clear h ht hp hnT hnM hnE hT
  go_enter Tryd.func3, Tryd.ntmps3
  go_upto_region 1 with fail
  rw [← hZ]
  generalize hw2 : World.alloc _ _ = w2
  have H2 := Lib.hid (show Below w.heap.size w w2 ∧ RowAt w2 Z 26 #[.int .i64 x.res, .slice S.t.sp nT S.t.c, .slice S.m.sp nM S.m.c, .slice S.e.sp nE S.e.c] by
    rw [← hw2, hZ]
    exact ⟨(Below.refl _ _).alloc (Nat.le_refl _) _, RowAt.mk _ _ _⟩)
  clear hw2 hZ
  obtain ⟨c0, c1, c2, c3⟩ := img_cells H2.out.2
  cases hg : greatI x
  case true =>
    rw [hg] at HGr
    clear hg
    go_wp2_with (first
      | (go_at_call 6; refine (HGr.out _ H2.out.1).mono ?_; rintro e w3 ⟨rfl, b3⟩; have H3 := Lib.hid (H2.out.1.trans (b3.mono H2.out.1.size)); clear b3)
      | fail)
    go_ret
    exact ⟨rfl, H3.out⟩
  case false =>
    rw [hg] at HGr
    clear hg
    cases hr : rightB x
    case false =>
      rw [hr] at HRi
      clear hr
      go_wp2_with (first
        | (go_at_call 6; refine (HGr.out _ H2.out.1).mono ?_; rintro e w3 ⟨rfl, b3⟩; have H3 := Lib.hid (And.intro (H2.out.1.trans (b3.mono H2.out.1.size)) (H2.out.2.new b3)); clear b3 c0 c1 c2 c3 HGr; obtain ⟨c0, c1, c2, c3⟩ := img_cells H3.out.2)
        | (go_at_call 7; refine (HRi.out _ H3.out.1).mono ?_; rintro e w4 ⟨rfl, b4⟩; have H4 := Lib.hid (H3.out.1.trans (b4.mono H3.out.1.size)); clear b4)
        | fail)
      go_ret
      exact ⟨rfl, H4.out⟩
    case true =>
      have HG := Lib.hid (HGd.out hr)
      rw [hr] at HRi
      have HWs2 := Lib.hid (HWs.out (by have := HG.out.n16; have := HN.out; omega))
      have HWh2 := Lib.hid (HWh.out (by have := HG.out.n16; have := HN.out; omega))
      have HRs2 := Lib.hid (HRs.out HG.out)
      have HSr2 := Lib.hid (HSr.out HG.out)
      have HBr2 := Lib.hid (HBr.out HG.out)
      have HBs2 := Lib.hid (HBs.out HG.out)
      have HMo2 := Lib.hid (HMo.out HG.out)
      have H16 := HG.out.n16
      rw [HN.out] at H16
      clear hr HWs HWh HRs HSr HBr HBs HMo HGd HG
      go_upto_region 3 with (first
        | (go_at_call 6; refine (HGr.out _ H2.out.1).mono ?_; rintro e w3 ⟨rfl, b3⟩; have H3 := Lib.hid (And.intro (H2.out.1.trans (b3.mono H2.out.1.size)) (H2.out.2.new b3)); clear b3 c0 c1 c2 c3 HGr; obtain ⟨c0, c1, c2, c3⟩ := img_cells H3.out.2)
        | (go_at_call 7; refine (HRi.out _ H3.out.1).mono ?_; rintro e w4 ⟨rfl, b4⟩; have H4 := Lib.hid (And.intro (H3.out.1.trans (b4.mono H3.out.1.size)) (H3.out.2.new b4)); clear b4 c0 c1 c2 c3 HRi; obtain ⟨c0, c1, c2, c3⟩ := img_cells H4.out.2)
        | fail)
      clear H2 H3 c0 c1 c2 c3
      have HD := Lib.hid (show Below w.heap.size w w4.drew ∧ RowAt w4.drew Z 26 #[.int .i64 x.res, .slice S.t.sp nT S.t.c, .slice S.m.sp nM S.m.c, .slice S.e.sp nE S.e.c] from ⟨below_dn H4.out.1 1, H4.out.2⟩)
      refine wp_region_held_drew (S := fun w' => RowAt w' Z 26 #[.int .i64 x.res, .slice S.t.sp nT S.t.c, .slice S.m.sp nM S.m.c, .slice S.e.sp nE S.e.c]) (by kernel_rfl) HD.out.2 (fun hS => ?_)
      refine wpAnyH_take (i := 0) (oi := { dst := some 27, op := .load 26 (.tmp 3), type := 26, pos := "law.go:37", after := #[], guard := none }) (v := ?_) rfl (by kernel_rfl) (by kernel_rfl) (by kernel_rfl) (fun _ _ _ h => h) (Or.inl ⟨by rfl, ?_⟩) hS ?_
      rotate_left 1
      · intro w hw; obtain hs := hw; obtain ⟨k0, k1, k2, k3⟩ := img_cells hw; go_simp; try (with_reducible rfl)
      simp only [Act.put, List.setIfInBounds_toArray, List.set_cons_zero, List.set_cons_succ]
      refine wpAnyH_take (i := 1) (oi := { dst := some 28, op := .move (.tmp 1), type := 28, pos := "law.go:37", after := #[], guard := none }) (v := ?_) rfl (by kernel_rfl) (by kernel_rfl) (by kernel_rfl) (fun _ _ _ h => h) (Or.inl ⟨by rfl, ?_⟩) hS ?_
      rotate_left 1
      · intro w hw; obtain hs := hw; go_simp; try (with_reducible rfl)
      simp only [Act.put, List.setIfInBounds_toArray, List.set_cons_zero, List.set_cons_succ]
      refine wpAnyH_take (i := 3) (oi := { dst := some 30, op := .load 26 (.tmp 3), type := 26, pos := "law.go:37", after := #[], guard := none }) (v := ?_) rfl (by kernel_rfl) (by kernel_rfl) (by kernel_rfl) (fun _ _ _ h => h) (Or.inl ⟨by rfl, ?_⟩) hS ?_
      rotate_left 1
      · intro w hw; obtain hs := hw; obtain ⟨k0, k1, k2, k3⟩ := img_cells hw; go_simp; try (with_reducible rfl)
      simp only [Act.put, List.setIfInBounds_toArray, List.set_cons_zero, List.set_cons_succ]
      refine wpAnyH_take (i := 4) (oi := { dst := some 31, op := .move (.tmp 2), type := 28, pos := "law.go:37", after := #[], guard := none }) (v := ?_) rfl (by kernel_rfl) (by kernel_rfl) (by kernel_rfl) (fun _ _ _ h => h) (Or.inl ⟨by rfl, ?_⟩) hS ?_
      rotate_left 1
      · intro w hw; obtain hs := hw; go_simp; try (with_reducible rfl)
      simp only [Act.put, List.setIfInBounds_toArray, List.set_cons_zero, List.set_cons_succ]
      refine wpAnyH_ready (rs := [2]) (by kernel_rfl) (by simp) (AllReadyH.cons (o := { dst := some 29, op := .call { callee := .value (.func 8), args := #[.tmp 27, .tmp 28], argTypes := #[26, 28] }, type := 28, pos := "law.go:37", after := #[{ on := 0, ground := .data }, { on := 1, ground := .data }], guard := none }) rfl (fun K hK => ?_) AllReadyH.nil)
      go_simp
      go_at_call 8
      refine (HWs2.out _).mono ?_
      rintro e w5 ⟨rfl, b5⟩
      have H5 := Lib.hid (show Below w.heap.size w w5 ∧ RowAt w5 Z 26 #[.int .i64 x.res, .slice S.t.sp nT S.t.c, .slice S.m.sp nM S.m.c, .slice S.e.sp nE S.e.c] from ⟨HD.out.1.trans (b5.mono HD.out.1.size), HD.out.2.new b5⟩)
      clear b5
      try dsimp only
      refine hK.out _ _ H5.out.2 (fun hHeld => ?_)
      clear hK K
      try simp only [Act.put, List.setIfInBounds_toArray, List.set_cons_zero, List.set_cons_succ]
      refine wpAnyH_ready (rs := [5]) (by kernel_rfl) (by simp) (AllReadyH.cons (o := { dst := some 32, op := .call { callee := .value (.func 8), args := #[.tmp 30, .tmp 31], argTypes := #[26, 28] }, type := 28, pos := "law.go:37", after := #[{ on := 3, ground := .data }, { on := 4, ground := .data }, { on := 2, ground := .chain }], guard := none }) rfl (fun K hK => ?_) AllReadyH.nil)
      go_simp
      go_at_call 8
      refine (HWh2.out _).mono ?_
      rintro e w6 ⟨rfl, b6⟩
      have H6 := Lib.hid (show Below w.heap.size w w6 ∧ RowAt w6 Z 26 #[.int .i64 x.res, .slice S.t.sp nT S.t.c, .slice S.m.sp nM S.m.c, .slice S.e.sp nE S.e.c] from ⟨H5.out.1.trans (b6.mono H5.out.1.size), H5.out.2.new b6⟩)
      clear b6
      try dsimp only
      refine hK.out _ _ H6.out.2 (fun hHeld => ?_)
      clear hK K
      try simp only [Act.put, List.setIfInBounds_toArray, List.set_cons_zero, List.set_cons_succ]
      refine wpAnyH_ready (rs := [6]) (by kernel_rfl) (by simp) (AllReadyH.cons (o := { dst := some 1, op := .assign (.tmp 29), type := 28, pos := "law.go:37", after := #[{ on := 2, ground := .data }, { on := 5, ground := .chain }, { on := 0, ground := .phase }, { on := 1, ground := .phase }, { on := 2, ground := .phase }, { on := 3, ground := .textOnly Go.Departure.lateStores }, { on := 4, ground := .textOnly Go.Departure.lateStores }, { on := 5, ground := .textOnly Go.Departure.lateStoresUnsure }], guard := none }) rfl (fun K hK => ?_) AllReadyH.nil)
      go_simp
      refine hK.out _ _ H6.out.2 (fun hHeld => ?_)
      clear hK K
      try simp only [Act.put, List.setIfInBounds_toArray, List.set_cons_zero, List.set_cons_succ]
      refine wpAnyH_ready (rs := [7]) (by kernel_rfl) (by simp) (AllReadyH.cons (o := { dst := some 2, op := .assign (.tmp 32), type := 28, pos := "law.go:37", after := #[{ on := 5, ground := .data }, { on := 6, ground := .chain }, { on := 0, ground := .phase }, { on := 1, ground := .phase }, { on := 2, ground := .phase }, { on := 3, ground := .phase }, { on := 4, ground := .phase }, { on := 5, ground := .phase }, { on := 6, ground := .phase }], guard := none }) rfl (fun K hK => ?_) AllReadyH.nil)
      go_simp
      refine hK.out _ _ H6.out.2 (fun hHeld => ?_)
      clear hK K
      try simp only [Act.put, List.setIfInBounds_toArray, List.set_cons_zero, List.set_cons_succ]
      refine wpAnyH_done (by kernel_rfl) ?_ _

      clear HWs2 HWh2
      obtain ⟨wq, hwq⟩ : ∃ wq, wq = w6 := ⟨_, rfl⟩
      clear hwq wq HD H4 H5
      obtain ⟨c0, c1, c2, c3⟩ := img_cells H6.out.2
      have hor := HOr.out
      go_upto_region 6 with (first
        | (go_at_call 9; refine (HOf.out _ H6.out.1).mono ?_; rintro e w7 ⟨rfl, b7⟩; have H7 := Lib.hid (show Below w.heap.size w w7 ∧ RowAt w7 Z 26 #[.int .i64 x.res, .slice S.t.sp nT S.t.c, .slice S.m.sp nM S.m.c, .slice S.e.sp nE S.e.c] from ⟨H6.out.1.trans (b7.mono H6.out.1.size), H6.out.2.new b7⟩); clear b7 c0 c1 c2 c3)
        | (refine wpList_store_row rfl 32 (.tmp 9) (.tmp 39) rfl w7.heap.size T rfl rfl 32 (tb (fun _ => 0)) (RowAt.mk w7 _ _) HTi.out (by rw [HTs.out.1]; rfl) HTs.out.2 ?_)
        | fail)
      obtain ⟨A, hA⟩ : ∃ A, A = w7.heap.size := ⟨_, rfl⟩
      rw [← hA]
      generalize hw8 : World.setRow _ _ _ = w8
      have H8 := Lib.hid (show Below w.heap.size w w8 ∧ RowAt w8 Z 26 #[.int .i64 x.res, .slice S.t.sp nT S.t.c, .slice S.m.sp nM S.m.c, .slice S.e.sp nE S.e.c] ∧ RowAt w8 A 32 T by
        rw [hA] at hw8 ⊢
        have := row_made hw8
        exact ⟨H7.out.1.trans (this.1.mono H7.out.1.size), H7.out.2.new this.1, this.2.1⟩)
      clear hw8 hA H6 H7 HOf
      have c1 : w8.cell? ⟨Z, 1, none⟩ = some (.slice S.t.sp nT S.t.c) := H8.out.2.1.cell 1
      go_upto_region 7 with fail
      clear c1
      go_wp2
      go_loopg [10] nT (fun g v10 wr => ∃ i : Nat, i + g = nT ∧ v10 = .int .i64 (i : Nat) ∧ Aside (Below w.heap.size w wr ∧ RowAt wr Z 26 #[.int .i64 x.res, .slice S.t.sp nT S.t.c, .slice S.m.sp nM S.m.c, .slice S.e.sp nE S.e.c] ∧ RowAt wr A 32 T))
      case atStart => exact ⟨0, by omega, rfl, H8.out⟩
      case round =>
        obtain ⟨i, hig, rfl, HQ⟩ := hrel
        clear H8
        obtain ⟨c0, c1, c2, c3⟩ := img_cells HQ.out.2.1
        have tr := HQ.out.2.2
        cases gk with
        | zero =>
          obtain rfl : nT = i := by omega
          have HNa := Lib.hid (HNo.out (-1) (.inl (by omega)))
          have HNb := Lib.hid (HNo.out (nT : Int) (.inr (Int.le_refl _)))
          go_upto_region 15 with (first
            | (refine wpList_load_row rfl 32 (.tmp 9) rfl A rfl 32 T (0, 0) _ tr Tryd.underlying32 rfl HTi.out ?_)
            | (go_at_call 11; refine (HNa.out _ HQ.out.1).mono ?_; rintro e w9 ⟨rfl, b9⟩; have H9 := Lib.hid (show Below w.heap.size w w9 ∧ RowAt w9 Z 26 #[.int .i64 x.res, .slice S.t.sp nT S.t.c, .slice S.m.sp nM S.m.c, .slice S.e.sp nE S.e.c] ∧ RowAt w9 A 32 T from ⟨HQ.out.1.trans (b9.mono HQ.out.1.size), HQ.out.2.1.new b9, HQ.out.2.2.new b9⟩); clear b9 c0 c1 c2 c3 tr HNa; obtain ⟨c0, c1, c2, c3⟩ := img_cells H9.out.2.1; have tr := H9.out.2.2)
            | fail)
          obtain ⟨B10, hB10⟩ : ∃ B, B = w9.heap.size := ⟨_, rfl⟩
          rw [← hB10]
          generalize hw10 : World.alloc w9 _ = w10
          have H10 := Lib.hid (show (Below w.heap.size w w10 ∧ RowAt w10 Z 26 #[.int .i64 x.res, .slice S.t.sp nT S.t.c, .slice S.m.sp nM S.m.c, .slice S.e.sp nE S.e.c] ∧ RowAt w10 A 32 T) by
            have h := H9.out
            rw [← hw10]
            exact ⟨below_alloc h.1 (Nat.le_refl _) _, row_keep h.2.1 _, row_keep h.2.2 _⟩)
          clear hw10 hB10 c0 c1 c2 c3 tr
          obtain ⟨c0, c1, c2, c3⟩ := img_cells H10.out.2.1
          have tr := H10.out.2.2
          go_upto_region 16 with (first
            | (refine wpList_load_row rfl 32 (.tmp 9) rfl A rfl 32 T (0, 0) _ tr Tryd.underlying32 rfl HTi.out ?_)
            | (go_at_call 11; refine (HNb.out _ H10.out.1).mono ?_; rintro e w11 ⟨rfl, b11⟩; have H11 := Lib.hid (show Below w.heap.size w w11 ∧ RowAt w11 Z 26 #[.int .i64 x.res, .slice S.t.sp nT S.t.c, .slice S.m.sp nM S.m.c, .slice S.e.sp nE S.e.c] ∧ RowAt w11 A 32 T from ⟨H10.out.1.trans (b11.mono H10.out.1.size), H10.out.2.1.new b11, H10.out.2.2.new b11⟩); clear b11 c0 c1 c2 c3 tr HNb; obtain ⟨c0, c1, c2, c3⟩ := img_cells H11.out.2.1; have tr := H11.out.2.2)
            | fail)
          obtain ⟨B12, hB12⟩ : ∃ B, B = w11.heap.size := ⟨_, rfl⟩
          rw [← hB12]
          generalize hw12 : World.alloc w11 _ = w12
          have H12 := Lib.hid (show (Below w.heap.size w w12 ∧ RowAt w12 Z 26 #[.int .i64 x.res, .slice S.t.sp nT S.t.c, .slice S.m.sp nM S.m.c, .slice S.e.sp nE S.e.c] ∧ RowAt w12 A 32 T) by
            have h := H11.out
            rw [← hw12]
            exact ⟨below_alloc h.1 (Nat.le_refl _) _, row_keep h.2.1 _, row_keep h.2.2 _⟩)
          clear hw12 hB12 c0 c1 c2 c3 tr
          obtain ⟨c0, c1, c2, c3⟩ := img_cells H12.out.2.1
          have tr := H12.out.2.2
          go_wp2_with (first
            | (go_at_call 14; refine (HMo2.out _ H12.out.1).mono ?_; rintro e w13 ⟨rfl, b13⟩; have H13 := Lib.hid (show Below w.heap.size w w13 ∧ RowAt w13 Z 26 #[.int .i64 x.res, .slice S.t.sp nT S.t.c, .slice S.m.sp nM S.m.c, .slice S.e.sp nE S.e.c] ∧ RowAt w13 A 32 T from ⟨H12.out.1.trans (b13.mono H12.out.1.size), H12.out.2.1.new b13, H12.out.2.2.new b13⟩); clear b13 c0 c1 c2 c3 tr HMo2; obtain ⟨c0, c1, c2, c3⟩ := img_cells H13.out.2.1; have tr := H13.out.2.2)
            | (go_at_call 15; refine (HAl.out _ H13.out.1).mono ?_; rintro e w14 ⟨rfl, b14⟩; have H14 := Lib.hid (H13.out.1.trans (b14.mono H13.out.1.size)); clear b14)
            | fail)
          go_ret
          exact ⟨rfl, H14.out⟩
        | succ g1 =>
          have hk : i < nT := by omega
          have e1 : (i : Int) < (nT : Int) := by omega
          have hk16 : (i : Int) < 16 := by omega
          have HR := Lib.hid (HRs2.out i hk)
          have HS := Lib.hid (HSr2.out i hk)
          have HB := Lib.hid (HBr2.out i hk)
          have HC := Lib.hid (HBs2.out i)
          obtain ⟨bk, hbk⟩ : ∃ b, blkF x yh (ceilF x u) (i : Int) = b := ⟨_, rfl⟩
          obtain ⟨tt, htt⟩ : ∃ b, tT (rspF x y yh (ceilF x u) i) = b := ⟨_, rfl⟩
          obtain ⟨bt, hbt⟩ : ∃ b, tB (rspF x y yh (ceilF x u) i) = b := ⟨_, rfl⟩
          rw [htt, hbt] at HR
          rw [htt, hbt, hbk] at HS
          rw [hbk] at HB HC
          clear hbk htt hbt
          have hne := neq_strow (i : Int) bk tt
          go_upto_region 10 with (first
            | (go_at_call 10; refine (HR.out _ HQ.out.1).mono ?_; rintro e w9 ⟨rfl, b9⟩; have H9 := Lib.hid (show Below w.heap.size w w9 ∧ RowAt w9 Z 26 #[.int .i64 x.res, .slice S.t.sp nT S.t.c, .slice S.m.sp nM S.m.c, .slice S.e.sp nE S.e.c] ∧ RowAt w9 A 32 T from ⟨HQ.out.1.trans (b9.mono HQ.out.1.size), HQ.out.2.1.new b9, HQ.out.2.2.new b9⟩); clear b9 c0 c1 c2 c3 tr HR; obtain ⟨c0, c1, c2, c3⟩ := img_cells H9.out.2.1; have tr := H9.out.2.2)
            | fail)
          go_upto_region 11 with (first
            | (refine wpList_load_row rfl 32 (.tmp 9) rfl A rfl 32 T (0, 0) _ tr Tryd.underlying32 rfl HTi.out ?_)
            | (go_at_call 11; refine (HS.out _ H9.out.1).mono ?_; rintro e w10 ⟨rfl, b10⟩; have H10 := Lib.hid (show Below w.heap.size w w10 ∧ RowAt w10 Z 26 #[.int .i64 x.res, .slice S.t.sp nT S.t.c, .slice S.m.sp nM S.m.c, .slice S.e.sp nE S.e.c] ∧ RowAt w10 A 32 T from ⟨H9.out.1.trans (b10.mono H9.out.1.size), H9.out.2.1.new b10, H9.out.2.2.new b10⟩); clear b10 c0 c1 c2 c3 tr HS; obtain ⟨c0, c1, c2, c3⟩ := img_cells H10.out.2.1; have tr := H10.out.2.2)
            | fail)
          obtain ⟨B11, hB11⟩ : ∃ B, B = w10.heap.size := ⟨_, rfl⟩
          rw [← hB11]
          generalize hw11 : World.alloc w10 _ = w11
          have H11 := Lib.hid (show (Below w.heap.size w w11 ∧ RowAt w11 Z 26 #[.int .i64 x.res, .slice S.t.sp nT S.t.c, .slice S.m.sp nM S.m.c, .slice S.e.sp nE S.e.c] ∧ RowAt w11 A 32 T) ∧ RowAt w11 B11 37 #[.int .i64 (i : Nat), .int .i64 bk, .int .i64 tt] by
            have h := H10.out
            rw [← hw11, hB11]
            exact ⟨⟨below_alloc h.1 (Nat.le_refl _) _, row_keep h.2.1 _, row_keep h.2.2 _⟩, RowAt.mk _ _ _⟩)
          clear hw11 hB11 c0 c1 c2 c3 tr
          obtain ⟨c0, c1, c2, c3⟩ := img_cells H11.out.1.2.1
          have tr := H11.out.1.2.2
          have HBlk := Lib.hid (And.intro H11.out.1 H11.out.2)
          go_upto_region 12 with (first
            | (go_at_call 12; refine (HB.out _ H11.out.1.1).mono ?_; rintro e w12 ⟨rfl, b12⟩; have H12 := Lib.hid (show Below w.heap.size w w12 ∧ RowAt w12 Z 26 #[.int .i64 x.res, .slice S.t.sp nT S.t.c, .slice S.m.sp nM S.m.c, .slice S.e.sp nE S.e.c] ∧ RowAt w12 A 32 T from ⟨H11.out.1.1.trans (b12.mono H11.out.1.1.size), H11.out.1.2.1.new b12, H11.out.1.2.2.new b12⟩); have HR12 := Lib.hid (H11.out.2.new b12); clear b12 c0 c1 c2 c3 tr; obtain ⟨c0, c1, c2, c3⟩ := img_cells H12.out.2.1; have tr := H12.out.2.2)
            | fail)
          have r0 : w12.cell? ⟨B11, 0, none⟩ = some (.int .i64 (i : Nat)) := HR12.out.cell 0
          have r1 : w12.cell? ⟨B11, 1, none⟩ = some (.int .i64 bk) := HR12.out.cell 1
          have r2 : w12.cell? ⟨B11, 2, none⟩ = some (.int .i64 tt) := HR12.out.cell 2
          go_wp2_with (first
            | (refine wpList_load_want (by rfl) 32 (.tmp 9) rfl A rfl 32 T (0, 0) _ tr Tryd.underlying32 rfl HTi.out ?_)
            | (refine wpList_load_row rfl 32 (.tmp 9) rfl A rfl 32 T (0, 0) _ tr Tryd.underlying32 rfl HTi.out ?_)
            | (go_at_call 13; refine (HC.out _ H12.out.1).mono ?_; rintro e w13 ⟨rfl, b13⟩; have H13 := Lib.hid (show Below w.heap.size w w13 ∧ RowAt w13 Z 26 #[.int .i64 x.res, .slice S.t.sp nT S.t.c, .slice S.m.sp nM S.m.c, .slice S.e.sp nE S.e.c] ∧ RowAt w13 A 32 T from ⟨H12.out.1.trans (b13.mono H12.out.1.size), H12.out.2.1.new b13, H12.out.2.2.new b13⟩); clear b13 c0 c1 c2 c3 tr HC; obtain ⟨c0, c1, c2, c3⟩ := img_cells H13.out.2.1; have tr := H13.out.2.2)
            | fail)
          go_roundg g1
          case measure => omega
          case rel => exact ⟨i + 1, by omega, by go_num, H13.out⟩
end Go.Proofs.YtajknfoaiobleaaDoor
/- Maths of SteadyGrows. No statement about the program's functions. -/
namespace Go.Proofs.YtajknfoaiobleaaDoor
open Go.RowKit

/-- A task that takes longer, if it may. -/
def longT (t : TaskM) : TaskM := { t with cost := if t.cost < t.dl then t.cost + 1 else t.cost }
def longI (x : Img) (k : Nat) : Img := { x with tasks := x.tasks.set k (longT (x.t k)) }
theorem longI_len (x : Img) (k : Nat) : (longI x k).tasks.length = x.tasks.length := by simp [longI]
theorem longI_t (x : Img) (k i : Nat) (hk : k < x.tasks.length) : (longI x k).t i = if i = k then longT (x.t k) else x.t i := by
  unfold longI Img.t
  simp only [List.getD_eq_getElem?_getD, List.getElem?_set]
  by_cases e : k = i
  · subst e; simp [hk]
  · simp [e, Ne.symm e]
theorem longI_lon (x : Img) (k : Nat) (hk : k < x.tasks.length) (i r : Nat) : lonF (longI x k) i r = lonF x i r := by
  unfold lonF
  rw [longI_t x k i hk]
  split
  · rename_i e; subst e; rfl
  · rfl
theorem longI_good {x : Img} (h : GoodI x) {k : Nat} (hk : k < x.tasks.length) : GoodI (longI x k) where
  n1 := by rw [longI_len]; exact h.n1
  n16 := by rw [longI_len]; exact h.n16
  per := fun i hi => by
    rw [longI_len] at hi
    rw [longI_t x k i hk]
    split
    · exact h.per k hk
    · exact h.per i hi
  dl := fun i hi => by
    rw [longI_len] at hi
    rw [longI_t x k i hk]
    split
    · exact h.dl k hk
    · exact h.dl i hi
  cost := fun i hi => by
    rw [longI_len] at hi
    rw [longI_t x k i hk]
    split
    · have h1 := h.cost k hk
      have h2 := h.dl k hk
      show 1 ≤ (if (x.t k).cost < (x.t k).dl then (x.t k).cost + 1 else (x.t k).cost) ∧ (if (x.t k).cost < (x.t k).dl then (x.t k).cost + 1 else (x.t k).cost) ≤ 4096
      split <;> omega
    · exact h.cost i hi
  cd := fun i hi => by
    rw [longI_len] at hi
    rw [longI_t x k i hk]
    split
    · have h1 := h.cd k hk
      show (if (x.t k).cost < (x.t k).dl then (x.t k).cost + 1 else (x.t k).cost) ≤ (x.t k).dl
      split <;> omega
    · exact h.cd i hi
  lon := fun i hi r hr => by
    rw [longI_len] at hi
    rw [longI_lon x k hk]
    exact h.lon i hi r hr
theorem longI_cost (x : Img) (k : Nat) (hk : k < x.tasks.length) (i : Nat) : (x.t i).cost ≤ ((longI x k).t i).cost := by
  rw [longI_t x k i hk]
  split
  · rename_i e
    subst e
    show (x.t i).cost ≤ (if (x.t i).cost < (x.t i).dl then (x.t i).cost + 1 else (x.t i).cost)
    split <;> omega
  · exact Int.le_refl _
theorem ceil_less {x : Img} {k : Nat} (hk : k < x.tasks.length) {s u : BitVec 32} (hs : ∀ i, i < 32 → s.getLsbD i = true → u.getLsbD i = true) (r : Nat) (hr : r < 8) : ceilF (longI x k) u r ≤ ceilF x s r := by
  have h1 := ceilF_least x s r hr
  have h2 := ceilF_least (longI x k) u r hr
  rcases h1.at_ with e | ⟨i, ⟨a, b, c, d⟩, e⟩
  · have := h2.le; omega
  · have := h2.lo i ⟨a, hs i a b, by rw [longI_len]; exact c, by rw [longI_lon x k hk]; exact d⟩; omega
theorem blk_less {x : Img} (hG : GoodI x) {k : Nat} (hk : k < x.tasks.length) {s u : BitVec 32} (hs : ∀ i, i < 32 → s.getLsbD i = true → u.getLsbD i = true) (i : Int) : blkF x s (ceilF x s) i ≤ blkF (longI x k) u (ceilF (longI x k) u) i := by
  unfold blkF
  refine smK_mono 8 (fun r hr hp => ⟨?_, ?_⟩) fun r hr => (lgF_rng (longI_good hG hk) _ r hr).1
  · have := ceil_less hk hs r hr
    simp at hp ⊢
    omega
  · unfold lgF
    refine mxK_mono 32 fun j hj hb => ⟨?_, by rw [longI_lon x k hk]; exact Int.le_refl _⟩
    rw [bhd_bit _ _ _ _ hj] at hb ⊢
    simp only [Bool.and_eq_true, decide_eq_true_eq] at hb ⊢
    exact ⟨hb.1, hs j hj hb.2.1, by rw [longI_len]; exact hb.2.2⟩
theorem sum_lst (x : Img) (s : BitVec 32) (t : Int) : ∀ n, sumL (tmL x (lst s n)) t = smK s.getLsbD (fun i => tmN (tmOf x i) t) n
  | 0 => rfl
  | n + 1 => by
    rw [lst_succ]
    unfold smK
    split
    · rw [← sum_lst x s t n]
      unfold sumL tmL
      simp
    · exact sum_lst x s t n
theorem tm_less {x : Img} (hG : GoodI x) {k : Nat} (hk : k < x.tasks.length) {i : Nat} (hi : i < x.tasks.length) {t : Int} (h1 : 1 ≤ t) (h2 : t ≤ 70000) : 0 ≤ tmN (tmOf (longI x k) i) t ∧ tmN (tmOf x i) t ≤ tmN (tmOf (longI x k) i) t := by
  have hg1 : GoodT (tmOf x i) := good_tm hG (L := [i]) (by intro j hj; simp at hj; omega) _ (by simp [tmL])
  have hg2 : GoodT (tmOf (longI x k) i) := good_tm (longI_good hG hk) (L := [i]) (by intro j hj; simp at hj; rw [longI_len]; omega) _ (by simp [tmL])
  rw [tmN_eq (hg1.work h1 h2).1, tmN_eq (hg2.work h1 h2).1]
  have hp : (tmOf (longI x k) i).per = (tmOf x i).per := by
    show ((longI x k).t i).per = (x.t i).per
    rw [longI_t x k i hk]; split
    · rename_i e; subst e; rfl
    · rfl
  have hc : (tmOf x i).cost ≤ (tmOf (longI x k) i).cost := longI_cost x k hk i
  have hj : 0 ≤ jI (tmOf x i).per 0 t := jI_nonneg (by have := hg1.p; omega)
  show 0 ≤ jI (tmOf (longI x k) i).per 0 t * (tmOf (longI x k) i).cost + 0 ∧ jI (tmOf x i).per 0 t * (tmOf x i).cost + 0 ≤ jI (tmOf (longI x k) i).per 0 t * (tmOf (longI x k) i).cost + 0
  rw [hp]
  have m1 : jI (tmOf x i).per 0 t * (tmOf x i).cost ≤ jI (tmOf x i).per 0 t * (tmOf (longI x k) i).cost := Int.mul_le_mul_of_nonneg_left hc hj
  have m2 : 0 ≤ jI (tmOf x i).per 0 t * (tmOf (longI x k) i).cost := Int.mul_nonneg hj hg2.c.1
  omega
theorem rsp_less {x : Img} (hG : GoodI x) {k : Nat} (hk : k < x.tasks.length) {s u : BitVec 32} (hs : ∀ i, i < 32 → s.getLsbD i = true → u.getLsbD i = true) {i : Nat} (hi : i < x.tasks.length) (hik : i ≠ k) :
    tB (rspF (longI x k) u u (ceilF (longI x k) u) i) = true → tB (rspF x s s (ceilF x s) i) = true ∧ tT (rspF x s s (ceilF x s) i) ≤ tT (rspF (longI x k) u u (ceilF (longI x k) u) i) := by
  have hG2 := longI_good hG hk
  have hi2 : i < (longI x k).tasks.length := by rw [longI_len]; exact hi
  have o1 := ownF_rng hG s (ceilF x s) hi
  have o2 := ownF_rng hG2 u (ceilF (longI x k) u) hi2
  have hd : ((longI x k).t i).dl = (x.t i).dl := by rw [longI_t x k i hk, if_neg hik]
  have hdl := hG.dl i hi
  have g1 := good_tm hG (L := aheadL x s i) (fun j hj => (aheadL_lt hj).1)
  have g2 := good_tm hG2 (L := aheadL (longI x k) u i) (fun j hj => (aheadL_lt hj).1)
  have l1 : (tmL x (aheadL x s i)).length ≤ 20 := by rw [tmL_len]; have := aheadL_len hG s i; omega
  have l2 : (tmL (longI x k) (aheadL (longI x k) u i)).length ≤ 20 := by rw [tmL_len]; have := aheadL_len hG2 u i; omega
  unfold rspF
  rw [hd]
  refine lookR_mono (by omega) ?_ (fun t a b => ⟨_, good_ff g1 l1 (by omega) (by omega) a (by omega)⟩) (fun t a b => ⟨_, good_ff g2 l2 (by omega) (by omega) a (by omega)⟩) ?_
  · have h1 := blk_less hG hk hs (i : Int)
    have h2 := longI_cost x k hk i
    unfold ownF
    omega
  · intro t n n' a b hn hn'
    rw [good_ff g1 l1 (by omega) (by omega) a (by omega)] at hn
    rw [good_ff g2 l2 (by omega) (by omega) a (by omega)] at hn'
    injection hn with hn
    injection hn' with hn'
    have v1 := valL_eq (good_ok g1 l1 a (show t ≤ 70000 by omega)).1
    have v2 := valL_eq (good_ok g2 l2 a (show t ≤ 70000 by omega)).1
    have h1 := blk_less hG hk hs (i : Int)
    have h2 := longI_cost x k hk i
    have h3 : sumL (tmL x (aheadL x s i)) t ≤ sumL (tmL (longI x k) (aheadL (longI x k) u i)) t := by
      unfold aheadL
      rw [longI_len, sum_lst, sum_lst]
      have h16 := hG.n16
      exact smK_mono _ (fun j hj hb => ⟨hs j (by omega) hb, (tm_less hG hk (by omega) a (by omega)).2⟩) fun j hj => (tm_less hG hk (by omega) a (by omega)).1
    rw [← hn, ← hn', v1, v2]
    unfold ownF
    omega
/-- Where an image whose tasks were copied lies. -/
theorem longI_at {w : World} {x : Img} {S : ImgS} {V : Nat → Prop} (h : ImgAt w V x S) {k : Nat} (hk : k < x.tasks.length) {S4 : Src} (hs : S4.sp = some ⟨S4.b, S4.o, none⟩) (hb : S4.b < w.heap.size)
    (hr : ∀ i, i < x.tasks.length → At w S4.b (S4.o + i * 11) (taskC ((longI x k).t i))) : ImgAt w (fun _ => False) (longI x k) { S with t := S4 } where
  st := ⟨fun _ => ⟨hs, hb, fun h => h⟩, by rw [longI_len]; exact h.st.sm⟩
  sm := h.sm.more (fun _ _ h => h.elim)
  se := h.se.more (fun _ _ h => h.elim)
  tk := fun i hi => by
    rw [longI_len] at hi
    refine ⟨hr i hi, ?_⟩
    rw [longI_t x k i hk]
    split
    · exact (h.tk k hk).2
    · exact (h.tk i hi).2
  md := fun i hi => ⟨(h.md i hi).1, (h.md i hi).2.1, (h.md i hi).2.2.more (fun _ _ h => h.elim)⟩
  qu := h.qu
  ed := h.ed
end Go.Proofs.YtajknfoaiobleaaDoor
