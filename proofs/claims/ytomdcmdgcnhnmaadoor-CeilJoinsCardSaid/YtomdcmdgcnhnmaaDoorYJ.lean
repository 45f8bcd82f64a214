/- The walk of CeilJoins. -/
import Derived.Test.YtomdcmdgcnhnmaaDoorYF
namespace Go.Proofs.YtomdcmdgcnhnmaaDoor
open Go.RowKit

set_option maxHeartbeats 8000000 in
set_option maxRecDepth 100000 in
theorem law_joins {w : World} {V : Nat → Prop} {x : Img} {S : ImgS} (h : ImgAt w V x S) (ht : Tab w) (a b : BitVec 32) :
    Calls Tryd.prog 4 #[.agg #[.int .i64 x.res, .slice S.t.sp x.tasks.length S.t.c, .slice S.m.sp x.modes.length S.m.c, .slice S.e.sp x.edges.length S.e.c], .int .u32 (w32 a), .int .u32 (w32 b)] w fun e w' => e = .returned (.bool true) ∧ Below w.heap.size w w' := by
  have hp := ht.pos
  have HTb := Lib.hid (show ∀ w', Below w.heap.size w w' → Tab w' from fun w' hb => ht.below hp hb)
  have HGr := Lib.hid (show ∀ wx, Below w.heap.size w wx → _ from fun wx hb => great10_any (h.new hb))
  have HA := Lib.hid (show ∀ wx, Below w.heap.size w wx → _ from fun wx hb => cOf_any (h.new hb) (HTb.out wx hb) a)
  have HB := Lib.hid (show ∀ wx, Below w.heap.size w wx → _ from fun wx hb => cOf_any (h.new hb) (HTb.out wx hb) b)
  have HC := Lib.hid (show ∀ wx, Below w.heap.size w wx → _ from fun wx hb => cOf_any (h.new hb) (HTb.out wx hb) (a ||| b))
  have hab := or32 a b
  have HJ := Lib.hid (show ∀ r, r < 8 → min (ceilF x a r) (ceilF x b r) = ceilF x (a ||| b) r from fun r hr => ceilF_join x a b r hr)
  have HL := Lib.hid (show ∀ r, r < 8 → ceilF x a r ≤ 16 from fun r hr => ceilF_le x a r hr)
  obtain ⟨fa, hfa⟩ : ∃ F, ceilF x a = F := ⟨_, rfl⟩
  obtain ⟨fb, hfb⟩ : ∃ F, ceilF x b = F := ⟨_, rfl⟩
  obtain ⟨fc, hfc⟩ : ∃ F, ceilF x (a ||| b) = F := ⟨_, rfl⟩
  rw [hfa] at HA HJ HL
  rw [hfb] at HB HJ
  rw [hfc] at HC HJ
  have e1 : tbEq (fun k => min (fa k) (fb k)) fc = true := (tbEq_iff _ _).2 HJ.out
  have e2 : tbCov fc fa = true := (tbEq_iff _ _).2 (fun k hk => by have := HJ.out k hk; show min (fc k) (fa k) = fc k; omega)
  have e3 : tbCov fc fb = true := (tbEq_iff _ _).2 (fun k hk => by have := HJ.out k hk; show min (fc k) (fb k) = fc k; omega)
  have e4 : tbCov fa (fun _ => 16) = true := (tbEq_iff _ _).2 (fun k hk => by have := HL.out k hk; show min (fa k) 16 = fa k; omega)
  obtain ⟨nT, hnT⟩ : ∃ n, x.tasks.length = n := ⟨_, rfl⟩
  obtain ⟨nM, hnM⟩ : ∃ n, x.modes.length = n := ⟨_, rfl⟩
  obtain ⟨nE, hnE⟩ : ∃ n, x.edges.length = n := ⟨_, rfl⟩
  rw [hnT, hnM, hnE] at HGr HA HB HC ⊢
  have HJn := Lib.hid (show ∀ wx, _ from fun wx => cJoin_any fa fb wx)
  have HV1 := Lib.hid (show ∀ wx, _ from fun wx => cCovers_any fc fa wx)
  have HV2 := Lib.hid (show ∀ wx, _ from fun wx => cCovers_any fc fb wx)
  have HV3 := Lib.hid (show ∀ wx, _ from fun wx => cCovers_any fa fb wx)
  have HV4 := Lib.hid (show ∀ wx, _ from fun wx => cCovers_any fa (fun _ => 16) wx)
  have HEm := Lib.hid (fun wx => cEmpty_any wx)
  have HAl := Lib.hid (show ∀ wx, Below w.heap.size w wx → _ from fun wx hb => l15alive_any wx (HTb.out wx hb))
  have HQ1 := Lib.hid (show ∀ wx, (Op.equalIn 10000 33 (.agg (tb (fun k => min (fa k) (fb k)))) (.agg (tb fc))).run Tryd.prog wx = .ok true wx from fun wx => by rw [← e1]; exact eqIn_tb 9998 _ _ wx)
  have HQ2 := Lib.hid (show ∀ wx, (Op.equalIn 10000 33 (.agg (tb (fun k => min (fa k) (fb k)))) (.agg (tb fa))).run Tryd.prog wx = .ok (tbCov fa fb) wx from fun wx => eqIn_tb 9998 _ _ wx)
  rw [e2] at HV1
  rw [e3] at HV2
  rw [e4] at HV4
  have HTi := Lib.hid (show ∀ f : Nat → Int, ((Tryd.prog.info? 33).map (·.size) = some (tb f).size) ∧ (tb f).all (·.oneCell') = true ∧ (tb f).size = 8 from fun f => ⟨tb_info f, tb_one f, rfl⟩)
  have HIa := Lib.hid (HTi.out fa)
  have HIb := Lib.hid (HTi.out fb)
  have HIc := Lib.hid (HTi.out fc)
  obtain ⟨cv, hcv⟩ : ∃ c, tbCov fa fb = c := ⟨_, rfl⟩
  rw [hcv] at HV3 HQ2
  obtain ⟨A, hA⟩ : ∃ A, tb fa = A := ⟨_, rfl⟩
  obtain ⟨B, hB⟩ : ∃ B, tb fb = B := ⟨_, rfl⟩
  obtain ⟨C, hC⟩ : ∃ C, tb fc = C := ⟨_, rfl⟩
  obtain ⟨J, hJ⟩ : ∃ J, tb (fun k => min (fa k) (fb k)) = J := ⟨_, rfl⟩
  obtain ⟨E, hE⟩ : ∃ E, tb (fun _ => 16) = E := ⟨_, rfl⟩
  rw [hA] at HA HJn HV1 HV3 HV4 HQ2 HIa
  rw [hB] at HB HJn HV2 HV3 HIb
  rw [hC] at HC HV1 HV2 HQ1 HIc
  rw [hJ] at HJn HQ1 HQ2
  rw [hE] at HV4 HEm
  obtain ⟨Z, hZ⟩ : ∃ Z, Z = w.heap.size := ⟨_, rfl⟩
  have HZ := Lib.hid hZ
  clear h ht hp hfa hfb hfc hnT hnM hnE e1 e2 e3 e4 hcv hA hB hC hJ hE HTi
  go_enter Tryd.func4, Tryd.ntmps4
  go_upto_region 1 with fail
  rw [← hZ]
  generalize hw2 : World.alloc _ _ = w2
  have H2 := Lib.hid (show Below w.heap.size w w2 ∧ RowAt w2 Z 26 #[.int .i64 x.res, .slice S.t.sp nT S.t.c, .slice S.m.sp nM S.m.c, .slice S.e.sp nE S.e.c] by
    rw [← hw2, hZ]
    exact ⟨(Below.refl _ _).alloc (Nat.le_refl _) _, RowAt.mk _ _ _⟩)
  clear hw2 hZ
  have c0 : w2.cell? ⟨Z, 0, none⟩ = some (.int .i64 x.res) := H2.out.2.cell 0
  have c1 : w2.cell? ⟨Z, 1, none⟩ = some (.slice S.t.sp nT S.t.c) := H2.out.2.cell 1
  have c2 : w2.cell? ⟨Z, 2, none⟩ = some (.slice S.m.sp nM S.m.c) := H2.out.2.cell 2
  have c3 : w2.cell? ⟨Z, 3, none⟩ = some (.slice S.e.sp nE S.e.c) := H2.out.2.cell 3
  cases hg : greatI x
  case true =>
    rw [hg] at HGr
    clear hg
    go_wp2_with (go_at_call 5; refine (HGr.out _ H2.out.1).mono ?_; rintro e w3 ⟨rfl, b3⟩; have H3 := Lib.hid (H2.out.1.trans (b3.mono H2.out.1.size)); clear b3)
    go_ret
    exact ⟨rfl, H3.out⟩
  rw [hg] at HGr
  clear hg
  go_upto_region 3 with (go_at_call 5; refine (HGr.out _ H2.out.1).mono ?_; rintro e w3 ⟨rfl, b3⟩; have H3 := Lib.hid (And.intro (H2.out.1.trans (b3.mono H2.out.1.size)) (H2.out.2.new b3)); clear b3)
  clear c0 c1 c2 c3 H2 HGr
  obtain ⟨wd, hwd⟩ : ∃ wd, w3.drew = wd := ⟨_, rfl⟩
  have HG1 := Lib.hid (show Below w.heap.size w wd ∧ RowAt wd Z 26 #[.int .i64 x.res, .slice S.t.sp nT S.t.c, .slice S.m.sp nM S.m.c, .slice S.e.sp nE S.e.c] by rw [← hwd]; exact ⟨below_dn H3.out.1 1, H3.out.2⟩)
  clear H3
  go_cut [7, 8] from 12 to 17 (fun s7 s8 wx => ∃ b7 b8 : Nat, s7 = .pointer (some ⟨b7, 0, none⟩) ∧ s8 = .pointer (some ⟨b8, 0, none⟩) ∧ Aside (Below w.heap.size w wx ∧ RowAt wx Z 26 #[.int .i64 x.res, .slice S.t.sp nT S.t.c, .slice S.m.sp nM S.m.c, .slice S.e.sp nE S.e.c] ∧ RowAt wx b7 33 A ∧ RowAt wx b8 33 B))
  case first => as_aux_lemma =>
    refine wp_region_held_drew (S := fun w' => RowAt w' Z 26 #[.int .i64 x.res, .slice S.t.sp nT S.t.c, .slice S.m.sp nM S.m.c, .slice S.e.sp nE S.e.c]) (by kernel_rfl) (by rw [hwd]; exact HG1.out.2) (fun hS => ?_)
    rw [hwd] at hS ⊢
    clear hwd
    refine wpAnyH_take (i := 0) (oi := { dst := some 12, op := .load 26 (.tmp 3), type := 26, pos := "law.go:66", after := #[], guard := none }) (v := ?_) rfl (by kernel_rfl) (by kernel_rfl) (by kernel_rfl) (fun _ _ _ h => h) (Or.inl ⟨by rfl, ?_⟩) hS ?_
    rotate_left 1
    · intro w hw; obtain s0 := hw; have k0 := hw.cell 0; have k1 := hw.cell 1; have k2 := hw.cell 2; have k3 := hw.cell 3; simp at k0 k1 k2 k3; go_simp; try (with_reducible rfl)
    simp only [Act.put, List.setIfInBounds_toArray, List.set_cons_zero, List.set_cons_succ]
    refine wpAnyH_take (i := 1) (oi := { dst := some 13, op := .move (.tmp 1), type := 28, pos := "law.go:66", after := #[], guard := none }) (v := ?_) rfl (by kernel_rfl) (by kernel_rfl) (by kernel_rfl) (fun _ _ _ h => h) (Or.inl ⟨by rfl, ?_⟩) hS ?_
    rotate_left 1
    · intro w hw; obtain s0 := hw; go_simp; try (with_reducible rfl)
    simp only [Act.put, List.setIfInBounds_toArray, List.set_cons_zero, List.set_cons_succ]
    refine wpAnyH_take (i := 3) (oi := { dst := some 15, op := .load 26 (.tmp 3), type := 26, pos := "law.go:66", after := #[], guard := none }) (v := ?_) rfl (by kernel_rfl) (by kernel_rfl) (by kernel_rfl) (fun _ _ _ h => h) (Or.inl ⟨by rfl, ?_⟩) hS ?_
    rotate_left 1
    · intro w hw; obtain s0 := hw; have k0 := hw.cell 0; have k1 := hw.cell 1; have k2 := hw.cell 2; have k3 := hw.cell 3; simp at k0 k1 k2 k3; go_simp; try (with_reducible rfl)
    simp only [Act.put, List.setIfInBounds_toArray, List.set_cons_zero, List.set_cons_succ]
    refine wpAnyH_take (i := 4) (oi := { dst := some 16, op := .move (.tmp 2), type := 28, pos := "law.go:66", after := #[], guard := none }) (v := ?_) rfl (by kernel_rfl) (by kernel_rfl) (by kernel_rfl) (fun _ _ _ h => h) (Or.inl ⟨by rfl, ?_⟩) hS ?_
    rotate_left 1
    · intro w hw; obtain s0 := hw; go_simp; try (with_reducible rfl)
    simp only [Act.put, List.setIfInBounds_toArray, List.set_cons_zero, List.set_cons_succ]
    refine wpAnyH_ready (rs := [2, 6, 7]) (by kernel_rfl) (by simp) (AllReadyH.cons (o := { dst := some 14, op := .call { callee := .value (.func 6), args := #[.tmp 12, .tmp 13], argTypes := #[26, 28] }, type := 33, pos := "law.go:66", after := #[{ on := 0, ground := .data }, { on := 1, ground := .data }], guard := none }) rfl (fun K hK => ?_) (AllReadyH.cons (o := { dst := some 7, op := .alloc 33, type := 0, pos := "law.go:66", after := #[], guard := none }) rfl (fun K hK => ?_) (AllReadyH.cons (o := { dst := some 8, op := .alloc 33, type := 0, pos := "law.go:66", after := #[], guard := none }) rfl (fun K hK => ?_) AllReadyH.nil)))
    · go_simp
      go_at_call 6
      refine (HA.out _ HG1.out.1).mono ?_
      rintro e wg101 ⟨rfl, bc101⟩
      have HG102 := Lib.hid (show Below w.heap.size w wg101 ∧ RowAt wg101 Z 26 #[.int .i64 x.res, .slice S.t.sp nT S.t.c, .slice S.m.sp nM S.m.c, .slice S.e.sp nE S.e.c] from ⟨(HG1.out.1.trans ((bc101).mono HG1.out.1.size)), (HG1.out.2.new (bc101))⟩)
      clear bc101
      try dsimp only
      refine hK.out _ _ HG102.out.2 (fun hHeld => ?_)
      clear hK K
      try simp only [Act.put, List.setIfInBounds_toArray, List.set_cons_zero, List.set_cons_succ]
      refine wpAnyH_ready (rs := [5, 6, 7]) (by kernel_rfl) (by simp) (AllReadyH.cons (o := { dst := some 17, op := .call { callee := .value (.func 6), args := #[.tmp 15, .tmp 16], argTypes := #[26, 28] }, type := 33, pos := "law.go:66", after := #[{ on := 3, ground := .data }, { on := 4, ground := .data }, { on := 2, ground := .chain }], guard := none }) rfl (fun K hK => ?_) (AllReadyH.cons (o := { dst := some 7, op := .alloc 33, type := 0, pos := "law.go:66", after := #[], guard := none }) rfl (fun K hK => ?_) (AllReadyH.cons (o := { dst := some 8, op := .alloc 33, type := 0, pos := "law.go:66", after := #[], guard := none }) rfl (fun K hK => ?_) AllReadyH.nil)))
      · go_simp
        go_at_call 6
        refine (HB.out _ HG102.out.1).mono ?_
        rintro e wg103 ⟨rfl, bc103⟩
        have HG104 := Lib.hid (show Below w.heap.size w wg103 ∧ RowAt wg103 Z 26 #[.int .i64 x.res, .slice S.t.sp nT S.t.c, .slice S.m.sp nM S.m.c, .slice S.e.sp nE S.e.c] from ⟨(HG102.out.1.trans ((bc103).mono HG102.out.1.size)), (HG102.out.2.new (bc103))⟩)
        clear bc103
        try dsimp only
        refine hK.out _ _ HG104.out.2 (fun hHeld => ?_)
        clear hK K
        try simp only [Act.put, List.setIfInBounds_toArray, List.set_cons_zero, List.set_cons_succ]
        refine wpAnyH_ready (rs := [6, 7]) (by kernel_rfl) (by simp) (AllReadyH.cons (o := { dst := some 7, op := .alloc 33, type := 0, pos := "law.go:66", after := #[], guard := none }) rfl (fun K hK => ?_) (AllReadyH.cons (o := { dst := some 8, op := .alloc 33, type := 0, pos := "law.go:66", after := #[], guard := none }) rfl (fun K hK => ?_) AllReadyH.nil))
        · go_simp
          obtain ⟨b7, hb7⟩ : ∃ b, b = (wg103).heap.size := ⟨_, rfl⟩
          rw [← hb7]
          generalize hwg105 : World.alloc _ _ = wg105
          have bwg105 : Below (wg103).heap.size (wg103) wg105 := by rw [← hwg105]; exact (Below.refl _ _).alloc (Nat.le_refl _) _
          have rwg105 : RowAt wg105 b7 33 (tb (fun _ => 0)) := by rw [← hwg105, hb7]; exact RowAt.mk _ _ _
          have HG106 := Lib.hid (show Below w.heap.size w wg105 ∧ RowAt wg105 Z 26 #[.int .i64 x.res, .slice S.t.sp nT S.t.c, .slice S.m.sp nM S.m.c, .slice S.e.sp nE S.e.c] ∧ RowAt wg105 b7 33 (tb (fun _ => 0)) ∧ Z < b7 from ⟨(HG104.out.1.trans ((bwg105).mono HG104.out.1.size)), (HG104.out.2.new (bwg105)), rwg105, (by have := HG104.out.2.lt; omega)⟩)
          clear hwg105 bwg105 rwg105 hb7
          refine hK.out _ _ HG106.out.2.1 (fun hHeld => ?_)
          clear hK K
          try simp only [Act.put, List.setIfInBounds_toArray, List.set_cons_zero, List.set_cons_succ]
          refine wpAnyH_ready (rs := [7]) (by kernel_rfl) (by simp) (AllReadyH.cons (o := { dst := some 8, op := .alloc 33, type := 0, pos := "law.go:66", after := #[], guard := none }) rfl (fun K hK => ?_) AllReadyH.nil)
          go_simp
          obtain ⟨b8, hb8⟩ : ∃ b, b = (wg105).heap.size := ⟨_, rfl⟩
          rw [← hb8]
          generalize hwg107 : World.alloc _ _ = wg107
          have bwg107 : Below (wg105).heap.size (wg105) wg107 := by rw [← hwg107]; exact (Below.refl _ _).alloc (Nat.le_refl _) _
          have rwg107 : RowAt wg107 b8 33 (tb (fun _ => 0)) := by rw [← hwg107, hb8]; exact RowAt.mk _ _ _
          have HG108 := Lib.hid (show Below w.heap.size w wg107 ∧ RowAt wg107 Z 26 #[.int .i64 x.res, .slice S.t.sp nT S.t.c, .slice S.m.sp nM S.m.c, .slice S.e.sp nE S.e.c] ∧ RowAt wg107 b7 33 (tb (fun _ => 0)) ∧ Z < b7 ∧ RowAt wg107 b8 33 (tb (fun _ => 0)) ∧ Z < b8 ∧ b7 ≠ b8 from ⟨(HG106.out.1.trans ((bwg107).mono HG106.out.1.size)), (HG106.out.2.1.new (bwg107)), (HG106.out.2.2.1.new (bwg107)), HG106.out.2.2.2, rwg107, (by have := HG106.out.2.1.lt; omega), (by have := HG106.out.2.2.1.lt; omega)⟩)
          clear hwg107 bwg107 rwg107 hb8
          refine hK.out _ _ HG108.out.2.1 (fun hHeld => ?_)
          clear hK K
          try simp only [Act.put, List.setIfInBounds_toArray, List.set_cons_zero, List.set_cons_succ]
          refine wpAnyH_ready (rs := [8]) (by kernel_rfl) (by simp) (AllReadyH.cons (o := { dst := none, op := .store 33 (.tmp 7) (.tmp 14), type := 0, pos := "law.go:66", after := #[{ on := 6, ground := .data }, { on := 2, ground := .data }, { on := 5, ground := .chain }, { on := 0, ground := .phase }, { on := 1, ground := .phase }, { on := 2, ground := .phase }, { on := 3, ground := .textOnly Go.Departure.lateStores }, { on := 4, ground := .textOnly Go.Departure.lateStores }, { on := 5, ground := .textOnly Go.Departure.lateStoresUnsure }, { on := 6, ground := .phase }, { on := 7, ground := .phase }], guard := none }) rfl (fun K hK => ?_) AllReadyH.nil)
          rw [if_pos (by rfl)]
          refine wp_store_row 33 (.tmp 7) (.tmp 14) rfl b7 A rfl rfl 33 (tb (fun _ => 0)) HG108.out.2.2.1 HIa.out.1 (by rw [HIa.out.2.2]; rfl) HIa.out.2.1 ?_
          generalize hwg109 : World.setRow _ _ _ = wg109
          have HG110 := Lib.hid (show Below w.heap.size w wg109 ∧ RowAt wg109 Z 26 #[.int .i64 x.res, .slice S.t.sp nT S.t.c, .slice S.m.sp nM S.m.c, .slice S.e.sp nE S.e.c] ∧ RowAt wg109 b7 33 A ∧ Z < b7 ∧ RowAt wg109 b8 33 (tb (fun _ => 0)) ∧ Z < b8 ∧ b7 ≠ b8 by rw [← hwg109]; exact ⟨below_row HG108.out.1 (Nat.le_refl _) (by have := HG108.out.2.2.2.1; have := HZ.out; omega) _, HG108.out.2.1.keep (ch_setRow _ _ _) (fun e => by have := HG108.out.2.2.2.1; omega), HG108.out.2.2.1.put, HG108.out.2.2.2.1, HG108.out.2.2.2.2.1.keep (ch_setRow _ _ _) (fun e => HG108.out.2.2.2.2.2.2 e.symm), HG108.out.2.2.2.2.2.1, HG108.out.2.2.2.2.2.2⟩)
          clear hwg109
          refine hK.out _ _ HG110.out.2.1 (fun hHeld => ?_)
          clear hK K
          try simp only [Act.put]
          refine wpAnyH_ready (rs := [9]) (by kernel_rfl) (by simp) (AllReadyH.cons (o := { dst := none, op := .store 33 (.tmp 8) (.tmp 17), type := 0, pos := "law.go:66", after := #[{ on := 7, ground := .data }, { on := 5, ground := .data }, { on := 8, ground := .chain }, { on := 0, ground := .phase }, { on := 1, ground := .phase }, { on := 2, ground := .phase }, { on := 3, ground := .phase }, { on := 4, ground := .phase }, { on := 5, ground := .phase }, { on := 6, ground := .phase }, { on := 7, ground := .phase }, { on := 8, ground := .phase }], guard := none }) rfl (fun K hK => ?_) AllReadyH.nil)
          rw [if_pos (by rfl)]
          refine wp_store_row 33 (.tmp 8) (.tmp 17) rfl b8 B rfl rfl 33 (tb (fun _ => 0)) HG110.out.2.2.2.2.1 HIb.out.1 (by rw [HIb.out.2.2]; rfl) HIb.out.2.1 ?_
          generalize hwg111 : World.setRow _ _ _ = wg111
          have HG112 := Lib.hid (show Below w.heap.size w wg111 ∧ RowAt wg111 Z 26 #[.int .i64 x.res, .slice S.t.sp nT S.t.c, .slice S.m.sp nM S.m.c, .slice S.e.sp nE S.e.c] ∧ RowAt wg111 b7 33 A ∧ Z < b7 ∧ RowAt wg111 b8 33 B ∧ Z < b8 ∧ b7 ≠ b8 by rw [← hwg111]; exact ⟨below_row HG110.out.1 (Nat.le_refl _) (by have := HG110.out.2.2.2.2.2.1; have := HZ.out; omega) _, HG110.out.2.1.keep (ch_setRow _ _ _) (fun e => by have := HG110.out.2.2.2.2.2.1; omega), HG110.out.2.2.1.keep (ch_setRow _ _ _) (fun e => HG110.out.2.2.2.2.2.2 e), HG110.out.2.2.2.1, HG110.out.2.2.2.2.1.put, HG110.out.2.2.2.2.2.1, HG110.out.2.2.2.2.2.2⟩)
          clear hwg111
          refine hK.out _ _ HG112.out.2.1 (fun hHeld => ?_)
          clear hK K
          try simp only [Act.put]
          refine wpAnyH_done (by kernel_rfl) ?_ _
          go_wp2
          go_meet
          case rel => exact ⟨b7, b8, rfl, rfl, HG112.out.1, HG112.out.2.1, HG112.out.2.2.1, HG112.out.2.2.2.2.1⟩
        · go_simp
          obtain ⟨b8, hb8⟩ : ∃ b, b = (wg103).heap.size := ⟨_, rfl⟩
          rw [← hb8]
          generalize hwg113 : World.alloc _ _ = wg113
          have bwg113 : Below (wg103).heap.size (wg103) wg113 := by rw [← hwg113]; exact (Below.refl _ _).alloc (Nat.le_refl _) _
          have rwg113 : RowAt wg113 b8 33 (tb (fun _ => 0)) := by rw [← hwg113, hb8]; exact RowAt.mk _ _ _
          have HG114 := Lib.hid (show Below w.heap.size w wg113 ∧ RowAt wg113 Z 26 #[.int .i64 x.res, .slice S.t.sp nT S.t.c, .slice S.m.sp nM S.m.c, .slice S.e.sp nE S.e.c] ∧ RowAt wg113 b8 33 (tb (fun _ => 0)) ∧ Z < b8 from ⟨(HG104.out.1.trans ((bwg113).mono HG104.out.1.size)), (HG104.out.2.new (bwg113)), rwg113, (by have := HG104.out.2.lt; omega)⟩)
          clear hwg113 bwg113 rwg113 hb8
          refine hK.out _ _ HG114.out.2.1 (fun hHeld => ?_)
          clear hK K
          try simp only [Act.put, List.setIfInBounds_toArray, List.set_cons_zero, List.set_cons_succ]
          refine wpAnyH_ready (rs := [6]) (by kernel_rfl) (by simp) (AllReadyH.cons (o := { dst := some 7, op := .alloc 33, type := 0, pos := "law.go:66", after := #[], guard := none }) rfl (fun K hK => ?_) AllReadyH.nil)
          go_simp
          obtain ⟨b7, hb7⟩ : ∃ b, b = (wg113).heap.size := ⟨_, rfl⟩
          rw [← hb7]
          generalize hwg115 : World.alloc _ _ = wg115
          have bwg115 : Below (wg113).heap.size (wg113) wg115 := by rw [← hwg115]; exact (Below.refl _ _).alloc (Nat.le_refl _) _
          have rwg115 : RowAt wg115 b7 33 (tb (fun _ => 0)) := by rw [← hwg115, hb7]; exact RowAt.mk _ _ _
          have HG116 := Lib.hid (show Below w.heap.size w wg115 ∧ RowAt wg115 Z 26 #[.int .i64 x.res, .slice S.t.sp nT S.t.c, .slice S.m.sp nM S.m.c, .slice S.e.sp nE S.e.c] ∧ RowAt wg115 b8 33 (tb (fun _ => 0)) ∧ Z < b8 ∧ RowAt wg115 b7 33 (tb (fun _ => 0)) ∧ Z < b7 ∧ b7 ≠ b8 from ⟨(HG114.out.1.trans ((bwg115).mono HG114.out.1.size)), (HG114.out.2.1.new (bwg115)), (HG114.out.2.2.1.new (bwg115)), HG114.out.2.2.2, rwg115, (by have := HG114.out.2.1.lt; omega), (by have := HG114.out.2.2.1.lt; omega)⟩)
          clear hwg115 bwg115 rwg115 hb7
          refine hK.out _ _ HG116.out.2.1 (fun hHeld => ?_)
          clear hK K
          try simp only [Act.put, List.setIfInBounds_toArray, List.set_cons_zero, List.set_cons_succ]
          refine wpAnyH_ready (rs := [8]) (by kernel_rfl) (by simp) (AllReadyH.cons (o := { dst := none, op := .store 33 (.tmp 7) (.tmp 14), type := 0, pos := "law.go:66", after := #[{ on := 6, ground := .data }, { on := 2, ground := .data }, { on := 5, ground := .chain }, { on := 0, ground := .phase }, { on := 1, ground := .phase }, { on := 2, ground := .phase }, { on := 3, ground := .textOnly Go.Departure.lateStores }, { on := 4, ground := .textOnly Go.Departure.lateStores }, { on := 5, ground := .textOnly Go.Departure.lateStoresUnsure }, { on := 6, ground := .phase }, { on := 7, ground := .phase }], guard := none }) rfl (fun K hK => ?_) AllReadyH.nil)
          rw [if_pos (by rfl)]
          refine wp_store_row 33 (.tmp 7) (.tmp 14) rfl b7 A rfl rfl 33 (tb (fun _ => 0)) HG116.out.2.2.2.2.1 HIa.out.1 (by rw [HIa.out.2.2]; rfl) HIa.out.2.1 ?_
          generalize hwg117 : World.setRow _ _ _ = wg117
          have HG118 := Lib.hid (show Below w.heap.size w wg117 ∧ RowAt wg117 Z 26 #[.int .i64 x.res, .slice S.t.sp nT S.t.c, .slice S.m.sp nM S.m.c, .slice S.e.sp nE S.e.c] ∧ RowAt wg117 b8 33 (tb (fun _ => 0)) ∧ Z < b8 ∧ RowAt wg117 b7 33 A ∧ Z < b7 ∧ b7 ≠ b8 by rw [← hwg117]; exact ⟨below_row HG116.out.1 (Nat.le_refl _) (by have := HG116.out.2.2.2.2.2.1; have := HZ.out; omega) _, HG116.out.2.1.keep (ch_setRow _ _ _) (fun e => by have := HG116.out.2.2.2.2.2.1; omega), HG116.out.2.2.1.keep (ch_setRow _ _ _) (fun e => HG116.out.2.2.2.2.2.2 e.symm), HG116.out.2.2.2.1, HG116.out.2.2.2.2.1.put, HG116.out.2.2.2.2.2.1, HG116.out.2.2.2.2.2.2⟩)
          clear hwg117
          refine hK.out _ _ HG118.out.2.1 (fun hHeld => ?_)
          clear hK K
          try simp only [Act.put]
          refine wpAnyH_ready (rs := [9]) (by kernel_rfl) (by simp) (AllReadyH.cons (o := { dst := none, op := .store 33 (.tmp 8) (.tmp 17), type := 0, pos := "law.go:66", after := #[{ on := 7, ground := .data }, { on := 5, ground := .data }, { on := 8, ground := .chain }, { on := 0, ground := .phase }, { on := 1, ground := .phase }, { on := 2, ground := .phase }, { on := 3, ground := .phase }, { on := 4, ground := .phase }, { on := 5, ground := .phase }, { on := 6, ground := .phase }, { on := 7, ground := .phase }, { on := 8, ground := .phase }], guard := none }) rfl (fun K hK => ?_) AllReadyH.nil)
          rw [if_pos (by rfl)]
          refine wp_store_row 33 (.tmp 8) (.tmp 17) rfl b8 B rfl rfl 33 (tb (fun _ => 0)) HG118.out.2.2.1 HIb.out.1 (by rw [HIb.out.2.2]; rfl) HIb.out.2.1 ?_
          generalize hwg119 : World.setRow _ _ _ = wg119
          have HG120 := Lib.hid (show Below w.heap.size w wg119 ∧ RowAt wg119 Z 26 #[.int .i64 x.res, .slice S.t.sp nT S.t.c, .slice S.m.sp nM S.m.c, .slice S.e.sp nE S.e.c] ∧ RowAt wg119 b8 33 B ∧ Z < b8 ∧ RowAt wg119 b7 33 A ∧ Z < b7 ∧ b7 ≠ b8 by rw [← hwg119]; exact ⟨below_row HG118.out.1 (Nat.le_refl _) (by have := HG118.out.2.2.2.1; have := HZ.out; omega) _, HG118.out.2.1.keep (ch_setRow _ _ _) (fun e => by have := HG118.out.2.2.2.1; omega), HG118.out.2.2.1.put, HG118.out.2.2.2.1, HG118.out.2.2.2.2.1.keep (ch_setRow _ _ _) (fun e => HG118.out.2.2.2.2.2.2 e), HG118.out.2.2.2.2.2.1, HG118.out.2.2.2.2.2.2⟩)
          clear hwg119
          refine hK.out _ _ HG120.out.2.1 (fun hHeld => ?_)
          clear hK K
          try simp only [Act.put]
          refine wpAnyH_done (by kernel_rfl) ?_ _
          go_wp2
          go_meet
          case rel => exact ⟨b7, b8, rfl, rfl, HG120.out.1, HG120.out.2.1, HG120.out.2.2.2.2.1, HG120.out.2.2.1⟩
      · go_simp
        obtain ⟨b7, hb7⟩ : ∃ b, b = (wg101).heap.size := ⟨_, rfl⟩
        rw [← hb7]
        generalize hwg121 : World.alloc _ _ = wg121
        have bwg121 : Below (wg101).heap.size (wg101) wg121 := by rw [← hwg121]; exact (Below.refl _ _).alloc (Nat.le_refl _) _
        have rwg121 : RowAt wg121 b7 33 (tb (fun _ => 0)) := by rw [← hwg121, hb7]; exact RowAt.mk _ _ _
        have HG122 := Lib.hid (show Below w.heap.size w wg121 ∧ RowAt wg121 Z 26 #[.int .i64 x.res, .slice S.t.sp nT S.t.c, .slice S.m.sp nM S.m.c, .slice S.e.sp nE S.e.c] ∧ RowAt wg121 b7 33 (tb (fun _ => 0)) ∧ Z < b7 from ⟨(HG102.out.1.trans ((bwg121).mono HG102.out.1.size)), (HG102.out.2.new (bwg121)), rwg121, (by have := HG102.out.2.lt; omega)⟩)
        clear hwg121 bwg121 rwg121 hb7
        refine hK.out _ _ HG122.out.2.1 (fun hHeld => ?_)
        clear hK K
        try simp only [Act.put, List.setIfInBounds_toArray, List.set_cons_zero, List.set_cons_succ]
        refine wpAnyH_ready (rs := [5, 7]) (by kernel_rfl) (by simp) (AllReadyH.cons (o := { dst := some 17, op := .call { callee := .value (.func 6), args := #[.tmp 15, .tmp 16], argTypes := #[26, 28] }, type := 33, pos := "law.go:66", after := #[{ on := 3, ground := .data }, { on := 4, ground := .data }, { on := 2, ground := .chain }], guard := none }) rfl (fun K hK => ?_) (AllReadyH.cons (o := { dst := some 8, op := .alloc 33, type := 0, pos := "law.go:66", after := #[], guard := none }) rfl (fun K hK => ?_) AllReadyH.nil))
        · go_simp
          go_at_call 6
          refine (HB.out _ HG122.out.1).mono ?_
          rintro e wg123 ⟨rfl, bc123⟩
          have HG124 := Lib.hid (show Below w.heap.size w wg123 ∧ RowAt wg123 Z 26 #[.int .i64 x.res, .slice S.t.sp nT S.t.c, .slice S.m.sp nM S.m.c, .slice S.e.sp nE S.e.c] ∧ RowAt wg123 b7 33 (tb (fun _ => 0)) ∧ Z < b7 from ⟨(HG122.out.1.trans ((bc123).mono HG122.out.1.size)), (HG122.out.2.1.new (bc123)), (HG122.out.2.2.1.new (bc123)), HG122.out.2.2.2⟩)
          clear bc123
          try dsimp only
          refine hK.out _ _ HG124.out.2.1 (fun hHeld => ?_)
          clear hK K
          try simp only [Act.put, List.setIfInBounds_toArray, List.set_cons_zero, List.set_cons_succ]
          refine wpAnyH_ready (rs := [7]) (by kernel_rfl) (by simp) (AllReadyH.cons (o := { dst := some 8, op := .alloc 33, type := 0, pos := "law.go:66", after := #[], guard := none }) rfl (fun K hK => ?_) AllReadyH.nil)
          go_simp
          obtain ⟨b8, hb8⟩ : ∃ b, b = (wg123).heap.size := ⟨_, rfl⟩
          rw [← hb8]
          generalize hwg125 : World.alloc _ _ = wg125
          have bwg125 : Below (wg123).heap.size (wg123) wg125 := by rw [← hwg125]; exact (Below.refl _ _).alloc (Nat.le_refl _) _
          have rwg125 : RowAt wg125 b8 33 (tb (fun _ => 0)) := by rw [← hwg125, hb8]; exact RowAt.mk _ _ _
          have HG126 := Lib.hid (show Below w.heap.size w wg125 ∧ RowAt wg125 Z 26 #[.int .i64 x.res, .slice S.t.sp nT S.t.c, .slice S.m.sp nM S.m.c, .slice S.e.sp nE S.e.c] ∧ RowAt wg125 b7 33 (tb (fun _ => 0)) ∧ Z < b7 ∧ RowAt wg125 b8 33 (tb (fun _ => 0)) ∧ Z < b8 ∧ b7 ≠ b8 from ⟨(HG124.out.1.trans ((bwg125).mono HG124.out.1.size)), (HG124.out.2.1.new (bwg125)), (HG124.out.2.2.1.new (bwg125)), HG124.out.2.2.2, rwg125, (by have := HG124.out.2.1.lt; omega), (by have := HG124.out.2.2.1.lt; omega)⟩)
          clear hwg125 bwg125 rwg125 hb8
          refine hK.out _ _ HG126.out.2.1 (fun hHeld => ?_)
          clear hK K
          try simp only [Act.put, List.setIfInBounds_toArray, List.set_cons_zero, List.set_cons_succ]
          refine wpAnyH_ready (rs := [8]) (by kernel_rfl) (by simp) (AllReadyH.cons (o := { dst := none, op := .store 33 (.tmp 7) (.tmp 14), type := 0, pos := "law.go:66", after := #[{ on := 6, ground := .data }, { on := 2, ground := .data }, { on := 5, ground := .chain }, { on := 0, ground := .phase }, { on := 1, ground := .phase }, { on := 2, ground := .phase }, { on := 3, ground := .textOnly Go.Departure.lateStores }, { on := 4, ground := .textOnly Go.Departure.lateStores }, { on := 5, ground := .textOnly Go.Departure.lateStoresUnsure }, { on := 6, ground := .phase }, { on := 7, ground := .phase }], guard := none }) rfl (fun K hK => ?_) AllReadyH.nil)
          rw [if_pos (by rfl)]
          refine wp_store_row 33 (.tmp 7) (.tmp 14) rfl b7 A rfl rfl 33 (tb (fun _ => 0)) HG126.out.2.2.1 HIa.out.1 (by rw [HIa.out.2.2]; rfl) HIa.out.2.1 ?_
          generalize hwg127 : World.setRow _ _ _ = wg127
          have HG128 := Lib.hid (show Below w.heap.size w wg127 ∧ RowAt wg127 Z 26 #[.int .i64 x.res, .slice S.t.sp nT S.t.c, .slice S.m.sp nM S.m.c, .slice S.e.sp nE S.e.c] ∧ RowAt wg127 b7 33 A ∧ Z < b7 ∧ RowAt wg127 b8 33 (tb (fun _ => 0)) ∧ Z < b8 ∧ b7 ≠ b8 by rw [← hwg127]; exact ⟨below_row HG126.out.1 (Nat.le_refl _) (by have := HG126.out.2.2.2.1; have := HZ.out; omega) _, HG126.out.2.1.keep (ch_setRow _ _ _) (fun e => by have := HG126.out.2.2.2.1; omega), HG126.out.2.2.1.put, HG126.out.2.2.2.1, HG126.out.2.2.2.2.1.keep (ch_setRow _ _ _) (fun e => HG126.out.2.2.2.2.2.2 e.symm), HG126.out.2.2.2.2.2.1, HG126.out.2.2.2.2.2.2⟩)
          clear hwg127
          refine hK.out _ _ HG128.out.2.1 (fun hHeld => ?_)
          clear hK K
          try simp only [Act.put]
          refine wpAnyH_ready (rs := [9]) (by kernel_rfl) (by simp) (AllReadyH.cons (o := { dst := none, op := .store 33 (.tmp 8) (.tmp 17), type := 0, pos := "law.go:66", after := #[{ on := 7, ground := .data }, { on := 5, ground := .data }, { on := 8, ground := .chain }, { on := 0, ground := .phase }, { on := 1, ground := .phase }, { on := 2, ground := .phase }, { on := 3, ground := .phase }, { on := 4, ground := .phase }, { on := 5, ground := .phase }, { on := 6, ground := .phase }, { on := 7, ground := .phase }, { on := 8, ground := .phase }], guard := none }) rfl (fun K hK => ?_) AllReadyH.nil)
          rw [if_pos (by rfl)]
          refine wp_store_row 33 (.tmp 8) (.tmp 17) rfl b8 B rfl rfl 33 (tb (fun _ => 0)) HG128.out.2.2.2.2.1 HIb.out.1 (by rw [HIb.out.2.2]; rfl) HIb.out.2.1 ?_
          generalize hwg129 : World.setRow _ _ _ = wg129
          have HG130 := Lib.hid (show Below w.heap.size w wg129 ∧ RowAt wg129 Z 26 #[.int .i64 x.res, .slice S.t.sp nT S.t.c, .slice S.m.sp nM S.m.c, .slice S.e.sp nE S.e.c] ∧ RowAt wg129 b7 33 A ∧ Z < b7 ∧ RowAt wg129 b8 33 B ∧ Z < b8 ∧ b7 ≠ b8 by rw [← hwg129]; exact ⟨below_row HG128.out.1 (Nat.le_refl _) (by have := HG128.out.2.2.2.2.2.1; have := HZ.out; omega) _, HG128.out.2.1.keep (ch_setRow _ _ _) (fun e => by have := HG128.out.2.2.2.2.2.1; omega), HG128.out.2.2.1.keep (ch_setRow _ _ _) (fun e => HG128.out.2.2.2.2.2.2 e), HG128.out.2.2.2.1, HG128.out.2.2.2.2.1.put, HG128.out.2.2.2.2.2.1, HG128.out.2.2.2.2.2.2⟩)
          clear hwg129
          refine hK.out _ _ HG130.out.2.1 (fun hHeld => ?_)
          clear hK K
          try simp only [Act.put]
          refine wpAnyH_done (by kernel_rfl) ?_ _
          go_wp2
          go_meet
          case rel => exact ⟨b7, b8, rfl, rfl, HG130.out.1, HG130.out.2.1, HG130.out.2.2.1, HG130.out.2.2.2.2.1⟩
        · go_simp
          obtain ⟨b8, hb8⟩ : ∃ b, b = (wg121).heap.size := ⟨_, rfl⟩
          rw [← hb8]
          generalize hwg131 : World.alloc _ _ = wg131
          have bwg131 : Below (wg121).heap.size (wg121) wg131 := by rw [← hwg131]; exact (Below.refl _ _).alloc (Nat.le_refl _) _
          have rwg131 : RowAt wg131 b8 33 (tb (fun _ => 0)) := by rw [← hwg131, hb8]; exact RowAt.mk _ _ _
          have HG132 := Lib.hid (show Below w.heap.size w wg131 ∧ RowAt wg131 Z 26 #[.int .i64 x.res, .slice S.t.sp nT S.t.c, .slice S.m.sp nM S.m.c, .slice S.e.sp nE S.e.c] ∧ RowAt wg131 b7 33 (tb (fun _ => 0)) ∧ Z < b7 ∧ RowAt wg131 b8 33 (tb (fun _ => 0)) ∧ Z < b8 ∧ b7 ≠ b8 from ⟨(HG122.out.1.trans ((bwg131).mono HG122.out.1.size)), (HG122.out.2.1.new (bwg131)), (HG122.out.2.2.1.new (bwg131)), HG122.out.2.2.2, rwg131, (by have := HG122.out.2.1.lt; omega), (by have := HG122.out.2.2.1.lt; omega)⟩)
          clear hwg131 bwg131 rwg131 hb8
          refine hK.out _ _ HG132.out.2.1 (fun hHeld => ?_)
          clear hK K
          try simp only [Act.put, List.setIfInBounds_toArray, List.set_cons_zero, List.set_cons_succ]
          refine wpAnyH_ready (rs := [5]) (by kernel_rfl) (by simp) (AllReadyH.cons (o := { dst := some 17, op := .call { callee := .value (.func 6), args := #[.tmp 15, .tmp 16], argTypes := #[26, 28] }, type := 33, pos := "law.go:66", after := #[{ on := 3, ground := .data }, { on := 4, ground := .data }, { on := 2, ground := .chain }], guard := none }) rfl (fun K hK => ?_) AllReadyH.nil)
          go_simp
          go_at_call 6
          refine (HB.out _ HG132.out.1).mono ?_
          rintro e wg133 ⟨rfl, bc133⟩
          have HG134 := Lib.hid (show Below w.heap.size w wg133 ∧ RowAt wg133 Z 26 #[.int .i64 x.res, .slice S.t.sp nT S.t.c, .slice S.m.sp nM S.m.c, .slice S.e.sp nE S.e.c] ∧ RowAt wg133 b7 33 (tb (fun _ => 0)) ∧ Z < b7 ∧ RowAt wg133 b8 33 (tb (fun _ => 0)) ∧ Z < b8 ∧ b7 ≠ b8 from ⟨(HG132.out.1.trans ((bc133).mono HG132.out.1.size)), (HG132.out.2.1.new (bc133)), (HG132.out.2.2.1.new (bc133)), HG132.out.2.2.2.1, (HG132.out.2.2.2.2.1.new (bc133)), HG132.out.2.2.2.2.2.1, HG132.out.2.2.2.2.2.2⟩)
          clear bc133
          try dsimp only
          refine hK.out _ _ HG134.out.2.1 (fun hHeld => ?_)
          clear hK K
          try simp only [Act.put, List.setIfInBounds_toArray, List.set_cons_zero, List.set_cons_succ]
          refine wpAnyH_ready (rs := [8]) (by kernel_rfl) (by simp) (AllReadyH.cons (o := { dst := none, op := .store 33 (.tmp 7) (.tmp 14), type := 0, pos := "law.go:66", after := #[{ on := 6, ground := .data }, { on := 2, ground := .data }, { on := 5, ground := .chain }, { on := 0, ground := .phase }, { on := 1, ground := .phase }, { on := 2, ground := .phase }, { on := 3, ground := .textOnly Go.Departure.lateStores }, { on := 4, ground := .textOnly Go.Departure.lateStores }, { on := 5, ground := .textOnly Go.Departure.lateStoresUnsure }, { on := 6, ground := .phase }, { on := 7, ground := .phase }], guard := none }) rfl (fun K hK => ?_) AllReadyH.nil)
          rw [if_pos (by rfl)]
          refine wp_store_row 33 (.tmp 7) (.tmp 14) rfl b7 A rfl rfl 33 (tb (fun _ => 0)) HG134.out.2.2.1 HIa.out.1 (by rw [HIa.out.2.2]; rfl) HIa.out.2.1 ?_
          generalize hwg135 : World.setRow _ _ _ = wg135
          have HG136 := Lib.hid (show Below w.heap.size w wg135 ∧ RowAt wg135 Z 26 #[.int .i64 x.res, .slice S.t.sp nT S.t.c, .slice S.m.sp nM S.m.c, .slice S.e.sp nE S.e.c] ∧ RowAt wg135 b7 33 A ∧ Z < b7 ∧ RowAt wg135 b8 33 (tb (fun _ => 0)) ∧ Z < b8 ∧ b7 ≠ b8 by rw [← hwg135]; exact ⟨below_row HG134.out.1 (Nat.le_refl _) (by have := HG134.out.2.2.2.1; have := HZ.out; omega) _, HG134.out.2.1.keep (ch_setRow _ _ _) (fun e => by have := HG134.out.2.2.2.1; omega), HG134.out.2.2.1.put, HG134.out.2.2.2.1, HG134.out.2.2.2.2.1.keep (ch_setRow _ _ _) (fun e => HG134.out.2.2.2.2.2.2 e.symm), HG134.out.2.2.2.2.2.1, HG134.out.2.2.2.2.2.2⟩)
          clear hwg135
          refine hK.out _ _ HG136.out.2.1 (fun hHeld => ?_)
          clear hK K
          try simp only [Act.put]
          refine wpAnyH_ready (rs := [9]) (by kernel_rfl) (by simp) (AllReadyH.cons (o := { dst := none, op := .store 33 (.tmp 8) (.tmp 17), type := 0, pos := "law.go:66", after := #[{ on := 7, ground := .data }, { on := 5, ground := .data }, { on := 8, ground := .chain }, { on := 0, ground := .phase }, { on := 1, ground := .phase }, { on := 2, ground := .phase }, { on := 3, ground := .phase }, { on := 4, ground := .phase }, { on := 5, ground := .phase }, { on := 6, ground := .phase }, { on := 7, ground := .phase }, { on := 8, ground := .phase }], guard := none }) rfl (fun K hK => ?_) AllReadyH.nil)
          rw [if_pos (by rfl)]
          refine wp_store_row 33 (.tmp 8) (.tmp 17) rfl b8 B rfl rfl 33 (tb (fun _ => 0)) HG136.out.2.2.2.2.1 HIb.out.1 (by rw [HIb.out.2.2]; rfl) HIb.out.2.1 ?_
          generalize hwg137 : World.setRow _ _ _ = wg137
          have HG138 := Lib.hid (show Below w.heap.size w wg137 ∧ RowAt wg137 Z 26 #[.int .i64 x.res, .slice S.t.sp nT S.t.c, .slice S.m.sp nM S.m.c, .slice S.e.sp nE S.e.c] ∧ RowAt wg137 b7 33 A ∧ Z < b7 ∧ RowAt wg137 b8 33 B ∧ Z < b8 ∧ b7 ≠ b8 by rw [← hwg137]; exact ⟨below_row HG136.out.1 (Nat.le_refl _) (by have := HG136.out.2.2.2.2.2.1; have := HZ.out; omega) _, HG136.out.2.1.keep (ch_setRow _ _ _) (fun e => by have := HG136.out.2.2.2.2.2.1; omega), HG136.out.2.2.1.keep (ch_setRow _ _ _) (fun e => HG136.out.2.2.2.2.2.2 e), HG136.out.2.2.2.1, HG136.out.2.2.2.2.1.put, HG136.out.2.2.2.2.2.1, HG136.out.2.2.2.2.2.2⟩)
          clear hwg137
          refine hK.out _ _ HG138.out.2.1 (fun hHeld => ?_)
          clear hK K
          try simp only [Act.put]
          refine wpAnyH_done (by kernel_rfl) ?_ _
          go_wp2
          go_meet
          case rel => exact ⟨b7, b8, rfl, rfl, HG138.out.1, HG138.out.2.1, HG138.out.2.2.1, HG138.out.2.2.2.2.1⟩
      · go_simp
        obtain ⟨b8, hb8⟩ : ∃ b, b = (wg101).heap.size := ⟨_, rfl⟩
        rw [← hb8]
        generalize hwg139 : World.alloc _ _ = wg139
        have bwg139 : Below (wg101).heap.size (wg101) wg139 := by rw [← hwg139]; exact (Below.refl _ _).alloc (Nat.le_refl _) _
        have rwg139 : RowAt wg139 b8 33 (tb (fun _ => 0)) := by rw [← hwg139, hb8]; exact RowAt.mk _ _ _
        have HG140 := Lib.hid (show Below w.heap.size w wg139 ∧ RowAt wg139 Z 26 #[.int .i64 x.res, .slice S.t.sp nT S.t.c, .slice S.m.sp nM S.m.c, .slice S.e.sp nE S.e.c] ∧ RowAt wg139 b8 33 (tb (fun _ => 0)) ∧ Z < b8 from ⟨(HG102.out.1.trans ((bwg139).mono HG102.out.1.size)), (HG102.out.2.new (bwg139)), rwg139, (by have := HG102.out.2.lt; omega)⟩)
        clear hwg139 bwg139 rwg139 hb8
        refine hK.out _ _ HG140.out.2.1 (fun hHeld => ?_)
        clear hK K
        try simp only [Act.put, List.setIfInBounds_toArray, List.set_cons_zero, List.set_cons_succ]
        refine wpAnyH_ready (rs := [5, 6]) (by kernel_rfl) (by simp) (AllReadyH.cons (o := { dst := some 17, op := .call { callee := .value (.func 6), args := #[.tmp 15, .tmp 16], argTypes := #[26, 28] }, type := 33, pos := "law.go:66", after := #[{ on := 3, ground := .data }, { on := 4, ground := .data }, { on := 2, ground := .chain }], guard := none }) rfl (fun K hK => ?_) (AllReadyH.cons (o := { dst := some 7, op := .alloc 33, type := 0, pos := "law.go:66", after := #[], guard := none }) rfl (fun K hK => ?_) AllReadyH.nil))
        · go_simp
          go_at_call 6
          refine (HB.out _ HG140.out.1).mono ?_
          rintro e wg141 ⟨rfl, bc141⟩
          have HG142 := Lib.hid (show Below w.heap.size w wg141 ∧ RowAt wg141 Z 26 #[.int .i64 x.res, .slice S.t.sp nT S.t.c, .slice S.m.sp nM S.m.c, .slice S.e.sp nE S.e.c] ∧ RowAt wg141 b8 33 (tb (fun _ => 0)) ∧ Z < b8 from ⟨(HG140.out.1.trans ((bc141).mono HG140.out.1.size)), (HG140.out.2.1.new (bc141)), (HG140.out.2.2.1.new (bc141)), HG140.out.2.2.2⟩)
          clear bc141
          try dsimp only
          refine hK.out _ _ HG142.out.2.1 (fun hHeld => ?_)
          clear hK K
          try simp only [Act.put, List.setIfInBounds_toArray, List.set_cons_zero, List.set_cons_succ]
          refine wpAnyH_ready (rs := [6]) (by kernel_rfl) (by simp) (AllReadyH.cons (o := { dst := some 7, op := .alloc 33, type := 0, pos := "law.go:66", after := #[], guard := none }) rfl (fun K hK => ?_) AllReadyH.nil)
          go_simp
          obtain ⟨b7, hb7⟩ : ∃ b, b = (wg141).heap.size := ⟨_, rfl⟩
          rw [← hb7]
          generalize hwg143 : World.alloc _ _ = wg143
          have bwg143 : Below (wg141).heap.size (wg141) wg143 := by rw [← hwg143]; exact (Below.refl _ _).alloc (Nat.le_refl _) _
          have rwg143 : RowAt wg143 b7 33 (tb (fun _ => 0)) := by rw [← hwg143, hb7]; exact RowAt.mk _ _ _
          have HG144 := Lib.hid (show Below w.heap.size w wg143 ∧ RowAt wg143 Z 26 #[.int .i64 x.res, .slice S.t.sp nT S.t.c, .slice S.m.sp nM S.m.c, .slice S.e.sp nE S.e.c] ∧ RowAt wg143 b8 33 (tb (fun _ => 0)) ∧ Z < b8 ∧ RowAt wg143 b7 33 (tb (fun _ => 0)) ∧ Z < b7 ∧ b7 ≠ b8 from ⟨(HG142.out.1.trans ((bwg143).mono HG142.out.1.size)), (HG142.out.2.1.new (bwg143)), (HG142.out.2.2.1.new (bwg143)), HG142.out.2.2.2, rwg143, (by have := HG142.out.2.1.lt; omega), (by have := HG142.out.2.2.1.lt; omega)⟩)
          clear hwg143 bwg143 rwg143 hb7
          refine hK.out _ _ HG144.out.2.1 (fun hHeld => ?_)
          clear hK K
          try simp only [Act.put, List.setIfInBounds_toArray, List.set_cons_zero, List.set_cons_succ]
          refine wpAnyH_ready (rs := [8]) (by kernel_rfl) (by simp) (AllReadyH.cons (o := { dst := none, op := .store 33 (.tmp 7) (.tmp 14), type := 0, pos := "law.go:66", after := #[{ on := 6, ground := .data }, { on := 2, ground := .data }, { on := 5, ground := .chain }, { on := 0, ground := .phase }, { on := 1, ground := .phase }, { on := 2, ground := .phase }, { on := 3, ground := .textOnly Go.Departure.lateStores }, { on := 4, ground := .textOnly Go.Departure.lateStores }, { on := 5, ground := .textOnly Go.Departure.lateStoresUnsure }, { on := 6, ground := .phase }, { on := 7, ground := .phase }], guard := none }) rfl (fun K hK => ?_) AllReadyH.nil)
          rw [if_pos (by rfl)]
          refine wp_store_row 33 (.tmp 7) (.tmp 14) rfl b7 A rfl rfl 33 (tb (fun _ => 0)) HG144.out.2.2.2.2.1 HIa.out.1 (by rw [HIa.out.2.2]; rfl) HIa.out.2.1 ?_
          generalize hwg145 : World.setRow _ _ _ = wg145
          have HG146 := Lib.hid (show Below w.heap.size w wg145 ∧ RowAt wg145 Z 26 #[.int .i64 x.res, .slice S.t.sp nT S.t.c, .slice S.m.sp nM S.m.c, .slice S.e.sp nE S.e.c] ∧ RowAt wg145 b8 33 (tb (fun _ => 0)) ∧ Z < b8 ∧ RowAt wg145 b7 33 A ∧ Z < b7 ∧ b7 ≠ b8 by rw [← hwg145]; exact ⟨below_row HG144.out.1 (Nat.le_refl _) (by have := HG144.out.2.2.2.2.2.1; have := HZ.out; omega) _, HG144.out.2.1.keep (ch_setRow _ _ _) (fun e => by have := HG144.out.2.2.2.2.2.1; omega), HG144.out.2.2.1.keep (ch_setRow _ _ _) (fun e => HG144.out.2.2.2.2.2.2 e.symm), HG144.out.2.2.2.1, HG144.out.2.2.2.2.1.put, HG144.out.2.2.2.2.2.1, HG144.out.2.2.2.2.2.2⟩)
          clear hwg145
          refine hK.out _ _ HG146.out.2.1 (fun hHeld => ?_)
          clear hK K
          try simp only [Act.put]
          refine wpAnyH_ready (rs := [9]) (by kernel_rfl) (by simp) (AllReadyH.cons (o := { dst := none, op := .store 33 (.tmp 8) (.tmp 17), type := 0, pos := "law.go:66", after := #[{ on := 7, ground := .data }, { on := 5, ground := .data }, { on := 8, ground := .chain }, { on := 0, ground := .phase }, { on := 1, ground := .phase }, { on := 2, ground := .phase }, { on := 3, ground := .phase }, { on := 4, ground := .phase }, { on := 5, ground := .phase }, { on := 6, ground := .phase }, { on := 7, ground := .phase }, { on := 8, ground := .phase }], guard := none }) rfl (fun K hK => ?_) AllReadyH.nil)
          rw [if_pos (by rfl)]
          refine wp_store_row 33 (.tmp 8) (.tmp 17) rfl b8 B rfl rfl 33 (tb (fun _ => 0)) HG146.out.2.2.1 HIb.out.1 (by rw [HIb.out.2.2]; rfl) HIb.out.2.1 ?_
          generalize hwg147 : World.setRow _ _ _ = wg147
          have HG148 := Lib.hid (show Below w.heap.size w wg147 ∧ RowAt wg147 Z 26 #[.int .i64 x.res, .slice S.t.sp nT S.t.c, .slice S.m.sp nM S.m.c, .slice S.e.sp nE S.e.c] ∧ RowAt wg147 b8 33 B ∧ Z < b8 ∧ RowAt wg147 b7 33 A ∧ Z < b7 ∧ b7 ≠ b8 by rw [← hwg147]; exact ⟨below_row HG146.out.1 (Nat.le_refl _) (by have := HG146.out.2.2.2.1; have := HZ.out; omega) _, HG146.out.2.1.keep (ch_setRow _ _ _) (fun e => by have := HG146.out.2.2.2.1; omega), HG146.out.2.2.1.put, HG146.out.2.2.2.1, HG146.out.2.2.2.2.1.keep (ch_setRow _ _ _) (fun e => HG146.out.2.2.2.2.2.2 e), HG146.out.2.2.2.2.2.1, HG146.out.2.2.2.2.2.2⟩)
          clear hwg147
          refine hK.out _ _ HG148.out.2.1 (fun hHeld => ?_)
          clear hK K
          try simp only [Act.put]
          refine wpAnyH_done (by kernel_rfl) ?_ _
          go_wp2
          go_meet
          case rel => exact ⟨b7, b8, rfl, rfl, HG148.out.1, HG148.out.2.1, HG148.out.2.2.2.2.1, HG148.out.2.2.1⟩
        · go_simp
          obtain ⟨b7, hb7⟩ : ∃ b, b = (wg139).heap.size := ⟨_, rfl⟩
          rw [← hb7]
          generalize hwg149 : World.alloc _ _ = wg149
          have bwg149 : Below (wg139).heap.size (wg139) wg149 := by rw [← hwg149]; exact (Below.refl _ _).alloc (Nat.le_refl _) _
          have rwg149 : RowAt wg149 b7 33 (tb (fun _ => 0)) := by rw [← hwg149, hb7]; exact RowAt.mk _ _ _
          have HG150 := Lib.hid (show Below w.heap.size w wg149 ∧ RowAt wg149 Z 26 #[.int .i64 x.res, .slice S.t.sp nT S.t.c, .slice S.m.sp nM S.m.c, .slice S.e.sp nE S.e.c] ∧ RowAt wg149 b8 33 (tb (fun _ => 0)) ∧ Z < b8 ∧ RowAt wg149 b7 33 (tb (fun _ => 0)) ∧ Z < b7 ∧ b7 ≠ b8 from ⟨(HG140.out.1.trans ((bwg149).mono HG140.out.1.size)), (HG140.out.2.1.new (bwg149)), (HG140.out.2.2.1.new (bwg149)), HG140.out.2.2.2, rwg149, (by have := HG140.out.2.1.lt; omega), (by have := HG140.out.2.2.1.lt; omega)⟩)
          clear hwg149 bwg149 rwg149 hb7
          refine hK.out _ _ HG150.out.2.1 (fun hHeld => ?_)
          clear hK K
          try simp only [Act.put, List.setIfInBounds_toArray, List.set_cons_zero, List.set_cons_succ]
          refine wpAnyH_ready (rs := [5]) (by kernel_rfl) (by simp) (AllReadyH.cons (o := { dst := some 17, op := .call { callee := .value (.func 6), args := #[.tmp 15, .tmp 16], argTypes := #[26, 28] }, type := 33, pos := "law.go:66", after := #[{ on := 3, ground := .data }, { on := 4, ground := .data }, { on := 2, ground := .chain }], guard := none }) rfl (fun K hK => ?_) AllReadyH.nil)
          go_simp
          go_at_call 6
          refine (HB.out _ HG150.out.1).mono ?_
          rintro e wg151 ⟨rfl, bc151⟩
          have HG152 := Lib.hid (show Below w.heap.size w wg151 ∧ RowAt wg151 Z 26 #[.int .i64 x.res, .slice S.t.sp nT S.t.c, .slice S.m.sp nM S.m.c, .slice S.e.sp nE S.e.c] ∧ RowAt wg151 b8 33 (tb (fun _ => 0)) ∧ Z < b8 ∧ RowAt wg151 b7 33 (tb (fun _ => 0)) ∧ Z < b7 ∧ b7 ≠ b8 from ⟨(HG150.out.1.trans ((bc151).mono HG150.out.1.size)), (HG150.out.2.1.new (bc151)), (HG150.out.2.2.1.new (bc151)), HG150.out.2.2.2.1, (HG150.out.2.2.2.2.1.new (bc151)), HG150.out.2.2.2.2.2.1, HG150.out.2.2.2.2.2.2⟩)
          clear bc151
          try dsimp only
          refine hK.out _ _ HG152.out.2.1 (fun hHeld => ?_)
          clear hK K
          try simp only [Act.put, List.setIfInBounds_toArray, List.set_cons_zero, List.set_cons_succ]
          refine wpAnyH_ready (rs := [8]) (by kernel_rfl) (by simp) (AllReadyH.cons (o := { dst := none, op := .store 33 (.tmp 7) (.tmp 14), type := 0, pos := "law.go:66", after := #[{ on := 6, ground := .data }, { on := 2, ground := .data }, { on := 5, ground := .chain }, { on := 0, ground := .phase }, { on := 1, ground := .phase }, { on := 2, ground := .phase }, { on := 3, ground := .textOnly Go.Departure.lateStores }, { on := 4, ground := .textOnly Go.Departure.lateStores }, { on := 5, ground := .textOnly Go.Departure.lateStoresUnsure }, { on := 6, ground := .phase }, { on := 7, ground := .phase }], guard := none }) rfl (fun K hK => ?_) AllReadyH.nil)
          rw [if_pos (by rfl)]
          refine wp_store_row 33 (.tmp 7) (.tmp 14) rfl b7 A rfl rfl 33 (tb (fun _ => 0)) HG152.out.2.2.2.2.1 HIa.out.1 (by rw [HIa.out.2.2]; rfl) HIa.out.2.1 ?_
          generalize hwg153 : World.setRow _ _ _ = wg153
          have HG154 := Lib.hid (show Below w.heap.size w wg153 ∧ RowAt wg153 Z 26 #[.int .i64 x.res, .slice S.t.sp nT S.t.c, .slice S.m.sp nM S.m.c, .slice S.e.sp nE S.e.c] ∧ RowAt wg153 b8 33 (tb (fun _ => 0)) ∧ Z < b8 ∧ RowAt wg153 b7 33 A ∧ Z < b7 ∧ b7 ≠ b8 by rw [← hwg153]; exact ⟨below_row HG152.out.1 (Nat.le_refl _) (by have := HG152.out.2.2.2.2.2.1; have := HZ.out; omega) _, HG152.out.2.1.keep (ch_setRow _ _ _) (fun e => by have := HG152.out.2.2.2.2.2.1; omega), HG152.out.2.2.1.keep (ch_setRow _ _ _) (fun e => HG152.out.2.2.2.2.2.2 e.symm), HG152.out.2.2.2.1, HG152.out.2.2.2.2.1.put, HG152.out.2.2.2.2.2.1, HG152.out.2.2.2.2.2.2⟩)
          clear hwg153
          refine hK.out _ _ HG154.out.2.1 (fun hHeld => ?_)
          clear hK K
          try simp only [Act.put]
          refine wpAnyH_ready (rs := [9]) (by kernel_rfl) (by simp) (AllReadyH.cons (o := { dst := none, op := .store 33 (.tmp 8) (.tmp 17), type := 0, pos := "law.go:66", after := #[{ on := 7, ground := .data }, { on := 5, ground := .data }, { on := 8, ground := .chain }, { on := 0, ground := .phase }, { on := 1, ground := .phase }, { on := 2, ground := .phase }, { on := 3, ground := .phase }, { on := 4, ground := .phase }, { on := 5, ground := .phase }, { on := 6, ground := .phase }, { on := 7, ground := .phase }, { on := 8, ground := .phase }], guard := none }) rfl (fun K hK => ?_) AllReadyH.nil)
          rw [if_pos (by rfl)]
          refine wp_store_row 33 (.tmp 8) (.tmp 17) rfl b8 B rfl rfl 33 (tb (fun _ => 0)) HG154.out.2.2.1 HIb.out.1 (by rw [HIb.out.2.2]; rfl) HIb.out.2.1 ?_
          generalize hwg155 : World.setRow _ _ _ = wg155
          have HG156 := Lib.hid (show Below w.heap.size w wg155 ∧ RowAt wg155 Z 26 #[.int .i64 x.res, .slice S.t.sp nT S.t.c, .slice S.m.sp nM S.m.c, .slice S.e.sp nE S.e.c] ∧ RowAt wg155 b8 33 B ∧ Z < b8 ∧ RowAt wg155 b7 33 A ∧ Z < b7 ∧ b7 ≠ b8 by rw [← hwg155]; exact ⟨below_row HG154.out.1 (Nat.le_refl _) (by have := HG154.out.2.2.2.1; have := HZ.out; omega) _, HG154.out.2.1.keep (ch_setRow _ _ _) (fun e => by have := HG154.out.2.2.2.1; omega), HG154.out.2.2.1.put, HG154.out.2.2.2.1, HG154.out.2.2.2.2.1.keep (ch_setRow _ _ _) (fun e => HG154.out.2.2.2.2.2.2 e), HG154.out.2.2.2.2.2.1, HG154.out.2.2.2.2.2.2⟩)
          clear hwg155
          refine hK.out _ _ HG156.out.2.1 (fun hHeld => ?_)
          clear hK K
          try simp only [Act.put]
          refine wpAnyH_done (by kernel_rfl) ?_ _
          go_wp2
          go_meet
          case rel => exact ⟨b7, b8, rfl, rfl, HG156.out.1, HG156.out.2.1, HG156.out.2.2.2.2.1, HG156.out.2.2.1⟩
    · go_simp
      obtain ⟨b7, hb7⟩ : ∃ b, b = (wd).heap.size := ⟨_, rfl⟩
      rw [← hb7]
      generalize hwg157 : World.alloc _ _ = wg157
      have bwg157 : Below (wd).heap.size (wd) wg157 := by rw [← hwg157]; exact (Below.refl _ _).alloc (Nat.le_refl _) _
      have rwg157 : RowAt wg157 b7 33 (tb (fun _ => 0)) := by rw [← hwg157, hb7]; exact RowAt.mk _ _ _
      have HG158 := Lib.hid (show Below w.heap.size w wg157 ∧ RowAt wg157 Z 26 #[.int .i64 x.res, .slice S.t.sp nT S.t.c, .slice S.m.sp nM S.m.c, .slice S.e.sp nE S.e.c] ∧ RowAt wg157 b7 33 (tb (fun _ => 0)) ∧ Z < b7 from ⟨(HG1.out.1.trans ((bwg157).mono HG1.out.1.size)), (HG1.out.2.new (bwg157)), rwg157, (by have := HG1.out.2.lt; omega)⟩)
      clear hwg157 bwg157 rwg157 hb7
      refine hK.out _ _ HG158.out.2.1 (fun hHeld => ?_)
      clear hK K
      try simp only [Act.put, List.setIfInBounds_toArray, List.set_cons_zero, List.set_cons_succ]
      refine wpAnyH_ready (rs := [2, 7]) (by kernel_rfl) (by simp) (AllReadyH.cons (o := { dst := some 14, op := .call { callee := .value (.func 6), args := #[.tmp 12, .tmp 13], argTypes := #[26, 28] }, type := 33, pos := "law.go:66", after := #[{ on := 0, ground := .data }, { on := 1, ground := .data }], guard := none }) rfl (fun K hK => ?_) (AllReadyH.cons (o := { dst := some 8, op := .alloc 33, type := 0, pos := "law.go:66", after := #[], guard := none }) rfl (fun K hK => ?_) AllReadyH.nil))
      · go_simp
        go_at_call 6
        refine (HA.out _ HG158.out.1).mono ?_
        rintro e wg159 ⟨rfl, bc159⟩
        have HG160 := Lib.hid (show Below w.heap.size w wg159 ∧ RowAt wg159 Z 26 #[.int .i64 x.res, .slice S.t.sp nT S.t.c, .slice S.m.sp nM S.m.c, .slice S.e.sp nE S.e.c] ∧ RowAt wg159 b7 33 (tb (fun _ => 0)) ∧ Z < b7 from ⟨(HG158.out.1.trans ((bc159).mono HG158.out.1.size)), (HG158.out.2.1.new (bc159)), (HG158.out.2.2.1.new (bc159)), HG158.out.2.2.2⟩)
        clear bc159
        try dsimp only
        refine hK.out _ _ HG160.out.2.1 (fun hHeld => ?_)
        clear hK K
        try simp only [Act.put, List.setIfInBounds_toArray, List.set_cons_zero, List.set_cons_succ]
        refine wpAnyH_ready (rs := [5, 7]) (by kernel_rfl) (by simp) (AllReadyH.cons (o := { dst := some 17, op := .call { callee := .value (.func 6), args := #[.tmp 15, .tmp 16], argTypes := #[26, 28] }, type := 33, pos := "law.go:66", after := #[{ on := 3, ground := .data }, { on := 4, ground := .data }, { on := 2, ground := .chain }], guard := none }) rfl (fun K hK => ?_) (AllReadyH.cons (o := { dst := some 8, op := .alloc 33, type := 0, pos := "law.go:66", after := #[], guard := none }) rfl (fun K hK => ?_) AllReadyH.nil))
        · go_simp
          go_at_call 6
          refine (HB.out _ HG160.out.1).mono ?_
          rintro e wg161 ⟨rfl, bc161⟩
          have HG162 := Lib.hid (show Below w.heap.size w wg161 ∧ RowAt wg161 Z 26 #[.int .i64 x.res, .slice S.t.sp nT S.t.c, .slice S.m.sp nM S.m.c, .slice S.e.sp nE S.e.c] ∧ RowAt wg161 b7 33 (tb (fun _ => 0)) ∧ Z < b7 from ⟨(HG160.out.1.trans ((bc161).mono HG160.out.1.size)), (HG160.out.2.1.new (bc161)), (HG160.out.2.2.1.new (bc161)), HG160.out.2.2.2⟩)
          clear bc161
          try dsimp only
          refine hK.out _ _ HG162.out.2.1 (fun hHeld => ?_)
          clear hK K
          try simp only [Act.put, List.setIfInBounds_toArray, List.set_cons_zero, List.set_cons_succ]
          refine wpAnyH_ready (rs := [7]) (by kernel_rfl) (by simp) (AllReadyH.cons (o := { dst := some 8, op := .alloc 33, type := 0, pos := "law.go:66", after := #[], guard := none }) rfl (fun K hK => ?_) AllReadyH.nil)
          go_simp
          obtain ⟨b8, hb8⟩ : ∃ b, b = (wg161).heap.size := ⟨_, rfl⟩
          rw [← hb8]
          generalize hwg163 : World.alloc _ _ = wg163
          have bwg163 : Below (wg161).heap.size (wg161) wg163 := by rw [← hwg163]; exact (Below.refl _ _).alloc (Nat.le_refl _) _
          have rwg163 : RowAt wg163 b8 33 (tb (fun _ => 0)) := by rw [← hwg163, hb8]; exact RowAt.mk _ _ _
          have HG164 := Lib.hid (show Below w.heap.size w wg163 ∧ RowAt wg163 Z 26 #[.int .i64 x.res, .slice S.t.sp nT S.t.c, .slice S.m.sp nM S.m.c, .slice S.e.sp nE S.e.c] ∧ RowAt wg163 b7 33 (tb (fun _ => 0)) ∧ Z < b7 ∧ RowAt wg163 b8 33 (tb (fun _ => 0)) ∧ Z < b8 ∧ b7 ≠ b8 from ⟨(HG162.out.1.trans ((bwg163).mono HG162.out.1.size)), (HG162.out.2.1.new (bwg163)), (HG162.out.2.2.1.new (bwg163)), HG162.out.2.2.2, rwg163, (by have := HG162.out.2.1.lt; omega), (by have := HG162.out.2.2.1.lt; omega)⟩)
          clear hwg163 bwg163 rwg163 hb8
          refine hK.out _ _ HG164.out.2.1 (fun hHeld => ?_)
          clear hK K
          try simp only [Act.put, List.setIfInBounds_toArray, List.set_cons_zero, List.set_cons_succ]
          refine wpAnyH_ready (rs := [8]) (by kernel_rfl) (by simp) (AllReadyH.cons (o := { dst := none, op := .store 33 (.tmp 7) (.tmp 14), type := 0, pos := "law.go:66", after := #[{ on := 6, ground := .data }, { on := 2, ground := .data }, { on := 5, ground := .chain }, { on := 0, ground := .phase }, { on := 1, ground := .phase }, { on := 2, ground := .phase }, { on := 3, ground := .textOnly Go.Departure.lateStores }, { on := 4, ground := .textOnly Go.Departure.lateStores }, { on := 5, ground := .textOnly Go.Departure.lateStoresUnsure }, { on := 6, ground := .phase }, { on := 7, ground := .phase }], guard := none }) rfl (fun K hK => ?_) AllReadyH.nil)
          rw [if_pos (by rfl)]
          refine wp_store_row 33 (.tmp 7) (.tmp 14) rfl b7 A rfl rfl 33 (tb (fun _ => 0)) HG164.out.2.2.1 HIa.out.1 (by rw [HIa.out.2.2]; rfl) HIa.out.2.1 ?_
          generalize hwg165 : World.setRow _ _ _ = wg165
          have HG166 := Lib.hid (show Below w.heap.size w wg165 ∧ RowAt wg165 Z 26 #[.int .i64 x.res, .slice S.t.sp nT S.t.c, .slice S.m.sp nM S.m.c, .slice S.e.sp nE S.e.c] ∧ RowAt wg165 b7 33 A ∧ Z < b7 ∧ RowAt wg165 b8 33 (tb (fun _ => 0)) ∧ Z < b8 ∧ b7 ≠ b8 by rw [← hwg165]; exact ⟨below_row HG164.out.1 (Nat.le_refl _) (by have := HG164.out.2.2.2.1; have := HZ.out; omega) _, HG164.out.2.1.keep (ch_setRow _ _ _) (fun e => by have := HG164.out.2.2.2.1; omega), HG164.out.2.2.1.put, HG164.out.2.2.2.1, HG164.out.2.2.2.2.1.keep (ch_setRow _ _ _) (fun e => HG164.out.2.2.2.2.2.2 e.symm), HG164.out.2.2.2.2.2.1, HG164.out.2.2.2.2.2.2⟩)
          clear hwg165
          refine hK.out _ _ HG166.out.2.1 (fun hHeld => ?_)
          clear hK K
          try simp only [Act.put]
          refine wpAnyH_ready (rs := [9]) (by kernel_rfl) (by simp) (AllReadyH.cons (o := { dst := none, op := .store 33 (.tmp 8) (.tmp 17), type := 0, pos := "law.go:66", after := #[{ on := 7, ground := .data }, { on := 5, ground := .data }, { on := 8, ground := .chain }, { on := 0, ground := .phase }, { on := 1, ground := .phase }, { on := 2, ground := .phase }, { on := 3, ground := .phase }, { on := 4, ground := .phase }, { on := 5, ground := .phase }, { on := 6, ground := .phase }, { on := 7, ground := .phase }, { on := 8, ground := .phase }], guard := none }) rfl (fun K hK => ?_) AllReadyH.nil)
          rw [if_pos (by rfl)]
          refine wp_store_row 33 (.tmp 8) (.tmp 17) rfl b8 B rfl rfl 33 (tb (fun _ => 0)) HG166.out.2.2.2.2.1 HIb.out.1 (by rw [HIb.out.2.2]; rfl) HIb.out.2.1 ?_
          generalize hwg167 : World.setRow _ _ _ = wg167
          have HG168 := Lib.hid (show Below w.heap.size w wg167 ∧ RowAt wg167 Z 26 #[.int .i64 x.res, .slice S.t.sp nT S.t.c, .slice S.m.sp nM S.m.c, .slice S.e.sp nE S.e.c] ∧ RowAt wg167 b7 33 A ∧ Z < b7 ∧ RowAt wg167 b8 33 B ∧ Z < b8 ∧ b7 ≠ b8 by rw [← hwg167]; exact ⟨below_row HG166.out.1 (Nat.le_refl _) (by have := HG166.out.2.2.2.2.2.1; have := HZ.out; omega) _, HG166.out.2.1.keep (ch_setRow _ _ _) (fun e => by have := HG166.out.2.2.2.2.2.1; omega), HG166.out.2.2.1.keep (ch_setRow _ _ _) (fun e => HG166.out.2.2.2.2.2.2 e), HG166.out.2.2.2.1, HG166.out.2.2.2.2.1.put, HG166.out.2.2.2.2.2.1, HG166.out.2.2.2.2.2.2⟩)
          clear hwg167
          refine hK.out _ _ HG168.out.2.1 (fun hHeld => ?_)
          clear hK K
          try simp only [Act.put]
          refine wpAnyH_done (by kernel_rfl) ?_ _
          go_wp2
          go_meet
          case rel => exact ⟨b7, b8, rfl, rfl, HG168.out.1, HG168.out.2.1, HG168.out.2.2.1, HG168.out.2.2.2.2.1⟩
        · go_simp
          obtain ⟨b8, hb8⟩ : ∃ b, b = (wg159).heap.size := ⟨_, rfl⟩
          rw [← hb8]
          generalize hwg169 : World.alloc _ _ = wg169
          have bwg169 : Below (wg159).heap.size (wg159) wg169 := by rw [← hwg169]; exact (Below.refl _ _).alloc (Nat.le_refl _) _
          have rwg169 : RowAt wg169 b8 33 (tb (fun _ => 0)) := by rw [← hwg169, hb8]; exact RowAt.mk _ _ _
          have HG170 := Lib.hid (show Below w.heap.size w wg169 ∧ RowAt wg169 Z 26 #[.int .i64 x.res, .slice S.t.sp nT S.t.c, .slice S.m.sp nM S.m.c, .slice S.e.sp nE S.e.c] ∧ RowAt wg169 b7 33 (tb (fun _ => 0)) ∧ Z < b7 ∧ RowAt wg169 b8 33 (tb (fun _ => 0)) ∧ Z < b8 ∧ b7 ≠ b8 from ⟨(HG160.out.1.trans ((bwg169).mono HG160.out.1.size)), (HG160.out.2.1.new (bwg169)), (HG160.out.2.2.1.new (bwg169)), HG160.out.2.2.2, rwg169, (by have := HG160.out.2.1.lt; omega), (by have := HG160.out.2.2.1.lt; omega)⟩)
          clear hwg169 bwg169 rwg169 hb8
          refine hK.out _ _ HG170.out.2.1 (fun hHeld => ?_)
          clear hK K
          try simp only [Act.put, List.setIfInBounds_toArray, List.set_cons_zero, List.set_cons_succ]
          refine wpAnyH_ready (rs := [5]) (by kernel_rfl) (by simp) (AllReadyH.cons (o := { dst := some 17, op := .call { callee := .value (.func 6), args := #[.tmp 15, .tmp 16], argTypes := #[26, 28] }, type := 33, pos := "law.go:66", after := #[{ on := 3, ground := .data }, { on := 4, ground := .data }, { on := 2, ground := .chain }], guard := none }) rfl (fun K hK => ?_) AllReadyH.nil)
          go_simp
          go_at_call 6
          refine (HB.out _ HG170.out.1).mono ?_
          rintro e wg171 ⟨rfl, bc171⟩
          have HG172 := Lib.hid (show Below w.heap.size w wg171 ∧ RowAt wg171 Z 26 #[.int .i64 x.res, .slice S.t.sp nT S.t.c, .slice S.m.sp nM S.m.c, .slice S.e.sp nE S.e.c] ∧ RowAt wg171 b7 33 (tb (fun _ => 0)) ∧ Z < b7 ∧ RowAt wg171 b8 33 (tb (fun _ => 0)) ∧ Z < b8 ∧ b7 ≠ b8 from ⟨(HG170.out.1.trans ((bc171).mono HG170.out.1.size)), (HG170.out.2.1.new (bc171)), (HG170.out.2.2.1.new (bc171)), HG170.out.2.2.2.1, (HG170.out.2.2.2.2.1.new (bc171)), HG170.out.2.2.2.2.2.1, HG170.out.2.2.2.2.2.2⟩)
          clear bc171
          try dsimp only
          refine hK.out _ _ HG172.out.2.1 (fun hHeld => ?_)
          clear hK K
          try simp only [Act.put, List.setIfInBounds_toArray, List.set_cons_zero, List.set_cons_succ]
          refine wpAnyH_ready (rs := [8]) (by kernel_rfl) (by simp) (AllReadyH.cons (o := { dst := none, op := .store 33 (.tmp 7) (.tmp 14), type := 0, pos := "law.go:66", after := #[{ on := 6, ground := .data }, { on := 2, ground := .data }, { on := 5, ground := .chain }, { on := 0, ground := .phase }, { on := 1, ground := .phase }, { on := 2, ground := .phase }, { on := 3, ground := .textOnly Go.Departure.lateStores }, { on := 4, ground := .textOnly Go.Departure.lateStores }, { on := 5, ground := .textOnly Go.Departure.lateStoresUnsure }, { on := 6, ground := .phase }, { on := 7, ground := .phase }], guard := none }) rfl (fun K hK => ?_) AllReadyH.nil)
          rw [if_pos (by rfl)]
          refine wp_store_row 33 (.tmp 7) (.tmp 14) rfl b7 A rfl rfl 33 (tb (fun _ => 0)) HG172.out.2.2.1 HIa.out.1 (by rw [HIa.out.2.2]; rfl) HIa.out.2.1 ?_
          generalize hwg173 : World.setRow _ _ _ = wg173
          have HG174 := Lib.hid (show Below w.heap.size w wg173 ∧ RowAt wg173 Z 26 #[.int .i64 x.res, .slice S.t.sp nT S.t.c, .slice S.m.sp nM S.m.c, .slice S.e.sp nE S.e.c] ∧ RowAt wg173 b7 33 A ∧ Z < b7 ∧ RowAt wg173 b8 33 (tb (fun _ => 0)) ∧ Z < b8 ∧ b7 ≠ b8 by rw [← hwg173]; exact ⟨below_row HG172.out.1 (Nat.le_refl _) (by have := HG172.out.2.2.2.1; have := HZ.out; omega) _, HG172.out.2.1.keep (ch_setRow _ _ _) (fun e => by have := HG172.out.2.2.2.1; omega), HG172.out.2.2.1.put, HG172.out.2.2.2.1, HG172.out.2.2.2.2.1.keep (ch_setRow _ _ _) (fun e => HG172.out.2.2.2.2.2.2 e.symm), HG172.out.2.2.2.2.2.1, HG172.out.2.2.2.2.2.2⟩)
          clear hwg173
          refine hK.out _ _ HG174.out.2.1 (fun hHeld => ?_)
          clear hK K
          try simp only [Act.put]
          refine wpAnyH_ready (rs := [9]) (by kernel_rfl) (by simp) (AllReadyH.cons (o := { dst := none, op := .store 33 (.tmp 8) (.tmp 17), type := 0, pos := "law.go:66", after := #[{ on := 7, ground := .data }, { on := 5, ground := .data }, { on := 8, ground := .chain }, { on := 0, ground := .phase }, { on := 1, ground := .phase }, { on := 2, ground := .phase }, { on := 3, ground := .phase }, { on := 4, ground := .phase }, { on := 5, ground := .phase }, { on := 6, ground := .phase }, { on := 7, ground := .phase }, { on := 8, ground := .phase }], guard := none }) rfl (fun K hK => ?_) AllReadyH.nil)
          rw [if_pos (by rfl)]
          refine wp_store_row 33 (.tmp 8) (.tmp 17) rfl b8 B rfl rfl 33 (tb (fun _ => 0)) HG174.out.2.2.2.2.1 HIb.out.1 (by rw [HIb.out.2.2]; rfl) HIb.out.2.1 ?_
          generalize hwg175 : World.setRow _ _ _ = wg175
          have HG176 := Lib.hid (show Below w.heap.size w wg175 ∧ RowAt wg175 Z 26 #[.int .i64 x.res, .slice S.t.sp nT S.t.c, .slice S.m.sp nM S.m.c, .slice S.e.sp nE S.e.c] ∧ RowAt wg175 b7 33 A ∧ Z < b7 ∧ RowAt wg175 b8 33 B ∧ Z < b8 ∧ b7 ≠ b8 by rw [← hwg175]; exact ⟨below_row HG174.out.1 (Nat.le_refl _) (by have := HG174.out.2.2.2.2.2.1; have := HZ.out; omega) _, HG174.out.2.1.keep (ch_setRow _ _ _) (fun e => by have := HG174.out.2.2.2.2.2.1; omega), HG174.out.2.2.1.keep (ch_setRow _ _ _) (fun e => HG174.out.2.2.2.2.2.2 e), HG174.out.2.2.2.1, HG174.out.2.2.2.2.1.put, HG174.out.2.2.2.2.2.1, HG174.out.2.2.2.2.2.2⟩)
          clear hwg175
          refine hK.out _ _ HG176.out.2.1 (fun hHeld => ?_)
          clear hK K
          try simp only [Act.put]
          refine wpAnyH_done (by kernel_rfl) ?_ _
          go_wp2
          go_meet
          case rel => exact ⟨b7, b8, rfl, rfl, HG176.out.1, HG176.out.2.1, HG176.out.2.2.1, HG176.out.2.2.2.2.1⟩
      · go_simp
        obtain ⟨b8, hb8⟩ : ∃ b, b = (wg157).heap.size := ⟨_, rfl⟩
        rw [← hb8]
        generalize hwg177 : World.alloc _ _ = wg177
        have bwg177 : Below (wg157).heap.size (wg157) wg177 := by rw [← hwg177]; exact (Below.refl _ _).alloc (Nat.le_refl _) _
        have rwg177 : RowAt wg177 b8 33 (tb (fun _ => 0)) := by rw [← hwg177, hb8]; exact RowAt.mk _ _ _
        have HG178 := Lib.hid (show Below w.heap.size w wg177 ∧ RowAt wg177 Z 26 #[.int .i64 x.res, .slice S.t.sp nT S.t.c, .slice S.m.sp nM S.m.c, .slice S.e.sp nE S.e.c] ∧ RowAt wg177 b7 33 (tb (fun _ => 0)) ∧ Z < b7 ∧ RowAt wg177 b8 33 (tb (fun _ => 0)) ∧ Z < b8 ∧ b7 ≠ b8 from ⟨(HG158.out.1.trans ((bwg177).mono HG158.out.1.size)), (HG158.out.2.1.new (bwg177)), (HG158.out.2.2.1.new (bwg177)), HG158.out.2.2.2, rwg177, (by have := HG158.out.2.1.lt; omega), (by have := HG158.out.2.2.1.lt; omega)⟩)
        clear hwg177 bwg177 rwg177 hb8
        refine hK.out _ _ HG178.out.2.1 (fun hHeld => ?_)
        clear hK K
        try simp only [Act.put, List.setIfInBounds_toArray, List.set_cons_zero, List.set_cons_succ]
        refine wpAnyH_ready (rs := [2]) (by kernel_rfl) (by simp) (AllReadyH.cons (o := { dst := some 14, op := .call { callee := .value (.func 6), args := #[.tmp 12, .tmp 13], argTypes := #[26, 28] }, type := 33, pos := "law.go:66", after := #[{ on := 0, ground := .data }, { on := 1, ground := .data }], guard := none }) rfl (fun K hK => ?_) AllReadyH.nil)
        go_simp
        go_at_call 6
        refine (HA.out _ HG178.out.1).mono ?_
        rintro e wg179 ⟨rfl, bc179⟩
        have HG180 := Lib.hid (show Below w.heap.size w wg179 ∧ RowAt wg179 Z 26 #[.int .i64 x.res, .slice S.t.sp nT S.t.c, .slice S.m.sp nM S.m.c, .slice S.e.sp nE S.e.c] ∧ RowAt wg179 b7 33 (tb (fun _ => 0)) ∧ Z < b7 ∧ RowAt wg179 b8 33 (tb (fun _ => 0)) ∧ Z < b8 ∧ b7 ≠ b8 from ⟨(HG178.out.1.trans ((bc179).mono HG178.out.1.size)), (HG178.out.2.1.new (bc179)), (HG178.out.2.2.1.new (bc179)), HG178.out.2.2.2.1, (HG178.out.2.2.2.2.1.new (bc179)), HG178.out.2.2.2.2.2.1, HG178.out.2.2.2.2.2.2⟩)
        clear bc179
        try dsimp only
        refine hK.out _ _ HG180.out.2.1 (fun hHeld => ?_)
        clear hK K
        try simp only [Act.put, List.setIfInBounds_toArray, List.set_cons_zero, List.set_cons_succ]
        refine wpAnyH_ready (rs := [5]) (by kernel_rfl) (by simp) (AllReadyH.cons (o := { dst := some 17, op := .call { callee := .value (.func 6), args := #[.tmp 15, .tmp 16], argTypes := #[26, 28] }, type := 33, pos := "law.go:66", after := #[{ on := 3, ground := .data }, { on := 4, ground := .data }, { on := 2, ground := .chain }], guard := none }) rfl (fun K hK => ?_) AllReadyH.nil)
        go_simp
        go_at_call 6
        refine (HB.out _ HG180.out.1).mono ?_
        rintro e wg181 ⟨rfl, bc181⟩
        have HG182 := Lib.hid (show Below w.heap.size w wg181 ∧ RowAt wg181 Z 26 #[.int .i64 x.res, .slice S.t.sp nT S.t.c, .slice S.m.sp nM S.m.c, .slice S.e.sp nE S.e.c] ∧ RowAt wg181 b7 33 (tb (fun _ => 0)) ∧ Z < b7 ∧ RowAt wg181 b8 33 (tb (fun _ => 0)) ∧ Z < b8 ∧ b7 ≠ b8 from ⟨(HG180.out.1.trans ((bc181).mono HG180.out.1.size)), (HG180.out.2.1.new (bc181)), (HG180.out.2.2.1.new (bc181)), HG180.out.2.2.2.1, (HG180.out.2.2.2.2.1.new (bc181)), HG180.out.2.2.2.2.2.1, HG180.out.2.2.2.2.2.2⟩)
        clear bc181
        try dsimp only
        refine hK.out _ _ HG182.out.2.1 (fun hHeld => ?_)
        clear hK K
        try simp only [Act.put, List.setIfInBounds_toArray, List.set_cons_zero, List.set_cons_succ]
        refine wpAnyH_ready (rs := [8]) (by kernel_rfl) (by simp) (AllReadyH.cons (o := { dst := none, op := .store 33 (.tmp 7) (.tmp 14), type := 0, pos := "law.go:66", after := #[{ on := 6, ground := .data }, { on := 2, ground := .data }, { on := 5, ground := .chain }, { on := 0, ground := .phase }, { on := 1, ground := .phase }, { on := 2, ground := .phase }, { on := 3, ground := .textOnly Go.Departure.lateStores }, { on := 4, ground := .textOnly Go.Departure.lateStores }, { on := 5, ground := .textOnly Go.Departure.lateStoresUnsure }, { on := 6, ground := .phase }, { on := 7, ground := .phase }], guard := none }) rfl (fun K hK => ?_) AllReadyH.nil)
        rw [if_pos (by rfl)]
        refine wp_store_row 33 (.tmp 7) (.tmp 14) rfl b7 A rfl rfl 33 (tb (fun _ => 0)) HG182.out.2.2.1 HIa.out.1 (by rw [HIa.out.2.2]; rfl) HIa.out.2.1 ?_
        generalize hwg183 : World.setRow _ _ _ = wg183
        have HG184 := Lib.hid (show Below w.heap.size w wg183 ∧ RowAt wg183 Z 26 #[.int .i64 x.res, .slice S.t.sp nT S.t.c, .slice S.m.sp nM S.m.c, .slice S.e.sp nE S.e.c] ∧ RowAt wg183 b7 33 A ∧ Z < b7 ∧ RowAt wg183 b8 33 (tb (fun _ => 0)) ∧ Z < b8 ∧ b7 ≠ b8 by rw [← hwg183]; exact ⟨below_row HG182.out.1 (Nat.le_refl _) (by have := HG182.out.2.2.2.1; have := HZ.out; omega) _, HG182.out.2.1.keep (ch_setRow _ _ _) (fun e => by have := HG182.out.2.2.2.1; omega), HG182.out.2.2.1.put, HG182.out.2.2.2.1, HG182.out.2.2.2.2.1.keep (ch_setRow _ _ _) (fun e => HG182.out.2.2.2.2.2.2 e.symm), HG182.out.2.2.2.2.2.1, HG182.out.2.2.2.2.2.2⟩)
        clear hwg183
        refine hK.out _ _ HG184.out.2.1 (fun hHeld => ?_)
        clear hK K
        try simp only [Act.put]
        refine wpAnyH_ready (rs := [9]) (by kernel_rfl) (by simp) (AllReadyH.cons (o := { dst := none, op := .store 33 (.tmp 8) (.tmp 17), type := 0, pos := "law.go:66", after := #[{ on := 7, ground := .data }, { on := 5, ground := .data }, { on := 8, ground := .chain }, { on := 0, ground := .phase }, { on := 1, ground := .phase }, { on := 2, ground := .phase }, { on := 3, ground := .phase }, { on := 4, ground := .phase }, { on := 5, ground := .phase }, { on := 6, ground := .phase }, { on := 7, ground := .phase }, { on := 8, ground := .phase }], guard := none }) rfl (fun K hK => ?_) AllReadyH.nil)
        rw [if_pos (by rfl)]
        refine wp_store_row 33 (.tmp 8) (.tmp 17) rfl b8 B rfl rfl 33 (tb (fun _ => 0)) HG184.out.2.2.2.2.1 HIb.out.1 (by rw [HIb.out.2.2]; rfl) HIb.out.2.1 ?_
        generalize hwg185 : World.setRow _ _ _ = wg185
        have HG186 := Lib.hid (show Below w.heap.size w wg185 ∧ RowAt wg185 Z 26 #[.int .i64 x.res, .slice S.t.sp nT S.t.c, .slice S.m.sp nM S.m.c, .slice S.e.sp nE S.e.c] ∧ RowAt wg185 b7 33 A ∧ Z < b7 ∧ RowAt wg185 b8 33 B ∧ Z < b8 ∧ b7 ≠ b8 by rw [← hwg185]; exact ⟨below_row HG184.out.1 (Nat.le_refl _) (by have := HG184.out.2.2.2.2.2.1; have := HZ.out; omega) _, HG184.out.2.1.keep (ch_setRow _ _ _) (fun e => by have := HG184.out.2.2.2.2.2.1; omega), HG184.out.2.2.1.keep (ch_setRow _ _ _) (fun e => HG184.out.2.2.2.2.2.2 e), HG184.out.2.2.2.1, HG184.out.2.2.2.2.1.put, HG184.out.2.2.2.2.2.1, HG184.out.2.2.2.2.2.2⟩)
        clear hwg185
        refine hK.out _ _ HG186.out.2.1 (fun hHeld => ?_)
        clear hK K
        try simp only [Act.put]
        refine wpAnyH_done (by kernel_rfl) ?_ _
        go_wp2
        go_meet
        case rel => exact ⟨b7, b8, rfl, rfl, HG186.out.1, HG186.out.2.1, HG186.out.2.2.1, HG186.out.2.2.2.2.1⟩
    · go_simp
      obtain ⟨b8, hb8⟩ : ∃ b, b = (wd).heap.size := ⟨_, rfl⟩
      rw [← hb8]
      generalize hwg187 : World.alloc _ _ = wg187
      have bwg187 : Below (wd).heap.size (wd) wg187 := by rw [← hwg187]; exact (Below.refl _ _).alloc (Nat.le_refl _) _
      have rwg187 : RowAt wg187 b8 33 (tb (fun _ => 0)) := by rw [← hwg187, hb8]; exact RowAt.mk _ _ _
      have HG188 := Lib.hid (show Below w.heap.size w wg187 ∧ RowAt wg187 Z 26 #[.int .i64 x.res, .slice S.t.sp nT S.t.c, .slice S.m.sp nM S.m.c, .slice S.e.sp nE S.e.c] ∧ RowAt wg187 b8 33 (tb (fun _ => 0)) ∧ Z < b8 from ⟨(HG1.out.1.trans ((bwg187).mono HG1.out.1.size)), (HG1.out.2.new (bwg187)), rwg187, (by have := HG1.out.2.lt; omega)⟩)
      clear hwg187 bwg187 rwg187 hb8
      refine hK.out _ _ HG188.out.2.1 (fun hHeld => ?_)
      clear hK K
      try simp only [Act.put, List.setIfInBounds_toArray, List.set_cons_zero, List.set_cons_succ]
      refine wpAnyH_ready (rs := [2, 6]) (by kernel_rfl) (by simp) (AllReadyH.cons (o := { dst := some 14, op := .call { callee := .value (.func 6), args := #[.tmp 12, .tmp 13], argTypes := #[26, 28] }, type := 33, pos := "law.go:66", after := #[{ on := 0, ground := .data }, { on := 1, ground := .data }], guard := none }) rfl (fun K hK => ?_) (AllReadyH.cons (o := { dst := some 7, op := .alloc 33, type := 0, pos := "law.go:66", after := #[], guard := none }) rfl (fun K hK => ?_) AllReadyH.nil))
      · go_simp
        go_at_call 6
        refine (HA.out _ HG188.out.1).mono ?_
        rintro e wg189 ⟨rfl, bc189⟩
        have HG190 := Lib.hid (show Below w.heap.size w wg189 ∧ RowAt wg189 Z 26 #[.int .i64 x.res, .slice S.t.sp nT S.t.c, .slice S.m.sp nM S.m.c, .slice S.e.sp nE S.e.c] ∧ RowAt wg189 b8 33 (tb (fun _ => 0)) ∧ Z < b8 from ⟨(HG188.out.1.trans ((bc189).mono HG188.out.1.size)), (HG188.out.2.1.new (bc189)), (HG188.out.2.2.1.new (bc189)), HG188.out.2.2.2⟩)
        clear bc189
        try dsimp only
        refine hK.out _ _ HG190.out.2.1 (fun hHeld => ?_)
        clear hK K
        try simp only [Act.put, List.setIfInBounds_toArray, List.set_cons_zero, List.set_cons_succ]
        refine wpAnyH_ready (rs := [5, 6]) (by kernel_rfl) (by simp) (AllReadyH.cons (o := { dst := some 17, op := .call { callee := .value (.func 6), args := #[.tmp 15, .tmp 16], argTypes := #[26, 28] }, type := 33, pos := "law.go:66", after := #[{ on := 3, ground := .data }, { on := 4, ground := .data }, { on := 2, ground := .chain }], guard := none }) rfl (fun K hK => ?_) (AllReadyH.cons (o := { dst := some 7, op := .alloc 33, type := 0, pos := "law.go:66", after := #[], guard := none }) rfl (fun K hK => ?_) AllReadyH.nil))
        · go_simp
          go_at_call 6
          refine (HB.out _ HG190.out.1).mono ?_
          rintro e wg191 ⟨rfl, bc191⟩
          have HG192 := Lib.hid (show Below w.heap.size w wg191 ∧ RowAt wg191 Z 26 #[.int .i64 x.res, .slice S.t.sp nT S.t.c, .slice S.m.sp nM S.m.c, .slice S.e.sp nE S.e.c] ∧ RowAt wg191 b8 33 (tb (fun _ => 0)) ∧ Z < b8 from ⟨(HG190.out.1.trans ((bc191).mono HG190.out.1.size)), (HG190.out.2.1.new (bc191)), (HG190.out.2.2.1.new (bc191)), HG190.out.2.2.2⟩)
          clear bc191
          try dsimp only
          refine hK.out _ _ HG192.out.2.1 (fun hHeld => ?_)
          clear hK K
          try simp only [Act.put, List.setIfInBounds_toArray, List.set_cons_zero, List.set_cons_succ]
          refine wpAnyH_ready (rs := [6]) (by kernel_rfl) (by simp) (AllReadyH.cons (o := { dst := some 7, op := .alloc 33, type := 0, pos := "law.go:66", after := #[], guard := none }) rfl (fun K hK => ?_) AllReadyH.nil)
          go_simp
          obtain ⟨b7, hb7⟩ : ∃ b, b = (wg191).heap.size := ⟨_, rfl⟩
          rw [← hb7]
          generalize hwg193 : World.alloc _ _ = wg193
          have bwg193 : Below (wg191).heap.size (wg191) wg193 := by rw [← hwg193]; exact (Below.refl _ _).alloc (Nat.le_refl _) _
          have rwg193 : RowAt wg193 b7 33 (tb (fun _ => 0)) := by rw [← hwg193, hb7]; exact RowAt.mk _ _ _
          have HG194 := Lib.hid (show Below w.heap.size w wg193 ∧ RowAt wg193 Z 26 #[.int .i64 x.res, .slice S.t.sp nT S.t.c, .slice S.m.sp nM S.m.c, .slice S.e.sp nE S.e.c] ∧ RowAt wg193 b8 33 (tb (fun _ => 0)) ∧ Z < b8 ∧ RowAt wg193 b7 33 (tb (fun _ => 0)) ∧ Z < b7 ∧ b7 ≠ b8 from ⟨(HG192.out.1.trans ((bwg193).mono HG192.out.1.size)), (HG192.out.2.1.new (bwg193)), (HG192.out.2.2.1.new (bwg193)), HG192.out.2.2.2, rwg193, (by have := HG192.out.2.1.lt; omega), (by have := HG192.out.2.2.1.lt; omega)⟩)
          clear hwg193 bwg193 rwg193 hb7
          refine hK.out _ _ HG194.out.2.1 (fun hHeld => ?_)
          clear hK K
          try simp only [Act.put, List.setIfInBounds_toArray, List.set_cons_zero, List.set_cons_succ]
          refine wpAnyH_ready (rs := [8]) (by kernel_rfl) (by simp) (AllReadyH.cons (o := { dst := none, op := .store 33 (.tmp 7) (.tmp 14), type := 0, pos := "law.go:66", after := #[{ on := 6, ground := .data }, { on := 2, ground := .data }, { on := 5, ground := .chain }, { on := 0, ground := .phase }, { on := 1, ground := .phase }, { on := 2, ground := .phase }, { on := 3, ground := .textOnly Go.Departure.lateStores }, { on := 4, ground := .textOnly Go.Departure.lateStores }, { on := 5, ground := .textOnly Go.Departure.lateStoresUnsure }, { on := 6, ground := .phase }, { on := 7, ground := .phase }], guard := none }) rfl (fun K hK => ?_) AllReadyH.nil)
          rw [if_pos (by rfl)]
          refine wp_store_row 33 (.tmp 7) (.tmp 14) rfl b7 A rfl rfl 33 (tb (fun _ => 0)) HG194.out.2.2.2.2.1 HIa.out.1 (by rw [HIa.out.2.2]; rfl) HIa.out.2.1 ?_
          generalize hwg195 : World.setRow _ _ _ = wg195
          have HG196 := Lib.hid (show Below w.heap.size w wg195 ∧ RowAt wg195 Z 26 #[.int .i64 x.res, .slice S.t.sp nT S.t.c, .slice S.m.sp nM S.m.c, .slice S.e.sp nE S.e.c] ∧ RowAt wg195 b8 33 (tb (fun _ => 0)) ∧ Z < b8 ∧ RowAt wg195 b7 33 A ∧ Z < b7 ∧ b7 ≠ b8 by rw [← hwg195]; exact ⟨below_row HG194.out.1 (Nat.le_refl _) (by have := HG194.out.2.2.2.2.2.1; have := HZ.out; omega) _, HG194.out.2.1.keep (ch_setRow _ _ _) (fun e => by have := HG194.out.2.2.2.2.2.1; omega), HG194.out.2.2.1.keep (ch_setRow _ _ _) (fun e => HG194.out.2.2.2.2.2.2 e.symm), HG194.out.2.2.2.1, HG194.out.2.2.2.2.1.put, HG194.out.2.2.2.2.2.1, HG194.out.2.2.2.2.2.2⟩)
          clear hwg195
          refine hK.out _ _ HG196.out.2.1 (fun hHeld => ?_)
          clear hK K
          try simp only [Act.put]
          refine wpAnyH_ready (rs := [9]) (by kernel_rfl) (by simp) (AllReadyH.cons (o := { dst := none, op := .store 33 (.tmp 8) (.tmp 17), type := 0, pos := "law.go:66", after := #[{ on := 7, ground := .data }, { on := 5, ground := .data }, { on := 8, ground := .chain }, { on := 0, ground := .phase }, { on := 1, ground := .phase }, { on := 2, ground := .phase }, { on := 3, ground := .phase }, { on := 4, ground := .phase }, { on := 5, ground := .phase }, { on := 6, ground := .phase }, { on := 7, ground := .phase }, { on := 8, ground := .phase }], guard := none }) rfl (fun K hK => ?_) AllReadyH.nil)
          rw [if_pos (by rfl)]
          refine wp_store_row 33 (.tmp 8) (.tmp 17) rfl b8 B rfl rfl 33 (tb (fun _ => 0)) HG196.out.2.2.1 HIb.out.1 (by rw [HIb.out.2.2]; rfl) HIb.out.2.1 ?_
          generalize hwg197 : World.setRow _ _ _ = wg197
          have HG198 := Lib.hid (show Below w.heap.size w wg197 ∧ RowAt wg197 Z 26 #[.int .i64 x.res, .slice S.t.sp nT S.t.c, .slice S.m.sp nM S.m.c, .slice S.e.sp nE S.e.c] ∧ RowAt wg197 b8 33 B ∧ Z < b8 ∧ RowAt wg197 b7 33 A ∧ Z < b7 ∧ b7 ≠ b8 by rw [← hwg197]; exact ⟨below_row HG196.out.1 (Nat.le_refl _) (by have := HG196.out.2.2.2.1; have := HZ.out; omega) _, HG196.out.2.1.keep (ch_setRow _ _ _) (fun e => by have := HG196.out.2.2.2.1; omega), HG196.out.2.2.1.put, HG196.out.2.2.2.1, HG196.out.2.2.2.2.1.keep (ch_setRow _ _ _) (fun e => HG196.out.2.2.2.2.2.2 e), HG196.out.2.2.2.2.2.1, HG196.out.2.2.2.2.2.2⟩)
          clear hwg197
          refine hK.out _ _ HG198.out.2.1 (fun hHeld => ?_)
          clear hK K
          try simp only [Act.put]
          refine wpAnyH_done (by kernel_rfl) ?_ _
          go_wp2
          go_meet
          case rel => exact ⟨b7, b8, rfl, rfl, HG198.out.1, HG198.out.2.1, HG198.out.2.2.2.2.1, HG198.out.2.2.1⟩
        · go_simp
          obtain ⟨b7, hb7⟩ : ∃ b, b = (wg189).heap.size := ⟨_, rfl⟩
          rw [← hb7]
          generalize hwg199 : World.alloc _ _ = wg199
          have bwg199 : Below (wg189).heap.size (wg189) wg199 := by rw [← hwg199]; exact (Below.refl _ _).alloc (Nat.le_refl _) _
          have rwg199 : RowAt wg199 b7 33 (tb (fun _ => 0)) := by rw [← hwg199, hb7]; exact RowAt.mk _ _ _
          have HG200 := Lib.hid (show Below w.heap.size w wg199 ∧ RowAt wg199 Z 26 #[.int .i64 x.res, .slice S.t.sp nT S.t.c, .slice S.m.sp nM S.m.c, .slice S.e.sp nE S.e.c] ∧ RowAt wg199 b8 33 (tb (fun _ => 0)) ∧ Z < b8 ∧ RowAt wg199 b7 33 (tb (fun _ => 0)) ∧ Z < b7 ∧ b7 ≠ b8 from ⟨(HG190.out.1.trans ((bwg199).mono HG190.out.1.size)), (HG190.out.2.1.new (bwg199)), (HG190.out.2.2.1.new (bwg199)), HG190.out.2.2.2, rwg199, (by have := HG190.out.2.1.lt; omega), (by have := HG190.out.2.2.1.lt; omega)⟩)
          clear hwg199 bwg199 rwg199 hb7
          refine hK.out _ _ HG200.out.2.1 (fun hHeld => ?_)
          clear hK K
          try simp only [Act.put, List.setIfInBounds_toArray, List.set_cons_zero, List.set_cons_succ]
          refine wpAnyH_ready (rs := [5]) (by kernel_rfl) (by simp) (AllReadyH.cons (o := { dst := some 17, op := .call { callee := .value (.func 6), args := #[.tmp 15, .tmp 16], argTypes := #[26, 28] }, type := 33, pos := "law.go:66", after := #[{ on := 3, ground := .data }, { on := 4, ground := .data }, { on := 2, ground := .chain }], guard := none }) rfl (fun K hK => ?_) AllReadyH.nil)
          go_simp
          go_at_call 6
          refine (HB.out _ HG200.out.1).mono ?_
          rintro e wg201 ⟨rfl, bc201⟩
          have HG202 := Lib.hid (show Below w.heap.size w wg201 ∧ RowAt wg201 Z 26 #[.int .i64 x.res, .slice S.t.sp nT S.t.c, .slice S.m.sp nM S.m.c, .slice S.e.sp nE S.e.c] ∧ RowAt wg201 b8 33 (tb (fun _ => 0)) ∧ Z < b8 ∧ RowAt wg201 b7 33 (tb (fun _ => 0)) ∧ Z < b7 ∧ b7 ≠ b8 from ⟨(HG200.out.1.trans ((bc201).mono HG200.out.1.size)), (HG200.out.2.1.new (bc201)), (HG200.out.2.2.1.new (bc201)), HG200.out.2.2.2.1, (HG200.out.2.2.2.2.1.new (bc201)), HG200.out.2.2.2.2.2.1, HG200.out.2.2.2.2.2.2⟩)
          clear bc201
          try dsimp only
          refine hK.out _ _ HG202.out.2.1 (fun hHeld => ?_)
          clear hK K
          try simp only [Act.put, List.setIfInBounds_toArray, List.set_cons_zero, List.set_cons_succ]
          refine wpAnyH_ready (rs := [8]) (by kernel_rfl) (by simp) (AllReadyH.cons (o := { dst := none, op := .store 33 (.tmp 7) (.tmp 14), type := 0, pos := "law.go:66", after := #[{ on := 6, ground := .data }, { on := 2, ground := .data }, { on := 5, ground := .chain }, { on := 0, ground := .phase }, { on := 1, ground := .phase }, { on := 2, ground := .phase }, { on := 3, ground := .textOnly Go.Departure.lateStores }, { on := 4, ground := .textOnly Go.Departure.lateStores }, { on := 5, ground := .textOnly Go.Departure.lateStoresUnsure }, { on := 6, ground := .phase }, { on := 7, ground := .phase }], guard := none }) rfl (fun K hK => ?_) AllReadyH.nil)
          rw [if_pos (by rfl)]
          refine wp_store_row 33 (.tmp 7) (.tmp 14) rfl b7 A rfl rfl 33 (tb (fun _ => 0)) HG202.out.2.2.2.2.1 HIa.out.1 (by rw [HIa.out.2.2]; rfl) HIa.out.2.1 ?_
          generalize hwg203 : World.setRow _ _ _ = wg203
          have HG204 := Lib.hid (show Below w.heap.size w wg203 ∧ RowAt wg203 Z 26 #[.int .i64 x.res, .slice S.t.sp nT S.t.c, .slice S.m.sp nM S.m.c, .slice S.e.sp nE S.e.c] ∧ RowAt wg203 b8 33 (tb (fun _ => 0)) ∧ Z < b8 ∧ RowAt wg203 b7 33 A ∧ Z < b7 ∧ b7 ≠ b8 by rw [← hwg203]; exact ⟨below_row HG202.out.1 (Nat.le_refl _) (by have := HG202.out.2.2.2.2.2.1; have := HZ.out; omega) _, HG202.out.2.1.keep (ch_setRow _ _ _) (fun e => by have := HG202.out.2.2.2.2.2.1; omega), HG202.out.2.2.1.keep (ch_setRow _ _ _) (fun e => HG202.out.2.2.2.2.2.2 e.symm), HG202.out.2.2.2.1, HG202.out.2.2.2.2.1.put, HG202.out.2.2.2.2.2.1, HG202.out.2.2.2.2.2.2⟩)
          clear hwg203
          refine hK.out _ _ HG204.out.2.1 (fun hHeld => ?_)
          clear hK K
          try simp only [Act.put]
          refine wpAnyH_ready (rs := [9]) (by kernel_rfl) (by simp) (AllReadyH.cons (o := { dst := none, op := .store 33 (.tmp 8) (.tmp 17), type := 0, pos := "law.go:66", after := #[{ on := 7, ground := .data }, { on := 5, ground := .data }, { on := 8, ground := .chain }, { on := 0, ground := .phase }, { on := 1, ground := .phase }, { on := 2, ground := .phase }, { on := 3, ground := .phase }, { on := 4, ground := .phase }, { on := 5, ground := .phase }, { on := 6, ground := .phase }, { on := 7, ground := .phase }, { on := 8, ground := .phase }], guard := none }) rfl (fun K hK => ?_) AllReadyH.nil)
          rw [if_pos (by rfl)]
          refine wp_store_row 33 (.tmp 8) (.tmp 17) rfl b8 B rfl rfl 33 (tb (fun _ => 0)) HG204.out.2.2.1 HIb.out.1 (by rw [HIb.out.2.2]; rfl) HIb.out.2.1 ?_
          generalize hwg205 : World.setRow _ _ _ = wg205
          have HG206 := Lib.hid (show Below w.heap.size w wg205 ∧ RowAt wg205 Z 26 #[.int .i64 x.res, .slice S.t.sp nT S.t.c, .slice S.m.sp nM S.m.c, .slice S.e.sp nE S.e.c] ∧ RowAt wg205 b8 33 B ∧ Z < b8 ∧ RowAt wg205 b7 33 A ∧ Z < b7 ∧ b7 ≠ b8 by rw [← hwg205]; exact ⟨below_row HG204.out.1 (Nat.le_refl _) (by have := HG204.out.2.2.2.1; have := HZ.out; omega) _, HG204.out.2.1.keep (ch_setRow _ _ _) (fun e => by have := HG204.out.2.2.2.1; omega), HG204.out.2.2.1.put, HG204.out.2.2.2.1, HG204.out.2.2.2.2.1.keep (ch_setRow _ _ _) (fun e => HG204.out.2.2.2.2.2.2 e), HG204.out.2.2.2.2.2.1, HG204.out.2.2.2.2.2.2⟩)
          clear hwg205
          refine hK.out _ _ HG206.out.2.1 (fun hHeld => ?_)
          clear hK K
          try simp only [Act.put]
          refine wpAnyH_done (by kernel_rfl) ?_ _
          go_wp2
          go_meet
          case rel => exact ⟨b7, b8, rfl, rfl, HG206.out.1, HG206.out.2.1, HG206.out.2.2.2.2.1, HG206.out.2.2.1⟩
      · go_simp
        obtain ⟨b7, hb7⟩ : ∃ b, b = (wg187).heap.size := ⟨_, rfl⟩
        rw [← hb7]
        generalize hwg207 : World.alloc _ _ = wg207
        have bwg207 : Below (wg187).heap.size (wg187) wg207 := by rw [← hwg207]; exact (Below.refl _ _).alloc (Nat.le_refl _) _
        have rwg207 : RowAt wg207 b7 33 (tb (fun _ => 0)) := by rw [← hwg207, hb7]; exact RowAt.mk _ _ _
        have HG208 := Lib.hid (show Below w.heap.size w wg207 ∧ RowAt wg207 Z 26 #[.int .i64 x.res, .slice S.t.sp nT S.t.c, .slice S.m.sp nM S.m.c, .slice S.e.sp nE S.e.c] ∧ RowAt wg207 b8 33 (tb (fun _ => 0)) ∧ Z < b8 ∧ RowAt wg207 b7 33 (tb (fun _ => 0)) ∧ Z < b7 ∧ b7 ≠ b8 from ⟨(HG188.out.1.trans ((bwg207).mono HG188.out.1.size)), (HG188.out.2.1.new (bwg207)), (HG188.out.2.2.1.new (bwg207)), HG188.out.2.2.2, rwg207, (by have := HG188.out.2.1.lt; omega), (by have := HG188.out.2.2.1.lt; omega)⟩)
        clear hwg207 bwg207 rwg207 hb7
        refine hK.out _ _ HG208.out.2.1 (fun hHeld => ?_)
        clear hK K
        try simp only [Act.put, List.setIfInBounds_toArray, List.set_cons_zero, List.set_cons_succ]
        refine wpAnyH_ready (rs := [2]) (by kernel_rfl) (by simp) (AllReadyH.cons (o := { dst := some 14, op := .call { callee := .value (.func 6), args := #[.tmp 12, .tmp 13], argTypes := #[26, 28] }, type := 33, pos := "law.go:66", after := #[{ on := 0, ground := .data }, { on := 1, ground := .data }], guard := none }) rfl (fun K hK => ?_) AllReadyH.nil)
        go_simp
        go_at_call 6
        refine (HA.out _ HG208.out.1).mono ?_
        rintro e wg209 ⟨rfl, bc209⟩
        have HG210 := Lib.hid (show Below w.heap.size w wg209 ∧ RowAt wg209 Z 26 #[.int .i64 x.res, .slice S.t.sp nT S.t.c, .slice S.m.sp nM S.m.c, .slice S.e.sp nE S.e.c] ∧ RowAt wg209 b8 33 (tb (fun _ => 0)) ∧ Z < b8 ∧ RowAt wg209 b7 33 (tb (fun _ => 0)) ∧ Z < b7 ∧ b7 ≠ b8 from ⟨(HG208.out.1.trans ((bc209).mono HG208.out.1.size)), (HG208.out.2.1.new (bc209)), (HG208.out.2.2.1.new (bc209)), HG208.out.2.2.2.1, (HG208.out.2.2.2.2.1.new (bc209)), HG208.out.2.2.2.2.2.1, HG208.out.2.2.2.2.2.2⟩)
        clear bc209
        try dsimp only
        refine hK.out _ _ HG210.out.2.1 (fun hHeld => ?_)
        clear hK K
        try simp only [Act.put, List.setIfInBounds_toArray, List.set_cons_zero, List.set_cons_succ]
        refine wpAnyH_ready (rs := [5]) (by kernel_rfl) (by simp) (AllReadyH.cons (o := { dst := some 17, op := .call { callee := .value (.func 6), args := #[.tmp 15, .tmp 16], argTypes := #[26, 28] }, type := 33, pos := "law.go:66", after := #[{ on := 3, ground := .data }, { on := 4, ground := .data }, { on := 2, ground := .chain }], guard := none }) rfl (fun K hK => ?_) AllReadyH.nil)
        go_simp
        go_at_call 6
        refine (HB.out _ HG210.out.1).mono ?_
        rintro e wg211 ⟨rfl, bc211⟩
        have HG212 := Lib.hid (show Below w.heap.size w wg211 ∧ RowAt wg211 Z 26 #[.int .i64 x.res, .slice S.t.sp nT S.t.c, .slice S.m.sp nM S.m.c, .slice S.e.sp nE S.e.c] ∧ RowAt wg211 b8 33 (tb (fun _ => 0)) ∧ Z < b8 ∧ RowAt wg211 b7 33 (tb (fun _ => 0)) ∧ Z < b7 ∧ b7 ≠ b8 from ⟨(HG210.out.1.trans ((bc211).mono HG210.out.1.size)), (HG210.out.2.1.new (bc211)), (HG210.out.2.2.1.new (bc211)), HG210.out.2.2.2.1, (HG210.out.2.2.2.2.1.new (bc211)), HG210.out.2.2.2.2.2.1, HG210.out.2.2.2.2.2.2⟩)
        clear bc211
        try dsimp only
        refine hK.out _ _ HG212.out.2.1 (fun hHeld => ?_)
        clear hK K
        try simp only [Act.put, List.setIfInBounds_toArray, List.set_cons_zero, List.set_cons_succ]
        refine wpAnyH_ready (rs := [8]) (by kernel_rfl) (by simp) (AllReadyH.cons (o := { dst := none, op := .store 33 (.tmp 7) (.tmp 14), type := 0, pos := "law.go:66", after := #[{ on := 6, ground := .data }, { on := 2, ground := .data }, { on := 5, ground := .chain }, { on := 0, ground := .phase }, { on := 1, ground := .phase }, { on := 2, ground := .phase }, { on := 3, ground := .textOnly Go.Departure.lateStores }, { on := 4, ground := .textOnly Go.Departure.lateStores }, { on := 5, ground := .textOnly Go.Departure.lateStoresUnsure }, { on := 6, ground := .phase }, { on := 7, ground := .phase }], guard := none }) rfl (fun K hK => ?_) AllReadyH.nil)
        rw [if_pos (by rfl)]
        refine wp_store_row 33 (.tmp 7) (.tmp 14) rfl b7 A rfl rfl 33 (tb (fun _ => 0)) HG212.out.2.2.2.2.1 HIa.out.1 (by rw [HIa.out.2.2]; rfl) HIa.out.2.1 ?_
        generalize hwg213 : World.setRow _ _ _ = wg213
        have HG214 := Lib.hid (show Below w.heap.size w wg213 ∧ RowAt wg213 Z 26 #[.int .i64 x.res, .slice S.t.sp nT S.t.c, .slice S.m.sp nM S.m.c, .slice S.e.sp nE S.e.c] ∧ RowAt wg213 b8 33 (tb (fun _ => 0)) ∧ Z < b8 ∧ RowAt wg213 b7 33 A ∧ Z < b7 ∧ b7 ≠ b8 by rw [← hwg213]; exact ⟨below_row HG212.out.1 (Nat.le_refl _) (by have := HG212.out.2.2.2.2.2.1; have := HZ.out; omega) _, HG212.out.2.1.keep (ch_setRow _ _ _) (fun e => by have := HG212.out.2.2.2.2.2.1; omega), HG212.out.2.2.1.keep (ch_setRow _ _ _) (fun e => HG212.out.2.2.2.2.2.2 e.symm), HG212.out.2.2.2.1, HG212.out.2.2.2.2.1.put, HG212.out.2.2.2.2.2.1, HG212.out.2.2.2.2.2.2⟩)
        clear hwg213
        refine hK.out _ _ HG214.out.2.1 (fun hHeld => ?_)
        clear hK K
        try simp only [Act.put]
        refine wpAnyH_ready (rs := [9]) (by kernel_rfl) (by simp) (AllReadyH.cons (o := { dst := none, op := .store 33 (.tmp 8) (.tmp 17), type := 0, pos := "law.go:66", after := #[{ on := 7, ground := .data }, { on := 5, ground := .data }, { on := 8, ground := .chain }, { on := 0, ground := .phase }, { on := 1, ground := .phase }, { on := 2, ground := .phase }, { on := 3, ground := .phase }, { on := 4, ground := .phase }, { on := 5, ground := .phase }, { on := 6, ground := .phase }, { on := 7, ground := .phase }, { on := 8, ground := .phase }], guard := none }) rfl (fun K hK => ?_) AllReadyH.nil)
        rw [if_pos (by rfl)]
        refine wp_store_row 33 (.tmp 8) (.tmp 17) rfl b8 B rfl rfl 33 (tb (fun _ => 0)) HG214.out.2.2.1 HIb.out.1 (by rw [HIb.out.2.2]; rfl) HIb.out.2.1 ?_
        generalize hwg215 : World.setRow _ _ _ = wg215
        have HG216 := Lib.hid (show Below w.heap.size w wg215 ∧ RowAt wg215 Z 26 #[.int .i64 x.res, .slice S.t.sp nT S.t.c, .slice S.m.sp nM S.m.c, .slice S.e.sp nE S.e.c] ∧ RowAt wg215 b8 33 B ∧ Z < b8 ∧ RowAt wg215 b7 33 A ∧ Z < b7 ∧ b7 ≠ b8 by rw [← hwg215]; exact ⟨below_row HG214.out.1 (Nat.le_refl _) (by have := HG214.out.2.2.2.1; have := HZ.out; omega) _, HG214.out.2.1.keep (ch_setRow _ _ _) (fun e => by have := HG214.out.2.2.2.1; omega), HG214.out.2.2.1.put, HG214.out.2.2.2.1, HG214.out.2.2.2.2.1.keep (ch_setRow _ _ _) (fun e => HG214.out.2.2.2.2.2.2 e), HG214.out.2.2.2.2.2.1, HG214.out.2.2.2.2.2.2⟩)
        clear hwg215
        refine hK.out _ _ HG216.out.2.1 (fun hHeld => ?_)
        clear hK K
        try simp only [Act.put]
        refine wpAnyH_done (by kernel_rfl) ?_ _
        go_wp2
        go_meet
        case rel => exact ⟨b7, b8, rfl, rfl, HG216.out.1, HG216.out.2.1, HG216.out.2.2.2.2.1, HG216.out.2.2.1⟩

  case rest =>
    obtain ⟨b7, b8, rfl, rfl, HQ⟩ := hcut
    clear hwd HG1
    have c0 : wc.cell? ⟨Z, 0, none⟩ = some (.int .i64 x.res) := HQ.out.2.1.cell 0
    have c1 : wc.cell? ⟨Z, 1, none⟩ = some (.slice S.t.sp nT S.t.c) := HQ.out.2.1.cell 1
    have c2 : wc.cell? ⟨Z, 2, none⟩ = some (.slice S.m.sp nM S.m.c) := HQ.out.2.1.cell 2
    have c3 : wc.cell? ⟨Z, 3, none⟩ = some (.slice S.e.sp nE S.e.c) := HQ.out.2.1.cell 3
    go_upto_region 5 with (first
      | (go_at_call 6; refine (HC.out _ HQ.out.1).mono ?_; rintro e w4 ⟨rfl, bb⟩; have H4 := Lib.hid (And.intro (HQ.out.1.trans (bb.mono HQ.out.1.size)) (And.intro (HQ.out.2.2.1.new bb) (HQ.out.2.2.2.new bb))); clear bb c0 c1 c2 c3)
      | (refine wpList_store_row rfl 33 (.tmp 9) (.tmp 22) rfl w4.heap.size C (by rfl) (by rfl) 33 _ (heap_alloc_new w4 _) HIc.out.1 (by rw [HIc.out.2.2]; rfl) HIc.out.2.1 ?_; generalize hw5 : World.setRow _ _ _ = w5)
      | fail)
    try simp only [Act.put]
    obtain ⟨b9, hb9⟩ : ∃ b, b = w4.heap.size := ⟨_, rfl⟩
    have H5 := Lib.hid (show Below w.heap.size w w5 ∧ RowAt w5 b7 33 A ∧ RowAt w5 b8 33 B ∧ RowAt w5 b9 33 C by
      rw [← hw5, hb9]
      obtain ⟨hb, hr⟩ := alloc_row w4 (tb (fun _ => 0)) C 33
      exact ⟨H4.out.1.trans (hb.mono H4.out.1.size), H4.out.2.1.new hb, H4.out.2.2.new hb, hr⟩)
    rw [← hb9]
    clear hw5 hb9 H4 HQ hab
    have H6 := Lib.hid (show Below w.heap.size w w5.drew ∧ RowAt w5.drew b7 33 A ∧ RowAt w5.drew b8 33 B ∧ RowAt w5.drew b9 33 C from ⟨below_dn H5.out.1 1, H5.out.2⟩)
    refine wp_region_held_drew (S := fun w' => RowAt w' b7 33 A ∧ RowAt w' b8 33 B ∧ RowAt w' b9 33 C) (by kernel_rfl) H6.out.2 (fun hS => ?_)
    refine wpAnyH_take (i := 0) (oi := { dst := some 23, op := .load 33 (.tmp 7), type := 33, pos := "law.go:68", after := #[], guard := none }) (v := .agg A) rfl (by kernel_rfl) (by kernel_rfl) (by kernel_rfl) (fun _ _ _ h => h) (Or.inl ⟨by rfl, ?_⟩) hS ?_
    · intro w hw; obtain ⟨s0, s1, s2⟩ := hw; exact exec_load_row 33 (.tmp 7) rfl b7 rfl 33 A (0, 0) _ s0 Tryd.underlying33 rfl HIa.out.1
    simp only [Act.put, List.setIfInBounds_toArray, List.set_cons_zero, List.set_cons_succ]
    refine wpAnyH_take (i := 1) (oi := { dst := some 24, op := .load 33 (.tmp 8), type := 33, pos := "law.go:68", after := #[], guard := none }) (v := .agg B) rfl (by kernel_rfl) (by kernel_rfl) (by kernel_rfl) (fun _ _ _ h => h) (Or.inl ⟨by rfl, ?_⟩) hS ?_
    · intro w hw; obtain ⟨s0, s1, s2⟩ := hw; exact exec_load_row 33 (.tmp 8) rfl b8 rfl 33 B (0, 0) _ s1 Tryd.underlying33 rfl HIb.out.1
    simp only [Act.put, List.setIfInBounds_toArray, List.set_cons_zero, List.set_cons_succ]
    refine wpAnyH_take (i := 3) (oi := { dst := some 26, op := .load 33 (.tmp 9), type := 33, pos := "law.go:68", after := #[], guard := none }) (v := .agg C) rfl (by kernel_rfl) (by kernel_rfl) (by kernel_rfl) (fun _ _ _ h => h) (Or.inl ⟨by rfl, ?_⟩) hS ?_
    · intro w hw; obtain ⟨s0, s1, s2⟩ := hw; exact exec_load_row 33 (.tmp 9) rfl b9 rfl 33 C (0, 0) _ s2 Tryd.underlying33 rfl HIc.out.1
    simp only [Act.put, List.setIfInBounds_toArray, List.set_cons_zero, List.set_cons_succ]
    refine wpAnyH_ready (rs := [2]) (by kernel_rfl) (by simp) (AllReadyH.cons (o := { dst := some 25, op := .call { callee := .value (.func 14), args := #[.tmp 23, .tmp 24], argTypes := #[33, 33] }, type := 33, pos := "law.go:68", after := #[{ on := 0, ground := .data }, { on := 1, ground := .data }], guard := none }) rfl (fun K hK => ?_) AllReadyH.nil)
    go_simp
    go_at_call 14
    refine (HJn.out _).mono ?_
    rintro e w7 ⟨rfl, bb⟩
    have H7 := Lib.hid (show Below w.heap.size w w7 ∧ RowAt w7 b7 33 A ∧ RowAt w7 b8 33 B ∧ RowAt w7 b9 33 C from ⟨H6.out.1.trans (bb.mono H6.out.1.size), H6.out.2.1.new bb, H6.out.2.2.1.new bb, H6.out.2.2.2.new bb⟩)
    clear bb
    try dsimp only
    refine hK.out _ _ H7.out.2 (fun hHeld => ?_)
    clear hK K
    try simp only [Act.put, List.setIfInBounds_toArray, List.set_cons_zero, List.set_cons_succ]
    refine wpAnyH_take (i := 4) (oi := { dst := some 27, op := .binOp .eql 33 (.tmp 25) (.tmp 26) 33, type := 4, pos := "law.go:68", after := #[{ on := 2, ground := .data }, { on := 3, ground := .data }], guard := none }) (v := .bool true) rfl (by kernel_rfl) (by kernel_rfl) (by kernel_rfl) (fun _ _ _ h => h) (Or.inl ⟨by rfl, ?_⟩) H7.out.2 ?_
    · intro w hw; obtain ⟨s0, s1, s2⟩ := hw; have he := HQ1.out w; go_simp; try (with_reducible rfl)
    simp only [Act.put, List.setIfInBounds_toArray, List.set_cons_zero, List.set_cons_succ]
    refine wpAnyH_take (i := 5) (oi := { dst := some 28, op := .move (.tmp 27), type := 4, pos := "law.go:68", after := #[{ on := 4, ground := .data }, { on := 2, ground := .chain }], guard := none }) (v := ?_) rfl (by kernel_rfl) (by kernel_rfl) (by kernel_rfl) (fun _ _ _ h => h) (Or.inl ⟨by rfl, ?_⟩) H7.out.2 ?_
    rotate_left 1
    · intro w hw; obtain ⟨s0, s1, s2⟩ := hw; go_simp; try (with_reducible rfl)
    simp only [Act.put, List.setIfInBounds_toArray, List.set_cons_zero, List.set_cons_succ]
    refine wpAnyH_take (i := 6) (oi := { dst := some 29, op := .load 33 (.tmp 9), type := 33, pos := "law.go:68", after := #[{ on := 5, ground := .guard }], guard := some (5, true) }) (v := .agg C) rfl (by kernel_rfl) (by kernel_rfl) (by kernel_rfl) (fun _ _ _ h => h) (Or.inl ⟨by rfl, ?_⟩) H7.out.2 ?_
    · intro w hw; obtain ⟨s0, s1, s2⟩ := hw; exact exec_load_row 33 (.tmp 9) rfl b9 rfl 33 C (0, 0) _ s2 Tryd.underlying33 rfl HIc.out.1
    simp only [Act.put, List.setIfInBounds_toArray, List.set_cons_zero, List.set_cons_succ]
    refine wpAnyH_take (i := 7) (oi := { dst := some 30, op := .load 33 (.tmp 7), type := 33, pos := "law.go:68", after := #[{ on := 5, ground := .guard }], guard := some (5, true) }) (v := .agg A) rfl (by kernel_rfl) (by kernel_rfl) (by kernel_rfl) (fun _ _ _ h => h) (Or.inl ⟨by rfl, ?_⟩) H7.out.2 ?_
    · intro w hw; obtain ⟨s0, s1, s2⟩ := hw; exact exec_load_row 33 (.tmp 7) rfl b7 rfl 33 A (0, 0) _ s0 Tryd.underlying33 rfl HIa.out.1
    simp only [Act.put, List.setIfInBounds_toArray, List.set_cons_zero, List.set_cons_succ]
    refine wpAnyH_ready (rs := [8]) (by kernel_rfl) (by simp) (AllReadyH.cons (o := { dst := some 31, op := .call { callee := .value (.func 15), args := #[.tmp 29, .tmp 30], argTypes := #[33, 33] }, type := 4, pos := "law.go:68", after := #[{ on := 6, ground := .data }, { on := 7, ground := .data }, { on := 5, ground := .chain }, { on := 5, ground := .guard }], guard := some (5, true) }) rfl (fun K hK => ?_) AllReadyH.nil)
    go_simp
    go_at_call 15
    refine (HV1.out _).mono ?_
    rintro e w8 ⟨rfl, bb⟩
    have H8 := Lib.hid (show Below w.heap.size w w8 ∧ RowAt w8 b7 33 A ∧ RowAt w8 b8 33 B ∧ RowAt w8 b9 33 C from ⟨H7.out.1.trans (bb.mono H7.out.1.size), H7.out.2.1.new bb, H7.out.2.2.1.new bb, H7.out.2.2.2.new bb⟩)
    clear bb
    try dsimp only
    refine hK.out _ _ H8.out.2 (fun hHeld => ?_)
    clear hK K
    try simp only [Act.put, List.setIfInBounds_toArray, List.set_cons_zero, List.set_cons_succ]
    refine wpAnyH_take (i := 9) (oi := { dst := some 32, op := .pick (.tmp 28) (.tmp 31) (.const (.bool false)), type := 4, pos := "law.go:68", after := #[{ on := 5, ground := .data }, { on := 8, ground := .data }], guard := none }) (v := ?_) rfl (by kernel_rfl) (by kernel_rfl) (by kernel_rfl) (fun _ _ _ h => h) (Or.inl ⟨by rfl, ?_⟩) H8.out.2 ?_
    rotate_left 1
    · intro w hw; obtain ⟨s0, s1, s2⟩ := hw; go_simp; try (with_reducible rfl)
    simp only [Act.put, List.setIfInBounds_toArray, List.set_cons_zero, List.set_cons_succ]
    refine wpAnyH_take (i := 10) (oi := { dst := some 33, op := .move (.tmp 32), type := 4, pos := "law.go:68", after := #[{ on := 9, ground := .data }, { on := 8, ground := .chain }], guard := none }) (v := ?_) rfl (by kernel_rfl) (by kernel_rfl) (by kernel_rfl) (fun _ _ _ h => h) (Or.inl ⟨by rfl, ?_⟩) H8.out.2 ?_
    rotate_left 1
    · intro w hw; obtain ⟨s0, s1, s2⟩ := hw; go_simp; try (with_reducible rfl)
    simp only [Act.put, List.setIfInBounds_toArray, List.set_cons_zero, List.set_cons_succ]
    refine wpAnyH_take (i := 11) (oi := { dst := some 34, op := .load 33 (.tmp 9), type := 33, pos := "law.go:68", after := #[{ on := 10, ground := .guard }], guard := some (10, true) }) (v := .agg C) rfl (by kernel_rfl) (by kernel_rfl) (by kernel_rfl) (fun _ _ _ h => h) (Or.inl ⟨by rfl, ?_⟩) H8.out.2 ?_
    · intro w hw; obtain ⟨s0, s1, s2⟩ := hw; exact exec_load_row 33 (.tmp 9) rfl b9 rfl 33 C (0, 0) _ s2 Tryd.underlying33 rfl HIc.out.1
    simp only [Act.put, List.setIfInBounds_toArray, List.set_cons_zero, List.set_cons_succ]
    refine wpAnyH_take (i := 12) (oi := { dst := some 35, op := .load 33 (.tmp 8), type := 33, pos := "law.go:68", after := #[{ on := 10, ground := .guard }], guard := some (10, true) }) (v := .agg B) rfl (by kernel_rfl) (by kernel_rfl) (by kernel_rfl) (fun _ _ _ h => h) (Or.inl ⟨by rfl, ?_⟩) H8.out.2 ?_
    · intro w hw; obtain ⟨s0, s1, s2⟩ := hw; exact exec_load_row 33 (.tmp 8) rfl b8 rfl 33 B (0, 0) _ s1 Tryd.underlying33 rfl HIb.out.1
    simp only [Act.put, List.setIfInBounds_toArray, List.set_cons_zero, List.set_cons_succ]
    refine wpAnyH_ready (rs := [13]) (by kernel_rfl) (by simp) (AllReadyH.cons (o := { dst := some 36, op := .call { callee := .value (.func 15), args := #[.tmp 34, .tmp 35], argTypes := #[33, 33] }, type := 4, pos := "law.go:68", after := #[{ on := 11, ground := .data }, { on := 12, ground := .data }, { on := 10, ground := .chain }, { on := 10, ground := .guard }], guard := some (10, true) }) rfl (fun K hK => ?_) AllReadyH.nil)
    go_simp
    go_at_call 15
    refine (HV2.out _).mono ?_
    rintro e w9 ⟨rfl, bb⟩
    have H9 := Lib.hid (show Below w.heap.size w w9 ∧ RowAt w9 b7 33 A ∧ RowAt w9 b8 33 B ∧ RowAt w9 b9 33 C from ⟨H8.out.1.trans (bb.mono H8.out.1.size), H8.out.2.1.new bb, H8.out.2.2.1.new bb, H8.out.2.2.2.new bb⟩)
    clear bb
    try dsimp only
    refine hK.out _ _ H9.out.2 (fun hHeld => ?_)
    clear hK K
    try simp only [Act.put, List.setIfInBounds_toArray, List.set_cons_zero, List.set_cons_succ]
    refine wpAnyH_take (i := 14) (oi := { dst := some 37, op := .pick (.tmp 33) (.tmp 36) (.const (.bool false)), type := 4, pos := "law.go:68", after := #[{ on := 10, ground := .data }, { on := 13, ground := .data }], guard := none }) (v := ?_) rfl (by kernel_rfl) (by kernel_rfl) (by kernel_rfl) (fun _ _ _ h => h) (Or.inl ⟨by rfl, ?_⟩) H9.out.2 ?_
    rotate_left 1
    · intro w hw; obtain ⟨s0, s1, s2⟩ := hw; go_simp; try (with_reducible rfl)
    simp only [Act.put, List.setIfInBounds_toArray, List.set_cons_zero, List.set_cons_succ]
    refine wpAnyH_take (i := 15) (oi := { dst := some 38, op := .move (.tmp 37), type := 4, pos := "law.go:68", after := #[{ on := 14, ground := .data }, { on := 13, ground := .chain }], guard := none }) (v := ?_) rfl (by kernel_rfl) (by kernel_rfl) (by kernel_rfl) (fun _ _ _ h => h) (Or.inl ⟨by rfl, ?_⟩) H9.out.2 ?_
    rotate_left 1
    · intro w hw; obtain ⟨s0, s1, s2⟩ := hw; go_simp; try (with_reducible rfl)
    simp only [Act.put, List.setIfInBounds_toArray, List.set_cons_zero, List.set_cons_succ]
    refine wpAnyH_take (i := 16) (oi := { dst := some 39, op := .load 33 (.tmp 7), type := 33, pos := "law.go:68", after := #[{ on := 15, ground := .guard }], guard := some (15, true) }) (v := .agg A) rfl (by kernel_rfl) (by kernel_rfl) (by kernel_rfl) (fun _ _ _ h => h) (Or.inl ⟨by rfl, ?_⟩) H9.out.2 ?_
    · intro w hw; obtain ⟨s0, s1, s2⟩ := hw; exact exec_load_row 33 (.tmp 7) rfl b7 rfl 33 A (0, 0) _ s0 Tryd.underlying33 rfl HIa.out.1
    simp only [Act.put, List.setIfInBounds_toArray, List.set_cons_zero, List.set_cons_succ]
    refine wpAnyH_take (i := 17) (oi := { dst := some 40, op := .load 33 (.tmp 8), type := 33, pos := "law.go:68", after := #[{ on := 15, ground := .guard }], guard := some (15, true) }) (v := .agg B) rfl (by kernel_rfl) (by kernel_rfl) (by kernel_rfl) (fun _ _ _ h => h) (Or.inl ⟨by rfl, ?_⟩) H9.out.2 ?_
    · intro w hw; obtain ⟨s0, s1, s2⟩ := hw; exact exec_load_row 33 (.tmp 8) rfl b8 rfl 33 B (0, 0) _ s1 Tryd.underlying33 rfl HIb.out.1
    simp only [Act.put, List.setIfInBounds_toArray, List.set_cons_zero, List.set_cons_succ]
    refine wpAnyH_take (i := 19) (oi := { dst := some 42, op := .load 33 (.tmp 7), type := 33, pos := "law.go:68", after := #[{ on := 15, ground := .guard }], guard := some (15, true) }) (v := .agg A) rfl (by kernel_rfl) (by kernel_rfl) (by kernel_rfl) (fun _ _ _ h => h) (Or.inl ⟨by rfl, ?_⟩) H9.out.2 ?_
    · intro w hw; obtain ⟨s0, s1, s2⟩ := hw; exact exec_load_row 33 (.tmp 7) rfl b7 rfl 33 A (0, 0) _ s0 Tryd.underlying33 rfl HIa.out.1
    simp only [Act.put, List.setIfInBounds_toArray, List.set_cons_zero, List.set_cons_succ]
    refine wpAnyH_take (i := 20) (oi := { dst := some 43, op := .load 33 (.tmp 8), type := 33, pos := "law.go:68", after := #[{ on := 15, ground := .guard }], guard := some (15, true) }) (v := .agg B) rfl (by kernel_rfl) (by kernel_rfl) (by kernel_rfl) (fun _ _ _ h => h) (Or.inl ⟨by rfl, ?_⟩) H9.out.2 ?_
    · intro w hw; obtain ⟨s0, s1, s2⟩ := hw; exact exec_load_row 33 (.tmp 8) rfl b8 rfl 33 B (0, 0) _ s1 Tryd.underlying33 rfl HIb.out.1
    simp only [Act.put, List.setIfInBounds_toArray, List.set_cons_zero, List.set_cons_succ]
    refine wpAnyH_take (i := 22) (oi := { dst := some 45, op := .load 33 (.tmp 7), type := 33, pos := "law.go:68", after := #[{ on := 15, ground := .guard }], guard := some (15, true) }) (v := .agg A) rfl (by kernel_rfl) (by kernel_rfl) (by kernel_rfl) (fun _ _ _ h => h) (Or.inl ⟨by rfl, ?_⟩) H9.out.2 ?_
    · intro w hw; obtain ⟨s0, s1, s2⟩ := hw; exact exec_load_row 33 (.tmp 7) rfl b7 rfl 33 A (0, 0) _ s0 Tryd.underlying33 rfl HIa.out.1
    simp only [Act.put, List.setIfInBounds_toArray, List.set_cons_zero, List.set_cons_succ]
    refine wpAnyH_ready (rs := [18]) (by kernel_rfl) (by simp) (AllReadyH.cons (o := { dst := some 41, op := .call { callee := .value (.func 15), args := #[.tmp 39, .tmp 40], argTypes := #[33, 33] }, type := 4, pos := "law.go:68", after := #[{ on := 16, ground := .data }, { on := 17, ground := .data }, { on := 15, ground := .chain }, { on := 15, ground := .guard }], guard := some (15, true) }) rfl (fun K hK => ?_) AllReadyH.nil)
    go_simp
    go_at_call 15
    refine (HV3.out _).mono ?_
    rintro e w10 ⟨rfl, bb⟩
    have H10 := Lib.hid (show Below w.heap.size w w10 ∧ RowAt w10 b7 33 A ∧ RowAt w10 b8 33 B ∧ RowAt w10 b9 33 C from ⟨H9.out.1.trans (bb.mono H9.out.1.size), H9.out.2.1.new bb, H9.out.2.2.1.new bb, H9.out.2.2.2.new bb⟩)
    clear bb
    try dsimp only
    refine hK.out _ _ H10.out.2 (fun hHeld => ?_)
    clear hK K
    try simp only [Act.put, List.setIfInBounds_toArray, List.set_cons_zero, List.set_cons_succ]
    refine wpAnyH_ready (rs := [21]) (by kernel_rfl) (by simp) (AllReadyH.cons (o := { dst := some 44, op := .call { callee := .value (.func 14), args := #[.tmp 42, .tmp 43], argTypes := #[33, 33] }, type := 33, pos := "law.go:68", after := #[{ on := 19, ground := .data }, { on := 20, ground := .data }, { on := 18, ground := .chain }, { on := 15, ground := .guard }], guard := some (15, true) }) rfl (fun K hK => ?_) AllReadyH.nil)
    go_simp
    go_at_call 14
    refine (HJn.out _).mono ?_
    rintro e w11 ⟨rfl, bb⟩
    have H11 := Lib.hid (show Below w.heap.size w w11 ∧ RowAt w11 b7 33 A ∧ RowAt w11 b8 33 B ∧ RowAt w11 b9 33 C from ⟨H10.out.1.trans (bb.mono H10.out.1.size), H10.out.2.1.new bb, H10.out.2.2.1.new bb, H10.out.2.2.2.new bb⟩)
    clear bb
    try dsimp only
    refine hK.out _ _ H11.out.2 (fun hHeld => ?_)
    clear hK K
    try simp only [Act.put, List.setIfInBounds_toArray, List.set_cons_zero, List.set_cons_succ]
    refine wpAnyH_take (i := 23) (oi := { dst := some 46, op := .binOp .eql 33 (.tmp 44) (.tmp 45) 33, type := 4, pos := "law.go:68", after := #[{ on := 21, ground := .data }, { on := 22, ground := .data }, { on := 15, ground := .guard }], guard := some (15, true) }) (v := .bool cv) rfl (by kernel_rfl) (by kernel_rfl) (by kernel_rfl) (fun _ _ _ h => h) (Or.inl ⟨by rfl, ?_⟩) H11.out.2 ?_
    · intro w hw; obtain ⟨s0, s1, s2⟩ := hw; have he := HQ2.out w; go_simp; try (with_reducible rfl)
    simp only [Act.put, List.setIfInBounds_toArray, List.set_cons_zero, List.set_cons_succ]
    refine wpAnyH_take (i := 24) (oi := { dst := some 47, op := .binOp .eql 4 (.tmp 41) (.tmp 46) 4, type := 4, pos := "law.go:68", after := #[{ on := 18, ground := .data }, { on := 23, ground := .data }, { on := 15, ground := .guard }], guard := some (15, true) }) (v := ?_) rfl (by kernel_rfl) (by kernel_rfl) (by kernel_rfl) (fun _ _ _ h => h) (Or.inl ⟨by rfl, ?_⟩) H11.out.2 ?_
    rotate_left 1
    · intro w hw; obtain ⟨s0, s1, s2⟩ := hw; go_simp; try (with_reducible rfl)
    simp only [Act.put, List.setIfInBounds_toArray, List.set_cons_zero, List.set_cons_succ]
    refine wpAnyH_take (i := 25) (oi := { dst := some 48, op := .pick (.tmp 38) (.tmp 47) (.const (.bool false)), type := 4, pos := "law.go:68", after := #[{ on := 15, ground := .data }, { on := 24, ground := .data }], guard := none }) (v := ?_) rfl (by kernel_rfl) (by kernel_rfl) (by kernel_rfl) (fun _ _ _ h => h) (Or.inl ⟨by rfl, ?_⟩) H11.out.2 ?_
    rotate_left 1
    · intro w hw; obtain ⟨s0, s1, s2⟩ := hw; go_simp; try (with_reducible rfl)
    simp only [Act.put, List.setIfInBounds_toArray, List.set_cons_zero, List.set_cons_succ]
    refine wpAnyH_take (i := 26) (oi := { dst := some 49, op := .move (.tmp 48), type := 4, pos := "law.go:68", after := #[{ on := 25, ground := .data }, { on := 21, ground := .chain }], guard := none }) (v := ?_) rfl (by kernel_rfl) (by kernel_rfl) (by kernel_rfl) (fun _ _ _ h => h) (Or.inl ⟨by rfl, ?_⟩) H11.out.2 ?_
    rotate_left 1
    · intro w hw; obtain ⟨s0, s1, s2⟩ := hw; go_simp; try (with_reducible rfl)
    simp only [Act.put, List.setIfInBounds_toArray, List.set_cons_zero, List.set_cons_succ]
    refine wpAnyH_take (i := 27) (oi := { dst := some 50, op := .load 33 (.tmp 7), type := 33, pos := "law.go:68", after := #[{ on := 26, ground := .guard }], guard := some (26, true) }) (v := .agg A) rfl (by kernel_rfl) (by kernel_rfl) (by kernel_rfl) (fun _ _ _ h => h) (Or.inl ⟨by rfl, ?_⟩) H11.out.2 ?_
    · intro w hw; obtain ⟨s0, s1, s2⟩ := hw; exact exec_load_row 33 (.tmp 7) rfl b7 rfl 33 A (0, 0) _ s0 Tryd.underlying33 rfl HIa.out.1
    simp only [Act.put, List.setIfInBounds_toArray, List.set_cons_zero, List.set_cons_succ]
    refine wpAnyH_ready (rs := [28]) (by kernel_rfl) (by simp) (AllReadyH.cons (o := { dst := some 51, op := .call { callee := .value (.func 9), args := #[], argTypes := #[] }, type := 33, pos := "law.go:68", after := #[{ on := 26, ground := .chain }, { on := 26, ground := .guard }], guard := some (26, true) }) rfl (fun K hK => ?_) AllReadyH.nil)
    go_simp
    go_at_call 9
    refine (HEm.out _).mono ?_
    rintro e w12 ⟨rfl, bb⟩
    have H12 := Lib.hid (show Below w.heap.size w w12 ∧ RowAt w12 b7 33 A ∧ RowAt w12 b8 33 B ∧ RowAt w12 b9 33 C from ⟨H11.out.1.trans (bb.mono H11.out.1.size), H11.out.2.1.new bb, H11.out.2.2.1.new bb, H11.out.2.2.2.new bb⟩)
    clear bb
    try dsimp only
    refine hK.out _ _ H12.out.2 (fun hHeld => ?_)
    clear hK K
    try simp only [Act.put, List.setIfInBounds_toArray, List.set_cons_zero, List.set_cons_succ]
    refine wpAnyH_ready (rs := [29]) (by kernel_rfl) (by simp) (AllReadyH.cons (o := { dst := some 52, op := .call { callee := .value (.func 15), args := #[.tmp 50, .tmp 51], argTypes := #[33, 33] }, type := 4, pos := "law.go:68", after := #[{ on := 27, ground := .data }, { on := 28, ground := .data }, { on := 28, ground := .chain }, { on := 26, ground := .guard }], guard := some (26, true) }) rfl (fun K hK => ?_) AllReadyH.nil)
    go_simp
    go_at_call 15
    refine (HV4.out _).mono ?_
    rintro e w13 ⟨rfl, bb⟩
    have H13 := Lib.hid (show Below w.heap.size w w13 ∧ RowAt w13 b7 33 A ∧ RowAt w13 b8 33 B ∧ RowAt w13 b9 33 C from ⟨H12.out.1.trans (bb.mono H12.out.1.size), H12.out.2.1.new bb, H12.out.2.2.1.new bb, H12.out.2.2.2.new bb⟩)
    clear bb
    try dsimp only
    refine hK.out _ _ H13.out.2 (fun hHeld => ?_)
    clear hK K
    try simp only [Act.put, List.setIfInBounds_toArray, List.set_cons_zero, List.set_cons_succ]
    refine wpAnyH_take (i := 30) (oi := { dst := some 53, op := .pick (.tmp 49) (.tmp 52) (.const (.bool false)), type := 4, pos := "law.go:68", after := #[{ on := 26, ground := .data }, { on := 29, ground := .data }], guard := none }) (v := ?_) rfl (by kernel_rfl) (by kernel_rfl) (by kernel_rfl) (fun _ _ _ h => h) (Or.inl ⟨by rfl, ?_⟩) H13.out.2 ?_
    rotate_left 1
    · intro w hw; obtain ⟨s0, s1, s2⟩ := hw; go_simp; try (with_reducible rfl)
    simp only [Act.put, List.setIfInBounds_toArray, List.set_cons_zero, List.set_cons_succ]
    refine wpAnyH_take (i := 31) (oi := { dst := some 54, op := .move (.tmp 53), type := 4, pos := "law.go:68", after := #[{ on := 30, ground := .data }, { on := 29, ground := .chain }], guard := none }) (v := ?_) rfl (by kernel_rfl) (by kernel_rfl) (by kernel_rfl) (fun _ _ _ h => h) (Or.inl ⟨by rfl, ?_⟩) H13.out.2 ?_
    rotate_left 1
    · intro w hw; obtain ⟨s0, s1, s2⟩ := hw; go_simp; try (with_reducible rfl)
    simp only [Act.put, List.setIfInBounds_toArray, List.set_cons_zero, List.set_cons_succ]
    refine wpAnyH_ready (rs := [32]) (by kernel_rfl) (by simp) (AllReadyH.cons (o := { dst := some 55, op := .call { callee := .value (.func 13), args := #[], argTypes := #[] }, type := 4, pos := "law.go:68", after := #[{ on := 31, ground := .chain }, { on := 31, ground := .guard }], guard := some (31, true) }) rfl (fun K hK => ?_) AllReadyH.nil)
    go_simp
    go_at_call 13
    refine (HAl.out _ H13.out.1).mono ?_
    rintro e w14 ⟨rfl, bb⟩
    have H14 := Lib.hid (show Below w.heap.size w w14 ∧ RowAt w14 b7 33 A ∧ RowAt w14 b8 33 B ∧ RowAt w14 b9 33 C from ⟨H13.out.1.trans (bb.mono H13.out.1.size), H13.out.2.1.new bb, H13.out.2.2.1.new bb, H13.out.2.2.2.new bb⟩)
    clear bb
    try dsimp only
    refine hK.out _ _ H14.out.2 (fun hHeld => ?_)
    clear hK K
    try simp only [Act.put, List.setIfInBounds_toArray, List.set_cons_zero, List.set_cons_succ]
    refine wpAnyH_take (i := 33) (oi := { dst := some 56, op := .pick (.tmp 54) (.tmp 55) (.const (.bool false)), type := 4, pos := "law.go:68", after := #[{ on := 31, ground := .data }, { on := 32, ground := .data }], guard := none }) (v := ?_) rfl (by kernel_rfl) (by kernel_rfl) (by kernel_rfl) (fun _ _ _ h => h) (Or.inl ⟨by rfl, ?_⟩) H14.out.2 ?_
    rotate_left 1
    · intro w hw; obtain ⟨s0, s1, s2⟩ := hw; go_simp; try (with_reducible rfl)
    simp only [Act.put, List.setIfInBounds_toArray, List.set_cons_zero, List.set_cons_succ]
    refine wpAnyH_take (i := 34) (oi := { dst := some 6, op := .assign (.tmp 56), type := 4, pos := "law.go:68", after := #[{ on := 33, ground := .data }, { on := 32, ground := .chain }, { on := 0, ground := .phase }, { on := 1, ground := .phase }, { on := 2, ground := .phase }, { on := 3, ground := .phase }, { on := 4, ground := .phase }, { on := 5, ground := .phase }, { on := 6, ground := .phase }, { on := 7, ground := .phase }, { on := 8, ground := .phase }, { on := 9, ground := .phase }, { on := 10, ground := .phase }, { on := 11, ground := .phase }, { on := 12, ground := .phase }, { on := 13, ground := .phase }, { on := 14, ground := .phase }, { on := 15, ground := .phase }, { on := 16, ground := .phase }, { on := 17, ground := .phase }, { on := 18, ground := .phase }, { on := 19, ground := .phase }, { on := 20, ground := .phase }, { on := 21, ground := .phase }, { on := 22, ground := .phase }, { on := 23, ground := .phase }, { on := 24, ground := .phase }, { on := 25, ground := .phase }, { on := 26, ground := .phase }, { on := 27, ground := .phase }, { on := 28, ground := .phase }, { on := 29, ground := .phase }, { on := 30, ground := .phase }, { on := 31, ground := .phase }, { on := 32, ground := .phase }, { on := 33, ground := .phase }], guard := none }) (v := ?_) rfl (by kernel_rfl) (by kernel_rfl) (by kernel_rfl) (fun _ _ _ h => h) (Or.inl ⟨by rfl, ?_⟩) H14.out.2 ?_
    rotate_left 1
    · intro w hw; obtain ⟨s0, s1, s2⟩ := hw; go_simp; try (with_reducible rfl)
    simp only [Act.put, List.setIfInBounds_toArray, List.set_cons_zero, List.set_cons_succ]
    refine wpAnyH_done (by kernel_rfl) ?_ _

    go_wp2
    go_ret
    exact ⟨rfl, H14.out.1⟩
end Go.Proofs.YtomdcmdgcnhnmaaDoor
