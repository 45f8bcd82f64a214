/- Several texts in one: GB. -/
import Derived.Test.YthpagbfabpfngaaPk07
import Derived.Deep.Cut
import Derived.Deep.CutRange
import Derived.Laws.OwnMore
/- The contract of the reference's New. -/
namespace Go.Proofs.Ythpagbfabpfngaa
open Go.RowKit

/-- A device whose first k words of all are blank. -/
structure NewR (w0 w : World) (N bL bW ns nw : Nat) (lim : Int) (k : Nat) : Prop where
  x : BoxAt w N (lD ns nw lim bL (ns * nw) (ns * nw) bW ns ns false false 0 0 0)
  y : BoxAt w w0.heap.size lZ
  cl : ∀ t, t < ns * nw → w.cell? ⟨bL, t, none⟩ = some (.int .u32 (if t < k then 4294967295 else 0))
  fl : ∀ t, w.frozen? ⟨bL, t, none⟩ = false
  cw : ∀ i, i < ns → w.cell? ⟨bW, i, none⟩ = some (.int .i64 0)
  fw : ∀ i, w.frozen? ⟨bW, i, none⟩ = false
  ne : w0.heap.size < N ∧ w0.heap.size < bL ∧ w0.heap.size < bW ∧ N ≠ bL ∧ N ≠ bW ∧ bL ≠ bW
  b : Below w0.heap.size w0 w
theorem made_one (a : Value) (n i : Nat) (hi : i < n) : (madeCells #[a] (n * 1)).toList[i]? = some a := by
  unfold madeCells
  rw [Array.toList_map, List.getElem?_map, Array.toList_range, List.getElem?_range (by omega)]
  simp [Nat.mod_one]
theorem newR_put {w0 w : World} {N bL bW ns nw M b1 b2 : Nat} {lim : Int} (bN : BoxAt w N lZ) (bR : BoxAt w w0.heap.size lZ) (oL : w.ownsRow b1 26 1 (.slice (some ⟨bL, 0, none⟩) M M) M (madeCells (Value.int .u32 0).cells (M * 1)).toList)
    (oW : w.ownsRow b2 3 1 (.slice (some ⟨bW, 0, none⟩) ns ns) ns (madeCells (Value.int .i64 0).cells (ns * 1)).toList) (ne : w0.heap.size < N ∧ w0.heap.size < bL ∧ w0.heap.size < bW ∧ N ≠ bL ∧ N ≠ bW ∧ bL ≠ bW) (b : Below w0.heap.size w0 w) (hM : ns * nw = M) :
    NewR w0 ((((((((((w.setCell ⟨N, 0, none⟩ (.int .i64 ns)).setCell ⟨N, 1, none⟩ (.int .i64 nw)).setCell ⟨N, 2, none⟩ (.int .i64 lim)).setCell ⟨N, 3, none⟩ (.slice (some ⟨bL, 0, none⟩) M M)).setCell ⟨N, 4, none⟩ (.slice (some ⟨bW, 0, none⟩) ns ns)).setCell ⟨N, 5, none⟩ (.bool false)).setCell ⟨N, 6, none⟩ (.bool false)).setCell ⟨N, 7, none⟩ (.int .i64 0)).setCell ⟨N, 8, none⟩ (.int .u32 0)).setCell ⟨N, 9, none⟩ (.int .i64 0)) N bL bW ns nw lim 0 := by
  subst hM
  have hc := ch_put w N (.int .i64 ns) (.int .i64 nw) (.int .i64 lim) (.slice (some ⟨bL, 0, none⟩) (ns * nw : Nat) (ns * nw : Nat)) (.slice (some ⟨bW, 0, none⟩) ns ns) (.bool false) (.bool false) (.int .i64 0) (.int .u32 0) (.int .i64 0)
  have oL' := own_ch oL hc (fun g hg e => ne.2.2.2.1 (by have : bL = g := Option.some.inj hg; omega))
  have oW' := own_ch oW hc (fun g hg e => ne.2.2.2.2.1 (by have : bW = g := Option.some.inj hg; omega))
  refine ⟨?_, bR.keep hc (by omega), fun t ht => ?_, fun t => oL'.frozenAt t, fun i hi => ?_, fun i => oW'.frozenAt i, ne, ?_⟩
  · exact (((((((((bN.set 0 _ (by decide : 0 < 10)).set 1 _ (by decide : 1 < 10)).set 2 _ (by decide : 2 < 10)).set 3 _ (by decide : 3 < 10)).set 4 _ (by decide : 4 < 10)).set 5 _ (by decide : 5 < 10)).set 6 _ (by decide : 6 < 10)).set 7 _ (by decide : 7 < 10)).set 8 _ (by decide : 8 < 10)).set 9 _ (by decide : 9 < 10)
  · rw [oL'.cellAt t (by omega), if_neg (by omega)]; exact made_one _ _ _ ht
  · rw [oW'.cellAt i (by omega)]; exact made_one _ _ _ hi
  · exact b.trans (hc.below (fun j hj e => by omega) (by have := bN.lt; have := bR.lt; omega))
theorem NewR.succ {w0 w : World} {N bL bW ns nw k : Nat} {lim : Int} (h : NewR w0 w N bL bW ns nw lim k) (hk : k < ns * nw) : NewR w0 (w.setCell ⟨bL, k, none⟩ (.int .u32 4294967295)) N bL bW ns nw lim (k + 1) := by
  have n := h.ne
  refine ⟨h.x.other _ _ (fun e => n.2.2.2.1 e.symm), h.y.other _ _ (by show bL ≠ _; omega), fun t ht => ?_, fun t => by rw [World.frozen?_setCell]; exact h.fl t, fun i hi => ?_, fun i => by rw [World.frozen?_setCell]; exact h.fw i, n, h.b.setCell (by show _ ≤ bL; omega) _⟩
  · by_cases e : t = k
    · subst e
      rw [if_pos (by omega)]
      exact World.cell?_setCell_same _ _ _ (h.cl t ht)
    · rw [World.cell?_setCell_other _ _ _ _ (fun e' => e (by injection e' with _ e'; exact e'.symm)), h.cl t ht]
      by_cases e2 : t < k
      · rw [if_pos e2, if_pos (by omega)]
      · rw [if_neg e2, if_neg (by omega)]
  · rw [World.cell?_setCell_other _ _ _ _ (fun e' => n.2.2.2.2.2 (by injection e'))]
    exact h.cw i hi
theorem NewR.ref {w0 w : World} {N bL bW ns nw : Nat} {lim : Int} (h : NewR w0 w N bL bW ns nw lim (ns * nw)) (hz : ns ≤ 64 ∧ nw ≤ 1024 ∧ 0 < ns ∧ 0 < nw) : RefIn w bL bW (Dev.fresh ns nw lim) :=
  ⟨fun s k hs hk => by
    have ht := flat_lt ns nw s k hs hk
    refine (h.cl (s * nw + k) ht).trans ?_
    rw [if_pos ht]; rfl, fun t _ => h.fl t, fun i hi => h.cw i hi, fun i _ => h.fw i, h.ne.2.2.2.2.2, hz⟩

set_option maxHeartbeats 2000000 in
set_option maxRecDepth 100000 in
theorem newR_ok (ns nw : Nat) (lim : Int) (w : World) (h : okSize ns nw lim) : Calls Try.prog 8 #[.int .i64 ns, .int .i64 nw, .int .i64 lim] w fun e w' =>
    ∃ bL cL bW cW, e = .returned (.tuple #[refX bL cL bW cW (Dev.fresh ns nw lim), .int .i64 0]) ∧ RefIn w' bL bW (Dev.fresh ns nw lim) ∧ w.heap.size ≤ bL ∧ w.heap.size ≤ bW ∧ ns * nw ≤ cL ∧ Below w.heap.size w w' := by
  obtain ⟨h1, h2, h3, h4, h5, h6⟩ := h
  obtain ⟨i0, hi, hz0, hz1, hz2⟩ := info_parts infoB
  obtain ⟨j0, hj, ha0, ha1, ha2⟩ := info_parts info3Z
  have hm : ns * nw ≤ 64 * 1024 := Nat.mul_le_mul (by omega) (by omega)
  have m1 := wrap_nat ((ns : Int) * (nw : Int)) (ns * nw) (by simp) (by omega)
  obtain ⟨M, hM⟩ : ∃ M, ns * nw = M := ⟨_, rfl⟩
  rw [hM] at m1 hm
  have HM := Lib.hid hM
  have HZ := Lib.hid (show M ≤ 65536 ∧ ns ≤ 64 ∧ nw ≤ 1024 ∧ 0 < ns ∧ 0 < nw by omega)
  have z0 : (0 : Int) ≤ (M : Int) := by omega
  have z1 : (0 : Int) ≤ (ns : Int) := by omega
  have HB := Lib.hid (BoxAt.mk_new w #[.int .i64 0, .int .i64 0, .int .i64 0, .slice none 0 0, .slice none 0 0, .bool false, .bool false, .int .i64 0, .int .u32 0, .int .i64 0] 28)
  have HBB := Lib.hid (show Below w.heap.size w _ from (Below.refl _ w).alloc (Nat.le_refl _) (.cells #[.int .i64 0, .int .i64 0, .int .i64 0, .slice none 0 0, .slice none 0 0, .bool false, .bool false, .int .i64 0, .int .u32 0, .int .i64 0] 28))
  obtain ⟨B, hB⟩ : ∃ B, w.heap.size = B := ⟨_, rfl⟩
  clear hm hM
  go_enter Try.func8, Try.ntmps8
  go_upto_region 3 with fail
  have hb := HB.out
  have hbb := HBB.out
  clear HB HBB
  generalize hA : World.alloc w _ = wI at hb hbb ⊢
  have HI := Lib.hid (And.intro hb hbb)
  have HIL := Lib.hid (Nat.le_of_lt hb.lt)
  clear hb hbb hA
  go_cut [8] from 33 to 42 (fun s8 wx => ∃ N bL bW, s8 = .pointer (some ⟨N, 0, none⟩) ∧ Aside (NewR w wx N bL bW ns nw lim 0))
  case first =>
    refine wp_region_held_drew (S := fun _ => True) (by kernel_rfl) trivial (fun hS => ?_)
    refine wpAnyH_take (i := 0) (oi := { dst := some 33, op := .move (.tmp 0), type := 3, pos := "ref.go:22", after := #[], guard := none }) (v := ?_) rfl (by kernel_rfl) (by kernel_rfl) (by kernel_rfl) (fun _ _ _ h => h) (Or.inl ⟨by rfl, ?_⟩) trivial ?_
    rotate_left 1
    · intro w hw; go_simp; try (with_reducible rfl)
    simp only [Act.put, List.setIfInBounds_toArray, List.set_cons_zero, List.set_cons_succ]
    refine wpAnyH_take (i := 1) (oi := { dst := some 34, op := .move (.tmp 1), type := 3, pos := "ref.go:22", after := #[], guard := none }) (v := ?_) rfl (by kernel_rfl) (by kernel_rfl) (by kernel_rfl) (fun _ _ _ h => h) (Or.inl ⟨by rfl, ?_⟩) trivial ?_
    rotate_left 1
    · intro w hw; go_simp; try (with_reducible rfl)
    simp only [Act.put, List.setIfInBounds_toArray, List.set_cons_zero, List.set_cons_succ]
    refine wpAnyH_take (i := 2) (oi := { dst := some 35, op := .move (.tmp 2), type := 3, pos := "ref.go:22", after := #[], guard := none }) (v := ?_) rfl (by kernel_rfl) (by kernel_rfl) (by kernel_rfl) (fun _ _ _ h => h) (Or.inl ⟨by rfl, ?_⟩) trivial ?_
    rotate_left 1
    · intro w hw; go_simp; try (with_reducible rfl)
    simp only [Act.put, List.setIfInBounds_toArray, List.set_cons_zero, List.set_cons_succ]
    refine wpAnyH_take (i := 3) (oi := { dst := some 36, op := .move (.tmp 0), type := 3, pos := "ref.go:22", after := #[], guard := none }) (v := ?_) rfl (by kernel_rfl) (by kernel_rfl) (by kernel_rfl) (fun _ _ _ h => h) (Or.inl ⟨by rfl, ?_⟩) trivial ?_
    rotate_left 1
    · intro w hw; go_simp; try (with_reducible rfl)
    simp only [Act.put, List.setIfInBounds_toArray, List.set_cons_zero, List.set_cons_succ]
    refine wpAnyH_take (i := 4) (oi := { dst := some 37, op := .move (.tmp 1), type := 3, pos := "ref.go:22", after := #[], guard := none }) (v := ?_) rfl (by kernel_rfl) (by kernel_rfl) (by kernel_rfl) (fun _ _ _ h => h) (Or.inl ⟨by rfl, ?_⟩) trivial ?_
    rotate_left 1
    · intro w hw; go_simp; try (with_reducible rfl)
    simp only [Act.put, List.setIfInBounds_toArray, List.set_cons_zero, List.set_cons_succ]
    refine wpAnyH_take (i := 5) (oi := { dst := some 38, op := .binOp .mul 3 (.tmp 36) (.tmp 37) 3, type := 3, pos := "ref.go:22", after := #[{ on := 3, ground := .data }, { on := 4, ground := .data }], guard := none }) (v := ?_) rfl (by kernel_rfl) (by kernel_rfl) (by kernel_rfl) (fun _ _ _ h => h) (Or.inl ⟨by rfl, ?_⟩) trivial ?_
    rotate_left 1
    · intro w hw; go_simp; try (with_reducible rfl)
    simp only [Act.put, List.setIfInBounds_toArray, List.set_cons_zero, List.set_cons_succ]
    refine wpAnyH_take (i := 7) (oi := { dst := some 40, op := .move (.tmp 0), type := 3, pos := "ref.go:22", after := #[], guard := none }) (v := ?_) rfl (by kernel_rfl) (by kernel_rfl) (by kernel_rfl) (fun _ _ _ h => h) (Or.inl ⟨by rfl, ?_⟩) trivial ?_
    rotate_left 1
    · intro w hw; go_simp; try (with_reducible rfl)
    simp only [Act.put, List.setIfInBounds_toArray, List.set_cons_zero, List.set_cons_succ]
    refine wpAnyH_ready (rs := [6, 8, 10]) (by kernel_rfl) (by simp) (AllReadyH.cons (o := { dst := some 39, op := .makeSlice 24 (.tmp 38) (.tmp 38), type := 24, pos := "ref.go:22", after := #[{ on := 5, ground := .data }, { on := 5, ground := .data }], guard := none }) rfl (fun K hK => ?_) (AllReadyH.cons (o := { dst := some 41, op := .makeSlice 25 (.tmp 40) (.tmp 40), type := 25, pos := "ref.go:22", after := #[{ on := 7, ground := .data }, { on := 7, ground := .data }], guard := none }) rfl (fun K hK => ?_) (AllReadyH.cons (o := { dst := some 8, op := .alloc 28, type := 0, pos := "ref.go:22", after := #[], guard := none }) rfl (fun K hK => ?_) AllReadyH.nil)))
    · obtain ⟨wa1, hmk1, hown1, hgr1⟩ := run_makeSlice_full (P := Try.prog) (w := wI.drew) wI.drew.heap.size 24 26 i0 (.int .u32 0) 1 Try.underlying24 hi hz0 hz1 .i64 .i64 M (by have := HZ.out; omega) (by rw [hz2]; have := HZ.out; omega) (by have := HZ.out; unfold maxLen; omega) (Nat.le_refl _)
      have hb1 : Below wI.drew.heap.size wI.drew wa1 := (Below.refl _ _).grown hgr1 (Nat.le_refl _) (fun k hk => by simp at hk)
      have hl1 : wI.drew.heap.size < wa1.heap.size := (hown1.lt _ rfl).2
      have HX1 := Lib.hid (And.intro hown1 (And.intro hb1 hl1))
      clear hown1 hb1 hl1 hgr1
      go_simp
      clear hmk1
      refine hK.out _ _ trivial (fun hHeld => ?_)
      clear hK K
      try simp only [Act.put, List.setIfInBounds_toArray, List.set_cons_zero, List.set_cons_succ]
      refine wpAnyH_ready (rs := [8, 10]) (by kernel_rfl) (by simp) (AllReadyH.cons (o := { dst := some 41, op := .makeSlice 25 (.tmp 40) (.tmp 40), type := 25, pos := "ref.go:22", after := #[{ on := 7, ground := .data }, { on := 7, ground := .data }], guard := none }) rfl (fun K hK => ?_) (AllReadyH.cons (o := { dst := some 8, op := .alloc 28, type := 0, pos := "ref.go:22", after := #[], guard := none }) rfl (fun K hK => ?_) AllReadyH.nil))
      · obtain ⟨wa2, hmk2, hown2, hgr2⟩ := run_makeSlice_full (P := Try.prog) (w := wa1) wa1.heap.size 25 3 j0 (.int .i64 0) 1 Try.underlying25 hj ha0 ha1 .i64 .i64 ns (by have := HZ.out; omega) (by rw [ha2]; have := HZ.out; omega) (by have := HZ.out; unfold maxLen; omega) (Nat.le_refl _)
        have hb2 : Below wa1.heap.size wa1 wa2 := (Below.refl _ _).grown hgr2 (Nat.le_refl _) (fun k hk => by simp at hk)
        have hl2 : wa1.heap.size < wa2.heap.size := (hown2.lt _ rfl).2
        have HX2 := Lib.hid (And.intro hown2 (And.intro hb2 hl2))
        clear hown2 hb2 hl2 hgr2
        go_simp
        clear hmk2
        refine hK.out _ _ trivial (fun hHeld => ?_)
        clear hK K
        try simp only [Act.put, List.setIfInBounds_toArray, List.set_cons_zero, List.set_cons_succ]
        refine wpAnyH_take (i := 9) (oi := { dst := some 42, op := .build 28 #[(0, .tmp 33), (1, .tmp 34), (2, .tmp 35), (3, .tmp 39), (4, .tmp 41)], type := 28, pos := "ref.go:22", after := #[{ on := 0, ground := .data }, { on := 1, ground := .data }, { on := 2, ground := .data }, { on := 6, ground := .data }, { on := 8, ground := .data }], guard := none }) (v := ?_) rfl (by kernel_rfl) (by kernel_rfl) (by kernel_rfl) (fun _ _ _ h => h) (Or.inl ⟨by rfl, ?_⟩) trivial ?_
        rotate_left 1
        · intro w hw; go_simp; try (with_reducible rfl)
        simp only [Act.put, List.setIfInBounds_toArray, List.set_cons_zero, List.set_cons_succ]
        refine wpAnyH_ready (rs := [10]) (by kernel_rfl) (by simp) (AllReadyH.cons (o := { dst := some 8, op := .alloc 28, type := 0, pos := "ref.go:22", after := #[], guard := none }) rfl (fun K hK => ?_) AllReadyH.nil)
        go_simp
        have bx3 : BoxAt (wa2.alloc (.cells #[.int .i64 0, .int .i64 0, .int .i64 0, .slice none 0 0, .slice none 0 0, .bool false, .bool false, .int .i64 0, .int .u32 0, .int .i64 0] 28)) wa2.heap.size lZ := BoxAt.mk_new wa2 #[.int .i64 0, .int .i64 0, .int .i64 0, .slice none 0 0, .slice none 0 0, .bool false, .bool false, .int .i64 0, .int .u32 0, .int .i64 0] 28
        have hb3 : Below wa2.heap.size wa2 (wa2.alloc (.cells #[.int .i64 0, .int .i64 0, .int .i64 0, .slice none 0 0, .slice none 0 0, .bool false, .bool false, .int .i64 0, .int .u32 0, .int .i64 0] 28)) := (Below.refl _ wa2).alloc (Nat.le_refl _) (.cells #[.int .i64 0, .int .i64 0, .int .i64 0, .slice none 0 0, .slice none 0 0, .bool false, .bool false, .int .i64 0, .int .u32 0, .int .i64 0] 28)
        generalize hA3 : World.alloc wa2 _ = wa3 at bx3 hb3 ⊢
        have hl3 : wa2.heap.size < wa3.heap.size := bx3.lt
        have HX3 := Lib.hid (And.intro bx3 (And.intro hb3 hl3))
        clear bx3 hb3 hl3 hA3
        refine hK.out _ _ trivial (fun hHeld => ?_)
        clear hK K
        try simp only [Act.put, List.setIfInBounds_toArray, List.set_cons_zero, List.set_cons_succ]
        refine wpAnyH_ready (rs := [11]) (by kernel_rfl) (by simp) (AllReadyH.cons (o := { dst := none, op := .store 28 (.tmp 8) (.tmp 42), type := 0, pos := "ref.go:22", after := #[{ on := 10, ground := .data }, { on := 9, ground := .data }, { on := 0, ground := .phase }, { on := 1, ground := .phase }, { on := 2, ground := .phase }, { on := 3, ground := .phase }, { on := 4, ground := .phase }, { on := 5, ground := .phase }, { on := 6, ground := .phase }, { on := 7, ground := .phase }, { on := 8, ground := .phase }, { on := 9, ground := .phase }, { on := 10, ground := .phase }], guard := none }) rfl (fun K hK => ?_) AllReadyH.nil)
        have bN := HX3.out.1
        have c0 := bN.cell 0 _ rfl; have c1 := bN.cell 1 _ rfl; have c2 := bN.cell 2 _ rfl; have c3 := bN.cell 3 _ rfl; have c4 := bN.cell 4 _ rfl; have c5 := bN.cell 5 _ rfl; have c6 := bN.cell 6 _ rfl; have c7 := bN.cell 7 _ rfl; have c8 := bN.cell 8 _ rfl; have c9 := bN.cell 9 _ rfl
        have f0 := bN.fr 0; have f1 := bN.fr 1; have f2 := bN.fr 2; have f3 := bN.fr 3; have f4 := bN.fr 4; have f5 := bN.fr 5; have f6 := bN.fr 6; have f7 := bN.fr 7; have f8 := bN.fr 8; have f9 := bN.fr 9
        clear bN
        go_simp
        refine hK.out _ _ trivial (fun hHeld => ?_)
        clear hK K
        try simp only [Act.put, List.setIfInBounds_toArray, List.set_cons_zero, List.set_cons_succ]
        clear c0 f0 c1 f1 c2 f2 c3 f3 c4 f4 c5 f5 c6 f6 c7 f7 c8 f8 c9 f9
        refine wpAnyH_done (by kernel_rfl) ?_ _
        go_wp2
        go_meet
        case rel => exact ⟨wa2.heap.size, wI.drew.heap.size, wa1.heap.size, rfl, newR_put HX3.out.1 ((((HI.out.1.keep (Ch.new (T := fun _ => False) (below_dn (Below.refl _ _) 1)) (fun h => h)).new HX1.out.2.1).new HX2.out.2.1).new HX3.out.2.1) (own_below (own_below HX1.out.1 HX2.out.2.1 (Nat.le_refl _)) HX3.out.2.1 (Nat.le_refl _)) (own_below HX2.out.1 HX3.out.2.1 (Nat.le_refl _)) (by have := HX1.out.2.2; have := HX2.out.2.2; have := HX3.out.2.2; have := HI.out.1.lt; have : wI.drew.heap.size = wI.heap.size := rfl; omega) ((((below_dn HI.out.2 1).trans (HX1.out.2.1.mono (HIL.out))).trans (HX2.out.2.1.mono (Nat.le_trans (HIL.out) (Nat.le_of_lt HX1.out.2.2)))).trans (HX3.out.2.1.mono (Nat.le_trans (Nat.le_trans (HIL.out) (Nat.le_of_lt HX1.out.2.2)) (Nat.le_of_lt HX2.out.2.2)))) HM.out⟩
      · go_simp
        have bx5 : BoxAt (wa1.alloc (.cells #[.int .i64 0, .int .i64 0, .int .i64 0, .slice none 0 0, .slice none 0 0, .bool false, .bool false, .int .i64 0, .int .u32 0, .int .i64 0] 28)) wa1.heap.size lZ := BoxAt.mk_new wa1 #[.int .i64 0, .int .i64 0, .int .i64 0, .slice none 0 0, .slice none 0 0, .bool false, .bool false, .int .i64 0, .int .u32 0, .int .i64 0] 28
        have hb5 : Below wa1.heap.size wa1 (wa1.alloc (.cells #[.int .i64 0, .int .i64 0, .int .i64 0, .slice none 0 0, .slice none 0 0, .bool false, .bool false, .int .i64 0, .int .u32 0, .int .i64 0] 28)) := (Below.refl _ wa1).alloc (Nat.le_refl _) (.cells #[.int .i64 0, .int .i64 0, .int .i64 0, .slice none 0 0, .slice none 0 0, .bool false, .bool false, .int .i64 0, .int .u32 0, .int .i64 0] 28)
        generalize hA5 : World.alloc wa1 _ = wa5 at bx5 hb5 ⊢
        have hl5 : wa1.heap.size < wa5.heap.size := bx5.lt
        have HX5 := Lib.hid (And.intro bx5 (And.intro hb5 hl5))
        clear bx5 hb5 hl5 hA5
        refine hK.out _ _ trivial (fun hHeld => ?_)
        clear hK K
        try simp only [Act.put, List.setIfInBounds_toArray, List.set_cons_zero, List.set_cons_succ]
        refine wpAnyH_ready (rs := [8]) (by kernel_rfl) (by simp) (AllReadyH.cons (o := { dst := some 41, op := .makeSlice 25 (.tmp 40) (.tmp 40), type := 25, pos := "ref.go:22", after := #[{ on := 7, ground := .data }, { on := 7, ground := .data }], guard := none }) rfl (fun K hK => ?_) AllReadyH.nil)
        obtain ⟨wa6, hmk6, hown6, hgr6⟩ := run_makeSlice_full (P := Try.prog) (w := wa5) wa5.heap.size 25 3 j0 (.int .i64 0) 1 Try.underlying25 hj ha0 ha1 .i64 .i64 ns (by have := HZ.out; omega) (by rw [ha2]; have := HZ.out; omega) (by have := HZ.out; unfold maxLen; omega) (Nat.le_refl _)
        have hb6 : Below wa5.heap.size wa5 wa6 := (Below.refl _ _).grown hgr6 (Nat.le_refl _) (fun k hk => by simp at hk)
        have hl6 : wa5.heap.size < wa6.heap.size := (hown6.lt _ rfl).2
        have HX6 := Lib.hid (And.intro hown6 (And.intro hb6 hl6))
        clear hown6 hb6 hl6 hgr6
        go_simp
        clear hmk6
        refine hK.out _ _ trivial (fun hHeld => ?_)
        clear hK K
        try simp only [Act.put, List.setIfInBounds_toArray, List.set_cons_zero, List.set_cons_succ]
        refine wpAnyH_take (i := 9) (oi := { dst := some 42, op := .build 28 #[(0, .tmp 33), (1, .tmp 34), (2, .tmp 35), (3, .tmp 39), (4, .tmp 41)], type := 28, pos := "ref.go:22", after := #[{ on := 0, ground := .data }, { on := 1, ground := .data }, { on := 2, ground := .data }, { on := 6, ground := .data }, { on := 8, ground := .data }], guard := none }) (v := ?_) rfl (by kernel_rfl) (by kernel_rfl) (by kernel_rfl) (fun _ _ _ h => h) (Or.inl ⟨by rfl, ?_⟩) trivial ?_
        rotate_left 1
        · intro w hw; go_simp; try (with_reducible rfl)
        simp only [Act.put, List.setIfInBounds_toArray, List.set_cons_zero, List.set_cons_succ]
        refine wpAnyH_ready (rs := [11]) (by kernel_rfl) (by simp) (AllReadyH.cons (o := { dst := none, op := .store 28 (.tmp 8) (.tmp 42), type := 0, pos := "ref.go:22", after := #[{ on := 10, ground := .data }, { on := 9, ground := .data }, { on := 0, ground := .phase }, { on := 1, ground := .phase }, { on := 2, ground := .phase }, { on := 3, ground := .phase }, { on := 4, ground := .phase }, { on := 5, ground := .phase }, { on := 6, ground := .phase }, { on := 7, ground := .phase }, { on := 8, ground := .phase }, { on := 9, ground := .phase }, { on := 10, ground := .phase }], guard := none }) rfl (fun K hK => ?_) AllReadyH.nil)
        have bN := (HX5.out.1.new HX6.out.2.1)
        have c0 := bN.cell 0 _ rfl; have c1 := bN.cell 1 _ rfl; have c2 := bN.cell 2 _ rfl; have c3 := bN.cell 3 _ rfl; have c4 := bN.cell 4 _ rfl; have c5 := bN.cell 5 _ rfl; have c6 := bN.cell 6 _ rfl; have c7 := bN.cell 7 _ rfl; have c8 := bN.cell 8 _ rfl; have c9 := bN.cell 9 _ rfl
        have f0 := bN.fr 0; have f1 := bN.fr 1; have f2 := bN.fr 2; have f3 := bN.fr 3; have f4 := bN.fr 4; have f5 := bN.fr 5; have f6 := bN.fr 6; have f7 := bN.fr 7; have f8 := bN.fr 8; have f9 := bN.fr 9
        clear bN
        go_simp
        refine hK.out _ _ trivial (fun hHeld => ?_)
        clear hK K
        try simp only [Act.put, List.setIfInBounds_toArray, List.set_cons_zero, List.set_cons_succ]
        clear c0 f0 c1 f1 c2 f2 c3 f3 c4 f4 c5 f5 c6 f6 c7 f7 c8 f8 c9 f9
        refine wpAnyH_done (by kernel_rfl) ?_ _
        go_wp2
        go_meet
        case rel => exact ⟨wa1.heap.size, wI.drew.heap.size, wa5.heap.size, rfl, newR_put (HX5.out.1.new HX6.out.2.1) ((((HI.out.1.keep (Ch.new (T := fun _ => False) (below_dn (Below.refl _ _) 1)) (fun h => h)).new HX1.out.2.1).new HX5.out.2.1).new HX6.out.2.1) (own_below (own_below HX1.out.1 HX5.out.2.1 (Nat.le_refl _)) HX6.out.2.1 (Nat.le_refl _)) HX6.out.1 (by have := HX1.out.2.2; have := HX5.out.2.2; have := HX6.out.2.2; have := HI.out.1.lt; have : wI.drew.heap.size = wI.heap.size := rfl; omega) ((((below_dn HI.out.2 1).trans (HX1.out.2.1.mono (HIL.out))).trans (HX5.out.2.1.mono (Nat.le_trans (HIL.out) (Nat.le_of_lt HX1.out.2.2)))).trans (HX6.out.2.1.mono (Nat.le_trans (Nat.le_trans (HIL.out) (Nat.le_of_lt HX1.out.2.2)) (Nat.le_of_lt HX5.out.2.2)))) HM.out⟩
    · obtain ⟨wa8, hmk8, hown8, hgr8⟩ := run_makeSlice_full (P := Try.prog) (w := wI.drew) wI.drew.heap.size 25 3 j0 (.int .i64 0) 1 Try.underlying25 hj ha0 ha1 .i64 .i64 ns (by have := HZ.out; omega) (by rw [ha2]; have := HZ.out; omega) (by have := HZ.out; unfold maxLen; omega) (Nat.le_refl _)
      have hb8 : Below wI.drew.heap.size wI.drew wa8 := (Below.refl _ _).grown hgr8 (Nat.le_refl _) (fun k hk => by simp at hk)
      have hl8 : wI.drew.heap.size < wa8.heap.size := (hown8.lt _ rfl).2
      have HX8 := Lib.hid (And.intro hown8 (And.intro hb8 hl8))
      clear hown8 hb8 hl8 hgr8
      go_simp
      clear hmk8
      refine hK.out _ _ trivial (fun hHeld => ?_)
      clear hK K
      try simp only [Act.put, List.setIfInBounds_toArray, List.set_cons_zero, List.set_cons_succ]
      refine wpAnyH_ready (rs := [6, 10]) (by kernel_rfl) (by simp) (AllReadyH.cons (o := { dst := some 39, op := .makeSlice 24 (.tmp 38) (.tmp 38), type := 24, pos := "ref.go:22", after := #[{ on := 5, ground := .data }, { on := 5, ground := .data }], guard := none }) rfl (fun K hK => ?_) (AllReadyH.cons (o := { dst := some 8, op := .alloc 28, type := 0, pos := "ref.go:22", after := #[], guard := none }) rfl (fun K hK => ?_) AllReadyH.nil))
      · obtain ⟨wa9, hmk9, hown9, hgr9⟩ := run_makeSlice_full (P := Try.prog) (w := wa8) wa8.heap.size 24 26 i0 (.int .u32 0) 1 Try.underlying24 hi hz0 hz1 .i64 .i64 M (by have := HZ.out; omega) (by rw [hz2]; have := HZ.out; omega) (by have := HZ.out; unfold maxLen; omega) (Nat.le_refl _)
        have hb9 : Below wa8.heap.size wa8 wa9 := (Below.refl _ _).grown hgr9 (Nat.le_refl _) (fun k hk => by simp at hk)
        have hl9 : wa8.heap.size < wa9.heap.size := (hown9.lt _ rfl).2
        have HX9 := Lib.hid (And.intro hown9 (And.intro hb9 hl9))
        clear hown9 hb9 hl9 hgr9
        go_simp
        clear hmk9
        refine hK.out _ _ trivial (fun hHeld => ?_)
        clear hK K
        try simp only [Act.put, List.setIfInBounds_toArray, List.set_cons_zero, List.set_cons_succ]
        refine wpAnyH_take (i := 9) (oi := { dst := some 42, op := .build 28 #[(0, .tmp 33), (1, .tmp 34), (2, .tmp 35), (3, .tmp 39), (4, .tmp 41)], type := 28, pos := "ref.go:22", after := #[{ on := 0, ground := .data }, { on := 1, ground := .data }, { on := 2, ground := .data }, { on := 6, ground := .data }, { on := 8, ground := .data }], guard := none }) (v := ?_) rfl (by kernel_rfl) (by kernel_rfl) (by kernel_rfl) (fun _ _ _ h => h) (Or.inl ⟨by rfl, ?_⟩) trivial ?_
        rotate_left 1
        · intro w hw; go_simp; try (with_reducible rfl)
        simp only [Act.put, List.setIfInBounds_toArray, List.set_cons_zero, List.set_cons_succ]
        refine wpAnyH_ready (rs := [10]) (by kernel_rfl) (by simp) (AllReadyH.cons (o := { dst := some 8, op := .alloc 28, type := 0, pos := "ref.go:22", after := #[], guard := none }) rfl (fun K hK => ?_) AllReadyH.nil)
        go_simp
        have bx10 : BoxAt (wa9.alloc (.cells #[.int .i64 0, .int .i64 0, .int .i64 0, .slice none 0 0, .slice none 0 0, .bool false, .bool false, .int .i64 0, .int .u32 0, .int .i64 0] 28)) wa9.heap.size lZ := BoxAt.mk_new wa9 #[.int .i64 0, .int .i64 0, .int .i64 0, .slice none 0 0, .slice none 0 0, .bool false, .bool false, .int .i64 0, .int .u32 0, .int .i64 0] 28
        have hb10 : Below wa9.heap.size wa9 (wa9.alloc (.cells #[.int .i64 0, .int .i64 0, .int .i64 0, .slice none 0 0, .slice none 0 0, .bool false, .bool false, .int .i64 0, .int .u32 0, .int .i64 0] 28)) := (Below.refl _ wa9).alloc (Nat.le_refl _) (.cells #[.int .i64 0, .int .i64 0, .int .i64 0, .slice none 0 0, .slice none 0 0, .bool false, .bool false, .int .i64 0, .int .u32 0, .int .i64 0] 28)
        generalize hA10 : World.alloc wa9 _ = wa10 at bx10 hb10 ⊢
        have hl10 : wa9.heap.size < wa10.heap.size := bx10.lt
        have HX10 := Lib.hid (And.intro bx10 (And.intro hb10 hl10))
        clear bx10 hb10 hl10 hA10
        refine hK.out _ _ trivial (fun hHeld => ?_)
        clear hK K
        try simp only [Act.put, List.setIfInBounds_toArray, List.set_cons_zero, List.set_cons_succ]
        refine wpAnyH_ready (rs := [11]) (by kernel_rfl) (by simp) (AllReadyH.cons (o := { dst := none, op := .store 28 (.tmp 8) (.tmp 42), type := 0, pos := "ref.go:22", after := #[{ on := 10, ground := .data }, { on := 9, ground := .data }, { on := 0, ground := .phase }, { on := 1, ground := .phase }, { on := 2, ground := .phase }, { on := 3, ground := .phase }, { on := 4, ground := .phase }, { on := 5, ground := .phase }, { on := 6, ground := .phase }, { on := 7, ground := .phase }, { on := 8, ground := .phase }, { on := 9, ground := .phase }, { on := 10, ground := .phase }], guard := none }) rfl (fun K hK => ?_) AllReadyH.nil)
        have bN := HX10.out.1
        have c0 := bN.cell 0 _ rfl; have c1 := bN.cell 1 _ rfl; have c2 := bN.cell 2 _ rfl; have c3 := bN.cell 3 _ rfl; have c4 := bN.cell 4 _ rfl; have c5 := bN.cell 5 _ rfl; have c6 := bN.cell 6 _ rfl; have c7 := bN.cell 7 _ rfl; have c8 := bN.cell 8 _ rfl; have c9 := bN.cell 9 _ rfl
        have f0 := bN.fr 0; have f1 := bN.fr 1; have f2 := bN.fr 2; have f3 := bN.fr 3; have f4 := bN.fr 4; have f5 := bN.fr 5; have f6 := bN.fr 6; have f7 := bN.fr 7; have f8 := bN.fr 8; have f9 := bN.fr 9
        clear bN
        go_simp
        refine hK.out _ _ trivial (fun hHeld => ?_)
        clear hK K
        try simp only [Act.put, List.setIfInBounds_toArray, List.set_cons_zero, List.set_cons_succ]
        clear c0 f0 c1 f1 c2 f2 c3 f3 c4 f4 c5 f5 c6 f6 c7 f7 c8 f8 c9 f9
        refine wpAnyH_done (by kernel_rfl) ?_ _
        go_wp2
        go_meet
        case rel => exact ⟨wa9.heap.size, wa8.heap.size, wI.drew.heap.size, rfl, newR_put HX10.out.1 ((((HI.out.1.keep (Ch.new (T := fun _ => False) (below_dn (Below.refl _ _) 1)) (fun h => h)).new HX8.out.2.1).new HX9.out.2.1).new HX10.out.2.1) (own_below HX9.out.1 HX10.out.2.1 (Nat.le_refl _)) (own_below (own_below HX8.out.1 HX9.out.2.1 (Nat.le_refl _)) HX10.out.2.1 (Nat.le_refl _)) (by have := HX8.out.2.2; have := HX9.out.2.2; have := HX10.out.2.2; have := HI.out.1.lt; have : wI.drew.heap.size = wI.heap.size := rfl; omega) ((((below_dn HI.out.2 1).trans (HX8.out.2.1.mono (HIL.out))).trans (HX9.out.2.1.mono (Nat.le_trans (HIL.out) (Nat.le_of_lt HX8.out.2.2)))).trans (HX10.out.2.1.mono (Nat.le_trans (Nat.le_trans (HIL.out) (Nat.le_of_lt HX8.out.2.2)) (Nat.le_of_lt HX9.out.2.2)))) HM.out⟩
      · go_simp
        have bx12 : BoxAt (wa8.alloc (.cells #[.int .i64 0, .int .i64 0, .int .i64 0, .slice none 0 0, .slice none 0 0, .bool false, .bool false, .int .i64 0, .int .u32 0, .int .i64 0] 28)) wa8.heap.size lZ := BoxAt.mk_new wa8 #[.int .i64 0, .int .i64 0, .int .i64 0, .slice none 0 0, .slice none 0 0, .bool false, .bool false, .int .i64 0, .int .u32 0, .int .i64 0] 28
        have hb12 : Below wa8.heap.size wa8 (wa8.alloc (.cells #[.int .i64 0, .int .i64 0, .int .i64 0, .slice none 0 0, .slice none 0 0, .bool false, .bool false, .int .i64 0, .int .u32 0, .int .i64 0] 28)) := (Below.refl _ wa8).alloc (Nat.le_refl _) (.cells #[.int .i64 0, .int .i64 0, .int .i64 0, .slice none 0 0, .slice none 0 0, .bool false, .bool false, .int .i64 0, .int .u32 0, .int .i64 0] 28)
        generalize hA12 : World.alloc wa8 _ = wa12 at bx12 hb12 ⊢
        have hl12 : wa8.heap.size < wa12.heap.size := bx12.lt
        have HX12 := Lib.hid (And.intro bx12 (And.intro hb12 hl12))
        clear bx12 hb12 hl12 hA12
        refine hK.out _ _ trivial (fun hHeld => ?_)
        clear hK K
        try simp only [Act.put, List.setIfInBounds_toArray, List.set_cons_zero, List.set_cons_succ]
        refine wpAnyH_ready (rs := [6]) (by kernel_rfl) (by simp) (AllReadyH.cons (o := { dst := some 39, op := .makeSlice 24 (.tmp 38) (.tmp 38), type := 24, pos := "ref.go:22", after := #[{ on := 5, ground := .data }, { on := 5, ground := .data }], guard := none }) rfl (fun K hK => ?_) AllReadyH.nil)
        obtain ⟨wa13, hmk13, hown13, hgr13⟩ := run_makeSlice_full (P := Try.prog) (w := wa12) wa12.heap.size 24 26 i0 (.int .u32 0) 1 Try.underlying24 hi hz0 hz1 .i64 .i64 M (by have := HZ.out; omega) (by rw [hz2]; have := HZ.out; omega) (by have := HZ.out; unfold maxLen; omega) (Nat.le_refl _)
        have hb13 : Below wa12.heap.size wa12 wa13 := (Below.refl _ _).grown hgr13 (Nat.le_refl _) (fun k hk => by simp at hk)
        have hl13 : wa12.heap.size < wa13.heap.size := (hown13.lt _ rfl).2
        have HX13 := Lib.hid (And.intro hown13 (And.intro hb13 hl13))
        clear hown13 hb13 hl13 hgr13
        go_simp
        clear hmk13
        refine hK.out _ _ trivial (fun hHeld => ?_)
        clear hK K
        try simp only [Act.put, List.setIfInBounds_toArray, List.set_cons_zero, List.set_cons_succ]
        refine wpAnyH_take (i := 9) (oi := { dst := some 42, op := .build 28 #[(0, .tmp 33), (1, .tmp 34), (2, .tmp 35), (3, .tmp 39), (4, .tmp 41)], type := 28, pos := "ref.go:22", after := #[{ on := 0, ground := .data }, { on := 1, ground := .data }, { on := 2, ground := .data }, { on := 6, ground := .data }, { on := 8, ground := .data }], guard := none }) (v := ?_) rfl (by kernel_rfl) (by kernel_rfl) (by kernel_rfl) (fun _ _ _ h => h) (Or.inl ⟨by rfl, ?_⟩) trivial ?_
        rotate_left 1
        · intro w hw; go_simp; try (with_reducible rfl)
        simp only [Act.put, List.setIfInBounds_toArray, List.set_cons_zero, List.set_cons_succ]
        refine wpAnyH_ready (rs := [11]) (by kernel_rfl) (by simp) (AllReadyH.cons (o := { dst := none, op := .store 28 (.tmp 8) (.tmp 42), type := 0, pos := "ref.go:22", after := #[{ on := 10, ground := .data }, { on := 9, ground := .data }, { on := 0, ground := .phase }, { on := 1, ground := .phase }, { on := 2, ground := .phase }, { on := 3, ground := .phase }, { on := 4, ground := .phase }, { on := 5, ground := .phase }, { on := 6, ground := .phase }, { on := 7, ground := .phase }, { on := 8, ground := .phase }, { on := 9, ground := .phase }, { on := 10, ground := .phase }], guard := none }) rfl (fun K hK => ?_) AllReadyH.nil)
        have bN := (HX12.out.1.new HX13.out.2.1)
        have c0 := bN.cell 0 _ rfl; have c1 := bN.cell 1 _ rfl; have c2 := bN.cell 2 _ rfl; have c3 := bN.cell 3 _ rfl; have c4 := bN.cell 4 _ rfl; have c5 := bN.cell 5 _ rfl; have c6 := bN.cell 6 _ rfl; have c7 := bN.cell 7 _ rfl; have c8 := bN.cell 8 _ rfl; have c9 := bN.cell 9 _ rfl
        have f0 := bN.fr 0; have f1 := bN.fr 1; have f2 := bN.fr 2; have f3 := bN.fr 3; have f4 := bN.fr 4; have f5 := bN.fr 5; have f6 := bN.fr 6; have f7 := bN.fr 7; have f8 := bN.fr 8; have f9 := bN.fr 9
        clear bN
        go_simp
        refine hK.out _ _ trivial (fun hHeld => ?_)
        clear hK K
        try simp only [Act.put, List.setIfInBounds_toArray, List.set_cons_zero, List.set_cons_succ]
        clear c0 f0 c1 f1 c2 f2 c3 f3 c4 f4 c5 f5 c6 f6 c7 f7 c8 f8 c9 f9
        refine wpAnyH_done (by kernel_rfl) ?_ _
        go_wp2
        go_meet
        case rel => exact ⟨wa8.heap.size, wa12.heap.size, wI.drew.heap.size, rfl, newR_put (HX12.out.1.new HX13.out.2.1) ((((HI.out.1.keep (Ch.new (T := fun _ => False) (below_dn (Below.refl _ _) 1)) (fun h => h)).new HX8.out.2.1).new HX12.out.2.1).new HX13.out.2.1) HX13.out.1 (own_below (own_below HX8.out.1 HX12.out.2.1 (Nat.le_refl _)) HX13.out.2.1 (Nat.le_refl _)) (by have := HX8.out.2.2; have := HX12.out.2.2; have := HX13.out.2.2; have := HI.out.1.lt; have : wI.drew.heap.size = wI.heap.size := rfl; omega) ((((below_dn HI.out.2 1).trans (HX8.out.2.1.mono (HIL.out))).trans (HX12.out.2.1.mono (Nat.le_trans (HIL.out) (Nat.le_of_lt HX8.out.2.2)))).trans (HX13.out.2.1.mono (Nat.le_trans (Nat.le_trans (HIL.out) (Nat.le_of_lt HX8.out.2.2)) (Nat.le_of_lt HX12.out.2.2)))) HM.out⟩
    · go_simp
      have bx15 : BoxAt ((wI.alloc (.cells #[.int .i64 0, .int .i64 0, .int .i64 0, .slice none 0 0, .slice none 0 0, .bool false, .bool false, .int .i64 0, .int .u32 0, .int .i64 0] 28)).drew) wI.heap.size lZ := BoxAt.mk_new wI.drew #[.int .i64 0, .int .i64 0, .int .i64 0, .slice none 0 0, .slice none 0 0, .bool false, .bool false, .int .i64 0, .int .u32 0, .int .i64 0] 28
      have hb15 : Below wI.drew.heap.size wI.drew ((wI.alloc (.cells #[.int .i64 0, .int .i64 0, .int .i64 0, .slice none 0 0, .slice none 0 0, .bool false, .bool false, .int .i64 0, .int .u32 0, .int .i64 0] 28)).drew) := (Below.refl _ wI.drew).alloc (Nat.le_refl _) (.cells #[.int .i64 0, .int .i64 0, .int .i64 0, .slice none 0 0, .slice none 0 0, .bool false, .bool false, .int .i64 0, .int .u32 0, .int .i64 0] 28)
      generalize hA15 : World.drew (World.alloc wI _) = wa15 at bx15 hb15 ⊢
      have hl15 : wI.drew.heap.size < wa15.heap.size := bx15.lt
      have HX15 := Lib.hid (And.intro bx15 (And.intro hb15 hl15))
      clear bx15 hb15 hl15 hA15
      refine hK.out _ _ trivial (fun hHeld => ?_)
      clear hK K
      try simp only [Act.put, List.setIfInBounds_toArray, List.set_cons_zero, List.set_cons_succ]
      refine wpAnyH_ready (rs := [6, 8]) (by kernel_rfl) (by simp) (AllReadyH.cons (o := { dst := some 39, op := .makeSlice 24 (.tmp 38) (.tmp 38), type := 24, pos := "ref.go:22", after := #[{ on := 5, ground := .data }, { on := 5, ground := .data }], guard := none }) rfl (fun K hK => ?_) (AllReadyH.cons (o := { dst := some 41, op := .makeSlice 25 (.tmp 40) (.tmp 40), type := 25, pos := "ref.go:22", after := #[{ on := 7, ground := .data }, { on := 7, ground := .data }], guard := none }) rfl (fun K hK => ?_) AllReadyH.nil))
      · obtain ⟨wa16, hmk16, hown16, hgr16⟩ := run_makeSlice_full (P := Try.prog) (w := wa15) wa15.heap.size 24 26 i0 (.int .u32 0) 1 Try.underlying24 hi hz0 hz1 .i64 .i64 M (by have := HZ.out; omega) (by rw [hz2]; have := HZ.out; omega) (by have := HZ.out; unfold maxLen; omega) (Nat.le_refl _)
        have hb16 : Below wa15.heap.size wa15 wa16 := (Below.refl _ _).grown hgr16 (Nat.le_refl _) (fun k hk => by simp at hk)
        have hl16 : wa15.heap.size < wa16.heap.size := (hown16.lt _ rfl).2
        have HX16 := Lib.hid (And.intro hown16 (And.intro hb16 hl16))
        clear hown16 hb16 hl16 hgr16
        go_simp
        clear hmk16
        refine hK.out _ _ trivial (fun hHeld => ?_)
        clear hK K
        try simp only [Act.put, List.setIfInBounds_toArray, List.set_cons_zero, List.set_cons_succ]
        refine wpAnyH_ready (rs := [8]) (by kernel_rfl) (by simp) (AllReadyH.cons (o := { dst := some 41, op := .makeSlice 25 (.tmp 40) (.tmp 40), type := 25, pos := "ref.go:22", after := #[{ on := 7, ground := .data }, { on := 7, ground := .data }], guard := none }) rfl (fun K hK => ?_) AllReadyH.nil)
        obtain ⟨wa17, hmk17, hown17, hgr17⟩ := run_makeSlice_full (P := Try.prog) (w := wa16) wa16.heap.size 25 3 j0 (.int .i64 0) 1 Try.underlying25 hj ha0 ha1 .i64 .i64 ns (by have := HZ.out; omega) (by rw [ha2]; have := HZ.out; omega) (by have := HZ.out; unfold maxLen; omega) (Nat.le_refl _)
        have hb17 : Below wa16.heap.size wa16 wa17 := (Below.refl _ _).grown hgr17 (Nat.le_refl _) (fun k hk => by simp at hk)
        have hl17 : wa16.heap.size < wa17.heap.size := (hown17.lt _ rfl).2
        have HX17 := Lib.hid (And.intro hown17 (And.intro hb17 hl17))
        clear hown17 hb17 hl17 hgr17
        go_simp
        clear hmk17
        refine hK.out _ _ trivial (fun hHeld => ?_)
        clear hK K
        try simp only [Act.put, List.setIfInBounds_toArray, List.set_cons_zero, List.set_cons_succ]
        refine wpAnyH_take (i := 9) (oi := { dst := some 42, op := .build 28 #[(0, .tmp 33), (1, .tmp 34), (2, .tmp 35), (3, .tmp 39), (4, .tmp 41)], type := 28, pos := "ref.go:22", after := #[{ on := 0, ground := .data }, { on := 1, ground := .data }, { on := 2, ground := .data }, { on := 6, ground := .data }, { on := 8, ground := .data }], guard := none }) (v := ?_) rfl (by kernel_rfl) (by kernel_rfl) (by kernel_rfl) (fun _ _ _ h => h) (Or.inl ⟨by rfl, ?_⟩) trivial ?_
        rotate_left 1
        · intro w hw; go_simp; try (with_reducible rfl)
        simp only [Act.put, List.setIfInBounds_toArray, List.set_cons_zero, List.set_cons_succ]
        refine wpAnyH_ready (rs := [11]) (by kernel_rfl) (by simp) (AllReadyH.cons (o := { dst := none, op := .store 28 (.tmp 8) (.tmp 42), type := 0, pos := "ref.go:22", after := #[{ on := 10, ground := .data }, { on := 9, ground := .data }, { on := 0, ground := .phase }, { on := 1, ground := .phase }, { on := 2, ground := .phase }, { on := 3, ground := .phase }, { on := 4, ground := .phase }, { on := 5, ground := .phase }, { on := 6, ground := .phase }, { on := 7, ground := .phase }, { on := 8, ground := .phase }, { on := 9, ground := .phase }, { on := 10, ground := .phase }], guard := none }) rfl (fun K hK => ?_) AllReadyH.nil)
        have bN := ((HX15.out.1.new HX16.out.2.1).new HX17.out.2.1)
        have c0 := bN.cell 0 _ rfl; have c1 := bN.cell 1 _ rfl; have c2 := bN.cell 2 _ rfl; have c3 := bN.cell 3 _ rfl; have c4 := bN.cell 4 _ rfl; have c5 := bN.cell 5 _ rfl; have c6 := bN.cell 6 _ rfl; have c7 := bN.cell 7 _ rfl; have c8 := bN.cell 8 _ rfl; have c9 := bN.cell 9 _ rfl
        have f0 := bN.fr 0; have f1 := bN.fr 1; have f2 := bN.fr 2; have f3 := bN.fr 3; have f4 := bN.fr 4; have f5 := bN.fr 5; have f6 := bN.fr 6; have f7 := bN.fr 7; have f8 := bN.fr 8; have f9 := bN.fr 9
        clear bN
        go_simp
        refine hK.out _ _ trivial (fun hHeld => ?_)
        clear hK K
        try simp only [Act.put, List.setIfInBounds_toArray, List.set_cons_zero, List.set_cons_succ]
        clear c0 f0 c1 f1 c2 f2 c3 f3 c4 f4 c5 f5 c6 f6 c7 f7 c8 f8 c9 f9
        refine wpAnyH_done (by kernel_rfl) ?_ _
        go_wp2
        go_meet
        case rel => exact ⟨wI.drew.heap.size, wa15.heap.size, wa16.heap.size, rfl, newR_put ((HX15.out.1.new HX16.out.2.1).new HX17.out.2.1) ((((HI.out.1.keep (Ch.new (T := fun _ => False) (below_dn (Below.refl _ _) 1)) (fun h => h)).new HX15.out.2.1).new HX16.out.2.1).new HX17.out.2.1) (own_below HX16.out.1 HX17.out.2.1 (Nat.le_refl _)) HX17.out.1 (by have := HX15.out.2.2; have := HX16.out.2.2; have := HX17.out.2.2; have := HI.out.1.lt; have : wI.drew.heap.size = wI.heap.size := rfl; omega) ((((below_dn HI.out.2 1).trans (HX15.out.2.1.mono (HIL.out))).trans (HX16.out.2.1.mono (Nat.le_trans (HIL.out) (Nat.le_of_lt HX15.out.2.2)))).trans (HX17.out.2.1.mono (Nat.le_trans (Nat.le_trans (HIL.out) (Nat.le_of_lt HX15.out.2.2)) (Nat.le_of_lt HX16.out.2.2)))) HM.out⟩
      · obtain ⟨wa19, hmk19, hown19, hgr19⟩ := run_makeSlice_full (P := Try.prog) (w := wa15) wa15.heap.size 25 3 j0 (.int .i64 0) 1 Try.underlying25 hj ha0 ha1 .i64 .i64 ns (by have := HZ.out; omega) (by rw [ha2]; have := HZ.out; omega) (by have := HZ.out; unfold maxLen; omega) (Nat.le_refl _)
        have hb19 : Below wa15.heap.size wa15 wa19 := (Below.refl _ _).grown hgr19 (Nat.le_refl _) (fun k hk => by simp at hk)
        have hl19 : wa15.heap.size < wa19.heap.size := (hown19.lt _ rfl).2
        have HX19 := Lib.hid (And.intro hown19 (And.intro hb19 hl19))
        clear hown19 hb19 hl19 hgr19
        go_simp
        clear hmk19
        refine hK.out _ _ trivial (fun hHeld => ?_)
        clear hK K
        try simp only [Act.put, List.setIfInBounds_toArray, List.set_cons_zero, List.set_cons_succ]
        refine wpAnyH_ready (rs := [6]) (by kernel_rfl) (by simp) (AllReadyH.cons (o := { dst := some 39, op := .makeSlice 24 (.tmp 38) (.tmp 38), type := 24, pos := "ref.go:22", after := #[{ on := 5, ground := .data }, { on := 5, ground := .data }], guard := none }) rfl (fun K hK => ?_) AllReadyH.nil)
        obtain ⟨wa20, hmk20, hown20, hgr20⟩ := run_makeSlice_full (P := Try.prog) (w := wa19) wa19.heap.size 24 26 i0 (.int .u32 0) 1 Try.underlying24 hi hz0 hz1 .i64 .i64 M (by have := HZ.out; omega) (by rw [hz2]; have := HZ.out; omega) (by have := HZ.out; unfold maxLen; omega) (Nat.le_refl _)
        have hb20 : Below wa19.heap.size wa19 wa20 := (Below.refl _ _).grown hgr20 (Nat.le_refl _) (fun k hk => by simp at hk)
        have hl20 : wa19.heap.size < wa20.heap.size := (hown20.lt _ rfl).2
        have HX20 := Lib.hid (And.intro hown20 (And.intro hb20 hl20))
        clear hown20 hb20 hl20 hgr20
        go_simp
        clear hmk20
        refine hK.out _ _ trivial (fun hHeld => ?_)
        clear hK K
        try simp only [Act.put, List.setIfInBounds_toArray, List.set_cons_zero, List.set_cons_succ]
        refine wpAnyH_take (i := 9) (oi := { dst := some 42, op := .build 28 #[(0, .tmp 33), (1, .tmp 34), (2, .tmp 35), (3, .tmp 39), (4, .tmp 41)], type := 28, pos := "ref.go:22", after := #[{ on := 0, ground := .data }, { on := 1, ground := .data }, { on := 2, ground := .data }, { on := 6, ground := .data }, { on := 8, ground := .data }], guard := none }) (v := ?_) rfl (by kernel_rfl) (by kernel_rfl) (by kernel_rfl) (fun _ _ _ h => h) (Or.inl ⟨by rfl, ?_⟩) trivial ?_
        rotate_left 1
        · intro w hw; go_simp; try (with_reducible rfl)
        simp only [Act.put, List.setIfInBounds_toArray, List.set_cons_zero, List.set_cons_succ]
        refine wpAnyH_ready (rs := [11]) (by kernel_rfl) (by simp) (AllReadyH.cons (o := { dst := none, op := .store 28 (.tmp 8) (.tmp 42), type := 0, pos := "ref.go:22", after := #[{ on := 10, ground := .data }, { on := 9, ground := .data }, { on := 0, ground := .phase }, { on := 1, ground := .phase }, { on := 2, ground := .phase }, { on := 3, ground := .phase }, { on := 4, ground := .phase }, { on := 5, ground := .phase }, { on := 6, ground := .phase }, { on := 7, ground := .phase }, { on := 8, ground := .phase }, { on := 9, ground := .phase }, { on := 10, ground := .phase }], guard := none }) rfl (fun K hK => ?_) AllReadyH.nil)
        have bN := ((HX15.out.1.new HX19.out.2.1).new HX20.out.2.1)
        have c0 := bN.cell 0 _ rfl; have c1 := bN.cell 1 _ rfl; have c2 := bN.cell 2 _ rfl; have c3 := bN.cell 3 _ rfl; have c4 := bN.cell 4 _ rfl; have c5 := bN.cell 5 _ rfl; have c6 := bN.cell 6 _ rfl; have c7 := bN.cell 7 _ rfl; have c8 := bN.cell 8 _ rfl; have c9 := bN.cell 9 _ rfl
        have f0 := bN.fr 0; have f1 := bN.fr 1; have f2 := bN.fr 2; have f3 := bN.fr 3; have f4 := bN.fr 4; have f5 := bN.fr 5; have f6 := bN.fr 6; have f7 := bN.fr 7; have f8 := bN.fr 8; have f9 := bN.fr 9
        clear bN
        go_simp
        refine hK.out _ _ trivial (fun hHeld => ?_)
        clear hK K
        try simp only [Act.put, List.setIfInBounds_toArray, List.set_cons_zero, List.set_cons_succ]
        clear c0 f0 c1 f1 c2 f2 c3 f3 c4 f4 c5 f5 c6 f6 c7 f7 c8 f8 c9 f9
        refine wpAnyH_done (by kernel_rfl) ?_ _
        go_wp2
        go_meet
        case rel => exact ⟨wI.drew.heap.size, wa19.heap.size, wa15.heap.size, rfl, newR_put ((HX15.out.1.new HX19.out.2.1).new HX20.out.2.1) ((((HI.out.1.keep (Ch.new (T := fun _ => False) (below_dn (Below.refl _ _) 1)) (fun h => h)).new HX15.out.2.1).new HX19.out.2.1).new HX20.out.2.1) HX20.out.1 (own_below HX19.out.1 HX20.out.2.1 (Nat.le_refl _)) (by have := HX15.out.2.2; have := HX19.out.2.2; have := HX20.out.2.2; have := HI.out.1.lt; have : wI.drew.heap.size = wI.heap.size := rfl; omega) ((((below_dn HI.out.2 1).trans (HX15.out.2.1.mono (HIL.out))).trans (HX19.out.2.1.mono (Nat.le_trans (HIL.out) (Nat.le_of_lt HX15.out.2.2)))).trans (HX20.out.2.1.mono (Nat.le_trans (Nat.le_trans (HIL.out) (Nat.le_of_lt HX15.out.2.2)) (Nat.le_of_lt HX19.out.2.2)))) HM.out⟩
  case rest =>
    obtain ⟨N, bL, bW, rfl, HN0⟩ := hcut
    have c3 := HN0.out.x.cell 3 _ rfl
    rw [HM.out] at c3
    go_wp2
    go_loopg [9] M (fun gg v wr => ∃ k : Nat, k + gg = M ∧ v = .int .i64 k ∧ Aside (NewR w wr N bL bW ns nw lim k))
    case atStart => exact ⟨0, by omega, rfl, HN0.out⟩
    case round =>
      obtain ⟨k, hkg, rfl, HR⟩ := hrel
      have hx := HR.out.x
      clear c3
      cases gk with
      | zero =>
        obtain rfl : k = M := by omega
        have hy := HR.out.y
        rw [hB] at hy
        have HRr := Lib.hid (by have h := HR.out; rw [← HM.out] at h; exact h.ref (by have := HZ.out; omega) : RefIn wr bL bW (Dev.fresh ns nw lim))
        have HRb := Lib.hid (And.intro HR.out.b HR.out.ne)
        rw [HM.out] at hx
        have c0 := hx.cell 0 _ rfl; have c1 := hx.cell 1 _ rfl; have c2 := hx.cell 2 _ rfl; have c3 := hx.cell 3 _ rfl; have c4 := hx.cell 4 _ rfl; have c5 := hx.cell 5 _ rfl; have c6 := hx.cell 6 _ rfl; have c7 := hx.cell 7 _ rfl; have c8 := hx.cell 8 _ rfl; have c9 := hx.cell 9 _ rfl; have d0 := hy.cell 0 _ rfl; have d1 := hy.cell 1 _ rfl; have d2 := hy.cell 2 _ rfl; have d3 := hy.cell 3 _ rfl; have d4 := hy.cell 4 _ rfl; have d5 := hy.cell 5 _ rfl; have d6 := hy.cell 6 _ rfl; have d7 := hy.cell 7 _ rfl; have d8 := hy.cell 8 _ rfl; have d9 := hy.cell 9 _ rfl; have e0 := hy.fr 0; have e1 := hy.fr 1; have e2 := hy.fr 2; have e3 := hy.fr 3; have e4 := hy.fr 4; have e5 := hy.fr 5; have e6 := hy.fr 6; have e7 := hy.fr 7; have e8 := hy.fr 8; have e9 := hy.fr 9
        clear hx hy HR
        have n1 : ¬ N = B := by have := HRb.out.2; omega
        have n2 : ¬ B = N := by have := HRb.out.2; omega
        go_wp2
        have hne := HRb.out.2
        rw [hB] at hne
        refine ⟨rfl, .tuple #[refX bL k bW ns (Dev.fresh ns nw lim), .int .i64 0], ?_, bL, k, bW, ns, rfl, ?_, by omega, by omega, by have := HM.out; omega, ?_⟩
        · have hM2 := HM.out
          simp [results, Try.results8, go_sem, *, refV, Dev.fresh]
          rfl
        · refine HRr.out.keep (T := fun j => j = B) ?_ (by omega) (by omega)
          repeat' (first | (with_reducible exact Ch.refl _ _) | refine Ch.setCell ?_ _ _ ?_)
          all_goals exact .inl rfl
        · have hb := HRb.out.1
          repeat' (first | (with_reducible exact hb) | refine Below.setCell ?_ ?_ _)
          all_goals exact Nat.le_of_eq hB
      | succ g1 =>
        have hk : k < M := by omega
        have c3 := hx.cell 3 _ rfl
        rw [HM.out] at c3
        have q1 := HR.out.cl k (by rw [HM.out]; exact hk)
        rw [if_neg (Nat.lt_irrefl k)] at q1
        have q2 := HR.out.fl k
        have k0 : (0 : Int) ≤ (k : Int) := by omega
        have k1 : (k : Int) < (M : Int) := by omega
        have HK := Lib.hid hk
        have hz := HZ.out
        clear hx
        go_wp2
        go_roundg g1
        case measure => omega
        case rel => exact ⟨k + 1, by omega, by go_num, HR.out.succ (by rw [HM.out]; exact HK.out)⟩
end Go.Proofs.Ythpagbfabpfngaa
