/- The walk of ClassEdges. -/
import Derived.Test.YtomdcmdgcnhnmaaIC
namespace Go.Proofs.Ytomdcmdgcnhnmaa
open Go.RowKit

theorem noneC (a b : BitVec 32) (h1 : a = 0#32) (h2 : b = 0#32) : w32 (a &&& ~~~b) = 0 ∧ w32 (b &&& ~~~a) = 0 ∧ w32 (a &&& b) = 0 := by subst h1 h2; decide
theorem tasksM_cases {w : World} {V : Nat → Prop} {x : Img} {S : ImgS} (h : ImgAt w V x S) {nM : Nat} (hM : x.modes.length = nM) {sM : Option Addr} (hs : S.m.sp = sM) {f v : Int} (hv : w32 (tasksM x f) = v) :
    (∃ k : Nat, f = (k : Int) ∧ (k : Int) < (nM : Int) ∧ w.cell? ⟨S.m.b, S.m.o + k * 2, none⟩ = some (.int .u32 v) ∧ sM = some ⟨S.m.b, S.m.o, none⟩) ∨ (f < 0 ∧ v = 0) ∨ (0 ≤ f ∧ ¬ f < (nM : Int) ∧ v = 0) := by
  subst hM hs
  by_cases h0 : 0 ≤ f
  · by_cases h1 : f < (x.modes.length : Int)
    · obtain ⟨k, rfl⟩ := Int.eq_ofNat_of_zero_le h0
      left
      refine ⟨k, rfl, h1, ?_, (h.sm.at_ (by omega)).1⟩
      have : tasksM x (k : Int) = (x.m k).tasks := by unfold tasksM; rw [if_pos ⟨h0, h1⟩, Int.toNat_natCast]
      rw [← hv, this]
      exact (h.md k (by omega)).1
    · right; right
      exact ⟨h0, h1, by rw [← hv]; unfold tasksM; rw [if_neg (fun h => h1 h.2)]; rfl⟩
  · right; left
    exact ⟨by omega, by rw [← hv]; unfold tasksM; rw [if_neg (fun h => h0 h.1)]; rfl⟩
set_option maxHeartbeats 8000000 in
set_option maxRecDepth 100000 in
theorem law_edges {w : World} {V : Nat → Prop} {x : Img} {S : ImgS} (h : ImgAt w V x S) (i : Int) :
    Calls Try.prog 7 #[.agg #[.int .i64 x.res, .slice S.t.sp x.tasks.length S.t.c, .slice S.m.sp x.modes.length S.m.c, .slice S.e.sp x.edges.length S.e.c], .int .i64 i] w fun e w' => e = .returned (.bool true) ∧ Below w.heap.size w w' := by
  have HG := Lib.hid (show ∀ wx, Below w.heap.size w wx → _ from fun wx hb => great10_any (h.new hb))
  have HE := Lib.hid (show ∀ wx, Below w.heap.size w wx → _ from fun wx hb => clsEdge_any (h.new hb) i)
  have HI := Lib.hid h
  obtain ⟨nT, hnT⟩ : ∃ n, x.tasks.length = n := ⟨_, rfl⟩
  obtain ⟨nM, hnM⟩ : ∃ n, x.modes.length = n := ⟨_, rfl⟩
  obtain ⟨nE, hnE⟩ : ∃ n, x.edges.length = n := ⟨_, rfl⟩
  have HN := Lib.hid (And.intro hnM hnE)
  rw [hnT, hnM, hnE] at HG HE ⊢
  obtain ⟨Z, hZ⟩ : ∃ Z, Z = w.heap.size := ⟨_, rfl⟩
  have HZ := Lib.hid hZ
  clear h hnT hnM hnE
  go_enter Try.func7, Try.ntmps7
  go_upto_region 1 with fail
  rw [← hZ]
  generalize hw2 : World.alloc _ _ = w2
  have H2 := Lib.hid (show Below w.heap.size w w2 ∧ RowAt w2 Z 26 #[.int .i64 x.res, .slice S.t.sp nT S.t.c, .slice S.m.sp nM S.m.c, .slice S.e.sp nE S.e.c] by
    rw [← hw2, hZ]
    exact ⟨(Below.refl _ _).alloc (Nat.le_refl _) _, RowAt.mk _ _ _⟩)
  clear hw2 hZ
  have c0 : w2.cell? ⟨Z, 0, none⟩ = some (.int .i64 x.res) := H2.out.2.cell 0
  have c1 : w2.cell? ⟨Z, 1, none⟩ = some (.slice S.t.sp nT S.t.c) := H2.out.2.cell 1
  have c2 : w2.cell? ⟨Z, 2, none⟩ = some (.slice S.m.sp nM S.m.c) := H2.out.2.cell 2
  have c3 : w2.cell? ⟨Z, 3, none⟩ = some (.slice S.e.sp nE S.e.c) := H2.out.2.cell 3
  cases hg : greatI x
  case true =>
    rw [hg] at HG
    clear hg
    go_wp2_with (go_at_call 10; refine (HG.out _ H2.out.1).mono ?_; rintro e w3 ⟨rfl, b3⟩; have H3 := Lib.hid (H2.out.1.trans (b3.mono H2.out.1.size)); clear b3)
    go_ret
    exact ⟨rfl, H3.out⟩
  rw [hg] at HG
  clear hg
  obtain ⟨A, hA⟩ : ∃ A, edgeA x i = A := ⟨_, rfl⟩
  obtain ⟨B, hB⟩ : ∃ B, edgeB x i = B := ⟨_, rfl⟩
  rw [hA, hB] at HE
  have HAB := Lib.hid (And.intro hA hB)
  clear hA hB
  go_upto_region 4 with (first
    | (go_at_call 10; refine (HG.out _ H2.out.1).mono ?_; rintro e w3 ⟨rfl, b3⟩; have H3 := Lib.hid (And.intro (H2.out.1.trans (b3.mono H2.out.1.size)) (H2.out.2.new b3)); clear b3 c0 c1 c2 c3; have c0 : w3.cell? ⟨Z, 0, none⟩ = some (.int .i64 x.res) := H3.out.2.cell 0; have c1 : w3.cell? ⟨Z, 1, none⟩ = some (.slice S.t.sp nT S.t.c) := H3.out.2.cell 1; have c2 : w3.cell? ⟨Z, 2, none⟩ = some (.slice S.m.sp nM S.m.c) := H3.out.2.cell 2; have c3 : w3.cell? ⟨Z, 3, none⟩ = some (.slice S.e.sp nE S.e.c) := H3.out.2.cell 3)
    | (go_at_call 29; refine (HE.out _ H3.out.1).mono ?_; rintro e w4 ⟨rfl, b4⟩; have H4 := Lib.hid (And.intro (H3.out.1.trans (b4.mono H3.out.1.size)) (H3.out.2.new b4)); clear b4 c0 c1 c2 c3)
    | fail)
  obtain ⟨C, hC⟩ : ∃ C, C = w4.heap.size := ⟨_, rfl⟩
  rw [← hC]
  generalize hw5 : World.alloc _ _ = w5
  have H5 := Lib.hid (show Below w.heap.size w w5 ∧ RowAt w5 Z 26 #[.int .i64 x.res, .slice S.t.sp nT S.t.c, .slice S.m.sp nM S.m.c, .slice S.e.sp nE S.e.c] ∧ RowAt w5 C 61 #[.int .u32 (w32 (A &&& ~~~B)), .int .u32 (w32 (B &&& ~~~A)), .int .u32 (w32 (A &&& B))] by
    rw [← hw5, hC]
    exact ⟨H4.out.1.alloc H4.out.1.size _, H4.out.2.new ((Below.refl _ _).alloc (Nat.le_refl _) _), RowAt.mk _ _ _⟩)
  clear hw5 hC H2 H3 H4 HG HE
  have c2 : w5.cell? ⟨Z, 2, none⟩ = some (.slice S.m.sp nM S.m.c) := H5.out.2.1.cell 2
  have c3 : w5.cell? ⟨Z, 3, none⟩ = some (.slice S.e.sp nE S.e.c) := H5.out.2.1.cell 3
  have HAl := Lib.hid (fun wx => l14alive_any wx)
  by_cases hi : 0 ≤ i ∧ i < (nE : Int)
  case neg =>
    have hz := noneC A B (by rw [← HAB.out.1]; unfold edgeA; rw [HN.out.2, if_neg hi]) (by rw [← HAB.out.2]; unfold edgeB; rw [HN.out.2, if_neg hi])
    have d0 : w5.cell? ⟨C, 0, none⟩ = some (.int .u32 0) := by rw [← hz.1]; exact H5.out.2.2.cell 0
    have d1 : w5.cell? ⟨C, 1, none⟩ = some (.int .u32 0) := by rw [← hz.2.1]; exact H5.out.2.2.cell 1
    have d2 : w5.cell? ⟨C, 2, none⟩ = some (.int .u32 0) := by rw [← hz.2.2]; exact H5.out.2.2.cell 2
    have HW := Lib.hid H5.out.1
    clear hz H5
    by_cases h0 : i < 0
    · clear hi
      go_wp2_with (go_at_call 28; refine (HAl.out _).mono ?_; rintro e w6 ⟨rfl, b6⟩; have H6 := Lib.hid (HW.out.trans (b6.mono HW.out.size)); clear b6)
      go_ret
      exact ⟨rfl, H6.out⟩
    · have h1 : ¬ i < (nE : Int) := fun h1 => hi ⟨by omega, h1⟩
      clear hi
      go_wp2_with (go_at_call 28; refine (HAl.out _).mono ?_; rintro e w6 ⟨rfl, b6⟩; have H6 := Lib.hid (HW.out.trans (b6.mono HW.out.size)); clear b6)
      go_ret
      exact ⟨rfl, H6.out⟩
  obtain ⟨k, rfl⟩ := Int.eq_ofNat_of_zero_le hi.1
  have hk : k < x.edges.length := by rw [HN.out.2]; omega
  have hA : A = tasksM x (x.e k).frm := by rw [← HAB.out.1]; unfold edgeA; rw [HN.out.2, if_pos hi, Int.toNat_natCast]
  have hB : B = tasksM x (x.e k).dst := by rw [← HAB.out.2]; unfold edgeB; rw [HN.out.2, if_pos hi, Int.toNat_natCast]
  have HI5 := Lib.hid (HI.out.new H5.out.1)
  obtain ⟨hcs, hl1, hl2⟩ := HI5.out.ed k hk
  have hlen := edgeC_len hl1 hl2
  have hone := edgeC_one (x.e k)
  obtain ⟨hsp, hbl, -⟩ := HI5.out.se.at_ (by omega)
  rw [hsp] at c3
  have h0 : (edgeC (x.e k))[0]? = some (.int .i64 (x.e k).frm) := rfl
  have h1 : (edgeC (x.e k))[1]? = some (.int .i64 (x.e k).dst) := rfl
  obtain ⟨f, hf⟩ : ∃ f, (x.e k).frm = f := ⟨_, rfl⟩
  obtain ⟨t, ht⟩ : ∃ t, (x.e k).dst = t := ⟨_, rfl⟩
  obtain ⟨cs, hcc⟩ : ∃ cs, edgeC (x.e k) = cs := ⟨_, rfl⟩
  rw [hf] at hA h0
  rw [ht] at hB h1
  rw [hcc] at hcs hlen hone h0 h1
  have HAt := Lib.hid hcs
  have HSz := Lib.hid (show cs.toArray.size = 23 ∧ cs.toArray.all (·.oneCell') = true ∧ cs.length = 23 ∧ cs.toArray[0]? = some (.int .i64 f) ∧ cs.toArray[1]? = some (.int .i64 t) from ⟨by simpa using hlen, by simpa using hone, hlen, by simpa using h0, by simpa using h1⟩)
  have HAA := Lib.hid (And.intro hA hB)
  have hk2 : (k : Int) < (nE : Int) := hi.2
  clear hcs hl1 hl2 hlen hone hbl h0 h1 hf ht hcc hA hB hi hsp hk HAB
  go_upto_region 7 with fail
  go_upto_region 8 with (first
    | (refine wpList_load_mid rfl 45 (.tmp 32) rfl S.e.b (S.e.o + k * 23) rfl cs _ HAt.out Try.underlying45 rfl (by rw [HSz.out.2.2.1]; kernel_rfl) ?_)
    | (refine wpList_store_row rfl 45 (.tmp 8) (.tmp 33) rfl w5.heap.size cs.toArray (by rfl) (by rfl) 45 _ (heap_alloc_new w5 _) (by rw [HSz.out.1]; kernel_rfl) (by rw [HSz.out.1]; rfl) HSz.out.2.1 ?_; generalize hw6 : World.setRow _ _ _ = w6)
    | fail)
  have H6 := Lib.hid (show Below w.heap.size w w6 ∧ RowAt w6 Z 26 #[.int .i64 x.res, .slice S.t.sp nT S.t.c, .slice S.m.sp nM S.m.c, .slice S.e.sp nE S.e.c] ∧ RowAt w6 C 61 #[.int .u32 (w32 (A &&& ~~~B)), .int .u32 (w32 (B &&& ~~~A)), .int .u32 (w32 (A &&& B))] ∧ w6.cell? ⟨w5.heap.size, 0, none⟩ = some (.int .i64 f) ∧ w6.cell? ⟨w5.heap.size, 1, none⟩ = some (.int .i64 t) by
    rw [← hw6]
    obtain ⟨hb, hr⟩ := alloc_row w5 #[.int .i64 0, .int .i64 0, .int .i64 0, .int .i64 0, .int .i64 0, .int .i64 0, .int .i64 0, .int .i64 0, .int .i64 0, .int .i64 0, .int .i64 0, .int .i64 0, .int .i64 0, .int .i64 0, .int .i64 0, .int .i64 0, .int .i64 0, .int .i64 0, .int .i64 0, .int .i64 0, .int .i64 0, .int .i64 0, .int .i64 0] cs.toArray 45
    exact ⟨H5.out.1.trans (hb.mono H5.out.1.size), H5.out.2.1.new hb, H5.out.2.2.new hb, (hr.cell 0).trans HSz.out.2.2.2.1, (hr.cell 1).trans HSz.out.2.2.2.2⟩)
  obtain ⟨E, hE⟩ : ∃ E, E = w5.heap.size := ⟨_, rfl⟩
  rw [← hE] at H6 ⊢
  clear hw6 hE c2 c3 HAt HSz HI5 H5
  have e0 := H6.out.2.2.2.1
  have e1 := H6.out.2.2.2.2
  have HI6 := Lib.hid (HI.out.new H6.out.1)
  have c2 : w6.cell? ⟨Z, 2, none⟩ = some (.slice S.m.sp nM S.m.c) := H6.out.2.1.cell 2
  have HOf := Lib.hid (fun wx => clsOf_any A B wx)
  have HK := Lib.hid (show RowAt w6 C 61 #[.int .u32 (w32 (A &&& ~~~B)), .int .u32 (w32 (B &&& ~~~A)), .int .u32 (w32 (A &&& B))] from H6.out.2.2.1)
  have HW := Lib.hid H6.out.1
  obtain ⟨va, hva⟩ : ∃ v, w32 A = v := ⟨_, rfl⟩
  obtain ⟨vb, hvb⟩ : ∃ v, w32 B = v := ⟨_, rfl⟩
  obtain ⟨sM, hsM⟩ : ∃ s, S.m.sp = s := ⟨_, rfl⟩
  have h1 := tasksM_cases (f := f) (v := va) HI6.out HN.out.1 hsM (by rw [← HAA.out.1]; exact hva)
  have h2 := tasksM_cases (f := t) (v := vb) HI6.out HN.out.1 hsM (by rw [← HAA.out.2]; exact hvb)
  rw [hsM] at c2
  rw [hva, hvb] at HOf
  clear hsM HI6 HI HAA HN H6 hva hvb
  rcases h1 with ⟨k1, rfl, l1, q1, hs1⟩ | ⟨l1, rfl⟩ | ⟨l1, l1', rfl⟩
  all_goals
    rcases h2 with ⟨k2, rfl, l2, q2, hs2⟩ | ⟨l2, rfl⟩ | ⟨l2, l2', rfl⟩
    all_goals
      try subst hs1
      try subst hs2
      go_upto_region 12 with fail
      clear e0 e1 c2
      refine wp_region_held_drew (S := fun w' => RowAt w' C 61 #[.int .u32 (w32 (A &&& ~~~B)), .int .u32 (w32 (B &&& ~~~A)), .int .u32 (w32 (A &&& B))]) (by kernel_rfl) HK.out (fun hS => ?_)
      refine wpAnyH_take (i := 0) (oi := { dst := some 70, op := .load 61 (.tmp 5), type := 61, pos := "law.go:52", after := #[], guard := none }) (v := ?_) rfl (by kernel_rfl) (by kernel_rfl) (by kernel_rfl) (fun _ _ _ h => h) (Or.inl ⟨by rfl, ?_⟩) hS ?_
      rotate_left 1
      · intro w hw; obtain s0 := hw; have k0 := hw.cell 0; have k1 := hw.cell 1; have k2 := hw.cell 2; simp at k0 k1 k2; go_simp; try (with_reducible rfl)
      simp only [Act.put, List.setIfInBounds_toArray, List.set_cons_zero, List.set_cons_succ]
      refine wpAnyH_take (i := 1) (oi := { dst := some 71, op := .move (.tmp 6), type := 51, pos := "law.go:52", after := #[], guard := none }) (v := ?_) rfl (by kernel_rfl) (by kernel_rfl) (by kernel_rfl) (fun _ _ _ h => h) (Or.inl ⟨by rfl, ?_⟩) hS ?_
      rotate_left 1
      · intro w hw; obtain s0 := hw; go_simp; try (with_reducible rfl)
      simp only [Act.put, List.setIfInBounds_toArray, List.set_cons_zero, List.set_cons_succ]
      refine wpAnyH_take (i := 2) (oi := { dst := some 72, op := .move (.tmp 7), type := 51, pos := "law.go:52", after := #[], guard := none }) (v := ?_) rfl (by kernel_rfl) (by kernel_rfl) (by kernel_rfl) (fun _ _ _ h => h) (Or.inl ⟨by rfl, ?_⟩) hS ?_
      rotate_left 1
      · intro w hw; obtain s0 := hw; go_simp; try (with_reducible rfl)
      simp only [Act.put, List.setIfInBounds_toArray, List.set_cons_zero, List.set_cons_succ]
      refine wpAnyH_ready (rs := [3]) (by kernel_rfl) (by simp) (AllReadyH.cons (o := { dst := some 73, op := .call { callee := .value (.func 21), args := #[.tmp 71, .tmp 72], argTypes := #[51, 51] }, type := 61, pos := "law.go:52", after := #[{ on := 1, ground := .data }, { on := 2, ground := .data }], guard := none }) rfl (fun K hK => ?_) AllReadyH.nil)
      go_simp
      go_at_call 21
      refine (HOf.out _).mono ?_
      rintro e wa ⟨rfl, ba⟩
      have Ha := Lib.hid (And.intro (HW.out.trans ((below_dn (Below.refl _ _) 1).mono HW.out.size |>.trans (ba.mono HW.out.size))) (HK.out.new ((below_dn (Below.refl _ _) 1).trans ba)))
      clear ba
      try dsimp only
      refine hK.out _ _ Ha.out.2 (fun hHeld => ?_)
      clear hK K
      try simp only [Act.put, List.setIfInBounds_toArray, List.set_cons_zero, List.set_cons_succ]
      refine wpAnyH_take (i := 4) (oi := { dst := some 74, op := .binOp .eql 61 (.tmp 70) (.tmp 73) 61, type := 4, pos := "law.go:52", after := #[{ on := 0, ground := .data }, { on := 3, ground := .data }], guard := none }) (v := ?_) rfl (by kernel_rfl) (by kernel_rfl) (by kernel_rfl) (fun _ _ _ h => h) (Or.inl ⟨by rfl, ?_⟩) Ha.out.2 ?_
      rotate_left 1
      · intro w hw; obtain s0 := hw; go_simp; try (with_reducible rfl)
      simp only [Act.put, List.setIfInBounds_toArray, List.set_cons_zero, List.set_cons_succ]
      refine wpAnyH_take (i := 5) (oi := { dst := some 75, op := .move (.tmp 74), type := 4, pos := "law.go:52", after := #[{ on := 4, ground := .data }, { on := 3, ground := .chain }], guard := none }) (v := ?_) rfl (by kernel_rfl) (by kernel_rfl) (by kernel_rfl) (fun _ _ _ h => h) (Or.inl ⟨by rfl, ?_⟩) Ha.out.2 ?_
      rotate_left 1
      · intro w hw; obtain s0 := hw; go_simp; try (with_reducible rfl)
      simp only [Act.put, List.setIfInBounds_toArray, List.set_cons_zero, List.set_cons_succ]
      refine wpAnyH_ready (rs := [6]) (by kernel_rfl) (by simp) (AllReadyH.cons (o := { dst := some 76, op := .call { callee := .value (.func 28), args := #[], argTypes := #[] }, type := 4, pos := "law.go:52", after := #[{ on := 5, ground := .chain }, { on := 5, ground := .guard }], guard := some (5, true) }) rfl (fun K hK => ?_) AllReadyH.nil)
      go_simp
      go_at_call 28
      refine (HAl.out _).mono ?_
      rintro e wb ⟨rfl, bb⟩
      have Hb := Lib.hid (And.intro (Ha.out.1.trans (bb.mono Ha.out.1.size)) (Ha.out.2.new bb))
      clear bb
      try dsimp only
      refine hK.out _ _ Hb.out.2 (fun hHeld => ?_)
      clear hK K
      try simp only [Act.put, List.setIfInBounds_toArray, List.set_cons_zero, List.set_cons_succ]
      refine wpAnyH_take (i := 7) (oi := { dst := some 77, op := .pick (.tmp 75) (.tmp 76) (.const (.bool false)), type := 4, pos := "law.go:52", after := #[{ on := 5, ground := .data }, { on := 6, ground := .data }], guard := none }) (v := ?_) rfl (by kernel_rfl) (by kernel_rfl) (by kernel_rfl) (fun _ _ _ h => h) (Or.inl ⟨by rfl, ?_⟩) Hb.out.2 ?_
      rotate_left 1
      · intro w hw; obtain s0 := hw; go_simp; try (with_reducible rfl)
      simp only [Act.put, List.setIfInBounds_toArray, List.set_cons_zero, List.set_cons_succ]
      refine wpAnyH_take (i := 8) (oi := { dst := some 4, op := .assign (.tmp 77), type := 4, pos := "law.go:52", after := #[{ on := 7, ground := .data }, { on := 6, ground := .chain }, { on := 0, ground := .phase }, { on := 1, ground := .phase }, { on := 2, ground := .phase }, { on := 3, ground := .phase }, { on := 4, ground := .phase }, { on := 5, ground := .phase }, { on := 6, ground := .phase }, { on := 7, ground := .phase }], guard := none }) (v := ?_) rfl (by kernel_rfl) (by kernel_rfl) (by kernel_rfl) (fun _ _ _ h => h) (Or.inl ⟨by rfl, ?_⟩) Hb.out.2 ?_
      rotate_left 1
      · intro w hw; obtain s0 := hw; go_simp; try (with_reducible rfl)
      simp only [Act.put, List.setIfInBounds_toArray, List.set_cons_zero, List.set_cons_succ]
      refine wpAnyH_done (by kernel_rfl) ?_ _

      go_wp2
      go_ret
      exact ⟨rfl, Hb.out.1⟩
end Go.Proofs.Ytomdcmdgcnhnmaa
