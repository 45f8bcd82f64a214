/- Several texts in one: TC, TD, TE. -/
import Derived.Test.YtchmdnmifpjfkaaDoorPk10
import Derived.Handy
import Derived.Test.YtchmdnmifpjfkaaDoorPk01
/- The contract of steady's Block. -/
namespace Go.Proofs.YtchmdnmifpjfkaaDoor
open Go.RowKit
attribute [local go_sem] Oper.semAt_some

theorem smS_le {g : Nat → Int} (h : ∀ r, r < 8 → 0 ≤ g r ∧ g r ≤ 4096) (L : List Nat) (hL : ∀ i, i ∈ L → i < 8) : ∀ k, k ≤ L.length → 0 ≤ smS g L k ∧ smS g L k ≤ (k : Int) * 4096
  | 0, _ => ⟨Int.le_refl _, by simp [smS]⟩
  | k + 1, hk => by
    have ih := smS_le h L hL k (by omega)
    have := h (L.getD k 0) (hL _ (by rw [List.getD_eq_getElem?_getD, List.getElem?_eq_getElem (by omega)]; exact List.getElem_mem _))
    unfold smS
    omega
set_option maxHeartbeats 4000000 in
set_option maxRecDepth 100000 in
theorem stBlock_any {w : World} {V : Nat → Prop} {x : Img} {S : ImgS} (h : ImgAt w V x S) (ht : Tab w) (hG : GoodI x) (s : BitVec 32) (f : Nat → Int) (task : Int) :
    Calls Tryd.prog 35 #[.agg #[.int .i64 x.res, .slice S.t.sp x.tasks.length S.t.c, .slice S.m.sp x.modes.length S.m.c, .slice S.e.sp x.edges.length S.e.c], .int .u32 (w32 s), .agg (tb f), .int .i64 task] w fun e w' => e = .returned (.int .i64 (blkF x s f task)) ∧ Below w.heap.size w w' := by
  refine (callsIn_wide (n := 0)).1 ?_
  have hp := ht.pos
  have HI := Lib.hid h
  have HTb := Lib.hid (show ∀ w', Below w.heap.size w w' → Tab w' from fun w' hb => ht.below hp hb)
  obtain ⟨y, hy⟩ : ∃ y, bhd x s task = y := ⟨_, rfl⟩
  have HLo := Lib.hid (show ∀ wx, Below w.heap.size w wx → ∀ r, r < 8 → _ from fun wx hb r hr => longest_any (h.new hb) (ht.below hp hb) y (fun i hi hb => by rw [← hy, bhd_bit _ _ _ _ hi] at hb; simp at hb; exact hb.2.2) r hr)
  obtain ⟨g, hg⟩ : ∃ g, (fun r => lgF x y r) = g := ⟨_, rfl⟩
  have HG := Lib.hid (show ∀ i, lgF x y i = g i from fun i => by rw [← hg])
  have HR := Lib.hid (show blkF x s f task = smS g (ovL f task) (ovL f task).length by rw [← hg, ← hy]; exact (blkF_sum x s f task).symm)
  have HGr := Lib.hid (show ∀ r, r < 8 → 0 ≤ g r ∧ g r ≤ 4096 from fun r hr => by rw [← HG.out]; exact lgF_rng hG y r hr)
  have HAl := Lib.hid (show ∀ wx, _ from fun wx => iAll_any x S wx)
  have HAb := Lib.hid (show ∀ wx, _ from fun wx => above_any (s &&& allI x) task wx)
  have HOv := Lib.hid (show ∀ wx, _ from fun wx => cOver_any f task wx)
  have HAn := Lib.hid (and32 s (allI x))
  obtain ⟨al, hal⟩ : ∃ al, allI x = al := ⟨_, rfl⟩
  have HYb := Lib.hid (show btw (s &&& al) task 32 = y by rw [← hy, ← hal]; rfl)
  rw [hal] at HAl HAb HAn
  rw [HYb.out] at HAb
  rw [HR.out]
  obtain ⟨nT, hnT⟩ : ∃ n, x.tasks.length = n := ⟨_, rfl⟩
  obtain ⟨nM, hnM⟩ : ∃ n, x.modes.length = n := ⟨_, rfl⟩
  obtain ⟨nE, hnE⟩ : ∃ n, x.edges.length = n := ⟨_, rfl⟩
  rw [hnT, hnM, hnE] at HLo HAl
  rw [hnT, hnM, hnE]
  have HN := Lib.hid hnT
  obtain ⟨Z, hZ⟩ : ∃ Z, Z = w.heap.size := ⟨_, rfl⟩
  have HZ := Lib.hid hZ
  clear h ht hp hnT hnM hnE hg hG HR hy hal
  have HLt := Lib.hid (show ∀ i, i ∈ ovL f task → i < 8 from fun i hi => ovL_lt hi)
  have HL32 := Lib.hid (show (ovL f task).length ≤ 32 from lst_len _ _)
  obtain ⟨T, hT⟩ : ∃ T, tb f = T := ⟨_, rfl⟩
  obtain ⟨ov, hov⟩ : ∃ ov, tbOv f task 8 = ov := ⟨_, rfl⟩
  have HOL := Lib.hid (show ovL f task = lst ov 32 by rw [← hov]; rfl)
  have HTi := Lib.hid (tb_info f)
  rw [hT, hov] at HOv
  rw [hT] at HTi
  rw [hT]
  clear hov hT
  obtain ⟨L, hL⟩ : ∃ L, ovL f task = L := ⟨_, rfl⟩
  rw [hL] at HLt HOL HL32 ⊢
  clear hL
  obtain ⟨N, hN⟩ : ∃ N, L.length = N := ⟨_, rfl⟩
  rw [hN] at HL32 ⊢
  have HNN := Lib.hid hN
  clear hN
  refine callsIn_of_wp_marks Tryd.func35 rfl trivial ?_ rfl
  simp only [Tryd.ntmps35, List.size_toArray, List.length_cons, List.length_nil, Nat.reduceAdd, Nat.reduceSub, Array.replicate_succ, Array.replicate_zero, List.push_toArray, List.append_toArray, List.nil_append, List.cons_append]
  have han := HAn.out
  gi_wp2_with (first
    | (refine ⟨trivial, rfl, ?_⟩; gi_at_call 65; refine (callsIn_wide.2 (HAl.out _)).mono ?_; rintro e w1 ⟨rfl, b1⟩; have H1 := Lib.hid (two_alloc b1); clear b1)
    | (refine ⟨trivial, rfl, ?_⟩; gi_at_call 66; refine (callsIn_wide.2 (HAb.out _)).mono ?_; rintro e w' ⟨rfl, rfl⟩)
    | (refine wpListIn_load_rowW rfl 73 (.tmp 6) rfl (w.heap.size + 1) rfl 73 T (0, 0) _ (row_keep (row_keep H1.out.2.2 _) _) Tryd.underlying73 rfl HTi.out ?_)
    | (refine ⟨trivial, rfl, ?_⟩; gi_at_call 67; refine (callsIn_wide.2 (HOv.out _)).mono ?_; rintro e w2 ⟨rfl, b2⟩; have H2 := Lib.hid b2; clear b2)
    | (refine ⟨trivial, rfl, ?_⟩; gi_at_call 53; refine (callsIn_wide.2 (All_any _ _)).mono ?_; rintro e w' ⟨rfl, rfl⟩)
    | fail)
  obtain ⟨A1, hA1⟩ : ∃ A1, A1 = w1.heap.size := ⟨_, rfl⟩
  obtain ⟨B2, hB2⟩ : ∃ B2, B2 = w2.heap.size := ⟨_, rfl⟩
  generalize hw6 : World.alloc w2 _ = w6
  have H6 := Lib.hid (show Below w.heap.size w w6 ∧ w6.heap.size = B2 + 1 ∧ RowAt w6 Z 26 #[.int .i64 x.res, .slice S.t.sp nT S.t.c, .slice S.m.sp nM S.m.c, .slice S.e.sp nE S.e.c] ∧ RowAt w6 A1 31 #[.int .u32 (w32 y)] ∧ RowAt w6 (A1 + 1) 3 #[.int .i64 0] ∧ w6.cell? ⟨B2, 0, none⟩ = some (.int .u32 (w32 ov)) ∧ Z + 1 < A1 ∧ A1 + 1 < B2 by
    have z1 := H1.out.2.2.lt
    have z2 := H2.out.size
    have s1 := H1.out.1.size
    simp only [World.size_alloc] at z2
    rw [← hw6, hZ, hA1, hB2]
    have b3 : Below w2.heap.size w2 (w2.alloc (.cells #[.int .u32 (w32 ov)] 31)) := (Below.refl _ _).alloc (Nat.le_refl _) _
    have bb : Below w1.heap.size w1 w2 := (((Below.refl _ _).alloc (Nat.le_refl _) _).alloc (by simp) _).trans (H2.out.mono (by simp; omega))
    refine ⟨(H1.out.1.trans (bb.mono s1)).trans (b3.mono (by omega)), by simp, (H1.out.2.1.new bb).new b3, ?_, ?_, (RowAt.mk w2 _ _).cell 0, by omega, by omega⟩
    · exact ((row_keep (RowAt.mk w1 _ _) _).new H2.out).new b3
    · exact ((row_next (w1.alloc _) (w1.heap.size + 1) (by simp) _ _).new H2.out).new b3)
  rw [← hA1, ← hB2, ← hZ]
  rw [← hZ] at H1
  clear hw6 hZ hA1 hB2 H1 H2 han
  have HI0 := Lib.hid (show CI w6 (A1 + 1) 3 #[.int .i64 (smS g L 0)] w6 from ⟨Ch.refl _ _, H6.out.2.2.2.2.1⟩)
  have HBe := Lib.hid (show ∀ (W' : World) (cs : Array Value), CI w6 (A1 + 1) 3 cs W' → Below w.heap.size w W' from fun W' f h => H6.out.1.trans (h.1.below (fun j hj e => by have := HZ.out; have := H6.out.2.2.2.2.2.2.1; omega) H6.out.1.size))
  refine wpIn_rangeF3 (gf := 80) (lb := #[.pointer (some ⟨B2, 0, none⟩)]) rfl (enters_of Tryd.func80 (by kernel_rfl) rfl)
    N (fun k => #[.int .i64 (nth (ints L) k)]) (fun _ => rfl) (fun _ j => j < B2 + 1)
    (fun k W => CI w6 (A1 + 1) 3 #[.int .i64 (smS g L k)] W) (fun _ _ _ => False)
    (fun k => CI.foot H6.out.2.1 (by have := H6.out.2.2.2.2.2.2.2; omega)) (fun _ _ => ⟨fun _ h => h.elim, fun _ _ h => h.elim⟩) HI0.out
    (fun k a' W' => a' = { tmps := #[.agg #[.int .i64 x.res, .slice S.t.sp nT S.t.c, .slice S.m.sp nM S.m.c, .slice S.e.sp nE S.e.c], .int .u32 (w32 s), .agg T, .int .i64 task, .pointer (some ⟨Z, 0, none⟩), undef, .pointer (some ⟨Z + 1, 0, none⟩), undef, .int .i64 0, .pointer (some ⟨A1, 0, none⟩), .pointer (some ⟨A1 + 1, 0, none⟩), .int .i64 (nth (ints L) k), .int .u32 (w32 s), .agg #[.int .i64 x.res, .slice S.t.sp nT S.t.c, .slice S.m.sp nM S.m.c, .slice S.e.sp nE S.e.c], .int .u32 (w32 al), .int .u32 (w32 (s &&& al)), .int .i64 task, .int .u32 (w32 y), .agg T, .int .i64 task, .int .u32 (w32 ov), .func (.func 80) #[] #[.pointer (some ⟨B2, 0, none⟩)], .int .i64 (nth (ints L) k), undef, undef, undef, undef, undef, undef, undef], defers := [] })
    (fun _ _ _ _ h _ => h) ?hit ?assign ?body ?done (fun _ _ _ _ h => h.elim)
  case hit =>
    intro J' Jx' W1 h1 h2 h3 h4 h5 h6 h7 h8
    rw [H6.out.2.1] at h1 h2 h3 h4 h5 h6 h7 ⊢
    rw [HOL.out] at h7
    have hN2 : N = (lst ov 32).length := by rw [← HNN.out, HOL.out]
    rw [hN2] at h7 ⊢
    exact all_in _ B2 ov _ J' Jx' W1 (fun k W' hJ => HTb.out W' (HBe.out W' _ (h3 k W' hJ).1)) ((h2.cell (p := ⟨B2, 0, none⟩) (show B2 < B2 + 1 by omega)).trans H6.out.2.2.2.2.2.1) h7 h8
  case assign =>
    intro k W K hi' hk hz hK
    have HK := Lib.hid hK
    have HKI := Lib.hid hi'
    clear hK hi'
    gi_wp2
    exact HK.out _ _ rfl (Ch.refl _ _) HKI.out (fun _ h => h)
  case body =>
    rintro k a' W hI hk rfl hz ⟨rec0, hrec⟩ hnl
    rw [H6.out.2.1] at hz hrec hnl ⊢
    have hkL : k < L.length := by rw [HNN.out]; exact hk
    have HM := Lib.hid (show smS g L (k + 1) = smS g L k + g (L.getD k 0) from rfl)
    rw [nth_ints hkL]
    have hi8 : L.getD k 0 < 8 := HLt.out _ (by rw [List.getD_eq_getElem?_getD, List.getElem?_eq_getElem hkL]; exact List.getElem_mem hkL)
    obtain ⟨i, hi'⟩ : ∃ i, L.getD k 0 = i := ⟨_, rfl⟩
    rw [hi'] at hi8 HM ⊢
    have hgr := HGr.out i hi8
    have hsr : 0 ≤ smS g L k ∧ smS g L k ≤ 131072 := by
      have := smS_le HGr.out L (by intro j hj; exact HLt.out j hj) k (by omega)
      have := HL32.out
      have h1 : (k : Int) ≤ 32 := by omega
      omega
    have HBW := Lib.hid (HBe.out W _ hI)
    have HC := Lib.hid (show ∀ wx, Ch (fun _ => False) W wx → Calls Tryd.prog 68 #[.agg #[.int .i64 x.res, .slice S.t.sp nT S.t.c, .slice S.m.sp nM S.m.c, .slice S.e.sp nE S.e.c], .int .u32 (w32 y), .int .i64 (i : Nat)] wx fun e w' => e = .returned (.int .i64 (g i)) ∧ Below wx.heap.size wx w' from fun wx hc => by
      rw [← HG.out]
      exact HLo.out wx (HBW.out.trans (hc.below (fun _ _ h => h) HBW.out.size)) i hi8)
    obtain ⟨c, hc⟩ : ∃ c, smS g L k = c := ⟨_, rfl⟩
    obtain ⟨v, hv⟩ : ∃ v, g i = v := ⟨_, rfl⟩
    rw [hc] at hI HM hsr
    rw [hv] at HC HM hgr
    have HIm := Lib.hid (H6.out.2.2.1.keep hI.1 (fun e => by have := H6.out.2.2.2.2.2.2.1; omega))
    have HBh := Lib.hid (H6.out.2.2.2.1.keep hI.1 (fun e => by omega))
    have HCe := Lib.hid (show ∀ w', Ch (fun _ => False) W w' → (w'.cell? ⟨A1 + 1, 0, none⟩ = some (.int .i64 c) ∧ w'.cell? ⟨A1, 0, none⟩ = some (.int .u32 (w32 y)) ∧ w'.cell? ⟨Z, 0, none⟩ = some (.int .i64 x.res) ∧ w'.cell? ⟨Z, 1, none⟩ = some (.slice S.t.sp nT S.t.c) ∧ w'.cell? ⟨Z, 2, none⟩ = some (.slice S.m.sp nM S.m.c) ∧ w'.cell? ⟨Z, 3, none⟩ = some (.slice S.e.sp nE S.e.c)) from fun w' h =>
      ⟨h.cell (hI.2.cell 0) (fun h => h), h.cell (HBh.out.cell 0) (fun h => h), h.cell (HIm.out.cell 0) (fun h => h), h.cell (HIm.out.cell 1) (fun h => h), h.cell (HIm.out.cell 2) (fun h => h), h.cell (HIm.out.cell 3) (fun h => h)⟩)
    have HWr := Lib.hid (show IntKind.i64.wrap (c + v) = c + v by rw [IntKind.wrap_i64]; omega)
    have HF := Lib.hid (show ∀ w', Ch (fun _ => False) W w' → w'.frozen? ⟨A1 + 1, 0, none⟩ = false from fun w' h => (h.frozenCell (hI.2.cell 0) (fun h => h)).trans (hI.2.fr 0))
    have HIs := Lib.hid hI
    clear hI hi' hkL hz hrec hnl hc hv hsr hgr hi8
    gi_wp2
    refine wpIn_region_g0 (fun w' => Ch (fun _ => False) W w') 6 (by kernel_rfl) (by kernel_rfl) (fun _ _ h => h) ((Ch.refl _ W).drew) (fun hS => ?_)
    refine wpAnyG_take (i := 0) (oi := { dst := some 23, op := .load 3 (.tmp 10), type := 3, pos := "steady.go:23", after := #[], guard := none }) (v := ?_) rfl (by kernel_rfl) (by kernel_rfl) (by kernel_rfl) (by kernel_rfl) (fun _ _ _ h => h) (Or.inl ⟨by rfl, ?_⟩) hS ?_
    rotate_left 1
    · intro w hw; obtain hs := hw; obtain ⟨k0, k1, k2, k3, k4, k5⟩ := HCe.out _ hw; go_simp; try (with_reducible rfl)
    simp only [Act.put, List.setIfInBounds_toArray, List.set_cons_zero, List.set_cons_succ]
    refine wpAnyG_take (i := 1) (oi := { dst := some 24, op := .load 26 (.tmp 4), type := 26, pos := "steady.go:23", after := #[], guard := none }) (v := ?_) rfl (by kernel_rfl) (by kernel_rfl) (by kernel_rfl) (by kernel_rfl) (fun _ _ _ h => h) (Or.inl ⟨by rfl, ?_⟩) hS ?_
    rotate_left 1
    · intro w hw; obtain hs := hw; obtain ⟨k0, k1, k2, k3, k4, k5⟩ := HCe.out _ hw; go_simp; try (with_reducible rfl)
    simp only [Act.put, List.setIfInBounds_toArray, List.set_cons_zero, List.set_cons_succ]
    refine wpAnyG_take (i := 2) (oi := { dst := some 25, op := .load 31 (.tmp 9), type := 31, pos := "steady.go:23", after := #[], guard := none }) (v := ?_) rfl (by kernel_rfl) (by kernel_rfl) (by kernel_rfl) (by kernel_rfl) (fun _ _ _ h => h) (Or.inl ⟨by rfl, ?_⟩) hS ?_
    rotate_left 1
    · intro w hw; obtain hs := hw; obtain ⟨k0, k1, k2, k3, k4, k5⟩ := HCe.out _ hw; go_simp; try (with_reducible rfl)
    simp only [Act.put, List.setIfInBounds_toArray, List.set_cons_zero, List.set_cons_succ]
    refine wpAnyG_take (i := 3) (oi := { dst := some 26, op := .move (.tmp 11), type := 3, pos := "steady.go:23", after := #[], guard := none }) (v := ?_) rfl (by kernel_rfl) (by kernel_rfl) (by kernel_rfl) (by kernel_rfl) (fun _ _ _ h => h) (Or.inl ⟨by rfl, ?_⟩) hS ?_
    rotate_left 1
    · intro w hw; obtain hs := hw; go_simp; try (with_reducible rfl)
    simp only [Act.put, List.setIfInBounds_toArray, List.set_cons_zero, List.set_cons_succ]
    refine wpAnyG_ready (rs := [4]) (by kernel_rfl) (by simp) (AllReadyG.cons (o := { dst := some 27, op := .call { callee := .value (.func 68), args := #[.tmp 24, .tmp 25, .tmp 26], argTypes := #[26, 31, 3] }, type := 3, pos := "steady.go:23", after := #[{ on := 1, ground := .data }, { on := 2, ground := .data }, { on := 3, ground := .data }], guard := none }) rfl (fun K hK => ?_) AllReadyG.nil)
    go_simp
    go_at_call 68
    refine (HC.out _ hS).mono ?_
    rintro e W2 ⟨rfl, b2⟩
    have H2 := Lib.hid (show Ch (fun _ => False) W W2 from hS.trans (Ch.new b2))
    have k0 := HF.out _ H2.out
    have k1 := (HCe.out _ H2.out).1
    clear b2
    try dsimp only
    refine hK.out _ _ H2.out (fun hHeld => ?_)
    clear hK K
    try simp only [Act.put, List.setIfInBounds_toArray, List.set_cons_zero, List.set_cons_succ]
    refine wpAnyG_take (i := 5) (oi := { dst := some 28, op := .binOp .add 3 (.tmp 23) (.tmp 27) 3, type := 3, pos := "steady.go:23", after := #[{ on := 0, ground := .data }, { on := 4, ground := .data }], guard := none }) (v := (.int .i64 (c + v))) rfl (by kernel_rfl) (by kernel_rfl) (by kernel_rfl) (by kernel_rfl) (fun _ _ _ h => h) (Or.inl ⟨by rfl, ?_⟩) H2.out ?_
    · intro w hw; obtain hs := hw; have k0 := HWr.out; go_simp; try (with_reducible rfl)
    simp only [Act.put, List.setIfInBounds_toArray, List.set_cons_zero, List.set_cons_succ]
    refine wpAnyG_ready (rs := [6]) (by kernel_rfl) (by simp) (AllReadyG.last (o := { dst := none, op := .store 3 (.tmp 10) (.tmp 28), type := 0, pos := "steady.go:23", after := #[{ on := 5, ground := .data }, { on := 4, ground := .chain }, { on := 0, ground := .phase }, { on := 1, ground := .phase }, { on := 2, ground := .phase }, { on := 3, ground := .phase }, { on := 4, ground := .phase }, { on := 5, ground := .phase }], guard := none }) rfl (fun K hK => ?_))
    go_simp
    refine hK.out _ _ ?_
    clear hK K
    try simp only [Act.put, List.setIfInBounds_toArray, List.set_cons_zero, List.set_cons_succ]
    refine wpAnyG_done (by kernel_rfl) ?_ _

    refine ⟨⟨H2.out.mono (fun _ _ h => h.elim) |>.setCell _ _ (.inl (show A1 + 1 < B2 + 1 by have := H6.out.2.2.2.2.2.2.2; omega)), fun j hj => .inl hj⟩, ?_⟩
    show CI w6 (A1 + 1) 3 #[.int .i64 (smS g L (k + 1))] _
    rw [HM.out]
    exact CI.set ⟨HIs.out.1.trans (H2.out.mono fun _ _ h => h.elim), HIs.out.2.keep H2.out (fun h => h)⟩ _
  case done =>
    rintro A hI hD hnD hz
    rw [H6.out.2.1] at hD hnD hz
    have m0 : A.cell? ⟨A1 + 1, 0, none⟩ = some (.int .i64 (smS g L N)) := hI.2.cell 0
    have HK := Lib.hid (And.intro (HBe.out A _ hI) hD)
    clear hI hD hnD
    gi_wp2
    rw [H6.out.2.1]
    have hp : Ch (fun j => j = B2 + 1) A (A.putObj (B2 + 1) (.deferred none)) := (Ch.refl _ _).putObj _ _ rfl
    refine ⟨by simp, .inl ⟨_, _, rfl, run_takeDeferred HK.out.2, ?_⟩⟩
    have hZ := HZ.out
    refine ⟨.int .i64 (smS g L N), ?_, ?_, ?_⟩
    · simp [results, Tryd.results35, go_sem]
    · rw [← HNN.out]
    · exact HK.out.1.trans (hp.below (fun j hj e => by have := H6.out.2.2.2.2.2.2; omega) HK.out.1.size)
end Go.Proofs.YtchmdnmifpjfkaaDoor
/- The contracts of the reference's Ceiling and Block. -/
namespace Go.Proofs.YtchmdnmifpjfkaaDoor
open Go.RowKit

set_option maxHeartbeats 4000000 in
set_option maxRecDepth 100000 in
theorem Ceil18_any {w : World} {V : Nat → Prop} {x : Img} {S : ImgS} (h : ImgAt w V x S) (hG : GoodI x) (s : BitVec 32) (r : Nat) (hr : r < 8) :
    Calls Tryd.prog 72 #[.agg #[.int .i64 x.res, .slice S.t.sp x.tasks.length S.t.c, .slice S.m.sp x.modes.length S.m.c, .slice S.e.sp x.edges.length S.e.c], .int .u32 (w32 s), .int .i64 (r : Nat)] w fun e w' => e = .returned (.int .i64 (ceilF x s r)) ∧ Below w.heap.size w w' := by
  have HI := Lib.hid h
  have HFi := Lib.hid (fun (k : Nat) (hk : k < 16) (hn) (h) (ht) (h0) => ceilF_first x s r hr k hk hn h ht h0)
  have HNo := Lib.hid (fun hn => ceilF_none x s r hr hn)
  obtain ⟨v, hv⟩ : ∃ v, ceilF x s r = v := ⟨_, rfl⟩
  rw [hv] at HFi HNo ⊢
  have H16 := hG.n16
  obtain ⟨nT, hnT⟩ : ∃ n, x.tasks.length = n := ⟨_, rfl⟩
  obtain ⟨nM, hnM⟩ : ∃ n, x.modes.length = n := ⟨_, rfl⟩
  obtain ⟨nE, hnE⟩ : ∃ n, x.edges.length = n := ⟨_, rfl⟩
  have HN := Lib.hid hnT
  rw [hnT] at HFi HNo H16
  rw [hnT, hnM, hnE]
  obtain ⟨Z, hZ⟩ : ∃ Z, Z = w.heap.size := ⟨_, rfl⟩
  clear h hv hnT hnM hnE hG
  have hr8 : (r : Int) < 8 := by omega
  go_enter Tryd.func72, Tryd.ntmps72
  go_upto_region 1 with fail
  rw [← hZ]
  generalize hw2 : World.alloc _ _ = w2
  have H2 := Lib.hid (show Below w.heap.size w w2 ∧ RowAt w2 Z 26 #[.int .i64 x.res, .slice S.t.sp nT S.t.c, .slice S.m.sp nM S.m.c, .slice S.e.sp nE S.e.c] by
    rw [← hw2, hZ]
    exact ⟨(Below.refl _ _).alloc (Nat.le_refl _) _, RowAt.mk _ _ _⟩)
  clear hw2 hZ
  have c1 : w2.cell? ⟨Z, 1, none⟩ = some (.slice S.t.sp nT S.t.c) := H2.out.2.cell 1
  go_wp2
  go_loopg [7] nT (fun g v wr => ∃ k : Nat, k + g = nT ∧ v = .int .i64 (k : Nat) ∧ Aside (w2 = wr ∧ ∀ j, j < k → ¬ (s.getLsbD j = true ∧ 0 < lonF x j r)))
  case atStart => exact ⟨0, by omega, rfl, rfl, fun j hj => absurd hj (Nat.not_lt_zero j)⟩
  case round =>
    obtain ⟨k, hkg, rfl, HQ⟩ := hrel
    obtain ⟨rfl, hq⟩ := HQ.out
    have HQ2 := Lib.hid hq
    clear HQ hq
    cases gk with
    | zero =>
      obtain rfl : k = nT := by omega
      have HE := Lib.hid (HNo.out (fun j hj => HQ2.out j (by omega)))
      go_wp2
      go_ret
      exact ⟨by rw [HE.out]; rfl, H2.out.1⟩
    | succ g1 =>
      have hk : k < nT := by omega
      have hk16 : k < 16 := by omega
      have HH := Lib.hid (has10_any s (k : Int) w2)
      rw [hasB_nat s k (by omega)] at HH
      have HI2 := Lib.hid (HI.out.new H2.out.1)
      obtain ⟨hcs, h8⟩ := HI2.out.tk k (by rw [HN.out]; exact hk)
      obtain ⟨hsp, -, -⟩ := HI2.out.st.at_ (by rw [HN.out]; omega)
      have q := hcs (3 + r) _ (lon_at h8 r hr)
      rw [hsp] at c1
      rw [show S.t.o + k * 11 + (3 + r) = S.t.o + k * 11 + 3 + r by omega] at q
      have e1 : (k : Int) < (nT : Int) := by omega
      have HF := Lib.hid (fun (h1 : s.getLsbD k = true) (h2 : 0 < lonF x k r) => HFi.out k hk16 HQ2.out h1 hk h2)
      have HK := Lib.hid (fun (h1 : ¬ (s.getLsbD k = true ∧ 0 < lonF x k r)) => show ∀ j, j < k + 1 → ¬ (s.getLsbD j = true ∧ 0 < lonF x j r) from fun j hj => by
        rcases Nat.lt_or_ge j k with h2 | h2
        · exact HQ2.out j h2
        · obtain rfl : j = k := by omega
          exact h1)
      obtain ⟨a, ha⟩ : ∃ a, lonF x k r = a := ⟨_, rfl⟩
      obtain ⟨bb, hbb⟩ : ∃ b, s.getLsbD k = b := ⟨_, rfl⟩
      rw [ha] at q HF HK
      rw [hbb] at HH HF HK
      clear ha hbb hcs h8 hsp HI2
      cases bb with
      | true =>
        by_cases hp : 0 < a
        · have HE := Lib.hid (HF.out rfl hp)
          go_wp2_with (go_at_call 41; refine HH.out.mono ?_; rintro e w' ⟨rfl, rfl⟩; clear HH)
          go_ret
          exact ⟨by rw [HE.out]; rfl, H2.out.1⟩
        · go_wp2_with (go_at_call 41; refine HH.out.mono ?_; rintro e w' ⟨rfl, rfl⟩; clear HH)
          go_roundg g1
          case measure => omega
          case rel => exact ⟨k + 1, by omega, by go_num, rfl, HK.out (fun h => absurd h.2 (by omega))⟩
      | false =>
        go_wp2_with (go_at_call 41; refine HH.out.mono ?_; rintro e w' ⟨rfl, rfl⟩; clear HH)
        go_roundg g1
        case measure => omega
        case rel => exact ⟨k + 1, by omega, by go_num, rfl, HK.out (fun h => by cases h.1)⟩
/-- As the reference adds up what is held. -/
def blkR (x : Img) (s : BitVec 32) (f : Nat → Int) (task n : Nat) : Int := smK (fun r => decide (f r ≤ (task : Int))) (fun r => lgR x s task r x.tasks.length) n
theorem blkR_eq {x : Img} (h : GoodI x) (s : BitVec 32) (f : Nat → Int) (task : Nat) (ht : task < x.tasks.length) : blkR x s f task 8 = blkF x s f (task : Int) := by
  unfold blkR blkF
  refine smK_ext _ (fun r _ => ?_) fun r _ _ => lgR_eq h s task r
  have := h.n16
  have e : (f r ≤ (task : Int)) ↔ (f r ≤ (task : Int) ∧ f r < 16) := by omega
  exact decide_eq_decide.2 e
theorem blkR_step (x : Img) (s : BitVec 32) (f : Nat → Int) (task n : Nat) : blkR x s f task (n + 1) = if f n ≤ (task : Int) then blkR x s f task n + lgR x s task n x.tasks.length else blkR x s f task n := by
  show (if decide (f n ≤ (task : Int)) = true then _ else _) = _
  simp [blkR]
theorem blkR_rng {x : Img} (h : GoodI x) (s : BitVec 32) (f : Nat → Int) (task n : Nat) (hn : n ≤ 8) : 0 ≤ blkR x s f task n ∧ blkR x s f task n ≤ 32768 := by
  have := smK_rng (p := fun r => decide (f r ≤ (task : Int))) (g := fun r => lgR x s task r x.tasks.length) (M := 4096) (by omega) n (fun r hr => by
    rw [lgR_eq h]; exact lgF_rng h _ r (by omega))
  unfold blkR
  omega
set_option maxHeartbeats 4000000 in
set_option maxRecDepth 100000 in
theorem r18Block_any {w : World} {V : Nat → Prop} {x : Img} {S : ImgS} (h : ImgAt w V x S) (hG : GoodI x) (s c : BitVec 32) (task : Nat) (ht : task < x.tasks.length) :
    Calls Tryd.prog 44 #[.agg #[.int .i64 x.res, .slice S.t.sp x.tasks.length S.t.c, .slice S.m.sp x.modes.length S.m.c, .slice S.e.sp x.edges.length S.e.c], .int .u32 (w32 s), .int .u32 (w32 c), .int .i64 (task : Nat)] w fun e w' => e = .returned (.int .i64 (blkF x s (ceilF x c) (task : Int))) ∧ Below w.heap.size w w' := by
  have HI := Lib.hid h
  have HCl := Lib.hid (fun (wx : World) (hb : Below w.heap.size w wx) (r : Nat) (hr : r < 8) => Ceil18_any (h.new hb) hG c r hr)
  obtain ⟨f, hf⟩ : ∃ f, ceilF x c = f := ⟨_, rfl⟩
  rw [hf] at HCl ⊢
  have HB := Lib.hid (blkR_step x s f task)
  have HBr := Lib.hid (fun n hn => blkR_rng hG s f task n hn)
  have HLs := Lib.hid (fun r k hk => lgR_step x s task r k hk)
  have HL0 := Lib.hid (fun r => lgR_start x s task r)
  have HLr := Lib.hid (show ∀ r, r < 8 → 0 ≤ lgR x s task r x.tasks.length ∧ lgR x s task r x.tasks.length ≤ 4096 from fun r hr => by rw [lgR_eq hG]; exact lgF_rng hG _ r hr)
  have HE := Lib.hid (blkR_eq hG s f task ht)
  obtain ⟨v0, hv0⟩ : ∃ v, blkF x s f (task : Int) = v := ⟨_, rfl⟩
  rw [hv0] at HE ⊢
  have H16 := hG.n16
  obtain ⟨nT, hnT⟩ : ∃ n, x.tasks.length = n := ⟨_, rfl⟩
  obtain ⟨nM, hnM⟩ : ∃ n, x.modes.length = n := ⟨_, rfl⟩
  obtain ⟨nE, hnE⟩ : ∃ n, x.edges.length = n := ⟨_, rfl⟩
  have HN := Lib.hid hnT
  rw [hnT, hnM, hnE] at HCl
  rw [hnT] at HB HLr H16 ht
  rw [hnT, hnM, hnE]
  obtain ⟨Z, hZ⟩ : ∃ Z, Z = w.heap.size := ⟨_, rfl⟩
  clear h hv0 hnT hnM hnE hG hf
  go_enter Tryd.func44, Tryd.ntmps44
  go_upto_region 1 with fail
  rw [← hZ]
  generalize hw2 : World.alloc _ _ = w2
  have H2 := Lib.hid (show Below w.heap.size w w2 ∧ RowAt w2 Z 26 #[.int .i64 x.res, .slice S.t.sp nT S.t.c, .slice S.m.sp nM S.m.c, .slice S.e.sp nE S.e.c] by
    rw [← hw2, hZ]
    exact ⟨(Below.refl _ _).alloc (Nat.le_refl _) _, RowAt.mk _ _ _⟩)
  clear hw2 hZ
  go_wp2
  go_loopg [9, 10] 8 (fun g u v wr => ∃ r : Nat, r + g = 8 ∧ u = .int .i64 (blkR x s f task r) ∧ v = .int .i64 (r : Nat) ∧ Aside (Below w.heap.size w wr ∧ RowAt wr Z 26 #[.int .i64 x.res, .slice S.t.sp nT S.t.c, .slice S.m.sp nM S.m.c, .slice S.e.sp nE S.e.c]))
  case atStart => exact ⟨0, by omega, rfl, rfl, H2.out⟩
  case round =>
    obtain ⟨r, hrg, rfl, rfl, HQ⟩ := hrel
    clear H2
    cases gk with
    | zero =>
      obtain rfl : r = 8 := by omega
      go_wp2
      go_ret
      exact ⟨by rw [HE.out]; rfl, HQ.out.1⟩
    | succ g1 =>
      have hr : r < 8 := by omega
      have hr8 : (r : Int) < 8 := by omega
      have HC := Lib.hid (HCl.out wr HQ.out.1 r hr)
      have hbr := HBr.out r (by omega)
      have hst := HB.out r
      have c0 : wr.cell? ⟨Z, 0, none⟩ = some (.int .i64 x.res) := HQ.out.2.cell 0
      have c1 : wr.cell? ⟨Z, 1, none⟩ = some (.slice S.t.sp nT S.t.c) := HQ.out.2.cell 1
      have c2 : wr.cell? ⟨Z, 2, none⟩ = some (.slice S.m.sp nM S.m.c) := HQ.out.2.cell 2
      have c3 : wr.cell? ⟨Z, 3, none⟩ = some (.slice S.e.sp nE S.e.c) := HQ.out.2.cell 3
      obtain ⟨cv, hcv⟩ : ∃ v, f r = v := ⟨_, rfl⟩
      obtain ⟨bv, hbv⟩ : ∃ v, blkR x s f task r = v := ⟨_, rfl⟩
      rw [hcv] at HC hst
      rw [hbv] at hst hbr ⊢
      clear hcv hbv
      by_cases hp : (task : Int) < cv
      · have HS := Lib.hid (show blkR x s f task (r + 1) = bv by rw [hst, if_neg (by omega)])
        clear hst
        go_wp2_with (go_at_call 72; refine HC.out.mono ?_; rintro e w3 ⟨rfl, b3⟩; have H3 := Lib.hid b3; clear b3 c0 c1 c2 c3 HC)
        go_roundg g1
        case measure => omega
        case rel => exact ⟨r + 1, by omega, by rw [HS.out], by go_num, HQ.out.1.trans (H3.out.mono HQ.out.1.size), HQ.out.2.new H3.out⟩
      · rw [if_pos (by omega)] at hst
        have HS := Lib.hid hst
        clear hst
        go_wp2_with (go_at_call 72; refine HC.out.mono ?_; rintro e w3 ⟨rfl, b3⟩; have H3 := Lib.hid (And.intro (HQ.out.1.trans (b3.mono HQ.out.1.size)) (HQ.out.2.new b3)); clear b3 c0 c1 c2 c3 HC)
        have c1 : w3.cell? ⟨Z, 1, none⟩ = some (.slice S.t.sp nT S.t.c) := H3.out.2.cell 1
        have hlr := HLr.out r hr
        have HSum := Lib.hid (show IntKind.i64.wrap (bv + lgR x s task r nT) = bv + lgR x s task r nT by rw [IntKind.wrap_i64]; omega)
        clear hlr
        go_loopg [11, 12] (nT - (task + 1)) (fun g u v wx => ∃ k : Nat, k + g = nT ∧ task < k ∧ u = .int .i64 (lgR x s task r k) ∧ v = .int .i64 (k : Nat) ∧ Aside (w3 = wx))
        case atStart => exact ⟨task + 1, by omega, by omega, by rw [HL0.out], by go_num, rfl⟩
        case round =>
          obtain ⟨k, hkg, htk, rfl, rfl, hwx⟩ := hrel
          obtain rfl := hwx.out
          clear hwx
          cases gk with
          | zero =>
            obtain rfl : k = nT := by omega
            have hsum := HSum.out
            obtain ⟨lv, hlv⟩ : ∃ v, lgR x s task r k = v := ⟨_, rfl⟩
            rw [hlv] at hsum HS ⊢
            clear hlv
            go_wp2
            go_roundg g1
            case measure => omega
            case rel => exact ⟨r + 1, by omega, by rw [HS.out], by go_num, H3.out⟩
          | succ g2 =>
            have hk : k < nT := by omega
            have HH := Lib.hid (has10_any s (k : Int) w3)
            rw [hasB_nat s k (by omega)] at HH
            have HI2 := Lib.hid (HI.out.new H3.out.1)
            obtain ⟨hcs, h8⟩ := HI2.out.tk k (by rw [HN.out]; exact hk)
            obtain ⟨hsp, -, -⟩ := HI2.out.st.at_ (by rw [HN.out]; omega)
            have q := hcs (3 + r) _ (lon_at h8 r hr)
            rw [hsp] at c1
            rw [show S.t.o + k * 11 + (3 + r) = S.t.o + k * 11 + 3 + r by omega] at q
            have e1 : (k : Int) < (nT : Int) := by omega
            have hls := HLs.out r k htk
            obtain ⟨a, ha⟩ : ∃ a, lonF x k r = a := ⟨_, rfl⟩
            obtain ⟨m, hm⟩ : ∃ a, lgR x s task r k = a := ⟨_, rfl⟩
            obtain ⟨bb, hbb⟩ : ∃ b, s.getLsbD k = b := ⟨_, rfl⟩
            rw [ha, hbb, hm] at hls
            rw [hm]
            rw [ha] at q
            rw [hbb] at HH
            have HLS := Lib.hid hls
            clear ha hbb hm hls hcs h8 hsp HI2
            cases bb with
            | true =>
              by_cases hp2 : m < a
              · have HE2 := Lib.hid (show lgR x s task r (k + 1) = a by rw [HLS.out, if_pos rfl]; omega)
                go_wp2_with (go_at_call 41; refine HH.out.mono ?_; rintro e w' ⟨rfl, rfl⟩; clear HH)
                go_roundg g2
                case measure => omega
                case rel => exact ⟨k + 1, by omega, by omega, by rw [HE2.out], by go_num, rfl⟩
              · have HE2 := Lib.hid (show lgR x s task r (k + 1) = m by rw [HLS.out, if_pos rfl]; omega)
                go_wp2_with (go_at_call 41; refine HH.out.mono ?_; rintro e w' ⟨rfl, rfl⟩; clear HH)
                go_roundg g2
                case measure => omega
                case rel => exact ⟨k + 1, by omega, by omega, by rw [HE2.out], by go_num, rfl⟩
            | false =>
              have HE2 := Lib.hid (show lgR x s task r (k + 1) = m by rw [HLS.out, if_neg (by decide)])
              go_wp2_with (go_at_call 41; refine HH.out.mono ?_; rintro e w' ⟨rfl, rfl⟩; clear HH)
              go_roundg g2
              case measure => omega
              case rel => exact ⟨k + 1, by omega, by omega, by rw [HE2.out], by go_num, rfl⟩
end Go.Proofs.YtchmdnmifpjfkaaDoor
/- The contract of the reference's Ahead. -/
namespace Go.Proofs.YtchmdnmifpjfkaaDoor
open Go.RowKit

theorem tmL_succ (x : Img) (s : BitVec 32) (i : Nat) : tmRow (tmL x (lst s (i + 1))) = if s.getLsbD i = true then tmRow (tmL x (lst s i)) ++ tmC (tmOf x i) else tmRow (tmL x (lst s i)) := by
  rw [lst_succ]
  split
  · unfold tmL; rw [List.map_append]; exact tmRow_snoc _ _
  · rfl
set_option maxHeartbeats 4000000 in
set_option maxRecDepth 100000 in
theorem Ahead_any {w : World} {V : Nat → Prop} {x : Img} {S : ImgS} (h : ImgAt w V x S) (hG : GoodI x) (s : BitVec 32) (n : Nat) :
    Calls Tryd.prog 73 #[.agg #[.int .i64 x.res, .slice S.t.sp x.tasks.length S.t.c, .slice S.m.sp x.modes.length S.m.c, .slice S.e.sp x.edges.length S.e.c], .int .u32 (w32 s), .int .i64 (n : Nat)] w fun e w' => ∃ v, e = .returned v ∧ w'.ownsRow w.heap.size 89 4 v (tmL x (aheadL x s n)).length (tmRow (tmL x (aheadL x s n))) ∧ Below w.heap.size w w' := by
  obtain ⟨i0, hi, hz0, hz1, hz2⟩ := info_parts (show (Tryd.prog.info? 89).map (fun i => (i.zero, i.size, i.bytes)) = some (some (.agg #[.int .i64 0, .int .i64 0, .int .i64 0, .int .i64 0]), 4, 32) from by kernel_rfl)
  have HI := Lib.hid h
  have H16 := hG.n16
  obtain ⟨M, hM⟩ : ∃ M, min n x.tasks.length = M := ⟨_, rfl⟩
  have HA := Lib.hid (show aheadL x s n = lst s M by rw [← hM]; rfl)
  rw [HA.out, tmL_len]
  obtain ⟨nT, hnT⟩ : ∃ n, x.tasks.length = n := ⟨_, rfl⟩
  obtain ⟨nM, hnM⟩ : ∃ n, x.modes.length = n := ⟨_, rfl⟩
  obtain ⟨nE, hnE⟩ : ∃ n, x.edges.length = n := ⟨_, rfl⟩
  have HN := Lib.hid hnT
  rw [hnT] at hM H16
  have HM := Lib.hid hM
  rw [hnT, hnM, hnE]
  obtain ⟨rf, hrf⟩ : ∃ rf : Nat → List Value, (fun i => tmRow (tmL x (lst s i))) = rf := ⟨_, rfl⟩
  have HRf := Lib.hid (show ∀ i, rf (i + 1) = if s.getLsbD i = true then rf i ++ tmC (tmOf x i) else rf i from fun i => by rw [← hrf]; exact tmL_succ x s i)
  have HR0 := Lib.hid (show rf 0 = [] by rw [← hrf]; rfl)
  have e1 : tmRow (tmL x (lst s M)) = rf M := by rw [← hrf]
  rw [e1]
  obtain ⟨Z, hZ⟩ : ∃ Z, Z = w.heap.size := ⟨_, rfl⟩
  have HZ := Lib.hid hZ
  clear h hnT hnM hnE hG hM hrf e1 HA
  go_enter Tryd.func73, Tryd.ntmps73
  go_upto_region 1 with fail
  rw [← hZ]
  generalize hw2 : World.alloc _ _ = w2
  have H2 := Lib.hid (show Below w.heap.size w w2 ∧ RowAt w2 Z 26 #[.int .i64 x.res, .slice S.t.sp nT S.t.c, .slice S.m.sp nM S.m.c, .slice S.e.sp nE S.e.c] ∧ w2.heap.size = Z + 1 by
    rw [← hw2, hZ]
    exact ⟨(Below.refl _ _).alloc (Nat.le_refl _) _, RowAt.mk _ _ _, by simp⟩)
  clear hw2 hZ
  go_wp2
  go_loopg [7, 8] M (fun g u v wr => ∃ i : Nat, i + g = M ∧ v = .int .i64 (i : Nat) ∧ Aside (Below (Z + 1) w2 wr ∧ wr.ownsRow (Z + 1) 89 4 u (lst s i).length (rf i)))
  case atStart => exact ⟨0, by omega, rfl, Below.refl _ _, by rw [HR0.out]; exact World.ownsRow_nil _ _ _ _⟩
  case round =>
    obtain ⟨i, hig, rfl, HQ⟩ := hrel
    have HIm := Lib.hid (show RowAt wr Z 26 #[.int .i64 x.res, .slice S.t.sp nT S.t.c, .slice S.m.sp nM S.m.c, .slice S.e.sp nE S.e.c] from H2.out.2.1.new (by rw [H2.out.2.2]; exact HQ.out.1))
    have c1 : wr.cell? ⟨Z, 1, none⟩ = some (.slice S.t.sp nT S.t.c) := HIm.out.cell 1
    obtain ⟨sp', cap, rfl⟩ := own_val HQ.out.2
    cases gk with
    | zero =>
      obtain rfl : i = M := by omega
      have hMM := HM.out
      have HF := Lib.hid (show wr.ownsRow w.heap.size 89 4 (.slice sp' (lst s i).length cap) (lst s i).length (rf i) ∧ Below w.heap.size w wr from ⟨own_mono HQ.out.2 (by have := HZ.out; omega), H2.out.1.trans (HQ.out.1.mono (by have := HZ.out; omega))⟩)
      by_cases hlt : i < nT
      · obtain rfl : i = n := by omega
        go_wp2
        go_ret
        exact ⟨_, rfl, HF.out⟩
      · obtain rfl : i = nT := by omega
        go_wp2
        go_ret
        exact ⟨_, rfl, HF.out⟩
    | succ g1 =>
      have hMM := HM.out
      have hk : i < nT := by omega
      have hkn : i < n := by omega
      have e1 : (i : Int) < (nT : Int) := by omega
      have e2 : (i : Int) < (n : Int) := by omega
      have HH := Lib.hid (has10_any s (i : Int) wr)
      rw [hasB_nat s i (by omega)] at HH
      have hls := HRf.out i
      have hl1 := lst_succ s i
      cases hbb : s.getLsbD i
      case false =>
        rw [hbb] at HH hls hl1
        have HLS := Lib.hid (And.intro hls hl1)
        clear hls hl1 hbb hMM
        go_wp2_with (first
          | (go_at_call 41; refine HH.out.mono ?_; rintro e w' ⟨rfl, rfl⟩)
          | fail)
        go_roundg g1
        case measure => omega
        case rel => exact ⟨i + 1, by omega, by go_num, HQ.out.1, by rw [HLS.out.1, HLS.out.2]; exact HQ.out.2⟩
      case true =>
        rw [hbb] at HH hls hl1
        have HLS := Lib.hid (And.intro hls hl1)
        have HIw := Lib.hid (HI.out.new (H2.out.1.trans (HQ.out.1.mono (by have := HZ.out; omega))))
        obtain ⟨hcs, h8⟩ := HIw.out.tk i (by rw [HN.out]; exact hk)
        obtain ⟨hsp, hbs, -⟩ := HIw.out.st.at_ (by rw [HN.out]; omega)
        have q0 : wr.cell? ⟨S.t.b, S.t.o + i * 11, none⟩ = some (.int .i64 (x.t i).per) := hcs 0 _ rfl
        have q2 : wr.cell? ⟨S.t.b, S.t.o + i * 11 + 2, none⟩ = some (.int .i64 (x.t i).cost) := hcs 2 _ rfl
        have hSb : S.t.b < Z + 1 := by
          have h0 := (HI.out.tk i (by rw [HN.out]; omega)).1 0 _ rfl
          have h1 := World.block_lt_of_cell? w _ h0
          have := HZ.out; simp only at h1; omega
        obtain ⟨a0, ha0⟩ : ∃ a, (x.t i).per = a := ⟨_, rfl⟩
        obtain ⟨a2, ha2⟩ : ∃ a, (x.t i).cost = a := ⟨_, rfl⟩
        have HT := Lib.hid (show tmC (tmOf x i) = [.int .i64 a0, .int .i64 a2, .int .i64 0, .int .i64 0] by rw [← ha0, ← ha2]; rfl)
        rw [ha0] at q0
        rw [ha2] at q2
        rw [hsp] at c1
        have HCe := Lib.hid (show ∀ w', Below (Z + 1) wr w' → (w'.cell? ⟨Z, 1, none⟩ = some (.slice (some ⟨S.t.b, S.t.o, none⟩) nT S.t.c) ∧ w'.cell? ⟨S.t.b, S.t.o + i * 11, none⟩ = some (.int .i64 a0) ∧ w'.cell? ⟨S.t.b, S.t.o + i * 11 + 2, none⟩ = some (.int .i64 a2)) from fun w' hb =>
          ⟨(hb.cell (show Z < Z + 1 by omega)).trans c1, (hb.cell hSb).trans q0, (hb.cell hSb).trans q2⟩)
        have HLen := Lib.hid (show (lst s i).length ≤ 16 by have := lst_len s i; omega)
        clear hls hl1 hbb hMM hcs h8 hsp hbs q0 q2 hSb ha0 ha2 HIw
        go_upto_region 6 with (first
          | (go_at_call 41; refine HH.out.mono ?_; rintro e w' ⟨rfl, rfl⟩)
          | fail)
        clear c1 HH
        have HQ2 := Lib.hid (show Below (Z + 1) w2 wr.drew ∧ wr.drew.ownsRow (Z + 1) 89 4 (.slice sp' (lst s i).length cap) (lst s i).length (rf i) from ⟨below_dn HQ.out.1 1, HQ.out.2⟩)
        refine wp_region_held_drew (S := fun w' => Below (Z + 1) wr w') (by kernel_rfl) (below_dn (Below.refl _ _) 1) (fun hS => ?_)
        refine wpAnyH_take (i := 0) (oi := { dst := some 24, op := .move (.tmp 7), type := 86, pos := "ref.go:43", after := #[], guard := none }) (v := ?_) rfl (by kernel_rfl) (by kernel_rfl) (by kernel_rfl) (fun _ _ _ h => h) (Or.inl ⟨by rfl, ?_⟩) hS ?_
        rotate_left 1
        · intro w hw; obtain hs := hw; go_simp; try (with_reducible rfl)
        simp only [Act.put, List.setIfInBounds_toArray, List.set_cons_zero, List.set_cons_succ]
        refine wpAnyH_take (i := 1) (oi := { dst := some 25, op := .fieldAddr 26 (.tmp 3) 1, type := 0, pos := "ref.go:43", after := #[], guard := none }) (v := ?_) rfl (by kernel_rfl) (by kernel_rfl) (by kernel_rfl) (fun _ _ _ h => h) (Or.inl ⟨by rfl, ?_⟩) hS ?_
        rotate_left 1
        · intro w hw; obtain hs := hw; go_simp; try (with_reducible rfl)
        simp only [Act.put, List.setIfInBounds_toArray, List.set_cons_zero, List.set_cons_succ]
        refine wpAnyH_take (i := 2) (oi := { dst := some 26, op := .load 22 (.tmp 25), type := 22, pos := "ref.go:43", after := #[{ on := 1, ground := .data }], guard := none }) (v := ?_) rfl (by kernel_rfl) (by kernel_rfl) (by kernel_rfl) (fun _ _ _ h => h) (Or.inl ⟨by rfl, ?_⟩) hS ?_
        rotate_left 1
        · intro w hw; obtain hs := hw; obtain ⟨k0, k1, k2⟩ := HCe.out _ hw; go_simp; try (with_reducible rfl)
        simp only [Act.put, List.setIfInBounds_toArray, List.set_cons_zero, List.set_cons_succ]
        refine wpAnyH_take (i := 3) (oi := { dst := some 27, op := .move (.tmp 8), type := 3, pos := "ref.go:43", after := #[], guard := none }) (v := ?_) rfl (by kernel_rfl) (by kernel_rfl) (by kernel_rfl) (fun _ _ _ h => h) (Or.inl ⟨by rfl, ?_⟩) hS ?_
        rotate_left 1
        · intro w hw; obtain hs := hw; go_simp; try (with_reducible rfl)
        simp only [Act.put, List.setIfInBounds_toArray, List.set_cons_zero, List.set_cons_succ]
        refine wpAnyH_take (i := 4) (oi := { dst := some 28, op := .indexAddr 22 (.tmp 26) (.tmp 27), type := 0, pos := "ref.go:43", after := #[{ on := 2, ground := .data }, { on := 3, ground := .data }], guard := none }) (v := ?_) rfl (by kernel_rfl) (by kernel_rfl) (by kernel_rfl) (fun _ _ _ h => h) (Or.inl ⟨by rfl, ?_⟩) hS ?_
        rotate_left 1
        · intro w hw; obtain hs := hw; obtain ⟨k0, k1, k2⟩ := HCe.out _ hw; go_simp; try (with_reducible rfl)
        simp only [Act.put, List.setIfInBounds_toArray, List.set_cons_zero, List.set_cons_succ]
        refine wpAnyH_take (i := 5) (oi := { dst := some 29, op := .fieldAddr 70 (.tmp 28) 0, type := 0, pos := "ref.go:43", after := #[{ on := 4, ground := .data }], guard := none }) (v := ?_) rfl (by kernel_rfl) (by kernel_rfl) (by kernel_rfl) (fun _ _ _ h => h) (Or.inl ⟨by rfl, ?_⟩) hS ?_
        rotate_left 1
        · intro w hw; obtain hs := hw; go_simp; try (with_reducible rfl)
        simp only [Act.put, List.setIfInBounds_toArray, List.set_cons_zero, List.set_cons_succ]
        refine wpAnyH_take (i := 6) (oi := { dst := some 30, op := .load 3 (.tmp 29), type := 3, pos := "ref.go:43", after := #[{ on := 5, ground := .data }], guard := none }) (v := ?_) rfl (by kernel_rfl) (by kernel_rfl) (by kernel_rfl) (fun _ _ _ h => h) (Or.inl ⟨by rfl, ?_⟩) hS ?_
        rotate_left 1
        · intro w hw; obtain hs := hw; obtain ⟨k0, k1, k2⟩ := HCe.out _ hw; go_simp; try (with_reducible rfl)
        simp only [Act.put, List.setIfInBounds_toArray, List.set_cons_zero, List.set_cons_succ]
        refine wpAnyH_take (i := 7) (oi := { dst := some 31, op := .fieldAddr 26 (.tmp 3) 1, type := 0, pos := "ref.go:43", after := #[], guard := none }) (v := ?_) rfl (by kernel_rfl) (by kernel_rfl) (by kernel_rfl) (fun _ _ _ h => h) (Or.inl ⟨by rfl, ?_⟩) hS ?_
        rotate_left 1
        · intro w hw; obtain hs := hw; go_simp; try (with_reducible rfl)
        simp only [Act.put, List.setIfInBounds_toArray, List.set_cons_zero, List.set_cons_succ]
        refine wpAnyH_take (i := 8) (oi := { dst := some 32, op := .load 22 (.tmp 31), type := 22, pos := "ref.go:43", after := #[{ on := 7, ground := .data }], guard := none }) (v := ?_) rfl (by kernel_rfl) (by kernel_rfl) (by kernel_rfl) (fun _ _ _ h => h) (Or.inl ⟨by rfl, ?_⟩) hS ?_
        rotate_left 1
        · intro w hw; obtain hs := hw; obtain ⟨k0, k1, k2⟩ := HCe.out _ hw; go_simp; try (with_reducible rfl)
        simp only [Act.put, List.setIfInBounds_toArray, List.set_cons_zero, List.set_cons_succ]
        refine wpAnyH_take (i := 9) (oi := { dst := some 33, op := .move (.tmp 8), type := 3, pos := "ref.go:43", after := #[], guard := none }) (v := ?_) rfl (by kernel_rfl) (by kernel_rfl) (by kernel_rfl) (fun _ _ _ h => h) (Or.inl ⟨by rfl, ?_⟩) hS ?_
        rotate_left 1
        · intro w hw; obtain hs := hw; go_simp; try (with_reducible rfl)
        simp only [Act.put, List.setIfInBounds_toArray, List.set_cons_zero, List.set_cons_succ]
        refine wpAnyH_take (i := 10) (oi := { dst := some 34, op := .indexAddr 22 (.tmp 32) (.tmp 33), type := 0, pos := "ref.go:43", after := #[{ on := 8, ground := .data }, { on := 9, ground := .data }], guard := none }) (v := ?_) rfl (by kernel_rfl) (by kernel_rfl) (by kernel_rfl) (fun _ _ _ h => h) (Or.inl ⟨by rfl, ?_⟩) hS ?_
        rotate_left 1
        · intro w hw; obtain hs := hw; obtain ⟨k0, k1, k2⟩ := HCe.out _ hw; go_simp; try (with_reducible rfl)
        simp only [Act.put, List.setIfInBounds_toArray, List.set_cons_zero, List.set_cons_succ]
        refine wpAnyH_take (i := 11) (oi := { dst := some 35, op := .fieldAddr 70 (.tmp 34) 2, type := 0, pos := "ref.go:43", after := #[{ on := 10, ground := .data }], guard := none }) (v := ?_) rfl (by kernel_rfl) (by kernel_rfl) (by kernel_rfl) (fun _ _ _ h => h) (Or.inl ⟨by rfl, ?_⟩) hS ?_
        rotate_left 1
        · intro w hw; obtain hs := hw; go_simp; try (with_reducible rfl)
        simp only [Act.put, List.setIfInBounds_toArray, List.set_cons_zero, List.set_cons_succ]
        refine wpAnyH_take (i := 12) (oi := { dst := some 36, op := .load 3 (.tmp 35), type := 3, pos := "ref.go:43", after := #[{ on := 11, ground := .data }], guard := none }) (v := ?_) rfl (by kernel_rfl) (by kernel_rfl) (by kernel_rfl) (fun _ _ _ h => h) (Or.inl ⟨by rfl, ?_⟩) hS ?_
        rotate_left 1
        · intro w hw; obtain hs := hw; obtain ⟨k0, k1, k2⟩ := HCe.out _ hw; go_simp; try (with_reducible rfl)
        simp only [Act.put, List.setIfInBounds_toArray, List.set_cons_zero, List.set_cons_succ]
        refine wpAnyH_take (i := 13) (oi := { dst := some 37, op := .build 89 #[(0, .tmp 30), (1, .tmp 36)], type := 89, pos := "ref.go:43", after := #[{ on := 6, ground := .data }, { on := 12, ground := .data }], guard := none }) (v := ?_) rfl (by kernel_rfl) (by kernel_rfl) (by kernel_rfl) (fun _ _ _ h => h) (Or.inl ⟨by rfl, ?_⟩) hS ?_
        rotate_left 1
        · intro w hw; obtain hs := hw; go_simp; try (with_reducible rfl)
        simp only [Act.put, List.setIfInBounds_toArray, List.set_cons_zero, List.set_cons_succ]
        refine wpAnyH_ready (rs := [14]) (by kernel_rfl) (by simp) (AllReadyH.cons (o := { dst := some 38, op := .buildSlice 86 1 #[(0, .tmp 37)], type := 86, pos := "ref.go:43", after := #[{ on := 13, ground := .data }], guard := none }) rfl (fun K hK => ?_) AllReadyH.nil)
        go_simp
        refine hK.out _ _ (((below_dn (Below.refl _ _) 1)).alloc (by have := HQ.out.1.size; have := H2.out.2.2; simp; omega) _) (fun hHeld => ?_)
        clear hK K
        try simp only [Act.put, List.setIfInBounds_toArray, List.set_cons_zero, List.set_cons_succ]
        refine wpAnyH_ready (rs := [15]) (by kernel_rfl) (by simp) (AllReadyH.cons (o := { dst := some 39, op := .call { callee := .builtin .append, args := #[.tmp 24, .tmp 38], argTypes := #[86, 86] }, type := 86, pos := "ref.go:43", after := #[{ on := 0, ground := .data }, { on := 14, ground := .data }], guard := none }) rfl (fun K hK => ?_) AllReadyH.nil)
        rw [if_pos (by rfl)]
        refine wp_append_vary (.tmp 24) (.tmp 38) 86 (by rfl) (Z + 1) 89 i0 (.agg #[.int .i64 0, .int .i64 0, .int .i64 0, .int .i64 0]) 4 32 Tryd.underlying86 hi hz0 hz1 hz2 rfl (by decide) (.slice sp' (lst s i).length cap) (lst s i).length _ (by rfl) (HQ2.out.2.alloc _) (some ⟨wr.drew.heap.size, 0, none⟩) 1 1 [.int .i64 a0, .int .i64 a2, .int .i64 0, .int .i64 0] (by rfl) rfl (fun h => nomatch h) (fun ad h => by obtain rfl := Option.some.inj h; exact four_new _ _ _ _ _ _) (by simp [Value.oneCell']) (by have := HLen.out; unfold maxLen; omega) (by have := HLen.out; omega) (by have h1 := HQ.out.1.size; have h2 := H2.out.2.2; show Z + 1 ≤ (wr.alloc _).heap.size; rw [World.size_alloc]; omega) ?_
        intro v' w4 hown' hgrow hat
        obtain ⟨sp2, cap', rfl⟩ := own_val hown'
        have H8 := Lib.hid (show Below (Z + 1) wr w4 from Below.grown hHeld hgrow (by have h1 := HQ.out.1.size; have h2 := H2.out.2.2; show Z + 1 ≤ (wr.alloc _).heap.size; rw [World.size_alloc]; omega) (own_ge HQ.out.2))
        have H9 := Lib.hid hown'
        clear hown' hgrow hat
        refine hK.out _ _ H8.out (fun hHeld => ?_)
        clear hK K
        try simp only [Act.put, List.setIfInBounds_toArray, List.set_cons_zero, List.set_cons_succ]
        refine wpAnyH_ready (rs := [16]) (by kernel_rfl) (by simp) (AllReadyH.cons (o := { dst := some 7, op := .assign (.tmp 39), type := 86, pos := "ref.go:43", after := #[{ on := 15, ground := .data }, { on := 15, ground := .chain }, { on := 0, ground := .phase }, { on := 1, ground := .phase }, { on := 2, ground := .phase }, { on := 3, ground := .phase }, { on := 4, ground := .phase }, { on := 5, ground := .phase }, { on := 6, ground := .phase }, { on := 7, ground := .phase }, { on := 8, ground := .phase }, { on := 9, ground := .phase }, { on := 10, ground := .phase }, { on := 11, ground := .phase }, { on := 12, ground := .phase }, { on := 13, ground := .phase }, { on := 14, ground := .phase }, { on := 15, ground := .phase }], guard := none }) rfl (fun K hK => ?_) AllReadyH.nil)
        go_simp
        refine hK.out _ _ H8.out (fun hHeld => ?_)
        clear hK K
        try simp only [Act.put, List.setIfInBounds_toArray, List.set_cons_zero, List.set_cons_succ]
        refine wpAnyH_done (by kernel_rfl) ?_ _

        go_wp2
        go_roundg g1
        case measure => omega
        case rel =>
          refine ⟨i + 1, by omega, by go_num, HQ.out.1.trans H8.out, ?_⟩
          rw [HLS.out.1, if_pos trivial, HT.out, HLS.out.2, if_pos trivial, List.length_append, List.length_singleton]
          exact H9.out
end Go.Proofs.YtchmdnmifpjfkaaDoor
