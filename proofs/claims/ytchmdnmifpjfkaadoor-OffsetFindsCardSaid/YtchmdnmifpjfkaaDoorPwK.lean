/- The walk of OffsetFinds. -/
import Derived.Test.YtchmdnmifpjfkaaDoorPwJ
namespace Go.Proofs.YtchmdnmifpjfkaaDoor
open Go.RowKit

/-- Where the walk's boxes lie. -/
structure FnAt (w : World) (Z P Q : Nat) (I l m : Array Value) (W : World) : Prop where
  b0 : Below w.heap.size w W
  im : RowAt W Z 26 I
  lr : RowAt W P 27 l
  mr : RowAt W Q 27 m
  d : w.heap.size ≤ Z ∧ Z < P ∧ P < Q
theorem FnAt.next {w W W' : World} {Z P Q : Nat} {I l m : Array Value} (h : FnAt w Z P Q I l m W) (hb : Below W.heap.size W W') : FnAt w Z P Q I l m W' :=
  ⟨h.b0.trans (hb.mono h.b0.size), h.im.new hb, h.lr.new hb, h.mr.new hb, h.d⟩
theorem FnAt.set {w W : World} {Z P Q : Nat} {I l m : Array Value} (h : FnAt w Z P Q I l m W) (j : Nat) (v : Value) : FnAt w Z P Q I l (m.setIfInBounds j v) (W.setCell ⟨Q, j, none⟩ v) := by
  have hc : Ch (fun b => b = Q) W (W.setCell ⟨Q, j, none⟩ v) := (Ch.refl _ _).setCell _ v (.inl rfl)
  have hd := h.d
  exact ⟨h.b0.setCell (by show w.heap.size ≤ Q; omega) v, h.im.keep hc (by omega), h.lr.keep hc (by omega), h.mr.setC j v, h.d⟩
theorem tml_lit (L : Nat → Int) : (tml L).toArray = #[.int .i64 (L 0), .int .i64 (L 1), .int .i64 (L 2), .int .i64 (L 3), .int .i64 (L 4), .int .i64 (L 5), .int .i64 (L 6), .int .i64 (L 7), .int .i64 (L 8), .int .i64 (L 9), .int .i64 (L 10), .int .i64 (L 11), .int .i64 (L 12), .int .i64 (L 13), .int .i64 (L 14), .int .i64 (L 15)] := rfl
set_option maxHeartbeats 16000000 in
set_option maxRecDepth 100000 in
theorem law_finds20 {w : World} {V : Nat → Prop} {x : Img} {S : ImgS} (h : ImgAt w V x S) (ht : Tab w) (hcap : x.tasks.length ≤ S.t.c) (k : Int) :
    Calls Tryd.prog 5 #[.agg #[.int .i64 x.res, .slice S.t.sp x.tasks.length S.t.c, .slice S.m.sp x.modes.length S.m.c, .slice S.e.sp x.edges.length S.e.c], .int .i64 k] w fun e w' => e = .returned (.bool true) ∧ Below w.heap.size w w' := by
  have hp := ht.pos
  have HGr := Lib.hid (show ∀ wx, Below w.heap.size w wx → _ from fun wx hb => great10_any (h.new hb))
  have HRi := Lib.hid (show ∀ wx, Below w.heap.size w wx → _ from fun wx hb => rRight_any (h.new hb))
  have HAl := Lib.hid (show ∀ wx, Below w.heap.size w wx → _ from fun wx hb => l20alive_any wx (ht.below hp hb))
  have HFd := Lib.hid (show GoodI x → ∀ wx, Below w.heap.size w wx → _ from fun hG wx hb => ofFind_any (⟨h.new hb, ht.below hp hb, hG, hcap⟩ : ImgOk wx V x S) k)
  have HFt := Lib.hid (show GoodI x → ∀ (l : Nat → Int) (b : Bool), (∀ j, j < 16 → 0 ≤ l j ∧ l j ≤ 16384) → fitE x k l = b → ∀ wx, Below w.heap.size w wx → Calls Tryd.prog 23 #[.agg #[.int .i64 x.res, .slice S.t.sp x.tasks.length S.t.c, .slice S.m.sp x.modes.length S.m.c, .slice S.e.sp x.edges.length S.e.c], .int .i64 k, .agg (tml l).toArray] wx fun e w' => e = .returned (.bool b) ∧ Below wx.heap.size wx w' from fun hG l b hl hb wx hw => by
    rw [← hb]
    exact l20fits_any (⟨h.new hw, ht.below hp hw, hG, hcap⟩ : ImgOk wx V x S) k l hl)
  have HAll := Lib.hid (show rightB x = true → 0 ≤ k ∧ k < (x.edges.length : Int) → ∀ wx, Below w.heap.size w wx → Calls Tryd.prog 24 #[.agg #[.int .i64 x.res, .slice S.t.sp x.tasks.length S.t.c, .slice S.m.sp x.modes.length S.m.c, .slice S.e.sp x.edges.length S.e.c], .int .i64 k, .int .i64 16384] wx fun e w' => e = .returned (.agg (tml (gF x k 0)).toArray) ∧ Below wx.heap.size wx w' from fun hr hk wx hb => by
    obtain ⟨m, rfl⟩ : ∃ m : Nat, k = m := ⟨k.toNat, by omega⟩
    exact l20all_any (h.new hb) hr m (by omega) 16384)
  have HFr := Lib.hid (show rightB x = true → 0 ≤ k ∧ k < (x.edges.length : Int) → ∀ i, i < 16 → ∀ wx, Below w.heap.size w wx → Calls Tryd.prog 26 #[.agg #[.int .i64 x.res, .slice S.t.sp x.tasks.length S.t.c, .slice S.m.sp x.modes.length S.m.c, .slice S.e.sp x.edges.length S.e.c], .int .i64 k, .int .i64 (i : Nat)] wx fun e w' => e = .returned (.bool ((frE x k).getLsbD i)) ∧ Below wx.heap.size wx w' from fun hr hk i hi wx hb => by
    obtain ⟨m, rfl⟩ : ∃ m : Nat, k = m := ⟨k.toNat, by omega⟩
    exact l20fresh_any (h.new hb) hr m (by omega) i hi)
  have HIn := Lib.hid (show ¬ (0 ≤ k ∧ k < (x.edges.length : Int)) → fitE x k (farE x k) = false from fitE_in)
  have HNo := Lib.hid (show fitE x k (farE x k) = false → (tml (fdE x k)).toArray = z16 from fun h => by rw [fdE_no h]; rfl)
  have HYes := Lib.hid (show fitE x k (farE x k) = true → fdE x k = gF x k 16 ∧ fitE x k (gF x k 16) = true ∧ (∀ j, j < 16 → 0 ≤ gF x k 16 j ∧ gF x k 16 j ≤ 16384) from fun h => ⟨fdE_yes h, gF_fit h 16 (Nat.le_refl _), gF_rng x k 16⟩)
  have H0 := Lib.hid (show fitE x k (gF x k 0) = fitE x k (farE x k) from rfl)
  have HR0 := Lib.hid (gF_rng x k 0)
  have HBn := Lib.hid (show ∀ i, i < 16 → (frE x k).getLsbD i = false → gF x k (i + 1) = gF x k i ∧ gF x k 16 i = 0 from fun i hi hb => ⟨gF_no hb, gF_zero hi hb⟩)
  have HBy := Lib.hid (show fitE x k (farE x k) = true → ∀ i, i < 16 → (frE x k).getLsbD i = true → ∃ v : Nat, gF x k 16 i = (v : Int) ∧ gF x k (i + 1) = updF (gF x k i) i (v : Int) ∧ v ≤ 16384 ∧ fitE x k (gF x k (i + 1)) = true ∧ (∀ j, j < 16 → 0 ≤ gF x k (i + 1) j ∧ gF x k (i + 1) j ≤ 16384) ∧ ∀ m : Nat, m + 1 = v → fitE x k (updF (gF x k i) i (m : Int)) = false ∧ ∀ j, j < 16 → 0 ≤ updF (gF x k i) i (m : Int) j ∧ updF (gF x k i) i (m : Int) j ≤ 16384 from fun hf i hi hb => by
    obtain ⟨s1, s2, s3⟩ := gF_step hi (gF_fit hf i (by omega)) hb
    refine ⟨vF x k i, gF_val hi hb, gF_yes hb, s1, by rw [gF_yes hb]; exact s2, gF_rng x k _, fun m hm => ⟨s3 m hm, fun j hj => ?_⟩⟩
    unfold updF
    split
    · omega
    · exact gF_rng x k i j hj)
  obtain ⟨bt, hbt⟩ : ∃ b : Nat → Bool, (frE x k).getLsbD = b := ⟨_, rfl⟩
  rw [hbt] at HFr HBn HBy
  obtain ⟨fr, hfr⟩ : ∃ b, fitE x k (farE x k) = b := ⟨_, rfl⟩
  rw [hfr] at HFd HIn HNo HYes H0 HBy
  obtain ⟨g, hg0⟩ : ∃ g, gF x k = g := ⟨_, rfl⟩
  rw [hg0] at HAll HYes H0 HR0 HBn HBy
  obtain ⟨L, hL⟩ : ∃ l, fdE x k = l := ⟨_, rfl⟩
  rw [hL] at HFd HNo HYes
  obtain ⟨p, hpp⟩ : ∃ p, fitE x k = p := ⟨_, rfl⟩
  rw [hpp] at HFt HYes H0 HBy
  have HLit := Lib.hid (tml_lit L)
  have HOk := Lib.hid tml_ok
  have HSet := Lib.hid (show ∀ (g : Nat → Int) (i : Nat) (u : Int), (tml g).toArray.setIfInBounds i (.int .i64 u) = (tml (updF g i u)).toArray from fun g i u => by rw [List.setIfInBounds_toArray, tml_set])
  have HCell := Lib.hid (show ∀ g : Nat → Int, ∀ i, i < 16 → (tml g).toArray[i]? = some (.int .i64 (g i)) from fun g i hi => by rw [List.getElem?_toArray]; exact tml_at g i hi)
  obtain ⟨C, hC⟩ : ∃ C : (Nat → Int) → Array Value, (fun g => (tml g).toArray) = C := ⟨_, rfl⟩
  have hCe : ∀ g, (tml g).toArray = C g := fun g => by rw [← hC]
  simp only [hCe] at HFd HFt HAll HNo HLit HOk HSet HCell
  have HC0 := Lib.hid hCe
  obtain ⟨nT, hnT⟩ : ∃ n, x.tasks.length = n := ⟨_, rfl⟩
  obtain ⟨nM, hnM⟩ : ∃ n, x.modes.length = n := ⟨_, rfl⟩
  obtain ⟨nE, hnE⟩ : ∃ n, x.edges.length = n := ⟨_, rfl⟩
  rw [hnT, hnM, hnE] at HGr HRi HFd HFt HAll HFr
  rw [hnE] at HIn
  rw [hnT, hnM, hnE]
  have hq := eq_z16
  unfold z16 at hq
  obtain ⟨Z, hZ⟩ : ∃ Z, Z = w.heap.size := ⟨_, rfl⟩
  have HZ := Lib.hid hZ
  clear h ht hp hcap hnT hnM hnE hpp hC hCe hL hfr hg0 hbt
  go_enter Tryd.func5, Tryd.ntmps5
  go_upto_region 1 with fail
  rw [← hZ]
  generalize hw2 : World.alloc _ _ = w2
  have H2 := Lib.hid (show Below w.heap.size w w2 ∧ RowAt w2 Z 26 #[.int .i64 x.res, .slice S.t.sp nT S.t.c, .slice S.m.sp nM S.m.c, .slice S.e.sp nE S.e.c] by
    rw [← hw2, hZ]
    exact ⟨(Below.refl _ _).alloc (Nat.le_refl _) _, RowAt.mk _ _ _⟩)
  clear hw2 hZ
  obtain ⟨c0, c1, c2, c3⟩ := img_cells H2.out.2
  cases hg : greatI x
  case true =>
    rw [hg] at HGr
    clear hg
    go_wp2_with (first
      | (go_at_call 20; refine (HGr.out _ H2.out.1).mono ?_; rintro e w3 ⟨rfl, b3⟩; have H3 := Lib.hid (H2.out.1.trans (b3.mono H2.out.1.size)); clear b3)
      | fail)
    go_ret
    exact ⟨rfl, H3.out⟩
  case false =>
    rw [hg] at HGr
    clear hg
    cases hr : rightB x
    case false =>
      rw [hr] at HRi
      clear hr
      go_wp2_with (first
        | (go_at_call 20; refine (HGr.out _ H2.out.1).mono ?_; rintro e w3 ⟨rfl, b3⟩; have H3 := Lib.hid (And.intro (H2.out.1.trans (b3.mono H2.out.1.size)) (H2.out.2.new b3)); clear b3 c0 c1 c2 c3 HGr; obtain ⟨c0, c1, c2, c3⟩ := img_cells H3.out.2)
        | (go_at_call 21; refine (HRi.out _ H3.out.1).mono ?_; rintro e w4 ⟨rfl, b4⟩; have H4 := Lib.hid (H3.out.1.trans (b4.mono H3.out.1.size)); clear b4)
        | fail)
      go_ret
      exact ⟨rfl, H4.out⟩
    case true =>
      have hG := rightB_good hr
      have HFd2 := Lib.hid (HFd.out hG)
      have HFt2 := Lib.hid (HFt.out hG)
      have HAll2 := Lib.hid (HAll.out hr)
      have HFr2 := Lib.hid (HFr.out hr)
      rw [hr] at HRi
      clear hr hG HFd HFt HAll HFr
      go_upto_region 4 with (first
        | (go_at_call 20; refine (HGr.out _ H2.out.1).mono ?_; rintro e w3 ⟨rfl, b3⟩; have H3 := Lib.hid (And.intro (H2.out.1.trans (b3.mono H2.out.1.size)) (H2.out.2.new b3)); clear b3 c0 c1 c2 c3 HGr; obtain ⟨c0, c1, c2, c3⟩ := img_cells H3.out.2)
        | (go_at_call 21; refine (HRi.out _ H3.out.1).mono ?_; rintro e w4 ⟨rfl, b4⟩; have H4 := Lib.hid (And.intro (H3.out.1.trans (b4.mono H3.out.1.size)) (H3.out.2.new b4)); clear b4 c0 c1 c2 c3 HRi; obtain ⟨c0, c1, c2, c3⟩ := img_cells H4.out.2)
        | (go_at_call 22; refine (HFd2.out _ H4.out.1).mono ?_; rintro e w4b ⟨rfl, b5⟩; have H4b := Lib.hid (And.intro (H4.out.1.trans (b5.mono H4.out.1.size)) (H4.out.2.new b5)); clear b5 c0 c1 c2 c3 HFd2)
        | (refine wpList_store_row rfl 27 (.tmp 5) (.tmp 20) rfl w4b.heap.size (C L) rfl rfl 27 (tml zF).toArray (RowAt.mk w4b _ _) (HOk.out _).1 (by rw [HC0.out, (HOk.out _).2.1, (HOk.out _).2.1]) (HOk.out _).2.2 ?_; generalize hw5 : World.setRow _ _ _ = w5)
        | fail)
      (try simp only [Act.put, List.setIfInBounds_toArray, List.set_cons_zero, List.set_cons_succ])
      obtain ⟨P, hP⟩ : ∃ P, w4b.heap.size = P := ⟨_, rfl⟩
      have H5 := Lib.hid (show Below w.heap.size w w5 ∧ RowAt w5 Z 26 #[.int .i64 x.res, .slice S.t.sp nT S.t.c, .slice S.m.sp nM S.m.c, .slice S.e.sp nE S.e.c] ∧ RowAt w5 P 27 (C L) ∧ Z < P by
        have b4 := alloc_row w4b (tml zF).toArray (C L) 27
        have hl := H4b.out.2.lt
        rw [← hP, ← hw5]
        exact ⟨H4b.out.1.trans (b4.1.mono H4b.out.1.size), H4b.out.2.new b4.1, b4.2, hl⟩)
      rw [hP]
      clear hw5 hP
      have HA := Lib.hid (show ∀ wx, Below w5.heap.size w5 wx → (wx.cell? ⟨Z, 0, none⟩ = some (.int .i64 x.res) ∧ wx.cell? ⟨Z, 1, none⟩ = some (.slice S.t.sp nT S.t.c) ∧ wx.cell? ⟨Z, 2, none⟩ = some (.slice S.m.sp nM S.m.c) ∧ wx.cell? ⟨Z, 3, none⟩ = some (.slice S.e.sp nE S.e.c)) ∧ Below w.heap.size w wx from fun wx hb => ⟨img_cells (H5.out.2.1.new hb), H5.out.1.trans (hb.mono H5.out.1.size)⟩)
      have HL := Lib.hid (show ∀ wx, Below w5.heap.size w5 wx → RowAt wx P 27 (C L) from fun wx hb => H5.out.2.2.1.new hb)
      by_cases h1 : k < 0
      · have hf : fr = false := HIn.out (by omega)
        subst hf
        have hz := HNo.out rfl
        refine wp_region_held_drew (S := fun w' => Below w5.heap.size w5 w') (by kernel_rfl) (below_dn (Below.refl _ _) 1) (fun hS => ?_)
        refine wpAnyH_take (i := 0) (oi := { dst := some 22, op := .move (.tmp 1), type := 3, pos := "law.go:50", after := #[], guard := none }) (v := ?_) rfl (by kernel_rfl) (by kernel_rfl) (by kernel_rfl) (fun _ _ _ h => h) (Or.inl ⟨by rfl, ?_⟩) hS ?_
        rotate_left 1
        · intro w hw; go_simp; try (with_reducible rfl)
        simp only [Act.put, List.setIfInBounds_toArray, List.set_cons_zero, List.set_cons_succ]
        refine wpAnyH_take (i := 1) (oi := { dst := some 23, op := .binOp .lss 3 (.tmp 22) (.const (.int .i64 0)) 3, type := 4, pos := "law.go:50", after := #[{ on := 0, ground := .data }], guard := none }) (v := ?_) rfl (by kernel_rfl) (by kernel_rfl) (by kernel_rfl) (fun _ _ _ h => h) (Or.inl ⟨by rfl, ?_⟩) hS ?_
        rotate_left 1
        · intro w hw; go_simp; try (with_reducible rfl)
        simp only [Act.put, List.setIfInBounds_toArray, List.set_cons_zero, List.set_cons_succ]
        refine wpAnyH_take (i := 2) (oi := { dst := some 24, op := .move (.tmp 23), type := 4, pos := "law.go:50", after := #[{ on := 1, ground := .data }], guard := none }) (v := ?_) rfl (by kernel_rfl) (by kernel_rfl) (by kernel_rfl) (fun _ _ _ h => h) (Or.inl ⟨by rfl, ?_⟩) hS ?_
        rotate_left 1
        · intro w hw; go_simp; try (with_reducible rfl)
        simp only [Act.put, List.setIfInBounds_toArray, List.set_cons_zero, List.set_cons_succ]
        refine wpAnyH_take (i := 3) (oi := { dst := some 25, op := .move (.tmp 1), type := 3, pos := "law.go:50", after := #[{ on := 2, ground := .guard }], guard := some (2, false) }) (v := undef) rfl (by kernel_rfl) (by kernel_rfl) (by kernel_rfl) (fun _ _ _ h => h) (Or.inr ⟨by rfl, rfl⟩) hS ?_
        simp only [Act.put, List.setIfInBounds_toArray, List.set_cons_zero, List.set_cons_succ]
        refine wpAnyH_take (i := 4) (oi := { dst := some 26, op := .fieldAddr 26 (.tmp 2) 3, type := 0, pos := "law.go:50", after := #[{ on := 2, ground := .guard }], guard := some (2, false) }) (v := undef) rfl (by kernel_rfl) (by kernel_rfl) (by kernel_rfl) (fun _ _ _ h => h) (Or.inr ⟨by rfl, rfl⟩) hS ?_
        simp only [Act.put, List.setIfInBounds_toArray, List.set_cons_zero, List.set_cons_succ]
        refine wpAnyH_take (i := 5) (oi := { dst := some 27, op := .load 24 (.tmp 26), type := 24, pos := "law.go:50", after := #[{ on := 4, ground := .data }, { on := 2, ground := .guard }], guard := some (2, false) }) (v := undef) rfl (by kernel_rfl) (by kernel_rfl) (by kernel_rfl) (fun _ _ _ h => h) (Or.inr ⟨by rfl, rfl⟩) hS ?_
        simp only [Act.put, List.setIfInBounds_toArray, List.set_cons_zero, List.set_cons_succ]
        refine wpAnyH_take (i := 6) (oi := { dst := some 28, op := .call { callee := .builtin .len, args := #[.tmp 27], argTypes := #[24] }, type := 3, pos := "law.go:50", after := #[{ on := 5, ground := .data }, { on := 2, ground := .guard }], guard := some (2, false) }) (v := undef) rfl (by kernel_rfl) (by kernel_rfl) (by kernel_rfl) (fun _ _ _ h => h) (Or.inr ⟨by rfl, rfl⟩) hS ?_
        simp only [Act.put, List.setIfInBounds_toArray, List.set_cons_zero, List.set_cons_succ]
        refine wpAnyH_take (i := 7) (oi := { dst := some 29, op := .binOp .geq 3 (.tmp 25) (.tmp 28) 3, type := 4, pos := "law.go:50", after := #[{ on := 3, ground := .data }, { on := 6, ground := .data }, { on := 2, ground := .guard }], guard := some (2, false) }) (v := undef) rfl (by kernel_rfl) (by kernel_rfl) (by kernel_rfl) (fun _ _ _ h => h) (Or.inr ⟨by rfl, rfl⟩) hS ?_
        simp only [Act.put, List.setIfInBounds_toArray, List.set_cons_zero, List.set_cons_succ]
        refine wpAnyH_take (i := 8) (oi := { dst := some 30, op := .pick (.tmp 24) (.const (.bool true)) (.tmp 29), type := 4, pos := "law.go:50", after := #[{ on := 2, ground := .data }, { on := 7, ground := .data }], guard := none }) (v := ?_) rfl (by kernel_rfl) (by kernel_rfl) (by kernel_rfl) (fun _ _ _ h => h) (Or.inl ⟨by rfl, ?_⟩) hS ?_
        rotate_left 1
        · intro w hw; go_simp; try (with_reducible rfl)
        simp only [Act.put, List.setIfInBounds_toArray, List.set_cons_zero, List.set_cons_succ]
        refine wpAnyH_take (i := 9) (oi := { dst := some 31, op := .move (.tmp 30), type := 4, pos := "law.go:50", after := #[{ on := 8, ground := .data }, { on := 2, ground := .chain }], guard := none }) (v := ?_) rfl (by kernel_rfl) (by kernel_rfl) (by kernel_rfl) (fun _ _ _ h => h) (Or.inl ⟨by rfl, ?_⟩) hS ?_
        rotate_left 1
        · intro w hw; go_simp; try (with_reducible rfl)
        simp only [Act.put, List.setIfInBounds_toArray, List.set_cons_zero, List.set_cons_succ]
        refine wpAnyH_take (i := 10) (oi := { dst := some 32, op := .load 26 (.tmp 2), type := 26, pos := "law.go:50", after := #[{ on := 9, ground := .guard }], guard := some (9, false) }) (v := undef) rfl (by kernel_rfl) (by kernel_rfl) (by kernel_rfl) (fun _ _ _ h => h) (Or.inr ⟨by rfl, rfl⟩) hS ?_
        simp only [Act.put, List.setIfInBounds_toArray, List.set_cons_zero, List.set_cons_succ]
        refine wpAnyH_take (i := 11) (oi := { dst := some 33, op := .move (.tmp 1), type := 3, pos := "law.go:50", after := #[{ on := 9, ground := .guard }], guard := some (9, false) }) (v := undef) rfl (by kernel_rfl) (by kernel_rfl) (by kernel_rfl) (fun _ _ _ h => h) (Or.inr ⟨by rfl, rfl⟩) hS ?_
        simp only [Act.put, List.setIfInBounds_toArray, List.set_cons_zero, List.set_cons_succ]
        refine wpAnyH_take (i := 12) (oi := { dst := some 34, op := .load 26 (.tmp 2), type := 26, pos := "law.go:50", after := #[{ on := 9, ground := .guard }], guard := some (9, false) }) (v := undef) rfl (by kernel_rfl) (by kernel_rfl) (by kernel_rfl) (fun _ _ _ h => h) (Or.inr ⟨by rfl, rfl⟩) hS ?_
        simp only [Act.put, List.setIfInBounds_toArray, List.set_cons_zero, List.set_cons_succ]
        refine wpAnyH_take (i := 13) (oi := { dst := some 35, op := .move (.tmp 1), type := 3, pos := "law.go:50", after := #[{ on := 9, ground := .guard }], guard := some (9, false) }) (v := undef) rfl (by kernel_rfl) (by kernel_rfl) (by kernel_rfl) (fun _ _ _ h => h) (Or.inr ⟨by rfl, rfl⟩) hS ?_
        simp only [Act.put, List.setIfInBounds_toArray, List.set_cons_zero, List.set_cons_succ]
        refine wpAnyH_take (i := 14) (oi := { dst := some 36, op := .call { callee := .value (.func 24), args := #[.tmp 34, .tmp 35, .const (.int .i64 16384)], argTypes := #[26, 3, 3] }, type := 27, pos := "law.go:50", after := #[{ on := 12, ground := .data }, { on := 13, ground := .data }, { on := 9, ground := .chain }, { on := 9, ground := .guard }], guard := some (9, false) }) (v := undef) rfl (by kernel_rfl) (by kernel_rfl) (by kernel_rfl) (fun _ _ _ h => h) (Or.inr ⟨by rfl, rfl⟩) hS ?_
        simp only [Act.put, List.setIfInBounds_toArray, List.set_cons_zero, List.set_cons_succ]
        refine wpAnyH_take (i := 15) (oi := { dst := some 37, op := .call { callee := .value (.func 23), args := #[.tmp 32, .tmp 33, .tmp 36], argTypes := #[26, 3, 27] }, type := 4, pos := "law.go:50", after := #[{ on := 10, ground := .data }, { on := 11, ground := .data }, { on := 14, ground := .data }, { on := 14, ground := .chain }, { on := 9, ground := .guard }], guard := some (9, false) }) (v := undef) rfl (by kernel_rfl) (by kernel_rfl) (by kernel_rfl) (fun _ _ _ h => h) (Or.inr ⟨by rfl, rfl⟩) hS ?_
        simp only [Act.put, List.setIfInBounds_toArray, List.set_cons_zero, List.set_cons_succ]
        refine wpAnyH_take (i := 16) (oi := { dst := some 38, op := .unOp .not 4 (.tmp 37), type := 4, pos := "law.go:50", after := #[{ on := 15, ground := .data }, { on := 9, ground := .guard }], guard := some (9, false) }) (v := undef) rfl (by kernel_rfl) (by kernel_rfl) (by kernel_rfl) (fun _ _ _ h => h) (Or.inr ⟨by rfl, rfl⟩) hS ?_
        simp only [Act.put, List.setIfInBounds_toArray, List.set_cons_zero, List.set_cons_succ]
        refine wpAnyH_take (i := 17) (oi := { dst := some 39, op := .pick (.tmp 31) (.const (.bool true)) (.tmp 38), type := 4, pos := "law.go:50", after := #[{ on := 9, ground := .data }, { on := 16, ground := .data }], guard := none }) (v := ?_) rfl (by kernel_rfl) (by kernel_rfl) (by kernel_rfl) (fun _ _ _ h => h) (Or.inl ⟨by rfl, ?_⟩) hS ?_
        rotate_left 1
        · intro w hw; go_simp; try (with_reducible rfl)
        simp only [Act.put, List.setIfInBounds_toArray, List.set_cons_zero, List.set_cons_succ]
        refine wpAnyH_done (by kernel_rfl) ?_ _

        have hrow := HL.out _ (below_dn (Below.refl w5.heap.size w5) 1)
        rw [hz] at hrow
        have z0 : World.cell? w5.drew ⟨P, 0, none⟩ = some (.int .i64 0) := hrow.cell 0
        have z1 : World.cell? w5.drew ⟨P, 1, none⟩ = some (.int .i64 0) := hrow.cell 1
        have z2 : World.cell? w5.drew ⟨P, 2, none⟩ = some (.int .i64 0) := hrow.cell 2
        have z3 : World.cell? w5.drew ⟨P, 3, none⟩ = some (.int .i64 0) := hrow.cell 3
        have z4 : World.cell? w5.drew ⟨P, 4, none⟩ = some (.int .i64 0) := hrow.cell 4
        have z5 : World.cell? w5.drew ⟨P, 5, none⟩ = some (.int .i64 0) := hrow.cell 5
        have z6 : World.cell? w5.drew ⟨P, 6, none⟩ = some (.int .i64 0) := hrow.cell 6
        have z7 : World.cell? w5.drew ⟨P, 7, none⟩ = some (.int .i64 0) := hrow.cell 7
        have z8 : World.cell? w5.drew ⟨P, 8, none⟩ = some (.int .i64 0) := hrow.cell 8
        have z9 : World.cell? w5.drew ⟨P, 9, none⟩ = some (.int .i64 0) := hrow.cell 9
        have z10 : World.cell? w5.drew ⟨P, 10, none⟩ = some (.int .i64 0) := hrow.cell 10
        have z11 : World.cell? w5.drew ⟨P, 11, none⟩ = some (.int .i64 0) := hrow.cell 11
        have z12 : World.cell? w5.drew ⟨P, 12, none⟩ = some (.int .i64 0) := hrow.cell 12
        have z13 : World.cell? w5.drew ⟨P, 13, none⟩ = some (.int .i64 0) := hrow.cell 13
        have z14 : World.cell? w5.drew ⟨P, 14, none⟩ = some (.int .i64 0) := hrow.cell 14
        have z15 : World.cell? w5.drew ⟨P, 15, none⟩ = some (.int .i64 0) := hrow.cell 15
        go_wp2_with (first
          | (go_at_call 25; refine (HAl.out _ (HA.out _ (below_dn (Below.refl _ _) 1)).2).mono ?_; rintro e w8 ⟨rfl, b8⟩; have H8 := Lib.hid ((HA.out _ (below_dn (Below.refl _ _) 1)).2.trans (b8.mono (HA.out _ (below_dn (Below.refl _ _) 1)).2.size)); clear b8)
          | fail)
        go_ret
        exact ⟨rfl, H8.out⟩
      · by_cases h2 : (nE : Int) ≤ k
        · have hf : fr = false := HIn.out (by omega)
          subst hf
          have hz := HNo.out rfl
          refine wp_region_held_drew (S := fun w' => Below w5.heap.size w5 w') (by kernel_rfl) (below_dn (Below.refl _ _) 1) (fun hS => ?_)
          refine wpAnyH_take (i := 0) (oi := { dst := some 22, op := .move (.tmp 1), type := 3, pos := "law.go:50", after := #[], guard := none }) (v := ?_) rfl (by kernel_rfl) (by kernel_rfl) (by kernel_rfl) (fun _ _ _ h => h) (Or.inl ⟨by rfl, ?_⟩) hS ?_
          rotate_left 1
          · intro w hw; go_simp; try (with_reducible rfl)
          simp only [Act.put, List.setIfInBounds_toArray, List.set_cons_zero, List.set_cons_succ]
          refine wpAnyH_take (i := 1) (oi := { dst := some 23, op := .binOp .lss 3 (.tmp 22) (.const (.int .i64 0)) 3, type := 4, pos := "law.go:50", after := #[{ on := 0, ground := .data }], guard := none }) (v := ?_) rfl (by kernel_rfl) (by kernel_rfl) (by kernel_rfl) (fun _ _ _ h => h) (Or.inl ⟨by rfl, ?_⟩) hS ?_
          rotate_left 1
          · intro w hw; go_simp; try (with_reducible rfl)
          simp only [Act.put, List.setIfInBounds_toArray, List.set_cons_zero, List.set_cons_succ]
          refine wpAnyH_take (i := 2) (oi := { dst := some 24, op := .move (.tmp 23), type := 4, pos := "law.go:50", after := #[{ on := 1, ground := .data }], guard := none }) (v := ?_) rfl (by kernel_rfl) (by kernel_rfl) (by kernel_rfl) (fun _ _ _ h => h) (Or.inl ⟨by rfl, ?_⟩) hS ?_
          rotate_left 1
          · intro w hw; go_simp; try (with_reducible rfl)
          simp only [Act.put, List.setIfInBounds_toArray, List.set_cons_zero, List.set_cons_succ]
          refine wpAnyH_take (i := 3) (oi := { dst := some 25, op := .move (.tmp 1), type := 3, pos := "law.go:50", after := #[{ on := 2, ground := .guard }], guard := some (2, false) }) (v := ?_) rfl (by kernel_rfl) (by kernel_rfl) (by kernel_rfl) (fun _ _ _ h => h) (Or.inl ⟨by rfl, ?_⟩) hS ?_
          rotate_left 1
          · intro w hw; go_simp; try (with_reducible rfl)
          simp only [Act.put, List.setIfInBounds_toArray, List.set_cons_zero, List.set_cons_succ]
          refine wpAnyH_take (i := 4) (oi := { dst := some 26, op := .fieldAddr 26 (.tmp 2) 3, type := 0, pos := "law.go:50", after := #[{ on := 2, ground := .guard }], guard := some (2, false) }) (v := ?_) rfl (by kernel_rfl) (by kernel_rfl) (by kernel_rfl) (fun _ _ _ h => h) (Or.inl ⟨by rfl, ?_⟩) hS ?_
          rotate_left 1
          · intro w hw; go_simp; try (with_reducible rfl)
          simp only [Act.put, List.setIfInBounds_toArray, List.set_cons_zero, List.set_cons_succ]
          refine wpAnyH_take (i := 5) (oi := { dst := some 27, op := .load 24 (.tmp 26), type := 24, pos := "law.go:50", after := #[{ on := 4, ground := .data }, { on := 2, ground := .guard }], guard := some (2, false) }) (v := ?_) rfl (by kernel_rfl) (by kernel_rfl) (by kernel_rfl) (fun _ _ _ h => h) (Or.inl ⟨by rfl, ?_⟩) hS ?_
          rotate_left 1
          · intro w hw; obtain ⟨⟨k0, k1, k2, k3⟩, _⟩ := HA.out _ hw; go_simp; try (with_reducible rfl)
          simp only [Act.put, List.setIfInBounds_toArray, List.set_cons_zero, List.set_cons_succ]
          refine wpAnyH_take (i := 6) (oi := { dst := some 28, op := .call { callee := .builtin .len, args := #[.tmp 27], argTypes := #[24] }, type := 3, pos := "law.go:50", after := #[{ on := 5, ground := .data }, { on := 2, ground := .guard }], guard := some (2, false) }) (v := ?_) rfl (by kernel_rfl) (by kernel_rfl) (by kernel_rfl) (fun _ _ _ h => h) (Or.inl ⟨by rfl, ?_⟩) hS ?_
          rotate_left 1
          · intro w hw; go_simp; try (with_reducible rfl)
          simp only [Act.put, List.setIfInBounds_toArray, List.set_cons_zero, List.set_cons_succ]
          refine wpAnyH_take (i := 7) (oi := { dst := some 29, op := .binOp .geq 3 (.tmp 25) (.tmp 28) 3, type := 4, pos := "law.go:50", after := #[{ on := 3, ground := .data }, { on := 6, ground := .data }, { on := 2, ground := .guard }], guard := some (2, false) }) (v := ?_) rfl (by kernel_rfl) (by kernel_rfl) (by kernel_rfl) (fun _ _ _ h => h) (Or.inl ⟨by rfl, ?_⟩) hS ?_
          rotate_left 1
          · intro w hw; go_simp; try (with_reducible rfl)
          simp only [Act.put, List.setIfInBounds_toArray, List.set_cons_zero, List.set_cons_succ]
          refine wpAnyH_take (i := 8) (oi := { dst := some 30, op := .pick (.tmp 24) (.const (.bool true)) (.tmp 29), type := 4, pos := "law.go:50", after := #[{ on := 2, ground := .data }, { on := 7, ground := .data }], guard := none }) (v := ?_) rfl (by kernel_rfl) (by kernel_rfl) (by kernel_rfl) (fun _ _ _ h => h) (Or.inl ⟨by rfl, ?_⟩) hS ?_
          rotate_left 1
          · intro w hw; go_simp; try (with_reducible rfl)
          simp only [Act.put, List.setIfInBounds_toArray, List.set_cons_zero, List.set_cons_succ]
          refine wpAnyH_take (i := 9) (oi := { dst := some 31, op := .move (.tmp 30), type := 4, pos := "law.go:50", after := #[{ on := 8, ground := .data }, { on := 2, ground := .chain }], guard := none }) (v := ?_) rfl (by kernel_rfl) (by kernel_rfl) (by kernel_rfl) (fun _ _ _ h => h) (Or.inl ⟨by rfl, ?_⟩) hS ?_
          rotate_left 1
          · intro w hw; go_simp; try (with_reducible rfl)
          simp only [Act.put, List.setIfInBounds_toArray, List.set_cons_zero, List.set_cons_succ]
          refine wpAnyH_take (i := 10) (oi := { dst := some 32, op := .load 26 (.tmp 2), type := 26, pos := "law.go:50", after := #[{ on := 9, ground := .guard }], guard := some (9, false) }) (v := undef) rfl (by kernel_rfl) (by kernel_rfl) (by kernel_rfl) (fun _ _ _ h => h) (Or.inr ⟨by rfl, rfl⟩) hS ?_
          simp only [Act.put, List.setIfInBounds_toArray, List.set_cons_zero, List.set_cons_succ]
          refine wpAnyH_take (i := 11) (oi := { dst := some 33, op := .move (.tmp 1), type := 3, pos := "law.go:50", after := #[{ on := 9, ground := .guard }], guard := some (9, false) }) (v := undef) rfl (by kernel_rfl) (by kernel_rfl) (by kernel_rfl) (fun _ _ _ h => h) (Or.inr ⟨by rfl, rfl⟩) hS ?_
          simp only [Act.put, List.setIfInBounds_toArray, List.set_cons_zero, List.set_cons_succ]
          refine wpAnyH_take (i := 12) (oi := { dst := some 34, op := .load 26 (.tmp 2), type := 26, pos := "law.go:50", after := #[{ on := 9, ground := .guard }], guard := some (9, false) }) (v := undef) rfl (by kernel_rfl) (by kernel_rfl) (by kernel_rfl) (fun _ _ _ h => h) (Or.inr ⟨by rfl, rfl⟩) hS ?_
          simp only [Act.put, List.setIfInBounds_toArray, List.set_cons_zero, List.set_cons_succ]
          refine wpAnyH_take (i := 13) (oi := { dst := some 35, op := .move (.tmp 1), type := 3, pos := "law.go:50", after := #[{ on := 9, ground := .guard }], guard := some (9, false) }) (v := undef) rfl (by kernel_rfl) (by kernel_rfl) (by kernel_rfl) (fun _ _ _ h => h) (Or.inr ⟨by rfl, rfl⟩) hS ?_
          simp only [Act.put, List.setIfInBounds_toArray, List.set_cons_zero, List.set_cons_succ]
          refine wpAnyH_take (i := 14) (oi := { dst := some 36, op := .call { callee := .value (.func 24), args := #[.tmp 34, .tmp 35, .const (.int .i64 16384)], argTypes := #[26, 3, 3] }, type := 27, pos := "law.go:50", after := #[{ on := 12, ground := .data }, { on := 13, ground := .data }, { on := 9, ground := .chain }, { on := 9, ground := .guard }], guard := some (9, false) }) (v := undef) rfl (by kernel_rfl) (by kernel_rfl) (by kernel_rfl) (fun _ _ _ h => h) (Or.inr ⟨by rfl, rfl⟩) hS ?_
          simp only [Act.put, List.setIfInBounds_toArray, List.set_cons_zero, List.set_cons_succ]
          refine wpAnyH_take (i := 15) (oi := { dst := some 37, op := .call { callee := .value (.func 23), args := #[.tmp 32, .tmp 33, .tmp 36], argTypes := #[26, 3, 27] }, type := 4, pos := "law.go:50", after := #[{ on := 10, ground := .data }, { on := 11, ground := .data }, { on := 14, ground := .data }, { on := 14, ground := .chain }, { on := 9, ground := .guard }], guard := some (9, false) }) (v := undef) rfl (by kernel_rfl) (by kernel_rfl) (by kernel_rfl) (fun _ _ _ h => h) (Or.inr ⟨by rfl, rfl⟩) hS ?_
          simp only [Act.put, List.setIfInBounds_toArray, List.set_cons_zero, List.set_cons_succ]
          refine wpAnyH_take (i := 16) (oi := { dst := some 38, op := .unOp .not 4 (.tmp 37), type := 4, pos := "law.go:50", after := #[{ on := 15, ground := .data }, { on := 9, ground := .guard }], guard := some (9, false) }) (v := undef) rfl (by kernel_rfl) (by kernel_rfl) (by kernel_rfl) (fun _ _ _ h => h) (Or.inr ⟨by rfl, rfl⟩) hS ?_
          simp only [Act.put, List.setIfInBounds_toArray, List.set_cons_zero, List.set_cons_succ]
          refine wpAnyH_take (i := 17) (oi := { dst := some 39, op := .pick (.tmp 31) (.const (.bool true)) (.tmp 38), type := 4, pos := "law.go:50", after := #[{ on := 9, ground := .data }, { on := 16, ground := .data }], guard := none }) (v := ?_) rfl (by kernel_rfl) (by kernel_rfl) (by kernel_rfl) (fun _ _ _ h => h) (Or.inl ⟨by rfl, ?_⟩) hS ?_
          rotate_left 1
          · intro w hw; go_simp; try (with_reducible rfl)
          simp only [Act.put, List.setIfInBounds_toArray, List.set_cons_zero, List.set_cons_succ]
          refine wpAnyH_done (by kernel_rfl) ?_ _

          have hrow := HL.out _ (below_dn (Below.refl w5.heap.size w5) 1)
          rw [hz] at hrow
          have z0 : World.cell? w5.drew ⟨P, 0, none⟩ = some (.int .i64 0) := hrow.cell 0
          have z1 : World.cell? w5.drew ⟨P, 1, none⟩ = some (.int .i64 0) := hrow.cell 1
          have z2 : World.cell? w5.drew ⟨P, 2, none⟩ = some (.int .i64 0) := hrow.cell 2
          have z3 : World.cell? w5.drew ⟨P, 3, none⟩ = some (.int .i64 0) := hrow.cell 3
          have z4 : World.cell? w5.drew ⟨P, 4, none⟩ = some (.int .i64 0) := hrow.cell 4
          have z5 : World.cell? w5.drew ⟨P, 5, none⟩ = some (.int .i64 0) := hrow.cell 5
          have z6 : World.cell? w5.drew ⟨P, 6, none⟩ = some (.int .i64 0) := hrow.cell 6
          have z7 : World.cell? w5.drew ⟨P, 7, none⟩ = some (.int .i64 0) := hrow.cell 7
          have z8 : World.cell? w5.drew ⟨P, 8, none⟩ = some (.int .i64 0) := hrow.cell 8
          have z9 : World.cell? w5.drew ⟨P, 9, none⟩ = some (.int .i64 0) := hrow.cell 9
          have z10 : World.cell? w5.drew ⟨P, 10, none⟩ = some (.int .i64 0) := hrow.cell 10
          have z11 : World.cell? w5.drew ⟨P, 11, none⟩ = some (.int .i64 0) := hrow.cell 11
          have z12 : World.cell? w5.drew ⟨P, 12, none⟩ = some (.int .i64 0) := hrow.cell 12
          have z13 : World.cell? w5.drew ⟨P, 13, none⟩ = some (.int .i64 0) := hrow.cell 13
          have z14 : World.cell? w5.drew ⟨P, 14, none⟩ = some (.int .i64 0) := hrow.cell 14
          have z15 : World.cell? w5.drew ⟨P, 15, none⟩ = some (.int .i64 0) := hrow.cell 15
          go_wp2_with (first
            | (go_at_call 25; refine (HAl.out _ (HA.out _ (below_dn (Below.refl _ _) 1)).2).mono ?_; rintro e w8 ⟨rfl, b8⟩; have H8 := Lib.hid ((HA.out _ (below_dn (Below.refl _ _) 1)).2.trans (b8.mono (HA.out _ (below_dn (Below.refl _ _) 1)).2.size)); clear b8)
            | fail)
          go_ret
          exact ⟨rfl, H8.out⟩
        · have HAk := Lib.hid (HAll2.out (by omega))
          have HFrk := Lib.hid (HFr2.out (by omega))
          have HFf := Lib.hid (HFt2.out (g 0) fr HR0.out H0.out)
          clear HAll2 HFr2
          refine wp_region_held_drew (S := fun w' => Below w5.heap.size w5 w') (by kernel_rfl) (below_dn (Below.refl _ _) 1) (fun hS => ?_)
          refine wpAnyH_take (i := 0) (oi := { dst := some 22, op := .move (.tmp 1), type := 3, pos := "law.go:50", after := #[], guard := none }) (v := ?_) rfl (by kernel_rfl) (by kernel_rfl) (by kernel_rfl) (fun _ _ _ h => h) (Or.inl ⟨by rfl, ?_⟩) hS ?_
          rotate_left 1
          · intro w hw; go_simp; try (with_reducible rfl)
          simp only [Act.put, List.setIfInBounds_toArray, List.set_cons_zero, List.set_cons_succ]
          refine wpAnyH_take (i := 1) (oi := { dst := some 23, op := .binOp .lss 3 (.tmp 22) (.const (.int .i64 0)) 3, type := 4, pos := "law.go:50", after := #[{ on := 0, ground := .data }], guard := none }) (v := ?_) rfl (by kernel_rfl) (by kernel_rfl) (by kernel_rfl) (fun _ _ _ h => h) (Or.inl ⟨by rfl, ?_⟩) hS ?_
          rotate_left 1
          · intro w hw; go_simp; try (with_reducible rfl)
          simp only [Act.put, List.setIfInBounds_toArray, List.set_cons_zero, List.set_cons_succ]
          refine wpAnyH_take (i := 2) (oi := { dst := some 24, op := .move (.tmp 23), type := 4, pos := "law.go:50", after := #[{ on := 1, ground := .data }], guard := none }) (v := ?_) rfl (by kernel_rfl) (by kernel_rfl) (by kernel_rfl) (fun _ _ _ h => h) (Or.inl ⟨by rfl, ?_⟩) hS ?_
          rotate_left 1
          · intro w hw; go_simp; try (with_reducible rfl)
          simp only [Act.put, List.setIfInBounds_toArray, List.set_cons_zero, List.set_cons_succ]
          refine wpAnyH_take (i := 3) (oi := { dst := some 25, op := .move (.tmp 1), type := 3, pos := "law.go:50", after := #[{ on := 2, ground := .guard }], guard := some (2, false) }) (v := ?_) rfl (by kernel_rfl) (by kernel_rfl) (by kernel_rfl) (fun _ _ _ h => h) (Or.inl ⟨by rfl, ?_⟩) hS ?_
          rotate_left 1
          · intro w hw; go_simp; try (with_reducible rfl)
          simp only [Act.put, List.setIfInBounds_toArray, List.set_cons_zero, List.set_cons_succ]
          refine wpAnyH_take (i := 4) (oi := { dst := some 26, op := .fieldAddr 26 (.tmp 2) 3, type := 0, pos := "law.go:50", after := #[{ on := 2, ground := .guard }], guard := some (2, false) }) (v := ?_) rfl (by kernel_rfl) (by kernel_rfl) (by kernel_rfl) (fun _ _ _ h => h) (Or.inl ⟨by rfl, ?_⟩) hS ?_
          rotate_left 1
          · intro w hw; go_simp; try (with_reducible rfl)
          simp only [Act.put, List.setIfInBounds_toArray, List.set_cons_zero, List.set_cons_succ]
          refine wpAnyH_take (i := 5) (oi := { dst := some 27, op := .load 24 (.tmp 26), type := 24, pos := "law.go:50", after := #[{ on := 4, ground := .data }, { on := 2, ground := .guard }], guard := some (2, false) }) (v := ?_) rfl (by kernel_rfl) (by kernel_rfl) (by kernel_rfl) (fun _ _ _ h => h) (Or.inl ⟨by rfl, ?_⟩) hS ?_
          rotate_left 1
          · intro w hw; obtain ⟨⟨k0, k1, k2, k3⟩, _⟩ := HA.out _ hw; go_simp; try (with_reducible rfl)
          simp only [Act.put, List.setIfInBounds_toArray, List.set_cons_zero, List.set_cons_succ]
          refine wpAnyH_take (i := 6) (oi := { dst := some 28, op := .call { callee := .builtin .len, args := #[.tmp 27], argTypes := #[24] }, type := 3, pos := "law.go:50", after := #[{ on := 5, ground := .data }, { on := 2, ground := .guard }], guard := some (2, false) }) (v := ?_) rfl (by kernel_rfl) (by kernel_rfl) (by kernel_rfl) (fun _ _ _ h => h) (Or.inl ⟨by rfl, ?_⟩) hS ?_
          rotate_left 1
          · intro w hw; go_simp; try (with_reducible rfl)
          simp only [Act.put, List.setIfInBounds_toArray, List.set_cons_zero, List.set_cons_succ]
          refine wpAnyH_take (i := 7) (oi := { dst := some 29, op := .binOp .geq 3 (.tmp 25) (.tmp 28) 3, type := 4, pos := "law.go:50", after := #[{ on := 3, ground := .data }, { on := 6, ground := .data }, { on := 2, ground := .guard }], guard := some (2, false) }) (v := ?_) rfl (by kernel_rfl) (by kernel_rfl) (by kernel_rfl) (fun _ _ _ h => h) (Or.inl ⟨by rfl, ?_⟩) hS ?_
          rotate_left 1
          · intro w hw; go_simp; try (with_reducible rfl)
          simp only [Act.put, List.setIfInBounds_toArray, List.set_cons_zero, List.set_cons_succ]
          refine wpAnyH_take (i := 8) (oi := { dst := some 30, op := .pick (.tmp 24) (.const (.bool true)) (.tmp 29), type := 4, pos := "law.go:50", after := #[{ on := 2, ground := .data }, { on := 7, ground := .data }], guard := none }) (v := ?_) rfl (by kernel_rfl) (by kernel_rfl) (by kernel_rfl) (fun _ _ _ h => h) (Or.inl ⟨by rfl, ?_⟩) hS ?_
          rotate_left 1
          · intro w hw; go_simp; try (with_reducible rfl)
          simp only [Act.put, List.setIfInBounds_toArray, List.set_cons_zero, List.set_cons_succ]
          refine wpAnyH_take (i := 9) (oi := { dst := some 31, op := .move (.tmp 30), type := 4, pos := "law.go:50", after := #[{ on := 8, ground := .data }, { on := 2, ground := .chain }], guard := none }) (v := ?_) rfl (by kernel_rfl) (by kernel_rfl) (by kernel_rfl) (fun _ _ _ h => h) (Or.inl ⟨by rfl, ?_⟩) hS ?_
          rotate_left 1
          · intro w hw; go_simp; try (with_reducible rfl)
          simp only [Act.put, List.setIfInBounds_toArray, List.set_cons_zero, List.set_cons_succ]
          refine wpAnyH_take (i := 10) (oi := { dst := some 32, op := .load 26 (.tmp 2), type := 26, pos := "law.go:50", after := #[{ on := 9, ground := .guard }], guard := some (9, false) }) (v := ?_) rfl (by kernel_rfl) (by kernel_rfl) (by kernel_rfl) (fun _ _ _ h => h) (Or.inl ⟨by rfl, ?_⟩) hS ?_
          rotate_left 1
          · intro w hw; obtain ⟨⟨k0, k1, k2, k3⟩, _⟩ := HA.out _ hw; go_simp; try (with_reducible rfl)
          simp only [Act.put, List.setIfInBounds_toArray, List.set_cons_zero, List.set_cons_succ]
          refine wpAnyH_take (i := 11) (oi := { dst := some 33, op := .move (.tmp 1), type := 3, pos := "law.go:50", after := #[{ on := 9, ground := .guard }], guard := some (9, false) }) (v := ?_) rfl (by kernel_rfl) (by kernel_rfl) (by kernel_rfl) (fun _ _ _ h => h) (Or.inl ⟨by rfl, ?_⟩) hS ?_
          rotate_left 1
          · intro w hw; go_simp; try (with_reducible rfl)
          simp only [Act.put, List.setIfInBounds_toArray, List.set_cons_zero, List.set_cons_succ]
          refine wpAnyH_take (i := 12) (oi := { dst := some 34, op := .load 26 (.tmp 2), type := 26, pos := "law.go:50", after := #[{ on := 9, ground := .guard }], guard := some (9, false) }) (v := ?_) rfl (by kernel_rfl) (by kernel_rfl) (by kernel_rfl) (fun _ _ _ h => h) (Or.inl ⟨by rfl, ?_⟩) hS ?_
          rotate_left 1
          · intro w hw; obtain ⟨⟨k0, k1, k2, k3⟩, _⟩ := HA.out _ hw; go_simp; try (with_reducible rfl)
          simp only [Act.put, List.setIfInBounds_toArray, List.set_cons_zero, List.set_cons_succ]
          refine wpAnyH_take (i := 13) (oi := { dst := some 35, op := .move (.tmp 1), type := 3, pos := "law.go:50", after := #[{ on := 9, ground := .guard }], guard := some (9, false) }) (v := ?_) rfl (by kernel_rfl) (by kernel_rfl) (by kernel_rfl) (fun _ _ _ h => h) (Or.inl ⟨by rfl, ?_⟩) hS ?_
          rotate_left 1
          · intro w hw; go_simp; try (with_reducible rfl)
          simp only [Act.put, List.setIfInBounds_toArray, List.set_cons_zero, List.set_cons_succ]
          refine wpAnyH_ready (rs := [14]) (by kernel_rfl) (by simp) (AllReadyH.cons (o := { dst := some 36, op := .call { callee := .value (.func 24), args := #[.tmp 34, .tmp 35, .const (.int .i64 16384)], argTypes := #[26, 3, 3] }, type := 27, pos := "law.go:50", after := #[{ on := 12, ground := .data }, { on := 13, ground := .data }, { on := 9, ground := .chain }, { on := 9, ground := .guard }], guard := some (9, false) }) rfl (fun K hK => ?_) AllReadyH.nil)
          go_simp
          go_at_call 24
          refine (HAk.out _ (HA.out _ (below_dn (Below.refl w5.heap.size w5) 1)).2).mono ?_
          rintro e w6 ⟨rfl, b6⟩
          have H6 := Lib.hid (show Below w5.heap.size w5 w6 from (below_dn (Below.refl w5.heap.size w5) 1).trans (b6.mono (below_dn (Below.refl w5.heap.size w5) 1).size))
          clear b6
          try dsimp only
          refine hK.out _ _ H6.out (fun hHeld => ?_)
          clear hK K
          try simp only [Act.put, List.setIfInBounds_toArray, List.set_cons_zero, List.set_cons_succ]
          refine wpAnyH_ready (rs := [15]) (by kernel_rfl) (by simp) (AllReadyH.cons (o := { dst := some 37, op := .call { callee := .value (.func 23), args := #[.tmp 32, .tmp 33, .tmp 36], argTypes := #[26, 3, 27] }, type := 4, pos := "law.go:50", after := #[{ on := 10, ground := .data }, { on := 11, ground := .data }, { on := 14, ground := .data }, { on := 14, ground := .chain }, { on := 9, ground := .guard }], guard := some (9, false) }) rfl (fun K hK => ?_) AllReadyH.nil)
          go_simp
          go_at_call 23
          refine (HFf.out _ (HA.out _ H6.out).2).mono ?_
          rintro e w7 ⟨rfl, b7⟩
          have H7 := Lib.hid (show Below w5.heap.size w5 w7 from H6.out.trans (b7.mono H6.out.size))
          clear b7
          try dsimp only
          refine hK.out _ _ H7.out (fun hHeld => ?_)
          clear hK K
          try simp only [Act.put, List.setIfInBounds_toArray, List.set_cons_zero, List.set_cons_succ]
          refine wpAnyH_take (i := 16) (oi := { dst := some 38, op := .unOp .not 4 (.tmp 37), type := 4, pos := "law.go:50", after := #[{ on := 15, ground := .data }, { on := 9, ground := .guard }], guard := some (9, false) }) (v := ?_) rfl (by kernel_rfl) (by kernel_rfl) (by kernel_rfl) (fun _ _ _ h => h) (Or.inl ⟨by rfl, ?_⟩) H7.out ?_
          rotate_left 1
          · intro w hw; go_simp; try (with_reducible rfl)
          simp only [Act.put, List.setIfInBounds_toArray, List.set_cons_zero, List.set_cons_succ]
          refine wpAnyH_take (i := 17) (oi := { dst := some 39, op := .pick (.tmp 31) (.const (.bool true)) (.tmp 38), type := 4, pos := "law.go:50", after := #[{ on := 9, ground := .data }, { on := 16, ground := .data }], guard := none }) (v := ?_) rfl (by kernel_rfl) (by kernel_rfl) (by kernel_rfl) (fun _ _ _ h => h) (Or.inl ⟨by rfl, ?_⟩) H7.out ?_
          rotate_left 1
          · intro w hw; go_simp; try (with_reducible rfl)
          simp only [Act.put, List.setIfInBounds_toArray, List.set_cons_zero, List.set_cons_succ]
          refine wpAnyH_done (by kernel_rfl) ?_ _

          cases fr with
          | false =>
            have hz := HNo.out rfl
            have hrow := HL.out _ H7.out
            rw [hz] at hrow
            have z0 : World.cell? w7 ⟨P, 0, none⟩ = some (.int .i64 0) := hrow.cell 0
            have z1 : World.cell? w7 ⟨P, 1, none⟩ = some (.int .i64 0) := hrow.cell 1
            have z2 : World.cell? w7 ⟨P, 2, none⟩ = some (.int .i64 0) := hrow.cell 2
            have z3 : World.cell? w7 ⟨P, 3, none⟩ = some (.int .i64 0) := hrow.cell 3
            have z4 : World.cell? w7 ⟨P, 4, none⟩ = some (.int .i64 0) := hrow.cell 4
            have z5 : World.cell? w7 ⟨P, 5, none⟩ = some (.int .i64 0) := hrow.cell 5
            have z6 : World.cell? w7 ⟨P, 6, none⟩ = some (.int .i64 0) := hrow.cell 6
            have z7 : World.cell? w7 ⟨P, 7, none⟩ = some (.int .i64 0) := hrow.cell 7
            have z8 : World.cell? w7 ⟨P, 8, none⟩ = some (.int .i64 0) := hrow.cell 8
            have z9 : World.cell? w7 ⟨P, 9, none⟩ = some (.int .i64 0) := hrow.cell 9
            have z10 : World.cell? w7 ⟨P, 10, none⟩ = some (.int .i64 0) := hrow.cell 10
            have z11 : World.cell? w7 ⟨P, 11, none⟩ = some (.int .i64 0) := hrow.cell 11
            have z12 : World.cell? w7 ⟨P, 12, none⟩ = some (.int .i64 0) := hrow.cell 12
            have z13 : World.cell? w7 ⟨P, 13, none⟩ = some (.int .i64 0) := hrow.cell 13
            have z14 : World.cell? w7 ⟨P, 14, none⟩ = some (.int .i64 0) := hrow.cell 14
            have z15 : World.cell? w7 ⟨P, 15, none⟩ = some (.int .i64 0) := hrow.cell 15
            go_wp2_with (first
              | (go_at_call 25; refine (HAl.out _ (HA.out _ H7.out).2).mono ?_; rintro e w8 ⟨rfl, b8⟩; have H8 := Lib.hid ((HA.out _ H7.out).2.trans (b8.mono (HA.out _ H7.out).2.size)); clear b8)
              | fail)
            go_ret
            exact ⟨rfl, H8.out⟩
          | true =>
            obtain ⟨hL1, hL2, hL3⟩ := HYes.out rfl
            have HFl := Lib.hid (HFt2.out L true (by rw [hL1]; exact hL3) (by rw [hL1]; exact hL2))
            rw [HLit.out] at HFl
            have hrow := HL.out _ H7.out
            rw [HLit.out] at hrow
            have z0 : World.cell? w7 ⟨P, 0, none⟩ = some (.int .i64 (L 0)) := hrow.cell 0
            have z1 : World.cell? w7 ⟨P, 1, none⟩ = some (.int .i64 (L 1)) := hrow.cell 1
            have z2 : World.cell? w7 ⟨P, 2, none⟩ = some (.int .i64 (L 2)) := hrow.cell 2
            have z3 : World.cell? w7 ⟨P, 3, none⟩ = some (.int .i64 (L 3)) := hrow.cell 3
            have z4 : World.cell? w7 ⟨P, 4, none⟩ = some (.int .i64 (L 4)) := hrow.cell 4
            have z5 : World.cell? w7 ⟨P, 5, none⟩ = some (.int .i64 (L 5)) := hrow.cell 5
            have z6 : World.cell? w7 ⟨P, 6, none⟩ = some (.int .i64 (L 6)) := hrow.cell 6
            have z7 : World.cell? w7 ⟨P, 7, none⟩ = some (.int .i64 (L 7)) := hrow.cell 7
            have z8 : World.cell? w7 ⟨P, 8, none⟩ = some (.int .i64 (L 8)) := hrow.cell 8
            have z9 : World.cell? w7 ⟨P, 9, none⟩ = some (.int .i64 (L 9)) := hrow.cell 9
            have z10 : World.cell? w7 ⟨P, 10, none⟩ = some (.int .i64 (L 10)) := hrow.cell 10
            have z11 : World.cell? w7 ⟨P, 11, none⟩ = some (.int .i64 (L 11)) := hrow.cell 11
            have z12 : World.cell? w7 ⟨P, 12, none⟩ = some (.int .i64 (L 12)) := hrow.cell 12
            have z13 : World.cell? w7 ⟨P, 13, none⟩ = some (.int .i64 (L 13)) := hrow.cell 13
            have z14 : World.cell? w7 ⟨P, 14, none⟩ = some (.int .i64 (L 14)) := hrow.cell 14
            have z15 : World.cell? w7 ⟨P, 15, none⟩ = some (.int .i64 (L 15)) := hrow.cell 15
            have HLg := Lib.hid hL1
            clear hrow hL1 hL2 hL3
            obtain ⟨⟨c0, c1, c2, c3⟩, _⟩ := HA.out _ H7.out
            go_upto_region 8 with (first
              | (go_at_call 23; refine (HFl.out _ (HA.out _ H7.out).2).mono ?_; rintro e w8 ⟨rfl, b8⟩; have H8 := Lib.hid (H7.out.trans (b8.mono H7.out.size)); clear b8 c0 c1 c2 c3; clear z0 z1 z2 z3 z4 z5 z6 z7 z8 z9 z10 z11 z12 z13 z14 z15)
              | fail)
            obtain ⟨⟨c0, c1, c2, c3⟩, _⟩ := HA.out _ H8.out
            go_upto_region 9 with (first
              | (go_at_call 24; refine (HAk.out _ (HA.out _ H8.out).2).mono ?_; rintro e w9 ⟨rfl, b9⟩; have H9 := Lib.hid (H8.out.trans (b9.mono H8.out.size)); clear b9 c0 c1 c2 c3)
              | (refine wpList_store_row rfl 27 (.tmp 7) (.tmp 61) rfl w9.heap.size (C (g 0)) rfl rfl 27 (tml zF).toArray (RowAt.mk w9 _ _) (HOk.out _).1 (by rw [HC0.out, (HOk.out _).2.1, (HOk.out _).2.1]) (HOk.out _).2.2 ?_; generalize hw10 : World.setRow _ _ _ = w10)
              | fail)
            (try simp only [Act.put])
            obtain ⟨Q, hQ⟩ : ∃ Q, w9.heap.size = Q := ⟨_, rfl⟩
            have H10 := Lib.hid (show FnAt w Z P Q #[.int .i64 x.res, .slice S.t.sp nT S.t.c, .slice S.m.sp nM S.m.c, .slice S.e.sp nE S.e.c] (C L) (C (g 0)) w10 by
              have b4 := alloc_row w9 (tml zF).toArray (C (g 0)) 27
              have hl := (HL.out _ H9.out).lt
              rw [← hQ, ← hw10]
              have bb : Below w5.heap.size w5 _ := H9.out.trans (b4.1.mono H9.out.size)
              exact ⟨(HA.out _ bb).2, H5.out.2.1.new bb, HL.out _ bb, b4.2, by have := HZ.out; omega, H5.out.2.2.2, hl⟩)
            rw [hQ]
            clear hw10 hQ
            have HByt := Lib.hid (HBy.out (by simp))
            go_wp2
            go_loopg [8] 16 (fun gg u wr => ∃ i : Nat, u = .int .i64 (i : Nat) ∧ i + gg = 16 ∧ Aside (FnAt w Z P Q #[.int .i64 x.res, .slice S.t.sp nT S.t.c, .slice S.m.sp nM S.m.c, .slice S.e.sp nE S.e.c] (C L) (C (g i)) wr))
            case atStart => exact ⟨0, rfl, rfl, H10.out⟩
            case round =>
              obtain ⟨i, rfl, hig, HK⟩ := hrel
              cases gk with
              | zero =>
                obtain rfl : i = 16 := by omega
                go_wp2_with (first
                  | (go_at_call 25; refine (HAl.out _ HK.out.b0).mono ?_; rintro e w11 ⟨rfl, b8⟩; have H11 := Lib.hid (HK.out.b0.trans (b8.mono HK.out.b0.size)); clear b8)
                  | fail)
                go_ret
                exact ⟨rfl, H11.out⟩
              | succ g1 =>
                have hi : i < 16 := by omega
                have hi2 : (i : Int) < 16 := by omega
                have HCf := Lib.hid (HFrk.out i hi wr HK.out.b0)
                obtain ⟨c0, c1, c2, c3⟩ := img_cells HK.out.im
                cases hb : bt i
                case false =>
                  rw [hb] at HCf
                  obtain ⟨b1, b2⟩ := HBn.out i hi hb
                  have HB1 := Lib.hid b1
                  have HLi := Lib.hid (show (C L)[i]? = some (.int .i64 0) by rw [HCell.out L i hi, HLg.out, b2])
                  clear hb b1 b2
                  go_wp2_with (first
                    | (go_at_call 26; refine HCf.out.mono ?_; rintro e w11 ⟨rfl, b8⟩; have H11 := Lib.hid (HK.out.next b8); clear b8 c0 c1 c2 c3; have y0 := (H11.out.lr.cell i).trans HLi.out)
                    | fail)
                  go_roundg g1
                  case measure => omega
                  case rel =>
                    have h9 := H11.out
                    rw [← HB1.out] at h9
                    exact ⟨i + 1, by go_num, by omega, h9⟩
                case true =>
                  rw [hb] at HCf
                  obtain ⟨v, v1, v2, v3, v4, v5, v6⟩ := HByt.out i hi hb
                  have HV6 := Lib.hid v6
                  have HV2 := Lib.hid v2
                  have HLi := Lib.hid (show (C L)[i]? = some (.int .i64 (v : Int)) by rw [HCell.out L i hi, HLg.out, v1])
                  have HFv := Lib.hid (HFt2.out (g (i + 1)) true v5 v4)
                  have HSt := Lib.hid (show (C (g i)).setIfInBounds i (.int .i64 (v : Int)) = C (g (i + 1)) by rw [HSet.out, ← v2])
                  have HCi := Lib.hid (show (C (g (i + 1)))[i]? = some (.int .i64 (v : Int)) by rw [HCell.out _ i hi, v2]; unfold updF; rw [if_pos rfl])
                  clear hb v1 v2 v4 v5 v6
                  go_upto_region 16 with (first
                    | (go_at_call 26; refine HCf.out.mono ?_; rintro e w11 ⟨rfl, b8⟩; have H11 := Lib.hid (HK.out.next b8); clear b8 c0 c1 c2 c3; have y0 := (H11.out.lr.cell i).trans HLi.out; have k0 := (H11.out.mr.cell i).trans (HCell.out _ i hi); have e0 := H11.out.mr.fr i)
                    | fail)
                  generalize hw12 : World.setCell _ _ _ = w12
                  have H12 := Lib.hid (show FnAt w Z P Q #[.int .i64 x.res, .slice S.t.sp nT S.t.c, .slice S.m.sp nM S.m.c, .slice S.e.sp nE S.e.c] (C L) (C (g (i + 1))) w12 by
                    have h9 := H11.out.set i (.int .i64 (v : Int))
                    rw [HSt.out, hw12] at h9
                    exact h9)
                  clear hw12 y0 k0 e0
                  obtain ⟨c0, c1, c2, c3⟩ := img_cells H12.out.im
                  go_upto_region 18 with (first
                    | (refine wpList_load_row rfl 27 (.tmp 7) rfl Q rfl 27 (C (g (i + 1))) (0, 0) _ H12.out.mr Tryd.underlying27 rfl (HOk.out _).1 ?_)
                    | (go_at_call 23; refine (HFv.out _ H12.out.b0).mono ?_; rintro e w13 ⟨rfl, b8⟩; have H13 := Lib.hid (H12.out.next b8); clear b8 c0 c1 c2 c3)
                    | fail)
                  have y0 := (H13.out.lr.cell i).trans HLi.out
                  cases v with
                  | zero =>
                    go_wp2
                    go_roundg g1
                    case measure => omega
                    case rel => exact ⟨i + 1, by go_num, by omega, H13.out⟩
                  | succ m =>
                    obtain ⟨m1, m2⟩ := HV6.out m rfl
                    have HFm := Lib.hid (HFt2.out _ false m2 m1)
                    have HS1 := Lib.hid (show (C (g (i + 1))).setIfInBounds i (.int .i64 (m : Int)) = C (updF (g i) i (m : Int)) by rw [HSet.out, HV2.out, upd_upd])
                    have HS2 := Lib.hid (show (C (updF (g i) i (m : Int))).setIfInBounds i (.int .i64 ((m : Int) + 1)) = C (g (i + 1)) by rw [HSet.out, HV2.out, upd_upd]; rfl)
                    have HC2 := Lib.hid (show (C (updF (g i) i (m : Int)))[i]? = some (.int .i64 (m : Int)) by rw [HCell.out _ i hi]; unfold updF; rw [if_pos rfl])
                    have f1 : (0 : Int) < (m : Int) + 1 := by omega
                    have f2 : IntKind.i64.wrap (m : Int) = (m : Int) := by rw [IntKind.wrap_i64]; omega
                    have f3 : IntKind.i64.wrap ((m : Int) + 1) = (m : Int) + 1 := by rw [IntKind.wrap_i64]; omega
                    have k0 := (H13.out.mr.cell i).trans HCi.out
                    have e0 := H13.out.mr.fr i
                    clear m1 m2
                    go_upto_region 20 with fail
                    generalize hw14 : World.setCell _ _ _ = w14
                    have H14 := Lib.hid (show FnAt w Z P Q #[.int .i64 x.res, .slice S.t.sp nT S.t.c, .slice S.m.sp nM S.m.c, .slice S.e.sp nE S.e.c] (C L) (C (updF (g i) i (m : Int))) w14 by
                      have h9 := H13.out.set i (.int .i64 (m : Int))
                      rw [HS1.out, hw14] at h9
                      exact h9)
                    clear hw14 y0 k0 e0
                    obtain ⟨c0, c1, c2, c3⟩ := img_cells H14.out.im
                    go_upto_region 22 with (first
                      | (refine wpList_load_row rfl 27 (.tmp 7) rfl Q rfl 27 (C (updF (g i) i (m : Int))) (0, 0) _ H14.out.mr Tryd.underlying27 rfl (HOk.out _).1 ?_)
                      | (go_at_call 23; refine (HFm.out _ H14.out.b0).mono ?_; rintro e w15 ⟨rfl, b8⟩; have H15 := Lib.hid (H14.out.next b8); clear b8 c0 c1 c2 c3)
                      | fail)
                    have k0 := (H15.out.mr.cell i).trans HC2.out
                    have e0 := H15.out.mr.fr i
                    go_wp2
                    go_roundg g1
                    case measure => omega
                    case rel =>
                      have h9 := H15.out.set i (.int .i64 ((m : Int) + 1))
                      rw [HS2.out] at h9
                      exact ⟨i + 1, by go_num, by omega, h9⟩
end Go.Proofs.YtchmdnmifpjfkaaDoor
