/- DiffTurns' walk. -/
import Derived.Test.YtknkhigmokooaaaDoorEM
import Derived.Test.YtknkhigmokooaaaDoorEH
import Derived.Test.YtknkhigmokooaaaDoorJQ
namespace Go.Proofs.YtknkhigmokooaaaDoor
open Go.RowKit Go.Lib

def tn (L : List TurnM) (k : Nat) : TurnM := L.getD k ⟨0, 0, false, false⟩
theorem turnRow_rows (L : List TurnM) : turnRow L = rowsOf (fun k => turnC (tn L k)) L.length := by
  unfold turnRow rowsOf
  congr 1
  apply List.ext_getElem
  · simp
  · intro i h1 h2
    have hi : i < L.length := by simpa using h1
    simp [tn, hi]
theorem tn_flip (L : List TurnM) (k : Nat) (hk : k < L.length) : tn (L.map flipT) k = flipT (tn L k) := by
  simp [tn, hk]
theorem tn_mem (L : List TurnM) (k : Nat) (hk : k < L.length) : tn L k ∈ L := by
  simp [tn, hk]
theorem eqIn_turn (dd : Nat) (a b : Int) (o n : Bool) (w : World) : (Op.equalIn (dd + 2) 57 (.agg #[.int .i64 a, .int .i64 b, .bool o, .bool n]) (.agg #[.int .i64 a, .int .i64 b, .bool o, .bool n])).run Tryd.prog w = .ok true w := by
  rw [run_equalIn_agg (P := Tryd.prog) w (dd + 1) 57 _ _ (by kernel_rfl) (by kernel_rfl)]
  simp [Op.eqFields, go_sem, part]
theorem neq_turn (a b : Int) (o n : Bool) (w : World) : (Go.binOp .neq 57 (.agg #[.int .i64 a, .int .i64 b, .bool o, .bool n]) (.agg #[.int .i64 a, .int .i64 b, .bool o, .bool n])).run Tryd.prog w = .ok (.bool false) w := by
  have h : (Op.equal 57 (.agg #[.int .i64 a, .int .i64 b, .bool o, .bool n]) (.agg #[.int .i64 a, .int .i64 b, .bool o, .bool n])).run Tryd.prog w = .ok true w := eqIn_turn 9998 a b o n w
  simp [Go.binOp, h]
set_option maxHeartbeats 8000000 in
set_option maxRecDepth 100000 in
theorem law_turns {w : World} {V V' : Nat → Prop} {x y : Img} {S S' : ImgS} (h : ImgAt w V x S) (h' : ImgAt w V' y S') (hw : WTab w) (ht : PTab w) :
    Calls Tryd.prog 7 #[.agg #[.int .i64 x.res, .slice S.t.sp x.tasks.length S.t.c, .slice S.m.sp x.modes.length S.m.c, .slice S.e.sp x.edges.length S.e.c], .agg #[.int .i64 y.res, .slice S'.t.sp y.tasks.length S'.t.c, .slice S'.m.sp y.modes.length S'.m.c, .slice S'.e.sp y.edges.length S'.e.c]] w fun e w' => e = .returned (.bool true) ∧ Below w.heap.size w w' := by
  have HB := Lib.hid (show ∀ a b : Obj, Below w.heap.size w ((w.alloc a).alloc b) from fun a b => ((Below.refl _ _).alloc (Nat.le_refl _) _).alloc (by simp) _)
  have HGx := Lib.hid (fun (wx : World) (hb : Below w.heap.size w wx) => great10_any (h.new hb))
  have HGy := Lib.hid (fun (wx : World) (hb : Below w.heap.size w wx) => great10_any (h'.new hb))
  have HAl := Lib.hid (fun (wx : World) (hb : Below w.heap.size w wx) => l42alive_any (hw.below hb) (ht.below hb))
  have HLn := Lib.hid (fun (wx : World) (hb : Below w.heap.size w wx) (t : TurnM) (hm : (t.at_ : Int) ≤ 9223372036854775807) => dfLine_any (hw.below hb) (ht.below hb) t.kind (t.at_ : Nat) t.old t.new hm)
  have HSm := Lib.hid (fun (wx : World) (hb : Below w.heap.size w wx) => rSame_any (h.new hb) (h'.new hb))
  have HO1 := Lib.hid (fun (wx : World) (hb : Below w.heap.size w wx) => fun a1 a2 a3 a4 a5 a6 a7 a8 => dfOf_any (h.new hb) (h'.new hb) a1 a2 a3 a4 a5 a6 a7 a8)
  have HO2 := Lib.hid (fun (wx : World) (hb : Below w.heap.size w wx) => fun a1 a2 a3 a4 a5 a6 a7 a8 => dfOf_any (h'.new hb) (h.new hb) a1 a2 a3 a4 a5 a6 a7 a8)
  have HO3 := Lib.hid (fun (wx : World) (hb : Below w.heap.size w wx) => fun a1 a2 a3 a4 a5 a6 a7 a8 => dfOf_any (h.new hb) (h.new hb) a1 a2 a3 a4 a5 a6 a7 a8)
  clear h h' hw ht
  have HX0 := Lib.hid (show ∀ W1 Z, RowAt W1 Z 26 #[.int .i64 x.res, .slice S.t.sp x.tasks.length S.t.c, .slice S.m.sp x.modes.length S.m.c, .slice S.e.sp x.edges.length S.e.c] → RowAt W1 (Z + 1) 26 #[.int .i64 y.res, .slice S'.t.sp y.tasks.length S'.t.c, .slice S'.m.sp y.modes.length S'.m.c, .slice S'.e.sp y.edges.length S'.e.c] → ∀ wx, Below W1.heap.size W1 wx → (wx.cell? ⟨Z, 0, none⟩ = some (.int .i64 x.res) ∧ wx.cell? ⟨Z, 1, none⟩ = some (.slice S.t.sp x.tasks.length S.t.c) ∧ wx.cell? ⟨Z, 2, none⟩ = some (.slice S.m.sp x.modes.length S.m.c) ∧ wx.cell? ⟨Z, 3, none⟩ = some (.slice S.e.sp x.edges.length S.e.c)) ∧ (wx.cell? ⟨Z + 1, 0, none⟩ = some (.int .i64 y.res) ∧ wx.cell? ⟨Z + 1, 1, none⟩ = some (.slice S'.t.sp y.tasks.length S'.t.c) ∧ wx.cell? ⟨Z + 1, 2, none⟩ = some (.slice S'.m.sp y.modes.length S'.m.c) ∧ wx.cell? ⟨Z + 1, 3, none⟩ = some (.slice S'.e.sp y.edges.length S'.e.c)) from fun W1 Z r1 r2 wx hb =>
    have ra := r1.new hb
    have rb := r2.new hb
    ⟨⟨ra.cell 0, ra.cell 1, ra.cell 2, ra.cell 3⟩, ⟨rb.cell 0, rb.cell 1, rb.cell 2, rb.cell 3⟩⟩)
  have HR0 := Lib.hid (show ∀ Z, Z = w.heap.size → RowAt ((w.alloc (.cells #[.int .i64 x.res, .slice S.t.sp x.tasks.length S.t.c, .slice S.m.sp x.modes.length S.m.c, .slice S.e.sp x.edges.length S.e.c] 26)).alloc (.cells #[.int .i64 y.res, .slice S'.t.sp y.tasks.length S'.t.c, .slice S'.m.sp y.modes.length S'.m.c, .slice S'.e.sp y.edges.length S'.e.c] 26)) Z 26 #[.int .i64 x.res, .slice S.t.sp x.tasks.length S.t.c, .slice S.m.sp x.modes.length S.m.c, .slice S.e.sp x.edges.length S.e.c] ∧ RowAt ((w.alloc (.cells #[.int .i64 x.res, .slice S.t.sp x.tasks.length S.t.c, .slice S.m.sp x.modes.length S.m.c, .slice S.e.sp x.edges.length S.e.c] 26)).alloc (.cells #[.int .i64 y.res, .slice S'.t.sp y.tasks.length S'.t.c, .slice S'.m.sp y.modes.length S'.m.c, .slice S'.e.sp y.edges.length S'.e.c] 26)) (Z + 1) 26 #[.int .i64 y.res, .slice S'.t.sp y.tasks.length S'.t.c, .slice S'.m.sp y.modes.length S'.m.c, .slice S'.e.sp y.edges.length S'.e.c] from fun Z hZ => by
    rw [hZ]
    exact ⟨(RowAt.mk _ _ _).new ((Below.refl _ _).alloc (Nat.le_refl _) _), by have := RowAt.mk (w.alloc (.cells #[.int .i64 x.res, .slice S.t.sp x.tasks.length S.t.c, .slice S.m.sp x.modes.length S.m.c, .slice S.e.sp x.edges.length S.e.c] 26)) 26 #[.int .i64 y.res, .slice S'.t.sp y.tasks.length S'.t.c, .slice S'.m.sp y.modes.length S'.m.c, .slice S'.e.sp y.edges.length S'.e.c]; rwa [World.size_alloc] at this⟩)
  obtain ⟨gx, hgx⟩ : ∃ b, greatI x = b := ⟨_, rfl⟩
  obtain ⟨gy, hgy⟩ : ∃ b, greatI y = b := ⟨_, rfl⟩
  rw [hgx] at HGx
  rw [hgy] at HGy
  have HG := Lib.hid (And.intro hgx hgy)
  clear hgx hgy
  have hcase : gx = true ∨ (gx = false ∧ gy = true) ∨ (gx = false ∧ gy = false) := by cases gx <;> cases gy <;> simp
  rcases hcase with rfl | ⟨rfl, rfl⟩ | ⟨rfl, rfl⟩
  · clear HGy HSm HO1 HO2 HO3 HLn HAl
    go_enter Tryd.func7, Tryd.ntmps7
    go_upto_region 1 with fail
    obtain ⟨Z, hZ⟩ : ∃ Z, Z = w.heap.size := ⟨_, rfl⟩
    have HRW := Lib.hid (HR0.out Z hZ)
    rw [← hZ]
    have HBW := Lib.hid (HB.out (.cells #[.int .i64 x.res, .slice S.t.sp x.tasks.length S.t.c, .slice S.m.sp x.modes.length S.m.c, .slice S.e.sp x.edges.length S.e.c] 26) (.cells #[.int .i64 y.res, .slice S'.t.sp y.tasks.length S'.t.c, .slice S'.m.sp y.modes.length S'.m.c, .slice S'.e.sp y.edges.length S'.e.c] 26))
    generalize hw2 : World.alloc (World.alloc w _) _ = W1 at HRW HBW ⊢
    have HX := Lib.hid (HX0.out W1 Z HRW.out.1 HRW.out.2)
    clear hw2 hZ
    obtain ⟨⟨p0, p1, p2, p3⟩, ⟨q0, q1, q2, q3⟩⟩ := HX.out W1 (Below.refl _ _)
    go_wp2_with (first
      | (go_at_call 9; first
            | (refine (HGy.out w3 H3.out.1).mono ?_; rintro e w4 ⟨rfl, b4⟩; have H4 := Lib.hid (And.intro (H3.out.1.trans (b4.mono H3.out.1.size)) (H3.out.2.trans (b4.mono H3.out.2.size))); clear b4)
            | (refine (HGx.out W1 HBW.out).mono ?_; rintro e w3 ⟨rfl, b3⟩; have H3 := Lib.hid (And.intro (HBW.out.trans (b3.mono HBW.out.size)) b3); obtain ⟨-, ⟨q0, q1, q2, q3⟩⟩ := HX.out w3 b3; clear b3))
      | fail)
    go_ret
    exact ⟨rfl, H3.out.1⟩
  · clear HSm HO1 HO2 HO3 HLn HAl
    go_enter Tryd.func7, Tryd.ntmps7
    go_upto_region 1 with fail
    obtain ⟨Z, hZ⟩ : ∃ Z, Z = w.heap.size := ⟨_, rfl⟩
    have HRW := Lib.hid (HR0.out Z hZ)
    rw [← hZ]
    have HBW := Lib.hid (HB.out (.cells #[.int .i64 x.res, .slice S.t.sp x.tasks.length S.t.c, .slice S.m.sp x.modes.length S.m.c, .slice S.e.sp x.edges.length S.e.c] 26) (.cells #[.int .i64 y.res, .slice S'.t.sp y.tasks.length S'.t.c, .slice S'.m.sp y.modes.length S'.m.c, .slice S'.e.sp y.edges.length S'.e.c] 26))
    generalize hw2 : World.alloc (World.alloc w _) _ = W1 at HRW HBW ⊢
    have HX := Lib.hid (HX0.out W1 Z HRW.out.1 HRW.out.2)
    clear hw2 hZ
    obtain ⟨⟨p0, p1, p2, p3⟩, ⟨q0, q1, q2, q3⟩⟩ := HX.out W1 (Below.refl _ _)
    go_wp2_with (first
      | (go_at_call 9; first
            | (refine (HGy.out w3 H3.out.1).mono ?_; rintro e w4 ⟨rfl, b4⟩; have H4 := Lib.hid (And.intro (H3.out.1.trans (b4.mono H3.out.1.size)) (H3.out.2.trans (b4.mono H3.out.2.size))); clear b4)
            | (refine (HGx.out W1 HBW.out).mono ?_; rintro e w3 ⟨rfl, b3⟩; have H3 := Lib.hid (And.intro (HBW.out.trans (b3.mono HBW.out.size)) b3); obtain ⟨-, ⟨q0, q1, q2, q3⟩⟩ := HX.out w3 b3; clear b3))
      | fail)
    go_ret
    exact ⟨rfl, H4.out.1⟩
  · obtain ⟨t1, m1, e1, u1⟩ := great_not HG.out.1
    obtain ⟨t2, m2, e2, u2⟩ := great_not HG.out.2
    have HO1 := Lib.hid (fun wx hb => HO1.out wx hb (by omega) (by omega) (fun k hk => by have := u1 k hk; omega) (fun k hk => by have := u2 k hk; omega) (by omega) (by omega) (by omega) (by omega))
    have HO2 := Lib.hid (fun wx hb => HO2.out wx hb (by omega) (by omega) (fun k hk => by have := u2 k hk; omega) (fun k hk => by have := u1 k hk; omega) (by omega) (by omega) (by omega) (by omega))
    have HO3 := Lib.hid (fun wx hb => HO3.out wx hb (by omega) (by omega) (fun k hk => by have := u1 k hk; omega) (fun k hk => by have := u1 k hk; omega) (by omega) (by omega) (by omega) (by omega))
    have hlen := dfL_len x y (by omega) (by omega) (by omega) (by omega) (by omega) (by omega)
    rw [dfL_flip x y] at HO2
    rw [(dfL_nil x x).2 (imgEq_self x)] at HO3
    have hnil := dfL_nil x y
    have htold := dfL_told x y
    have hat := dfL_at x y (by omega) (by omega) (by omega) (by omega) (by omega) (by omega)
    obtain ⟨L, hL⟩ : ∃ L, dfL x y = L := ⟨_, rfl⟩
    rw [hL] at HO1 HO2 hlen hnil htold hat
    rw [turnRow_rows] at HO1 HO2
    rw [List.length_map] at HO2
    obtain ⟨n, hn⟩ : ∃ n, L.length = n := ⟨_, rfl⟩
    have hsame : imgEq x y = decide ((n : Int) = 0) := by
      rw [Bool.eq_iff_iff, ← hnil, decide_eq_true_iff, ← hn]
      constructor
      · rintro rfl; rfl
      · intro h0; exact List.eq_nil_of_length_eq_zero (by omega)
    rw [hsame] at HSm
    rw [hn] at HO1 HO2 hlen
    have HTold := Lib.hid (show ∀ k, k < n → toldT (tn L k) from fun k hk => htold _ (tn_mem L k (by omega)))
    have HFl := Lib.hid (show ∀ k, k < n → tn (L.map flipT) k = flipT (tn L k) from fun k hk => tn_flip L k (by omega))
    have HAtB := Lib.hid (show ∀ k, k < n → ((tn L k).at_ : Int) ≤ 9223372036854775807 from fun k hk => hat _ (tn_mem L k (by omega)))
    clear hL hn hsame hnil htold hat t1 m1 e1 u1 t2 m2 e2 u2 HG
    go_enter Tryd.func7, Tryd.ntmps7
    go_upto_region 1 with fail
    obtain ⟨Z, hZ⟩ : ∃ Z, Z = w.heap.size := ⟨_, rfl⟩
    have HRW := Lib.hid (HR0.out Z hZ)
    rw [← hZ]
    have HBW := Lib.hid (HB.out (.cells #[.int .i64 x.res, .slice S.t.sp x.tasks.length S.t.c, .slice S.m.sp x.modes.length S.m.c, .slice S.e.sp x.edges.length S.e.c] 26) (.cells #[.int .i64 y.res, .slice S'.t.sp y.tasks.length S'.t.c, .slice S'.m.sp y.modes.length S'.m.c, .slice S'.e.sp y.edges.length S'.e.c] 26))
    generalize hw2 : World.alloc (World.alloc w _) _ = W1 at HRW HBW ⊢
    have HX := Lib.hid (HX0.out W1 Z HRW.out.1 HRW.out.2)
    clear hw2 hZ
    obtain ⟨⟨p0, p1, p2, p3⟩, ⟨q0, q1, q2, q3⟩⟩ := HX.out W1 (Below.refl _ _)
    go_upto_region 3 with (first
      | (go_at_call 9; first
            | (refine (HGy.out w3 H3.out.1).mono ?_; rintro e w4 ⟨rfl, b4⟩; have H4 := Lib.hid (And.intro (H3.out.1.trans (b4.mono H3.out.1.size)) (H3.out.2.trans (b4.mono H3.out.2.size))); clear b4)
            | (refine (HGx.out W1 HBW.out).mono ?_; rintro e w3 ⟨rfl, b3⟩; have H3 := Lib.hid (And.intro (HBW.out.trans (b3.mono HBW.out.size)) b3); obtain ⟨-, ⟨q0, q1, q2, q3⟩⟩ := HX.out w3 b3; clear b3))
      | fail)
    have HGG := Lib.hid (show Below W1.heap.size W1 w4.drew from below_dn H4.out.2 1)
    clear p0 p1 p2 p3 q0 q1 q2 q3
    refine wp_region_held_drew (S := fun w' => Below W1.heap.size W1 w') (by kernel_rfl) HGG.out (fun hS => ?_)
    refine wpAnyH_take (i := 0) (oi := { dst := some 14, op := .load 26 (.tmp 2), type := 26, pos := "law.go:99", after := #[], guard := none }) (v := ?_) rfl (by kernel_rfl) (by kernel_rfl) (by kernel_rfl) (fun _ _ _ h => h) (Or.inl ⟨by rfl, ?_⟩) hS ?_
    rotate_left 1
    · intro w hw; obtain s0 := hw; obtain ⟨⟨p0, p1, p2, p3⟩, -⟩ := HX.out _ hw; go_simp; try (with_reducible rfl)
    simp only [Act.put, List.setIfInBounds_toArray, List.set_cons_zero, List.set_cons_succ]
    refine wpAnyH_take (i := 1) (oi := { dst := some 15, op := .load 26 (.tmp 3), type := 26, pos := "law.go:99", after := #[], guard := none }) (v := ?_) rfl (by kernel_rfl) (by kernel_rfl) (by kernel_rfl) (fun _ _ _ h => h) (Or.inl ⟨by rfl, ?_⟩) hS ?_
    rotate_left 1
    · intro w hw; obtain s0 := hw; obtain ⟨-, ⟨p0, p1, p2, p3⟩⟩ := HX.out _ hw; go_simp; try (with_reducible rfl)
    simp only [Act.put, List.setIfInBounds_toArray, List.set_cons_zero, List.set_cons_succ]
    refine wpAnyH_take (i := 3) (oi := { dst := some 17, op := .load 26 (.tmp 3), type := 26, pos := "law.go:99", after := #[], guard := none }) (v := ?_) rfl (by kernel_rfl) (by kernel_rfl) (by kernel_rfl) (fun _ _ _ h => h) (Or.inl ⟨by rfl, ?_⟩) hS ?_
    rotate_left 1
    · intro w hw; obtain s0 := hw; obtain ⟨-, ⟨p0, p1, p2, p3⟩⟩ := HX.out _ hw; go_simp; try (with_reducible rfl)
    simp only [Act.put, List.setIfInBounds_toArray, List.set_cons_zero, List.set_cons_succ]
    refine wpAnyH_take (i := 4) (oi := { dst := some 18, op := .load 26 (.tmp 2), type := 26, pos := "law.go:99", after := #[], guard := none }) (v := ?_) rfl (by kernel_rfl) (by kernel_rfl) (by kernel_rfl) (fun _ _ _ h => h) (Or.inl ⟨by rfl, ?_⟩) hS ?_
    rotate_left 1
    · intro w hw; obtain s0 := hw; obtain ⟨⟨p0, p1, p2, p3⟩, -⟩ := HX.out _ hw; go_simp; try (with_reducible rfl)
    simp only [Act.put, List.setIfInBounds_toArray, List.set_cons_zero, List.set_cons_succ]
    refine wpAnyH_ready (rs := [2]) (by kernel_rfl) (by simp) (AllReadyH.cons (o := { dst := some 16, op := .call { callee := .value (.func 22), args := #[.tmp 14, .tmp 15], argTypes := #[26, 26] }, type := 53, pos := "law.go:99", after := #[{ on := 0, ground := .data }, { on := 1, ground := .data }], guard := none }) rfl (fun K hK => ?_) AllReadyH.nil)
    go_simp
    go_at_call 22
    refine (HO1.out w4.drew (below_dn H4.out.1 1)).mono ?_
    rintro e w5 ⟨v1, rfl, o5, b5⟩
    have H5 := Lib.hid (show Below w.heap.size w w5 ∧ Below W1.heap.size W1 w5 ∧ _ from ⟨(below_dn H4.out.1 1).trans (b5.mono (below_dn H4.out.1 1).size), HGG.out.trans (b5.mono HGG.out.size), o5⟩)
    clear o5 b5
    try dsimp only
    refine hK.out _ _ H5.out.2.1 (fun hHeld => ?_)
    clear hK K
    try simp only [Act.put, List.setIfInBounds_toArray, List.set_cons_zero, List.set_cons_succ]
    refine wpAnyH_ready (rs := [5]) (by kernel_rfl) (by simp) (AllReadyH.cons (o := { dst := some 19, op := .call { callee := .value (.func 22), args := #[.tmp 17, .tmp 18], argTypes := #[26, 26] }, type := 53, pos := "law.go:99", after := #[{ on := 3, ground := .data }, { on := 4, ground := .data }, { on := 2, ground := .chain }], guard := none }) rfl (fun K hK => ?_) AllReadyH.nil)
    go_simp
    go_at_call 22
    refine (HO2.out w5 H5.out.1).mono ?_
    rintro e w6 ⟨v2, rfl, o6, b6⟩
    have H6 := Lib.hid (show Below w.heap.size w w6 ∧ Below W1.heap.size W1 w6 ∧ _ ∧ _ from ⟨H5.out.1.trans (b6.mono H5.out.1.size), H5.out.2.1.trans (b6.mono H5.out.2.1.size), own_below H5.out.2.2 b6 (Nat.le_refl _), o6⟩)
    clear o6 b6
    try dsimp only
    refine hK.out _ _ H6.out.2.1 (fun hHeld => ?_)
    clear hK K
    try simp only [Act.put, List.setIfInBounds_toArray, List.set_cons_zero, List.set_cons_succ]
    refine wpAnyH_take (i := 6) (oi := { dst := some 5, op := .assign (.tmp 16), type := 53, pos := "law.go:99", after := #[{ on := 2, ground := .data }, { on := 5, ground := .chain }, { on := 0, ground := .phase }, { on := 1, ground := .phase }, { on := 2, ground := .phase }, { on := 3, ground := .textOnly Go.Departure.lateStores }, { on := 4, ground := .textOnly Go.Departure.lateStores }, { on := 5, ground := .textOnly Go.Departure.lateStoresUnsure }], guard := none }) (v := ?_) rfl (by kernel_rfl) (by kernel_rfl) (by kernel_rfl) (fun _ _ _ h => h) (Or.inl ⟨by rfl, ?_⟩) H6.out.2.1 ?_
    rotate_left 1
    · intro w hw; obtain s0 := hw; go_simp; try (with_reducible rfl)
    simp only [Act.put, List.setIfInBounds_toArray, List.set_cons_zero, List.set_cons_succ]
    refine wpAnyH_take (i := 7) (oi := { dst := some 6, op := .assign (.tmp 19), type := 53, pos := "law.go:99", after := #[{ on := 5, ground := .data }, { on := 6, ground := .chain }, { on := 0, ground := .phase }, { on := 1, ground := .phase }, { on := 2, ground := .phase }, { on := 3, ground := .phase }, { on := 4, ground := .phase }, { on := 5, ground := .phase }, { on := 6, ground := .phase }], guard := none }) (v := ?_) rfl (by kernel_rfl) (by kernel_rfl) (by kernel_rfl) (fun _ _ _ h => h) (Or.inl ⟨by rfl, ?_⟩) H6.out.2.1 ?_
    rotate_left 1
    · intro w hw; obtain s0 := hw; go_simp; try (with_reducible rfl)
    simp only [Act.put, List.setIfInBounds_toArray, List.set_cons_zero, List.set_cons_succ]
    refine wpAnyH_done (by kernel_rfl) ?_ _

    obtain ⟨S1, rfl, hs1, ha1⟩ := own_rows H6.out.2.2.1 (fun _ _ => rfl) (by omega)
    obtain ⟨S2, rfl, hs2, ha2⟩ := own_rows H6.out.2.2.2 (fun _ _ => rfl) (by omega)
    have HS1 := Lib.hid (show 0 < n → S1.sp = some ⟨S1.b, S1.o, none⟩ from fun h0 => (hs1 h0).1)
    have HS2 := Lib.hid (show 0 < n → S2.sp = some ⟨S2.b, S2.o, none⟩ from fun h0 => (hs2 h0).1)
    have HC1 := Lib.hid (show ∀ k, k < n → ∀ wx, Below w6.heap.size w6 wx → wx.cell? ⟨S1.b, S1.o + k * 4, none⟩ = some (.int .i64 (tn L k).kind) ∧ wx.cell? ⟨S1.b, S1.o + k * 4 + 1, none⟩ = some (.int .i64 ((tn L k).at_ : Nat)) ∧ wx.cell? ⟨S1.b, S1.o + k * 4 + 2, none⟩ = some (.bool (tn L k).old) ∧ wx.cell? ⟨S1.b, S1.o + k * 4 + 3, none⟩ = some (.bool (tn L k).new) from fun k hk wx hb =>
      have hl := (hs1 (by omega)).2.2.1
      ⟨(hb.cell hl).trans (ha1 k hk 0 _ rfl), (hb.cell hl).trans (ha1 k hk 1 _ rfl), (hb.cell hl).trans (ha1 k hk 2 _ rfl), (hb.cell hl).trans (ha1 k hk 3 _ rfl)⟩)
    have HC2 := Lib.hid (show ∀ k, k < n → ∀ wx, Below w6.heap.size w6 wx → wx.cell? ⟨S2.b, S2.o + k * 4, none⟩ = some (.int .i64 (tn L k).kind) ∧ wx.cell? ⟨S2.b, S2.o + k * 4 + 1, none⟩ = some (.int .i64 ((tn L k).at_ : Nat)) ∧ wx.cell? ⟨S2.b, S2.o + k * 4 + 2, none⟩ = some (.bool (tn L k).new) ∧ wx.cell? ⟨S2.b, S2.o + k * 4 + 3, none⟩ = some (.bool (tn L k).old) from fun k hk wx hb => by
      have hl := (hs2 (by omega)).2.2.1
      have ha := ha2 k hk
      rw [HFl.out k hk] at ha
      exact ⟨(hb.cell hl).trans (ha 0 _ rfl), (hb.cell hl).trans (ha 1 _ rfl), (hb.cell hl).trans (ha 2 _ rfl), (hb.cell hl).trans (ha 3 _ rfl)⟩)
    clear hs1 ha1 hs2 ha2
    obtain ⟨⟨p0, p1, p2, p3⟩, ⟨q0, q1, q2, q3⟩⟩ := HX.out w6 H6.out.2.1
    have hee : ((n : Int) == 0) = decide (n = 0) := by rw [Bool.eq_iff_iff]; simp
    go_upto_region 7 with (first
      | (go_at_call 27; refine (HSm.out w6 H6.out.1).mono ?_; rintro e w7 ⟨rfl, b7⟩; have H7 := Lib.hid (And.intro (H6.out.1.trans (b7.mono H6.out.1.size)) b7); obtain ⟨⟨p0', p1', p2', p3'⟩, -⟩ := HX.out w7 (H6.out.2.1.trans (b7.mono H6.out.2.1.size)); clear b7)
      | (go_at_call 22; refine (HO3.out w7 H7.out.1).mono ?_; rintro e w8 ⟨v3, rfl, o8, b8⟩; obtain ⟨sp8, c8, rfl⟩ := own_val o8; have H8 := Lib.hid (And.intro (H7.out.1.trans (b8.mono H7.out.1.size)) (H7.out.2.trans (b8.mono H7.out.2.size))); clear o8 b8)
      | fail)
    clear p0 p1 p2 p3 q0 q1 q2 q3 p0' p1' p2' p3' hee
    go_loopg [7] n (fun g u wr => ∃ k : Nat, k + g = n ∧ u = .int .i64 (k : Nat) ∧ Aside (Below w8.heap.size w8 wr))
    case atStart => exact ⟨0, by omega, rfl, Below.refl _ _⟩
    case round =>
      obtain ⟨k, hkg, rfl, HR⟩ := hrel
      have HBr := Lib.hid (show Below w.heap.size w wr from H8.out.1.trans (HR.out.mono H8.out.1.size))
      have HB6 := Lib.hid (show Below w6.heap.size w6 wr from H8.out.2.trans (HR.out.mono H8.out.2.size))
      cases gk with
      | zero =>
        obtain rfl : k = n := by omega
        go_wp2_with (first
          | (go_at_call 26; refine (HAl.out wr HBr.out).mono ?_; rintro e w9 ⟨rfl, b9⟩; have H9 := Lib.hid (HBr.out.trans (b9.mono HBr.out.size)); clear b9)
          | fail)
        go_ret
        exact ⟨rfl, H9.out⟩
      | succ g1 =>
        have hk : k < n := by omega
        have hk2 : (k : Int) < (n : Int) := by omega
        have hk3 : k < 500 := by omega
        have HE := Lib.hid (And.intro (HS1.out (by omega)) (HS2.out (by omega)))
        have HT := Lib.hid (HTold.out k hk)
        have HAt := Lib.hid (show ((tn L k).at_ : Int) ≤ 9223372036854775807 from HAtB.out k hk)
        have HCx := Lib.hid (fun wx (hb : Below wr.heap.size wr wx) => HC1.out k hk wx (HB6.out.trans (hb.mono HB6.out.size)))
        have HCy := Lib.hid (fun wx (hb : Below wr.heap.size wr wx) => HC2.out k hk wx (HB6.out.trans (hb.mono HB6.out.size)))
        have HLk := Lib.hid (fun wx (hb : Below w.heap.size w wx) => HLn.out wx hb (tn L k) HAt.out)
        have hle := toldT_line HT.out
        obtain ⟨t, ht⟩ : ∃ t, tn L k = t := ⟨_, rfl⟩
        rw [ht] at HCx HCy HLk hle
        obtain ⟨r, hr⟩ : ∃ r, lineB t.kind (t.at_ : Nat) t.old t.new = r := ⟨_, rfl⟩
        rw [hr] at HLk hle
        obtain ⟨ck, ca, co, cn⟩ := t
        dsimp only at HCx HCy HLk
        have HLE := Lib.hid hle
        have HKK := Lib.hid (And.intro hk hk2)
        clear hr ht hle hk hk2
        go_upto_region 9 with fail
        have HD := Lib.hid (show Below wr.heap.size wr wr.drew from below_dn (Below.refl _ _) 1)
        refine wp_region_held_drew (S := fun w' => Below wr.heap.size wr w') (by kernel_rfl) HD.out (fun hS => ?_)
        refine wpAnyH_take (i := 0) (oi := { dst := some 47, op := .move (.tmp 6), type := 53, pos := "law.go:104", after := #[], guard := none }) (v := ?_) rfl (by kernel_rfl) (by kernel_rfl) (by kernel_rfl) (fun _ _ _ h => h) (Or.inl ⟨by rfl, ?_⟩) hS ?_
        rotate_left 1
        · intro w hw; obtain s0 := hw; go_simp; try (with_reducible rfl)
        simp only [Act.put, List.setIfInBounds_toArray, List.set_cons_zero, List.set_cons_succ]
        refine wpAnyH_take (i := 1) (oi := { dst := some 48, op := .move (.tmp 7), type := 3, pos := "law.go:104", after := #[], guard := none }) (v := ?_) rfl (by kernel_rfl) (by kernel_rfl) (by kernel_rfl) (fun _ _ _ h => h) (Or.inl ⟨by rfl, ?_⟩) hS ?_
        rotate_left 1
        · intro w hw; obtain s0 := hw; go_simp; try (with_reducible rfl)
        simp only [Act.put, List.setIfInBounds_toArray, List.set_cons_zero, List.set_cons_succ]
        refine wpAnyH_take (i := 2) (oi := { dst := some 49, op := .indexAddr 53 (.tmp 47) (.tmp 48), type := 0, pos := "law.go:104", after := #[{ on := 0, ground := .data }, { on := 1, ground := .data }], guard := none }) (v := ?_) rfl (by kernel_rfl) (by kernel_rfl) (by kernel_rfl) (fun _ _ _ h => h) (Or.inl ⟨by rfl, ?_⟩) hS ?_
        rotate_left 1
        · intro w hw; obtain s0 := hw; obtain ⟨k0, k1⟩ := HKK.out; rw [HE.out.2]; go_simp; try (with_reducible rfl)
        simp only [Act.put, List.setIfInBounds_toArray, List.set_cons_zero, List.set_cons_succ]
        refine wpAnyH_take (i := 3) (oi := { dst := some 50, op := .load 57 (.tmp 49), type := 57, pos := "law.go:104", after := #[{ on := 2, ground := .data }], guard := none }) (v := ?_) rfl (by kernel_rfl) (by kernel_rfl) (by kernel_rfl) (fun _ _ _ h => h) (Or.inl ⟨by rfl, ?_⟩) hS ?_
        rotate_left 1
        · intro w hw; obtain s0 := hw; obtain ⟨p0, p1, p2, p3⟩ := HCy.out _ hw; go_simp; try (with_reducible rfl)
        simp only [Act.put, List.setIfInBounds_toArray, List.set_cons_zero, List.set_cons_succ]
        refine wpAnyH_take (i := 4) (oi := { dst := some 51, op := .move (.tmp 5), type := 53, pos := "law.go:104", after := #[], guard := none }) (v := ?_) rfl (by kernel_rfl) (by kernel_rfl) (by kernel_rfl) (fun _ _ _ h => h) (Or.inl ⟨by rfl, ?_⟩) hS ?_
        rotate_left 1
        · intro w hw; obtain s0 := hw; go_simp; try (with_reducible rfl)
        simp only [Act.put, List.setIfInBounds_toArray, List.set_cons_zero, List.set_cons_succ]
        refine wpAnyH_take (i := 5) (oi := { dst := some 52, op := .move (.tmp 7), type := 3, pos := "law.go:104", after := #[], guard := none }) (v := ?_) rfl (by kernel_rfl) (by kernel_rfl) (by kernel_rfl) (fun _ _ _ h => h) (Or.inl ⟨by rfl, ?_⟩) hS ?_
        rotate_left 1
        · intro w hw; obtain s0 := hw; go_simp; try (with_reducible rfl)
        simp only [Act.put, List.setIfInBounds_toArray, List.set_cons_zero, List.set_cons_succ]
        refine wpAnyH_take (i := 6) (oi := { dst := some 53, op := .indexAddr 53 (.tmp 51) (.tmp 52), type := 0, pos := "law.go:104", after := #[{ on := 4, ground := .data }, { on := 5, ground := .data }], guard := none }) (v := ?_) rfl (by kernel_rfl) (by kernel_rfl) (by kernel_rfl) (fun _ _ _ h => h) (Or.inl ⟨by rfl, ?_⟩) hS ?_
        rotate_left 1
        · intro w hw; obtain s0 := hw; obtain ⟨k0, k1⟩ := HKK.out; rw [HE.out.1]; go_simp; try (with_reducible rfl)
        simp only [Act.put, List.setIfInBounds_toArray, List.set_cons_zero, List.set_cons_succ]
        refine wpAnyH_take (i := 7) (oi := { dst := some 54, op := .fieldAddr 57 (.tmp 53) 0, type := 0, pos := "law.go:104", after := #[{ on := 6, ground := .data }], guard := none }) (v := ?_) rfl (by kernel_rfl) (by kernel_rfl) (by kernel_rfl) (fun _ _ _ h => h) (Or.inl ⟨by rfl, ?_⟩) hS ?_
        rotate_left 1
        · intro w hw; obtain s0 := hw; go_simp; try (with_reducible rfl)
        simp only [Act.put, List.setIfInBounds_toArray, List.set_cons_zero, List.set_cons_succ]
        refine wpAnyH_take (i := 8) (oi := { dst := some 55, op := .load 55 (.tmp 54), type := 55, pos := "law.go:104", after := #[{ on := 7, ground := .data }], guard := none }) (v := ?_) rfl (by kernel_rfl) (by kernel_rfl) (by kernel_rfl) (fun _ _ _ h => h) (Or.inl ⟨by rfl, ?_⟩) hS ?_
        rotate_left 1
        · intro w hw; obtain s0 := hw; obtain ⟨p0, p1, p2, p3⟩ := HCx.out _ hw; go_simp; try (with_reducible rfl)
        simp only [Act.put, List.setIfInBounds_toArray, List.set_cons_zero, List.set_cons_succ]
        refine wpAnyH_take (i := 9) (oi := { dst := some 56, op := .move (.tmp 5), type := 53, pos := "law.go:104", after := #[], guard := none }) (v := ?_) rfl (by kernel_rfl) (by kernel_rfl) (by kernel_rfl) (fun _ _ _ h => h) (Or.inl ⟨by rfl, ?_⟩) hS ?_
        rotate_left 1
        · intro w hw; obtain s0 := hw; go_simp; try (with_reducible rfl)
        simp only [Act.put, List.setIfInBounds_toArray, List.set_cons_zero, List.set_cons_succ]
        refine wpAnyH_take (i := 10) (oi := { dst := some 57, op := .move (.tmp 7), type := 3, pos := "law.go:104", after := #[], guard := none }) (v := ?_) rfl (by kernel_rfl) (by kernel_rfl) (by kernel_rfl) (fun _ _ _ h => h) (Or.inl ⟨by rfl, ?_⟩) hS ?_
        rotate_left 1
        · intro w hw; obtain s0 := hw; go_simp; try (with_reducible rfl)
        simp only [Act.put, List.setIfInBounds_toArray, List.set_cons_zero, List.set_cons_succ]
        refine wpAnyH_take (i := 11) (oi := { dst := some 58, op := .indexAddr 53 (.tmp 56) (.tmp 57), type := 0, pos := "law.go:104", after := #[{ on := 9, ground := .data }, { on := 10, ground := .data }], guard := none }) (v := ?_) rfl (by kernel_rfl) (by kernel_rfl) (by kernel_rfl) (fun _ _ _ h => h) (Or.inl ⟨by rfl, ?_⟩) hS ?_
        rotate_left 1
        · intro w hw; obtain s0 := hw; obtain ⟨k0, k1⟩ := HKK.out; rw [HE.out.1]; go_simp; try (with_reducible rfl)
        simp only [Act.put, List.setIfInBounds_toArray, List.set_cons_zero, List.set_cons_succ]
        refine wpAnyH_take (i := 12) (oi := { dst := some 59, op := .fieldAddr 57 (.tmp 58) 1, type := 0, pos := "law.go:104", after := #[{ on := 11, ground := .data }], guard := none }) (v := ?_) rfl (by kernel_rfl) (by kernel_rfl) (by kernel_rfl) (fun _ _ _ h => h) (Or.inl ⟨by rfl, ?_⟩) hS ?_
        rotate_left 1
        · intro w hw; obtain s0 := hw; go_simp; try (with_reducible rfl)
        simp only [Act.put, List.setIfInBounds_toArray, List.set_cons_zero, List.set_cons_succ]
        refine wpAnyH_take (i := 13) (oi := { dst := some 60, op := .load 3 (.tmp 59), type := 3, pos := "law.go:104", after := #[{ on := 12, ground := .data }], guard := none }) (v := ?_) rfl (by kernel_rfl) (by kernel_rfl) (by kernel_rfl) (fun _ _ _ h => h) (Or.inl ⟨by rfl, ?_⟩) hS ?_
        rotate_left 1
        · intro w hw; obtain s0 := hw; obtain ⟨p0, p1, p2, p3⟩ := HCx.out _ hw; go_simp; try (with_reducible rfl)
        simp only [Act.put, List.setIfInBounds_toArray, List.set_cons_zero, List.set_cons_succ]
        refine wpAnyH_take (i := 14) (oi := { dst := some 61, op := .move (.tmp 5), type := 53, pos := "law.go:104", after := #[], guard := none }) (v := ?_) rfl (by kernel_rfl) (by kernel_rfl) (by kernel_rfl) (fun _ _ _ h => h) (Or.inl ⟨by rfl, ?_⟩) hS ?_
        rotate_left 1
        · intro w hw; obtain s0 := hw; go_simp; try (with_reducible rfl)
        simp only [Act.put, List.setIfInBounds_toArray, List.set_cons_zero, List.set_cons_succ]
        refine wpAnyH_take (i := 15) (oi := { dst := some 62, op := .move (.tmp 7), type := 3, pos := "law.go:104", after := #[], guard := none }) (v := ?_) rfl (by kernel_rfl) (by kernel_rfl) (by kernel_rfl) (fun _ _ _ h => h) (Or.inl ⟨by rfl, ?_⟩) hS ?_
        rotate_left 1
        · intro w hw; obtain s0 := hw; go_simp; try (with_reducible rfl)
        simp only [Act.put, List.setIfInBounds_toArray, List.set_cons_zero, List.set_cons_succ]
        refine wpAnyH_take (i := 16) (oi := { dst := some 63, op := .indexAddr 53 (.tmp 61) (.tmp 62), type := 0, pos := "law.go:104", after := #[{ on := 14, ground := .data }, { on := 15, ground := .data }], guard := none }) (v := ?_) rfl (by kernel_rfl) (by kernel_rfl) (by kernel_rfl) (fun _ _ _ h => h) (Or.inl ⟨by rfl, ?_⟩) hS ?_
        rotate_left 1
        · intro w hw; obtain s0 := hw; obtain ⟨k0, k1⟩ := HKK.out; rw [HE.out.1]; go_simp; try (with_reducible rfl)
        simp only [Act.put, List.setIfInBounds_toArray, List.set_cons_zero, List.set_cons_succ]
        refine wpAnyH_take (i := 17) (oi := { dst := some 64, op := .fieldAddr 57 (.tmp 63) 3, type := 0, pos := "law.go:104", after := #[{ on := 16, ground := .data }], guard := none }) (v := ?_) rfl (by kernel_rfl) (by kernel_rfl) (by kernel_rfl) (fun _ _ _ h => h) (Or.inl ⟨by rfl, ?_⟩) hS ?_
        rotate_left 1
        · intro w hw; obtain s0 := hw; go_simp; try (with_reducible rfl)
        simp only [Act.put, List.setIfInBounds_toArray, List.set_cons_zero, List.set_cons_succ]
        refine wpAnyH_take (i := 18) (oi := { dst := some 65, op := .load 4 (.tmp 64), type := 4, pos := "law.go:104", after := #[{ on := 17, ground := .data }], guard := none }) (v := ?_) rfl (by kernel_rfl) (by kernel_rfl) (by kernel_rfl) (fun _ _ _ h => h) (Or.inl ⟨by rfl, ?_⟩) hS ?_
        rotate_left 1
        · intro w hw; obtain s0 := hw; obtain ⟨p0, p1, p2, p3⟩ := HCx.out _ hw; go_simp; try (with_reducible rfl)
        simp only [Act.put, List.setIfInBounds_toArray, List.set_cons_zero, List.set_cons_succ]
        refine wpAnyH_take (i := 19) (oi := { dst := some 66, op := .move (.tmp 5), type := 53, pos := "law.go:104", after := #[], guard := none }) (v := ?_) rfl (by kernel_rfl) (by kernel_rfl) (by kernel_rfl) (fun _ _ _ h => h) (Or.inl ⟨by rfl, ?_⟩) hS ?_
        rotate_left 1
        · intro w hw; obtain s0 := hw; go_simp; try (with_reducible rfl)
        simp only [Act.put, List.setIfInBounds_toArray, List.set_cons_zero, List.set_cons_succ]
        refine wpAnyH_take (i := 20) (oi := { dst := some 67, op := .move (.tmp 7), type := 3, pos := "law.go:104", after := #[], guard := none }) (v := ?_) rfl (by kernel_rfl) (by kernel_rfl) (by kernel_rfl) (fun _ _ _ h => h) (Or.inl ⟨by rfl, ?_⟩) hS ?_
        rotate_left 1
        · intro w hw; obtain s0 := hw; go_simp; try (with_reducible rfl)
        simp only [Act.put, List.setIfInBounds_toArray, List.set_cons_zero, List.set_cons_succ]
        refine wpAnyH_take (i := 21) (oi := { dst := some 68, op := .indexAddr 53 (.tmp 66) (.tmp 67), type := 0, pos := "law.go:104", after := #[{ on := 19, ground := .data }, { on := 20, ground := .data }], guard := none }) (v := ?_) rfl (by kernel_rfl) (by kernel_rfl) (by kernel_rfl) (fun _ _ _ h => h) (Or.inl ⟨by rfl, ?_⟩) hS ?_
        rotate_left 1
        · intro w hw; obtain s0 := hw; obtain ⟨k0, k1⟩ := HKK.out; rw [HE.out.1]; go_simp; try (with_reducible rfl)
        simp only [Act.put, List.setIfInBounds_toArray, List.set_cons_zero, List.set_cons_succ]
        refine wpAnyH_take (i := 22) (oi := { dst := some 69, op := .fieldAddr 57 (.tmp 68) 2, type := 0, pos := "law.go:104", after := #[{ on := 21, ground := .data }], guard := none }) (v := ?_) rfl (by kernel_rfl) (by kernel_rfl) (by kernel_rfl) (fun _ _ _ h => h) (Or.inl ⟨by rfl, ?_⟩) hS ?_
        rotate_left 1
        · intro w hw; obtain s0 := hw; go_simp; try (with_reducible rfl)
        simp only [Act.put, List.setIfInBounds_toArray, List.set_cons_zero, List.set_cons_succ]
        refine wpAnyH_take (i := 23) (oi := { dst := some 70, op := .load 4 (.tmp 69), type := 4, pos := "law.go:104", after := #[{ on := 22, ground := .data }], guard := none }) (v := ?_) rfl (by kernel_rfl) (by kernel_rfl) (by kernel_rfl) (fun _ _ _ h => h) (Or.inl ⟨by rfl, ?_⟩) hS ?_
        rotate_left 1
        · intro w hw; obtain s0 := hw; obtain ⟨p0, p1, p2, p3⟩ := HCx.out _ hw; go_simp; try (with_reducible rfl)
        simp only [Act.put, List.setIfInBounds_toArray, List.set_cons_zero, List.set_cons_succ]
        refine wpAnyH_take (i := 24) (oi := { dst := some 71, op := .build 57 #[(0, .tmp 55), (1, .tmp 60), (2, .tmp 65), (3, .tmp 70)], type := 57, pos := "law.go:104", after := #[{ on := 8, ground := .data }, { on := 13, ground := .data }, { on := 18, ground := .data }, { on := 23, ground := .data }], guard := none }) (v := ?_) rfl (by kernel_rfl) (by kernel_rfl) (by kernel_rfl) (fun _ _ _ h => h) (Or.inl ⟨by rfl, ?_⟩) hS ?_
        rotate_left 1
        · intro w hw; obtain s0 := hw; go_simp; try (with_reducible rfl)
        simp only [Act.put, List.setIfInBounds_toArray, List.set_cons_zero, List.set_cons_succ]
        refine wpAnyH_take (i := 25) (oi := { dst := some 72, op := .binOp .neq 57 (.tmp 50) (.tmp 71) 57, type := 4, pos := "law.go:104", after := #[{ on := 3, ground := .data }, { on := 24, ground := .data }], guard := none }) (v := (.bool false)) rfl (by kernel_rfl) (by kernel_rfl) (by kernel_rfl) (fun _ _ _ h => h) (Or.inl ⟨by rfl, ?_⟩) hS ?_
        · intro w hw; obtain s0 := hw; have k0 := neq_turn ck (ca : Nat) cn co w; go_simp; try (with_reducible rfl)
        simp only [Act.put, List.setIfInBounds_toArray, List.set_cons_zero, List.set_cons_succ]
        refine wpAnyH_take (i := 26) (oi := { dst := some 73, op := .move (.tmp 72), type := 4, pos := "law.go:104", after := #[{ on := 25, ground := .data }], guard := none }) (v := ?_) rfl (by kernel_rfl) (by kernel_rfl) (by kernel_rfl) (fun _ _ _ h => h) (Or.inl ⟨by rfl, ?_⟩) hS ?_
        rotate_left 1
        · intro w hw; obtain s0 := hw; go_simp; try (with_reducible rfl)
        simp only [Act.put, List.setIfInBounds_toArray, List.set_cons_zero, List.set_cons_succ]
        refine wpAnyH_take (i := 27) (oi := { dst := some 74, op := .move (.tmp 5), type := 53, pos := "law.go:104", after := #[{ on := 26, ground := .guard }], guard := some (26, false) }) (v := ?_) rfl (by kernel_rfl) (by kernel_rfl) (by kernel_rfl) (fun _ _ _ h => h) (Or.inl ⟨by rfl, ?_⟩) hS ?_
        rotate_left 1
        · intro w hw; obtain s0 := hw; go_simp; try (with_reducible rfl)
        simp only [Act.put, List.setIfInBounds_toArray, List.set_cons_zero, List.set_cons_succ]
        refine wpAnyH_take (i := 28) (oi := { dst := some 75, op := .move (.tmp 7), type := 3, pos := "law.go:104", after := #[{ on := 26, ground := .guard }], guard := some (26, false) }) (v := ?_) rfl (by kernel_rfl) (by kernel_rfl) (by kernel_rfl) (fun _ _ _ h => h) (Or.inl ⟨by rfl, ?_⟩) hS ?_
        rotate_left 1
        · intro w hw; obtain s0 := hw; go_simp; try (with_reducible rfl)
        simp only [Act.put, List.setIfInBounds_toArray, List.set_cons_zero, List.set_cons_succ]
        refine wpAnyH_take (i := 29) (oi := { dst := some 76, op := .indexAddr 53 (.tmp 74) (.tmp 75), type := 0, pos := "law.go:104", after := #[{ on := 27, ground := .data }, { on := 28, ground := .data }, { on := 26, ground := .guard }], guard := some (26, false) }) (v := ?_) rfl (by kernel_rfl) (by kernel_rfl) (by kernel_rfl) (fun _ _ _ h => h) (Or.inl ⟨by rfl, ?_⟩) hS ?_
        rotate_left 1
        · intro w hw; obtain s0 := hw; obtain ⟨k0, k1⟩ := HKK.out; rw [HE.out.1]; go_simp; try (with_reducible rfl)
        simp only [Act.put, List.setIfInBounds_toArray, List.set_cons_zero, List.set_cons_succ]
        refine wpAnyH_take (i := 30) (oi := { dst := some 77, op := .load 57 (.tmp 76), type := 57, pos := "law.go:104", after := #[{ on := 29, ground := .data }, { on := 26, ground := .guard }], guard := some (26, false) }) (v := ?_) rfl (by kernel_rfl) (by kernel_rfl) (by kernel_rfl) (fun _ _ _ h => h) (Or.inl ⟨by rfl, ?_⟩) hS ?_
        rotate_left 1
        · intro w hw; obtain s0 := hw; obtain ⟨p0, p1, p2, p3⟩ := HCx.out _ hw; go_simp; try (with_reducible rfl)
        simp only [Act.put, List.setIfInBounds_toArray, List.set_cons_zero, List.set_cons_succ]
        refine wpAnyH_ready (rs := [31]) (by kernel_rfl) (by simp) (AllReadyH.cons (o := { dst := some 78, op := .call { callee := .value (.func 28), args := #[.tmp 77], argTypes := #[57] }, type := 9, pos := "law.go:104", after := #[{ on := 30, ground := .data }, { on := 26, ground := .chain }, { on := 26, ground := .guard }], guard := some (26, false) }) rfl (fun K hK => ?_) AllReadyH.nil)
        go_simp
        go_at_call 28
        refine (HLk.out wr.drew (below_dn HBr.out 1)).mono ?_
        rintro e w9 ⟨rfl, b9⟩
        have H9 := Lib.hid (show Below wr.heap.size wr w9 from HD.out.trans (b9.mono HD.out.size))
        clear b9
        try dsimp only
        refine hK.out _ _ H9.out (fun hHeld => ?_)
        clear hK K
        try simp only [Act.put, List.setIfInBounds_toArray, List.set_cons_zero, List.set_cons_succ]
        refine wpAnyH_take (i := 32) (oi := { dst := some 79, op := .binOp .eql 9 (.tmp 78) (.const (.string { data := #[] })) 9, type := 4, pos := "law.go:104", after := #[{ on := 31, ground := .data }, { on := 26, ground := .guard }], guard := some (26, false) }) (v := (.bool false)) rfl (by kernel_rfl) (by kernel_rfl) (by kernel_rfl) (fun _ _ _ h => h) (Or.inl ⟨by rfl, ?_⟩) H9.out ?_
        · intro w hw; obtain s0 := hw; have k0 := HLE.out; go_simp; try (with_reducible rfl)
        simp only [Act.put, List.setIfInBounds_toArray, List.set_cons_zero, List.set_cons_succ]
        refine wpAnyH_take (i := 33) (oi := { dst := some 80, op := .pick (.tmp 73) (.const (.bool true)) (.tmp 79), type := 4, pos := "law.go:104", after := #[{ on := 26, ground := .data }, { on := 32, ground := .data }], guard := none }) (v := ?_) rfl (by kernel_rfl) (by kernel_rfl) (by kernel_rfl) (fun _ _ _ h => h) (Or.inl ⟨by rfl, ?_⟩) H9.out ?_
        rotate_left 1
        · intro w hw; obtain s0 := hw; go_simp; try (with_reducible rfl)
        simp only [Act.put, List.setIfInBounds_toArray, List.set_cons_zero, List.set_cons_succ]
        refine wpAnyH_done (by kernel_rfl) ?_ _

        go_wp2
        go_roundg g1
        case measure => omega
        case rel => exact ⟨k + 1, by omega, by go_num, HR.out.trans (H9.out.mono HR.out.size)⟩
end Go.Proofs.YtknkhigmokooaaaDoor
