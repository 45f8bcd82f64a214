/- The contract of image's checkModes. -/
import Derived.Test.YtandehdgpbflmaaJD
namespace Go.Proofs.Ytandehdgpbflmaa
open Go.RowKit

/-- Are a mode's tasks there? -/
def mdT (x : Img) (k : Nat) : Bool := (tasksM x (k : Int) &&& ~~~allI x) == 0#32
def mdOK (x : Img) (k : Nat) : Bool := mdT x k && queuesOK (x.m k).qs
def codeMo (x : Img) (o : Option Nat) : Int × Int := match o with | some k => ((k : Int), if mdT x k = true then (104 : Int) else 101) | none => (0, 0)
/-- What is said of an image's modes. -/
def codeM (x : Img) : Int × Int := if inB (x.modes.length : Int) 1 8 = true then codeMo x (firstNo x.modes.length (mdOK x)) else ((x.modes.length : Int), 101)
theorem mdT_iff (x : Img) (k : Nat) : mdT x k = decide (w32 (tasksM x (k : Int) &&& ~~~allI x) = 0) := by
  unfold mdT
  rw [Bool.eq_iff_iff, beq_iff_eq, decide_eq_true_iff]
  constructor
  · intro h; rw [h]; rfl
  · intro h
    have : w32 (tasksM x (k : Int) &&& ~~~allI x) = w32 0#32 := by rw [h]; rfl
    exact w32_inj.1 this
theorem rrKeep {w wa wb : World} {Z E : Nat} {a b : Array Value} {ta tb : TypeId} (h : Below w.heap.size w wa ∧ RowAt wa Z ta a ∧ RowAt wa E tb b) (hb : Below wa.heap.size wa wb) :
    Below w.heap.size w wb ∧ RowAt wb Z ta a ∧ RowAt wb E tb b := ⟨h.1.trans (hb.mono h.1.size), h.2.1.new hb, h.2.2.new hb⟩
theorem rrD {w wa : World} {Z E : Nat} {a b : Array Value} {ta tb : TypeId} (h : Below w.heap.size w wa ∧ RowAt wa Z ta a ∧ RowAt wa E tb b) :
    Below w.heap.size w wa.drew ∧ RowAt wa.drew Z ta a ∧ RowAt wa.drew E tb b := ⟨below_dn h.1 1, h.2⟩
set_option maxHeartbeats 4000000 in
set_option maxRecDepth 100000 in
theorem icheckModes_any {w : World} {V : Nat → Prop} {x : Img} {S : ImgS} (h : ImgAt w V x S) :
    Calls Try.prog 34 #[.agg #[.int .i64 x.res, .slice S.t.sp x.tasks.length S.t.c, .slice S.m.sp x.modes.length S.m.c, .slice S.e.sp x.edges.length S.e.c]] w fun e w' => e = .returned (.tuple #[.int .i64 (codeM x).1, .int .i64 (codeM x).2]) ∧ Below w.heap.size w w' := by
  have HI := Lib.hid h
  have hsm := h.sm.sm
  have HT := Lib.hid (show codeM x = if inB (x.modes.length : Int) 1 8 = true then codeMo x (firstNo x.modes.length (mdOK x)) else ((x.modes.length : Int), 101) from rfl)
  have HW := Lib.hid (fun wx => within_any (x.modes.length : Int) 1 8 wx)
  have HTk := Lib.hid (show ∀ wx (m : Int), Below w.heap.size w wx → _ from fun wx m hb => iTasks_any (h.new hb) m)
  have HAl := Lib.hid (fun wx => iAll_any x S wx)
  have HQs := Lib.hid (fun (k : Nat) (hk : k < x.modes.length) (wx : World) (hb : Below w.heap.size w wx) => qsMayBe_any ((h.new hb).qat k hk))
  have HC := Lib.hid (fun (k : Nat) (hk : k < x.modes.length) (wx : World) (hb : Below w.heap.size w wx) => show At wx S.m.b (S.m.o + k * 2) [.int .u32 (w32 (x.m k).tasks), .slice (S.q k).sp (x.m k).qs.length (S.q k).c] from fun j u hu => by
    rcases j with _ | _ | j
    · obtain rfl : _ = u := by simpa using hu
      exact ((h.new hb).md k hk).1
    · obtain rfl : _ = u := by simpa using hu
      exact ((h.new hb).md k hk).2.1
    · simp at hu)
  obtain ⟨sp, hsp0⟩ : ∃ s, S.m.sp = s := ⟨_, rfl⟩
  have HSp := Lib.hid (fun (h0 : 0 < x.modes.length) => show sp = some ⟨S.m.b, S.m.o, none⟩ from by rw [← hsp0]; exact (h.sm.at_ h0).1)
  obtain ⟨nT, hnT⟩ : ∃ n, x.tasks.length = n := ⟨_, rfl⟩
  obtain ⟨nM, hnM⟩ : ∃ n, x.modes.length = n := ⟨_, rfl⟩
  obtain ⟨nE, hnE⟩ : ∃ n, x.edges.length = n := ⟨_, rfl⟩
  obtain ⟨res, hres⟩ : ∃ r, x.res = r := ⟨_, rfl⟩
  obtain ⟨v, hv⟩ : ∃ v, codeM x = v := ⟨_, rfl⟩
  obtain ⟨B, hB⟩ : ∃ B, allI x = B := ⟨_, rfl⟩
  have HB := Lib.hid hB
  rw [hnM] at HW HSp HC HQs hsm
  rw [hnM, hv] at HT
  rw [hnT, hnM, hnE, hres, hsp0] at HTk HAl
  rw [hB] at HAl
  rw [hnT, hnM, hnE, hv, hsp0, hres]
  obtain ⟨Z, hZ⟩ : ∃ Z, Z = w.heap.size := ⟨_, rfl⟩
  have HZ := Lib.hid (show ∀ w2, w.alloc (.cells #[.int .i64 res, .slice S.t.sp nT S.t.c, .slice sp nM S.m.c, .slice S.e.sp nE S.e.c] 26) = w2 → Below w.heap.size w w2 ∧ RowAt w2 Z 26 #[.int .i64 res, .slice S.t.sp nT S.t.c, .slice sp nM S.m.c, .slice S.e.sp nE S.e.c] from fun w2 hw => by
    rw [← hw, hZ]; exact ⟨(Below.refl _ _).alloc (Nat.le_refl _) _, RowAt.mk _ _ _⟩)
  obtain ⟨bT, hbT⟩ : ∃ b, inB (nM : Int) 1 8 = b := ⟨_, rfl⟩
  rw [hbT] at HW HT
  have HN := Lib.hid hnM
  clear h hnT hnM hnE hv hsp0 hres hbT hB
  go_enter Try.func34, Try.ntmps34
  go_upto_region 1 with fail
  rw [← hZ]
  generalize hw2 : World.alloc _ _ = w2
  have HZ2 := Lib.hid (HZ.out w2 hw2)
  clear hw2 hZ HZ
  have c1 : w2.cell? ⟨Z, 2, none⟩ = some (.slice sp nM S.m.c) := HZ2.out.2.cell 2
  cases bT with
  | false =>
    go_wp2_with (go_at_call 32; refine (HW.out _).mono ?_; rintro e w' ⟨rfl, rfl⟩; clear HW)
    go_ret2
    exact ⟨by rw [HT.out]; rfl, HZ2.out.1⟩
  | true =>
    go_wp2_with (go_at_call 32; refine (HW.out _).mono ?_; rintro e w' ⟨rfl, rfl⟩; clear HW)
    clear c1
    go_loopg [17] nM (fun g u wr => ∃ k : Nat, k + g = nM ∧ u = .int .i64 (k : Nat) ∧ Aside (Below w.heap.size w wr ∧ RowAt wr Z 26 #[.int .i64 res, .slice S.t.sp nT S.t.c, .slice sp nM S.m.c, .slice S.e.sp nE S.e.c] ∧ ∀ j, j < k → mdOK x j = true))
    case atStart => exact ⟨0, by omega, rfl, HZ2.out.1, HZ2.out.2, fun j hj => absurd hj (Nat.not_lt_zero j)⟩
    case round =>
      obtain ⟨k, hkg, rfl, HR⟩ := hrel
      cases gk with
      | zero =>
        obtain rfl : k = nM := by omega
        have HV := Lib.hid (show v = (0, 0) from HT.out.trans ((if_pos (by simp)).trans (by rw [firstNo_none HR.out.2.2]; rfl)))
        go_wp2
        go_ret2
        exact ⟨by rw [HV.out]; rfl, HR.out.1⟩
      | succ g1 =>
        have hk : k < nM := by omega
        obtain rfl := HSp.out (by omega)
        have HK := Lib.hid (HC.out k hk wr HR.out.1)
        have HQk := Lib.hid (HQs.out k hk)
        have HTk2 := Lib.hid (fun (wx : World) (hb : Below w.heap.size w wx) => HTk.out wx (k : Int) hb)
        have HF := Lib.hid (fun (hb : mdOK x k = false) => show v = ((k : Int), if mdT x k = true then (104 : Int) else 101) from HT.out.trans ((if_pos (by simp)).trans (by rw [firstNo_some hk HR.out.2.2 hb]; rfl)))
        have HY := Lib.hid (fun (hb : mdOK x k = true) => show ∀ j, j < k + 1 → mdOK x j = true from fun j hj => by
          rcases Nat.lt_or_ge j k with h2 | h2
          · exact HR.out.2.2 j h2
          · obtain rfl : j = k := by omega
            exact hb)
        have HD := Lib.hid (show mdOK x k = (mdT x k && queuesOK (x.m k).qs) from rfl)
        have HE := Lib.hid (mdT_iff x k)
        rw [HB.out] at HE
        obtain ⟨A, hA⟩ : ∃ A, tasksM x (k : Int) = A := ⟨_, rfl⟩
        rw [hA] at HTk2 HE
        have h1 := andNot32 A B
        obtain ⟨D, hD⟩ : ∃ D, w32 (A &&& ~~~B) = D := ⟨_, rfl⟩
        rw [hD] at h1 HE
        obtain ⟨q, hq⟩ : ∃ q, (S.q k).sp = q := ⟨_, rfl⟩
        obtain ⟨nq, hnq⟩ : ∃ q, (x.m k).qs.length = q := ⟨_, rfl⟩
        obtain ⟨cq, hcq⟩ : ∃ q, (S.q k).c = q := ⟨_, rfl⟩
        obtain ⟨tk, htk⟩ : ∃ q, w32 (x.m k).tasks = q := ⟨_, rfl⟩
        rw [hq, hnq, hcq] at HQk HK
        rw [htk] at HK
        obtain ⟨qo, hqo⟩ : ∃ b, queuesOK (x.m k).qs = b := ⟨_, rfl⟩
        rw [hqo] at HQk HD
        have hk2 : (k : Int) < (nM : Int) := by omega
        have hk3 : (k : Int) + 1 ≤ 9223372036854775807 := by omega
        clear hA hD hq hnq hcq htk hqo HQs HTk HC HSp HN HT HI
        go_upto_region 7 with (first
          | (refine wpList_load_mid rfl 48 (.tmp 20) rfl S.m.b (S.m.o + k * 2) rfl [.int .u32 tk, .slice q nq cq] _ HK.out Try.underlying48 rfl (by kernel_rfl) ?_)
          | (refine wpList_store_row rfl 48 (.tmp 6) (.tmp 21) rfl wr.heap.size #[.int .u32 tk, .slice q nq cq] (by rfl) (by rfl) 48 _ (heap_alloc_new wr _) (by kernel_rfl) (by rfl) (by simp [Value.oneCell']) ?_; generalize hw3 : World.setRow _ _ _ = w3)
          | fail)
        have H3 := Lib.hid (show Below w.heap.size w w3 ∧ RowAt w3 Z 26 #[.int .i64 res, .slice S.t.sp nT S.t.c, .slice (some ⟨S.m.b, S.m.o, none⟩) nM S.m.c, .slice S.e.sp nE S.e.c] ∧ RowAt w3 wr.heap.size 48 #[.int .u32 tk, .slice q nq cq] by
          rw [← hw3]
          have ha := alloc_row wr #[.int .u32 0, .slice none 0 0] #[.int .u32 tk, .slice q nq cq] 48
          exact ⟨HR.out.1.trans (ha.1.mono HR.out.1.size), HR.out.2.1.new ha.1, ha.2⟩)
        obtain ⟨E, hE⟩ : ∃ E, E = wr.heap.size := ⟨_, rfl⟩
        rw [← hE] at H3 ⊢
        clear hw3 hE HK
        refine wp_region_held_drew (S := fun w' => RowAt w' Z 26 #[.int .i64 res, .slice S.t.sp nT S.t.c, .slice (some ⟨S.m.b, S.m.o, none⟩) nM S.m.c, .slice S.e.sp nE S.e.c] ∧ RowAt w' E 48 #[.int .u32 tk, .slice q nq cq]) (by kernel_rfl) H3.out.2 (fun hS => ?_)
        refine wpAnyH_take (i := 0) (oi := { dst := some 22, op := .load 26 (.tmp 1), type := 26, pos := "image.go:103", after := #[], guard := none }) (v := ?_) rfl (by kernel_rfl) (by kernel_rfl) (by kernel_rfl) (fun _ _ _ h => h) (Or.inl ⟨by rfl, ?_⟩) hS ?_
        rotate_left 1
        · intro w hw; obtain ⟨s0, s1⟩ := hw; have k0 := s0.cell 0; have k1 := s0.cell 1; have k2 := s0.cell 2; have k3 := s0.cell 3; simp at k0 k1 k2 k3; go_simp; try (with_reducible rfl)
        simp only [Act.put, List.setIfInBounds_toArray, List.set_cons_zero, List.set_cons_succ]
        refine wpAnyH_take (i := 1) (oi := { dst := some 23, op := .move (.tmp 5), type := 3, pos := "image.go:103", after := #[], guard := none }) (v := ?_) rfl (by kernel_rfl) (by kernel_rfl) (by kernel_rfl) (fun _ _ _ h => h) (Or.inl ⟨by rfl, ?_⟩) hS ?_
        rotate_left 1
        · intro w hw; obtain ⟨s0, s1⟩ := hw; go_simp; try (with_reducible rfl)
        simp only [Act.put, List.setIfInBounds_toArray, List.set_cons_zero, List.set_cons_succ]
        refine wpAnyH_take (i := 3) (oi := { dst := some 25, op := .load 26 (.tmp 1), type := 26, pos := "image.go:103", after := #[], guard := none }) (v := ?_) rfl (by kernel_rfl) (by kernel_rfl) (by kernel_rfl) (fun _ _ _ h => h) (Or.inl ⟨by rfl, ?_⟩) hS ?_
        rotate_left 1
        · intro w hw; obtain ⟨s0, s1⟩ := hw; have k0 := s0.cell 0; have k1 := s0.cell 1; have k2 := s0.cell 2; have k3 := s0.cell 3; simp at k0 k1 k2 k3; go_simp; try (with_reducible rfl)
        simp only [Act.put, List.setIfInBounds_toArray, List.set_cons_zero, List.set_cons_succ]
        refine wpAnyH_ready (rs := [2]) (by kernel_rfl) (by simp) (AllReadyH.cons (o := { dst := some 24, op := .call { callee := .value (.func 15), args := #[.tmp 22, .tmp 23], argTypes := #[26, 3] }, type := 51, pos := "image.go:103", after := #[{ on := 0, ground := .data }, { on := 1, ground := .data }], guard := none }) rfl (fun K hK => ?_) AllReadyH.nil)
        go_simp
        go_at_call 15
        refine (HTk2.out _ (clsB H3.out.1)).mono ?_
        rintro e w4 ⟨rfl, b4⟩
        have H4 := Lib.hid (show Below w.heap.size w w4 ∧ RowAt w4 Z 26 #[.int .i64 res, .slice S.t.sp nT S.t.c, .slice (some ⟨S.m.b, S.m.o, none⟩) nM S.m.c, .slice S.e.sp nE S.e.c] ∧ RowAt w4 E 48 #[.int .u32 tk, .slice q nq cq] from rrKeep (rrD H3.out) b4)
        clear b4
        try dsimp only
        refine hK.out _ _ H4.out.2 (fun hHeld => ?_)
        clear hK K
        try simp only [Act.put, List.setIfInBounds_toArray, List.set_cons_zero, List.set_cons_succ]
        refine wpAnyH_ready (rs := [4]) (by kernel_rfl) (by simp) (AllReadyH.cons (o := { dst := some 26, op := .call { callee := .value (.func 14), args := #[.tmp 25], argTypes := #[26] }, type := 51, pos := "image.go:103", after := #[{ on := 3, ground := .data }, { on := 2, ground := .chain }], guard := none }) rfl (fun K hK => ?_) AllReadyH.nil)
        go_simp
        go_at_call 14
        refine (HAl.out _).mono ?_
        rintro e w5 ⟨rfl, b5⟩
        have H5 := Lib.hid (show Below w.heap.size w w5 ∧ RowAt w5 Z 26 #[.int .i64 res, .slice S.t.sp nT S.t.c, .slice (some ⟨S.m.b, S.m.o, none⟩) nM S.m.c, .slice S.e.sp nE S.e.c] ∧ RowAt w5 E 48 #[.int .u32 tk, .slice q nq cq] from rrKeep H4.out b5)
        clear b5
        try dsimp only
        refine hK.out _ _ H5.out.2 (fun hHeld => ?_)
        clear hK K
        try simp only [Act.put, List.setIfInBounds_toArray, List.set_cons_zero, List.set_cons_succ]
        refine wpAnyH_take (i := 5) (oi := { dst := some 27, op := .binOp .andNot 51 (.tmp 24) (.tmp 26) 51, type := 51, pos := "image.go:103", after := #[{ on := 2, ground := .data }, { on := 4, ground := .data }], guard := none }) (v := ?_) rfl (by kernel_rfl) (by kernel_rfl) (by kernel_rfl) (fun _ _ _ h => h) (Or.inl ⟨by rfl, ?_⟩) H5.out.2 ?_
        rotate_left 1
        · intro w hw; obtain ⟨s0, s1⟩ := hw; go_simp; try (with_reducible rfl)
        simp only [Act.put, List.setIfInBounds_toArray, List.set_cons_zero, List.set_cons_succ]
        refine wpAnyH_take (i := 6) (oi := { dst := some 28, op := .binOp .neq 51 (.tmp 27) (.const (.int .u32 0)) 51, type := 4, pos := "image.go:103", after := #[{ on := 5, ground := .data }], guard := none }) (v := ?_) rfl (by kernel_rfl) (by kernel_rfl) (by kernel_rfl) (fun _ _ _ h => h) (Or.inl ⟨by rfl, ?_⟩) H5.out.2 ?_
        rotate_left 1
        · intro w hw; obtain ⟨s0, s1⟩ := hw; go_simp; try (with_reducible rfl)
        simp only [Act.put, List.setIfInBounds_toArray, List.set_cons_zero, List.set_cons_succ]
        refine wpAnyH_done (by kernel_rfl) ?_ _

        have e1 : w5.cell? ⟨E, 1, none⟩ = some (.slice q nq cq) := H5.out.2.2.cell 1
        have HW5 := Lib.hid (And.intro H5.out.1 H5.out.2.1)
        have HQ5 := Lib.hid (HQk.out w5 H5.out.1)
        clear H3 H4 H5 HQk HAl HTk2 hHeld h1 hS
        obtain ⟨bd, hbd⟩ : ∃ b, (D != 0) = b := ⟨_, rfl⟩
        have HE1 := Lib.hid (show mdT x k = !bd by rw [HE.out, ← hbd]; by_cases h0 : D = 0 <;> simp [h0])
        rw [hbd]
        clear HE hbd
        cases bd with
        | false =>
          cases qo with
          | true =>
            go_wp2_with (go_at_call 63; refine HQ5.out.mono ?_; rintro e w6 ⟨rfl, b6⟩; have H6 := Lib.hid (And.intro (HW5.out.1.trans (b6.mono HW5.out.1.size)) (HW5.out.2.new b6)); clear b6)
            go_roundg g1
            case measure => omega
            case rel => exact ⟨k + 1, by omega, by go_num, H6.out.1, H6.out.2, HY.out (by rw [HD.out, HE1.out]; rfl)⟩
          | false =>
            go_wp2_with (go_at_call 63; refine HQ5.out.mono ?_; rintro e w6 ⟨rfl, b6⟩; have H6 := Lib.hid (And.intro (HW5.out.1.trans (b6.mono HW5.out.1.size)) (HW5.out.2.new b6)); clear b6)
            go_ret2
            exact ⟨by rw [HF.out (by rw [HD.out, HE1.out]; rfl), HE1.out]; rfl, H6.out.1⟩
        | true =>
          clear HQ5
          go_wp2
          go_ret2
          exact ⟨by rw [HF.out (by rw [HD.out, HE1.out]; rfl), HE1.out]; rfl, HW5.out.1⟩
end Go.Proofs.Ytandehdgpbflmaa
