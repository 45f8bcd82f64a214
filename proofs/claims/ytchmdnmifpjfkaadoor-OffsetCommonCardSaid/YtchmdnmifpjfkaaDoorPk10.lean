/- Several texts in one: JN, TA, TB, XW. -/
import Derived.Test.YtchmdnmifpjfkaaDoorPk09
import Derived.Test.YtchmdnmifpjfkaaDoorPk05
import Derived.Test.YtchmdnmifpjfkaaDoorPk08
import Derived.Test.YtchmdnmifpjfkaaDoorPk04
import Derived.Test.YtchmdnmifpjfkaaDoorPk02
import Derived.Test.YtchmdnmifpjfkaaDoorPk01
/- The contract of ref10's Check. -/
namespace Go.Proofs.YtchmdnmifpjfkaaDoor
open Go.RowKit

theorem low_add (k : Nat) (_hk : k < 32) : (w32 (low k) + w32 (1#32 <<< k)) % (4294967296 : Int) = w32 (low (k + 1)) := by
  rw [add32]
  congr 1
  have h0 : low k &&& (1#32 <<< k) = 0#32 := by
    apply BitVec.eq_of_getLsbD_eq
    intro i hi
    rw [BitVec.getLsbD_and, low_bit _ _ hi, one_bit _ _ hi]
    simp; omega
  rw [BitVec.add_eq_or_of_and_eq_zero _ _ h0]
  apply BitVec.eq_of_getLsbD_eq
  intro i hi
  rw [BitVec.getLsbD_or, low_bit _ _ hi, low_bit _ _ hi, one_bit _ _ hi, Bool.eq_iff_iff]
  simp; omega
theorem mode_or (T : BitVec 32) {x : Img} (_h : x.tasks.length ≤ 32) : (w32 (T ||| low x.tasks.length) != w32 (low x.tasks.length)) = !((T &&& ~~~allI x) == 0#32) := by
  have ha : allI x = low x.tasks.length := by
    apply BitVec.eq_of_getLsbD_eq
    intro i hi
    rw [low_bit _ _ hi]
    unfold allI
    rw [btw_bit _ _ _ _ hi, show (4294967295#32).getLsbD i = true from by rw [show 4294967295#32 = BitVec.allOnes 32 from by decide, BitVec.getLsbD_allOnes, decide_eq_true hi], Bool.true_and, decide_eq_true (show (-1 : Int) < (i : Int) by omega), Bool.true_and]
    congr 1
    exact propext ⟨fun h => by omega, fun h => by omega⟩
  rw [ha]
  generalize low x.tasks.length = A
  rw [bne, Bool.not_eq_eq_eq_not, Bool.not_not, Bool.eq_iff_iff, beq_iff_eq, beq_iff_eq, w32_inj]
  constructor
  · intro he
    apply BitVec.eq_of_getLsbD_eq
    intro i hi
    have := congrArg (·.getLsbD i) he
    simp only [BitVec.getLsbD_or] at this
    simp [hi]
    cases h1 : T.getLsbD i <;> cases h2 : A.getLsbD i <;> simp_all
  · intro he
    apply BitVec.eq_of_getLsbD_eq
    intro i hi
    have := congrArg (·.getLsbD i) he
    simp [hi] at this
    rw [BitVec.getLsbD_or]
    cases h1 : T.getLsbD i <;> cases h2 : A.getLsbD i <;> simp_all
theorem low_zero : w32 (low 0) = 0 := rfl
set_option maxHeartbeats 8000000 in
set_option maxRecDepth 100000 in
theorem rCheck_any {w : World} {V : Nat → Prop} {x : Img} {S : ImgS} (h : ImgAt w V x S) :
    Calls Tryd.prog 49 #[.agg #[.int .i64 x.res, .slice S.t.sp x.tasks.length S.t.c, .slice S.m.sp x.modes.length S.m.c, .slice S.e.sp x.edges.length S.e.c]] w fun e w' => e = .returned (.tuple #[.int .i64 (codeAll x).1, .int .i64 (codeAll x).2]) ∧ Below w.heap.size w w' := by
  have HO := Lib.hid (show codeAll x = if inB x.res 0 8 = true then (if (codeT x).2 = 0 then (if (codeM x).2 = 0 then codeE x else codeM x) else codeT x) else (0, 103) from rfl)
  have HT := Lib.hid (show codeT x = if inB (x.tasks.length : Int) 1 16 = true then codeOf (firstNo x.tasks.length (tkOK x)) 100 else ((x.tasks.length : Int), 100) from rfl)
  have HM := Lib.hid (show codeM x = if inB (x.modes.length : Int) 1 8 = true then codeMo x (firstNo x.modes.length (mdOK x)) else ((x.modes.length : Int), 101) from rfl)
  have HE := Lib.hid (show codeE x = if 24 < x.edges.length then ((x.edges.length : Int), 102) else codeOf (firstNo x.edges.length (edgeOK x)) 102 from rfl)
  have HTk := Lib.hid (show ∀ (k : Nat), k < x.tasks.length → ∀ wx, Calls Tryd.prog 77 #[.agg (taskC (x.t k)).toArray, .int .i64 x.res] wx fun e w' => e = .returned (.bool (tkOK x k)) ∧ Below wx.heap.size wx w' from fun k hk wx => by
    rw [taskC_row (h.tk k hk).2]
    exact r10task_any _ _ _ (fun r => (x.t k).lon.getD r 0) _ wx)
  have HC := Lib.hid (fun (k : Nat) (hk : k < x.tasks.length) (wx : World) (hb : Below w.heap.size w wx) => show At wx S.t.b (S.t.o + k * 11) (taskC (x.t k)) ∧ (taskC (x.t k)).length = 11 from ⟨((h.new hb).tk k hk).1, taskC_len (h.tk k hk).2⟩)
  have HMc := Lib.hid (fun (k : Nat) (hk : k < x.modes.length) (wx : World) (hb : Below w.heap.size w wx) => modeAt (h.new hb) k hk)
  have HQu := Lib.hid (fun (k : Nat) (hk : k < x.modes.length) (wx : World) (hb : Below w.heap.size w wx) => rqueues_any ((h.new hb).qat k hk))
  have HEd := Lib.hid (fun (hq : ∀ m, m < x.modes.length → (x.m m).qs.length ≤ 4) (k : Nat) (hk : k < x.edges.length) (wx : World) (hb : Below w.heap.size w wx) => by
    have h1 := redge_any (h.new hb) k hk
    rw [redge_eq k hk hq] at h1
    exact h1)
  have HMd := Lib.hid (fun (k : Nat) (hk : k < x.modes.length) => show tasksM x (k : Int) = (x.m k).tasks from by unfold tasksM; rw [if_pos ⟨by omega, by omega⟩, Int.toNat_natCast])
  have HMT := Lib.hid (fun (k : Nat) => show mdT x k = ((tasksM x (k : Int) &&& ~~~allI x) == 0#32) from rfl)
  have HMO := Lib.hid (fun (k : Nat) => show mdOK x k = (mdT x k && queuesOK (x.m k).qs) from rfl)
  have HOr := Lib.hid (fun (T : BitVec 32) (hl : x.tasks.length ≤ 32) => mode_or T hl)
  have HSt := Lib.hid (fun (h0 : 0 < x.tasks.length) => (h.st.at_ h0).1)
  have HSm := Lib.hid (fun (h0 : 0 < x.modes.length) => (h.sm.at_ h0).1)
  have hsm := h.sm.sm
  have hst := h.st.sm
  have hse := h.se.sm
  obtain ⟨sT, hsT⟩ : ∃ s, S.t.sp = s := ⟨_, rfl⟩
  obtain ⟨sM, hsM⟩ : ∃ s, S.m.sp = s := ⟨_, rfl⟩
  obtain ⟨sE, hsE⟩ : ∃ s, S.e.sp = s := ⟨_, rfl⟩
  obtain ⟨nT, hnT⟩ : ∃ n, x.tasks.length = n := ⟨_, rfl⟩
  obtain ⟨nM, hnM⟩ : ∃ n, x.modes.length = n := ⟨_, rfl⟩
  obtain ⟨nE, hnE⟩ : ∃ n, x.edges.length = n := ⟨_, rfl⟩
  obtain ⟨res, hres⟩ : ∃ r, x.res = r := ⟨_, rfl⟩
  obtain ⟨v, hv⟩ : ∃ v, codeAll x = v := ⟨_, rfl⟩
  rw [hnT] at HT HTk HC HOr HSt hst
  rw [hnM] at HM HMc HQu HMd HSm hsm HEd
  rw [hnE] at HE HEd hse
  rw [hres, hnT, hsT, hsM, hsE] at HEd
  rw [hres] at HTk HO
  rw [hv] at HO
  rw [hsT] at HSt
  rw [hsM] at HSm
  rw [hnT, hnM, hnE, hv, hsT, hsM, hsE, hres]
  obtain ⟨Z, hZ⟩ : ∃ Z, Z = w.heap.size := ⟨_, rfl⟩
  have HZ := Lib.hid (show ∀ w2, w.alloc (.cells #[.int .i64 res, .slice sT nT S.t.c, .slice sM nM S.m.c, .slice sE nE S.e.c] 26) = w2 → Below w.heap.size w w2 ∧ RowAt w2 Z 26 #[.int .i64 res, .slice sT nT S.t.c, .slice sM nM S.m.c, .slice sE nE S.e.c] from fun w2 hw => by
    rw [← hw, hZ]; exact ⟨(Below.refl _ _).alloc (Nat.le_refl _) _, RowAt.mk _ _ _⟩)
  clear h hnT hnM hnE hv hsT hsM hsE hres
  go_enter Tryd.func49, Tryd.ntmps49
  go_upto_region 1 with fail
  rw [← hZ]
  generalize hw2 : World.alloc _ _ = w2
  have HZ2 := Lib.hid (HZ.out w2 hw2)
  clear hw2 hZ HZ
  have c0 : w2.cell? ⟨Z, 0, none⟩ = some (.int .i64 res) := HZ2.out.2.cell 0
  have c1 : w2.cell? ⟨Z, 1, none⟩ = some (.slice sT nT S.t.c) := HZ2.out.2.cell 1
  cases h1 : inB res 0 8
  · have HV := Lib.hid (show v = (0, 103) by rw [HO.out, h1]; rfl)
    go_wp2_with (first | (go_at_call 76; refine (rin_any _ _ _ _).mono ?_; rintro e w' ⟨rfl, rfl⟩) | fail)
    go_ret2
    exact ⟨by rw [HV.out]; rfl, HZ2.out.1⟩
  have HO1 := Lib.hid (show v = _ from HO.out.trans (by rw [h1, if_pos rfl]))
  clear HO
  cases h2 : inB (nT : Int) 1 16
  · have HV := Lib.hid (show v = ((nT : Int), 100) by rw [HO1.out, HT.out, h2]; rfl)
    go_wp2_with (first | (go_at_call 76; refine (rin_any _ _ _ _).mono ?_; rintro e w' ⟨rfl, rfl⟩) | fail)
    go_ret2
    exact ⟨by rw [HV.out]; rfl, HZ2.out.1⟩
  have HT1 := Lib.hid (show codeT x = _ from HT.out.trans (by rw [h2, if_pos rfl]))
  have hnt16 : nT ≤ 16 := by have := (inB_true.1 h2).2; omega
  clear HT
  have hl0 := low_zero
  go_wp2_with (first | (go_at_call 76; refine (rin_any _ _ _ _).mono ?_; rintro e w' ⟨rfl, rfl⟩) | fail)
  clear c0 c1 h1 h2
  go_loopg [4, 5] nT (fun g u v4 wr => ∃ k : Nat, k + g = nT ∧ v4 = .int .i64 (k : Nat) ∧ u = .int .u32 (w32 (low k)) ∧ Aside ((Below w.heap.size w wr ∧ RowAt wr Z 26 #[.int .i64 res, .slice sT nT S.t.c, .slice sM nM S.m.c, .slice sE nE S.e.c]) ∧ ∀ j, j < k → tkOK x j = true))
  case atStart => exact ⟨0, by omega, rfl, rfl, HZ2.out, fun j hj => absurd hj (Nat.not_lt_zero j)⟩
  clear hl0
  case round =>
    obtain ⟨k, hkg, rfl, rfl, HR⟩ := hrel
    cases gk with
    | succ g1 =>
      have hk : k < nT := by omega
      obtain rfl := HSt.out (by omega)
      have hk2 : (k : Int) < (nT : Int) := by omega
      have hk16 : k < 16 := by omega
      have hk17 : (k : Int) < 16 := by omega
      have HCk := Lib.hid (HC.out k hk)
      have HTk1 := Lib.hid (HTk.out k hk)
      have HF := Lib.hid (fun (hb : tkOK x k = false) => show v = ((k : Int), 100) from by rw [HO1.out, HT1.out, firstNo_some hk HR.out.2 hb]; rfl)
      have HY := Lib.hid (fun (hb : tkOK x k = true) => show ∀ j, j < k + 1 → tkOK x j = true from fun j hj => by
        rcases Nat.lt_or_ge j k with h5 | h5
        · exact HR.out.2 j h5
        · obtain rfl : j = k := by omega
          exact hb)
      obtain ⟨cs, hcs⟩ : ∃ c, taskC (x.t k) = c := ⟨_, rfl⟩
      rw [hcs] at HCk HTk1
      obtain ⟨bb, hbb⟩ : ∃ b, tkOK x k = b := ⟨_, rfl⟩
      rw [hbb] at HTk1 HF HY
      have HL := Lib.hid (HCk.out wr HR.out.1.1).2
      have HG := Lib.hid hkg
      clear hcs hbb hkg HC HTk HMc HQu HEd HMd HMT HMO HOr HSt HSm HO1 HM HE HT1
      have c1 : wr.cell? ⟨Z, 1, none⟩ = some (.slice (some ⟨S.t.b, S.t.o, none⟩) nT S.t.c) := HR.out.1.2.cell 1
      go_upto_region 9 with fail
      clear c1
      refine wp_region_held_drew (S := fun w' => Below w.heap.size w w' ∧ RowAt w' Z 26 #[.int .i64 res, .slice (some ⟨S.t.b, S.t.o, none⟩) nT S.t.c, .slice sM nM S.m.c, .slice sE nE S.e.c]) (by kernel_rfl) ⟨below_dn HR.out.1.1 1, HR.out.1.2⟩ (fun hS => ?_)
      refine wpAnyH_take (i := 0) (oi := { dst := some 27, op := .fieldAddr 26 (.tmp 1) 1, type := 0, pos := "ref.go:81", after := #[], guard := none }) (v := ?_) rfl (by kernel_rfl) (by kernel_rfl) (by kernel_rfl) (fun _ _ _ h => h) (Or.inl ⟨by rfl, ?_⟩) hS ?_
      rotate_left 1
      · intro w hw; obtain ⟨s0, s1⟩ := hw; go_simp; try (with_reducible rfl)
      simp only [Act.put, List.setIfInBounds_toArray, List.set_cons_zero, List.set_cons_succ]
      refine wpAnyH_take (i := 1) (oi := { dst := some 28, op := .load 22 (.tmp 27), type := 22, pos := "ref.go:81", after := #[{ on := 0, ground := .data }], guard := none }) (v := ?_) rfl (by kernel_rfl) (by kernel_rfl) (by kernel_rfl) (fun _ _ _ h => h) (Or.inl ⟨by rfl, ?_⟩) hS ?_
      rotate_left 1
      · intro w hw; obtain ⟨s0, s1⟩ := hw; have k0 := s1.cell 1; simp at k0; go_simp; try (with_reducible rfl)
      simp only [Act.put, List.setIfInBounds_toArray, List.set_cons_zero, List.set_cons_succ]
      refine wpAnyH_take (i := 2) (oi := { dst := some 29, op := .move (.tmp 5), type := 3, pos := "ref.go:81", after := #[], guard := none }) (v := ?_) rfl (by kernel_rfl) (by kernel_rfl) (by kernel_rfl) (fun _ _ _ h => h) (Or.inl ⟨by rfl, ?_⟩) hS ?_
      rotate_left 1
      · intro w hw; obtain ⟨s0, s1⟩ := hw; go_simp; try (with_reducible rfl)
      simp only [Act.put, List.setIfInBounds_toArray, List.set_cons_zero, List.set_cons_succ]
      refine wpAnyH_take (i := 3) (oi := { dst := some 30, op := .indexAddr 22 (.tmp 28) (.tmp 29), type := 0, pos := "ref.go:81", after := #[{ on := 1, ground := .data }, { on := 2, ground := .data }], guard := none }) (v := ?_) rfl (by kernel_rfl) (by kernel_rfl) (by kernel_rfl) (fun _ _ _ h => h) (Or.inl ⟨by rfl, ?_⟩) hS ?_
      rotate_left 1
      · intro w hw; obtain ⟨s0, s1⟩ := hw; go_simp; try (with_reducible rfl)
      simp only [Act.put, List.setIfInBounds_toArray, List.set_cons_zero, List.set_cons_succ]
      refine wpAnyH_take (i := 4) (oi := { dst := some 31, op := .load 70 (.tmp 30), type := 70, pos := "ref.go:81", after := #[{ on := 3, ground := .data }], guard := none }) (v := (.agg cs.toArray)) rfl (by kernel_rfl) (by kernel_rfl) (by kernel_rfl) (fun _ _ _ h => h) (Or.inl ⟨by rfl, ?_⟩) hS ?_
      · intro w hw; obtain ⟨s0, s1⟩ := hw; exact exec_load_mid 70 (.tmp 30) (by exact rfl) S.t.b (S.t.o + k * 11) (by exact rfl) cs _ (HCk.out _ s0).1 Tryd.underlying70 rfl (by rw [HL.out]; kernel_rfl)
      simp only [Act.put, List.setIfInBounds_toArray, List.set_cons_zero, List.set_cons_succ]
      refine wpAnyH_take (i := 5) (oi := { dst := some 32, op := .fieldAddr 26 (.tmp 1) 0, type := 0, pos := "ref.go:81", after := #[], guard := none }) (v := ?_) rfl (by kernel_rfl) (by kernel_rfl) (by kernel_rfl) (fun _ _ _ h => h) (Or.inl ⟨by rfl, ?_⟩) hS ?_
      rotate_left 1
      · intro w hw; obtain ⟨s0, s1⟩ := hw; go_simp; try (with_reducible rfl)
      simp only [Act.put, List.setIfInBounds_toArray, List.set_cons_zero, List.set_cons_succ]
      refine wpAnyH_take (i := 6) (oi := { dst := some 33, op := .load 3 (.tmp 32), type := 3, pos := "ref.go:81", after := #[{ on := 5, ground := .data }], guard := none }) (v := ?_) rfl (by kernel_rfl) (by kernel_rfl) (by kernel_rfl) (fun _ _ _ h => h) (Or.inl ⟨by rfl, ?_⟩) hS ?_
      rotate_left 1
      · intro w hw; obtain ⟨s0, s1⟩ := hw; have k0 := s1.cell 0; simp at k0; go_simp; try (with_reducible rfl)
      simp only [Act.put, List.setIfInBounds_toArray, List.set_cons_zero, List.set_cons_succ]
      refine wpAnyH_ready (rs := [7]) (by kernel_rfl) (by simp) (AllReadyH.cons (o := { dst := some 34, op := .call { callee := .value (.func 77), args := #[.tmp 31, .tmp 33], argTypes := #[70, 3] }, type := 4, pos := "ref.go:81", after := #[{ on := 4, ground := .data }, { on := 6, ground := .data }], guard := none }) rfl (fun K hK => ?_) AllReadyH.nil)
      go_simp
      go_at_call 77
      refine (HTk1.out _).mono ?_
      rintro e w7 ⟨rfl, b7⟩
      have H7 := Lib.hid (show Below w.heap.size w w7 ∧ RowAt w7 Z 26 #[.int .i64 res, .slice (some ⟨S.t.b, S.t.o, none⟩) nT S.t.c, .slice sM nM S.m.c, .slice sE nE S.e.c] from ⟨(below_dn HR.out.1.1 1).trans (b7.mono (below_dn HR.out.1.1 1).size), RowAt.new (w := wr.drew) HR.out.1.2 b7⟩)
      clear b7
      try dsimp only
      refine hK.out _ _ H7.out (fun hHeld => ?_)
      clear hK K
      try simp only [Act.put, List.setIfInBounds_toArray, List.set_cons_zero, List.set_cons_succ]
      refine wpAnyH_ready (rs := [8]) (by kernel_rfl) (by simp) (AllReadyH.cons (o := { dst := some 35, op := .unOp .not 4 (.tmp 34), type := 4, pos := "ref.go:81", after := #[{ on := 7, ground := .data }], guard := none }) rfl (fun K hK => ?_) AllReadyH.nil)
      go_simp
      refine hK.out _ _ H7.out (fun hHeld => ?_)
      clear hK K
      try simp only [Act.put, List.setIfInBounds_toArray, List.set_cons_zero, List.set_cons_succ]
      refine wpAnyH_done (by kernel_rfl) ?_ _

      cases bb with
      | false =>
        have HV := Lib.hid (HF.out rfl)
        go_wp2
        go_ret2
        exact ⟨by rw [HV.out]; rfl, H7.out.1⟩
      | true =>
        have HN := Lib.hid (HY.out rfl)
        have hsh := shl_one k (by omega)
        have hla := low_add k (by omega)
        obtain ⟨L1, hL1⟩ : ∃ l, low (k + 1) = l := ⟨_, rfl⟩
        rw [hL1] at hla
        have HL1 := Lib.hid hL1
        clear hL1
        go_wp2
        go_roundg g1
        case measure => omega
        case rel => exact ⟨k + 1, by have := HG.out; omega, by go_num, by rw [HL1.out], H7.out, HN.out⟩
    | zero =>
      obtain rfl : k = nT := by omega
      have HT2 := Lib.hid (show codeT x = (0, 0) from HT1.out.trans (by rw [firstNo_none HR.out.2]; rfl))
      have HO2 := Lib.hid (show v = _ from HO1.out.trans (by rw [HT2.out, if_pos rfl]))
      have HOr1 := Lib.hid (fun T => HOr.out T (by omega))
      clear HOr HT1 HT2 HO1 HTk HC HSt
      have c1 : wr.cell? ⟨Z, 1, none⟩ = some (.slice sT k S.t.c) := HR.out.1.2.cell 1
      have c2 : wr.cell? ⟨Z, 2, none⟩ = some (.slice sM nM S.m.c) := HR.out.1.2.cell 2
      obtain ⟨lw, hlw⟩ : ∃ l, low k = l := ⟨_, rfl⟩
      rw [hlw] at HOr1 ⊢
      clear hlw
      cases h3 : inB (nM : Int) 1 8
      · have HV := Lib.hid (show v = ((nM : Int), 101) by
          have h5 : codeM x = ((nM : Int), 101) := by rw [HM.out, h3]; rfl
          rw [HO2.out, h5]; rfl)
        go_wp2_with (first | (go_at_call 76; refine (rin_any _ _ _ _).mono ?_; rintro e w' ⟨rfl, rfl⟩) | fail)
        go_ret2
        exact ⟨by rw [HV.out]; rfl, HR.out.1.1⟩
      have HM1 := Lib.hid (show codeM x = _ from HM.out.trans (by rw [h3, if_pos rfl]))
      have hnm8 : nM ≤ 8 := by have := (inB_true.1 h3).2; omega
      clear HM
      go_wp2_with (first | (go_at_call 76; refine (rin_any _ _ _ _).mono ?_; rintro e w' ⟨rfl, rfl⟩) | fail)
      clear c1 c2 h3
      go_loopg [6] nM (fun g u wm => ∃ m : Nat, m + g = nM ∧ u = .int .i64 (m : Nat) ∧ Aside ((Below w.heap.size w wm ∧ RowAt wm Z 26 #[.int .i64 res, .slice sT k S.t.c, .slice sM nM S.m.c, .slice sE nE S.e.c]) ∧ ∀ j, j < m → mdOK x j = true))
      case atStart => exact ⟨0, by omega, rfl, HR.out.1, fun j hj => absurd hj (Nat.not_lt_zero j)⟩
      clear HR
      case round =>
        obtain ⟨m, hmg, rfl, HR⟩ := hrel
        cases gk with
        | succ g1 =>
          have hm : m < nM := by omega
          obtain rfl := HSm.out (by omega)
          have hm2 : (m : Int) < (nM : Int) := by omega
          have hm8 : (m : Int) < 8 := by omega
          have HL := Lib.hid (HMc.out m hm wr HR.out.1.1)
          have m0 : wr.cell? ⟨S.m.b, S.m.o + m * 2, none⟩ = some (.int .u32 (w32 (x.m m).tasks)) := HL.out 0 _ rfl
          have m1 : wr.cell? ⟨S.m.b, S.m.o + m * 2 + 1, none⟩ = some (.slice (S.q m).sp (x.m m).qs.length (S.q m).c) := HL.out 1 _ rfl
          have c2 : wr.cell? ⟨Z, 2, none⟩ = some (.slice (some ⟨S.m.b, S.m.o, none⟩) nM S.m.c) := HR.out.1.2.cell 2
          have hT := HMT.out m
          rw [HMd.out m hm] at hT
          have hor1 := HOr1.out (x.m m).tasks
          rw [← hT] at hor1
          have HQm := Lib.hid (HQu.out m hm wr HR.out.1.1)
          have hMo := HMO.out m
          obtain ⟨T, hTT⟩ : ∃ T, (x.m m).tasks = T := ⟨_, rfl⟩
          obtain ⟨qs, hqs⟩ : ∃ T, (x.m m).qs = T := ⟨_, rfl⟩
          obtain ⟨q1, hq1⟩ : ∃ T, queuesOK qs = T := ⟨_, rfl⟩
          rw [hTT] at m0 hor1
          rw [hqs] at m1 HQm hMo
          rw [hq1] at HQm hMo
          obtain ⟨nq, hnq⟩ : ∃ T, qs.length = T := ⟨_, rfl⟩
          rw [hnq] at m1 HQm
          have HMo := Lib.hid hMo
          obtain ⟨b1, hb1⟩ : ∃ b, mdT x m = b := ⟨_, rfl⟩
          have HB1 := Lib.hid hb1
          rw [hb1] at hor1
          have hor2 := or32 T lw
          have HF := Lib.hid (fun (hb : mdOK x m = false) => show v = ((m : Int), if b1 = true then (104 : Int) else 101) from by
            have h6 : codeM x = ((m : Int), if b1 = true then (104 : Int) else 101) := by rw [HM1.out, firstNo_some hm HR.out.2 hb, ← HB1.out]; rfl
            rw [HO2.out, h6]
            rcases b1 with _ | _ <;> rfl)
          have HY := Lib.hid (fun (hb : mdOK x m = true) => show ∀ j, j < m + 1 → mdOK x j = true from fun j hj => by
            rcases Nat.lt_or_ge j m with h5 | h5
            · exact HR.out.2 j h5
            · obtain rfl : j = m := by omega
              exact hb)
          have HG := Lib.hid hmg
          clear hT hTT hqs hq1 hnq hMo hb1 hmg HMc HMd HMT HMO HQu HSm HM1 HO2 HOr1 HEd HE HL
          generalize T ||| lw = TL at hor1 hor2
          cases b1 with
          | false =>
            have HV := Lib.hid (HF.out (by rw [HMo.out, HB1.out]; rfl))
            have hor3 : (w32 TL != w32 lw) = true := hor1
            clear hor1
            go_wp2
            go_ret2
            exact ⟨by rw [HV.out]; rfl, HR.out.1.1⟩
          | true =>
            have hor3 : (w32 TL != w32 lw) = false := hor1
            clear hor1
            cases q1 with
            | false =>
              have HV := Lib.hid (HF.out (by rw [HMo.out, HB1.out]; rfl))
              go_wp2_with (go_at_call 78; refine HQm.out.mono ?_; rintro e w' ⟨rfl, rfl⟩)
              go_ret2
              exact ⟨by rw [HV.out]; rfl, HR.out.1.1⟩
            | true =>
              have HN := Lib.hid (HY.out (by rw [HMo.out, HB1.out]; rfl))
              go_wp2_with (go_at_call 78; refine HQm.out.mono ?_; rintro e w' ⟨rfl, rfl⟩)
              go_roundg g1
              case measure => omega
              case rel => exact ⟨m + 1, by have := HG.out; omega, by go_num, HR.out.1, HN.out⟩
        | zero =>
          obtain rfl : m = nM := by omega
          have HM2 := Lib.hid (show codeM x = (0, 0) from HM1.out.trans (by rw [firstNo_none HR.out.2]; rfl))
          have HO3 := Lib.hid (show v = codeE x from HO2.out.trans (by rw [HM2.out, if_pos rfl]))
          have HEd1 := Lib.hid (HEd.out (fun j hj => by
            have h6 := HR.out.2 j hj
            rw [HMO.out, Bool.and_eq_true] at h6
            have h7 := h6.2
            unfold queuesOK at h7
            rw [Bool.and_eq_true, decide_eq_true_iff] at h7
            exact h7.1))
          clear HM1 HM2 HO2 HEd HMc HMd HMT HMO HQu HSm HOr1
          have c2 : wr.cell? ⟨Z, 2, none⟩ = some (.slice sM m S.m.c) := HR.out.1.2.cell 2
          have c3 : wr.cell? ⟨Z, 3, none⟩ = some (.slice sE nE S.e.c) := HR.out.1.2.cell 3
          by_cases h4 : 24 < nE
          · have HV := Lib.hid (show v = ((nE : Int), 102) by rw [HO3.out, HE.out, if_pos h4])
            have h4' : (24 : Int) < (nE : Int) := by omega
            clear h4
            go_wp2
            go_ret2
            exact ⟨by rw [HV.out]; rfl, HR.out.1.1⟩
          have HE1 := Lib.hid (show codeE x = _ from HE.out.trans (if_neg h4))
          have h4' : ¬ (24 : Int) < (nE : Int) := by omega
          clear h4
          go_wp2
          clear c2 c3
          go_loopg [7] nE (fun g u wm => ∃ i : Nat, i + g = nE ∧ u = .int .i64 (i : Nat) ∧ Aside ((Below w.heap.size w wm ∧ RowAt wm Z 26 #[.int .i64 res, .slice sT k S.t.c, .slice sM m S.m.c, .slice sE nE S.e.c]) ∧ ∀ j, j < i → edgeOK x j = true))
          case atStart => exact ⟨0, by omega, rfl, HR.out.1, fun j hj => absurd hj (Nat.not_lt_zero j)⟩
          clear HR
          case round =>
            obtain ⟨i, hig, rfl, HR⟩ := hrel
            have c3 : wr.cell? ⟨Z, 3, none⟩ = some (.slice sE nE S.e.c) := HR.out.1.2.cell 3
            cases gk with
            | succ g1 =>
              have hi : i < nE := by omega
              have hi2 : (i : Int) < (nE : Int) := by omega
              have HEi := Lib.hid (HEd1.out i hi wr HR.out.1.1)
              have HF := Lib.hid (fun (hb : edgeOK x i = false) => show v = ((i : Int), 102) from by rw [HO3.out, HE1.out, firstNo_some hi HR.out.2 hb]; rfl)
              have HY := Lib.hid (fun (hb : edgeOK x i = true) => show ∀ j, j < i + 1 → edgeOK x j = true from fun j hj => by
                rcases Nat.lt_or_ge j i with h5 | h5
                · exact HR.out.2 j h5
                · obtain rfl : j = i := by omega
                  exact hb)
              have HG := Lib.hid hig
              obtain ⟨bb, hbb⟩ : ∃ b, edgeOK x i = b := ⟨_, rfl⟩
              rw [hbb] at HEi HF HY
              clear hbb hig HEd1 HO3 HE1
              have HCALL := Lib.hid (show RowAt wr Z 26 #[.int .i64 res, .slice sT k S.t.c, .slice sM m S.m.c, .slice sE nE S.e.c] from HR.out.1.2)
              cases bb with
              | false =>
                have HV := Lib.hid (HF.out rfl)
                go_wp2_with (first
                  | (refine wpList_load_row rfl 26 (.tmp 1) rfl Z rfl 26 #[.int .i64 res, .slice sT k S.t.c, .slice sM m S.m.c, .slice sE nE S.e.c] (0, 0) _ HCALL.out Tryd.underlying26 rfl (by kernel_rfl) ?_)
                  | (go_at_call 79; refine HEi.out.mono ?_; rintro e w7 ⟨rfl, b7⟩; have H7 := Lib.hid (HR.out.1.1.trans (b7.mono HR.out.1.1.size)); clear b7 c3)
                  | fail)
                go_ret2
                exact ⟨by rw [HV.out]; rfl, H7.out⟩
              | true =>
                have HN := Lib.hid (HY.out rfl)
                go_wp2_with (first
                  | (refine wpList_load_row rfl 26 (.tmp 1) rfl Z rfl 26 #[.int .i64 res, .slice sT k S.t.c, .slice sM m S.m.c, .slice sE nE S.e.c] (0, 0) _ HCALL.out Tryd.underlying26 rfl (by kernel_rfl) ?_)
                  | (go_at_call 79; refine HEi.out.mono ?_; rintro e w7 ⟨rfl, b7⟩; have H7 := Lib.hid (And.intro (HR.out.1.1.trans (b7.mono HR.out.1.1.size)) (HR.out.1.2.new b7)); clear b7 c3)
                  | fail)
                go_roundg g1
                case measure => omega
                case rel => exact ⟨i + 1, by have := HG.out; omega, by go_num, H7.out, HN.out⟩
            | zero =>
              obtain rfl : i = nE := by omega
              have HV := Lib.hid (show v = (0, 0) by rw [HO3.out, HE1.out, firstNo_none HR.out.2]; rfl)
              go_wp2
              go_ret2
              exact ⟨by rw [HV.out]; rfl, HR.out.1.1⟩
end Go.Proofs.YtchmdnmifpjfkaaDoor
/- Maths of steady: what may be held up, the terms of those ahead, what an image that may be is like. No statement about the program's functions. -/
namespace Go.Proofs.YtchmdnmifpjfkaaDoor
open Go.RowKit

/-- The greatest of some numbers, 0 at least. -/
def mxK (p : Nat → Bool) (g : Nat → Int) : Nat → Int
  | 0 => 0
  | n + 1 => if p n = true then max (mxK p g n) (g n) else mxK p g n
theorem mxK_ext {p q : Nat → Bool} {g h : Nat → Int} : ∀ n, (∀ i, i < n → p i = q i) → (∀ i, i < n → p i = true → g i = h i) → mxK p g n = mxK q h n
  | 0, _, _ => rfl
  | n + 1, hp, hg => by
    have ih := mxK_ext n (fun i hi => hp i (by omega)) (fun i hi => hg i (by omega))
    unfold mxK
    rw [ih, ← hp n (by omega)]
    by_cases h : p n = true
    · rw [if_pos h, if_pos h, hg n (by omega) h]
    · rw [if_neg h, if_neg h]
theorem mxK_flat {p : Nat → Bool} {g : Nat → Int} {m : Nat} : ∀ n, m ≤ n → (∀ i, m ≤ i → i < n → p i = false) → mxK p g n = mxK p g m
  | 0, h, _ => by rw [show m = 0 by omega]
  | n + 1, h, hp => by
    by_cases e : m = n + 1
    · rw [e]
    · show (if p n = true then _ else _) = _
      rw [if_neg (by rw [hp n (by omega) (by omega)]; decide)]
      exact mxK_flat n (by omega) fun i a b => hp i a (by omega)
theorem mxK_rng {p : Nat → Bool} {g : Nat → Int} {M : Int} (hM : 0 ≤ M) : ∀ n, (∀ i, i < n → p i = true → g i ≤ M) → 0 ≤ mxK p g n ∧ mxK p g n ≤ M
  | 0, _ => ⟨Int.le_refl _, hM⟩
  | n + 1, h => by
    have ih := mxK_rng hM n fun i a b => h i (by omega) b
    unfold mxK
    by_cases hp : p n = true
    · rw [if_pos hp]; have := h n (by omega) hp; omega
    · rw [if_neg hp]; exact ih
theorem mxK_mono {p q : Nat → Bool} {g h : Nat → Int} : ∀ n, (∀ i, i < n → p i = true → q i = true ∧ g i ≤ h i) → mxK p g n ≤ mxK q h n
  | 0, _ => Int.le_refl _
  | n + 1, H => by
    have ih := mxK_mono n fun i a b => H i (by omega) b
    unfold mxK
    by_cases hp : p n = true
    · obtain ⟨a, b⟩ := H n (by omega) hp
      rw [if_pos hp, if_pos a]; omega
    · rw [if_neg hp]
      split <;> omega
/-- The greatest along a list. -/
def mxS (g : Nat → Int) (L : List Nat) : Nat → Int
  | 0 => 0
  | k + 1 => max (mxS g L k) (g (L.getD k 0))
theorem mxS_pre (g : Nat → Int) (l r : List Nat) : ∀ k, k ≤ l.length → mxS g (l ++ r) k = mxS g l k
  | 0, _ => rfl
  | k + 1, h => by
    unfold mxS
    rw [mxS_pre g l r k (by omega)]
    congr 2
    simp [List.getElem?_append_left (show k < l.length by omega)]
theorem mxS_lst (g : Nat → Int) (y : BitVec 32) : ∀ n, mxS g (lst y n) (lst y n).length = mxK y.getLsbD g n
  | 0 => rfl
  | n + 1 => by
    rw [lst_succ]
    unfold mxK
    by_cases h : y.getLsbD n = true
    · rw [if_pos h, if_pos h, List.length_append]
      show max (mxS g (lst y n ++ [n]) (lst y n).length) (g ((lst y n ++ [n]).getD (lst y n).length 0)) = _
      rw [mxS_pre _ _ _ _ (Nat.le_refl _), mxS_lst g y n]
      simp
    · rw [if_neg h, if_neg h, mxS_lst g y n]
theorem mxS_rng {g : Nat → Int} {M : Int} (hM : 0 ≤ M) {L : List Nat} (h : ∀ i, i ∈ L → g i ≤ M) : ∀ k, k ≤ L.length → 0 ≤ mxS g L k ∧ mxS g L k ≤ M
  | 0, _ => ⟨Int.le_refl _, hM⟩
  | k + 1, hk => by
    have ih := mxS_rng hM h k (by omega)
    have := h (L.getD k 0) (by rw [List.getD_eq_getElem?_getD, List.getElem?_eq_getElem (by omega)]; exact List.getElem_mem _)
    unfold mxS
    omega
/-- The sum of some numbers. -/
def smK (p : Nat → Bool) (g : Nat → Int) : Nat → Int
  | 0 => 0
  | n + 1 => if p n = true then smK p g n + g n else smK p g n
theorem smK_ext {p q : Nat → Bool} {g h : Nat → Int} : ∀ n, (∀ i, i < n → p i = q i) → (∀ i, i < n → p i = true → g i = h i) → smK p g n = smK q h n
  | 0, _, _ => rfl
  | n + 1, hp, hg => by
    have ih := smK_ext n (fun i hi => hp i (by omega)) (fun i hi => hg i (by omega))
    unfold smK
    rw [ih, ← hp n (by omega)]
    by_cases h : p n = true
    · rw [if_pos h, if_pos h, hg n (by omega) h]
    · rw [if_neg h, if_neg h]
theorem smK_flat {p : Nat → Bool} {g : Nat → Int} {m : Nat} : ∀ n, m ≤ n → (∀ i, m ≤ i → i < n → p i = false) → smK p g n = smK p g m
  | 0, h, _ => by rw [show m = 0 by omega]
  | n + 1, h, hp => by
    by_cases e : m = n + 1
    · rw [e]
    · show (if p n = true then _ else _) = _
      rw [if_neg (by rw [hp n (by omega) (by omega)]; decide)]
      exact smK_flat n (by omega) fun i a b => hp i a (by omega)
theorem smK_rng {p : Nat → Bool} {g : Nat → Int} {M : Int} (hM : 0 ≤ M) : ∀ n, (∀ i, i < n → 0 ≤ g i ∧ g i ≤ M) → 0 ≤ smK p g n ∧ smK p g n ≤ (n : Int) * M
  | 0, _ => ⟨Int.le_refl _, by simp [smK]⟩
  | n + 1, h => by
    have ih := smK_rng (p := p) hM n fun i a => h i (by omega)
    have e : ((n + 1 : Nat) : Int) * M = (n : Int) * M + M := by rw [Int.natCast_add, Int.add_mul]; simp
    have := h n (by omega)
    unfold smK
    split <;> omega
theorem smK_mono {p q : Nat → Bool} {g h : Nat → Int} : ∀ n, (∀ i, i < n → p i = true → q i = true ∧ g i ≤ h i) → (∀ i, i < n → 0 ≤ h i) → smK p g n ≤ smK q h n
  | 0, _, _ => Int.le_refl _
  | n + 1, H, H0 => by
    have ih := smK_mono n (fun i a b => H i (by omega) b) fun i a => H0 i (by omega)
    have := H0 n (by omega)
    unfold smK
    by_cases hp : p n = true
    · obtain ⟨a, b⟩ := H n (by omega) hp
      rw [if_pos hp, if_pos a]; omega
    · rw [if_neg hp]
      split <;> omega
def smS (g : Nat → Int) (L : List Nat) : Nat → Int
  | 0 => 0
  | k + 1 => smS g L k + g (L.getD k 0)
theorem smS_pre (g : Nat → Int) (l r : List Nat) : ∀ k, k ≤ l.length → smS g (l ++ r) k = smS g l k
  | 0, _ => rfl
  | k + 1, h => by
    unfold smS
    rw [smS_pre g l r k (by omega)]
    congr 2
    simp [List.getElem?_append_left (show k < l.length by omega)]
theorem smS_lst (g : Nat → Int) (y : BitVec 32) : ∀ n, smS g (lst y n) (lst y n).length = smK y.getLsbD g n
  | 0 => rfl
  | n + 1 => by
    rw [lst_succ]
    unfold smK
    by_cases h : y.getLsbD n = true
    · rw [if_pos h, if_pos h, List.length_append]
      show smS g (lst y n ++ [n]) (lst y n).length + g ((lst y n ++ [n]).getD (lst y n).length 0) = _
      rw [smS_pre _ _ _ _ (Nat.le_refl _), smS_lst g y n]
      simp
    · rw [if_neg h, if_neg h, smS_lst g y n]
theorem smS_rng {g : Nat → Int} {M : Int} (hM : 0 ≤ M) (h : ∀ i, 0 ≤ g i ∧ g i ≤ M) (L : List Nat) : ∀ k, 0 ≤ smS g L k ∧ smS g L k ≤ (k : Int) * M
  | 0 => ⟨Int.le_refl _, by simp [smS]⟩
  | k + 1 => by
    have ih := smS_rng hM h L k
    have := h (L.getD k 0)
    have e : ((k + 1 : Nat) : Int) * M = (k : Int) * M + M := by rw [Int.natCast_add, Int.add_mul]; simp
    unfold smS
    omega

/-- An image whose tasks may be. -/
structure GoodI (x : Img) : Prop where
  n1 : 1 ≤ x.tasks.length
  n16 : x.tasks.length ≤ 16
  per : ∀ i, i < x.tasks.length → 1 ≤ (x.t i).per ∧ (x.t i).per ≤ 4096
  dl : ∀ i, i < x.tasks.length → 1 ≤ (x.t i).dl ∧ (x.t i).dl ≤ 4096
  cost : ∀ i, i < x.tasks.length → 1 ≤ (x.t i).cost ∧ (x.t i).cost ≤ 4096
  cd : ∀ i, i < x.tasks.length → (x.t i).cost ≤ (x.t i).dl
  lon : ∀ i, i < x.tasks.length → ∀ r, r < 8 → 0 ≤ lonF x i r ∧ lonF x i r ≤ 4096
theorem good_of_code {x : Img} (h : (codeAll x).2 = 0) : GoodI x := by
  have ht : (codeT x).2 = 0 := by
    unfold codeAll at h
    split at h
    · split at h
      · assumption
      · exact h
    · cases h
  unfold codeT at ht
  split at ht
  case isFalse => cases ht
  case isTrue hn =>
    have hn' : 1 ≤ (x.tasks.length : Int) ∧ (x.tasks.length : Int) ≤ 16 := of_decide_eq_true hn
    have hall : ∀ i, i < x.tasks.length → tkOK x i = true := by
      cases hf : firstNo x.tasks.length (tkOK x) with
      | some k => rw [hf] at ht; cases ht
      | none =>
        intro i hi
        unfold firstNo at hf
        have := List.find?_eq_none.1 hf i (List.mem_range.2 hi)
        simpa using this
    have hb : ∀ i, i < x.tasks.length → (1 ≤ (x.t i).per ∧ (x.t i).per ≤ 4096) ∧ (1 ≤ (x.t i).dl ∧ (x.t i).dl ≤ (x.t i).per) ∧ (1 ≤ (x.t i).cost ∧ (x.t i).cost ≤ (x.t i).dl) ∧ ∀ r, r < 8 → 0 ≤ lonF x i r ∧ lonF x i r ≤ mostL (x.t i).cost x.res r := by
      intro i hi
      have h1 := hall i hi
      unfold tkOK taskOK inB at h1
      simp only [Bool.and_eq_true, decide_eq_true_eq, List.all_eq_true, List.mem_range] at h1
      obtain ⟨a, b, c, d⟩ := h1
      exact ⟨a, b, c, d⟩
    refine ⟨by omega, by omega, fun i hi => (hb i hi).1, fun i hi => ?_, fun i hi => ?_, fun i hi => (hb i hi).2.2.1.2, fun i hi r hr => ?_⟩
    · have := hb i hi; omega
    · have := hb i hi; omega
    · have h1 := hb i hi
      have h2 := h1.2.2.2 r hr
      have h3 : mostL (x.t i).cost x.res r ≤ (x.t i).cost := by unfold mostL; split <;> omega
      omega
theorem lon_big {x : Img} {i : Nat} (hi : ¬ i < x.tasks.length) (r : Nat) (hr : r < 8) : lonF x i r = 0 := by
  have e : x.t i = default := by unfold Img.t; rw [List.getD_eq_getElem?_getD, List.getElem?_eq_none (by omega)]; rfl
  unfold lonF
  rw [e]
  show ([0, 0, 0, 0, 0, 0, 0, 0] : List Int).getD r 0 = 0
  revert hr
  revert r
  exact lt8 rfl rfl rfl rfl rfl rfl rfl rfl
theorem lon_rng {x : Img} (h : GoodI x) (i r : Nat) (hr : r < 8) : 0 ≤ lonF x i r ∧ lonF x i r ≤ 4096 := by
  by_cases hi : i < x.tasks.length
  · exact h.lon i hi r hr
  · rw [lon_big hi r hr]; omega
/-- How long one of a set holds a resource at most. -/
def lgF (x : Img) (y : BitVec 32) (r : Nat) : Int := mxK y.getLsbD (fun i => lonF x i r) 32
theorem lgF_rng {x : Img} (h : GoodI x) (y : BitVec 32) (r : Nat) (hr : r < 8) : 0 ≤ lgF x y r ∧ lgF x y r ≤ 4096 :=
  mxK_rng (by omega) _ fun i _ _ => (lon_rng h i r hr).2
/-- Those of a set that go behind a task. -/
def bhd (x : Img) (s : BitVec 32) (task : Int) : BitVec 32 := btw (s &&& allI x) task 32
theorem bhd_bit (x : Img) (s : BitVec 32) (task : Int) (i : Nat) (hi : i < 32) : (bhd x s task).getLsbD i = (decide (task < (i : Int)) && (s.getLsbD i && decide (i < x.tasks.length))) := by
  unfold bhd allI
  rw [btw_bit _ _ _ _ hi, BitVec.getLsbD_and, btw_bit _ _ _ _ hi]
  have h1 : (4294967295#32).getLsbD i = true := by
    have := low_bit 32 i hi
    rw [show low 32 = 4294967295#32 from rfl] at this
    rw [this]; simp [hi]
  have h2 : decide (-1 < (i : Int)) = true := by simp; omega
  have h3 : decide ((i : Int) < 32) = true := by simp; omega
  have h4 : decide ((i : Int) < (x.tasks.length : Int)) = decide (i < x.tasks.length) := by simp
  rw [h1, h2, h3, h4]
  cases s.getLsbD i <;> cases decide (task < (i : Int)) <;> cases decide (i < x.tasks.length) <;> rfl
/-- As the reference says it: of those from the next one on. -/
def lgR (x : Img) (s : BitVec 32) (task r n : Nat) : Int := mxK (fun i => decide (task < i) && s.getLsbD i) (fun i => lonF x i r) n
theorem lgR_eq {x : Img} (h : GoodI x) (s : BitVec 32) (task r : Nat) : lgR x s task r x.tasks.length = lgF x (bhd x s (task : Int)) r := by
  unfold lgR lgF
  rw [mxK_flat (m := x.tasks.length) 32 (by have := h.n16; omega) (fun i a b => by rw [bhd_bit _ _ _ _ b]; simp; omega)]
  refine mxK_ext _ (fun i hi => ?_) (fun _ _ _ => rfl)
  rw [bhd_bit _ _ _ _ (by have := h.n16; omega)]
  have : decide ((task : Int) < (i : Int)) = decide (task < i) := by simp
  rw [this]
  simp [hi]
theorem lgR_start (x : Img) (s : BitVec 32) (task r : Nat) : lgR x s task r (task + 1) = 0 := by
  unfold lgR
  rw [mxK_flat (m := 0) _ (by omega) (fun i _ hi => by simp; omega)]
  rfl
theorem lgR_step (x : Img) (s : BitVec 32) (task r k : Nat) (hk : task < k) : lgR x s task r (k + 1) = if s.getLsbD k = true then max (lgR x s task r k) (lonF x k r) else lgR x s task r k := by
  show (if (decide (task < k) && s.getLsbD k) = true then _ else _) = _
  simp [hk]
  rfl
/-- How long those behind a task may hold what lets them go ahead of it. -/
def blkF (x : Img) (s : BitVec 32) (f : Nat → Int) (task : Int) : Int := smK (fun r => decide (f r ≤ task ∧ f r < 16)) (fun r => lgF x (bhd x s task) r) 8
theorem blkF_rng {x : Img} (h : GoodI x) (s : BitVec 32) (f : Nat → Int) (task : Int) : 0 ≤ blkF x s f task ∧ blkF x s f task ≤ 32768 := by
  have := smK_rng (p := fun r => decide (f r ≤ task ∧ f r < 16)) (g := fun r => lgF x (bhd x s task) r) (M := 4096) (by omega) 8 (fun r hr => lgF_rng h _ r hr)
  unfold blkF
  omega
theorem tbOv_bit (f : Nat → Int) (t : Int) (i : Nat) (hi : i < 32) : (tbOv f t 8).getLsbD i = (decide (i < 8) && decide (f i ≤ t ∧ f i < 16)) := by unfold tbOv; exact pre_bit _ _ _ hi
theorem lst_cut {y : BitVec 32} {m n : Nat} (h : m ≤ n) (hy : ∀ i, m ≤ i → i < n → y.getLsbD i = false) : lst y n = lst y m := by
  induction n with
  | zero => rw [show m = 0 by omega]
  | succ n ih =>
    by_cases e : m = n + 1
    · rw [e]
    · rw [lst_succ, if_neg (by rw [hy n (by omega) (by omega)]; decide)]
      exact ih (by omega) fun i a b => hy i a (by omega)
theorem lst_ext {y z : BitVec 32} : ∀ n, (∀ i, i < n → y.getLsbD i = z.getLsbD i) → lst y n = lst z n
  | 0, _ => rfl
  | n + 1, h => by rw [lst_succ, lst_succ, h n (by omega), lst_ext n fun i hi => h i (by omega)]
/-- The resources over a task. -/
def ovL (f : Nat → Int) (t : Int) : List Nat := lst (tbOv f t 8) 32
theorem ovL_eq (f : Nat → Int) (t : Int) : ovL f t = lst (tbOv f t 8) 8 := lst_cut (by omega) fun i a b => by rw [tbOv_bit _ _ _ b]; simp; omega
theorem ovL_lt {f : Nat → Int} {t : Int} {i : Nat} (h : i ∈ ovL f t) : i < 8 := by rw [ovL_eq] at h; exact ((mem_lst _ _ _).1 h).1
theorem blkF_sum (x : Img) (s : BitVec 32) (f : Nat → Int) (t : Int) : smS (fun r => lgF x (bhd x s t) r) (ovL f t) (ovL f t).length = blkF x s f t := by
  rw [ovL_eq, smS_lst]
  unfold blkF
  refine smK_ext _ (fun i hi => ?_) fun _ _ _ => rfl
  rw [tbOv_bit _ _ _ (by omega)]
  simp [hi]
/-- The work of those of a set that go ahead of a task. -/
def aheadL (x : Img) (s : BitVec 32) (n : Nat) : List Nat := lst s (min n x.tasks.length)
theorem aheadL_eq {x : Img} (h : GoodI x) (s : BitVec 32) (n : Nat) : tasksL x (btw s (-1) (n : Int)) = aheadL x s n := by
  unfold tasksL aheadL
  have h16 := h.n16
  rw [lst_cut (m := min n x.tasks.length) (by omega) (fun i a b => ?_)]
  · refine lst_ext _ fun i hi => ?_
    rw [btw_bit _ _ _ _ (by omega), btw_bit _ _ _ _ (by omega)]
    have h1 : decide (-1 < (i : Int)) = true := by simp; omega
    have h2 : decide ((i : Int) < (x.tasks.length : Int)) = true := by simp; omega
    have h3 : decide ((i : Int) < (n : Int)) = true := by simp; omega
    rw [h1, h2, h3]; simp
  · rw [btw_bit _ _ _ _ b, btw_bit _ _ _ _ b]
    by_cases e : i < x.tasks.length
    · have : decide ((i : Int) < (n : Int)) = false := by simp; omega
      rw [this]; simp
    · have : decide ((i : Int) < (x.tasks.length : Int)) = false := by simp; omega
      rw [this]; simp
theorem tasksL_eq {x : Img} (h : GoodI x) (s : BitVec 32) : tasksL x s = aheadL x s x.tasks.length := by
  unfold tasksL aheadL
  have h16 := h.n16
  rw [lst_cut (m := min x.tasks.length x.tasks.length) (by omega) (fun i a b => ?_)]
  · refine lst_ext _ fun i hi => ?_
    rw [btw_bit _ _ _ _ (by omega)]
    have h1 : decide (-1 < (i : Int)) = true := by simp; omega
    have h2 : decide ((i : Int) < (x.tasks.length : Int)) = true := by simp; omega
    rw [h1, h2]; simp
  · rw [btw_bit _ _ _ _ b]
    have : decide ((i : Int) < (x.tasks.length : Int)) = false := by simp; omega
    rw [this]; simp
def tmOf (x : Img) (i : Nat) : Tm := ⟨(x.t i).per, (x.t i).cost, 0, 0⟩
def tmL (x : Img) (L : List Nat) : List Tm := L.map (tmOf x)
theorem tmL_len (x : Img) (L : List Nat) : (tmL x L).length = L.length := by simp [tmL]
theorem tmL_row (x : Img) (L : List Nat) : rowsOf (termV x L) L.length = tmRow (tmL x L) := by
  unfold rowsOf tmRow tmL
  rw [List.map_map]
  congr 1
  apply List.ext_getElem
  · simp
  · intro i h1 h2
    simp at h1 h2
    simp [termV, tmOf, tmC, h1]
theorem aheadL_lt {x : Img} {s : BitVec 32} {n i : Nat} (h : i ∈ aheadL x s n) : i < x.tasks.length ∧ i < n ∧ s.getLsbD i = true := by
  have := (mem_lst _ _ _).1 h
  exact ⟨by omega, by omega, this.2⟩
theorem aheadL_len {x : Img} (h : GoodI x) (s : BitVec 32) (n : Nat) : (aheadL x s n).length ≤ 16 := by
  have := lst_len s (min n x.tasks.length)
  have := h.n16
  unfold aheadL
  omega
theorem good_tm {x : Img} (h : GoodI x) {L : List Nat} (hL : ∀ i, i ∈ L → i < x.tasks.length) : ∀ t ∈ tmL x L, GoodT t := by
  intro t ht
  obtain ⟨i, hi, rfl⟩ := List.mem_map.1 ht
  have h1 := h.per i (hL i hi)
  have h2 := h.cost i (hL i hi)
  exact ⟨⟨h1.1, by show (x.t i).per ≤ _; omega⟩, ⟨by show 0 ≤ (x.t i).cost; omega, by show (x.t i).cost ≤ _; omega⟩, ⟨Int.le_refl _, by show (0 : Int) ≤ _; omega⟩, ⟨Int.le_refl _, by show (0 : Int) ≤ _; omega⟩⟩
/-- The response of a task. -/
def ownF (x : Img) (s : BitVec 32) (f : Nat → Int) (i : Nat) : Int := (x.t i).cost + blkF x s f (i : Int)
def rspF (x : Img) (s hold : BitVec 32) (f : Nat → Int) (i : Nat) : Option (Int × Int) := lookR (ownF x hold f i) (x.t i).dl (tmL x (aheadL x s i))
theorem ownF_rng {x : Img} (h : GoodI x) (s : BitVec 32) (f : Nat → Int) {i : Nat} (hi : i < x.tasks.length) : 1 ≤ ownF x s f i ∧ ownF x s f i ≤ 36864 := by
  have h1 := blkF_rng h s f (i : Int)
  have h2 := h.cost i hi
  unfold ownF
  omega
end Go.Proofs.YtchmdnmifpjfkaaDoor
/- The contracts of steady's longest and Block. -/
namespace Go.Proofs.YtchmdnmifpjfkaaDoor
open Go.RowKit
attribute [local go_sem] Oper.semAt_some

/-- What a loop keeps: one block of its own, and all that was there before. -/
def CI (w6 : World) (T : Nat) (t : TypeId) (cs : Array Value) (W : World) : Prop := Ch (fun j => j = T) w6 W ∧ RowAt W T t cs
theorem CI.foot {w6 : World} {T b : Nat} {t : TypeId} {cs : Array Value} (hb : w6.heap.size = b) (hT : T < b) : Foot (fun _ j => j < b) (CI w6 T t cs) where
  lt := fun W ⟨h, _⟩ j hj => by have := h.size; omega
  keep := fun W W' ⟨h1, h2⟩ hc => by
    refine ⟨⟨((h1.mono (T' := fun j => j = T ∨ b ≤ j) (fun _ _ h => .inl h)).trans (hc.mono fun j _ hn => .inr (by have : ¬ j < b := hn; omega))).mono fun j hj h => ?_, h2.keep hc (fun hn => hn hT)⟩, fun j hj => hj⟩
    rcases h with h | h
    · exact h
    · omega
theorem CI.set {w6 W : World} {T : Nat} {t : TypeId} {a : Value} (h : CI w6 T t #[a] W) (v : Value) : CI w6 T t #[v] (W.setCell ⟨T, 0, none⟩ v) :=
  ⟨h.1.setCell _ _ (.inl rfl), h.2.setC 0 v⟩
theorem row_next (w : World) (n : Nat) (hn : w.heap.size = n) (t : TypeId) (cs : Array Value) : RowAt (w.alloc (.cells cs t)) n t cs := by rw [← hn]; exact RowAt.mk _ _ _
theorem row_keep {w : World} {b : Nat} {t : TypeId} {cs : Array Value} (h : RowAt w b t cs) (o : Obj) : RowAt (w.alloc o) b t cs := h.new ((Below.refl _ _).alloc (Nat.le_refl _) _)
theorem rows3 (w : World) (a b c : Array Value) (ta tb tc : TypeId) :
    Below w.heap.size w (((w.alloc (.cells a ta)).alloc (.cells b tb)).alloc (.cells c tc)) ∧ (((w.alloc (.cells a ta)).alloc (.cells b tb)).alloc (.cells c tc)).heap.size = w.heap.size + 3 ∧
    RowAt (((w.alloc (.cells a ta)).alloc (.cells b tb)).alloc (.cells c tc)) w.heap.size ta a ∧
    RowAt (((w.alloc (.cells a ta)).alloc (.cells b tb)).alloc (.cells c tc)) (w.heap.size + 1) tb b ∧
    RowAt (((w.alloc (.cells a ta)).alloc (.cells b tb)).alloc (.cells c tc)) (w.heap.size + 2) tc c := by
  have z1 : (w.alloc (.cells a ta)).heap.size = w.heap.size + 1 := by simp
  have z2 : ((w.alloc (.cells a ta)).alloc (.cells b tb)).heap.size = w.heap.size + 2 := by simp
  exact ⟨(((Below.refl _ _).alloc (Nat.le_refl _) _).alloc (by omega) _).alloc (by omega) _, by simp,
    row_keep (row_keep (RowAt.mk _ _ _) _) _, row_keep (row_next _ _ z1 _ _) _, row_next _ _ z2 _ _⟩
theorem rows4 (w : World) (a b c d : Array Value) (ta tb tc td : TypeId) :
    Below w.heap.size w ((((w.alloc (.cells a ta)).alloc (.cells b tb)).alloc (.cells c tc)).alloc (.cells d td)) ∧ ((((w.alloc (.cells a ta)).alloc (.cells b tb)).alloc (.cells c tc)).alloc (.cells d td)).heap.size = w.heap.size + 4 ∧
    RowAt ((((w.alloc (.cells a ta)).alloc (.cells b tb)).alloc (.cells c tc)).alloc (.cells d td)) w.heap.size ta a ∧
    RowAt ((((w.alloc (.cells a ta)).alloc (.cells b tb)).alloc (.cells c tc)).alloc (.cells d td)) (w.heap.size + 1) tb b ∧
    RowAt ((((w.alloc (.cells a ta)).alloc (.cells b tb)).alloc (.cells c tc)).alloc (.cells d td)) (w.heap.size + 2) tc c ∧
    RowAt ((((w.alloc (.cells a ta)).alloc (.cells b tb)).alloc (.cells c tc)).alloc (.cells d td)) (w.heap.size + 3) td d := by
  have z1 : (w.alloc (.cells a ta)).heap.size = w.heap.size + 1 := by simp
  have z2 : ((w.alloc (.cells a ta)).alloc (.cells b tb)).heap.size = w.heap.size + 2 := by simp
  have z3 : (((w.alloc (.cells a ta)).alloc (.cells b tb)).alloc (.cells c tc)).heap.size = w.heap.size + 3 := by simp
  exact ⟨((((Below.refl _ _).alloc (Nat.le_refl _) _).alloc (by omega) _).alloc (by omega) _).alloc (by omega) _, by simp,
    row_keep (row_keep (row_keep (RowAt.mk _ _ _) _) _) _, row_keep (row_keep (row_next _ _ z1 _ _) _) _, row_keep (row_next _ _ z2 _ _) _, row_next _ _ z3 _ _⟩
theorem row_made {w w3 : World} {z c : Array Value} {t : TypeId} (h : (w.alloc (.cells z t)).setRow w.heap.size c = w3) : Below w.heap.size w w3 ∧ RowAt w3 w.heap.size t c ∧ w3.heap.size = w.heap.size + 1 := by
  obtain ⟨h1, h2⟩ := alloc_row w z c t
  rw [← h]
  refine ⟨h1, h2, ?_⟩
  have e := (ch_setRow (w.alloc (.cells z t)) w.heap.size c)
  simp [World.setRow]
theorem rows5_of {w w1 : World} {a b c d f : Array Value} {ta tb tc td tf : TypeId} (h : ((((w.alloc (.cells a ta)).alloc (.cells b tb)).alloc (.cells c tc)).alloc (.cells d td)).alloc (.cells f tf) = w1) :
    Below w.heap.size w w1 ∧ w1.heap.size = w.heap.size + 5 ∧ RowAt w1 w.heap.size ta a ∧ RowAt w1 (w.heap.size + 1) tb b ∧ RowAt w1 (w.heap.size + 2) tc c ∧ RowAt w1 (w.heap.size + 3) td d ∧ RowAt w1 (w.heap.size + 4) tf f := by
  obtain ⟨h1, h2, h3, h4, h5, h6⟩ := rows4 w a b c d ta tb tc td
  rw [← h]
  exact ⟨below_alloc h1 (Nat.le_refl _) _, by simp, row_keep h3 _, row_keep h4 _, row_keep h5 _, row_keep h6 _, row_next _ _ h2 _ _⟩
set_option maxHeartbeats 4000000 in
set_option maxRecDepth 100000 in
theorem longest_any {w : World} {V : Nat → Prop} {x : Img} {S : ImgS} (h : ImgAt w V x S) (ht : Tab w) (y : BitVec 32) (hy : ∀ i, i < 32 → y.getLsbD i = true → i < x.tasks.length) (r : Nat) (hr : r < 8) :
    Calls Tryd.prog 68 #[.agg #[.int .i64 x.res, .slice S.t.sp x.tasks.length S.t.c, .slice S.m.sp x.modes.length S.m.c, .slice S.e.sp x.edges.length S.e.c], .int .u32 (w32 y), .int .i64 (r : Nat)] w fun e w' => e = .returned (.int .i64 (lgF x y r)) ∧ Below w.heap.size w w' := by
  refine (callsIn_wide (n := 0)).1 ?_
  have hp := ht.pos
  have HI := Lib.hid h
  have HTb := Lib.hid (show ∀ w', Below w.heap.size w w' → Tab w' from fun w' hb => ht.below hp hb)
  have HLt := Lib.hid (show ∀ k, k < (lst y 32).length → (lst y 32).getD k 0 < x.tasks.length from fun k hk => by
    have hm : (lst y 32).getD k 0 ∈ lst y 32 := by rw [List.getD_eq_getElem?_getD, List.getElem?_eq_getElem hk]; exact List.getElem_mem hk
    have := (mem_lst _ _ _).1 hm
    exact hy _ this.1 this.2)
  obtain ⟨g, hg⟩ : ∃ g, (fun i => lonF x i r) = g := ⟨_, rfl⟩
  have HG := Lib.hid (show ∀ i, lonF x i r = g i from fun i => by rw [← hg])
  have HR := Lib.hid (show lgF x y r = mxS g (lst y 32) (lst y 32).length by rw [mxS_lst, ← hg]; rfl)
  rw [HR.out]
  obtain ⟨nT, hnT⟩ : ∃ n, x.tasks.length = n := ⟨_, rfl⟩
  obtain ⟨nM, hnM⟩ : ∃ n, x.modes.length = n := ⟨_, rfl⟩
  obtain ⟨nE, hnE⟩ : ∃ n, x.edges.length = n := ⟨_, rfl⟩
  rw [hnT] at HLt
  rw [hnT, hnM, hnE]
  have HN := Lib.hid hnT
  obtain ⟨Z, hZ⟩ : ∃ Z, Z = w.heap.size := ⟨_, rfl⟩
  have HZ := Lib.hid hZ
  have hr8 : (r : Int) < 8 := by omega
  have HR8 := Lib.hid hr
  clear h ht hp hnT hnM hnE hg hr hy
  obtain ⟨L, hL⟩ : ∃ L, lst y 32 = L := ⟨_, rfl⟩
  have HTL := Lib.hid hL
  rw [hL] at HLt HR ⊢
  clear hL HR
  obtain ⟨N, hN⟩ : ∃ N, L.length = N := ⟨_, rfl⟩
  rw [hN] at HLt ⊢
  have HNN := Lib.hid hN
  clear hN
  refine callsIn_of_wp_marks Tryd.func68 rfl trivial ?_ rfl
  simp only [Tryd.ntmps68, List.size_toArray, List.length_cons, List.length_nil, Nat.reduceAdd, Nat.reduceSub, Array.replicate_succ, Array.replicate_zero, List.push_toArray, List.append_toArray, List.nil_append, List.cons_append]
  gi_wp2_with (first
    | (refine ⟨trivial, rfl, ?_⟩; gi_at_call 53; refine (callsIn_wide.2 (All_any _ _)).mono ?_; rintro e w' ⟨rfl, rfl⟩)
    | fail)
  generalize hw6 : World.alloc (World.alloc (World.alloc (World.alloc w _) _) _) _ = w6
  have H6 := Lib.hid (show Below w.heap.size w w6 ∧ w6.heap.size = Z + 4 ∧ RowAt w6 Z 26 #[.int .i64 x.res, .slice S.t.sp nT S.t.c, .slice S.m.sp nM S.m.c, .slice S.e.sp nE S.e.c] ∧ RowAt w6 (Z + 1) 3 #[.int .i64 (r : Nat)] ∧ RowAt w6 (Z + 2) 3 #[.int .i64 0] ∧ w6.cell? ⟨Z + 3, 0, none⟩ = some (.int .u32 (w32 y)) by
    rw [← hw6, hZ]
    obtain ⟨b, z, r1, r2, r3, r4⟩ := rows4 w _ _ _ _ _ _ _ _
    exact ⟨b, z, r1, r2, r3, r4.cell 0⟩)
  rw [show w.heap.size + 1 + 1 + 1 = Z + 3 by omega, show w.heap.size + 1 + 1 = Z + 2 by omega, show w.heap.size + 1 = Z + 1 by omega, ← hZ]
  clear hw6 hZ
  have HI0 := Lib.hid (show CI w6 (Z + 2) 3 #[.int .i64 (mxS g L 0)] w6 from ⟨Ch.refl _ _, H6.out.2.2.2.2.1⟩)
  have HBe := Lib.hid (show ∀ (W' : World) (cs : Array Value), CI w6 (Z + 2) 3 cs W' → Below w.heap.size w W' from fun W' f h => H6.out.1.trans (h.1.below (fun j hj e => by have := HZ.out; omega) H6.out.1.size))
  refine wpIn_rangeF3 (gf := 80) (lb := #[.pointer (some ⟨Z + 3, 0, none⟩)]) rfl (enters_of Tryd.func80 (by kernel_rfl) rfl)
    N (fun k => #[.int .i64 (nth (ints L) k)]) (fun _ => rfl) (fun _ j => j < Z + 4)
    (fun k W => CI w6 (Z + 2) 3 #[.int .i64 (mxS g L k)] W) (fun _ _ _ => False)
    (fun k => CI.foot H6.out.2.1 (by omega)) (fun _ _ => ⟨fun _ h => h.elim, fun _ _ h => h.elim⟩) HI0.out
    (fun k a' W' => a' = { tmps := #[.agg #[.int .i64 x.res, .slice S.t.sp nT S.t.c, .slice S.m.sp nM S.m.c, .slice S.e.sp nE S.e.c], .int .u32 (w32 y), .int .i64 (r : Nat), .pointer (some ⟨Z, 0, none⟩), undef, .pointer (some ⟨Z + 1, 0, none⟩), .int .i64 0, .pointer (some ⟨Z + 2, 0, none⟩), .int .i64 (nth (ints L) k), .int .u32 (w32 y), .func (.func 80) #[] #[.pointer (some ⟨Z + 3, 0, none⟩)], .int .i64 (nth (ints L) k), undef, undef, undef, undef, undef, undef, undef, undef, undef, undef, undef], defers := [] })
    (fun _ _ _ _ h _ => h) ?hit ?assign ?body ?done (fun _ _ _ _ h => h.elim)
  case hit =>
    intro J' Jx' W1 h1 h2 h3 h4 h5 h6 h7 h8
    rw [H6.out.2.1] at h1 h2 h3 h4 h5 h6 h7 ⊢
    rw [← HTL.out] at h7
    have hN2 : N = (lst y 32).length := by rw [← HNN.out, HTL.out]
    rw [hN2] at h7 ⊢
    exact all_in _ (Z + 3) y _ J' Jx' W1 (fun k W' hJ => HTb.out W' (HBe.out W' _ (h3 k W' hJ).1)) ((h2.cell (p := ⟨Z + 3, 0, none⟩) (show Z + 3 < Z + 4 by omega)).trans H6.out.2.2.2.2.2) h7 h8
  case assign =>
    intro k W K hi' hk hz hK
    have HK := Lib.hid hK
    have HKI := Lib.hid hi'
    clear hK hi'
    gi_wp2
    exact HK.out _ _ rfl (Ch.refl _ _) HKI.out (fun _ h => h)
  case body =>
    rintro k a' W hI hk rfl hz ⟨rec0, hrec⟩ hnl
    rw [H6.out.2.1] at hz hrec hnl ⊢
    have hkL : k < L.length := by rw [HNN.out]; exact hk
    have hil := HLt.out k hk
    have HM := Lib.hid (show mxS g L (k + 1) = max (mxS g L k) (g (L.getD k 0)) from rfl)
    rw [nth_ints hkL]
    obtain ⟨i, hi'⟩ : ∃ i, L.getD k 0 = i := ⟨_, rfl⟩
    rw [hi'] at hil HM ⊢
    have HIW := Lib.hid (HI.out.new (HBe.out W _ hI))
    obtain ⟨hcs, h8⟩ := HIW.out.tk i (by rw [HN.out]; exact hil)
    obtain ⟨hsp, -, -⟩ := HIW.out.st.at_ (by rw [HN.out]; omega)
    have q : W.cell? ⟨S.t.b, S.t.o + i * 11 + 3 + r, none⟩ = some (.int .i64 (g i)) := by
      rw [Nat.add_assoc, ← HG.out]; exact hcs (3 + r) _ (lon_at h8 r HR8.out)
    have z1 : W.cell? ⟨Z, 1, none⟩ = some (.slice S.t.sp nT S.t.c) := (H6.out.2.2.1.keep hI.1 (fun e => by omega)).cell 1
    rw [hsp] at z1 ⊢
    have r0 : W.cell? ⟨Z + 1, 0, none⟩ = some (.int .i64 (r : Nat)) := (H6.out.2.2.2.1.keep hI.1 (fun e => by omega)).cell 0
    obtain ⟨m, hm⟩ : ∃ m, mxS g L k = m := ⟨_, rfl⟩
    obtain ⟨v, hv⟩ : ∃ v, g i = v := ⟨_, rfl⟩
    rw [hm] at hI HM
    rw [hv] at q HM
    have m0 : W.cell? ⟨Z + 2, 0, none⟩ = some (.int .i64 m) := hI.2.cell 0
    have f0 : W.frozen? ⟨Z + 2, 0, none⟩ = false := hI.2.fr 0
    have HIs := Lib.hid hI
    have hi2 : (i : Int) < (nT : Int) := by omega
    clear hI hcs h8 hsp hm hv hi' HIW hz hrec hnl hkL
    have hfin := Lib.hid (show ∀ u : Int, u = max m v → Step (fun _ j => j < Z + 4) W (W.drew.setCell ⟨Z + 2, 0, none⟩ (.int .i64 u)) ∧ CI w6 (Z + 2) 3 #[.int .i64 (mxS g L (k + 1))] (W.drew.setCell ⟨Z + 2, 0, none⟩ (.int .i64 u)) from fun u hu => by
      refine ⟨⟨((Ch.refl _ _).drew).setCell _ _ (.inl (show Z + 2 < Z + 4 by omega)), fun j hj => .inl hj⟩, ?_⟩
      rw [HM.out, ← hu]
      exact CI.set (W := W.drew) ⟨HIs.out.1.drew, HIs.out.2⟩ _)
    by_cases hlt : m < v
    · gi_wp2
      refine wpIn_region_still_tail0 10 (by kernel_rfl) (by kernel_rfl) (by kernel_rfl) (fun _ _ h => h) ?_
      simp only [List.take_succ_cons, List.take_zero, List.drop_succ_cons, List.drop_zero]
      repeat still_step
      try refine wpStill_nil ?_
      go_wp2
      exact hfin.out _ (by omega)
    · gi_wp2
      refine wpIn_region_still_tail0 10 (by kernel_rfl) (by kernel_rfl) (by kernel_rfl) (fun _ _ h => h) ?_
      simp only [List.take_succ_cons, List.take_zero, List.drop_succ_cons, List.drop_zero]
      repeat still_step
      try refine wpStill_nil ?_
      go_wp2
      exact hfin.out _ (by omega)
  case done =>
    rintro A hI hD hnD hz
    rw [H6.out.2.1] at hD hnD hz
    have m0 : A.cell? ⟨Z + 2, 0, none⟩ = some (.int .i64 (mxS g L N)) := hI.2.cell 0
    have HK := Lib.hid (And.intro (HBe.out A _ hI) hD)
    clear hI hD hnD
    gi_wp2
    rw [H6.out.2.1]
    have hp : Ch (fun j => j = Z + 4) A (A.putObj (Z + 4) (.deferred none)) := (Ch.refl _ _).putObj _ _ rfl
    refine ⟨by simp, .inl ⟨_, _, rfl, run_takeDeferred HK.out.2, ?_⟩⟩
    have hZ := HZ.out
    refine ⟨.int .i64 (mxS g L N), ?_, ?_, ?_⟩
    · simp [results, Tryd.results68, go_sem]
    · rw [← HNN.out]
    · exact HK.out.1.trans (hp.below (fun j hj e => by omega) HK.out.1.size)
end Go.Proofs.YtchmdnmifpjfkaaDoor
/- A whole row loaded and stored in a region of a function with a range over a function, and of its body. No statement about the program. -/
namespace Go.Proofs.YtchmdnmifpjfkaaDoor
open Go.RowKit

section
variable {n0 : Nat} {P : Program} {ops : Array Oper} {rest : List Oper} {o : Oper} {a : Act} {w : World} {Q : Exit → Act → World → Prop}
theorem wpListIn_store_rowW (hgd : o.guard = none) (ty : TypeId) (x y : Operand) (ho : o.op = .store ty x y)
    (g : Nat) (cells : Array Value) (hx : a.eval x = .pointer (some ⟨g, 0, none⟩)) (hy : a.eval y = .agg cells)
    (t : TypeId) (old : Array Value) (hg : w.heap[g]? = some (.cells old t (0, 0))) (hi : (P.info? ty).map (·.size) = some cells.size)
    (hold : old.size = cells.size) (h1 : cells.all (·.oneCell') = true)
    (h : wpListIn Fence.wide n0 P ops Q rest (a.put o.dst undef) (w.setRow g cells)) : wpListIn Fence.wide n0 P ops Q (o :: rest) a w := by
  refine wpListIn_plain hgd fun K hK => ⟨fun _ _ => trivial, ?_⟩
  rw [show Fence.wide.round = none from rfl, Oper.semAt_none]
  unfold execOp
  simp only [ho, hx, hy, Instr.storeAt, Instr.sureAddr, Sem.run_bind, Sem.run_pure, Result.andThen_ok, run_storeVar_row w g t ty old cells hg hi hold h1]
  exact hK _ _ h
theorem wpListIn_load_rowW (hgd : o.guard = none) (ty : TypeId) (x : Operand) (ho : o.op = .load ty x) (g : Nat) (hx : a.eval x = .pointer (some ⟨g, 0, none⟩)) (t : TypeId) (cs : Array Value) (fr : Nat × Nat) (d : TypeDesc)
    (hg : w.heap[g]? = some (.cells cs t fr)) (hu : P.underlying ty = some d) (hd : (match d with | .struct _ | .array _ _ => true | _ => false) = true) (hi : (P.info? ty).map (·.size) = some cs.size)
    (h : wpListIn Fence.wide n0 P ops Q rest (a.put o.dst (.agg cs)) w) : wpListIn Fence.wide n0 P ops Q (o :: rest) a w := by
  refine wpListIn_plain hgd fun K hK => ⟨fun _ _ => trivial, ?_⟩
  rw [show Fence.wide.round = none from rfl, Oper.semAt_none, exec_load_row ty x ho g hx t cs fr d hg hu hd hi]
  exact hK _ _ h
theorem wpListIn_load_rowR {l0 : Nat} (hgd : o.guard = none) (ty : TypeId) (x : Operand) (ho : o.op = .load ty x) (g : Nat) (hx : a.eval x = .pointer (some ⟨g, 0, none⟩)) (t : TypeId) (cs : Array Value) (fr : Nat × Nat) (d : TypeDesc)
    (hg : w.heap[g]? = some (.cells cs t fr)) (hu : P.underlying ty = some d) (hd : (match d with | .struct _ | .array _ _ => true | _ => false) = true) (hi : (P.info? ty).map (·.size) = some cs.size)
    (h : wpListIn (Fence.wide.inRound l0) n0 P ops Q rest (a.put o.dst (.agg cs)) w) : wpListIn (Fence.wide.inRound l0) n0 P ops Q (o :: rest) a w := by
  refine wpListIn_plain hgd fun K hK => ⟨fun _ _ => trivial, ?_⟩
  rw [show o.semAt (Fence.wide.inRound l0).round a.eval = execOp a.eval o from Oper.semAt_some l0 _ _ (fun c e => by rw [ho] at e; cases e), exec_load_row ty x ho g hx t cs fr d hg hu hd hi]
  exact hK _ _ h
theorem wpListIn_store_rowR {l0 : Nat} (hgd : o.guard = none) (ty : TypeId) (x y : Operand) (ho : o.op = .store ty x y)
    (g : Nat) (cells : Array Value) (hx : a.eval x = .pointer (some ⟨g, 0, none⟩)) (hy : a.eval y = .agg cells)
    (t : TypeId) (old : Array Value) (hg : w.heap[g]? = some (.cells old t (0, 0))) (hi : (P.info? ty).map (·.size) = some cells.size)
    (hold : old.size = cells.size) (h1 : cells.all (·.oneCell') = true)
    (h : wpListIn (Fence.wide.inRound l0) n0 P ops Q rest (a.put o.dst undef) (w.setRow g cells)) : wpListIn (Fence.wide.inRound l0) n0 P ops Q (o :: rest) a w := by
  refine wpListIn_plain hgd fun K hK => ⟨fun _ _ => trivial, ?_⟩
  rw [show o.semAt (Fence.wide.inRound l0).round a.eval = execOp a.eval o from Oper.semAt_some l0 _ _ (fun c e => by rw [ho] at e; cases e)]
  unfold execOp
  simp only [ho, hx, hy, Instr.storeAt, Instr.sureAddr, Sem.run_bind, Sem.run_pure, Result.andThen_ok, run_storeVar_row w g t ty old cells hg hi hold h1]
  exact hK _ _ h
end
end Go.Proofs.YtchmdnmifpjfkaaDoor
