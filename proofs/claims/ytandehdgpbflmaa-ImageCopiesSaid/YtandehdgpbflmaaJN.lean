/- The contract of ref10's Check. -/
import Derived.Test.YtandehdgpbflmaaJM
import Derived.Test.YtandehdgpbflmaaJK
namespace Go.Proofs.Ytandehdgpbflmaa
open Go.RowKit

theorem low_add (k : Nat) (_hk : k < 32) : (w32 (low k) + w32 (1#32 <<< k)) % (4294967296 : Int) = w32 (low (k + 1)) := by
  rw [add32]
  congr 1
  have h0 : low k &&& (1#32 <<< k) = 0#32 := by
    apply BitVec.eq_of_getLsbD_eq
    intro i hi
    rw [BitVec.getLsbD_and, low_bit _ _ hi, one_bit _ _ hi]
    simp; omega
  rw [BitVec.add_eq_or_of_and_eq_zero _ _ h0]
  apply BitVec.eq_of_getLsbD_eq
  intro i hi
  rw [BitVec.getLsbD_or, low_bit _ _ hi, low_bit _ _ hi, one_bit _ _ hi, Bool.eq_iff_iff]
  simp; omega
theorem mode_or (T : BitVec 32) {x : Img} (_h : x.tasks.length ≤ 32) : (w32 (T ||| low x.tasks.length) != w32 (low x.tasks.length)) = !((T &&& ~~~allI x) == 0#32) := by
  have ha : allI x = low x.tasks.length := by
    apply BitVec.eq_of_getLsbD_eq
    intro i hi
    rw [low_bit _ _ hi]
    unfold allI
    rw [btw_bit _ _ _ _ hi, show (4294967295#32).getLsbD i = true from by rw [show 4294967295#32 = BitVec.allOnes 32 from by decide, BitVec.getLsbD_allOnes, decide_eq_true hi], Bool.true_and, decide_eq_true (show (-1 : Int) < (i : Int) by omega), Bool.true_and]
    congr 1
    exact propext ⟨fun h => by omega, fun h => by omega⟩
  rw [ha]
  generalize low x.tasks.length = A
  rw [bne, Bool.not_eq_eq_eq_not, Bool.not_not, Bool.eq_iff_iff, beq_iff_eq, beq_iff_eq, w32_inj]
  constructor
  · intro he
    apply BitVec.eq_of_getLsbD_eq
    intro i hi
    have := congrArg (·.getLsbD i) he
    simp only [BitVec.getLsbD_or] at this
    simp [hi]
    cases h1 : T.getLsbD i <;> cases h2 : A.getLsbD i <;> simp_all
  · intro he
    apply BitVec.eq_of_getLsbD_eq
    intro i hi
    have := congrArg (·.getLsbD i) he
    simp [hi] at this
    rw [BitVec.getLsbD_or]
    cases h1 : T.getLsbD i <;> cases h2 : A.getLsbD i <;> simp_all
theorem low_zero : w32 (low 0) = 0 := rfl
set_option maxHeartbeats 8000000 in
set_option maxRecDepth 100000 in
theorem rCheck_any {w : World} {V : Nat → Prop} {x : Img} {S : ImgS} (h : ImgAt w V x S) :
    Calls Try.prog 10 #[.agg #[.int .i64 x.res, .slice S.t.sp x.tasks.length S.t.c, .slice S.m.sp x.modes.length S.m.c, .slice S.e.sp x.edges.length S.e.c]] w fun e w' => e = .returned (.tuple #[.int .i64 (codeAll x).1, .int .i64 (codeAll x).2]) ∧ Below w.heap.size w w' := by
  have HO := Lib.hid (show codeAll x = if inB x.res 0 8 = true then (if (codeT x).2 = 0 then (if (codeM x).2 = 0 then codeE x else codeM x) else codeT x) else (0, 103) from rfl)
  have HT := Lib.hid (show codeT x = if inB (x.tasks.length : Int) 1 16 = true then codeOf (firstNo x.tasks.length (tkOK x)) 100 else ((x.tasks.length : Int), 100) from rfl)
  have HM := Lib.hid (show codeM x = if inB (x.modes.length : Int) 1 8 = true then codeMo x (firstNo x.modes.length (mdOK x)) else ((x.modes.length : Int), 101) from rfl)
  have HE := Lib.hid (show codeE x = if 24 < x.edges.length then ((x.edges.length : Int), 102) else codeOf (firstNo x.edges.length (edgeOK x)) 102 from rfl)
  have HTk := Lib.hid (show ∀ (k : Nat), k < x.tasks.length → ∀ wx, Calls Try.prog 37 #[.agg (taskC (x.t k)).toArray, .int .i64 x.res] wx fun e w' => e = .returned (.bool (tkOK x k)) ∧ Below wx.heap.size wx w' from fun k hk wx => by
    rw [taskC_row (h.tk k hk).2]
    exact r10task_any _ _ _ (fun r => (x.t k).lon.getD r 0) _ wx)
  have HC := Lib.hid (fun (k : Nat) (hk : k < x.tasks.length) (wx : World) (hb : Below w.heap.size w wx) => show At wx S.t.b (S.t.o + k * 11) (taskC (x.t k)) ∧ (taskC (x.t k)).length = 11 from ⟨((h.new hb).tk k hk).1, taskC_len (h.tk k hk).2⟩)
  have HMc := Lib.hid (fun (k : Nat) (hk : k < x.modes.length) (wx : World) (hb : Below w.heap.size w wx) => modeAt (h.new hb) k hk)
  have HQu := Lib.hid (fun (k : Nat) (hk : k < x.modes.length) (wx : World) (hb : Below w.heap.size w wx) => rqueues_any ((h.new hb).qat k hk))
  have HEd := Lib.hid (fun (hq : ∀ m, m < x.modes.length → (x.m m).qs.length ≤ 4) (k : Nat) (hk : k < x.edges.length) (wx : World) (hb : Below w.heap.size w wx) => by
    have h1 := redge_any (h.new hb) k hk
    rw [redge_eq k hk hq] at h1
    exact h1)
  have HMd := Lib.hid (fun (k : Nat) (hk : k < x.modes.length) => show tasksM x (k : Int) = (x.m k).tasks from by unfold tasksM; rw [if_pos ⟨by omega, by omega⟩, Int.toNat_natCast])
  have HMT := Lib.hid (fun (k : Nat) => show mdT x k = ((tasksM x (k : Int) &&& ~~~allI x) == 0#32) from rfl)
  have HMO := Lib.hid (fun (k : Nat) => show mdOK x k = (mdT x k && queuesOK (x.m k).qs) from rfl)
  have HOr := Lib.hid (fun (T : BitVec 32) (hl : x.tasks.length ≤ 32) => mode_or T hl)
  have HSt := Lib.hid (fun (h0 : 0 < x.tasks.length) => (h.st.at_ h0).1)
  have HSm := Lib.hid (fun (h0 : 0 < x.modes.length) => (h.sm.at_ h0).1)
  have hsm := h.sm.sm
  have hst := h.st.sm
  have hse := h.se.sm
  obtain ⟨sT, hsT⟩ : ∃ s, S.t.sp = s := ⟨_, rfl⟩
  obtain ⟨sM, hsM⟩ : ∃ s, S.m.sp = s := ⟨_, rfl⟩
  obtain ⟨sE, hsE⟩ : ∃ s, S.e.sp = s := ⟨_, rfl⟩
  obtain ⟨nT, hnT⟩ : ∃ n, x.tasks.length = n := ⟨_, rfl⟩
  obtain ⟨nM, hnM⟩ : ∃ n, x.modes.length = n := ⟨_, rfl⟩
  obtain ⟨nE, hnE⟩ : ∃ n, x.edges.length = n := ⟨_, rfl⟩
  obtain ⟨res, hres⟩ : ∃ r, x.res = r := ⟨_, rfl⟩
  obtain ⟨v, hv⟩ : ∃ v, codeAll x = v := ⟨_, rfl⟩
  rw [hnT] at HT HTk HC HOr HSt hst
  rw [hnM] at HM HMc HQu HMd HSm hsm HEd
  rw [hnE] at HE HEd hse
  rw [hres, hnT, hsT, hsM, hsE] at HEd
  rw [hres] at HTk HO
  rw [hv] at HO
  rw [hsT] at HSt
  rw [hsM] at HSm
  rw [hnT, hnM, hnE, hv, hsT, hsM, hsE, hres]
  obtain ⟨Z, hZ⟩ : ∃ Z, Z = w.heap.size := ⟨_, rfl⟩
  have HZ := Lib.hid (show ∀ w2, w.alloc (.cells #[.int .i64 res, .slice sT nT S.t.c, .slice sM nM S.m.c, .slice sE nE S.e.c] 26) = w2 → Below w.heap.size w w2 ∧ RowAt w2 Z 26 #[.int .i64 res, .slice sT nT S.t.c, .slice sM nM S.m.c, .slice sE nE S.e.c] from fun w2 hw => by
    rw [← hw, hZ]; exact ⟨(Below.refl _ _).alloc (Nat.le_refl _) _, RowAt.mk _ _ _⟩)
  clear h hnT hnM hnE hv hsT hsM hsE hres
  go_enter Try.func10, Try.ntmps10
  go_upto_region 1 with fail
  rw [← hZ]
  generalize hw2 : World.alloc _ _ = w2
  have HZ2 := Lib.hid (HZ.out w2 hw2)
  clear hw2 hZ HZ
  have c0 : w2.cell? ⟨Z, 0, none⟩ = some (.int .i64 res) := HZ2.out.2.cell 0
  have c1 : w2.cell? ⟨Z, 1, none⟩ = some (.slice sT nT S.t.c) := HZ2.out.2.cell 1
  cases h1 : inB res 0 8
  · have HV := Lib.hid (show v = (0, 103) by rw [HO.out, h1]; rfl)
    go_wp2_with (first | (go_at_call 36; refine (rin_any _ _ _ _).mono ?_; rintro e w' ⟨rfl, rfl⟩) | fail)
    go_ret2
    exact ⟨by rw [HV.out]; rfl, HZ2.out.1⟩
  have HO1 := Lib.hid (show v = _ from HO.out.trans (by rw [h1, if_pos rfl]))
  clear HO
  cases h2 : inB (nT : Int) 1 16
  · have HV := Lib.hid (show v = ((nT : Int), 100) by rw [HO1.out, HT.out, h2]; rfl)
    go_wp2_with (first | (go_at_call 36; refine (rin_any _ _ _ _).mono ?_; rintro e w' ⟨rfl, rfl⟩) | fail)
    go_ret2
    exact ⟨by rw [HV.out]; rfl, HZ2.out.1⟩
  have HT1 := Lib.hid (show codeT x = _ from HT.out.trans (by rw [h2, if_pos rfl]))
  have hnt16 : nT ≤ 16 := by have := (inB_true.1 h2).2; omega
  clear HT
  have hl0 := low_zero
  go_wp2_with (first | (go_at_call 36; refine (rin_any _ _ _ _).mono ?_; rintro e w' ⟨rfl, rfl⟩) | fail)
  clear c0 c1 h1 h2
  go_loopg [4, 5] nT (fun g u v4 wr => ∃ k : Nat, k + g = nT ∧ v4 = .int .i64 (k : Nat) ∧ u = .int .u32 (w32 (low k)) ∧ Aside ((Below w.heap.size w wr ∧ RowAt wr Z 26 #[.int .i64 res, .slice sT nT S.t.c, .slice sM nM S.m.c, .slice sE nE S.e.c]) ∧ ∀ j, j < k → tkOK x j = true))
  case atStart => exact ⟨0, by omega, rfl, rfl, HZ2.out, fun j hj => absurd hj (Nat.not_lt_zero j)⟩
  clear hl0
  case round =>
    obtain ⟨k, hkg, rfl, rfl, HR⟩ := hrel
    cases gk with
    | succ g1 =>
      have hk : k < nT := by omega
      obtain rfl := HSt.out (by omega)
      have hk2 : (k : Int) < (nT : Int) := by omega
      have hk16 : k < 16 := by omega
      have hk17 : (k : Int) < 16 := by omega
      have HCk := Lib.hid (HC.out k hk)
      have HTk1 := Lib.hid (HTk.out k hk)
      have HF := Lib.hid (fun (hb : tkOK x k = false) => show v = ((k : Int), 100) from by rw [HO1.out, HT1.out, firstNo_some hk HR.out.2 hb]; rfl)
      have HY := Lib.hid (fun (hb : tkOK x k = true) => show ∀ j, j < k + 1 → tkOK x j = true from fun j hj => by
        rcases Nat.lt_or_ge j k with h5 | h5
        · exact HR.out.2 j h5
        · obtain rfl : j = k := by omega
          exact hb)
      obtain ⟨cs, hcs⟩ : ∃ c, taskC (x.t k) = c := ⟨_, rfl⟩
      rw [hcs] at HCk HTk1
      obtain ⟨bb, hbb⟩ : ∃ b, tkOK x k = b := ⟨_, rfl⟩
      rw [hbb] at HTk1 HF HY
      have HL := Lib.hid (HCk.out wr HR.out.1.1).2
      have HG := Lib.hid hkg
      clear hcs hbb hkg HC HTk HMc HQu HEd HMd HMT HMO HOr HSt HSm HO1 HM HE HT1
      have c1 : wr.cell? ⟨Z, 1, none⟩ = some (.slice (some ⟨S.t.b, S.t.o, none⟩) nT S.t.c) := HR.out.1.2.cell 1
      go_upto_region 9 with fail
      clear c1
      refine wp_region_held_drew (S := fun w' => Below w.heap.size w w' ∧ RowAt w' Z 26 #[.int .i64 res, .slice (some ⟨S.t.b, S.t.o, none⟩) nT S.t.c, .slice sM nM S.m.c, .slice sE nE S.e.c]) (by kernel_rfl) ⟨below_dn HR.out.1.1 1, HR.out.1.2⟩ (fun hS => ?_)
      refine wpAnyH_take (i := 0) (oi := { dst := some 27, op := .fieldAddr 26 (.tmp 1) 1, type := 0, pos := "ref.go:81", after := #[], guard := none }) (v := ?_) rfl (by kernel_rfl) (by kernel_rfl) (by kernel_rfl) (fun _ _ _ h => h) (Or.inl ⟨by rfl, ?_⟩) hS ?_
      rotate_left 1
      · intro w hw; obtain ⟨s0, s1⟩ := hw; go_simp; try (with_reducible rfl)
      simp only [Act.put, List.setIfInBounds_toArray, List.set_cons_zero, List.set_cons_succ]
      refine wpAnyH_take (i := 1) (oi := { dst := some 28, op := .load 22 (.tmp 27), type := 22, pos := "ref.go:81", after := #[{ on := 0, ground := .data }], guard := none }) (v := ?_) rfl (by kernel_rfl) (by kernel_rfl) (by kernel_rfl) (fun _ _ _ h => h) (Or.inl ⟨by rfl, ?_⟩) hS ?_
      rotate_left 1
      · intro w hw; obtain ⟨s0, s1⟩ := hw; have k0 := s1.cell 1; simp at k0; go_simp; try (with_reducible rfl)
      simp only [Act.put, List.setIfInBounds_toArray, List.set_cons_zero, List.set_cons_succ]
      refine wpAnyH_take (i := 2) (oi := { dst := some 29, op := .move (.tmp 5), type := 3, pos := "ref.go:81", after := #[], guard := none }) (v := ?_) rfl (by kernel_rfl) (by kernel_rfl) (by kernel_rfl) (fun _ _ _ h => h) (Or.inl ⟨by rfl, ?_⟩) hS ?_
      rotate_left 1
      · intro w hw; obtain ⟨s0, s1⟩ := hw; go_simp; try (with_reducible rfl)
      simp only [Act.put, List.setIfInBounds_toArray, List.set_cons_zero, List.set_cons_succ]
      refine wpAnyH_take (i := 3) (oi := { dst := some 30, op := .indexAddr 22 (.tmp 28) (.tmp 29), type := 0, pos := "ref.go:81", after := #[{ on := 1, ground := .data }, { on := 2, ground := .data }], guard := none }) (v := ?_) rfl (by kernel_rfl) (by kernel_rfl) (by kernel_rfl) (fun _ _ _ h => h) (Or.inl ⟨by rfl, ?_⟩) hS ?_
      rotate_left 1
      · intro w hw; obtain ⟨s0, s1⟩ := hw; go_simp; try (with_reducible rfl)
      simp only [Act.put, List.setIfInBounds_toArray, List.set_cons_zero, List.set_cons_succ]
      refine wpAnyH_take (i := 4) (oi := { dst := some 31, op := .load 39 (.tmp 30), type := 39, pos := "ref.go:81", after := #[{ on := 3, ground := .data }], guard := none }) (v := (.agg cs.toArray)) rfl (by kernel_rfl) (by kernel_rfl) (by kernel_rfl) (fun _ _ _ h => h) (Or.inl ⟨by rfl, ?_⟩) hS ?_
      · intro w hw; obtain ⟨s0, s1⟩ := hw; exact exec_load_mid 39 (.tmp 30) (by exact rfl) S.t.b (S.t.o + k * 11) (by exact rfl) cs _ (HCk.out _ s0).1 Try.underlying39 rfl (by rw [HL.out]; kernel_rfl)
      simp only [Act.put, List.setIfInBounds_toArray, List.set_cons_zero, List.set_cons_succ]
      refine wpAnyH_take (i := 5) (oi := { dst := some 32, op := .fieldAddr 26 (.tmp 1) 0, type := 0, pos := "ref.go:81", after := #[], guard := none }) (v := ?_) rfl (by kernel_rfl) (by kernel_rfl) (by kernel_rfl) (fun _ _ _ h => h) (Or.inl ⟨by rfl, ?_⟩) hS ?_
      rotate_left 1
      · intro w hw; obtain ⟨s0, s1⟩ := hw; go_simp; try (with_reducible rfl)
      simp only [Act.put, List.setIfInBounds_toArray, List.set_cons_zero, List.set_cons_succ]
      refine wpAnyH_take (i := 6) (oi := { dst := some 33, op := .load 3 (.tmp 32), type := 3, pos := "ref.go:81", after := #[{ on := 5, ground := .data }], guard := none }) (v := ?_) rfl (by kernel_rfl) (by kernel_rfl) (by kernel_rfl) (fun _ _ _ h => h) (Or.inl ⟨by rfl, ?_⟩) hS ?_
      rotate_left 1
      · intro w hw; obtain ⟨s0, s1⟩ := hw; have k0 := s1.cell 0; simp at k0; go_simp; try (with_reducible rfl)
      simp only [Act.put, List.setIfInBounds_toArray, List.set_cons_zero, List.set_cons_succ]
      refine wpAnyH_ready (rs := [7]) (by kernel_rfl) (by simp) (AllReadyH.cons (o := { dst := some 34, op := .call { callee := .value (.func 37), args := #[.tmp 31, .tmp 33], argTypes := #[39, 3] }, type := 4, pos := "ref.go:81", after := #[{ on := 4, ground := .data }, { on := 6, ground := .data }], guard := none }) rfl (fun K hK => ?_) AllReadyH.nil)
      go_simp
      go_at_call 37
      refine (HTk1.out _).mono ?_
      rintro e w7 ⟨rfl, b7⟩
      have H7 := Lib.hid (show Below w.heap.size w w7 ∧ RowAt w7 Z 26 #[.int .i64 res, .slice (some ⟨S.t.b, S.t.o, none⟩) nT S.t.c, .slice sM nM S.m.c, .slice sE nE S.e.c] from ⟨(below_dn HR.out.1.1 1).trans (b7.mono (below_dn HR.out.1.1 1).size), RowAt.new (w := wr.drew) HR.out.1.2 b7⟩)
      clear b7
      try dsimp only
      refine hK.out _ _ H7.out (fun hHeld => ?_)
      clear hK K
      try simp only [Act.put, List.setIfInBounds_toArray, List.set_cons_zero, List.set_cons_succ]
      refine wpAnyH_ready (rs := [8]) (by kernel_rfl) (by simp) (AllReadyH.cons (o := { dst := some 35, op := .unOp .not 4 (.tmp 34), type := 4, pos := "ref.go:81", after := #[{ on := 7, ground := .data }], guard := none }) rfl (fun K hK => ?_) AllReadyH.nil)
      go_simp
      refine hK.out _ _ H7.out (fun hHeld => ?_)
      clear hK K
      try simp only [Act.put, List.setIfInBounds_toArray, List.set_cons_zero, List.set_cons_succ]
      refine wpAnyH_done (by kernel_rfl) ?_ _

      cases bb with
      | false =>
        have HV := Lib.hid (HF.out rfl)
        go_wp2
        go_ret2
        exact ⟨by rw [HV.out]; rfl, H7.out.1⟩
      | true =>
        have HN := Lib.hid (HY.out rfl)
        have hsh := shl_one k (by omega)
        have hla := low_add k (by omega)
        obtain ⟨L1, hL1⟩ : ∃ l, low (k + 1) = l := ⟨_, rfl⟩
        rw [hL1] at hla
        have HL1 := Lib.hid hL1
        clear hL1
        go_wp2
        go_roundg g1
        case measure => omega
        case rel => exact ⟨k + 1, by have := HG.out; omega, by go_num, by rw [HL1.out], H7.out, HN.out⟩
    | zero =>
      obtain rfl : k = nT := by omega
      have HT2 := Lib.hid (show codeT x = (0, 0) from HT1.out.trans (by rw [firstNo_none HR.out.2]; rfl))
      have HO2 := Lib.hid (show v = _ from HO1.out.trans (by rw [HT2.out, if_pos rfl]))
      have HOr1 := Lib.hid (fun T => HOr.out T (by omega))
      clear HOr HT1 HT2 HO1 HTk HC HSt
      have c1 : wr.cell? ⟨Z, 1, none⟩ = some (.slice sT k S.t.c) := HR.out.1.2.cell 1
      have c2 : wr.cell? ⟨Z, 2, none⟩ = some (.slice sM nM S.m.c) := HR.out.1.2.cell 2
      obtain ⟨lw, hlw⟩ : ∃ l, low k = l := ⟨_, rfl⟩
      rw [hlw] at HOr1 ⊢
      clear hlw
      cases h3 : inB (nM : Int) 1 8
      · have HV := Lib.hid (show v = ((nM : Int), 101) by
          have h5 : codeM x = ((nM : Int), 101) := by rw [HM.out, h3]; rfl
          rw [HO2.out, h5]; rfl)
        go_wp2_with (first | (go_at_call 36; refine (rin_any _ _ _ _).mono ?_; rintro e w' ⟨rfl, rfl⟩) | fail)
        go_ret2
        exact ⟨by rw [HV.out]; rfl, HR.out.1.1⟩
      have HM1 := Lib.hid (show codeM x = _ from HM.out.trans (by rw [h3, if_pos rfl]))
      have hnm8 : nM ≤ 8 := by have := (inB_true.1 h3).2; omega
      clear HM
      go_wp2_with (first | (go_at_call 36; refine (rin_any _ _ _ _).mono ?_; rintro e w' ⟨rfl, rfl⟩) | fail)
      clear c1 c2 h3
      go_loopg [6] nM (fun g u wm => ∃ m : Nat, m + g = nM ∧ u = .int .i64 (m : Nat) ∧ Aside ((Below w.heap.size w wm ∧ RowAt wm Z 26 #[.int .i64 res, .slice sT k S.t.c, .slice sM nM S.m.c, .slice sE nE S.e.c]) ∧ ∀ j, j < m → mdOK x j = true))
      case atStart => exact ⟨0, by omega, rfl, HR.out.1, fun j hj => absurd hj (Nat.not_lt_zero j)⟩
      clear HR
      case round =>
        obtain ⟨m, hmg, rfl, HR⟩ := hrel
        cases gk with
        | succ g1 =>
          have hm : m < nM := by omega
          obtain rfl := HSm.out (by omega)
          have hm2 : (m : Int) < (nM : Int) := by omega
          have hm8 : (m : Int) < 8 := by omega
          have HL := Lib.hid (HMc.out m hm wr HR.out.1.1)
          have m0 : wr.cell? ⟨S.m.b, S.m.o + m * 2, none⟩ = some (.int .u32 (w32 (x.m m).tasks)) := HL.out 0 _ rfl
          have m1 : wr.cell? ⟨S.m.b, S.m.o + m * 2 + 1, none⟩ = some (.slice (S.q m).sp (x.m m).qs.length (S.q m).c) := HL.out 1 _ rfl
          have c2 : wr.cell? ⟨Z, 2, none⟩ = some (.slice (some ⟨S.m.b, S.m.o, none⟩) nM S.m.c) := HR.out.1.2.cell 2
          have hT := HMT.out m
          rw [HMd.out m hm] at hT
          have hor1 := HOr1.out (x.m m).tasks
          rw [← hT] at hor1
          have HQm := Lib.hid (HQu.out m hm wr HR.out.1.1)
          have hMo := HMO.out m
          obtain ⟨T, hTT⟩ : ∃ T, (x.m m).tasks = T := ⟨_, rfl⟩
          obtain ⟨qs, hqs⟩ : ∃ T, (x.m m).qs = T := ⟨_, rfl⟩
          obtain ⟨q1, hq1⟩ : ∃ T, queuesOK qs = T := ⟨_, rfl⟩
          rw [hTT] at m0 hor1
          rw [hqs] at m1 HQm hMo
          rw [hq1] at HQm hMo
          obtain ⟨nq, hnq⟩ : ∃ T, qs.length = T := ⟨_, rfl⟩
          rw [hnq] at m1 HQm
          have HMo := Lib.hid hMo
          obtain ⟨b1, hb1⟩ : ∃ b, mdT x m = b := ⟨_, rfl⟩
          have HB1 := Lib.hid hb1
          rw [hb1] at hor1
          have hor2 := or32 T lw
          have HF := Lib.hid (fun (hb : mdOK x m = false) => show v = ((m : Int), if b1 = true then (104 : Int) else 101) from by
            have h6 : codeM x = ((m : Int), if b1 = true then (104 : Int) else 101) := by rw [HM1.out, firstNo_some hm HR.out.2 hb, ← HB1.out]; rfl
            rw [HO2.out, h6]
            rcases b1 with _ | _ <;> rfl)
          have HY := Lib.hid (fun (hb : mdOK x m = true) => show ∀ j, j < m + 1 → mdOK x j = true from fun j hj => by
            rcases Nat.lt_or_ge j m with h5 | h5
            · exact HR.out.2 j h5
            · obtain rfl : j = m := by omega
              exact hb)
          have HG := Lib.hid hmg
          clear hT hTT hqs hq1 hnq hMo hb1 hmg HMc HMd HMT HMO HQu HSm HM1 HO2 HOr1 HEd HE HL
          generalize T ||| lw = TL at hor1 hor2
          cases b1 with
          | false =>
            have HV := Lib.hid (HF.out (by rw [HMo.out, HB1.out]; rfl))
            have hor3 : (w32 TL != w32 lw) = true := hor1
            clear hor1
            go_wp2
            go_ret2
            exact ⟨by rw [HV.out]; rfl, HR.out.1.1⟩
          | true =>
            have hor3 : (w32 TL != w32 lw) = false := hor1
            clear hor1
            cases q1 with
            | false =>
              have HV := Lib.hid (HF.out (by rw [HMo.out, HB1.out]; rfl))
              go_wp2_with (go_at_call 38; refine HQm.out.mono ?_; rintro e w' ⟨rfl, rfl⟩)
              go_ret2
              exact ⟨by rw [HV.out]; rfl, HR.out.1.1⟩
            | true =>
              have HN := Lib.hid (HY.out (by rw [HMo.out, HB1.out]; rfl))
              go_wp2_with (go_at_call 38; refine HQm.out.mono ?_; rintro e w' ⟨rfl, rfl⟩)
              go_roundg g1
              case measure => omega
              case rel => exact ⟨m + 1, by have := HG.out; omega, by go_num, HR.out.1, HN.out⟩
        | zero =>
          obtain rfl : m = nM := by omega
          have HM2 := Lib.hid (show codeM x = (0, 0) from HM1.out.trans (by rw [firstNo_none HR.out.2]; rfl))
          have HO3 := Lib.hid (show v = codeE x from HO2.out.trans (by rw [HM2.out, if_pos rfl]))
          have HEd1 := Lib.hid (HEd.out (fun j hj => by
            have h6 := HR.out.2 j hj
            rw [HMO.out, Bool.and_eq_true] at h6
            have h7 := h6.2
            unfold queuesOK at h7
            rw [Bool.and_eq_true, decide_eq_true_iff] at h7
            exact h7.1))
          clear HM1 HM2 HO2 HEd HMc HMd HMT HMO HQu HSm HOr1
          have c2 : wr.cell? ⟨Z, 2, none⟩ = some (.slice sM m S.m.c) := HR.out.1.2.cell 2
          have c3 : wr.cell? ⟨Z, 3, none⟩ = some (.slice sE nE S.e.c) := HR.out.1.2.cell 3
          by_cases h4 : 24 < nE
          · have HV := Lib.hid (show v = ((nE : Int), 102) by rw [HO3.out, HE.out, if_pos h4])
            have h4' : (24 : Int) < (nE : Int) := by omega
            clear h4
            go_wp2
            go_ret2
            exact ⟨by rw [HV.out]; rfl, HR.out.1.1⟩
          have HE1 := Lib.hid (show codeE x = _ from HE.out.trans (if_neg h4))
          have h4' : ¬ (24 : Int) < (nE : Int) := by omega
          clear h4
          go_wp2
          clear c2 c3
          go_loopg [7] nE (fun g u wm => ∃ i : Nat, i + g = nE ∧ u = .int .i64 (i : Nat) ∧ Aside ((Below w.heap.size w wm ∧ RowAt wm Z 26 #[.int .i64 res, .slice sT k S.t.c, .slice sM m S.m.c, .slice sE nE S.e.c]) ∧ ∀ j, j < i → edgeOK x j = true))
          case atStart => exact ⟨0, by omega, rfl, HR.out.1, fun j hj => absurd hj (Nat.not_lt_zero j)⟩
          clear HR
          case round =>
            obtain ⟨i, hig, rfl, HR⟩ := hrel
            have c3 : wr.cell? ⟨Z, 3, none⟩ = some (.slice sE nE S.e.c) := HR.out.1.2.cell 3
            cases gk with
            | succ g1 =>
              have hi : i < nE := by omega
              have hi2 : (i : Int) < (nE : Int) := by omega
              have HEi := Lib.hid (HEd1.out i hi wr HR.out.1.1)
              have HF := Lib.hid (fun (hb : edgeOK x i = false) => show v = ((i : Int), 102) from by rw [HO3.out, HE1.out, firstNo_some hi HR.out.2 hb]; rfl)
              have HY := Lib.hid (fun (hb : edgeOK x i = true) => show ∀ j, j < i + 1 → edgeOK x j = true from fun j hj => by
                rcases Nat.lt_or_ge j i with h5 | h5
                · exact HR.out.2 j h5
                · obtain rfl : j = i := by omega
                  exact hb)
              have HG := Lib.hid hig
              obtain ⟨bb, hbb⟩ : ∃ b, edgeOK x i = b := ⟨_, rfl⟩
              rw [hbb] at HEi HF HY
              clear hbb hig HEd1 HO3 HE1
              have HCALL := Lib.hid (show RowAt wr Z 26 #[.int .i64 res, .slice sT k S.t.c, .slice sM m S.m.c, .slice sE nE S.e.c] from HR.out.1.2)
              cases bb with
              | false =>
                have HV := Lib.hid (HF.out rfl)
                go_wp2_with (first
                  | (refine wpList_load_row rfl 26 (.tmp 1) rfl Z rfl 26 #[.int .i64 res, .slice sT k S.t.c, .slice sM m S.m.c, .slice sE nE S.e.c] (0, 0) _ HCALL.out Try.underlying26 rfl (by kernel_rfl) ?_)
                  | (go_at_call 39; refine HEi.out.mono ?_; rintro e w7 ⟨rfl, b7⟩; have H7 := Lib.hid (HR.out.1.1.trans (b7.mono HR.out.1.1.size)); clear b7 c3)
                  | fail)
                go_ret2
                exact ⟨by rw [HV.out]; rfl, H7.out⟩
              | true =>
                have HN := Lib.hid (HY.out rfl)
                go_wp2_with (first
                  | (refine wpList_load_row rfl 26 (.tmp 1) rfl Z rfl 26 #[.int .i64 res, .slice sT k S.t.c, .slice sM m S.m.c, .slice sE nE S.e.c] (0, 0) _ HCALL.out Try.underlying26 rfl (by kernel_rfl) ?_)
                  | (go_at_call 39; refine HEi.out.mono ?_; rintro e w7 ⟨rfl, b7⟩; have H7 := Lib.hid (And.intro (HR.out.1.1.trans (b7.mono HR.out.1.1.size)) (HR.out.1.2.new b7)); clear b7 c3)
                  | fail)
                go_roundg g1
                case measure => omega
                case rel => exact ⟨i + 1, by have := HG.out; omega, by go_num, H7.out, HN.out⟩
            | zero =>
              obtain rfl : i = nE := by omega
              have HV := Lib.hid (show v = (0, 0) by rw [HO3.out, HE1.out, firstNo_none HR.out.2]; rfl)
              go_wp2
              go_ret2
              exact ⟨by rw [HV.out]; rfl, HR.out.1.1⟩
end Go.Proofs.Ytandehdgpbflmaa
