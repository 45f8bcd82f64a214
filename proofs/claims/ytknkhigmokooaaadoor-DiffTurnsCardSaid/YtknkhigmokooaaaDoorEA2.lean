/- The contracts of diff's hold of tasks and of edges. -/
import Derived.Test.YtknkhigmokooaaaDoorEA
import Derived.Test.YtknkhigmokooaaaDoorJH
namespace Go.Proofs.YtknkhigmokooaaaDoor
open Go.RowKit

theorem eql_task {s t : TaskM} (hs : s.lon.length = 8) (ht : t.lon.length = 8) (w : World) : (Go.binOp .eql 50 (.agg (taskC s).toArray) (.agg (taskC t).toArray)).run Tryd.prog w = .ok (.bool (tEq s t)) w := by
  have h : (Op.equal 50 (.agg (taskC s).toArray) (.agg (taskC t).toArray)).run Tryd.prog w = .ok (tEq s t) w := eqIn_task 9997 hs ht w
  simp [Go.binOp, h]
theorem eql_edge {s t : EdgeM} (hs : s.offs.length = 16) (hs2 : s.map.length = 4) (ht : t.offs.length = 16) (ht2 : t.map.length = 4) (w : World) : (Go.binOp .eql 104 (.agg (edgeC s).toArray) (.agg (edgeC t).toArray)).run Tryd.prog w = .ok (.bool (eEq s t)) w := by
  have h : (Op.equal 104 (.agg (edgeC s).toArray) (.agg (edgeC t).toArray)).run Tryd.prog w = .ok (eEq s t) w := eqIn_edge 9997 hs hs2 ht ht2 w
  simp [Go.binOp, h]
set_option maxHeartbeats 2000000 in
set_option maxRecDepth 100000 in
theorem dfHoldT_any {w : World} (kind : Int) (k na nb cpa cpb : Nat) (spa spb : Option Addr) (va vb : TaskM) (ba oa bb ob : Nat) (_hka : k ≤ 1000) (_hna : na ≤ 1000) (_hnb : nb ≤ 1000)
    (ha : k < na → spa = some ⟨ba, oa, none⟩ ∧ ba < w.heap.size ∧ At w ba (oa + k * 11) (taskC va) ∧ va.lon.length = 8) (hb : k < nb → spb = some ⟨bb, ob, none⟩ ∧ bb < w.heap.size ∧ At w bb (ob + k * 11) (taskC vb) ∧ vb.lon.length = 8) :
    Calls Tryd.prog 55 #[.int .i64 kind, .int .i64 (k : Nat), .slice spa na cpa, .slice spb nb cpb] w fun e w' => e = .returned (holdV kind k na nb (tEq va vb)) ∧ Below w.heap.size w w' := by
  have HB := Lib.hid (show ∀ a b : Obj, Below w.heap.size w ((w.alloc a).alloc b) from fun a b => ((Below.refl _ _).alloc (Nat.le_refl _) _).alloc (by simp) _)
  obtain ⟨hv, hhv⟩ : ∃ v, holdV kind k na nb (tEq va vb) = v := ⟨_, rfl⟩
  have HVV := Lib.hid hhv
  rw [hhv]
  clear hhv
  by_cases h1 : k < na
  · have e1 : (k : Int) < (na : Int) := by omega
    by_cases h2 : k < nb
    · obtain ⟨rfl, hlta, qa, la⟩ := ha h1
      obtain ⟨rfl, hltb, qb, lb⟩ := hb h2
      have e2 : (k : Int) < (nb : Int) := by omega
      have hEQ := fun wx => eql_task la lb wx
      have hgd : Tryd.prog.eqGuardType Tryd.prog.depth 50 = false := by kernel_rfl
      have HL := Lib.hid (And.intro (taskC_len la) (taskC_len lb))
      have HT := Lib.hid (show (tEq va vb) = true → hv = .tuple #[.agg #[.int .i64 0, .int .i64 0, .bool false, .bool false], .bool false] from fun h => by rw [← HVV.out, h]; exact holdV_yes h1 h2)
      have HFf := Lib.hid (show (tEq va vb) = false → hv = .tuple #[.agg #[.int .i64 kind, .int .i64 (k : Nat), .bool true, .bool true], .bool true] from fun h => by rw [← HVV.out, holdV_no (by rw [h]; simp), decide_eq_true h1, decide_eq_true h2])
      obtain ⟨ca, hca⟩ : ∃ c, taskC va = c := ⟨_, rfl⟩
      obtain ⟨cb, hcb⟩ : ∃ c, taskC vb = c := ⟨_, rfl⟩
      obtain ⟨eqb, heq⟩ : ∃ c, tEq va vb = c := ⟨_, rfl⟩
      rw [hca] at qa HL hEQ
      rw [hcb] at qb HL hEQ
      rw [heq] at hEQ HT HFf
      have HA := Lib.hid (And.intro hlta qa)
      have HBB := Lib.hid (And.intro hltb qb)
      clear ha hb h1 h2 qa qb hlta hltb la lb hca hcb heq HVV
      cases eqb with
      | true =>
        have HV := Lib.hid (HT.out rfl)
        clear HT HFf
        go_enter Tryd.func55, Tryd.ntmps55
        go_upto_region 2 with fail
        obtain ⟨Z, hZ⟩ : ∃ Z, Z = w.heap.size := ⟨_, rfl⟩
        generalize hw2 : World.alloc (World.alloc w _) _ = w2
        have H2 := Lib.hid (show Below w.heap.size w w2 ∧ RowAt w2 Z 57 #[.int .i64 0, .int .i64 0, .bool false, .bool false] ∧ RowAt w2 (Z + 1) 57 #[.int .i64 kind, .int .i64 (k : Nat), .bool true, .bool true] by
          rw [← hw2, hZ]
          exact ⟨HB.out _ _, (RowAt.mk _ _ _).new ((Below.refl _ _).alloc (Nat.le_refl _) _), by have := RowAt.mk (w.alloc (.cells #[.int .i64 0, .int .i64 0, .bool false, .bool false] 57)) 57 #[.int .i64 kind, .int .i64 (k : Nat), .bool true, .bool true]; rwa [World.size_alloc] at this⟩)
        rw [← hZ]
        have HZ := Lib.hid hZ
        clear hw2 hZ
        have r2 : w2.cell? ⟨Z + 1, 2, none⟩ = some (.bool true) := H2.out.2.2.cell 2
        have r3 : w2.cell? ⟨Z + 1, 3, none⟩ = some (.bool true) := H2.out.2.2.cell 3
        clear r2 r3
        refine wp_region_held_drew (S := fun w' => At w' ba (oa + k * 11) ca ∧ At w' bb (ob + k * 11) cb ∧ RowAt w' (Z + 1) 57 #[.int .i64 kind, .int .i64 (k : Nat), .bool true, .bool true]) (by kernel_rfl) ⟨fun j u hu => (H2.out.1.cell HA.out.1).trans (HA.out.2 j u hu), fun j u hu => (H2.out.1.cell HBB.out.1).trans (HBB.out.2 j u hu), H2.out.2.2⟩ (fun hS => ?_)
        refine wpAnyH_take (i := 0) (oi := { dst := some 22, op := .fieldAddr 57 (.tmp 10) 2, type := 0, pos := "diff.go:35", after := #[], guard := none }) (v := ?_) rfl (by kernel_rfl) (by kernel_rfl) (by kernel_rfl) (fun _ _ _ h => h) (Or.inl ⟨by rfl, ?_⟩) hS ?_
        rotate_left 1
        · intro w hw; obtain ⟨s0, s1, s2⟩ := hw; go_simp; try (with_reducible rfl)
        simp only [Act.put, List.setIfInBounds_toArray, List.set_cons_zero, List.set_cons_succ]
        refine wpAnyH_take (i := 1) (oi := { dst := some 23, op := .load 4 (.tmp 22), type := 4, pos := "diff.go:35", after := #[{ on := 0, ground := .data }], guard := none }) (v := ?_) rfl (by kernel_rfl) (by kernel_rfl) (by kernel_rfl) (fun _ _ _ h => h) (Or.inl ⟨by rfl, ?_⟩) hS ?_
        rotate_left 1
        · intro w hw; obtain ⟨s0, s1, s2⟩ := hw; have k2 := s2.cell 2; have k3 := s2.cell 3; simp at k2 k3; go_simp; try (with_reducible rfl)
        simp only [Act.put, List.setIfInBounds_toArray, List.set_cons_zero, List.set_cons_succ]
        refine wpAnyH_take (i := 2) (oi := { dst := some 24, op := .move (.tmp 23), type := 4, pos := "diff.go:35", after := #[{ on := 1, ground := .data }], guard := none }) (v := ?_) rfl (by kernel_rfl) (by kernel_rfl) (by kernel_rfl) (fun _ _ _ h => h) (Or.inl ⟨by rfl, ?_⟩) hS ?_
        rotate_left 1
        · intro w hw; obtain ⟨s0, s1, s2⟩ := hw; go_simp; try (with_reducible rfl)
        simp only [Act.put, List.setIfInBounds_toArray, List.set_cons_zero, List.set_cons_succ]
        refine wpAnyH_take (i := 3) (oi := { dst := some 25, op := .fieldAddr 57 (.tmp 10) 3, type := 0, pos := "diff.go:35", after := #[{ on := 2, ground := .guard }], guard := some (2, true) }) (v := ?_) rfl (by kernel_rfl) (by kernel_rfl) (by kernel_rfl) (fun _ _ _ h => h) (Or.inl ⟨by rfl, ?_⟩) hS ?_
        rotate_left 1
        · intro w hw; obtain ⟨s0, s1, s2⟩ := hw; go_simp; try (with_reducible rfl)
        simp only [Act.put, List.setIfInBounds_toArray, List.set_cons_zero, List.set_cons_succ]
        refine wpAnyH_take (i := 4) (oi := { dst := some 26, op := .load 4 (.tmp 25), type := 4, pos := "diff.go:35", after := #[{ on := 3, ground := .data }, { on := 2, ground := .guard }], guard := some (2, true) }) (v := ?_) rfl (by kernel_rfl) (by kernel_rfl) (by kernel_rfl) (fun _ _ _ h => h) (Or.inl ⟨by rfl, ?_⟩) hS ?_
        rotate_left 1
        · intro w hw; obtain ⟨s0, s1, s2⟩ := hw; have k2 := s2.cell 2; have k3 := s2.cell 3; simp at k2 k3; go_simp; try (with_reducible rfl)
        simp only [Act.put, List.setIfInBounds_toArray, List.set_cons_zero, List.set_cons_succ]
        refine wpAnyH_take (i := 5) (oi := { dst := some 27, op := .pick (.tmp 24) (.tmp 26) (.const (.bool false)), type := 4, pos := "diff.go:35", after := #[{ on := 2, ground := .data }, { on := 4, ground := .data }], guard := none }) (v := ?_) rfl (by kernel_rfl) (by kernel_rfl) (by kernel_rfl) (fun _ _ _ h => h) (Or.inl ⟨by rfl, ?_⟩) hS ?_
        rotate_left 1
        · intro w hw; obtain ⟨s0, s1, s2⟩ := hw; go_simp; try (with_reducible rfl)
        simp only [Act.put, List.setIfInBounds_toArray, List.set_cons_zero, List.set_cons_succ]
        refine wpAnyH_take (i := 6) (oi := { dst := some 28, op := .move (.tmp 27), type := 4, pos := "diff.go:35", after := #[{ on := 5, ground := .data }, { on := 2, ground := .chain }], guard := none }) (v := ?_) rfl (by kernel_rfl) (by kernel_rfl) (by kernel_rfl) (fun _ _ _ h => h) (Or.inl ⟨by rfl, ?_⟩) hS ?_
        rotate_left 1
        · intro w hw; obtain ⟨s0, s1, s2⟩ := hw; go_simp; try (with_reducible rfl)
        simp only [Act.put, List.setIfInBounds_toArray, List.set_cons_zero, List.set_cons_succ]
        refine wpAnyH_take (i := 7) (oi := { dst := some 29, op := .move (.tmp 2), type := 22, pos := "diff.go:35", after := #[{ on := 6, ground := .guard }], guard := some (6, true) }) (v := ?_) rfl (by kernel_rfl) (by kernel_rfl) (by kernel_rfl) (fun _ _ _ h => h) (Or.inl ⟨by rfl, ?_⟩) hS ?_
        rotate_left 1
        · intro w hw; obtain ⟨s0, s1, s2⟩ := hw; go_simp; try (with_reducible rfl)
        simp only [Act.put, List.setIfInBounds_toArray, List.set_cons_zero, List.set_cons_succ]
        refine wpAnyH_take (i := 8) (oi := { dst := some 30, op := .move (.tmp 1), type := 3, pos := "diff.go:35", after := #[{ on := 6, ground := .guard }], guard := some (6, true) }) (v := ?_) rfl (by kernel_rfl) (by kernel_rfl) (by kernel_rfl) (fun _ _ _ h => h) (Or.inl ⟨by rfl, ?_⟩) hS ?_
        rotate_left 1
        · intro w hw; obtain ⟨s0, s1, s2⟩ := hw; go_simp; try (with_reducible rfl)
        simp only [Act.put, List.setIfInBounds_toArray, List.set_cons_zero, List.set_cons_succ]
        refine wpAnyH_take (i := 9) (oi := { dst := some 31, op := .indexAddr 22 (.tmp 29) (.tmp 30), type := 0, pos := "diff.go:35", after := #[{ on := 7, ground := .data }, { on := 8, ground := .data }, { on := 6, ground := .guard }], guard := some (6, true) }) (v := ?_) rfl (by kernel_rfl) (by kernel_rfl) (by kernel_rfl) (fun _ _ _ h => h) (Or.inl ⟨by rfl, ?_⟩) hS ?_
        rotate_left 1
        · intro w hw; obtain ⟨s0, s1, s2⟩ := hw; go_simp; try (with_reducible rfl)
        simp only [Act.put, List.setIfInBounds_toArray, List.set_cons_zero, List.set_cons_succ]
        refine wpAnyH_take (i := 10) (oi := { dst := some 32, op := .load 50 (.tmp 31), type := 50, pos := "diff.go:35", after := #[{ on := 9, ground := .data }, { on := 6, ground := .guard }], guard := some (6, true) }) (v := (.agg ca.toArray)) rfl (by kernel_rfl) (by kernel_rfl) (by kernel_rfl) (fun _ _ _ h => h) (Or.inl ⟨by rfl, ?_⟩) hS ?_
        · intro w hw; obtain ⟨s0, s1, s2⟩ := hw; exact exec_load_mid 50 (.tmp 31) (by exact rfl) ba (oa + k * 11) (by exact rfl) ca _ s0 Tryd.underlying50 rfl (by rw [HL.out.1]; kernel_rfl)
        simp only [Act.put, List.setIfInBounds_toArray, List.set_cons_zero, List.set_cons_succ]
        refine wpAnyH_take (i := 11) (oi := { dst := some 33, op := .move (.tmp 3), type := 22, pos := "diff.go:35", after := #[{ on := 6, ground := .guard }], guard := some (6, true) }) (v := ?_) rfl (by kernel_rfl) (by kernel_rfl) (by kernel_rfl) (fun _ _ _ h => h) (Or.inl ⟨by rfl, ?_⟩) hS ?_
        rotate_left 1
        · intro w hw; obtain ⟨s0, s1, s2⟩ := hw; go_simp; try (with_reducible rfl)
        simp only [Act.put, List.setIfInBounds_toArray, List.set_cons_zero, List.set_cons_succ]
        refine wpAnyH_take (i := 12) (oi := { dst := some 34, op := .move (.tmp 1), type := 3, pos := "diff.go:35", after := #[{ on := 6, ground := .guard }], guard := some (6, true) }) (v := ?_) rfl (by kernel_rfl) (by kernel_rfl) (by kernel_rfl) (fun _ _ _ h => h) (Or.inl ⟨by rfl, ?_⟩) hS ?_
        rotate_left 1
        · intro w hw; obtain ⟨s0, s1, s2⟩ := hw; go_simp; try (with_reducible rfl)
        simp only [Act.put, List.setIfInBounds_toArray, List.set_cons_zero, List.set_cons_succ]
        refine wpAnyH_take (i := 13) (oi := { dst := some 35, op := .indexAddr 22 (.tmp 33) (.tmp 34), type := 0, pos := "diff.go:35", after := #[{ on := 11, ground := .data }, { on := 12, ground := .data }, { on := 6, ground := .guard }], guard := some (6, true) }) (v := ?_) rfl (by kernel_rfl) (by kernel_rfl) (by kernel_rfl) (fun _ _ _ h => h) (Or.inl ⟨by rfl, ?_⟩) hS ?_
        rotate_left 1
        · intro w hw; obtain ⟨s0, s1, s2⟩ := hw; go_simp; try (with_reducible rfl)
        simp only [Act.put, List.setIfInBounds_toArray, List.set_cons_zero, List.set_cons_succ]
        refine wpAnyH_take (i := 14) (oi := { dst := some 36, op := .load 50 (.tmp 35), type := 50, pos := "diff.go:35", after := #[{ on := 13, ground := .data }, { on := 6, ground := .guard }], guard := some (6, true) }) (v := (.agg cb.toArray)) rfl (by kernel_rfl) (by kernel_rfl) (by kernel_rfl) (fun _ _ _ h => h) (Or.inl ⟨by rfl, ?_⟩) hS ?_
        · intro w hw; obtain ⟨s0, s1, s2⟩ := hw; exact exec_load_mid 50 (.tmp 35) (by exact rfl) bb (ob + k * 11) (by exact rfl) cb _ s1 Tryd.underlying50 rfl (by rw [HL.out.2]; kernel_rfl)
        simp only [Act.put, List.setIfInBounds_toArray, List.set_cons_zero, List.set_cons_succ]
        refine wpAnyH_take (i := 15) (oi := { dst := some 37, op := .binOp .eql 50 (.tmp 32) (.tmp 36) 50, type := 4, pos := "diff.go:35", after := #[{ on := 10, ground := .data }, { on := 14, ground := .data }, { on := 6, ground := .guard }], guard := some (6, true) }) (v := (.bool true)) rfl (by kernel_rfl) (by kernel_rfl) (by kernel_rfl) (fun _ _ _ h => h) (Or.inl ⟨by rfl, ?_⟩) hS ?_
        · intro w hw; obtain ⟨s0, s1, s2⟩ := hw; go_simp; try (with_reducible rfl)
        simp only [Act.put, List.setIfInBounds_toArray, List.set_cons_zero, List.set_cons_succ]
        refine wpAnyH_take (i := 16) (oi := { dst := some 38, op := .pick (.tmp 28) (.tmp 37) (.const (.bool false)), type := 4, pos := "diff.go:35", after := #[{ on := 6, ground := .data }, { on := 15, ground := .data }], guard := none }) (v := ?_) rfl (by kernel_rfl) (by kernel_rfl) (by kernel_rfl) (fun _ _ _ h => h) (Or.inl ⟨by rfl, ?_⟩) hS ?_
        rotate_left 1
        · intro w hw; obtain ⟨s0, s1, s2⟩ := hw; go_simp; try (with_reducible rfl)
        simp only [Act.put, List.setIfInBounds_toArray, List.set_cons_zero, List.set_cons_succ]
        refine wpAnyH_done (by kernel_rfl) ?_ _

        have H3 := Lib.hid (show Below w.heap.size w w2.drew ∧ RowAt w2.drew Z 57 #[.int .i64 0, .int .i64 0, .bool false, .bool false] ∧ RowAt w2.drew (Z + 1) 57 #[.int .i64 kind, .int .i64 (k : Nat), .bool true, .bool true] from ⟨below_dn H2.out.1 1, H2.out.2⟩)
        obtain ⟨w3, hw3⟩ : ∃ w3, w2.drew = w3 := ⟨_, rfl⟩
        rw [hw3] at H3 ⊢
        clear hw3 hS
        go_wp2_with (first
          | (refine wpList_store_row rfl 57 (.tmp 8) (.tmp 39) rfl Z #[.int .i64 0, .int .i64 0, .bool false, .bool false] rfl rfl 57 _ H3.out.2.1 (by kernel_rfl) rfl (by simp [Value.oneCell']) ?_)
          | fail)
        generalize hw4 : World.setRow w3 _ _ = w4
        have H4 := Lib.hid (show Below w.heap.size w w4 ∧ RowAt w4 Z 57 #[.int .i64 0, .int .i64 0, .bool false, .bool false] by
          rw [← hw4]; exact ⟨below_row H3.out.1 (Nat.le_refl _) (by have := HZ.out; omega) _, H3.out.2.1.put⟩)
        clear hw4 H3
        have x0 : w4.cell? ⟨Z, 0, none⟩ = some (.int .i64 0) := H4.out.2.cell 0
        have x1 : w4.cell? ⟨Z, 1, none⟩ = some (.int .i64 0) := H4.out.2.cell 1
        have x2 : w4.cell? ⟨Z, 2, none⟩ = some (.bool false) := H4.out.2.cell 2
        have x3 : w4.cell? ⟨Z, 3, none⟩ = some (.bool false) := H4.out.2.cell 3
        refine bodyPost_ret (v := .tuple #[.agg #[.int .i64 0, .int .i64 0, .bool false, .bool false], .bool false]) (by simp [results, Tryd.results55, go_sem, x0, x1, x2, x3]) rfl ?_
        exact ⟨by rw [HV.out], H4.out.1⟩
      | false =>
        have HV := Lib.hid (HFf.out rfl)
        clear HT HFf
        go_enter Tryd.func55, Tryd.ntmps55
        go_upto_region 2 with fail
        obtain ⟨Z, hZ⟩ : ∃ Z, Z = w.heap.size := ⟨_, rfl⟩
        generalize hw2 : World.alloc (World.alloc w _) _ = w2
        have H2 := Lib.hid (show Below w.heap.size w w2 ∧ RowAt w2 Z 57 #[.int .i64 0, .int .i64 0, .bool false, .bool false] ∧ RowAt w2 (Z + 1) 57 #[.int .i64 kind, .int .i64 (k : Nat), .bool true, .bool true] by
          rw [← hw2, hZ]
          exact ⟨HB.out _ _, (RowAt.mk _ _ _).new ((Below.refl _ _).alloc (Nat.le_refl _) _), by have := RowAt.mk (w.alloc (.cells #[.int .i64 0, .int .i64 0, .bool false, .bool false] 57)) 57 #[.int .i64 kind, .int .i64 (k : Nat), .bool true, .bool true]; rwa [World.size_alloc] at this⟩)
        rw [← hZ]
        have HZ := Lib.hid hZ
        clear hw2 hZ
        have r2 : w2.cell? ⟨Z + 1, 2, none⟩ = some (.bool true) := H2.out.2.2.cell 2
        have r3 : w2.cell? ⟨Z + 1, 3, none⟩ = some (.bool true) := H2.out.2.2.cell 3
        clear r2 r3
        refine wp_region_held_drew (S := fun w' => At w' ba (oa + k * 11) ca ∧ At w' bb (ob + k * 11) cb ∧ RowAt w' (Z + 1) 57 #[.int .i64 kind, .int .i64 (k : Nat), .bool true, .bool true]) (by kernel_rfl) ⟨fun j u hu => (H2.out.1.cell HA.out.1).trans (HA.out.2 j u hu), fun j u hu => (H2.out.1.cell HBB.out.1).trans (HBB.out.2 j u hu), H2.out.2.2⟩ (fun hS => ?_)
        refine wpAnyH_take (i := 0) (oi := { dst := some 22, op := .fieldAddr 57 (.tmp 10) 2, type := 0, pos := "diff.go:35", after := #[], guard := none }) (v := ?_) rfl (by kernel_rfl) (by kernel_rfl) (by kernel_rfl) (fun _ _ _ h => h) (Or.inl ⟨by rfl, ?_⟩) hS ?_
        rotate_left 1
        · intro w hw; obtain ⟨s0, s1, s2⟩ := hw; go_simp; try (with_reducible rfl)
        simp only [Act.put, List.setIfInBounds_toArray, List.set_cons_zero, List.set_cons_succ]
        refine wpAnyH_take (i := 1) (oi := { dst := some 23, op := .load 4 (.tmp 22), type := 4, pos := "diff.go:35", after := #[{ on := 0, ground := .data }], guard := none }) (v := ?_) rfl (by kernel_rfl) (by kernel_rfl) (by kernel_rfl) (fun _ _ _ h => h) (Or.inl ⟨by rfl, ?_⟩) hS ?_
        rotate_left 1
        · intro w hw; obtain ⟨s0, s1, s2⟩ := hw; have k2 := s2.cell 2; have k3 := s2.cell 3; simp at k2 k3; go_simp; try (with_reducible rfl)
        simp only [Act.put, List.setIfInBounds_toArray, List.set_cons_zero, List.set_cons_succ]
        refine wpAnyH_take (i := 2) (oi := { dst := some 24, op := .move (.tmp 23), type := 4, pos := "diff.go:35", after := #[{ on := 1, ground := .data }], guard := none }) (v := ?_) rfl (by kernel_rfl) (by kernel_rfl) (by kernel_rfl) (fun _ _ _ h => h) (Or.inl ⟨by rfl, ?_⟩) hS ?_
        rotate_left 1
        · intro w hw; obtain ⟨s0, s1, s2⟩ := hw; go_simp; try (with_reducible rfl)
        simp only [Act.put, List.setIfInBounds_toArray, List.set_cons_zero, List.set_cons_succ]
        refine wpAnyH_take (i := 3) (oi := { dst := some 25, op := .fieldAddr 57 (.tmp 10) 3, type := 0, pos := "diff.go:35", after := #[{ on := 2, ground := .guard }], guard := some (2, true) }) (v := ?_) rfl (by kernel_rfl) (by kernel_rfl) (by kernel_rfl) (fun _ _ _ h => h) (Or.inl ⟨by rfl, ?_⟩) hS ?_
        rotate_left 1
        · intro w hw; obtain ⟨s0, s1, s2⟩ := hw; go_simp; try (with_reducible rfl)
        simp only [Act.put, List.setIfInBounds_toArray, List.set_cons_zero, List.set_cons_succ]
        refine wpAnyH_take (i := 4) (oi := { dst := some 26, op := .load 4 (.tmp 25), type := 4, pos := "diff.go:35", after := #[{ on := 3, ground := .data }, { on := 2, ground := .guard }], guard := some (2, true) }) (v := ?_) rfl (by kernel_rfl) (by kernel_rfl) (by kernel_rfl) (fun _ _ _ h => h) (Or.inl ⟨by rfl, ?_⟩) hS ?_
        rotate_left 1
        · intro w hw; obtain ⟨s0, s1, s2⟩ := hw; have k2 := s2.cell 2; have k3 := s2.cell 3; simp at k2 k3; go_simp; try (with_reducible rfl)
        simp only [Act.put, List.setIfInBounds_toArray, List.set_cons_zero, List.set_cons_succ]
        refine wpAnyH_take (i := 5) (oi := { dst := some 27, op := .pick (.tmp 24) (.tmp 26) (.const (.bool false)), type := 4, pos := "diff.go:35", after := #[{ on := 2, ground := .data }, { on := 4, ground := .data }], guard := none }) (v := ?_) rfl (by kernel_rfl) (by kernel_rfl) (by kernel_rfl) (fun _ _ _ h => h) (Or.inl ⟨by rfl, ?_⟩) hS ?_
        rotate_left 1
        · intro w hw; obtain ⟨s0, s1, s2⟩ := hw; go_simp; try (with_reducible rfl)
        simp only [Act.put, List.setIfInBounds_toArray, List.set_cons_zero, List.set_cons_succ]
        refine wpAnyH_take (i := 6) (oi := { dst := some 28, op := .move (.tmp 27), type := 4, pos := "diff.go:35", after := #[{ on := 5, ground := .data }, { on := 2, ground := .chain }], guard := none }) (v := ?_) rfl (by kernel_rfl) (by kernel_rfl) (by kernel_rfl) (fun _ _ _ h => h) (Or.inl ⟨by rfl, ?_⟩) hS ?_
        rotate_left 1
        · intro w hw; obtain ⟨s0, s1, s2⟩ := hw; go_simp; try (with_reducible rfl)
        simp only [Act.put, List.setIfInBounds_toArray, List.set_cons_zero, List.set_cons_succ]
        refine wpAnyH_take (i := 7) (oi := { dst := some 29, op := .move (.tmp 2), type := 22, pos := "diff.go:35", after := #[{ on := 6, ground := .guard }], guard := some (6, true) }) (v := ?_) rfl (by kernel_rfl) (by kernel_rfl) (by kernel_rfl) (fun _ _ _ h => h) (Or.inl ⟨by rfl, ?_⟩) hS ?_
        rotate_left 1
        · intro w hw; obtain ⟨s0, s1, s2⟩ := hw; go_simp; try (with_reducible rfl)
        simp only [Act.put, List.setIfInBounds_toArray, List.set_cons_zero, List.set_cons_succ]
        refine wpAnyH_take (i := 8) (oi := { dst := some 30, op := .move (.tmp 1), type := 3, pos := "diff.go:35", after := #[{ on := 6, ground := .guard }], guard := some (6, true) }) (v := ?_) rfl (by kernel_rfl) (by kernel_rfl) (by kernel_rfl) (fun _ _ _ h => h) (Or.inl ⟨by rfl, ?_⟩) hS ?_
        rotate_left 1
        · intro w hw; obtain ⟨s0, s1, s2⟩ := hw; go_simp; try (with_reducible rfl)
        simp only [Act.put, List.setIfInBounds_toArray, List.set_cons_zero, List.set_cons_succ]
        refine wpAnyH_take (i := 9) (oi := { dst := some 31, op := .indexAddr 22 (.tmp 29) (.tmp 30), type := 0, pos := "diff.go:35", after := #[{ on := 7, ground := .data }, { on := 8, ground := .data }, { on := 6, ground := .guard }], guard := some (6, true) }) (v := ?_) rfl (by kernel_rfl) (by kernel_rfl) (by kernel_rfl) (fun _ _ _ h => h) (Or.inl ⟨by rfl, ?_⟩) hS ?_
        rotate_left 1
        · intro w hw; obtain ⟨s0, s1, s2⟩ := hw; go_simp; try (with_reducible rfl)
        simp only [Act.put, List.setIfInBounds_toArray, List.set_cons_zero, List.set_cons_succ]
        refine wpAnyH_take (i := 10) (oi := { dst := some 32, op := .load 50 (.tmp 31), type := 50, pos := "diff.go:35", after := #[{ on := 9, ground := .data }, { on := 6, ground := .guard }], guard := some (6, true) }) (v := (.agg ca.toArray)) rfl (by kernel_rfl) (by kernel_rfl) (by kernel_rfl) (fun _ _ _ h => h) (Or.inl ⟨by rfl, ?_⟩) hS ?_
        · intro w hw; obtain ⟨s0, s1, s2⟩ := hw; exact exec_load_mid 50 (.tmp 31) (by exact rfl) ba (oa + k * 11) (by exact rfl) ca _ s0 Tryd.underlying50 rfl (by rw [HL.out.1]; kernel_rfl)
        simp only [Act.put, List.setIfInBounds_toArray, List.set_cons_zero, List.set_cons_succ]
        refine wpAnyH_take (i := 11) (oi := { dst := some 33, op := .move (.tmp 3), type := 22, pos := "diff.go:35", after := #[{ on := 6, ground := .guard }], guard := some (6, true) }) (v := ?_) rfl (by kernel_rfl) (by kernel_rfl) (by kernel_rfl) (fun _ _ _ h => h) (Or.inl ⟨by rfl, ?_⟩) hS ?_
        rotate_left 1
        · intro w hw; obtain ⟨s0, s1, s2⟩ := hw; go_simp; try (with_reducible rfl)
        simp only [Act.put, List.setIfInBounds_toArray, List.set_cons_zero, List.set_cons_succ]
        refine wpAnyH_take (i := 12) (oi := { dst := some 34, op := .move (.tmp 1), type := 3, pos := "diff.go:35", after := #[{ on := 6, ground := .guard }], guard := some (6, true) }) (v := ?_) rfl (by kernel_rfl) (by kernel_rfl) (by kernel_rfl) (fun _ _ _ h => h) (Or.inl ⟨by rfl, ?_⟩) hS ?_
        rotate_left 1
        · intro w hw; obtain ⟨s0, s1, s2⟩ := hw; go_simp; try (with_reducible rfl)
        simp only [Act.put, List.setIfInBounds_toArray, List.set_cons_zero, List.set_cons_succ]
        refine wpAnyH_take (i := 13) (oi := { dst := some 35, op := .indexAddr 22 (.tmp 33) (.tmp 34), type := 0, pos := "diff.go:35", after := #[{ on := 11, ground := .data }, { on := 12, ground := .data }, { on := 6, ground := .guard }], guard := some (6, true) }) (v := ?_) rfl (by kernel_rfl) (by kernel_rfl) (by kernel_rfl) (fun _ _ _ h => h) (Or.inl ⟨by rfl, ?_⟩) hS ?_
        rotate_left 1
        · intro w hw; obtain ⟨s0, s1, s2⟩ := hw; go_simp; try (with_reducible rfl)
        simp only [Act.put, List.setIfInBounds_toArray, List.set_cons_zero, List.set_cons_succ]
        refine wpAnyH_take (i := 14) (oi := { dst := some 36, op := .load 50 (.tmp 35), type := 50, pos := "diff.go:35", after := #[{ on := 13, ground := .data }, { on := 6, ground := .guard }], guard := some (6, true) }) (v := (.agg cb.toArray)) rfl (by kernel_rfl) (by kernel_rfl) (by kernel_rfl) (fun _ _ _ h => h) (Or.inl ⟨by rfl, ?_⟩) hS ?_
        · intro w hw; obtain ⟨s0, s1, s2⟩ := hw; exact exec_load_mid 50 (.tmp 35) (by exact rfl) bb (ob + k * 11) (by exact rfl) cb _ s1 Tryd.underlying50 rfl (by rw [HL.out.2]; kernel_rfl)
        simp only [Act.put, List.setIfInBounds_toArray, List.set_cons_zero, List.set_cons_succ]
        refine wpAnyH_take (i := 15) (oi := { dst := some 37, op := .binOp .eql 50 (.tmp 32) (.tmp 36) 50, type := 4, pos := "diff.go:35", after := #[{ on := 10, ground := .data }, { on := 14, ground := .data }, { on := 6, ground := .guard }], guard := some (6, true) }) (v := (.bool false)) rfl (by kernel_rfl) (by kernel_rfl) (by kernel_rfl) (fun _ _ _ h => h) (Or.inl ⟨by rfl, ?_⟩) hS ?_
        · intro w hw; obtain ⟨s0, s1, s2⟩ := hw; go_simp; try (with_reducible rfl)
        simp only [Act.put, List.setIfInBounds_toArray, List.set_cons_zero, List.set_cons_succ]
        refine wpAnyH_take (i := 16) (oi := { dst := some 38, op := .pick (.tmp 28) (.tmp 37) (.const (.bool false)), type := 4, pos := "diff.go:35", after := #[{ on := 6, ground := .data }, { on := 15, ground := .data }], guard := none }) (v := ?_) rfl (by kernel_rfl) (by kernel_rfl) (by kernel_rfl) (fun _ _ _ h => h) (Or.inl ⟨by rfl, ?_⟩) hS ?_
        rotate_left 1
        · intro w hw; obtain ⟨s0, s1, s2⟩ := hw; go_simp; try (with_reducible rfl)
        simp only [Act.put, List.setIfInBounds_toArray, List.set_cons_zero, List.set_cons_succ]
        refine wpAnyH_done (by kernel_rfl) ?_ _

        have H3 := Lib.hid (show Below w.heap.size w w2.drew ∧ RowAt w2.drew Z 57 #[.int .i64 0, .int .i64 0, .bool false, .bool false] ∧ RowAt w2.drew (Z + 1) 57 #[.int .i64 kind, .int .i64 (k : Nat), .bool true, .bool true] from ⟨below_dn H2.out.1 1, H2.out.2⟩)
        obtain ⟨w3, hw3⟩ : ∃ w3, w2.drew = w3 := ⟨_, rfl⟩
        rw [hw3] at H3 ⊢
        clear hw3 hS
        have r0 : w3.cell? ⟨Z + 1, 0, none⟩ = some (.int .i64 kind) := H3.out.2.2.cell 0
        have r1 : w3.cell? ⟨Z + 1, 1, none⟩ = some (.int .i64 (k : Nat)) := H3.out.2.2.cell 1
        have r2 : w3.cell? ⟨Z + 1, 2, none⟩ = some (.bool true) := H3.out.2.2.cell 2
        have r3 : w3.cell? ⟨Z + 1, 3, none⟩ = some (.bool true) := H3.out.2.2.cell 3
        go_wp2_with (first
          | (refine wpList_store_row rfl 57 (.tmp 8) (.tmp 40) rfl Z #[.int .i64 kind, .int .i64 (k : Nat), .bool true, .bool true] rfl rfl 57 _ H3.out.2.1 (by kernel_rfl) rfl (by simp [Value.oneCell']) ?_)
          | fail)
        generalize hw4 : World.setRow w3 _ _ = w4
        have H4 := Lib.hid (show Below w.heap.size w w4 ∧ RowAt w4 Z 57 #[.int .i64 kind, .int .i64 (k : Nat), .bool true, .bool true] by
          rw [← hw4]; exact ⟨below_row H3.out.1 (Nat.le_refl _) (by have := HZ.out; omega) _, H3.out.2.1.put⟩)
        clear hw4 H3 r0 r1 r2 r3
        have x0 : w4.cell? ⟨Z, 0, none⟩ = some (.int .i64 kind) := H4.out.2.cell 0
        have x1 : w4.cell? ⟨Z, 1, none⟩ = some (.int .i64 (k : Nat)) := H4.out.2.cell 1
        have x2 : w4.cell? ⟨Z, 2, none⟩ = some (.bool true) := H4.out.2.cell 2
        have x3 : w4.cell? ⟨Z, 3, none⟩ = some (.bool true) := H4.out.2.cell 3
        refine bodyPost_ret (v := .tuple #[.agg #[.int .i64 kind, .int .i64 (k : Nat), .bool true, .bool true], .bool true]) (by simp [results, Tryd.results55, go_sem, x0, x1, x2, x3]) rfl ?_
        exact ⟨by rw [HV.out], H4.out.1⟩
    · have e2 : ¬ (k : Int) < (nb : Int) := by omega
      have HV := Lib.hid (show hv = .tuple #[.agg #[.int .i64 kind, .int .i64 (k : Nat), .bool true, .bool false], .bool true] by rw [← HVV.out, holdV_no (by omega), decide_eq_true h1, decide_eq_false h2])
      clear ha hb h1 h2
      go_enter Tryd.func55, Tryd.ntmps55
      go_upto_region 2 with fail
      obtain ⟨Z, hZ⟩ : ∃ Z, Z = w.heap.size := ⟨_, rfl⟩
      generalize hw2 : World.alloc (World.alloc w _) _ = w2
      have H2 := Lib.hid (show Below w.heap.size w w2 ∧ RowAt w2 Z 57 #[.int .i64 0, .int .i64 0, .bool false, .bool false] ∧ RowAt w2 (Z + 1) 57 #[.int .i64 kind, .int .i64 (k : Nat), .bool true, .bool false] by
        rw [← hw2, hZ]
        exact ⟨HB.out _ _, (RowAt.mk _ _ _).new ((Below.refl _ _).alloc (Nat.le_refl _) _), by have := RowAt.mk (w.alloc (.cells #[.int .i64 0, .int .i64 0, .bool false, .bool false] 57)) 57 #[.int .i64 kind, .int .i64 (k : Nat), .bool true, .bool false]; rwa [World.size_alloc] at this⟩)
      rw [← hZ]
      have HZ := Lib.hid hZ
      clear hw2 hZ
      have r2 : w2.cell? ⟨Z + 1, 2, none⟩ = some (.bool true) := H2.out.2.2.cell 2
      have r3 : w2.cell? ⟨Z + 1, 3, none⟩ = some (.bool false) := H2.out.2.2.cell 3
      go_quiet (fail)
      generalize hw3 : World.drewN w2 _ = w3
      have H3 := Lib.hid (show Below w.heap.size w w3 ∧ RowAt w3 Z 57 #[.int .i64 0, .int .i64 0, .bool false, .bool false] ∧ RowAt w3 (Z + 1) 57 #[.int .i64 kind, .int .i64 (k : Nat), .bool true, .bool false] by
        rw [← hw3]; exact ⟨below_dn H2.out.1 _, H2.out.2⟩)
      clear hw3 r2 r3 
      have r0 : w3.cell? ⟨Z + 1, 0, none⟩ = some (.int .i64 kind) := H3.out.2.2.cell 0
      have r1 : w3.cell? ⟨Z + 1, 1, none⟩ = some (.int .i64 (k : Nat)) := H3.out.2.2.cell 1
      have r2 : w3.cell? ⟨Z + 1, 2, none⟩ = some (.bool true) := H3.out.2.2.cell 2
      have r3 : w3.cell? ⟨Z + 1, 3, none⟩ = some (.bool false) := H3.out.2.2.cell 3
      go_wp2_with (first
        | (refine wpList_store_row rfl 57 (.tmp 8) (.tmp 40) rfl Z #[.int .i64 kind, .int .i64 (k : Nat), .bool true, .bool false] rfl rfl 57 _ H3.out.2.1 (by kernel_rfl) rfl (by simp [Value.oneCell']) ?_)
        | fail)
      generalize hw4 : World.setRow w3 _ _ = w4
      have H4 := Lib.hid (show Below w.heap.size w w4 ∧ RowAt w4 Z 57 #[.int .i64 kind, .int .i64 (k : Nat), .bool true, .bool false] by
        rw [← hw4]; exact ⟨below_row H3.out.1 (Nat.le_refl _) (by have := HZ.out; omega) _, H3.out.2.1.put⟩)
      clear hw4 H3 r0 r1 r2 r3
      have x0 : w4.cell? ⟨Z, 0, none⟩ = some (.int .i64 kind) := H4.out.2.cell 0
      have x1 : w4.cell? ⟨Z, 1, none⟩ = some (.int .i64 (k : Nat)) := H4.out.2.cell 1
      have x2 : w4.cell? ⟨Z, 2, none⟩ = some (.bool true) := H4.out.2.cell 2
      have x3 : w4.cell? ⟨Z, 3, none⟩ = some (.bool false) := H4.out.2.cell 3
      refine bodyPost_ret (v := .tuple #[.agg #[.int .i64 kind, .int .i64 (k : Nat), .bool true, .bool false], .bool true]) (by simp [results, Tryd.results55, go_sem, x0, x1, x2, x3]) rfl ?_
      exact ⟨by rw [HV.out], H4.out.1⟩
  · have e1 : ¬ (k : Int) < (na : Int) := by omega
    by_cases h2 : k < nb
    · have e2 : (k : Int) < (nb : Int) := by omega
      have HV := Lib.hid (show hv = .tuple #[.agg #[.int .i64 kind, .int .i64 (k : Nat), .bool false, .bool true], .bool true] by rw [← HVV.out, holdV_no (by omega), decide_eq_false h1, decide_eq_true h2])
      clear ha hb h1 h2
      go_enter Tryd.func55, Tryd.ntmps55
      go_upto_region 2 with fail
      obtain ⟨Z, hZ⟩ : ∃ Z, Z = w.heap.size := ⟨_, rfl⟩
      generalize hw2 : World.alloc (World.alloc w _) _ = w2
      have H2 := Lib.hid (show Below w.heap.size w w2 ∧ RowAt w2 Z 57 #[.int .i64 0, .int .i64 0, .bool false, .bool false] ∧ RowAt w2 (Z + 1) 57 #[.int .i64 kind, .int .i64 (k : Nat), .bool false, .bool true] by
        rw [← hw2, hZ]
        exact ⟨HB.out _ _, (RowAt.mk _ _ _).new ((Below.refl _ _).alloc (Nat.le_refl _) _), by have := RowAt.mk (w.alloc (.cells #[.int .i64 0, .int .i64 0, .bool false, .bool false] 57)) 57 #[.int .i64 kind, .int .i64 (k : Nat), .bool false, .bool true]; rwa [World.size_alloc] at this⟩)
      rw [← hZ]
      have HZ := Lib.hid hZ
      clear hw2 hZ
      have r2 : w2.cell? ⟨Z + 1, 2, none⟩ = some (.bool false) := H2.out.2.2.cell 2
      have r3 : w2.cell? ⟨Z + 1, 3, none⟩ = some (.bool true) := H2.out.2.2.cell 3
      go_quiet (fail)
      generalize hw3 : World.drewN w2 _ = w3
      have H3 := Lib.hid (show Below w.heap.size w w3 ∧ RowAt w3 Z 57 #[.int .i64 0, .int .i64 0, .bool false, .bool false] ∧ RowAt w3 (Z + 1) 57 #[.int .i64 kind, .int .i64 (k : Nat), .bool false, .bool true] by
        rw [← hw3]; exact ⟨below_dn H2.out.1 _, H2.out.2⟩)
      clear hw3 r2 r3 
      have r0 : w3.cell? ⟨Z + 1, 0, none⟩ = some (.int .i64 kind) := H3.out.2.2.cell 0
      have r1 : w3.cell? ⟨Z + 1, 1, none⟩ = some (.int .i64 (k : Nat)) := H3.out.2.2.cell 1
      have r2 : w3.cell? ⟨Z + 1, 2, none⟩ = some (.bool false) := H3.out.2.2.cell 2
      have r3 : w3.cell? ⟨Z + 1, 3, none⟩ = some (.bool true) := H3.out.2.2.cell 3
      go_wp2_with (first
        | (refine wpList_store_row rfl 57 (.tmp 8) (.tmp 40) rfl Z #[.int .i64 kind, .int .i64 (k : Nat), .bool false, .bool true] rfl rfl 57 _ H3.out.2.1 (by kernel_rfl) rfl (by simp [Value.oneCell']) ?_)
        | fail)
      generalize hw4 : World.setRow w3 _ _ = w4
      have H4 := Lib.hid (show Below w.heap.size w w4 ∧ RowAt w4 Z 57 #[.int .i64 kind, .int .i64 (k : Nat), .bool false, .bool true] by
        rw [← hw4]; exact ⟨below_row H3.out.1 (Nat.le_refl _) (by have := HZ.out; omega) _, H3.out.2.1.put⟩)
      clear hw4 H3 r0 r1 r2 r3
      have x0 : w4.cell? ⟨Z, 0, none⟩ = some (.int .i64 kind) := H4.out.2.cell 0
      have x1 : w4.cell? ⟨Z, 1, none⟩ = some (.int .i64 (k : Nat)) := H4.out.2.cell 1
      have x2 : w4.cell? ⟨Z, 2, none⟩ = some (.bool false) := H4.out.2.cell 2
      have x3 : w4.cell? ⟨Z, 3, none⟩ = some (.bool true) := H4.out.2.cell 3
      refine bodyPost_ret (v := .tuple #[.agg #[.int .i64 kind, .int .i64 (k : Nat), .bool false, .bool true], .bool true]) (by simp [results, Tryd.results55, go_sem, x0, x1, x2, x3]) rfl ?_
      exact ⟨by rw [HV.out], H4.out.1⟩
    · have e2 : ¬ (k : Int) < (nb : Int) := by omega
      have HV := Lib.hid (show hv = .tuple #[.agg #[.int .i64 kind, .int .i64 (k : Nat), .bool false, .bool false], .bool true] by rw [← HVV.out, holdV_no (by omega), decide_eq_false h1, decide_eq_false h2])
      clear ha hb h1 h2
      go_enter Tryd.func55, Tryd.ntmps55
      go_upto_region 2 with fail
      obtain ⟨Z, hZ⟩ : ∃ Z, Z = w.heap.size := ⟨_, rfl⟩
      generalize hw2 : World.alloc (World.alloc w _) _ = w2
      have H2 := Lib.hid (show Below w.heap.size w w2 ∧ RowAt w2 Z 57 #[.int .i64 0, .int .i64 0, .bool false, .bool false] ∧ RowAt w2 (Z + 1) 57 #[.int .i64 kind, .int .i64 (k : Nat), .bool false, .bool false] by
        rw [← hw2, hZ]
        exact ⟨HB.out _ _, (RowAt.mk _ _ _).new ((Below.refl _ _).alloc (Nat.le_refl _) _), by have := RowAt.mk (w.alloc (.cells #[.int .i64 0, .int .i64 0, .bool false, .bool false] 57)) 57 #[.int .i64 kind, .int .i64 (k : Nat), .bool false, .bool false]; rwa [World.size_alloc] at this⟩)
      rw [← hZ]
      have HZ := Lib.hid hZ
      clear hw2 hZ
      have r2 : w2.cell? ⟨Z + 1, 2, none⟩ = some (.bool false) := H2.out.2.2.cell 2
      have r3 : w2.cell? ⟨Z + 1, 3, none⟩ = some (.bool false) := H2.out.2.2.cell 3
      go_quiet (fail)
      generalize hw3 : World.drewN w2 _ = w3
      have H3 := Lib.hid (show Below w.heap.size w w3 ∧ RowAt w3 Z 57 #[.int .i64 0, .int .i64 0, .bool false, .bool false] ∧ RowAt w3 (Z + 1) 57 #[.int .i64 kind, .int .i64 (k : Nat), .bool false, .bool false] by
        rw [← hw3]; exact ⟨below_dn H2.out.1 _, H2.out.2⟩)
      clear hw3 r2 r3 
      have r0 : w3.cell? ⟨Z + 1, 0, none⟩ = some (.int .i64 kind) := H3.out.2.2.cell 0
      have r1 : w3.cell? ⟨Z + 1, 1, none⟩ = some (.int .i64 (k : Nat)) := H3.out.2.2.cell 1
      have r2 : w3.cell? ⟨Z + 1, 2, none⟩ = some (.bool false) := H3.out.2.2.cell 2
      have r3 : w3.cell? ⟨Z + 1, 3, none⟩ = some (.bool false) := H3.out.2.2.cell 3
      go_wp2_with (first
        | (refine wpList_store_row rfl 57 (.tmp 8) (.tmp 40) rfl Z #[.int .i64 kind, .int .i64 (k : Nat), .bool false, .bool false] rfl rfl 57 _ H3.out.2.1 (by kernel_rfl) rfl (by simp [Value.oneCell']) ?_)
        | fail)
      generalize hw4 : World.setRow w3 _ _ = w4
      have H4 := Lib.hid (show Below w.heap.size w w4 ∧ RowAt w4 Z 57 #[.int .i64 kind, .int .i64 (k : Nat), .bool false, .bool false] by
        rw [← hw4]; exact ⟨below_row H3.out.1 (Nat.le_refl _) (by have := HZ.out; omega) _, H3.out.2.1.put⟩)
      clear hw4 H3 r0 r1 r2 r3
      have x0 : w4.cell? ⟨Z, 0, none⟩ = some (.int .i64 kind) := H4.out.2.cell 0
      have x1 : w4.cell? ⟨Z, 1, none⟩ = some (.int .i64 (k : Nat)) := H4.out.2.cell 1
      have x2 : w4.cell? ⟨Z, 2, none⟩ = some (.bool false) := H4.out.2.cell 2
      have x3 : w4.cell? ⟨Z, 3, none⟩ = some (.bool false) := H4.out.2.cell 3
      refine bodyPost_ret (v := .tuple #[.agg #[.int .i64 kind, .int .i64 (k : Nat), .bool false, .bool false], .bool true]) (by simp [results, Tryd.results55, go_sem, x0, x1, x2, x3]) rfl ?_
      exact ⟨by rw [HV.out], H4.out.1⟩
set_option maxHeartbeats 2000000 in
set_option maxRecDepth 100000 in
theorem dfHoldE_any {w : World} (kind : Int) (k na nb cpa cpb : Nat) (spa spb : Option Addr) (va vb : EdgeM) (ba oa bb ob : Nat) (_hka : k ≤ 1000) (_hna : na ≤ 1000) (_hnb : nb ≤ 1000)
    (ha : k < na → spa = some ⟨ba, oa, none⟩ ∧ ba < w.heap.size ∧ At w ba (oa + k * 23) (edgeC va) ∧ (va.offs.length = 16 ∧ va.map.length = 4)) (hb : k < nb → spb = some ⟨bb, ob, none⟩ ∧ bb < w.heap.size ∧ At w bb (ob + k * 23) (edgeC vb) ∧ (vb.offs.length = 16 ∧ vb.map.length = 4)) :
    Calls Tryd.prog 76 #[.int .i64 kind, .int .i64 (k : Nat), .slice spa na cpa, .slice spb nb cpb] w fun e w' => e = .returned (holdV kind k na nb (eEq va vb)) ∧ Below w.heap.size w w' := by
  have HB := Lib.hid (show ∀ a b : Obj, Below w.heap.size w ((w.alloc a).alloc b) from fun a b => ((Below.refl _ _).alloc (Nat.le_refl _) _).alloc (by simp) _)
  obtain ⟨hv, hhv⟩ : ∃ v, holdV kind k na nb (eEq va vb) = v := ⟨_, rfl⟩
  have HVV := Lib.hid hhv
  rw [hhv]
  clear hhv
  by_cases h1 : k < na
  · have e1 : (k : Int) < (na : Int) := by omega
    by_cases h2 : k < nb
    · obtain ⟨rfl, hlta, qa, la⟩ := ha h1
      obtain ⟨rfl, hltb, qb, lb⟩ := hb h2
      have e2 : (k : Int) < (nb : Int) := by omega
      have hEQ := fun wx => eql_edge la.1 la.2 lb.1 lb.2 wx
      have hgd : Tryd.prog.eqGuardType Tryd.prog.depth 104 = false := by kernel_rfl
      have HL := Lib.hid (And.intro (edgeC_len la.1 la.2) (edgeC_len lb.1 lb.2))
      have HT := Lib.hid (show (eEq va vb) = true → hv = .tuple #[.agg #[.int .i64 0, .int .i64 0, .bool false, .bool false], .bool false] from fun h => by rw [← HVV.out, h]; exact holdV_yes h1 h2)
      have HFf := Lib.hid (show (eEq va vb) = false → hv = .tuple #[.agg #[.int .i64 kind, .int .i64 (k : Nat), .bool true, .bool true], .bool true] from fun h => by rw [← HVV.out, holdV_no (by rw [h]; simp), decide_eq_true h1, decide_eq_true h2])
      obtain ⟨ca, hca⟩ : ∃ c, edgeC va = c := ⟨_, rfl⟩
      obtain ⟨cb, hcb⟩ : ∃ c, edgeC vb = c := ⟨_, rfl⟩
      obtain ⟨eqb, heq⟩ : ∃ c, eEq va vb = c := ⟨_, rfl⟩
      rw [hca] at qa HL hEQ
      rw [hcb] at qb HL hEQ
      rw [heq] at hEQ HT HFf
      have HA := Lib.hid (And.intro hlta qa)
      have HBB := Lib.hid (And.intro hltb qb)
      clear ha hb h1 h2 qa qb hlta hltb la lb hca hcb heq HVV
      cases eqb with
      | true =>
        have HV := Lib.hid (HT.out rfl)
        clear HT HFf
        go_enter Tryd.func76, Tryd.ntmps76
        go_upto_region 2 with fail
        obtain ⟨Z, hZ⟩ : ∃ Z, Z = w.heap.size := ⟨_, rfl⟩
        generalize hw2 : World.alloc (World.alloc w _) _ = w2
        have H2 := Lib.hid (show Below w.heap.size w w2 ∧ RowAt w2 Z 57 #[.int .i64 0, .int .i64 0, .bool false, .bool false] ∧ RowAt w2 (Z + 1) 57 #[.int .i64 kind, .int .i64 (k : Nat), .bool true, .bool true] by
          rw [← hw2, hZ]
          exact ⟨HB.out _ _, (RowAt.mk _ _ _).new ((Below.refl _ _).alloc (Nat.le_refl _) _), by have := RowAt.mk (w.alloc (.cells #[.int .i64 0, .int .i64 0, .bool false, .bool false] 57)) 57 #[.int .i64 kind, .int .i64 (k : Nat), .bool true, .bool true]; rwa [World.size_alloc] at this⟩)
        rw [← hZ]
        have HZ := Lib.hid hZ
        clear hw2 hZ
        have r2 : w2.cell? ⟨Z + 1, 2, none⟩ = some (.bool true) := H2.out.2.2.cell 2
        have r3 : w2.cell? ⟨Z + 1, 3, none⟩ = some (.bool true) := H2.out.2.2.cell 3
        clear r2 r3
        refine wp_region_held_drew (S := fun w' => At w' ba (oa + k * 23) ca ∧ At w' bb (ob + k * 23) cb ∧ RowAt w' (Z + 1) 57 #[.int .i64 kind, .int .i64 (k : Nat), .bool true, .bool true]) (by kernel_rfl) ⟨fun j u hu => (H2.out.1.cell HA.out.1).trans (HA.out.2 j u hu), fun j u hu => (H2.out.1.cell HBB.out.1).trans (HBB.out.2 j u hu), H2.out.2.2⟩ (fun hS => ?_)
        refine wpAnyH_take (i := 0) (oi := { dst := some 22, op := .fieldAddr 57 (.tmp 10) 2, type := 0, pos := "diff.go:35", after := #[], guard := none }) (v := ?_) rfl (by kernel_rfl) (by kernel_rfl) (by kernel_rfl) (fun _ _ _ h => h) (Or.inl ⟨by rfl, ?_⟩) hS ?_
        rotate_left 1
        · intro w hw; obtain ⟨s0, s1, s2⟩ := hw; go_simp; try (with_reducible rfl)
        simp only [Act.put, List.setIfInBounds_toArray, List.set_cons_zero, List.set_cons_succ]
        refine wpAnyH_take (i := 1) (oi := { dst := some 23, op := .load 4 (.tmp 22), type := 4, pos := "diff.go:35", after := #[{ on := 0, ground := .data }], guard := none }) (v := ?_) rfl (by kernel_rfl) (by kernel_rfl) (by kernel_rfl) (fun _ _ _ h => h) (Or.inl ⟨by rfl, ?_⟩) hS ?_
        rotate_left 1
        · intro w hw; obtain ⟨s0, s1, s2⟩ := hw; have k2 := s2.cell 2; have k3 := s2.cell 3; simp at k2 k3; go_simp; try (with_reducible rfl)
        simp only [Act.put, List.setIfInBounds_toArray, List.set_cons_zero, List.set_cons_succ]
        refine wpAnyH_take (i := 2) (oi := { dst := some 24, op := .move (.tmp 23), type := 4, pos := "diff.go:35", after := #[{ on := 1, ground := .data }], guard := none }) (v := ?_) rfl (by kernel_rfl) (by kernel_rfl) (by kernel_rfl) (fun _ _ _ h => h) (Or.inl ⟨by rfl, ?_⟩) hS ?_
        rotate_left 1
        · intro w hw; obtain ⟨s0, s1, s2⟩ := hw; go_simp; try (with_reducible rfl)
        simp only [Act.put, List.setIfInBounds_toArray, List.set_cons_zero, List.set_cons_succ]
        refine wpAnyH_take (i := 3) (oi := { dst := some 25, op := .fieldAddr 57 (.tmp 10) 3, type := 0, pos := "diff.go:35", after := #[{ on := 2, ground := .guard }], guard := some (2, true) }) (v := ?_) rfl (by kernel_rfl) (by kernel_rfl) (by kernel_rfl) (fun _ _ _ h => h) (Or.inl ⟨by rfl, ?_⟩) hS ?_
        rotate_left 1
        · intro w hw; obtain ⟨s0, s1, s2⟩ := hw; go_simp; try (with_reducible rfl)
        simp only [Act.put, List.setIfInBounds_toArray, List.set_cons_zero, List.set_cons_succ]
        refine wpAnyH_take (i := 4) (oi := { dst := some 26, op := .load 4 (.tmp 25), type := 4, pos := "diff.go:35", after := #[{ on := 3, ground := .data }, { on := 2, ground := .guard }], guard := some (2, true) }) (v := ?_) rfl (by kernel_rfl) (by kernel_rfl) (by kernel_rfl) (fun _ _ _ h => h) (Or.inl ⟨by rfl, ?_⟩) hS ?_
        rotate_left 1
        · intro w hw; obtain ⟨s0, s1, s2⟩ := hw; have k2 := s2.cell 2; have k3 := s2.cell 3; simp at k2 k3; go_simp; try (with_reducible rfl)
        simp only [Act.put, List.setIfInBounds_toArray, List.set_cons_zero, List.set_cons_succ]
        refine wpAnyH_take (i := 5) (oi := { dst := some 27, op := .pick (.tmp 24) (.tmp 26) (.const (.bool false)), type := 4, pos := "diff.go:35", after := #[{ on := 2, ground := .data }, { on := 4, ground := .data }], guard := none }) (v := ?_) rfl (by kernel_rfl) (by kernel_rfl) (by kernel_rfl) (fun _ _ _ h => h) (Or.inl ⟨by rfl, ?_⟩) hS ?_
        rotate_left 1
        · intro w hw; obtain ⟨s0, s1, s2⟩ := hw; go_simp; try (with_reducible rfl)
        simp only [Act.put, List.setIfInBounds_toArray, List.set_cons_zero, List.set_cons_succ]
        refine wpAnyH_take (i := 6) (oi := { dst := some 28, op := .move (.tmp 27), type := 4, pos := "diff.go:35", after := #[{ on := 5, ground := .data }, { on := 2, ground := .chain }], guard := none }) (v := ?_) rfl (by kernel_rfl) (by kernel_rfl) (by kernel_rfl) (fun _ _ _ h => h) (Or.inl ⟨by rfl, ?_⟩) hS ?_
        rotate_left 1
        · intro w hw; obtain ⟨s0, s1, s2⟩ := hw; go_simp; try (with_reducible rfl)
        simp only [Act.put, List.setIfInBounds_toArray, List.set_cons_zero, List.set_cons_succ]
        refine wpAnyH_take (i := 7) (oi := { dst := some 29, op := .move (.tmp 2), type := 24, pos := "diff.go:35", after := #[{ on := 6, ground := .guard }], guard := some (6, true) }) (v := ?_) rfl (by kernel_rfl) (by kernel_rfl) (by kernel_rfl) (fun _ _ _ h => h) (Or.inl ⟨by rfl, ?_⟩) hS ?_
        rotate_left 1
        · intro w hw; obtain ⟨s0, s1, s2⟩ := hw; go_simp; try (with_reducible rfl)
        simp only [Act.put, List.setIfInBounds_toArray, List.set_cons_zero, List.set_cons_succ]
        refine wpAnyH_take (i := 8) (oi := { dst := some 30, op := .move (.tmp 1), type := 3, pos := "diff.go:35", after := #[{ on := 6, ground := .guard }], guard := some (6, true) }) (v := ?_) rfl (by kernel_rfl) (by kernel_rfl) (by kernel_rfl) (fun _ _ _ h => h) (Or.inl ⟨by rfl, ?_⟩) hS ?_
        rotate_left 1
        · intro w hw; obtain ⟨s0, s1, s2⟩ := hw; go_simp; try (with_reducible rfl)
        simp only [Act.put, List.setIfInBounds_toArray, List.set_cons_zero, List.set_cons_succ]
        refine wpAnyH_take (i := 9) (oi := { dst := some 31, op := .indexAddr 24 (.tmp 29) (.tmp 30), type := 0, pos := "diff.go:35", after := #[{ on := 7, ground := .data }, { on := 8, ground := .data }, { on := 6, ground := .guard }], guard := some (6, true) }) (v := ?_) rfl (by kernel_rfl) (by kernel_rfl) (by kernel_rfl) (fun _ _ _ h => h) (Or.inl ⟨by rfl, ?_⟩) hS ?_
        rotate_left 1
        · intro w hw; obtain ⟨s0, s1, s2⟩ := hw; go_simp; try (with_reducible rfl)
        simp only [Act.put, List.setIfInBounds_toArray, List.set_cons_zero, List.set_cons_succ]
        refine wpAnyH_take (i := 10) (oi := { dst := some 32, op := .load 104 (.tmp 31), type := 104, pos := "diff.go:35", after := #[{ on := 9, ground := .data }, { on := 6, ground := .guard }], guard := some (6, true) }) (v := (.agg ca.toArray)) rfl (by kernel_rfl) (by kernel_rfl) (by kernel_rfl) (fun _ _ _ h => h) (Or.inl ⟨by rfl, ?_⟩) hS ?_
        · intro w hw; obtain ⟨s0, s1, s2⟩ := hw; exact exec_load_mid 104 (.tmp 31) (by exact rfl) ba (oa + k * 23) (by exact rfl) ca _ s0 Tryd.underlying104 rfl (by rw [HL.out.1]; kernel_rfl)
        simp only [Act.put, List.setIfInBounds_toArray, List.set_cons_zero, List.set_cons_succ]
        refine wpAnyH_take (i := 11) (oi := { dst := some 33, op := .move (.tmp 3), type := 24, pos := "diff.go:35", after := #[{ on := 6, ground := .guard }], guard := some (6, true) }) (v := ?_) rfl (by kernel_rfl) (by kernel_rfl) (by kernel_rfl) (fun _ _ _ h => h) (Or.inl ⟨by rfl, ?_⟩) hS ?_
        rotate_left 1
        · intro w hw; obtain ⟨s0, s1, s2⟩ := hw; go_simp; try (with_reducible rfl)
        simp only [Act.put, List.setIfInBounds_toArray, List.set_cons_zero, List.set_cons_succ]
        refine wpAnyH_take (i := 12) (oi := { dst := some 34, op := .move (.tmp 1), type := 3, pos := "diff.go:35", after := #[{ on := 6, ground := .guard }], guard := some (6, true) }) (v := ?_) rfl (by kernel_rfl) (by kernel_rfl) (by kernel_rfl) (fun _ _ _ h => h) (Or.inl ⟨by rfl, ?_⟩) hS ?_
        rotate_left 1
        · intro w hw; obtain ⟨s0, s1, s2⟩ := hw; go_simp; try (with_reducible rfl)
        simp only [Act.put, List.setIfInBounds_toArray, List.set_cons_zero, List.set_cons_succ]
        refine wpAnyH_take (i := 13) (oi := { dst := some 35, op := .indexAddr 24 (.tmp 33) (.tmp 34), type := 0, pos := "diff.go:35", after := #[{ on := 11, ground := .data }, { on := 12, ground := .data }, { on := 6, ground := .guard }], guard := some (6, true) }) (v := ?_) rfl (by kernel_rfl) (by kernel_rfl) (by kernel_rfl) (fun _ _ _ h => h) (Or.inl ⟨by rfl, ?_⟩) hS ?_
        rotate_left 1
        · intro w hw; obtain ⟨s0, s1, s2⟩ := hw; go_simp; try (with_reducible rfl)
        simp only [Act.put, List.setIfInBounds_toArray, List.set_cons_zero, List.set_cons_succ]
        refine wpAnyH_take (i := 14) (oi := { dst := some 36, op := .load 104 (.tmp 35), type := 104, pos := "diff.go:35", after := #[{ on := 13, ground := .data }, { on := 6, ground := .guard }], guard := some (6, true) }) (v := (.agg cb.toArray)) rfl (by kernel_rfl) (by kernel_rfl) (by kernel_rfl) (fun _ _ _ h => h) (Or.inl ⟨by rfl, ?_⟩) hS ?_
        · intro w hw; obtain ⟨s0, s1, s2⟩ := hw; exact exec_load_mid 104 (.tmp 35) (by exact rfl) bb (ob + k * 23) (by exact rfl) cb _ s1 Tryd.underlying104 rfl (by rw [HL.out.2]; kernel_rfl)
        simp only [Act.put, List.setIfInBounds_toArray, List.set_cons_zero, List.set_cons_succ]
        refine wpAnyH_take (i := 15) (oi := { dst := some 37, op := .binOp .eql 104 (.tmp 32) (.tmp 36) 104, type := 4, pos := "diff.go:35", after := #[{ on := 10, ground := .data }, { on := 14, ground := .data }, { on := 6, ground := .guard }], guard := some (6, true) }) (v := (.bool true)) rfl (by kernel_rfl) (by kernel_rfl) (by kernel_rfl) (fun _ _ _ h => h) (Or.inl ⟨by rfl, ?_⟩) hS ?_
        · intro w hw; obtain ⟨s0, s1, s2⟩ := hw; go_simp; try (with_reducible rfl)
        simp only [Act.put, List.setIfInBounds_toArray, List.set_cons_zero, List.set_cons_succ]
        refine wpAnyH_take (i := 16) (oi := { dst := some 38, op := .pick (.tmp 28) (.tmp 37) (.const (.bool false)), type := 4, pos := "diff.go:35", after := #[{ on := 6, ground := .data }, { on := 15, ground := .data }], guard := none }) (v := ?_) rfl (by kernel_rfl) (by kernel_rfl) (by kernel_rfl) (fun _ _ _ h => h) (Or.inl ⟨by rfl, ?_⟩) hS ?_
        rotate_left 1
        · intro w hw; obtain ⟨s0, s1, s2⟩ := hw; go_simp; try (with_reducible rfl)
        simp only [Act.put, List.setIfInBounds_toArray, List.set_cons_zero, List.set_cons_succ]
        refine wpAnyH_done (by kernel_rfl) ?_ _

        have H3 := Lib.hid (show Below w.heap.size w w2.drew ∧ RowAt w2.drew Z 57 #[.int .i64 0, .int .i64 0, .bool false, .bool false] ∧ RowAt w2.drew (Z + 1) 57 #[.int .i64 kind, .int .i64 (k : Nat), .bool true, .bool true] from ⟨below_dn H2.out.1 1, H2.out.2⟩)
        obtain ⟨w3, hw3⟩ : ∃ w3, w2.drew = w3 := ⟨_, rfl⟩
        rw [hw3] at H3 ⊢
        clear hw3 hS
        go_wp2_with (first
          | (refine wpList_store_row rfl 57 (.tmp 8) (.tmp 39) rfl Z #[.int .i64 0, .int .i64 0, .bool false, .bool false] rfl rfl 57 _ H3.out.2.1 (by kernel_rfl) rfl (by simp [Value.oneCell']) ?_)
          | fail)
        generalize hw4 : World.setRow w3 _ _ = w4
        have H4 := Lib.hid (show Below w.heap.size w w4 ∧ RowAt w4 Z 57 #[.int .i64 0, .int .i64 0, .bool false, .bool false] by
          rw [← hw4]; exact ⟨below_row H3.out.1 (Nat.le_refl _) (by have := HZ.out; omega) _, H3.out.2.1.put⟩)
        clear hw4 H3
        have x0 : w4.cell? ⟨Z, 0, none⟩ = some (.int .i64 0) := H4.out.2.cell 0
        have x1 : w4.cell? ⟨Z, 1, none⟩ = some (.int .i64 0) := H4.out.2.cell 1
        have x2 : w4.cell? ⟨Z, 2, none⟩ = some (.bool false) := H4.out.2.cell 2
        have x3 : w4.cell? ⟨Z, 3, none⟩ = some (.bool false) := H4.out.2.cell 3
        refine bodyPost_ret (v := .tuple #[.agg #[.int .i64 0, .int .i64 0, .bool false, .bool false], .bool false]) (by simp [results, Tryd.results76, go_sem, x0, x1, x2, x3]) rfl ?_
        exact ⟨by rw [HV.out], H4.out.1⟩
      | false =>
        have HV := Lib.hid (HFf.out rfl)
        clear HT HFf
        go_enter Tryd.func76, Tryd.ntmps76
        go_upto_region 2 with fail
        obtain ⟨Z, hZ⟩ : ∃ Z, Z = w.heap.size := ⟨_, rfl⟩
        generalize hw2 : World.alloc (World.alloc w _) _ = w2
        have H2 := Lib.hid (show Below w.heap.size w w2 ∧ RowAt w2 Z 57 #[.int .i64 0, .int .i64 0, .bool false, .bool false] ∧ RowAt w2 (Z + 1) 57 #[.int .i64 kind, .int .i64 (k : Nat), .bool true, .bool true] by
          rw [← hw2, hZ]
          exact ⟨HB.out _ _, (RowAt.mk _ _ _).new ((Below.refl _ _).alloc (Nat.le_refl _) _), by have := RowAt.mk (w.alloc (.cells #[.int .i64 0, .int .i64 0, .bool false, .bool false] 57)) 57 #[.int .i64 kind, .int .i64 (k : Nat), .bool true, .bool true]; rwa [World.size_alloc] at this⟩)
        rw [← hZ]
        have HZ := Lib.hid hZ
        clear hw2 hZ
        have r2 : w2.cell? ⟨Z + 1, 2, none⟩ = some (.bool true) := H2.out.2.2.cell 2
        have r3 : w2.cell? ⟨Z + 1, 3, none⟩ = some (.bool true) := H2.out.2.2.cell 3
        clear r2 r3
        refine wp_region_held_drew (S := fun w' => At w' ba (oa + k * 23) ca ∧ At w' bb (ob + k * 23) cb ∧ RowAt w' (Z + 1) 57 #[.int .i64 kind, .int .i64 (k : Nat), .bool true, .bool true]) (by kernel_rfl) ⟨fun j u hu => (H2.out.1.cell HA.out.1).trans (HA.out.2 j u hu), fun j u hu => (H2.out.1.cell HBB.out.1).trans (HBB.out.2 j u hu), H2.out.2.2⟩ (fun hS => ?_)
        refine wpAnyH_take (i := 0) (oi := { dst := some 22, op := .fieldAddr 57 (.tmp 10) 2, type := 0, pos := "diff.go:35", after := #[], guard := none }) (v := ?_) rfl (by kernel_rfl) (by kernel_rfl) (by kernel_rfl) (fun _ _ _ h => h) (Or.inl ⟨by rfl, ?_⟩) hS ?_
        rotate_left 1
        · intro w hw; obtain ⟨s0, s1, s2⟩ := hw; go_simp; try (with_reducible rfl)
        simp only [Act.put, List.setIfInBounds_toArray, List.set_cons_zero, List.set_cons_succ]
        refine wpAnyH_take (i := 1) (oi := { dst := some 23, op := .load 4 (.tmp 22), type := 4, pos := "diff.go:35", after := #[{ on := 0, ground := .data }], guard := none }) (v := ?_) rfl (by kernel_rfl) (by kernel_rfl) (by kernel_rfl) (fun _ _ _ h => h) (Or.inl ⟨by rfl, ?_⟩) hS ?_
        rotate_left 1
        · intro w hw; obtain ⟨s0, s1, s2⟩ := hw; have k2 := s2.cell 2; have k3 := s2.cell 3; simp at k2 k3; go_simp; try (with_reducible rfl)
        simp only [Act.put, List.setIfInBounds_toArray, List.set_cons_zero, List.set_cons_succ]
        refine wpAnyH_take (i := 2) (oi := { dst := some 24, op := .move (.tmp 23), type := 4, pos := "diff.go:35", after := #[{ on := 1, ground := .data }], guard := none }) (v := ?_) rfl (by kernel_rfl) (by kernel_rfl) (by kernel_rfl) (fun _ _ _ h => h) (Or.inl ⟨by rfl, ?_⟩) hS ?_
        rotate_left 1
        · intro w hw; obtain ⟨s0, s1, s2⟩ := hw; go_simp; try (with_reducible rfl)
        simp only [Act.put, List.setIfInBounds_toArray, List.set_cons_zero, List.set_cons_succ]
        refine wpAnyH_take (i := 3) (oi := { dst := some 25, op := .fieldAddr 57 (.tmp 10) 3, type := 0, pos := "diff.go:35", after := #[{ on := 2, ground := .guard }], guard := some (2, true) }) (v := ?_) rfl (by kernel_rfl) (by kernel_rfl) (by kernel_rfl) (fun _ _ _ h => h) (Or.inl ⟨by rfl, ?_⟩) hS ?_
        rotate_left 1
        · intro w hw; obtain ⟨s0, s1, s2⟩ := hw; go_simp; try (with_reducible rfl)
        simp only [Act.put, List.setIfInBounds_toArray, List.set_cons_zero, List.set_cons_succ]
        refine wpAnyH_take (i := 4) (oi := { dst := some 26, op := .load 4 (.tmp 25), type := 4, pos := "diff.go:35", after := #[{ on := 3, ground := .data }, { on := 2, ground := .guard }], guard := some (2, true) }) (v := ?_) rfl (by kernel_rfl) (by kernel_rfl) (by kernel_rfl) (fun _ _ _ h => h) (Or.inl ⟨by rfl, ?_⟩) hS ?_
        rotate_left 1
        · intro w hw; obtain ⟨s0, s1, s2⟩ := hw; have k2 := s2.cell 2; have k3 := s2.cell 3; simp at k2 k3; go_simp; try (with_reducible rfl)
        simp only [Act.put, List.setIfInBounds_toArray, List.set_cons_zero, List.set_cons_succ]
        refine wpAnyH_take (i := 5) (oi := { dst := some 27, op := .pick (.tmp 24) (.tmp 26) (.const (.bool false)), type := 4, pos := "diff.go:35", after := #[{ on := 2, ground := .data }, { on := 4, ground := .data }], guard := none }) (v := ?_) rfl (by kernel_rfl) (by kernel_rfl) (by kernel_rfl) (fun _ _ _ h => h) (Or.inl ⟨by rfl, ?_⟩) hS ?_
        rotate_left 1
        · intro w hw; obtain ⟨s0, s1, s2⟩ := hw; go_simp; try (with_reducible rfl)
        simp only [Act.put, List.setIfInBounds_toArray, List.set_cons_zero, List.set_cons_succ]
        refine wpAnyH_take (i := 6) (oi := { dst := some 28, op := .move (.tmp 27), type := 4, pos := "diff.go:35", after := #[{ on := 5, ground := .data }, { on := 2, ground := .chain }], guard := none }) (v := ?_) rfl (by kernel_rfl) (by kernel_rfl) (by kernel_rfl) (fun _ _ _ h => h) (Or.inl ⟨by rfl, ?_⟩) hS ?_
        rotate_left 1
        · intro w hw; obtain ⟨s0, s1, s2⟩ := hw; go_simp; try (with_reducible rfl)
        simp only [Act.put, List.setIfInBounds_toArray, List.set_cons_zero, List.set_cons_succ]
        refine wpAnyH_take (i := 7) (oi := { dst := some 29, op := .move (.tmp 2), type := 24, pos := "diff.go:35", after := #[{ on := 6, ground := .guard }], guard := some (6, true) }) (v := ?_) rfl (by kernel_rfl) (by kernel_rfl) (by kernel_rfl) (fun _ _ _ h => h) (Or.inl ⟨by rfl, ?_⟩) hS ?_
        rotate_left 1
        · intro w hw; obtain ⟨s0, s1, s2⟩ := hw; go_simp; try (with_reducible rfl)
        simp only [Act.put, List.setIfInBounds_toArray, List.set_cons_zero, List.set_cons_succ]
        refine wpAnyH_take (i := 8) (oi := { dst := some 30, op := .move (.tmp 1), type := 3, pos := "diff.go:35", after := #[{ on := 6, ground := .guard }], guard := some (6, true) }) (v := ?_) rfl (by kernel_rfl) (by kernel_rfl) (by kernel_rfl) (fun _ _ _ h => h) (Or.inl ⟨by rfl, ?_⟩) hS ?_
        rotate_left 1
        · intro w hw; obtain ⟨s0, s1, s2⟩ := hw; go_simp; try (with_reducible rfl)
        simp only [Act.put, List.setIfInBounds_toArray, List.set_cons_zero, List.set_cons_succ]
        refine wpAnyH_take (i := 9) (oi := { dst := some 31, op := .indexAddr 24 (.tmp 29) (.tmp 30), type := 0, pos := "diff.go:35", after := #[{ on := 7, ground := .data }, { on := 8, ground := .data }, { on := 6, ground := .guard }], guard := some (6, true) }) (v := ?_) rfl (by kernel_rfl) (by kernel_rfl) (by kernel_rfl) (fun _ _ _ h => h) (Or.inl ⟨by rfl, ?_⟩) hS ?_
        rotate_left 1
        · intro w hw; obtain ⟨s0, s1, s2⟩ := hw; go_simp; try (with_reducible rfl)
        simp only [Act.put, List.setIfInBounds_toArray, List.set_cons_zero, List.set_cons_succ]
        refine wpAnyH_take (i := 10) (oi := { dst := some 32, op := .load 104 (.tmp 31), type := 104, pos := "diff.go:35", after := #[{ on := 9, ground := .data }, { on := 6, ground := .guard }], guard := some (6, true) }) (v := (.agg ca.toArray)) rfl (by kernel_rfl) (by kernel_rfl) (by kernel_rfl) (fun _ _ _ h => h) (Or.inl ⟨by rfl, ?_⟩) hS ?_
        · intro w hw; obtain ⟨s0, s1, s2⟩ := hw; exact exec_load_mid 104 (.tmp 31) (by exact rfl) ba (oa + k * 23) (by exact rfl) ca _ s0 Tryd.underlying104 rfl (by rw [HL.out.1]; kernel_rfl)
        simp only [Act.put, List.setIfInBounds_toArray, List.set_cons_zero, List.set_cons_succ]
        refine wpAnyH_take (i := 11) (oi := { dst := some 33, op := .move (.tmp 3), type := 24, pos := "diff.go:35", after := #[{ on := 6, ground := .guard }], guard := some (6, true) }) (v := ?_) rfl (by kernel_rfl) (by kernel_rfl) (by kernel_rfl) (fun _ _ _ h => h) (Or.inl ⟨by rfl, ?_⟩) hS ?_
        rotate_left 1
        · intro w hw; obtain ⟨s0, s1, s2⟩ := hw; go_simp; try (with_reducible rfl)
        simp only [Act.put, List.setIfInBounds_toArray, List.set_cons_zero, List.set_cons_succ]
        refine wpAnyH_take (i := 12) (oi := { dst := some 34, op := .move (.tmp 1), type := 3, pos := "diff.go:35", after := #[{ on := 6, ground := .guard }], guard := some (6, true) }) (v := ?_) rfl (by kernel_rfl) (by kernel_rfl) (by kernel_rfl) (fun _ _ _ h => h) (Or.inl ⟨by rfl, ?_⟩) hS ?_
        rotate_left 1
        · intro w hw; obtain ⟨s0, s1, s2⟩ := hw; go_simp; try (with_reducible rfl)
        simp only [Act.put, List.setIfInBounds_toArray, List.set_cons_zero, List.set_cons_succ]
        refine wpAnyH_take (i := 13) (oi := { dst := some 35, op := .indexAddr 24 (.tmp 33) (.tmp 34), type := 0, pos := "diff.go:35", after := #[{ on := 11, ground := .data }, { on := 12, ground := .data }, { on := 6, ground := .guard }], guard := some (6, true) }) (v := ?_) rfl (by kernel_rfl) (by kernel_rfl) (by kernel_rfl) (fun _ _ _ h => h) (Or.inl ⟨by rfl, ?_⟩) hS ?_
        rotate_left 1
        · intro w hw; obtain ⟨s0, s1, s2⟩ := hw; go_simp; try (with_reducible rfl)
        simp only [Act.put, List.setIfInBounds_toArray, List.set_cons_zero, List.set_cons_succ]
        refine wpAnyH_take (i := 14) (oi := { dst := some 36, op := .load 104 (.tmp 35), type := 104, pos := "diff.go:35", after := #[{ on := 13, ground := .data }, { on := 6, ground := .guard }], guard := some (6, true) }) (v := (.agg cb.toArray)) rfl (by kernel_rfl) (by kernel_rfl) (by kernel_rfl) (fun _ _ _ h => h) (Or.inl ⟨by rfl, ?_⟩) hS ?_
        · intro w hw; obtain ⟨s0, s1, s2⟩ := hw; exact exec_load_mid 104 (.tmp 35) (by exact rfl) bb (ob + k * 23) (by exact rfl) cb _ s1 Tryd.underlying104 rfl (by rw [HL.out.2]; kernel_rfl)
        simp only [Act.put, List.setIfInBounds_toArray, List.set_cons_zero, List.set_cons_succ]
        refine wpAnyH_take (i := 15) (oi := { dst := some 37, op := .binOp .eql 104 (.tmp 32) (.tmp 36) 104, type := 4, pos := "diff.go:35", after := #[{ on := 10, ground := .data }, { on := 14, ground := .data }, { on := 6, ground := .guard }], guard := some (6, true) }) (v := (.bool false)) rfl (by kernel_rfl) (by kernel_rfl) (by kernel_rfl) (fun _ _ _ h => h) (Or.inl ⟨by rfl, ?_⟩) hS ?_
        · intro w hw; obtain ⟨s0, s1, s2⟩ := hw; go_simp; try (with_reducible rfl)
        simp only [Act.put, List.setIfInBounds_toArray, List.set_cons_zero, List.set_cons_succ]
        refine wpAnyH_take (i := 16) (oi := { dst := some 38, op := .pick (.tmp 28) (.tmp 37) (.const (.bool false)), type := 4, pos := "diff.go:35", after := #[{ on := 6, ground := .data }, { on := 15, ground := .data }], guard := none }) (v := ?_) rfl (by kernel_rfl) (by kernel_rfl) (by kernel_rfl) (fun _ _ _ h => h) (Or.inl ⟨by rfl, ?_⟩) hS ?_
        rotate_left 1
        · intro w hw; obtain ⟨s0, s1, s2⟩ := hw; go_simp; try (with_reducible rfl)
        simp only [Act.put, List.setIfInBounds_toArray, List.set_cons_zero, List.set_cons_succ]
        refine wpAnyH_done (by kernel_rfl) ?_ _

        have H3 := Lib.hid (show Below w.heap.size w w2.drew ∧ RowAt w2.drew Z 57 #[.int .i64 0, .int .i64 0, .bool false, .bool false] ∧ RowAt w2.drew (Z + 1) 57 #[.int .i64 kind, .int .i64 (k : Nat), .bool true, .bool true] from ⟨below_dn H2.out.1 1, H2.out.2⟩)
        obtain ⟨w3, hw3⟩ : ∃ w3, w2.drew = w3 := ⟨_, rfl⟩
        rw [hw3] at H3 ⊢
        clear hw3 hS
        have r0 : w3.cell? ⟨Z + 1, 0, none⟩ = some (.int .i64 kind) := H3.out.2.2.cell 0
        have r1 : w3.cell? ⟨Z + 1, 1, none⟩ = some (.int .i64 (k : Nat)) := H3.out.2.2.cell 1
        have r2 : w3.cell? ⟨Z + 1, 2, none⟩ = some (.bool true) := H3.out.2.2.cell 2
        have r3 : w3.cell? ⟨Z + 1, 3, none⟩ = some (.bool true) := H3.out.2.2.cell 3
        go_wp2_with (first
          | (refine wpList_store_row rfl 57 (.tmp 8) (.tmp 40) rfl Z #[.int .i64 kind, .int .i64 (k : Nat), .bool true, .bool true] rfl rfl 57 _ H3.out.2.1 (by kernel_rfl) rfl (by simp [Value.oneCell']) ?_)
          | fail)
        generalize hw4 : World.setRow w3 _ _ = w4
        have H4 := Lib.hid (show Below w.heap.size w w4 ∧ RowAt w4 Z 57 #[.int .i64 kind, .int .i64 (k : Nat), .bool true, .bool true] by
          rw [← hw4]; exact ⟨below_row H3.out.1 (Nat.le_refl _) (by have := HZ.out; omega) _, H3.out.2.1.put⟩)
        clear hw4 H3 r0 r1 r2 r3
        have x0 : w4.cell? ⟨Z, 0, none⟩ = some (.int .i64 kind) := H4.out.2.cell 0
        have x1 : w4.cell? ⟨Z, 1, none⟩ = some (.int .i64 (k : Nat)) := H4.out.2.cell 1
        have x2 : w4.cell? ⟨Z, 2, none⟩ = some (.bool true) := H4.out.2.cell 2
        have x3 : w4.cell? ⟨Z, 3, none⟩ = some (.bool true) := H4.out.2.cell 3
        refine bodyPost_ret (v := .tuple #[.agg #[.int .i64 kind, .int .i64 (k : Nat), .bool true, .bool true], .bool true]) (by simp [results, Tryd.results76, go_sem, x0, x1, x2, x3]) rfl ?_
        exact ⟨by rw [HV.out], H4.out.1⟩
    · have e2 : ¬ (k : Int) < (nb : Int) := by omega
      have HV := Lib.hid (show hv = .tuple #[.agg #[.int .i64 kind, .int .i64 (k : Nat), .bool true, .bool false], .bool true] by rw [← HVV.out, holdV_no (by omega), decide_eq_true h1, decide_eq_false h2])
      clear ha hb h1 h2
      go_enter Tryd.func76, Tryd.ntmps76
      go_upto_region 2 with fail
      obtain ⟨Z, hZ⟩ : ∃ Z, Z = w.heap.size := ⟨_, rfl⟩
      generalize hw2 : World.alloc (World.alloc w _) _ = w2
      have H2 := Lib.hid (show Below w.heap.size w w2 ∧ RowAt w2 Z 57 #[.int .i64 0, .int .i64 0, .bool false, .bool false] ∧ RowAt w2 (Z + 1) 57 #[.int .i64 kind, .int .i64 (k : Nat), .bool true, .bool false] by
        rw [← hw2, hZ]
        exact ⟨HB.out _ _, (RowAt.mk _ _ _).new ((Below.refl _ _).alloc (Nat.le_refl _) _), by have := RowAt.mk (w.alloc (.cells #[.int .i64 0, .int .i64 0, .bool false, .bool false] 57)) 57 #[.int .i64 kind, .int .i64 (k : Nat), .bool true, .bool false]; rwa [World.size_alloc] at this⟩)
      rw [← hZ]
      have HZ := Lib.hid hZ
      clear hw2 hZ
      have r2 : w2.cell? ⟨Z + 1, 2, none⟩ = some (.bool true) := H2.out.2.2.cell 2
      have r3 : w2.cell? ⟨Z + 1, 3, none⟩ = some (.bool false) := H2.out.2.2.cell 3
      go_quiet (fail)
      generalize hw3 : World.drewN w2 _ = w3
      have H3 := Lib.hid (show Below w.heap.size w w3 ∧ RowAt w3 Z 57 #[.int .i64 0, .int .i64 0, .bool false, .bool false] ∧ RowAt w3 (Z + 1) 57 #[.int .i64 kind, .int .i64 (k : Nat), .bool true, .bool false] by
        rw [← hw3]; exact ⟨below_dn H2.out.1 _, H2.out.2⟩)
      clear hw3 r2 r3 
      have r0 : w3.cell? ⟨Z + 1, 0, none⟩ = some (.int .i64 kind) := H3.out.2.2.cell 0
      have r1 : w3.cell? ⟨Z + 1, 1, none⟩ = some (.int .i64 (k : Nat)) := H3.out.2.2.cell 1
      have r2 : w3.cell? ⟨Z + 1, 2, none⟩ = some (.bool true) := H3.out.2.2.cell 2
      have r3 : w3.cell? ⟨Z + 1, 3, none⟩ = some (.bool false) := H3.out.2.2.cell 3
      go_wp2_with (first
        | (refine wpList_store_row rfl 57 (.tmp 8) (.tmp 40) rfl Z #[.int .i64 kind, .int .i64 (k : Nat), .bool true, .bool false] rfl rfl 57 _ H3.out.2.1 (by kernel_rfl) rfl (by simp [Value.oneCell']) ?_)
        | fail)
      generalize hw4 : World.setRow w3 _ _ = w4
      have H4 := Lib.hid (show Below w.heap.size w w4 ∧ RowAt w4 Z 57 #[.int .i64 kind, .int .i64 (k : Nat), .bool true, .bool false] by
        rw [← hw4]; exact ⟨below_row H3.out.1 (Nat.le_refl _) (by have := HZ.out; omega) _, H3.out.2.1.put⟩)
      clear hw4 H3 r0 r1 r2 r3
      have x0 : w4.cell? ⟨Z, 0, none⟩ = some (.int .i64 kind) := H4.out.2.cell 0
      have x1 : w4.cell? ⟨Z, 1, none⟩ = some (.int .i64 (k : Nat)) := H4.out.2.cell 1
      have x2 : w4.cell? ⟨Z, 2, none⟩ = some (.bool true) := H4.out.2.cell 2
      have x3 : w4.cell? ⟨Z, 3, none⟩ = some (.bool false) := H4.out.2.cell 3
      refine bodyPost_ret (v := .tuple #[.agg #[.int .i64 kind, .int .i64 (k : Nat), .bool true, .bool false], .bool true]) (by simp [results, Tryd.results76, go_sem, x0, x1, x2, x3]) rfl ?_
      exact ⟨by rw [HV.out], H4.out.1⟩
  · have e1 : ¬ (k : Int) < (na : Int) := by omega
    by_cases h2 : k < nb
    · have e2 : (k : Int) < (nb : Int) := by omega
      have HV := Lib.hid (show hv = .tuple #[.agg #[.int .i64 kind, .int .i64 (k : Nat), .bool false, .bool true], .bool true] by rw [← HVV.out, holdV_no (by omega), decide_eq_false h1, decide_eq_true h2])
      clear ha hb h1 h2
      go_enter Tryd.func76, Tryd.ntmps76
      go_upto_region 2 with fail
      obtain ⟨Z, hZ⟩ : ∃ Z, Z = w.heap.size := ⟨_, rfl⟩
      generalize hw2 : World.alloc (World.alloc w _) _ = w2
      have H2 := Lib.hid (show Below w.heap.size w w2 ∧ RowAt w2 Z 57 #[.int .i64 0, .int .i64 0, .bool false, .bool false] ∧ RowAt w2 (Z + 1) 57 #[.int .i64 kind, .int .i64 (k : Nat), .bool false, .bool true] by
        rw [← hw2, hZ]
        exact ⟨HB.out _ _, (RowAt.mk _ _ _).new ((Below.refl _ _).alloc (Nat.le_refl _) _), by have := RowAt.mk (w.alloc (.cells #[.int .i64 0, .int .i64 0, .bool false, .bool false] 57)) 57 #[.int .i64 kind, .int .i64 (k : Nat), .bool false, .bool true]; rwa [World.size_alloc] at this⟩)
      rw [← hZ]
      have HZ := Lib.hid hZ
      clear hw2 hZ
      have r2 : w2.cell? ⟨Z + 1, 2, none⟩ = some (.bool false) := H2.out.2.2.cell 2
      have r3 : w2.cell? ⟨Z + 1, 3, none⟩ = some (.bool true) := H2.out.2.2.cell 3
      go_quiet (fail)
      generalize hw3 : World.drewN w2 _ = w3
      have H3 := Lib.hid (show Below w.heap.size w w3 ∧ RowAt w3 Z 57 #[.int .i64 0, .int .i64 0, .bool false, .bool false] ∧ RowAt w3 (Z + 1) 57 #[.int .i64 kind, .int .i64 (k : Nat), .bool false, .bool true] by
        rw [← hw3]; exact ⟨below_dn H2.out.1 _, H2.out.2⟩)
      clear hw3 r2 r3 
      have r0 : w3.cell? ⟨Z + 1, 0, none⟩ = some (.int .i64 kind) := H3.out.2.2.cell 0
      have r1 : w3.cell? ⟨Z + 1, 1, none⟩ = some (.int .i64 (k : Nat)) := H3.out.2.2.cell 1
      have r2 : w3.cell? ⟨Z + 1, 2, none⟩ = some (.bool false) := H3.out.2.2.cell 2
      have r3 : w3.cell? ⟨Z + 1, 3, none⟩ = some (.bool true) := H3.out.2.2.cell 3
      go_wp2_with (first
        | (refine wpList_store_row rfl 57 (.tmp 8) (.tmp 40) rfl Z #[.int .i64 kind, .int .i64 (k : Nat), .bool false, .bool true] rfl rfl 57 _ H3.out.2.1 (by kernel_rfl) rfl (by simp [Value.oneCell']) ?_)
        | fail)
      generalize hw4 : World.setRow w3 _ _ = w4
      have H4 := Lib.hid (show Below w.heap.size w w4 ∧ RowAt w4 Z 57 #[.int .i64 kind, .int .i64 (k : Nat), .bool false, .bool true] by
        rw [← hw4]; exact ⟨below_row H3.out.1 (Nat.le_refl _) (by have := HZ.out; omega) _, H3.out.2.1.put⟩)
      clear hw4 H3 r0 r1 r2 r3
      have x0 : w4.cell? ⟨Z, 0, none⟩ = some (.int .i64 kind) := H4.out.2.cell 0
      have x1 : w4.cell? ⟨Z, 1, none⟩ = some (.int .i64 (k : Nat)) := H4.out.2.cell 1
      have x2 : w4.cell? ⟨Z, 2, none⟩ = some (.bool false) := H4.out.2.cell 2
      have x3 : w4.cell? ⟨Z, 3, none⟩ = some (.bool true) := H4.out.2.cell 3
      refine bodyPost_ret (v := .tuple #[.agg #[.int .i64 kind, .int .i64 (k : Nat), .bool false, .bool true], .bool true]) (by simp [results, Tryd.results76, go_sem, x0, x1, x2, x3]) rfl ?_
      exact ⟨by rw [HV.out], H4.out.1⟩
    · have e2 : ¬ (k : Int) < (nb : Int) := by omega
      have HV := Lib.hid (show hv = .tuple #[.agg #[.int .i64 kind, .int .i64 (k : Nat), .bool false, .bool false], .bool true] by rw [← HVV.out, holdV_no (by omega), decide_eq_false h1, decide_eq_false h2])
      clear ha hb h1 h2
      go_enter Tryd.func76, Tryd.ntmps76
      go_upto_region 2 with fail
      obtain ⟨Z, hZ⟩ : ∃ Z, Z = w.heap.size := ⟨_, rfl⟩
      generalize hw2 : World.alloc (World.alloc w _) _ = w2
      have H2 := Lib.hid (show Below w.heap.size w w2 ∧ RowAt w2 Z 57 #[.int .i64 0, .int .i64 0, .bool false, .bool false] ∧ RowAt w2 (Z + 1) 57 #[.int .i64 kind, .int .i64 (k : Nat), .bool false, .bool false] by
        rw [← hw2, hZ]
        exact ⟨HB.out _ _, (RowAt.mk _ _ _).new ((Below.refl _ _).alloc (Nat.le_refl _) _), by have := RowAt.mk (w.alloc (.cells #[.int .i64 0, .int .i64 0, .bool false, .bool false] 57)) 57 #[.int .i64 kind, .int .i64 (k : Nat), .bool false, .bool false]; rwa [World.size_alloc] at this⟩)
      rw [← hZ]
      have HZ := Lib.hid hZ
      clear hw2 hZ
      have r2 : w2.cell? ⟨Z + 1, 2, none⟩ = some (.bool false) := H2.out.2.2.cell 2
      have r3 : w2.cell? ⟨Z + 1, 3, none⟩ = some (.bool false) := H2.out.2.2.cell 3
      go_quiet (fail)
      generalize hw3 : World.drewN w2 _ = w3
      have H3 := Lib.hid (show Below w.heap.size w w3 ∧ RowAt w3 Z 57 #[.int .i64 0, .int .i64 0, .bool false, .bool false] ∧ RowAt w3 (Z + 1) 57 #[.int .i64 kind, .int .i64 (k : Nat), .bool false, .bool false] by
        rw [← hw3]; exact ⟨below_dn H2.out.1 _, H2.out.2⟩)
      clear hw3 r2 r3 
      have r0 : w3.cell? ⟨Z + 1, 0, none⟩ = some (.int .i64 kind) := H3.out.2.2.cell 0
      have r1 : w3.cell? ⟨Z + 1, 1, none⟩ = some (.int .i64 (k : Nat)) := H3.out.2.2.cell 1
      have r2 : w3.cell? ⟨Z + 1, 2, none⟩ = some (.bool false) := H3.out.2.2.cell 2
      have r3 : w3.cell? ⟨Z + 1, 3, none⟩ = some (.bool false) := H3.out.2.2.cell 3
      go_wp2_with (first
        | (refine wpList_store_row rfl 57 (.tmp 8) (.tmp 40) rfl Z #[.int .i64 kind, .int .i64 (k : Nat), .bool false, .bool false] rfl rfl 57 _ H3.out.2.1 (by kernel_rfl) rfl (by simp [Value.oneCell']) ?_)
        | fail)
      generalize hw4 : World.setRow w3 _ _ = w4
      have H4 := Lib.hid (show Below w.heap.size w w4 ∧ RowAt w4 Z 57 #[.int .i64 kind, .int .i64 (k : Nat), .bool false, .bool false] by
        rw [← hw4]; exact ⟨below_row H3.out.1 (Nat.le_refl _) (by have := HZ.out; omega) _, H3.out.2.1.put⟩)
      clear hw4 H3 r0 r1 r2 r3
      have x0 : w4.cell? ⟨Z, 0, none⟩ = some (.int .i64 kind) := H4.out.2.cell 0
      have x1 : w4.cell? ⟨Z, 1, none⟩ = some (.int .i64 (k : Nat)) := H4.out.2.cell 1
      have x2 : w4.cell? ⟨Z, 2, none⟩ = some (.bool false) := H4.out.2.cell 2
      have x3 : w4.cell? ⟨Z, 3, none⟩ = some (.bool false) := H4.out.2.cell 3
      refine bodyPost_ret (v := .tuple #[.agg #[.int .i64 kind, .int .i64 (k : Nat), .bool false, .bool false], .bool true]) (by simp [results, Tryd.results76, go_sem, x0, x1, x2, x3]) rfl ?_
      exact ⟨by rw [HV.out], H4.out.1⟩
end Go.Proofs.YtknkhigmokooaaaDoor
