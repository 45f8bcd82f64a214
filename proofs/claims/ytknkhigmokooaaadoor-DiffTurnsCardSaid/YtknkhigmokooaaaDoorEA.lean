/- Turns; the contracts of diff's hold, for each kind of rows. -/
import Derived.Test.YtknkhigmokooaaaDoorJX
import Derived.Test.YtknkhigmokooaaaDoorVE
import Derived.Handy
import Derived.Deep.QuietTactic
import Derived.DeepKeys
import Derived.ChangeKeysEq
namespace Go.Proofs.YtknkhigmokooaaaDoor
open Go.RowKit

structure TurnM where
  kind : Int
  at_ : Nat
  old : Bool
  new : Bool
def turnC (t : TurnM) : List Value := [.int .i64 t.kind, .int .i64 (t.at_ : Nat), .bool t.old, .bool t.new]
/-- What hold answers. -/
def holdV (kind : Int) (k na nb : Nat) (eq : Bool) : Value :=
  if k < na ∧ k < nb ∧ eq = true then .tuple #[.agg #[.int .i64 0, .int .i64 0, .bool false, .bool false], .bool false]
  else .tuple #[.agg #[.int .i64 kind, .int .i64 (k : Nat), .bool (decide (k < na)), .bool (decide (k < nb))], .bool true]
theorem holdV_no {kind : Int} {k na nb : Nat} {eq : Bool} (h : ¬ (k < na ∧ k < nb ∧ eq = true)) : holdV kind k na nb eq = .tuple #[.agg #[.int .i64 kind, .int .i64 (k : Nat), .bool (decide (k < na)), .bool (decide (k < nb))], .bool true] := by unfold holdV; rw [if_neg h]
theorem holdV_yes {kind : Int} {k na nb : Nat} (h1 : k < na) (h2 : k < nb) : holdV kind k na nb true = .tuple #[.agg #[.int .i64 0, .int .i64 0, .bool false, .bool false], .bool false] := by unfold holdV; rw [if_pos ⟨h1, h2, rfl⟩]
set_option maxHeartbeats 2000000 in
set_option maxRecDepth 100000 in
theorem dfHoldI_any {w : World} (kind : Int) (k na nb ca cb : Nat) (spa spb : Option Addr) (va vb : Int) (ba oa bb ob : Nat) (_hka : k ≤ 1000) (_hna : na ≤ 1000) (_hnb : nb ≤ 1000)
    (ha : k < na → spa = some ⟨ba, oa, none⟩ ∧ w.cell? ⟨ba, oa + k, none⟩ = some (.int .i64 va)) (hb : k < nb → spb = some ⟨bb, ob, none⟩ ∧ w.cell? ⟨bb, ob + k, none⟩ = some (.int .i64 vb)) :
    Calls Tryd.prog 72 #[.int .i64 kind, .int .i64 (k : Nat), .slice spa na ca, .slice spb nb cb] w fun e w' => e = .returned (holdV kind k na nb (va == vb)) ∧ Below w.heap.size w w' := by
  have HB := Lib.hid (show ∀ a b : Obj, Below w.heap.size w ((w.alloc a).alloc b) from fun a b => ((Below.refl _ _).alloc (Nat.le_refl _) _).alloc (by simp) _)
  obtain ⟨hv, hhv⟩ : ∃ v, holdV kind k na nb (va == vb) = v := ⟨_, rfl⟩
  have HVV := Lib.hid hhv
  rw [hhv]
  clear hhv
  by_cases h1 : k < na
  · obtain ⟨rfl, qa⟩ := ha h1
    have hlta := World.block_lt_of_cell? w _ qa
    simp only at hlta
    have e1 : (k : Int) < (na : Int) := by omega
    by_cases h2 : k < nb
    · obtain ⟨rfl, qb⟩ := hb h2
      have hltb := World.block_lt_of_cell? w _ qb
      simp only at hltb
      have e2 : (k : Int) < (nb : Int) := by omega
      clear ha hb
      by_cases heq : va = vb
      · subst heq
        have HV := Lib.hid (show hv = .tuple #[.agg #[.int .i64 0, .int .i64 0, .bool false, .bool false], .bool false] by rw [← HVV.out, show (va == va) = true by simp]; exact holdV_yes h1 h2)
        clear h1 h2
        go_enter Tryd.func72, Tryd.ntmps72
        go_upto_region 2 with fail
        obtain ⟨Z, hZ⟩ : ∃ Z, Z = w.heap.size := ⟨_, rfl⟩
        generalize hw2 : World.alloc (World.alloc w _) _ = w2
        have H2 := Lib.hid (show Below w.heap.size w w2 ∧ RowAt w2 Z 57 #[.int .i64 0, .int .i64 0, .bool false, .bool false] ∧ RowAt w2 (Z + 1) 57 #[.int .i64 kind, .int .i64 (k : Nat), .bool true, .bool true] by
          rw [← hw2, hZ]
          exact ⟨HB.out _ _, (RowAt.mk _ _ _).new ((Below.refl _ _).alloc (Nat.le_refl _) _), by have := RowAt.mk (w.alloc (.cells #[.int .i64 0, .int .i64 0, .bool false, .bool false] 57)) 57 #[.int .i64 kind, .int .i64 (k : Nat), .bool true, .bool true]; rwa [World.size_alloc] at this⟩)
        rw [← hZ]
        have HZ := Lib.hid hZ
        clear hw2 hZ
        have r2 : w2.cell? ⟨Z + 1, 2, none⟩ = some (.bool true) := H2.out.2.2.cell 2
        have r3 : w2.cell? ⟨Z + 1, 3, none⟩ = some (.bool true) := H2.out.2.2.cell 3
        have qa2 : w2.cell? ⟨ba, oa + k, none⟩ = some (.int .i64 va) := (H2.out.1.cell hlta).trans qa
        have qb2 : w2.cell? ⟨bb, ob + k, none⟩ = some (.int .i64 va) := (H2.out.1.cell hltb).trans qb
        go_quiet (fail)
        generalize hw3 : World.drewN w2 _ = w3
        have H3 := Lib.hid (show Below w.heap.size w w3 ∧ RowAt w3 Z 57 #[.int .i64 0, .int .i64 0, .bool false, .bool false] ∧ RowAt w3 (Z + 1) 57 #[.int .i64 kind, .int .i64 (k : Nat), .bool true, .bool true] by
          rw [← hw3]; exact ⟨below_dn H2.out.1 _, H2.out.2⟩)
        clear hw3 r2 r3 qa2 qb2
        go_wp2_with (first
          | (refine wpList_store_row rfl 57 (.tmp 8) (.tmp 39) rfl Z #[.int .i64 0, .int .i64 0, .bool false, .bool false] rfl rfl 57 _ H3.out.2.1 (by kernel_rfl) rfl (by simp [Value.oneCell']) ?_)
          | fail)
        generalize hw4 : World.setRow w3 _ _ = w4
        have H4 := Lib.hid (show Below w.heap.size w w4 ∧ RowAt w4 Z 57 #[.int .i64 0, .int .i64 0, .bool false, .bool false] by
          rw [← hw4]; exact ⟨below_row H3.out.1 (Nat.le_refl _) (by have := HZ.out; omega) _, H3.out.2.1.put⟩)
        clear hw4 H3
        have x0 : w4.cell? ⟨Z, 0, none⟩ = some (.int .i64 0) := H4.out.2.cell 0
        have x1 : w4.cell? ⟨Z, 1, none⟩ = some (.int .i64 0) := H4.out.2.cell 1
        have x2 : w4.cell? ⟨Z, 2, none⟩ = some (.bool false) := H4.out.2.cell 2
        have x3 : w4.cell? ⟨Z, 3, none⟩ = some (.bool false) := H4.out.2.cell 3
        refine bodyPost_ret (v := .tuple #[.agg #[.int .i64 0, .int .i64 0, .bool false, .bool false], .bool false]) (by simp [results, Tryd.results72, go_sem, x0, x1, x2, x3]) rfl ?_
        exact ⟨by rw [HV.out], H4.out.1⟩
      · have HV := Lib.hid (show hv = .tuple #[.agg #[.int .i64 kind, .int .i64 (k : Nat), .bool true, .bool true], .bool true] by rw [← HVV.out, holdV_no (by rw [show (va == vb) = false by simpa using heq]; simp), decide_eq_true h1, decide_eq_true h2])
        have hne : (va == vb) = false := by simpa using heq
        clear h1 h2
        go_enter Tryd.func72, Tryd.ntmps72
        go_upto_region 2 with fail
        obtain ⟨Z, hZ⟩ : ∃ Z, Z = w.heap.size := ⟨_, rfl⟩
        generalize hw2 : World.alloc (World.alloc w _) _ = w2
        have H2 := Lib.hid (show Below w.heap.size w w2 ∧ RowAt w2 Z 57 #[.int .i64 0, .int .i64 0, .bool false, .bool false] ∧ RowAt w2 (Z + 1) 57 #[.int .i64 kind, .int .i64 (k : Nat), .bool true, .bool true] by
          rw [← hw2, hZ]
          exact ⟨HB.out _ _, (RowAt.mk _ _ _).new ((Below.refl _ _).alloc (Nat.le_refl _) _), by have := RowAt.mk (w.alloc (.cells #[.int .i64 0, .int .i64 0, .bool false, .bool false] 57)) 57 #[.int .i64 kind, .int .i64 (k : Nat), .bool true, .bool true]; rwa [World.size_alloc] at this⟩)
        rw [← hZ]
        have HZ := Lib.hid hZ
        clear hw2 hZ
        have r2 : w2.cell? ⟨Z + 1, 2, none⟩ = some (.bool true) := H2.out.2.2.cell 2
        have r3 : w2.cell? ⟨Z + 1, 3, none⟩ = some (.bool true) := H2.out.2.2.cell 3
        have qa2 : w2.cell? ⟨ba, oa + k, none⟩ = some (.int .i64 va) := (H2.out.1.cell hlta).trans qa
        have qb2 : w2.cell? ⟨bb, ob + k, none⟩ = some (.int .i64 vb) := (H2.out.1.cell hltb).trans qb
        go_quiet (fail)
        generalize hw3 : World.drewN w2 _ = w3
        have H3 := Lib.hid (show Below w.heap.size w w3 ∧ RowAt w3 Z 57 #[.int .i64 0, .int .i64 0, .bool false, .bool false] ∧ RowAt w3 (Z + 1) 57 #[.int .i64 kind, .int .i64 (k : Nat), .bool true, .bool true] by
          rw [← hw3]; exact ⟨below_dn H2.out.1 _, H2.out.2⟩)
        clear hw3 r2 r3 qa2 qb2
        have r0 : w3.cell? ⟨Z + 1, 0, none⟩ = some (.int .i64 kind) := H3.out.2.2.cell 0
        have r1 : w3.cell? ⟨Z + 1, 1, none⟩ = some (.int .i64 (k : Nat)) := H3.out.2.2.cell 1
        have r2 : w3.cell? ⟨Z + 1, 2, none⟩ = some (.bool true) := H3.out.2.2.cell 2
        have r3 : w3.cell? ⟨Z + 1, 3, none⟩ = some (.bool true) := H3.out.2.2.cell 3
        go_wp2_with (first
          | (refine wpList_store_row rfl 57 (.tmp 8) (.tmp 40) rfl Z #[.int .i64 kind, .int .i64 (k : Nat), .bool true, .bool true] rfl rfl 57 _ H3.out.2.1 (by kernel_rfl) rfl (by simp [Value.oneCell']) ?_)
          | fail)
        generalize hw4 : World.setRow w3 _ _ = w4
        have H4 := Lib.hid (show Below w.heap.size w w4 ∧ RowAt w4 Z 57 #[.int .i64 kind, .int .i64 (k : Nat), .bool true, .bool true] by
          rw [← hw4]; exact ⟨below_row H3.out.1 (Nat.le_refl _) (by have := HZ.out; omega) _, H3.out.2.1.put⟩)
        clear hw4 H3 r0 r1 r2 r3
        have x0 : w4.cell? ⟨Z, 0, none⟩ = some (.int .i64 kind) := H4.out.2.cell 0
        have x1 : w4.cell? ⟨Z, 1, none⟩ = some (.int .i64 (k : Nat)) := H4.out.2.cell 1
        have x2 : w4.cell? ⟨Z, 2, none⟩ = some (.bool true) := H4.out.2.cell 2
        have x3 : w4.cell? ⟨Z, 3, none⟩ = some (.bool true) := H4.out.2.cell 3
        refine bodyPost_ret (v := .tuple #[.agg #[.int .i64 kind, .int .i64 (k : Nat), .bool true, .bool true], .bool true]) (by simp [results, Tryd.results72, go_sem, x0, x1, x2, x3]) rfl ?_
        exact ⟨by rw [HV.out], H4.out.1⟩
    · have e2 : ¬ (k : Int) < (nb : Int) := by omega
      have HV := Lib.hid (show hv = .tuple #[.agg #[.int .i64 kind, .int .i64 (k : Nat), .bool true, .bool false], .bool true] by rw [← HVV.out, holdV_no (by omega), decide_eq_true h1, decide_eq_false h2])
      clear ha hb h1 h2
      go_enter Tryd.func72, Tryd.ntmps72
      go_upto_region 2 with fail
      obtain ⟨Z, hZ⟩ : ∃ Z, Z = w.heap.size := ⟨_, rfl⟩
      generalize hw2 : World.alloc (World.alloc w _) _ = w2
      have H2 := Lib.hid (show Below w.heap.size w w2 ∧ RowAt w2 Z 57 #[.int .i64 0, .int .i64 0, .bool false, .bool false] ∧ RowAt w2 (Z + 1) 57 #[.int .i64 kind, .int .i64 (k : Nat), .bool true, .bool false] by
        rw [← hw2, hZ]
        exact ⟨HB.out _ _, (RowAt.mk _ _ _).new ((Below.refl _ _).alloc (Nat.le_refl _) _), by have := RowAt.mk (w.alloc (.cells #[.int .i64 0, .int .i64 0, .bool false, .bool false] 57)) 57 #[.int .i64 kind, .int .i64 (k : Nat), .bool true, .bool false]; rwa [World.size_alloc] at this⟩)
      rw [← hZ]
      have HZ := Lib.hid hZ
      clear hw2 hZ
      have r2 : w2.cell? ⟨Z + 1, 2, none⟩ = some (.bool true) := H2.out.2.2.cell 2
      have r3 : w2.cell? ⟨Z + 1, 3, none⟩ = some (.bool false) := H2.out.2.2.cell 3
      go_quiet (fail)
      generalize hw3 : World.drewN w2 _ = w3
      have H3 := Lib.hid (show Below w.heap.size w w3 ∧ RowAt w3 Z 57 #[.int .i64 0, .int .i64 0, .bool false, .bool false] ∧ RowAt w3 (Z + 1) 57 #[.int .i64 kind, .int .i64 (k : Nat), .bool true, .bool false] by
        rw [← hw3]; exact ⟨below_dn H2.out.1 _, H2.out.2⟩)
      clear hw3 r2 r3 
      have r0 : w3.cell? ⟨Z + 1, 0, none⟩ = some (.int .i64 kind) := H3.out.2.2.cell 0
      have r1 : w3.cell? ⟨Z + 1, 1, none⟩ = some (.int .i64 (k : Nat)) := H3.out.2.2.cell 1
      have r2 : w3.cell? ⟨Z + 1, 2, none⟩ = some (.bool true) := H3.out.2.2.cell 2
      have r3 : w3.cell? ⟨Z + 1, 3, none⟩ = some (.bool false) := H3.out.2.2.cell 3
      go_wp2_with (first
        | (refine wpList_store_row rfl 57 (.tmp 8) (.tmp 40) rfl Z #[.int .i64 kind, .int .i64 (k : Nat), .bool true, .bool false] rfl rfl 57 _ H3.out.2.1 (by kernel_rfl) rfl (by simp [Value.oneCell']) ?_)
        | fail)
      generalize hw4 : World.setRow w3 _ _ = w4
      have H4 := Lib.hid (show Below w.heap.size w w4 ∧ RowAt w4 Z 57 #[.int .i64 kind, .int .i64 (k : Nat), .bool true, .bool false] by
        rw [← hw4]; exact ⟨below_row H3.out.1 (Nat.le_refl _) (by have := HZ.out; omega) _, H3.out.2.1.put⟩)
      clear hw4 H3 r0 r1 r2 r3
      have x0 : w4.cell? ⟨Z, 0, none⟩ = some (.int .i64 kind) := H4.out.2.cell 0
      have x1 : w4.cell? ⟨Z, 1, none⟩ = some (.int .i64 (k : Nat)) := H4.out.2.cell 1
      have x2 : w4.cell? ⟨Z, 2, none⟩ = some (.bool true) := H4.out.2.cell 2
      have x3 : w4.cell? ⟨Z, 3, none⟩ = some (.bool false) := H4.out.2.cell 3
      refine bodyPost_ret (v := .tuple #[.agg #[.int .i64 kind, .int .i64 (k : Nat), .bool true, .bool false], .bool true]) (by simp [results, Tryd.results72, go_sem, x0, x1, x2, x3]) rfl ?_
      exact ⟨by rw [HV.out], H4.out.1⟩
  · have e1 : ¬ (k : Int) < (na : Int) := by omega
    by_cases h2 : k < nb
    · have e2 : (k : Int) < (nb : Int) := by omega
      have HV := Lib.hid (show hv = .tuple #[.agg #[.int .i64 kind, .int .i64 (k : Nat), .bool false, .bool true], .bool true] by rw [← HVV.out, holdV_no (by omega), decide_eq_false h1, decide_eq_true h2])
      clear ha hb h1 h2
      go_enter Tryd.func72, Tryd.ntmps72
      go_upto_region 2 with fail
      obtain ⟨Z, hZ⟩ : ∃ Z, Z = w.heap.size := ⟨_, rfl⟩
      generalize hw2 : World.alloc (World.alloc w _) _ = w2
      have H2 := Lib.hid (show Below w.heap.size w w2 ∧ RowAt w2 Z 57 #[.int .i64 0, .int .i64 0, .bool false, .bool false] ∧ RowAt w2 (Z + 1) 57 #[.int .i64 kind, .int .i64 (k : Nat), .bool false, .bool true] by
        rw [← hw2, hZ]
        exact ⟨HB.out _ _, (RowAt.mk _ _ _).new ((Below.refl _ _).alloc (Nat.le_refl _) _), by have := RowAt.mk (w.alloc (.cells #[.int .i64 0, .int .i64 0, .bool false, .bool false] 57)) 57 #[.int .i64 kind, .int .i64 (k : Nat), .bool false, .bool true]; rwa [World.size_alloc] at this⟩)
      rw [← hZ]
      have HZ := Lib.hid hZ
      clear hw2 hZ
      have r2 : w2.cell? ⟨Z + 1, 2, none⟩ = some (.bool false) := H2.out.2.2.cell 2
      have r3 : w2.cell? ⟨Z + 1, 3, none⟩ = some (.bool true) := H2.out.2.2.cell 3
      go_quiet (fail)
      generalize hw3 : World.drewN w2 _ = w3
      have H3 := Lib.hid (show Below w.heap.size w w3 ∧ RowAt w3 Z 57 #[.int .i64 0, .int .i64 0, .bool false, .bool false] ∧ RowAt w3 (Z + 1) 57 #[.int .i64 kind, .int .i64 (k : Nat), .bool false, .bool true] by
        rw [← hw3]; exact ⟨below_dn H2.out.1 _, H2.out.2⟩)
      clear hw3 r2 r3 
      have r0 : w3.cell? ⟨Z + 1, 0, none⟩ = some (.int .i64 kind) := H3.out.2.2.cell 0
      have r1 : w3.cell? ⟨Z + 1, 1, none⟩ = some (.int .i64 (k : Nat)) := H3.out.2.2.cell 1
      have r2 : w3.cell? ⟨Z + 1, 2, none⟩ = some (.bool false) := H3.out.2.2.cell 2
      have r3 : w3.cell? ⟨Z + 1, 3, none⟩ = some (.bool true) := H3.out.2.2.cell 3
      go_wp2_with (first
        | (refine wpList_store_row rfl 57 (.tmp 8) (.tmp 40) rfl Z #[.int .i64 kind, .int .i64 (k : Nat), .bool false, .bool true] rfl rfl 57 _ H3.out.2.1 (by kernel_rfl) rfl (by simp [Value.oneCell']) ?_)
        | fail)
      generalize hw4 : World.setRow w3 _ _ = w4
      have H4 := Lib.hid (show Below w.heap.size w w4 ∧ RowAt w4 Z 57 #[.int .i64 kind, .int .i64 (k : Nat), .bool false, .bool true] by
        rw [← hw4]; exact ⟨below_row H3.out.1 (Nat.le_refl _) (by have := HZ.out; omega) _, H3.out.2.1.put⟩)
      clear hw4 H3 r0 r1 r2 r3
      have x0 : w4.cell? ⟨Z, 0, none⟩ = some (.int .i64 kind) := H4.out.2.cell 0
      have x1 : w4.cell? ⟨Z, 1, none⟩ = some (.int .i64 (k : Nat)) := H4.out.2.cell 1
      have x2 : w4.cell? ⟨Z, 2, none⟩ = some (.bool false) := H4.out.2.cell 2
      have x3 : w4.cell? ⟨Z, 3, none⟩ = some (.bool true) := H4.out.2.cell 3
      refine bodyPost_ret (v := .tuple #[.agg #[.int .i64 kind, .int .i64 (k : Nat), .bool false, .bool true], .bool true]) (by simp [results, Tryd.results72, go_sem, x0, x1, x2, x3]) rfl ?_
      exact ⟨by rw [HV.out], H4.out.1⟩
    · have e2 : ¬ (k : Int) < (nb : Int) := by omega
      have HV := Lib.hid (show hv = .tuple #[.agg #[.int .i64 kind, .int .i64 (k : Nat), .bool false, .bool false], .bool true] by rw [← HVV.out, holdV_no (by omega), decide_eq_false h1, decide_eq_false h2])
      clear ha hb h1 h2
      go_enter Tryd.func72, Tryd.ntmps72
      go_upto_region 2 with fail
      obtain ⟨Z, hZ⟩ : ∃ Z, Z = w.heap.size := ⟨_, rfl⟩
      generalize hw2 : World.alloc (World.alloc w _) _ = w2
      have H2 := Lib.hid (show Below w.heap.size w w2 ∧ RowAt w2 Z 57 #[.int .i64 0, .int .i64 0, .bool false, .bool false] ∧ RowAt w2 (Z + 1) 57 #[.int .i64 kind, .int .i64 (k : Nat), .bool false, .bool false] by
        rw [← hw2, hZ]
        exact ⟨HB.out _ _, (RowAt.mk _ _ _).new ((Below.refl _ _).alloc (Nat.le_refl _) _), by have := RowAt.mk (w.alloc (.cells #[.int .i64 0, .int .i64 0, .bool false, .bool false] 57)) 57 #[.int .i64 kind, .int .i64 (k : Nat), .bool false, .bool false]; rwa [World.size_alloc] at this⟩)
      rw [← hZ]
      have HZ := Lib.hid hZ
      clear hw2 hZ
      have r2 : w2.cell? ⟨Z + 1, 2, none⟩ = some (.bool false) := H2.out.2.2.cell 2
      have r3 : w2.cell? ⟨Z + 1, 3, none⟩ = some (.bool false) := H2.out.2.2.cell 3
      go_quiet (fail)
      generalize hw3 : World.drewN w2 _ = w3
      have H3 := Lib.hid (show Below w.heap.size w w3 ∧ RowAt w3 Z 57 #[.int .i64 0, .int .i64 0, .bool false, .bool false] ∧ RowAt w3 (Z + 1) 57 #[.int .i64 kind, .int .i64 (k : Nat), .bool false, .bool false] by
        rw [← hw3]; exact ⟨below_dn H2.out.1 _, H2.out.2⟩)
      clear hw3 r2 r3 
      have r0 : w3.cell? ⟨Z + 1, 0, none⟩ = some (.int .i64 kind) := H3.out.2.2.cell 0
      have r1 : w3.cell? ⟨Z + 1, 1, none⟩ = some (.int .i64 (k : Nat)) := H3.out.2.2.cell 1
      have r2 : w3.cell? ⟨Z + 1, 2, none⟩ = some (.bool false) := H3.out.2.2.cell 2
      have r3 : w3.cell? ⟨Z + 1, 3, none⟩ = some (.bool false) := H3.out.2.2.cell 3
      go_wp2_with (first
        | (refine wpList_store_row rfl 57 (.tmp 8) (.tmp 40) rfl Z #[.int .i64 kind, .int .i64 (k : Nat), .bool false, .bool false] rfl rfl 57 _ H3.out.2.1 (by kernel_rfl) rfl (by simp [Value.oneCell']) ?_)
        | fail)
      generalize hw4 : World.setRow w3 _ _ = w4
      have H4 := Lib.hid (show Below w.heap.size w w4 ∧ RowAt w4 Z 57 #[.int .i64 kind, .int .i64 (k : Nat), .bool false, .bool false] by
        rw [← hw4]; exact ⟨below_row H3.out.1 (Nat.le_refl _) (by have := HZ.out; omega) _, H3.out.2.1.put⟩)
      clear hw4 H3 r0 r1 r2 r3
      have x0 : w4.cell? ⟨Z, 0, none⟩ = some (.int .i64 kind) := H4.out.2.cell 0
      have x1 : w4.cell? ⟨Z, 1, none⟩ = some (.int .i64 (k : Nat)) := H4.out.2.cell 1
      have x2 : w4.cell? ⟨Z, 2, none⟩ = some (.bool false) := H4.out.2.cell 2
      have x3 : w4.cell? ⟨Z, 3, none⟩ = some (.bool false) := H4.out.2.cell 3
      refine bodyPost_ret (v := .tuple #[.agg #[.int .i64 kind, .int .i64 (k : Nat), .bool false, .bool false], .bool true]) (by simp [results, Tryd.results72, go_sem, x0, x1, x2, x3]) rfl ?_
      exact ⟨by rw [HV.out], H4.out.1⟩
set_option maxHeartbeats 2000000 in
set_option maxRecDepth 100000 in
theorem dfHoldU_any {w : World} (kind : Int) (k na nb ca cb : Nat) (spa spb : Option Addr) (va vb : BitVec 32) (ba oa bb ob : Nat) (_hka : k ≤ 1000) (_hna : na ≤ 1000) (_hnb : nb ≤ 1000)
    (ha : k < na → spa = some ⟨ba, oa, none⟩ ∧ w.cell? ⟨ba, oa + k, none⟩ = some (.int .u32 (w32 va))) (hb : k < nb → spb = some ⟨bb, ob, none⟩ ∧ w.cell? ⟨bb, ob + k, none⟩ = some (.int .u32 (w32 vb))) :
    Calls Tryd.prog 74 #[.int .i64 kind, .int .i64 (k : Nat), .slice spa na ca, .slice spb nb cb] w fun e w' => e = .returned (holdV kind k na nb (va == vb)) ∧ Below w.heap.size w w' := by
  have HB := Lib.hid (show ∀ a b : Obj, Below w.heap.size w ((w.alloc a).alloc b) from fun a b => ((Below.refl _ _).alloc (Nat.le_refl _) _).alloc (by simp) _)
  obtain ⟨hv, hhv⟩ : ∃ v, holdV kind k na nb (va == vb) = v := ⟨_, rfl⟩
  have HVV := Lib.hid hhv
  rw [hhv]
  clear hhv
  by_cases h1 : k < na
  · obtain ⟨rfl, qa⟩ := ha h1
    have hlta := World.block_lt_of_cell? w _ qa
    simp only at hlta
    have e1 : (k : Int) < (na : Int) := by omega
    by_cases h2 : k < nb
    · obtain ⟨rfl, qb⟩ := hb h2
      have hltb := World.block_lt_of_cell? w _ qb
      simp only at hltb
      have e2 : (k : Int) < (nb : Int) := by omega
      clear ha hb
      by_cases heq : va = vb
      · subst heq
        have HV := Lib.hid (show hv = .tuple #[.agg #[.int .i64 0, .int .i64 0, .bool false, .bool false], .bool false] by rw [← HVV.out, show (va == va) = true by simp]; exact holdV_yes h1 h2)
        clear h1 h2
        go_enter Tryd.func74, Tryd.ntmps74
        go_upto_region 2 with fail
        obtain ⟨Z, hZ⟩ : ∃ Z, Z = w.heap.size := ⟨_, rfl⟩
        generalize hw2 : World.alloc (World.alloc w _) _ = w2
        have H2 := Lib.hid (show Below w.heap.size w w2 ∧ RowAt w2 Z 57 #[.int .i64 0, .int .i64 0, .bool false, .bool false] ∧ RowAt w2 (Z + 1) 57 #[.int .i64 kind, .int .i64 (k : Nat), .bool true, .bool true] by
          rw [← hw2, hZ]
          exact ⟨HB.out _ _, (RowAt.mk _ _ _).new ((Below.refl _ _).alloc (Nat.le_refl _) _), by have := RowAt.mk (w.alloc (.cells #[.int .i64 0, .int .i64 0, .bool false, .bool false] 57)) 57 #[.int .i64 kind, .int .i64 (k : Nat), .bool true, .bool true]; rwa [World.size_alloc] at this⟩)
        rw [← hZ]
        have HZ := Lib.hid hZ
        clear hw2 hZ
        have r2 : w2.cell? ⟨Z + 1, 2, none⟩ = some (.bool true) := H2.out.2.2.cell 2
        have r3 : w2.cell? ⟨Z + 1, 3, none⟩ = some (.bool true) := H2.out.2.2.cell 3
        have qa2 : w2.cell? ⟨ba, oa + k, none⟩ = some (.int .u32 (w32 va)) := (H2.out.1.cell hlta).trans qa
        have qb2 : w2.cell? ⟨bb, ob + k, none⟩ = some (.int .u32 (w32 va)) := (H2.out.1.cell hltb).trans qb
        go_quiet (fail)
        generalize hw3 : World.drewN w2 _ = w3
        have H3 := Lib.hid (show Below w.heap.size w w3 ∧ RowAt w3 Z 57 #[.int .i64 0, .int .i64 0, .bool false, .bool false] ∧ RowAt w3 (Z + 1) 57 #[.int .i64 kind, .int .i64 (k : Nat), .bool true, .bool true] by
          rw [← hw3]; exact ⟨below_dn H2.out.1 _, H2.out.2⟩)
        clear hw3 r2 r3 qa2 qb2
        go_wp2_with (first
          | (refine wpList_store_row rfl 57 (.tmp 8) (.tmp 39) rfl Z #[.int .i64 0, .int .i64 0, .bool false, .bool false] rfl rfl 57 _ H3.out.2.1 (by kernel_rfl) rfl (by simp [Value.oneCell']) ?_)
          | fail)
        generalize hw4 : World.setRow w3 _ _ = w4
        have H4 := Lib.hid (show Below w.heap.size w w4 ∧ RowAt w4 Z 57 #[.int .i64 0, .int .i64 0, .bool false, .bool false] by
          rw [← hw4]; exact ⟨below_row H3.out.1 (Nat.le_refl _) (by have := HZ.out; omega) _, H3.out.2.1.put⟩)
        clear hw4 H3
        have x0 : w4.cell? ⟨Z, 0, none⟩ = some (.int .i64 0) := H4.out.2.cell 0
        have x1 : w4.cell? ⟨Z, 1, none⟩ = some (.int .i64 0) := H4.out.2.cell 1
        have x2 : w4.cell? ⟨Z, 2, none⟩ = some (.bool false) := H4.out.2.cell 2
        have x3 : w4.cell? ⟨Z, 3, none⟩ = some (.bool false) := H4.out.2.cell 3
        refine bodyPost_ret (v := .tuple #[.agg #[.int .i64 0, .int .i64 0, .bool false, .bool false], .bool false]) (by simp [results, Tryd.results74, go_sem, x0, x1, x2, x3]) rfl ?_
        exact ⟨by rw [HV.out], H4.out.1⟩
      · have HV := Lib.hid (show hv = .tuple #[.agg #[.int .i64 kind, .int .i64 (k : Nat), .bool true, .bool true], .bool true] by rw [← HVV.out, holdV_no (by rw [show (va == vb) = false by simpa using heq]; simp), decide_eq_true h1, decide_eq_true h2])
        have hne : (va == vb) = false := by simpa using heq
        have hne2 : (w32 va == w32 vb) = false := by simp [w32_inj]; exact heq
        clear h1 h2
        go_enter Tryd.func74, Tryd.ntmps74
        go_upto_region 2 with fail
        obtain ⟨Z, hZ⟩ : ∃ Z, Z = w.heap.size := ⟨_, rfl⟩
        generalize hw2 : World.alloc (World.alloc w _) _ = w2
        have H2 := Lib.hid (show Below w.heap.size w w2 ∧ RowAt w2 Z 57 #[.int .i64 0, .int .i64 0, .bool false, .bool false] ∧ RowAt w2 (Z + 1) 57 #[.int .i64 kind, .int .i64 (k : Nat), .bool true, .bool true] by
          rw [← hw2, hZ]
          exact ⟨HB.out _ _, (RowAt.mk _ _ _).new ((Below.refl _ _).alloc (Nat.le_refl _) _), by have := RowAt.mk (w.alloc (.cells #[.int .i64 0, .int .i64 0, .bool false, .bool false] 57)) 57 #[.int .i64 kind, .int .i64 (k : Nat), .bool true, .bool true]; rwa [World.size_alloc] at this⟩)
        rw [← hZ]
        have HZ := Lib.hid hZ
        clear hw2 hZ
        have r2 : w2.cell? ⟨Z + 1, 2, none⟩ = some (.bool true) := H2.out.2.2.cell 2
        have r3 : w2.cell? ⟨Z + 1, 3, none⟩ = some (.bool true) := H2.out.2.2.cell 3
        have qa2 : w2.cell? ⟨ba, oa + k, none⟩ = some (.int .u32 (w32 va)) := (H2.out.1.cell hlta).trans qa
        have qb2 : w2.cell? ⟨bb, ob + k, none⟩ = some (.int .u32 (w32 vb)) := (H2.out.1.cell hltb).trans qb
        go_quiet (fail)
        generalize hw3 : World.drewN w2 _ = w3
        have H3 := Lib.hid (show Below w.heap.size w w3 ∧ RowAt w3 Z 57 #[.int .i64 0, .int .i64 0, .bool false, .bool false] ∧ RowAt w3 (Z + 1) 57 #[.int .i64 kind, .int .i64 (k : Nat), .bool true, .bool true] by
          rw [← hw3]; exact ⟨below_dn H2.out.1 _, H2.out.2⟩)
        clear hw3 r2 r3 qa2 qb2
        have r0 : w3.cell? ⟨Z + 1, 0, none⟩ = some (.int .i64 kind) := H3.out.2.2.cell 0
        have r1 : w3.cell? ⟨Z + 1, 1, none⟩ = some (.int .i64 (k : Nat)) := H3.out.2.2.cell 1
        have r2 : w3.cell? ⟨Z + 1, 2, none⟩ = some (.bool true) := H3.out.2.2.cell 2
        have r3 : w3.cell? ⟨Z + 1, 3, none⟩ = some (.bool true) := H3.out.2.2.cell 3
        go_wp2_with (first
          | (refine wpList_store_row rfl 57 (.tmp 8) (.tmp 40) rfl Z #[.int .i64 kind, .int .i64 (k : Nat), .bool true, .bool true] rfl rfl 57 _ H3.out.2.1 (by kernel_rfl) rfl (by simp [Value.oneCell']) ?_)
          | fail)
        generalize hw4 : World.setRow w3 _ _ = w4
        have H4 := Lib.hid (show Below w.heap.size w w4 ∧ RowAt w4 Z 57 #[.int .i64 kind, .int .i64 (k : Nat), .bool true, .bool true] by
          rw [← hw4]; exact ⟨below_row H3.out.1 (Nat.le_refl _) (by have := HZ.out; omega) _, H3.out.2.1.put⟩)
        clear hw4 H3 r0 r1 r2 r3
        have x0 : w4.cell? ⟨Z, 0, none⟩ = some (.int .i64 kind) := H4.out.2.cell 0
        have x1 : w4.cell? ⟨Z, 1, none⟩ = some (.int .i64 (k : Nat)) := H4.out.2.cell 1
        have x2 : w4.cell? ⟨Z, 2, none⟩ = some (.bool true) := H4.out.2.cell 2
        have x3 : w4.cell? ⟨Z, 3, none⟩ = some (.bool true) := H4.out.2.cell 3
        refine bodyPost_ret (v := .tuple #[.agg #[.int .i64 kind, .int .i64 (k : Nat), .bool true, .bool true], .bool true]) (by simp [results, Tryd.results74, go_sem, x0, x1, x2, x3]) rfl ?_
        exact ⟨by rw [HV.out], H4.out.1⟩
    · have e2 : ¬ (k : Int) < (nb : Int) := by omega
      have HV := Lib.hid (show hv = .tuple #[.agg #[.int .i64 kind, .int .i64 (k : Nat), .bool true, .bool false], .bool true] by rw [← HVV.out, holdV_no (by omega), decide_eq_true h1, decide_eq_false h2])
      clear ha hb h1 h2
      go_enter Tryd.func74, Tryd.ntmps74
      go_upto_region 2 with fail
      obtain ⟨Z, hZ⟩ : ∃ Z, Z = w.heap.size := ⟨_, rfl⟩
      generalize hw2 : World.alloc (World.alloc w _) _ = w2
      have H2 := Lib.hid (show Below w.heap.size w w2 ∧ RowAt w2 Z 57 #[.int .i64 0, .int .i64 0, .bool false, .bool false] ∧ RowAt w2 (Z + 1) 57 #[.int .i64 kind, .int .i64 (k : Nat), .bool true, .bool false] by
        rw [← hw2, hZ]
        exact ⟨HB.out _ _, (RowAt.mk _ _ _).new ((Below.refl _ _).alloc (Nat.le_refl _) _), by have := RowAt.mk (w.alloc (.cells #[.int .i64 0, .int .i64 0, .bool false, .bool false] 57)) 57 #[.int .i64 kind, .int .i64 (k : Nat), .bool true, .bool false]; rwa [World.size_alloc] at this⟩)
      rw [← hZ]
      have HZ := Lib.hid hZ
      clear hw2 hZ
      have r2 : w2.cell? ⟨Z + 1, 2, none⟩ = some (.bool true) := H2.out.2.2.cell 2
      have r3 : w2.cell? ⟨Z + 1, 3, none⟩ = some (.bool false) := H2.out.2.2.cell 3
      go_quiet (fail)
      generalize hw3 : World.drewN w2 _ = w3
      have H3 := Lib.hid (show Below w.heap.size w w3 ∧ RowAt w3 Z 57 #[.int .i64 0, .int .i64 0, .bool false, .bool false] ∧ RowAt w3 (Z + 1) 57 #[.int .i64 kind, .int .i64 (k : Nat), .bool true, .bool false] by
        rw [← hw3]; exact ⟨below_dn H2.out.1 _, H2.out.2⟩)
      clear hw3 r2 r3 
      have r0 : w3.cell? ⟨Z + 1, 0, none⟩ = some (.int .i64 kind) := H3.out.2.2.cell 0
      have r1 : w3.cell? ⟨Z + 1, 1, none⟩ = some (.int .i64 (k : Nat)) := H3.out.2.2.cell 1
      have r2 : w3.cell? ⟨Z + 1, 2, none⟩ = some (.bool true) := H3.out.2.2.cell 2
      have r3 : w3.cell? ⟨Z + 1, 3, none⟩ = some (.bool false) := H3.out.2.2.cell 3
      go_wp2_with (first
        | (refine wpList_store_row rfl 57 (.tmp 8) (.tmp 40) rfl Z #[.int .i64 kind, .int .i64 (k : Nat), .bool true, .bool false] rfl rfl 57 _ H3.out.2.1 (by kernel_rfl) rfl (by simp [Value.oneCell']) ?_)
        | fail)
      generalize hw4 : World.setRow w3 _ _ = w4
      have H4 := Lib.hid (show Below w.heap.size w w4 ∧ RowAt w4 Z 57 #[.int .i64 kind, .int .i64 (k : Nat), .bool true, .bool false] by
        rw [← hw4]; exact ⟨below_row H3.out.1 (Nat.le_refl _) (by have := HZ.out; omega) _, H3.out.2.1.put⟩)
      clear hw4 H3 r0 r1 r2 r3
      have x0 : w4.cell? ⟨Z, 0, none⟩ = some (.int .i64 kind) := H4.out.2.cell 0
      have x1 : w4.cell? ⟨Z, 1, none⟩ = some (.int .i64 (k : Nat)) := H4.out.2.cell 1
      have x2 : w4.cell? ⟨Z, 2, none⟩ = some (.bool true) := H4.out.2.cell 2
      have x3 : w4.cell? ⟨Z, 3, none⟩ = some (.bool false) := H4.out.2.cell 3
      refine bodyPost_ret (v := .tuple #[.agg #[.int .i64 kind, .int .i64 (k : Nat), .bool true, .bool false], .bool true]) (by simp [results, Tryd.results74, go_sem, x0, x1, x2, x3]) rfl ?_
      exact ⟨by rw [HV.out], H4.out.1⟩
  · have e1 : ¬ (k : Int) < (na : Int) := by omega
    by_cases h2 : k < nb
    · have e2 : (k : Int) < (nb : Int) := by omega
      have HV := Lib.hid (show hv = .tuple #[.agg #[.int .i64 kind, .int .i64 (k : Nat), .bool false, .bool true], .bool true] by rw [← HVV.out, holdV_no (by omega), decide_eq_false h1, decide_eq_true h2])
      clear ha hb h1 h2
      go_enter Tryd.func74, Tryd.ntmps74
      go_upto_region 2 with fail
      obtain ⟨Z, hZ⟩ : ∃ Z, Z = w.heap.size := ⟨_, rfl⟩
      generalize hw2 : World.alloc (World.alloc w _) _ = w2
      have H2 := Lib.hid (show Below w.heap.size w w2 ∧ RowAt w2 Z 57 #[.int .i64 0, .int .i64 0, .bool false, .bool false] ∧ RowAt w2 (Z + 1) 57 #[.int .i64 kind, .int .i64 (k : Nat), .bool false, .bool true] by
        rw [← hw2, hZ]
        exact ⟨HB.out _ _, (RowAt.mk _ _ _).new ((Below.refl _ _).alloc (Nat.le_refl _) _), by have := RowAt.mk (w.alloc (.cells #[.int .i64 0, .int .i64 0, .bool false, .bool false] 57)) 57 #[.int .i64 kind, .int .i64 (k : Nat), .bool false, .bool true]; rwa [World.size_alloc] at this⟩)
      rw [← hZ]
      have HZ := Lib.hid hZ
      clear hw2 hZ
      have r2 : w2.cell? ⟨Z + 1, 2, none⟩ = some (.bool false) := H2.out.2.2.cell 2
      have r3 : w2.cell? ⟨Z + 1, 3, none⟩ = some (.bool true) := H2.out.2.2.cell 3
      go_quiet (fail)
      generalize hw3 : World.drewN w2 _ = w3
      have H3 := Lib.hid (show Below w.heap.size w w3 ∧ RowAt w3 Z 57 #[.int .i64 0, .int .i64 0, .bool false, .bool false] ∧ RowAt w3 (Z + 1) 57 #[.int .i64 kind, .int .i64 (k : Nat), .bool false, .bool true] by
        rw [← hw3]; exact ⟨below_dn H2.out.1 _, H2.out.2⟩)
      clear hw3 r2 r3 
      have r0 : w3.cell? ⟨Z + 1, 0, none⟩ = some (.int .i64 kind) := H3.out.2.2.cell 0
      have r1 : w3.cell? ⟨Z + 1, 1, none⟩ = some (.int .i64 (k : Nat)) := H3.out.2.2.cell 1
      have r2 : w3.cell? ⟨Z + 1, 2, none⟩ = some (.bool false) := H3.out.2.2.cell 2
      have r3 : w3.cell? ⟨Z + 1, 3, none⟩ = some (.bool true) := H3.out.2.2.cell 3
      go_wp2_with (first
        | (refine wpList_store_row rfl 57 (.tmp 8) (.tmp 40) rfl Z #[.int .i64 kind, .int .i64 (k : Nat), .bool false, .bool true] rfl rfl 57 _ H3.out.2.1 (by kernel_rfl) rfl (by simp [Value.oneCell']) ?_)
        | fail)
      generalize hw4 : World.setRow w3 _ _ = w4
      have H4 := Lib.hid (show Below w.heap.size w w4 ∧ RowAt w4 Z 57 #[.int .i64 kind, .int .i64 (k : Nat), .bool false, .bool true] by
        rw [← hw4]; exact ⟨below_row H3.out.1 (Nat.le_refl _) (by have := HZ.out; omega) _, H3.out.2.1.put⟩)
      clear hw4 H3 r0 r1 r2 r3
      have x0 : w4.cell? ⟨Z, 0, none⟩ = some (.int .i64 kind) := H4.out.2.cell 0
      have x1 : w4.cell? ⟨Z, 1, none⟩ = some (.int .i64 (k : Nat)) := H4.out.2.cell 1
      have x2 : w4.cell? ⟨Z, 2, none⟩ = some (.bool false) := H4.out.2.cell 2
      have x3 : w4.cell? ⟨Z, 3, none⟩ = some (.bool true) := H4.out.2.cell 3
      refine bodyPost_ret (v := .tuple #[.agg #[.int .i64 kind, .int .i64 (k : Nat), .bool false, .bool true], .bool true]) (by simp [results, Tryd.results74, go_sem, x0, x1, x2, x3]) rfl ?_
      exact ⟨by rw [HV.out], H4.out.1⟩
    · have e2 : ¬ (k : Int) < (nb : Int) := by omega
      have HV := Lib.hid (show hv = .tuple #[.agg #[.int .i64 kind, .int .i64 (k : Nat), .bool false, .bool false], .bool true] by rw [← HVV.out, holdV_no (by omega), decide_eq_false h1, decide_eq_false h2])
      clear ha hb h1 h2
      go_enter Tryd.func74, Tryd.ntmps74
      go_upto_region 2 with fail
      obtain ⟨Z, hZ⟩ : ∃ Z, Z = w.heap.size := ⟨_, rfl⟩
      generalize hw2 : World.alloc (World.alloc w _) _ = w2
      have H2 := Lib.hid (show Below w.heap.size w w2 ∧ RowAt w2 Z 57 #[.int .i64 0, .int .i64 0, .bool false, .bool false] ∧ RowAt w2 (Z + 1) 57 #[.int .i64 kind, .int .i64 (k : Nat), .bool false, .bool false] by
        rw [← hw2, hZ]
        exact ⟨HB.out _ _, (RowAt.mk _ _ _).new ((Below.refl _ _).alloc (Nat.le_refl _) _), by have := RowAt.mk (w.alloc (.cells #[.int .i64 0, .int .i64 0, .bool false, .bool false] 57)) 57 #[.int .i64 kind, .int .i64 (k : Nat), .bool false, .bool false]; rwa [World.size_alloc] at this⟩)
      rw [← hZ]
      have HZ := Lib.hid hZ
      clear hw2 hZ
      have r2 : w2.cell? ⟨Z + 1, 2, none⟩ = some (.bool false) := H2.out.2.2.cell 2
      have r3 : w2.cell? ⟨Z + 1, 3, none⟩ = some (.bool false) := H2.out.2.2.cell 3
      go_quiet (fail)
      generalize hw3 : World.drewN w2 _ = w3
      have H3 := Lib.hid (show Below w.heap.size w w3 ∧ RowAt w3 Z 57 #[.int .i64 0, .int .i64 0, .bool false, .bool false] ∧ RowAt w3 (Z + 1) 57 #[.int .i64 kind, .int .i64 (k : Nat), .bool false, .bool false] by
        rw [← hw3]; exact ⟨below_dn H2.out.1 _, H2.out.2⟩)
      clear hw3 r2 r3 
      have r0 : w3.cell? ⟨Z + 1, 0, none⟩ = some (.int .i64 kind) := H3.out.2.2.cell 0
      have r1 : w3.cell? ⟨Z + 1, 1, none⟩ = some (.int .i64 (k : Nat)) := H3.out.2.2.cell 1
      have r2 : w3.cell? ⟨Z + 1, 2, none⟩ = some (.bool false) := H3.out.2.2.cell 2
      have r3 : w3.cell? ⟨Z + 1, 3, none⟩ = some (.bool false) := H3.out.2.2.cell 3
      go_wp2_with (first
        | (refine wpList_store_row rfl 57 (.tmp 8) (.tmp 40) rfl Z #[.int .i64 kind, .int .i64 (k : Nat), .bool false, .bool false] rfl rfl 57 _ H3.out.2.1 (by kernel_rfl) rfl (by simp [Value.oneCell']) ?_)
        | fail)
      generalize hw4 : World.setRow w3 _ _ = w4
      have H4 := Lib.hid (show Below w.heap.size w w4 ∧ RowAt w4 Z 57 #[.int .i64 kind, .int .i64 (k : Nat), .bool false, .bool false] by
        rw [← hw4]; exact ⟨below_row H3.out.1 (Nat.le_refl _) (by have := HZ.out; omega) _, H3.out.2.1.put⟩)
      clear hw4 H3 r0 r1 r2 r3
      have x0 : w4.cell? ⟨Z, 0, none⟩ = some (.int .i64 kind) := H4.out.2.cell 0
      have x1 : w4.cell? ⟨Z, 1, none⟩ = some (.int .i64 (k : Nat)) := H4.out.2.cell 1
      have x2 : w4.cell? ⟨Z, 2, none⟩ = some (.bool false) := H4.out.2.cell 2
      have x3 : w4.cell? ⟨Z, 3, none⟩ = some (.bool false) := H4.out.2.cell 3
      refine bodyPost_ret (v := .tuple #[.agg #[.int .i64 kind, .int .i64 (k : Nat), .bool false, .bool false], .bool true]) (by simp [results, Tryd.results74, go_sem, x0, x1, x2, x3]) rfl ?_
      exact ⟨by rw [HV.out], H4.out.1⟩
end Go.Proofs.YtknkhigmokooaaaDoor
