/- The contract of slices' Equal on queues. -/
import Derived.Test.YtknkhigmokooaaaDoorJZ
namespace Go.Proofs.YtknkhigmokooaaaDoor
open Go.RowKit

def qEqJ (a b : List (Int × Int)) (j : Nat) : Bool := decide ((qth a j).1 = (qth b j).1 ∧ (qth a j).2 = (qth b j).2)
def qC (a : List (Int × Int)) (j : Nat) : List Value := [.int .i64 (qth a j).1, .int .i64 (qth a j).2]
set_option maxHeartbeats 4000000 in
set_option maxRecDepth 100000 in
theorem eqQ_any {w : World} (qa qb : List (Int × Int)) (sp sp' : Option Addr) (c c' b0 o0 b1 o1 : Nat) (hsm : qa.length ≤ 1000) (hsm' : qb.length ≤ 1000)
    (hsp : 0 < qa.length → sp = some ⟨b0, o0, none⟩) (hsp' : 0 < qb.length → sp' = some ⟨b1, o1, none⟩)
    (hA : ∀ k, k < qa.length → ∀ wx, Below w.heap.size w wx → At wx b0 (o0 + k * 2) (qC qa k)) (hB : ∀ k, k < qb.length → ∀ wx, Below w.heap.size w wx → At wx b1 (o1 + k * 2) (qC qb k)) :
    Calls Tryd.prog 75 #[.slice sp qa.length c, .slice sp' qb.length c'] w fun e w' => e = .returned (.bool (qsEq qa qb)) ∧ Below w.heap.size w w' := by
  have HO := Lib.hid (show qsEq qa qb = (decide (qa.length = qb.length) && (List.range qa.length).all fun k => qEqJ qa qb k) from rfl)
  have HC := Lib.hid (fun (k : Nat) (hk : k < qa.length) (wx : World) (hb : Below w.heap.size w wx) => show At wx b0 (o0 + k * 2) (qC qa k) ∧ (qC qa k).length = 2 from ⟨hA k hk wx hb, rfl⟩)
  have HC' := Lib.hid (fun (k : Nat) (hk : k < qb.length) (wx : World) (hb : Below w.heap.size w wx) => show At wx b1 (o1 + k * 2) (qC qb k) ∧ (qC qb k).length = 2 from ⟨hB k hk wx hb, rfl⟩)
  have HN := Lib.hid (fun (k : Nat) (wx : World) => show (Go.binOp .neq 112 (.agg (qC qa k).toArray) (.agg (qC qb k).toArray)).run Tryd.prog wx = .ok (.bool (!qEqJ qa qb k)) wx from neq_queue _ _ _ _ wx)
  have HSp := Lib.hid hsp
  have HSp' := Lib.hid hsp'
  obtain ⟨n, hn⟩ : ∃ n, qa.length = n := ⟨_, rfl⟩
  obtain ⟨n', hn'⟩ : ∃ n, qb.length = n := ⟨_, rfl⟩
  obtain ⟨v, hv⟩ : ∃ v, qsEq qa qb = v := ⟨_, rfl⟩
  rw [hn] at HC HSp hsm
  rw [hn'] at HC' HSp' hsm'
  rw [hv, hn, hn'] at HO
  rw [hn, hn', hv]
  clear hsp hsp' hA hB hn hn' hv
  by_cases hnn : n = n'
  case neg =>
    have HV := Lib.hid (show v = false by rw [HO.out, decide_eq_false hnn]; rfl)
    have hne : ¬ (n : Int) = (n' : Int) := by omega
    clear HO HC HC' HN HSp HSp' hnn
    go_enter Tryd.func75, Tryd.ntmps75
    go_wp2
    go_ret
    exact ⟨by rw [HV.out]; rfl, Below.refl _ _⟩
  subst hnn
  have HV := Lib.hid (show v = (List.range n).all fun k => qEqJ qa qb k from HO.out.trans (by rw [decide_eq_true rfl, Bool.true_and]))
  clear HO
  go_enter Tryd.func75, Tryd.ntmps75
  go_wp2
  go_loopg [13] n (fun g u wr => ∃ k : Nat, k + g = n ∧ u = .int .i64 (k : Nat) ∧ Aside (Below w.heap.size w wr ∧ ∀ j, j < k → qEqJ qa qb j = true))
  case atStart => exact ⟨0, by omega, rfl, Below.refl _ _, fun j hj => absurd hj (Nat.not_lt_zero j)⟩
  case round =>
    obtain ⟨k, hkg, rfl, HR⟩ := hrel
    cases gk with
    | zero =>
      obtain rfl : k = n := by omega
      have HV2 := Lib.hid (show v = true by rw [HV.out]; exact rangeAll_yes HR.out.2)
      go_wp2
      go_ret
      exact ⟨by rw [HV2.out]; rfl, HR.out.1⟩
    | succ g1 =>
      have hk : k < n := by omega
      obtain rfl := HSp.out (by omega)
      obtain rfl := HSp'.out (by omega)
      have HNk := HN.out k
      have HA := Lib.hid (fun wx hb => HC.out k hk wx hb)
      have HB := Lib.hid (fun wx hb => HC'.out k hk wx hb)
      have HF := Lib.hid (fun (hb : qEqJ qa qb k = false) => show v = false from HV.out.trans (rangeAll_no hk hb))
      have HY := Lib.hid (fun (hb : qEqJ qa qb k = true) => show ∀ j, j < k + 1 → qEqJ qa qb j = true from fun j hj => by
        rcases Nat.lt_or_ge j k with h2 | h2
        · exact HR.out.2 j h2
        · obtain rfl : j = k := by omega
          exact hb)
      obtain ⟨cs, hcs⟩ : ∃ c, qC qa k = c := ⟨_, rfl⟩
      obtain ⟨ct, hct⟩ : ∃ c, qC qb k = c := ⟨_, rfl⟩
      obtain ⟨q, hq⟩ : ∃ q, qEqJ qa qb k = q := ⟨_, rfl⟩
      rw [hcs] at HA HNk
      rw [hct] at HB HNk
      rw [hq] at HNk HF HY
      obtain ⟨nq, hnq⟩ : ∃ b, (!q) = b := ⟨_, rfl⟩
      rw [hnq] at HNk
      have HQ := Lib.hid (show q = !nq by rw [← hnq]; simp)
      have hk2 : (k : Int) < (n : Int) := by omega
      have hk3 : (k : Int) + 1 ≤ 9223372036854775807 := by omega
      have hgd : Tryd.prog.eqGuardType Tryd.prog.depth 112 = false := by kernel_rfl
      have HL := Lib.hid (And.intro (HA.out wr HR.out.1).2 (HB.out wr HR.out.1).2)
      clear hcs hct hq hnq HC HC' HN HSp HSp' HV
      go_upto_region 6 with fail
      refine wp_region_held_drew (S := fun w' => Below w.heap.size w w') (by kernel_rfl) (below_dn HR.out.1 1) (fun hS => ?_)
      refine wpAnyH_take (i := 0) (oi := { dst := some 16, op := .move (.tmp 0), type := 66, pos := "slices.go:25", after := #[], guard := none }) (v := ?_) rfl (by kernel_rfl) (by kernel_rfl) (by kernel_rfl) (fun _ _ _ h => h) (Or.inl ⟨by rfl, ?_⟩) hS ?_
      rotate_left 1
      · intro w hw; obtain s0 := hw; go_simp; try (with_reducible rfl)
      simp only [Act.put, List.setIfInBounds_toArray, List.set_cons_zero, List.set_cons_succ]
      refine wpAnyH_take (i := 1) (oi := { dst := some 17, op := .move (.tmp 5), type := 3, pos := "slices.go:25", after := #[], guard := none }) (v := ?_) rfl (by kernel_rfl) (by kernel_rfl) (by kernel_rfl) (fun _ _ _ h => h) (Or.inl ⟨by rfl, ?_⟩) hS ?_
      rotate_left 1
      · intro w hw; obtain s0 := hw; go_simp; try (with_reducible rfl)
      simp only [Act.put, List.setIfInBounds_toArray, List.set_cons_zero, List.set_cons_succ]
      refine wpAnyH_take (i := 2) (oi := { dst := some 18, op := .indexAddr 66 (.tmp 16) (.tmp 17), type := 0, pos := "slices.go:25", after := #[{ on := 0, ground := .data }, { on := 1, ground := .data }], guard := none }) (v := ?_) rfl (by kernel_rfl) (by kernel_rfl) (by kernel_rfl) (fun _ _ _ h => h) (Or.inl ⟨by rfl, ?_⟩) hS ?_
      rotate_left 1
      · intro w hw; obtain s0 := hw; go_simp; try (with_reducible rfl)
      simp only [Act.put, List.setIfInBounds_toArray, List.set_cons_zero, List.set_cons_succ]
      refine wpAnyH_take (i := 3) (oi := { dst := some 19, op := .load 112 (.tmp 18), type := 112, pos := "slices.go:25", after := #[{ on := 2, ground := .data }], guard := none }) (v := (.agg cs.toArray)) rfl (by kernel_rfl) (by kernel_rfl) (by kernel_rfl) (fun _ _ _ h => h) (Or.inl ⟨by rfl, ?_⟩) hS ?_
      · intro w hw; obtain s0 := hw; exact exec_load_mid 112 (.tmp 18) (by exact rfl) b0 (o0 + k * 2) (by exact rfl) cs _ (HA.out _ hw).1 Tryd.underlying112 rfl (by rw [HL.out.1]; kernel_rfl)
      simp only [Act.put, List.setIfInBounds_toArray, List.set_cons_zero, List.set_cons_succ]
      refine wpAnyH_take (i := 4) (oi := { dst := some 20, op := .move (.tmp 1), type := 66, pos := "slices.go:25", after := #[], guard := none }) (v := ?_) rfl (by kernel_rfl) (by kernel_rfl) (by kernel_rfl) (fun _ _ _ h => h) (Or.inl ⟨by rfl, ?_⟩) hS ?_
      rotate_left 1
      · intro w hw; obtain s0 := hw; go_simp; try (with_reducible rfl)
      simp only [Act.put, List.setIfInBounds_toArray, List.set_cons_zero, List.set_cons_succ]
      refine wpAnyH_take (i := 5) (oi := { dst := some 21, op := .move (.tmp 5), type := 3, pos := "slices.go:25", after := #[], guard := none }) (v := ?_) rfl (by kernel_rfl) (by kernel_rfl) (by kernel_rfl) (fun _ _ _ h => h) (Or.inl ⟨by rfl, ?_⟩) hS ?_
      rotate_left 1
      · intro w hw; obtain s0 := hw; go_simp; try (with_reducible rfl)
      simp only [Act.put, List.setIfInBounds_toArray, List.set_cons_zero, List.set_cons_succ]
      refine wpAnyH_take (i := 6) (oi := { dst := some 22, op := .indexAddr 66 (.tmp 20) (.tmp 21), type := 0, pos := "slices.go:25", after := #[{ on := 4, ground := .data }, { on := 5, ground := .data }], guard := none }) (v := ?_) rfl (by kernel_rfl) (by kernel_rfl) (by kernel_rfl) (fun _ _ _ h => h) (Or.inl ⟨by rfl, ?_⟩) hS ?_
      rotate_left 1
      · intro w hw; obtain s0 := hw; go_simp; try (with_reducible rfl)
      simp only [Act.put, List.setIfInBounds_toArray, List.set_cons_zero, List.set_cons_succ]
      refine wpAnyH_take (i := 7) (oi := { dst := some 23, op := .load 112 (.tmp 22), type := 112, pos := "slices.go:25", after := #[{ on := 6, ground := .data }], guard := none }) (v := (.agg ct.toArray)) rfl (by kernel_rfl) (by kernel_rfl) (by kernel_rfl) (fun _ _ _ h => h) (Or.inl ⟨by rfl, ?_⟩) hS ?_
      · intro w hw; obtain s0 := hw; exact exec_load_mid 112 (.tmp 22) (by exact rfl) b1 (o1 + k * 2) (by exact rfl) ct _ (HB.out _ hw).1 Tryd.underlying112 rfl (by rw [HL.out.2]; kernel_rfl)
      simp only [Act.put, List.setIfInBounds_toArray, List.set_cons_zero, List.set_cons_succ]
      refine wpAnyH_take (i := 8) (oi := { dst := some 24, op := .binOp .neq 112 (.tmp 19) (.tmp 23) 112, type := 4, pos := "slices.go:25", after := #[{ on := 3, ground := .data }, { on := 7, ground := .data }], guard := none }) (v := (.bool nq)) rfl (by kernel_rfl) (by kernel_rfl) (by kernel_rfl) (fun _ _ _ h => h) (Or.inl ⟨by rfl, ?_⟩) hS ?_
      · intro w hw; obtain s0 := hw; go_simp; try (with_reducible rfl)
      simp only [Act.put, List.setIfInBounds_toArray, List.set_cons_zero, List.set_cons_succ]
      refine wpAnyH_done (by kernel_rfl) ?_ _

      have HB1 := Lib.hid (show Below w.heap.size w wr.drew from below_dn HR.out.1 1)
      cases nq with
      | false =>
        go_wp2
        go_roundg g1
        case measure => omega
        case rel => exact ⟨k + 1, by omega, by go_num, HB1.out, HY.out (by rw [HQ.out]; rfl)⟩
      | true =>
        go_wp2
        go_ret
        exact ⟨by rw [HF.out (by rw [HQ.out]; rfl)]; rfl, HB1.out⟩
end Go.Proofs.YtknkhigmokooaaaDoor
