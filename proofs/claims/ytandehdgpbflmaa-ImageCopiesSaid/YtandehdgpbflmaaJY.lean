/- The contracts of slices' Equal on tasks and on edges. -/
import Derived.Test.YtandehdgpbflmaaJK
import Derived.Test.YtandehdgpbflmaaJX
namespace Go.Proofs.Ytandehdgpbflmaa
open Go.RowKit

/-- Are two images' tasks the same? -/
def tasksEq (x y : Img) : Bool := decide (x.tasks.length = y.tasks.length) && (List.range x.tasks.length).all fun k => tEq (x.t k) (y.t k)
set_option maxHeartbeats 4000000 in
set_option maxRecDepth 100000 in
theorem eqT_any {w : World} {V V' : Nat → Prop} {x y : Img} {S S' : ImgS} (h : ImgAt w V x S) (h' : ImgAt w V' y S') :
    Calls Try.prog 49 #[.slice S.t.sp x.tasks.length S.t.c, .slice S'.t.sp y.tasks.length S'.t.c] w fun e w' => e = .returned (.bool (tasksEq x y)) ∧ Below w.heap.size w w' := by
  have HO := Lib.hid (show tasksEq x y = (decide (x.tasks.length = y.tasks.length) && (List.range x.tasks.length).all fun k => tEq (x.t k) (y.t k)) from rfl)
  have hsm := h.st.sm
  have hsm' := h'.st.sm
  have HC := Lib.hid (fun (k : Nat) (hk : k < x.tasks.length) (wx : World) (hb : Below w.heap.size w wx) => show At wx S.t.b (S.t.o + k * 11) (taskC (x.t k)) ∧ (taskC (x.t k)).length = 11 from ⟨((h.new hb).tk k hk).1, taskC_len (h.tk k hk).2⟩)
  have HC' := Lib.hid (fun (k : Nat) (hk : k < y.tasks.length) (wx : World) (hb : Below w.heap.size w wx) => show At wx S'.t.b (S'.t.o + k * 11) (taskC (y.t k)) ∧ (taskC (y.t k)).length = 11 from ⟨((h'.new hb).tk k hk).1, taskC_len (h'.tk k hk).2⟩)
  have HN := Lib.hid (fun (k : Nat) (hk : k < x.tasks.length) (hk' : k < y.tasks.length) (wx : World) => neq_task (h.tk k hk).2 (h'.tk k hk').2 wx)
  obtain ⟨sp, hsp0⟩ : ∃ s, S.t.sp = s := ⟨_, rfl⟩
  have HSp := Lib.hid (fun (h0 : 0 < x.tasks.length) => show sp = some ⟨S.t.b, S.t.o, none⟩ from by rw [← hsp0]; exact (h.st.at_ h0).1)
  obtain ⟨sp', hsp0'⟩ : ∃ s, S'.t.sp = s := ⟨_, rfl⟩
  have HSp' := Lib.hid (fun (h0 : 0 < y.tasks.length) => show sp' = some ⟨S'.t.b, S'.t.o, none⟩ from by rw [← hsp0']; exact (h'.st.at_ h0).1)
  obtain ⟨n, hn⟩ : ∃ n, x.tasks.length = n := ⟨_, rfl⟩
  obtain ⟨n', hn'⟩ : ∃ n, y.tasks.length = n := ⟨_, rfl⟩
  obtain ⟨v, hv⟩ : ∃ v, tasksEq x y = v := ⟨_, rfl⟩
  rw [hn] at HC HN HSp hsm
  rw [hn'] at HC' HN HSp' hsm'
  rw [hv, hn, hn'] at HO
  rw [hsp0, hsp0', hn, hn', hv]
  clear h h' hsp0 hsp0' hn hn' hv
  by_cases hnn : n = n'
  case neg =>
    have HV := Lib.hid (show v = false by rw [HO.out, decide_eq_false hnn]; rfl)
    have hne : ¬ (n : Int) = (n' : Int) := by omega
    clear HO HC HC' HN HSp HSp' hnn
    go_enter Try.func49, Try.ntmps49
    go_wp2
    go_ret
    exact ⟨by rw [HV.out]; rfl, Below.refl _ _⟩
  subst hnn
  have HV := Lib.hid (show v = (List.range n).all fun k => tEq (x.t k) (y.t k) from HO.out.trans (by rw [decide_eq_true rfl, Bool.true_and]))
  clear HO
  go_enter Try.func49, Try.ntmps49
  go_wp2
  go_loopg [13] n (fun g u wr => ∃ k : Nat, k + g = n ∧ u = .int .i64 (k : Nat) ∧ Aside (Below w.heap.size w wr ∧ ∀ j, j < k → tEq (x.t j) (y.t j) = true))
  case atStart => exact ⟨0, by omega, rfl, Below.refl _ _, fun j hj => absurd hj (Nat.not_lt_zero j)⟩
  case round =>
    obtain ⟨k, hkg, rfl, HR⟩ := hrel
    cases gk with
    | zero =>
      obtain rfl : k = n := by omega
      have HV2 := Lib.hid (show v = true by rw [HV.out]; exact rangeAll_yes HR.out.2)
      go_wp2
      go_ret
      exact ⟨by rw [HV2.out]; rfl, HR.out.1⟩
    | succ g1 =>
      have hk : k < n := by omega
      obtain rfl := HSp.out (by omega)
      obtain rfl := HSp'.out (by omega)
      have HNk := HN.out k hk hk
      have HA := Lib.hid (fun wx hb => HC.out k hk wx hb)
      have HB := Lib.hid (fun wx hb => HC'.out k hk wx hb)
      have HF := Lib.hid (fun (hb : tEq (x.t k) (y.t k) = false) => show v = false from HV.out.trans (rangeAll_no hk hb))
      have HY := Lib.hid (fun (hb : tEq (x.t k) (y.t k) = true) => show ∀ j, j < k + 1 → tEq (x.t j) (y.t j) = true from fun j hj => by
        rcases Nat.lt_or_ge j k with h2 | h2
        · exact HR.out.2 j h2
        · obtain rfl : j = k := by omega
          exact hb)
      obtain ⟨cs, hcs⟩ : ∃ c, taskC (x.t k) = c := ⟨_, rfl⟩
      obtain ⟨ct, hct⟩ : ∃ c, taskC (y.t k) = c := ⟨_, rfl⟩
      obtain ⟨q, hq⟩ : ∃ q, tEq (x.t k) (y.t k) = q := ⟨_, rfl⟩
      rw [hcs] at HA HNk
      rw [hct] at HB HNk
      rw [hq] at HNk HF HY
      obtain ⟨nq, hnq⟩ : ∃ b, (!q) = b := ⟨_, rfl⟩
      rw [hnq] at HNk
      have HQ := Lib.hid (show q = !nq by rw [← hnq]; simp)
      have hk2 : (k : Int) < (n : Int) := by omega
      have hk3 : (k : Int) + 1 ≤ 9223372036854775807 := by omega
      have hgd : Try.prog.eqGuardType Try.prog.depth 39 = false := by kernel_rfl
      have HL := Lib.hid (And.intro (HA.out wr HR.out.1).2 (HB.out wr HR.out.1).2)
      clear hcs hct hq hnq HC HC' HN HSp HSp' HV
      go_upto_region 6 with fail
      refine wp_region_held_drew (S := fun w' => Below w.heap.size w w') (by kernel_rfl) (below_dn HR.out.1 1) (fun hS => ?_)
      refine wpAnyH_take (i := 0) (oi := { dst := some 16, op := .move (.tmp 0), type := 22, pos := "slices.go:25", after := #[], guard := none }) (v := ?_) rfl (by kernel_rfl) (by kernel_rfl) (by kernel_rfl) (fun _ _ _ h => h) (Or.inl ⟨by rfl, ?_⟩) hS ?_
      rotate_left 1
      · intro w hw; obtain s0 := hw; go_simp; try (with_reducible rfl)
      simp only [Act.put, List.setIfInBounds_toArray, List.set_cons_zero, List.set_cons_succ]
      refine wpAnyH_take (i := 1) (oi := { dst := some 17, op := .move (.tmp 5), type := 3, pos := "slices.go:25", after := #[], guard := none }) (v := ?_) rfl (by kernel_rfl) (by kernel_rfl) (by kernel_rfl) (fun _ _ _ h => h) (Or.inl ⟨by rfl, ?_⟩) hS ?_
      rotate_left 1
      · intro w hw; obtain s0 := hw; go_simp; try (with_reducible rfl)
      simp only [Act.put, List.setIfInBounds_toArray, List.set_cons_zero, List.set_cons_succ]
      refine wpAnyH_take (i := 2) (oi := { dst := some 18, op := .indexAddr 22 (.tmp 16) (.tmp 17), type := 0, pos := "slices.go:25", after := #[{ on := 0, ground := .data }, { on := 1, ground := .data }], guard := none }) (v := ?_) rfl (by kernel_rfl) (by kernel_rfl) (by kernel_rfl) (fun _ _ _ h => h) (Or.inl ⟨by rfl, ?_⟩) hS ?_
      rotate_left 1
      · intro w hw; obtain s0 := hw; go_simp; try (with_reducible rfl)
      simp only [Act.put, List.setIfInBounds_toArray, List.set_cons_zero, List.set_cons_succ]
      refine wpAnyH_take (i := 3) (oi := { dst := some 19, op := .load 39 (.tmp 18), type := 39, pos := "slices.go:25", after := #[{ on := 2, ground := .data }], guard := none }) (v := (.agg cs.toArray)) rfl (by kernel_rfl) (by kernel_rfl) (by kernel_rfl) (fun _ _ _ h => h) (Or.inl ⟨by rfl, ?_⟩) hS ?_
      · intro w hw; obtain s0 := hw; exact exec_load_mid 39 (.tmp 18) (by exact rfl) S.t.b (S.t.o + k * 11) (by exact rfl) cs _ (HA.out _ hw).1 Try.underlying39 rfl (by rw [HL.out.1]; kernel_rfl)
      simp only [Act.put, List.setIfInBounds_toArray, List.set_cons_zero, List.set_cons_succ]
      refine wpAnyH_take (i := 4) (oi := { dst := some 20, op := .move (.tmp 1), type := 22, pos := "slices.go:25", after := #[], guard := none }) (v := ?_) rfl (by kernel_rfl) (by kernel_rfl) (by kernel_rfl) (fun _ _ _ h => h) (Or.inl ⟨by rfl, ?_⟩) hS ?_
      rotate_left 1
      · intro w hw; obtain s0 := hw; go_simp; try (with_reducible rfl)
      simp only [Act.put, List.setIfInBounds_toArray, List.set_cons_zero, List.set_cons_succ]
      refine wpAnyH_take (i := 5) (oi := { dst := some 21, op := .move (.tmp 5), type := 3, pos := "slices.go:25", after := #[], guard := none }) (v := ?_) rfl (by kernel_rfl) (by kernel_rfl) (by kernel_rfl) (fun _ _ _ h => h) (Or.inl ⟨by rfl, ?_⟩) hS ?_
      rotate_left 1
      · intro w hw; obtain s0 := hw; go_simp; try (with_reducible rfl)
      simp only [Act.put, List.setIfInBounds_toArray, List.set_cons_zero, List.set_cons_succ]
      refine wpAnyH_take (i := 6) (oi := { dst := some 22, op := .indexAddr 22 (.tmp 20) (.tmp 21), type := 0, pos := "slices.go:25", after := #[{ on := 4, ground := .data }, { on := 5, ground := .data }], guard := none }) (v := ?_) rfl (by kernel_rfl) (by kernel_rfl) (by kernel_rfl) (fun _ _ _ h => h) (Or.inl ⟨by rfl, ?_⟩) hS ?_
      rotate_left 1
      · intro w hw; obtain s0 := hw; go_simp; try (with_reducible rfl)
      simp only [Act.put, List.setIfInBounds_toArray, List.set_cons_zero, List.set_cons_succ]
      refine wpAnyH_take (i := 7) (oi := { dst := some 23, op := .load 39 (.tmp 22), type := 39, pos := "slices.go:25", after := #[{ on := 6, ground := .data }], guard := none }) (v := (.agg ct.toArray)) rfl (by kernel_rfl) (by kernel_rfl) (by kernel_rfl) (fun _ _ _ h => h) (Or.inl ⟨by rfl, ?_⟩) hS ?_
      · intro w hw; obtain s0 := hw; exact exec_load_mid 39 (.tmp 22) (by exact rfl) S'.t.b (S'.t.o + k * 11) (by exact rfl) ct _ (HB.out _ hw).1 Try.underlying39 rfl (by rw [HL.out.2]; kernel_rfl)
      simp only [Act.put, List.setIfInBounds_toArray, List.set_cons_zero, List.set_cons_succ]
      refine wpAnyH_take (i := 8) (oi := { dst := some 24, op := .binOp .neq 39 (.tmp 19) (.tmp 23) 39, type := 4, pos := "slices.go:25", after := #[{ on := 3, ground := .data }, { on := 7, ground := .data }], guard := none }) (v := (.bool nq)) rfl (by kernel_rfl) (by kernel_rfl) (by kernel_rfl) (fun _ _ _ h => h) (Or.inl ⟨by rfl, ?_⟩) hS ?_
      · intro w hw; obtain s0 := hw; go_simp; try (with_reducible rfl)
      simp only [Act.put, List.setIfInBounds_toArray, List.set_cons_zero, List.set_cons_succ]
      refine wpAnyH_done (by kernel_rfl) ?_ _

      have HB1 := Lib.hid (show Below w.heap.size w wr.drew from below_dn HR.out.1 1)
      cases nq with
      | false =>
        go_wp2
        go_roundg g1
        case measure => omega
        case rel => exact ⟨k + 1, by omega, by go_num, HB1.out, HY.out (by rw [HQ.out]; rfl)⟩
      | true =>
        go_wp2
        go_ret
        exact ⟨by rw [HF.out (by rw [HQ.out]; rfl)]; rfl, HB1.out⟩
/-- Are two images' edges the same? -/
def edgesEq (x y : Img) : Bool := decide (x.edges.length = y.edges.length) && (List.range x.edges.length).all fun k => eEq (x.e k) (y.e k)
set_option maxHeartbeats 4000000 in
set_option maxRecDepth 100000 in
theorem eqE_any {w : World} {V V' : Nat → Prop} {x y : Img} {S S' : ImgS} (h : ImgAt w V x S) (h' : ImgAt w V' y S') :
    Calls Try.prog 50 #[.slice S.e.sp x.edges.length S.e.c, .slice S'.e.sp y.edges.length S'.e.c] w fun e w' => e = .returned (.bool (edgesEq x y)) ∧ Below w.heap.size w w' := by
  have HO := Lib.hid (show edgesEq x y = (decide (x.edges.length = y.edges.length) && (List.range x.edges.length).all fun k => eEq (x.e k) (y.e k)) from rfl)
  have hsm := h.se.sm
  have hsm' := h'.se.sm
  have HC := Lib.hid (fun (k : Nat) (hk : k < x.edges.length) (wx : World) (hb : Below w.heap.size w wx) => show At wx S.e.b (S.e.o + k * 23) (edgeC (x.e k)) ∧ (edgeC (x.e k)).length = 23 from ⟨((h.new hb).ed k hk).1, edgeC_len (h.ed k hk).2.1 (h.ed k hk).2.2⟩)
  have HC' := Lib.hid (fun (k : Nat) (hk : k < y.edges.length) (wx : World) (hb : Below w.heap.size w wx) => show At wx S'.e.b (S'.e.o + k * 23) (edgeC (y.e k)) ∧ (edgeC (y.e k)).length = 23 from ⟨((h'.new hb).ed k hk).1, edgeC_len (h'.ed k hk).2.1 (h'.ed k hk).2.2⟩)
  have HN := Lib.hid (fun (k : Nat) (hk : k < x.edges.length) (hk' : k < y.edges.length) (wx : World) => neq_edge (h.ed k hk).2.1 (h.ed k hk).2.2 (h'.ed k hk').2.1 (h'.ed k hk').2.2 wx)
  obtain ⟨sp, hsp0⟩ : ∃ s, S.e.sp = s := ⟨_, rfl⟩
  have HSp := Lib.hid (fun (h0 : 0 < x.edges.length) => show sp = some ⟨S.e.b, S.e.o, none⟩ from by rw [← hsp0]; exact (h.se.at_ h0).1)
  obtain ⟨sp', hsp0'⟩ : ∃ s, S'.e.sp = s := ⟨_, rfl⟩
  have HSp' := Lib.hid (fun (h0 : 0 < y.edges.length) => show sp' = some ⟨S'.e.b, S'.e.o, none⟩ from by rw [← hsp0']; exact (h'.se.at_ h0).1)
  obtain ⟨n, hn⟩ : ∃ n, x.edges.length = n := ⟨_, rfl⟩
  obtain ⟨n', hn'⟩ : ∃ n, y.edges.length = n := ⟨_, rfl⟩
  obtain ⟨v, hv⟩ : ∃ v, edgesEq x y = v := ⟨_, rfl⟩
  rw [hn] at HC HN HSp hsm
  rw [hn'] at HC' HN HSp' hsm'
  rw [hv, hn, hn'] at HO
  rw [hsp0, hsp0', hn, hn', hv]
  clear h h' hsp0 hsp0' hn hn' hv
  by_cases hnn : n = n'
  case neg =>
    have HV := Lib.hid (show v = false by rw [HO.out, decide_eq_false hnn]; rfl)
    have hne : ¬ (n : Int) = (n' : Int) := by omega
    clear HO HC HC' HN HSp HSp' hnn
    go_enter Try.func50, Try.ntmps50
    go_wp2
    go_ret
    exact ⟨by rw [HV.out]; rfl, Below.refl _ _⟩
  subst hnn
  have HV := Lib.hid (show v = (List.range n).all fun k => eEq (x.e k) (y.e k) from HO.out.trans (by rw [decide_eq_true rfl, Bool.true_and]))
  clear HO
  go_enter Try.func50, Try.ntmps50
  go_wp2
  go_loopg [13] n (fun g u wr => ∃ k : Nat, k + g = n ∧ u = .int .i64 (k : Nat) ∧ Aside (Below w.heap.size w wr ∧ ∀ j, j < k → eEq (x.e j) (y.e j) = true))
  case atStart => exact ⟨0, by omega, rfl, Below.refl _ _, fun j hj => absurd hj (Nat.not_lt_zero j)⟩
  case round =>
    obtain ⟨k, hkg, rfl, HR⟩ := hrel
    cases gk with
    | zero =>
      obtain rfl : k = n := by omega
      have HV2 := Lib.hid (show v = true by rw [HV.out]; exact rangeAll_yes HR.out.2)
      go_wp2
      go_ret
      exact ⟨by rw [HV2.out]; rfl, HR.out.1⟩
    | succ g1 =>
      have hk : k < n := by omega
      obtain rfl := HSp.out (by omega)
      obtain rfl := HSp'.out (by omega)
      have HNk := HN.out k hk hk
      have HA := Lib.hid (fun wx hb => HC.out k hk wx hb)
      have HB := Lib.hid (fun wx hb => HC'.out k hk wx hb)
      have HF := Lib.hid (fun (hb : eEq (x.e k) (y.e k) = false) => show v = false from HV.out.trans (rangeAll_no hk hb))
      have HY := Lib.hid (fun (hb : eEq (x.e k) (y.e k) = true) => show ∀ j, j < k + 1 → eEq (x.e j) (y.e j) = true from fun j hj => by
        rcases Nat.lt_or_ge j k with h2 | h2
        · exact HR.out.2 j h2
        · obtain rfl : j = k := by omega
          exact hb)
      obtain ⟨cs, hcs⟩ : ∃ c, edgeC (x.e k) = c := ⟨_, rfl⟩
      obtain ⟨ct, hct⟩ : ∃ c, edgeC (y.e k) = c := ⟨_, rfl⟩
      obtain ⟨q, hq⟩ : ∃ q, eEq (x.e k) (y.e k) = q := ⟨_, rfl⟩
      rw [hcs] at HA HNk
      rw [hct] at HB HNk
      rw [hq] at HNk HF HY
      obtain ⟨nq, hnq⟩ : ∃ b, (!q) = b := ⟨_, rfl⟩
      rw [hnq] at HNk
      have HQ := Lib.hid (show q = !nq by rw [← hnq]; simp)
      have hk2 : (k : Int) < (n : Int) := by omega
      have hk3 : (k : Int) + 1 ≤ 9223372036854775807 := by omega
      have hgd : Try.prog.eqGuardType Try.prog.depth 45 = false := by kernel_rfl
      have HL := Lib.hid (And.intro (HA.out wr HR.out.1).2 (HB.out wr HR.out.1).2)
      clear hcs hct hq hnq HC HC' HN HSp HSp' HV
      go_upto_region 6 with fail
      refine wp_region_held_drew (S := fun w' => Below w.heap.size w w') (by kernel_rfl) (below_dn HR.out.1 1) (fun hS => ?_)
      refine wpAnyH_take (i := 0) (oi := { dst := some 16, op := .move (.tmp 0), type := 24, pos := "slices.go:25", after := #[], guard := none }) (v := ?_) rfl (by kernel_rfl) (by kernel_rfl) (by kernel_rfl) (fun _ _ _ h => h) (Or.inl ⟨by rfl, ?_⟩) hS ?_
      rotate_left 1
      · intro w hw; obtain s0 := hw; go_simp; try (with_reducible rfl)
      simp only [Act.put, List.setIfInBounds_toArray, List.set_cons_zero, List.set_cons_succ]
      refine wpAnyH_take (i := 1) (oi := { dst := some 17, op := .move (.tmp 5), type := 3, pos := "slices.go:25", after := #[], guard := none }) (v := ?_) rfl (by kernel_rfl) (by kernel_rfl) (by kernel_rfl) (fun _ _ _ h => h) (Or.inl ⟨by rfl, ?_⟩) hS ?_
      rotate_left 1
      · intro w hw; obtain s0 := hw; go_simp; try (with_reducible rfl)
      simp only [Act.put, List.setIfInBounds_toArray, List.set_cons_zero, List.set_cons_succ]
      refine wpAnyH_take (i := 2) (oi := { dst := some 18, op := .indexAddr 24 (.tmp 16) (.tmp 17), type := 0, pos := "slices.go:25", after := #[{ on := 0, ground := .data }, { on := 1, ground := .data }], guard := none }) (v := ?_) rfl (by kernel_rfl) (by kernel_rfl) (by kernel_rfl) (fun _ _ _ h => h) (Or.inl ⟨by rfl, ?_⟩) hS ?_
      rotate_left 1
      · intro w hw; obtain s0 := hw; go_simp; try (with_reducible rfl)
      simp only [Act.put, List.setIfInBounds_toArray, List.set_cons_zero, List.set_cons_succ]
      refine wpAnyH_take (i := 3) (oi := { dst := some 19, op := .load 45 (.tmp 18), type := 45, pos := "slices.go:25", after := #[{ on := 2, ground := .data }], guard := none }) (v := (.agg cs.toArray)) rfl (by kernel_rfl) (by kernel_rfl) (by kernel_rfl) (fun _ _ _ h => h) (Or.inl ⟨by rfl, ?_⟩) hS ?_
      · intro w hw; obtain s0 := hw; exact exec_load_mid 45 (.tmp 18) (by exact rfl) S.e.b (S.e.o + k * 23) (by exact rfl) cs _ (HA.out _ hw).1 Try.underlying45 rfl (by rw [HL.out.1]; kernel_rfl)
      simp only [Act.put, List.setIfInBounds_toArray, List.set_cons_zero, List.set_cons_succ]
      refine wpAnyH_take (i := 4) (oi := { dst := some 20, op := .move (.tmp 1), type := 24, pos := "slices.go:25", after := #[], guard := none }) (v := ?_) rfl (by kernel_rfl) (by kernel_rfl) (by kernel_rfl) (fun _ _ _ h => h) (Or.inl ⟨by rfl, ?_⟩) hS ?_
      rotate_left 1
      · intro w hw; obtain s0 := hw; go_simp; try (with_reducible rfl)
      simp only [Act.put, List.setIfInBounds_toArray, List.set_cons_zero, List.set_cons_succ]
      refine wpAnyH_take (i := 5) (oi := { dst := some 21, op := .move (.tmp 5), type := 3, pos := "slices.go:25", after := #[], guard := none }) (v := ?_) rfl (by kernel_rfl) (by kernel_rfl) (by kernel_rfl) (fun _ _ _ h => h) (Or.inl ⟨by rfl, ?_⟩) hS ?_
      rotate_left 1
      · intro w hw; obtain s0 := hw; go_simp; try (with_reducible rfl)
      simp only [Act.put, List.setIfInBounds_toArray, List.set_cons_zero, List.set_cons_succ]
      refine wpAnyH_take (i := 6) (oi := { dst := some 22, op := .indexAddr 24 (.tmp 20) (.tmp 21), type := 0, pos := "slices.go:25", after := #[{ on := 4, ground := .data }, { on := 5, ground := .data }], guard := none }) (v := ?_) rfl (by kernel_rfl) (by kernel_rfl) (by kernel_rfl) (fun _ _ _ h => h) (Or.inl ⟨by rfl, ?_⟩) hS ?_
      rotate_left 1
      · intro w hw; obtain s0 := hw; go_simp; try (with_reducible rfl)
      simp only [Act.put, List.setIfInBounds_toArray, List.set_cons_zero, List.set_cons_succ]
      refine wpAnyH_take (i := 7) (oi := { dst := some 23, op := .load 45 (.tmp 22), type := 45, pos := "slices.go:25", after := #[{ on := 6, ground := .data }], guard := none }) (v := (.agg ct.toArray)) rfl (by kernel_rfl) (by kernel_rfl) (by kernel_rfl) (fun _ _ _ h => h) (Or.inl ⟨by rfl, ?_⟩) hS ?_
      · intro w hw; obtain s0 := hw; exact exec_load_mid 45 (.tmp 22) (by exact rfl) S'.e.b (S'.e.o + k * 23) (by exact rfl) ct _ (HB.out _ hw).1 Try.underlying45 rfl (by rw [HL.out.2]; kernel_rfl)
      simp only [Act.put, List.setIfInBounds_toArray, List.set_cons_zero, List.set_cons_succ]
      refine wpAnyH_take (i := 8) (oi := { dst := some 24, op := .binOp .neq 45 (.tmp 19) (.tmp 23) 45, type := 4, pos := "slices.go:25", after := #[{ on := 3, ground := .data }, { on := 7, ground := .data }], guard := none }) (v := (.bool nq)) rfl (by kernel_rfl) (by kernel_rfl) (by kernel_rfl) (fun _ _ _ h => h) (Or.inl ⟨by rfl, ?_⟩) hS ?_
      · intro w hw; obtain s0 := hw; go_simp; try (with_reducible rfl)
      simp only [Act.put, List.setIfInBounds_toArray, List.set_cons_zero, List.set_cons_succ]
      refine wpAnyH_done (by kernel_rfl) ?_ _

      have HB1 := Lib.hid (show Below w.heap.size w wr.drew from below_dn HR.out.1 1)
      cases nq with
      | false =>
        go_wp2
        go_roundg g1
        case measure => omega
        case rel => exact ⟨k + 1, by omega, by go_num, HB1.out, HY.out (by rw [HQ.out]; rfl)⟩
      | true =>
        go_wp2
        go_ret
        exact ⟨by rw [HF.out (by rw [HQ.out]; rfl)]; rfl, HB1.out⟩
end Go.Proofs.Ytandehdgpbflmaa
