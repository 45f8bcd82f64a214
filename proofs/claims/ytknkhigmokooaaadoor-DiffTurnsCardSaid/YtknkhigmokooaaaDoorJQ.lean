/- The contract of ref10's Same. -/
import Derived.Test.YtknkhigmokooaaaDoorJZ
namespace Go.Proofs.YtknkhigmokooaaaDoor
open Go.RowKit

set_option maxHeartbeats 8000000 in
set_option maxRecDepth 100000 in
theorem rSame_any {w : World} {V V' : Nat → Prop} {x y : Img} {S S' : ImgS} (h : ImgAt w V x S) (h' : ImgAt w V' y S') :
    Calls Tryd.prog 27 #[.agg #[.int .i64 x.res, .slice S.t.sp x.tasks.length S.t.c, .slice S.m.sp x.modes.length S.m.c, .slice S.e.sp x.edges.length S.e.c], .agg #[.int .i64 y.res, .slice S'.t.sp y.tasks.length S'.t.c, .slice S'.m.sp y.modes.length S'.m.c, .slice S'.e.sp y.edges.length S'.e.c]] w fun e w' => e = .returned (.bool (imgEq x y)) ∧ Below w.heap.size w w' := by
  have HO := Lib.hid (show imgEq x y = (decide (x.res = y.res) && (decide (x.modes.length = y.modes.length) && (tasksEq x y && (edgesEq x y && (List.range x.modes.length).all (modeEq x y))))) from rfl)
  have hsm := h.sm.sm
  have HTx := Lib.hid (fun (k : Nat) (hk : k < x.tasks.length) (wx : World) (hb : Below w.heap.size w wx) => show At wx S.t.b (S.t.o + k * 11) (taskC (x.t k)) ∧ (taskC (x.t k)).length = 11 from ⟨((h.new hb).tk k hk).1, taskC_len (h.tk k hk).2⟩)
  have HTy := Lib.hid (fun (k : Nat) (hk : k < y.tasks.length) (wx : World) (hb : Below w.heap.size w wx) => show At wx S'.t.b (S'.t.o + k * 11) (taskC (y.t k)) ∧ (taskC (y.t k)).length = 11 from ⟨((h'.new hb).tk k hk).1, taskC_len (h'.tk k hk).2⟩)
  have HTn := Lib.hid (fun (k : Nat) (hk : k < x.tasks.length) (hk' : k < y.tasks.length) (wx : World) => neq_task (h.tk k hk).2 (h'.tk k hk').2 wx)
  have HEx := Lib.hid (fun (k : Nat) (hk : k < x.edges.length) (wx : World) (hb : Below w.heap.size w wx) => show At wx S.e.b (S.e.o + k * 23) (edgeC (x.e k)) ∧ (edgeC (x.e k)).length = 23 from ⟨((h.new hb).ed k hk).1, edgeC_len (h.ed k hk).2.1 (h.ed k hk).2.2⟩)
  have HEy := Lib.hid (fun (k : Nat) (hk : k < y.edges.length) (wx : World) (hb : Below w.heap.size w wx) => show At wx S'.e.b (S'.e.o + k * 23) (edgeC (y.e k)) ∧ (edgeC (y.e k)).length = 23 from ⟨((h'.new hb).ed k hk).1, edgeC_len (h'.ed k hk).2.1 (h'.ed k hk).2.2⟩)
  have HEn := Lib.hid (fun (k : Nat) (hk : k < x.edges.length) (hk' : k < y.edges.length) (wx : World) => neq_edge (h.ed k hk).2.1 (h.ed k hk).2.2 (h'.ed k hk').2.1 (h'.ed k hk').2.2 wx)
  have htq := h.st.sm
  have heq := h.se.sm
  have HSt := Lib.hid (fun (h0 : 0 < x.tasks.length) => (h.st.at_ h0).1)
  have HSt' := Lib.hid (fun (h0 : 0 < y.tasks.length) => (h'.st.at_ h0).1)
  have HSe := Lib.hid (fun (h0 : 0 < x.edges.length) => (h.se.at_ h0).1)
  have HSe' := Lib.hid (fun (h0 : 0 < y.edges.length) => (h'.se.at_ h0).1)
  have HTE := Lib.hid (show tasksEq x y = (decide (x.tasks.length = y.tasks.length) && (List.range x.tasks.length).all fun k => tEq (x.t k) (y.t k)) from rfl)
  have HEE := Lib.hid (show edgesEq x y = (decide (x.edges.length = y.edges.length) && (List.range x.edges.length).all fun k => eEq (x.e k) (y.e k)) from rfl)
  have HMx := Lib.hid (fun (k : Nat) (hk : k < x.modes.length) (wx : World) (hb : Below w.heap.size w wx) => modeAt (h.new hb) k hk)
  have HMy := Lib.hid (fun (k : Nat) (hk : k < y.modes.length) (wx : World) (hb : Below w.heap.size w wx) => modeAt (h'.new hb) k hk)
  have HQx := Lib.hid (fun (k : Nat) (hk : k < x.modes.length) => (⟨fun (j : Nat) (hj : j < (x.m k).qs.length) (wx : World) (hb : Below w.heap.size w wx) => queueAt (h.new hb) k hk j hj, fun h0 => ((h.md k hk).2.2.at_ h0).1, (h.md k hk).2.2.sm⟩ : _ ∧ _ ∧ _))
  have HQy := Lib.hid (fun (k : Nat) (hk : k < y.modes.length) => (⟨fun (j : Nat) (hj : j < (y.m k).qs.length) (wx : World) (hb : Below w.heap.size w wx) => queueAt (h'.new hb) k hk j hj, fun h0 => ((h'.md k hk).2.2.at_ h0).1⟩ : _ ∧ _))
  obtain ⟨sT, hsT⟩ : ∃ s, S.t.sp = s := ⟨_, rfl⟩
  obtain ⟨sM, hsM⟩ : ∃ s, S.m.sp = s := ⟨_, rfl⟩
  obtain ⟨sE, hsE⟩ : ∃ s, S.e.sp = s := ⟨_, rfl⟩
  obtain ⟨sT', hsT'⟩ : ∃ s, S'.t.sp = s := ⟨_, rfl⟩
  obtain ⟨sM', hsM'⟩ : ∃ s, S'.m.sp = s := ⟨_, rfl⟩
  obtain ⟨sE', hsE'⟩ : ∃ s, S'.e.sp = s := ⟨_, rfl⟩
  have HSp := Lib.hid (fun (h0 : 0 < x.modes.length) => show sM = some ⟨S.m.b, S.m.o, none⟩ from by rw [← hsM]; exact (h.sm.at_ h0).1)
  have HSp' := Lib.hid (fun (h0 : 0 < y.modes.length) => show sM' = some ⟨S'.m.b, S'.m.o, none⟩ from by rw [← hsM']; exact (h'.sm.at_ h0).1)
  obtain ⟨nT, hnT⟩ : ∃ n, x.tasks.length = n := ⟨_, rfl⟩
  obtain ⟨n, hnM⟩ : ∃ n, x.modes.length = n := ⟨_, rfl⟩
  obtain ⟨nE, hnE⟩ : ∃ n, x.edges.length = n := ⟨_, rfl⟩
  obtain ⟨nT', hnT'⟩ : ∃ n, y.tasks.length = n := ⟨_, rfl⟩
  obtain ⟨n', hnM'⟩ : ∃ n, y.modes.length = n := ⟨_, rfl⟩
  obtain ⟨nE', hnE'⟩ : ∃ n, y.edges.length = n := ⟨_, rfl⟩
  obtain ⟨rx, hrx⟩ : ∃ n, x.res = n := ⟨_, rfl⟩
  obtain ⟨ry, hry⟩ : ∃ n, y.res = n := ⟨_, rfl⟩
  obtain ⟨v, hv⟩ : ∃ v, imgEq x y = v := ⟨_, rfl⟩
  obtain ⟨vT, hvT⟩ : ∃ v, tasksEq x y = v := ⟨_, rfl⟩
  obtain ⟨vE, hvE⟩ : ∃ v, edgesEq x y = v := ⟨_, rfl⟩
  rw [hnT] at HTx HTn HSt HTE htq
  rw [hnT'] at HTy HTn HSt' HTE
  rw [hnE] at HEx HEn HSe HEE heq
  rw [hnE'] at HEy HEn HSe' HEE
  rw [hsT] at HSt
  rw [hsT'] at HSt'
  rw [hsE] at HSe
  rw [hsE'] at HSe'
  rw [hvT] at HTE
  rw [hvE] at HEE
  rw [hnM] at HSp hsm HMx HQx
  rw [hnM'] at HSp' HMy HQy
  rw [hv, hvT, hvE, hnM, hnM', hrx, hry] at HO
  rw [hnT, hnM, hnE, hsT, hsM, hsE, hrx, hnT', hnM', hnE', hsT', hsM', hsE', hry, hv]
  have HN : True := trivial
  obtain ⟨Z, hZ⟩ : ∃ Z, Z = w.heap.size := ⟨_, rfl⟩
  have HZ := Lib.hid (show ∀ w2, (w.alloc (.cells #[.int .i64 rx, .slice sT nT S.t.c, .slice sM n S.m.c, .slice sE nE S.e.c] 26)).alloc (.cells #[.int .i64 ry, .slice sT' nT' S'.t.c, .slice sM' n' S'.m.c, .slice sE' nE' S'.e.c] 26) = w2 → Below w.heap.size w w2 ∧ RowAt w2 Z 26 #[.int .i64 rx, .slice sT nT S.t.c, .slice sM n S.m.c, .slice sE nE S.e.c] ∧ RowAt w2 (Z + 1) 26 #[.int .i64 ry, .slice sT' nT' S'.t.c, .slice sM' n' S'.m.c, .slice sE' nE' S'.e.c] from fun w2 hw => by
    rw [← hw, hZ]; exact two_alloc (Below.refl _ _))
  clear h h' hnT hnM hnE hsT hsM hsE hrx hnT' hnM' hnE' hsT' hsM' hsE' hry hv hvT hvE
  go_enter Tryd.func27, Tryd.ntmps27
  go_upto_region 1 with fail
  rw [← hZ]
  generalize hw2 : World.alloc _ _ = w2
  have HZ2 := Lib.hid (HZ.out w2 hw2)
  have HZZ := Lib.hid (show w.heap.size ≤ Z by omega)
  clear hw2 hZ HZ
  have c0 : w2.cell? ⟨Z, 0, none⟩ = some (.int .i64 rx) := HZ2.out.2.1.cell 0
  have c1 : w2.cell? ⟨Z, 1, none⟩ = some (.slice sT nT S.t.c) := HZ2.out.2.1.cell 1
  have c2 : w2.cell? ⟨Z, 2, none⟩ = some (.slice sM n S.m.c) := HZ2.out.2.1.cell 2
  have c3 : w2.cell? ⟨Z, 3, none⟩ = some (.slice sE nE S.e.c) := HZ2.out.2.1.cell 3
  have d0 : w2.cell? ⟨Z + 1, 0, none⟩ = some (.int .i64 ry) := HZ2.out.2.2.cell 0
  have d1 : w2.cell? ⟨Z + 1, 1, none⟩ = some (.slice sT' nT' S'.t.c) := HZ2.out.2.2.cell 1
  have d2 : w2.cell? ⟨Z + 1, 2, none⟩ = some (.slice sM' n' S'.m.c) := HZ2.out.2.2.cell 2
  have d3 : w2.cell? ⟨Z + 1, 3, none⟩ = some (.slice sE' nE' S'.e.c) := HZ2.out.2.2.cell 3
  by_cases hr : rx = ry
  case neg =>
    have HV := Lib.hid (show v = false by rw [HO.out, decide_eq_false hr]; rfl)
    have hrb : (rx != ry) = true := by simpa using hr
    clear hr
    clear HO HTE HEE HN HSp HSp' HTx HTy HTn HEx HEy HEn HSt HSt' HSe HSe' HMx HMy HQx HQy
    go_wp2
    go_ret
    exact ⟨by rw [HV.out]; rfl, HZ2.out.1⟩
  subst hr
  by_cases hn1 : nT = nT'
  case neg =>
    have HV := Lib.hid (show v = false by rw [HO.out, HTE.out, decide_eq_false hn1]; simp)
    have hn2 : ((nT : Int) != (nT' : Int)) = true := by simp; omega
    clear hn1
    clear HO HTE HEE HN HSp HSp' HTx HTy HTn HEx HEy HEn HSt HSt' HSe HSe' HMx HMy HQx HQy
    go_wp2
    go_ret
    exact ⟨by rw [HV.out]; rfl, HZ2.out.1⟩
  subst hn1
  by_cases hn1 : n = n'
  case neg =>
    have HV := Lib.hid (show v = false by rw [HO.out, decide_eq_false hn1]; simp)
    have hn2 : ((n : Int) != (n' : Int)) = true := by simp; omega
    clear hn1
    clear HO HTE HEE HN HSp HSp' HTx HTy HTn HEx HEy HEn HSt HSt' HSe HSe' HMx HMy HQx HQy
    go_wp2
    go_ret
    exact ⟨by rw [HV.out]; rfl, HZ2.out.1⟩
  subst hn1
  by_cases hn1 : nE = nE'
  case neg =>
    have HV := Lib.hid (show v = false by rw [HO.out, HEE.out, decide_eq_false hn1]; simp)
    have hn2 : ((nE : Int) != (nE' : Int)) = true := by simp; omega
    clear hn1
    clear HO HTE HEE HN HSp HSp' HTx HTy HTn HEx HEy HEn HSt HSt' HSe HSe' HMx HMy HQx HQy
    go_wp2
    go_ret
    exact ⟨by rw [HV.out]; rfl, HZ2.out.1⟩
  subst hn1
  have HV := Lib.hid (show v = (((List.range nT).all fun k => tEq (x.t k) (y.t k)) && (((List.range nE).all fun k => eEq (x.e k) (y.e k)) && (List.range n).all (modeEq x y))) from HO.out.trans (by rw [HTE.out, HEE.out]; simp))
  clear HO HTE HEE
  go_wp2
  clear c0 c1 c2 c3 d0 d1 d2 d3
  go_loopg [5] nT (fun g u wr => ∃ k : Nat, k + g = nT ∧ u = .int .i64 (k : Nat) ∧ Aside ((Below w.heap.size w wr ∧ RowAt wr Z 26 #[.int .i64 rx, .slice sT nT S.t.c, .slice sM n S.m.c, .slice sE nE S.e.c] ∧ RowAt wr (Z + 1) 26 #[.int .i64 rx, .slice sT' nT S'.t.c, .slice sM' n S'.m.c, .slice sE' nE S'.e.c]) ∧ ∀ j, j < k → tEq (x.t j) (y.t j) = true))
  case atStart => exact ⟨0, by omega, rfl, HZ2.out, fun j hj => absurd hj (Nat.not_lt_zero j)⟩
  clear HZ2
  case round =>
  obtain ⟨k, hkg, rfl, HR⟩ := hrel
  cases gk with
  | succ g1 =>
    have hk : k < nT := by omega
    have HG := Lib.hid hkg
    obtain rfl := HSt.out (by omega)
    obtain rfl := HSt'.out (by omega)
    have hk2 : (k : Int) < (nT : Int) := by omega
    have hk3 : (k : Int) + 1 ≤ 9223372036854775807 := by omega
    have HF := Lib.hid (fun (hb : tEq (x.t k) (y.t k) = false) => show v = false from HV.out.trans (by rw [rangeAll_no hk hb]; rfl))
    have HY := Lib.hid (fun (hb : tEq (x.t k) (y.t k) = true) => show ∀ j, j < k + 1 → tEq (x.t j) (y.t j) = true from fun j hj => by
      rcases Nat.lt_or_ge j k with h2 | h2
      · exact HR.out.2 j h2
      · obtain rfl : j = k := by omega
        exact hb)
    have HA := Lib.hid (HTx.out k hk)
    have HB := Lib.hid (HTy.out k hk)
    have HNk := HTn.out k hk hk
    obtain ⟨cs, hcs⟩ : ∃ c, taskC (x.t k) = c := ⟨_, rfl⟩
    obtain ⟨ct, hct⟩ : ∃ c, taskC (y.t k) = c := ⟨_, rfl⟩
    obtain ⟨q, hq⟩ : ∃ q, tEq (x.t k) (y.t k) = q := ⟨_, rfl⟩
    rw [hcs] at HA HNk
    rw [hct] at HB HNk
    rw [hq] at HNk HF HY
    obtain ⟨nq, hnq⟩ : ∃ b, (!q) = b := ⟨_, rfl⟩
    rw [hnq] at HNk
    have HQ := Lib.hid (show q = !nq by rw [← hnq]; simp)
    have hgd : Tryd.prog.eqGuardType Tryd.prog.depth 50 = false := by kernel_rfl
    have HL := Lib.hid (And.intro (HA.out wr HR.out.1.1).2 (HB.out wr HR.out.1.1).2)
    have c1 : wr.cell? ⟨Z, 1, none⟩ = some (.slice (some ⟨S.t.b, S.t.o, none⟩) nT S.t.c) := HR.out.1.2.1.cell 1
    clear hcs hct hq hnq hkg HTx HTy HTn HEx HEy HEn HSt HSt' HSe HSe' HMx HMy HQx HQy HSp HSp' HV
    go_upto_region 6 with fail
    clear c1
    refine wp_region_held_drew (S := fun w' => Below w.heap.size w w' ∧ RowAt w' Z 26 #[.int .i64 rx, .slice (some ⟨S.t.b, S.t.o, none⟩) nT S.t.c, .slice sM n S.m.c, .slice sE nE S.e.c] ∧ RowAt w' (Z + 1) 26 #[.int .i64 rx, .slice (some ⟨S'.t.b, S'.t.o, none⟩) nT S'.t.c, .slice sM' n S'.m.c, .slice sE' nE S'.e.c]) (by kernel_rfl) (rrD HR.out.1) (fun hS => ?_)
    refine wpAnyH_take (i := 0) (oi := { dst := some 50, op := .fieldAddr 26 (.tmp 2) 1, type := 0, pos := "ref.go:120", after := #[], guard := none }) (v := ?_) rfl (by kernel_rfl) (by kernel_rfl) (by kernel_rfl) (fun _ _ _ h => h) (Or.inl ⟨by rfl, ?_⟩) hS ?_
    rotate_left 1
    · intro w hw; obtain ⟨s0, s1, s2⟩ := hw; go_simp; try (with_reducible rfl)
    simp only [Act.put, List.setIfInBounds_toArray, List.set_cons_zero, List.set_cons_succ]
    refine wpAnyH_take (i := 1) (oi := { dst := some 51, op := .load 22 (.tmp 50), type := 22, pos := "ref.go:120", after := #[{ on := 0, ground := .data }], guard := none }) (v := ?_) rfl (by kernel_rfl) (by kernel_rfl) (by kernel_rfl) (fun _ _ _ h => h) (Or.inl ⟨by rfl, ?_⟩) hS ?_
    rotate_left 1
    · intro w hw; obtain ⟨s0, s1, s2⟩ := hw; have k0 := s1.cell 1; simp at k0; go_simp; try (with_reducible rfl)
    simp only [Act.put, List.setIfInBounds_toArray, List.set_cons_zero, List.set_cons_succ]
    refine wpAnyH_take (i := 2) (oi := { dst := some 52, op := .move (.tmp 5), type := 3, pos := "ref.go:120", after := #[], guard := none }) (v := ?_) rfl (by kernel_rfl) (by kernel_rfl) (by kernel_rfl) (fun _ _ _ h => h) (Or.inl ⟨by rfl, ?_⟩) hS ?_
    rotate_left 1
    · intro w hw; obtain ⟨s0, s1, s2⟩ := hw; go_simp; try (with_reducible rfl)
    simp only [Act.put, List.setIfInBounds_toArray, List.set_cons_zero, List.set_cons_succ]
    refine wpAnyH_take (i := 3) (oi := { dst := some 53, op := .indexAddr 22 (.tmp 51) (.tmp 52), type := 0, pos := "ref.go:120", after := #[{ on := 1, ground := .data }, { on := 2, ground := .data }], guard := none }) (v := ?_) rfl (by kernel_rfl) (by kernel_rfl) (by kernel_rfl) (fun _ _ _ h => h) (Or.inl ⟨by rfl, ?_⟩) hS ?_
    rotate_left 1
    · intro w hw; obtain ⟨s0, s1, s2⟩ := hw; go_simp; try (with_reducible rfl)
    simp only [Act.put, List.setIfInBounds_toArray, List.set_cons_zero, List.set_cons_succ]
    refine wpAnyH_take (i := 4) (oi := { dst := some 54, op := .load 50 (.tmp 53), type := 50, pos := "ref.go:120", after := #[{ on := 3, ground := .data }], guard := none }) (v := (.agg cs.toArray)) rfl (by kernel_rfl) (by kernel_rfl) (by kernel_rfl) (fun _ _ _ h => h) (Or.inl ⟨by rfl, ?_⟩) hS ?_
    · intro w hw; obtain ⟨s0, s1, s2⟩ := hw; exact exec_load_mid 50 (.tmp 53) (by exact rfl) S.t.b (S.t.o + k * 11) (by exact rfl) cs _ (HA.out _ s0).1 Tryd.underlying50 rfl (by rw [HL.out.1]; kernel_rfl)
    simp only [Act.put, List.setIfInBounds_toArray, List.set_cons_zero, List.set_cons_succ]
    refine wpAnyH_take (i := 5) (oi := { dst := some 55, op := .fieldAddr 26 (.tmp 3) 1, type := 0, pos := "ref.go:120", after := #[], guard := none }) (v := ?_) rfl (by kernel_rfl) (by kernel_rfl) (by kernel_rfl) (fun _ _ _ h => h) (Or.inl ⟨by rfl, ?_⟩) hS ?_
    rotate_left 1
    · intro w hw; obtain ⟨s0, s1, s2⟩ := hw; go_simp; try (with_reducible rfl)
    simp only [Act.put, List.setIfInBounds_toArray, List.set_cons_zero, List.set_cons_succ]
    refine wpAnyH_take (i := 6) (oi := { dst := some 56, op := .load 22 (.tmp 55), type := 22, pos := "ref.go:120", after := #[{ on := 5, ground := .data }], guard := none }) (v := ?_) rfl (by kernel_rfl) (by kernel_rfl) (by kernel_rfl) (fun _ _ _ h => h) (Or.inl ⟨by rfl, ?_⟩) hS ?_
    rotate_left 1
    · intro w hw; obtain ⟨s0, s1, s2⟩ := hw; have k0 := s2.cell 1; simp at k0; go_simp; try (with_reducible rfl)
    simp only [Act.put, List.setIfInBounds_toArray, List.set_cons_zero, List.set_cons_succ]
    refine wpAnyH_take (i := 7) (oi := { dst := some 57, op := .move (.tmp 5), type := 3, pos := "ref.go:120", after := #[], guard := none }) (v := ?_) rfl (by kernel_rfl) (by kernel_rfl) (by kernel_rfl) (fun _ _ _ h => h) (Or.inl ⟨by rfl, ?_⟩) hS ?_
    rotate_left 1
    · intro w hw; obtain ⟨s0, s1, s2⟩ := hw; go_simp; try (with_reducible rfl)
    simp only [Act.put, List.setIfInBounds_toArray, List.set_cons_zero, List.set_cons_succ]
    refine wpAnyH_take (i := 8) (oi := { dst := some 58, op := .indexAddr 22 (.tmp 56) (.tmp 57), type := 0, pos := "ref.go:120", after := #[{ on := 6, ground := .data }, { on := 7, ground := .data }], guard := none }) (v := ?_) rfl (by kernel_rfl) (by kernel_rfl) (by kernel_rfl) (fun _ _ _ h => h) (Or.inl ⟨by rfl, ?_⟩) hS ?_
    rotate_left 1
    · intro w hw; obtain ⟨s0, s1, s2⟩ := hw; go_simp; try (with_reducible rfl)
    simp only [Act.put, List.setIfInBounds_toArray, List.set_cons_zero, List.set_cons_succ]
    refine wpAnyH_take (i := 9) (oi := { dst := some 59, op := .load 50 (.tmp 58), type := 50, pos := "ref.go:120", after := #[{ on := 8, ground := .data }], guard := none }) (v := (.agg ct.toArray)) rfl (by kernel_rfl) (by kernel_rfl) (by kernel_rfl) (fun _ _ _ h => h) (Or.inl ⟨by rfl, ?_⟩) hS ?_
    · intro w hw; obtain ⟨s0, s1, s2⟩ := hw; exact exec_load_mid 50 (.tmp 58) (by exact rfl) S'.t.b (S'.t.o + k * 11) (by exact rfl) ct _ (HB.out _ s0).1 Tryd.underlying50 rfl (by rw [HL.out.2]; kernel_rfl)
    simp only [Act.put, List.setIfInBounds_toArray, List.set_cons_zero, List.set_cons_succ]
    refine wpAnyH_take (i := 10) (oi := { dst := some 60, op := .binOp .neq 50 (.tmp 54) (.tmp 59) 50, type := 4, pos := "ref.go:120", after := #[{ on := 4, ground := .data }, { on := 9, ground := .data }], guard := none }) (v := (.bool nq)) rfl (by kernel_rfl) (by kernel_rfl) (by kernel_rfl) (fun _ _ _ h => h) (Or.inl ⟨by rfl, ?_⟩) hS ?_
    · intro w hw; obtain ⟨s0, s1, s2⟩ := hw; go_simp; try (with_reducible rfl)
    simp only [Act.put, List.setIfInBounds_toArray, List.set_cons_zero, List.set_cons_succ]
    refine wpAnyH_done (by kernel_rfl) ?_ _

    have HB1 := Lib.hid (show Below w.heap.size w wr.drew ∧ RowAt wr.drew Z 26 #[.int .i64 rx, .slice (some ⟨S.t.b, S.t.o, none⟩) nT S.t.c, .slice sM n S.m.c, .slice sE nE S.e.c] ∧ RowAt wr.drew (Z + 1) 26 #[.int .i64 rx, .slice (some ⟨S'.t.b, S'.t.o, none⟩) nT S'.t.c, .slice sM' n S'.m.c, .slice sE' nE S'.e.c] from rrD HR.out.1)
    cases nq with
    | false =>
      have HN2 := Lib.hid (HY.out (by rw [HQ.out]; rfl))
      go_wp2
      go_roundg g1
      case measure => omega
      case rel => exact ⟨k + 1, by have := HG.out; omega, by go_num, HB1.out, HN2.out⟩
    | true =>
      have HV3 := Lib.hid (HF.out (by rw [HQ.out]; rfl))
      go_wp2
      go_ret
      exact ⟨by rw [HV3.out]; rfl, HB1.out.1⟩
  | zero =>
  obtain rfl : k = nT := by omega
  have HV1 := Lib.hid (show v = (((List.range nE).all fun k => eEq (x.e k) (y.e k)) && (List.range n).all (modeEq x y)) from HV.out.trans (by rw [rangeAll_yes HR.out.2, Bool.true_and]))
  have HR1 := Lib.hid HR.out.1
  have c1 : wr.cell? ⟨Z, 1, none⟩ = some (.slice sT k S.t.c) := HR.out.1.2.1.cell 1
  clear HV HR HTx HTy HTn HSt HSt'
  have HV := HV1
  clear HV1
  go_wp2
  clear c1
  go_loopg [6] nE (fun g u wr => ∃ kE : Nat, kE + g = nE ∧ u = .int .i64 (kE : Nat) ∧ Aside ((Below w.heap.size w wr ∧ RowAt wr Z 26 #[.int .i64 rx, .slice sT k S.t.c, .slice sM n S.m.c, .slice sE nE S.e.c] ∧ RowAt wr (Z + 1) 26 #[.int .i64 rx, .slice sT' k S'.t.c, .slice sM' n S'.m.c, .slice sE' nE S'.e.c]) ∧ ∀ j, j < kE → eEq (x.e j) (y.e j) = true))
  case atStart => exact ⟨0, by omega, rfl, HR1.out, fun j hj => absurd hj (Nat.not_lt_zero j)⟩
  clear HR1
  case round =>
  obtain ⟨kE, hkg, rfl, HR⟩ := hrel
  cases gk with
  | succ g1 =>
    have hk : kE < nE := by omega
    have HG := Lib.hid hkg
    obtain rfl := HSe.out (by omega)
    obtain rfl := HSe'.out (by omega)
    have hk2 : (kE : Int) < (nE : Int) := by omega
    have hk3 : (kE : Int) + 1 ≤ 9223372036854775807 := by omega
    have HF := Lib.hid (fun (hb : eEq (x.e kE) (y.e kE) = false) => show v = false from HV.out.trans (by rw [rangeAll_no hk hb]; rfl))
    have HY := Lib.hid (fun (hb : eEq (x.e kE) (y.e kE) = true) => show ∀ j, j < kE + 1 → eEq (x.e j) (y.e j) = true from fun j hj => by
      rcases Nat.lt_or_ge j kE with h2 | h2
      · exact HR.out.2 j h2
      · obtain rfl : j = kE := by omega
        exact hb)
    have HA := Lib.hid (HEx.out kE hk)
    have HB := Lib.hid (HEy.out kE hk)
    have HNk := HEn.out kE hk hk
    obtain ⟨cs, hcs⟩ : ∃ c, edgeC (x.e kE) = c := ⟨_, rfl⟩
    obtain ⟨ct, hct⟩ : ∃ c, edgeC (y.e kE) = c := ⟨_, rfl⟩
    obtain ⟨q, hq⟩ : ∃ q, eEq (x.e kE) (y.e kE) = q := ⟨_, rfl⟩
    rw [hcs] at HA HNk
    rw [hct] at HB HNk
    rw [hq] at HNk HF HY
    obtain ⟨nq, hnq⟩ : ∃ b, (!q) = b := ⟨_, rfl⟩
    rw [hnq] at HNk
    have HQ := Lib.hid (show q = !nq by rw [← hnq]; simp)
    have hgd : Tryd.prog.eqGuardType Tryd.prog.depth 104 = false := by kernel_rfl
    have HL := Lib.hid (And.intro (HA.out wr HR.out.1.1).2 (HB.out wr HR.out.1.1).2)
    have c1 : wr.cell? ⟨Z, 3, none⟩ = some (.slice (some ⟨S.e.b, S.e.o, none⟩) nE S.e.c) := HR.out.1.2.1.cell 3
    clear hcs hct hq hnq hkg HEx HEy HEn HSe HSe' HMx HMy HQx HQy HSp HSp' HV
    go_upto_region 11 with fail
    clear c1
    refine wp_region_held_drew (S := fun w' => Below w.heap.size w w' ∧ RowAt w' Z 26 #[.int .i64 rx, .slice sT k S.t.c, .slice sM n S.m.c, .slice (some ⟨S.e.b, S.e.o, none⟩) nE S.e.c] ∧ RowAt w' (Z + 1) 26 #[.int .i64 rx, .slice sT' k S'.t.c, .slice sM' n S'.m.c, .slice (some ⟨S'.e.b, S'.e.o, none⟩) nE S'.e.c]) (by kernel_rfl) (rrD HR.out.1) (fun hS => ?_)
    refine wpAnyH_take (i := 0) (oi := { dst := some 68, op := .fieldAddr 26 (.tmp 2) 3, type := 0, pos := "ref.go:125", after := #[], guard := none }) (v := ?_) rfl (by kernel_rfl) (by kernel_rfl) (by kernel_rfl) (fun _ _ _ h => h) (Or.inl ⟨by rfl, ?_⟩) hS ?_
    rotate_left 1
    · intro w hw; obtain ⟨s0, s1, s2⟩ := hw; go_simp; try (with_reducible rfl)
    simp only [Act.put, List.setIfInBounds_toArray, List.set_cons_zero, List.set_cons_succ]
    refine wpAnyH_take (i := 1) (oi := { dst := some 69, op := .load 24 (.tmp 68), type := 24, pos := "ref.go:125", after := #[{ on := 0, ground := .data }], guard := none }) (v := ?_) rfl (by kernel_rfl) (by kernel_rfl) (by kernel_rfl) (fun _ _ _ h => h) (Or.inl ⟨by rfl, ?_⟩) hS ?_
    rotate_left 1
    · intro w hw; obtain ⟨s0, s1, s2⟩ := hw; have k0 := s1.cell 3; simp at k0; go_simp; try (with_reducible rfl)
    simp only [Act.put, List.setIfInBounds_toArray, List.set_cons_zero, List.set_cons_succ]
    refine wpAnyH_take (i := 2) (oi := { dst := some 70, op := .move (.tmp 6), type := 3, pos := "ref.go:125", after := #[], guard := none }) (v := ?_) rfl (by kernel_rfl) (by kernel_rfl) (by kernel_rfl) (fun _ _ _ h => h) (Or.inl ⟨by rfl, ?_⟩) hS ?_
    rotate_left 1
    · intro w hw; obtain ⟨s0, s1, s2⟩ := hw; go_simp; try (with_reducible rfl)
    simp only [Act.put, List.setIfInBounds_toArray, List.set_cons_zero, List.set_cons_succ]
    refine wpAnyH_take (i := 3) (oi := { dst := some 71, op := .indexAddr 24 (.tmp 69) (.tmp 70), type := 0, pos := "ref.go:125", after := #[{ on := 1, ground := .data }, { on := 2, ground := .data }], guard := none }) (v := ?_) rfl (by kernel_rfl) (by kernel_rfl) (by kernel_rfl) (fun _ _ _ h => h) (Or.inl ⟨by rfl, ?_⟩) hS ?_
    rotate_left 1
    · intro w hw; obtain ⟨s0, s1, s2⟩ := hw; go_simp; try (with_reducible rfl)
    simp only [Act.put, List.setIfInBounds_toArray, List.set_cons_zero, List.set_cons_succ]
    refine wpAnyH_take (i := 4) (oi := { dst := some 72, op := .load 104 (.tmp 71), type := 104, pos := "ref.go:125", after := #[{ on := 3, ground := .data }], guard := none }) (v := (.agg cs.toArray)) rfl (by kernel_rfl) (by kernel_rfl) (by kernel_rfl) (fun _ _ _ h => h) (Or.inl ⟨by rfl, ?_⟩) hS ?_
    · intro w hw; obtain ⟨s0, s1, s2⟩ := hw; exact exec_load_mid 104 (.tmp 71) (by exact rfl) S.e.b (S.e.o + kE * 23) (by exact rfl) cs _ (HA.out _ s0).1 Tryd.underlying104 rfl (by rw [HL.out.1]; kernel_rfl)
    simp only [Act.put, List.setIfInBounds_toArray, List.set_cons_zero, List.set_cons_succ]
    refine wpAnyH_take (i := 5) (oi := { dst := some 73, op := .fieldAddr 26 (.tmp 3) 3, type := 0, pos := "ref.go:125", after := #[], guard := none }) (v := ?_) rfl (by kernel_rfl) (by kernel_rfl) (by kernel_rfl) (fun _ _ _ h => h) (Or.inl ⟨by rfl, ?_⟩) hS ?_
    rotate_left 1
    · intro w hw; obtain ⟨s0, s1, s2⟩ := hw; go_simp; try (with_reducible rfl)
    simp only [Act.put, List.setIfInBounds_toArray, List.set_cons_zero, List.set_cons_succ]
    refine wpAnyH_take (i := 6) (oi := { dst := some 74, op := .load 24 (.tmp 73), type := 24, pos := "ref.go:125", after := #[{ on := 5, ground := .data }], guard := none }) (v := ?_) rfl (by kernel_rfl) (by kernel_rfl) (by kernel_rfl) (fun _ _ _ h => h) (Or.inl ⟨by rfl, ?_⟩) hS ?_
    rotate_left 1
    · intro w hw; obtain ⟨s0, s1, s2⟩ := hw; have k0 := s2.cell 3; simp at k0; go_simp; try (with_reducible rfl)
    simp only [Act.put, List.setIfInBounds_toArray, List.set_cons_zero, List.set_cons_succ]
    refine wpAnyH_take (i := 7) (oi := { dst := some 75, op := .move (.tmp 6), type := 3, pos := "ref.go:125", after := #[], guard := none }) (v := ?_) rfl (by kernel_rfl) (by kernel_rfl) (by kernel_rfl) (fun _ _ _ h => h) (Or.inl ⟨by rfl, ?_⟩) hS ?_
    rotate_left 1
    · intro w hw; obtain ⟨s0, s1, s2⟩ := hw; go_simp; try (with_reducible rfl)
    simp only [Act.put, List.setIfInBounds_toArray, List.set_cons_zero, List.set_cons_succ]
    refine wpAnyH_take (i := 8) (oi := { dst := some 76, op := .indexAddr 24 (.tmp 74) (.tmp 75), type := 0, pos := "ref.go:125", after := #[{ on := 6, ground := .data }, { on := 7, ground := .data }], guard := none }) (v := ?_) rfl (by kernel_rfl) (by kernel_rfl) (by kernel_rfl) (fun _ _ _ h => h) (Or.inl ⟨by rfl, ?_⟩) hS ?_
    rotate_left 1
    · intro w hw; obtain ⟨s0, s1, s2⟩ := hw; go_simp; try (with_reducible rfl)
    simp only [Act.put, List.setIfInBounds_toArray, List.set_cons_zero, List.set_cons_succ]
    refine wpAnyH_take (i := 9) (oi := { dst := some 77, op := .load 104 (.tmp 76), type := 104, pos := "ref.go:125", after := #[{ on := 8, ground := .data }], guard := none }) (v := (.agg ct.toArray)) rfl (by kernel_rfl) (by kernel_rfl) (by kernel_rfl) (fun _ _ _ h => h) (Or.inl ⟨by rfl, ?_⟩) hS ?_
    · intro w hw; obtain ⟨s0, s1, s2⟩ := hw; exact exec_load_mid 104 (.tmp 76) (by exact rfl) S'.e.b (S'.e.o + kE * 23) (by exact rfl) ct _ (HB.out _ s0).1 Tryd.underlying104 rfl (by rw [HL.out.2]; kernel_rfl)
    simp only [Act.put, List.setIfInBounds_toArray, List.set_cons_zero, List.set_cons_succ]
    refine wpAnyH_take (i := 10) (oi := { dst := some 78, op := .binOp .neq 104 (.tmp 72) (.tmp 77) 104, type := 4, pos := "ref.go:125", after := #[{ on := 4, ground := .data }, { on := 9, ground := .data }], guard := none }) (v := (.bool nq)) rfl (by kernel_rfl) (by kernel_rfl) (by kernel_rfl) (fun _ _ _ h => h) (Or.inl ⟨by rfl, ?_⟩) hS ?_
    · intro w hw; obtain ⟨s0, s1, s2⟩ := hw; go_simp; try (with_reducible rfl)
    simp only [Act.put, List.setIfInBounds_toArray, List.set_cons_zero, List.set_cons_succ]
    refine wpAnyH_done (by kernel_rfl) ?_ _

    have HB1 := Lib.hid (show Below w.heap.size w wr.drew ∧ RowAt wr.drew Z 26 #[.int .i64 rx, .slice sT k S.t.c, .slice sM n S.m.c, .slice (some ⟨S.e.b, S.e.o, none⟩) nE S.e.c] ∧ RowAt wr.drew (Z + 1) 26 #[.int .i64 rx, .slice sT' k S'.t.c, .slice sM' n S'.m.c, .slice (some ⟨S'.e.b, S'.e.o, none⟩) nE S'.e.c] from rrD HR.out.1)
    cases nq with
    | false =>
      have HN2 := Lib.hid (HY.out (by rw [HQ.out]; rfl))
      go_wp2
      go_roundg g1
      case measure => omega
      case rel => exact ⟨kE + 1, by have := HG.out; omega, by go_num, HB1.out, HN2.out⟩
    | true =>
      have HV3 := Lib.hid (HF.out (by rw [HQ.out]; rfl))
      go_wp2
      go_ret
      exact ⟨by rw [HV3.out]; rfl, HB1.out.1⟩
  | zero =>
  obtain rfl : kE = nE := by omega
  have HV1 := Lib.hid (show v = (List.range n).all (modeEq x y) from HV.out.trans (by rw [rangeAll_yes HR.out.2, Bool.true_and]))
  have H4 := Lib.hid HR.out.1
  have c1 : wr.cell? ⟨Z, 3, none⟩ = some (.slice sE kE S.e.c) := HR.out.1.2.1.cell 3
  clear HV HR HEx HEy HEn HSe HSe'
  have HV := HV1
  clear HV1
  go_wp2
  clear c1
  go_loopg [7] n (fun g u wr => ∃ p : Nat, p + g = n ∧ u = .int .i64 (p : Nat) ∧ Aside ((Below w.heap.size w wr ∧ RowAt wr Z 26 #[.int .i64 rx, .slice sT k S.t.c, .slice sM n S.m.c, .slice sE kE S.e.c] ∧ RowAt wr (Z + 1) 26 #[.int .i64 rx, .slice sT' k S'.t.c, .slice sM' n S'.m.c, .slice sE' kE S'.e.c]) ∧ ∀ j, j < p → modeEq x y j = true))
  case atStart => exact ⟨0, by omega, rfl, H4.out, fun j hj => absurd hj (Nat.not_lt_zero j)⟩
  clear H4
  case round =>
    obtain ⟨p, hkg, rfl, HR⟩ := hrel
    cases gk with
    | zero =>
      obtain rfl : p = n := by omega
      have HV2 := Lib.hid (show v = true by rw [HV.out]; exact rangeAll_yes HR.out.2)
      have c2 : wr.cell? ⟨Z, 2, none⟩ = some (.slice sM p S.m.c) := HR.out.1.2.1.cell 2
      go_wp2
      go_ret
      exact ⟨by rw [HV2.out]; rfl, HR.out.1.1⟩
    | succ g1 =>
      have hk : p < n := by omega
      have HG := Lib.hid hkg
      obtain rfl := HSp.out (by omega)
      obtain rfl := HSp'.out (by omega)
      have hk2 : (p : Int) < (n : Int) := by omega
      have hk3 : ((p : Int) == (n : Int)) = false := by simp; omega
      have hk4 : (p : Int) + 1 ≤ 9223372036854775807 := by omega
      have HF := Lib.hid (fun (hb : modeEq x y p = false) => show v = false from HV.out.trans (rangeAll_no hk hb))
      have HY := Lib.hid (fun (hb : modeEq x y p = true) => show ∀ j, j < p + 1 → modeEq x y j = true from fun j hj => by
        rcases Nat.lt_or_ge j p with h2 | h2
        · exact HR.out.2 j h2
        · obtain rfl : j = p := by omega
          exact hb)
      have HMxk := Lib.hid (HMx.out p hk)
      have HMyk := Lib.hid (HMy.out p hk)
      have HQxk := Lib.hid (HQx.out p hk)
      have HQyk := Lib.hid (HQy.out p hk)
      have hnq := HQxk.out.2.2
      have HME := Lib.hid (show modeEq x y p = (decide (w32 (x.m p).tasks = w32 (y.m p).tasks) && (decide ((x.m p).qs.length = (y.m p).qs.length) && (List.range (x.m p).qs.length).all fun j => decide ((qth (x.m p).qs j).1 = (qth (y.m p).qs j).1 ∧ (qth (x.m p).qs j).2 = (qth (y.m p).qs j).2))) from rfl)
      obtain ⟨T, hT⟩ : ∃ T, w32 (x.m p).tasks = T := ⟨_, rfl⟩
      obtain ⟨T', hT'⟩ : ∃ T, w32 (y.m p).tasks = T := ⟨_, rfl⟩
      obtain ⟨qs, hqs⟩ : ∃ T, (x.m p).qs = T := ⟨_, rfl⟩
      obtain ⟨qs', hqs'⟩ : ∃ T, (y.m p).qs = T := ⟨_, rfl⟩
      obtain ⟨sq, hsq⟩ : ∃ T, S.q p = T := ⟨_, rfl⟩
      obtain ⟨sq', hsq'⟩ : ∃ T, S'.q p = T := ⟨_, rfl⟩
      rw [hT, hqs, hsq] at HMxk
      rw [hT', hqs', hsq'] at HMyk
      rw [hqs, hsq] at HQxk
      rw [hqs', hsq'] at HQyk
      rw [hT, hT', hqs, hqs'] at HME
      rw [hqs] at hnq
      obtain ⟨nq, hnq1⟩ : ∃ T, qs.length = T := ⟨_, rfl⟩
      obtain ⟨nq', hnq2⟩ : ∃ T, qs'.length = T := ⟨_, rfl⟩
      obtain ⟨sp, sb, so, sc⟩ := sq
      obtain ⟨sp', sb', so', sc'⟩ := sq'
      dsimp only at HMxk HMyk HQxk HQyk
      rw [hnq1] at HMxk HQxk HME hnq
      rw [hnq2] at HMyk HQyk HME
      clear hT hT' hqs hqs' hsq hsq' hnq1 hnq2 hkg HMx HMy HQx HQy HSp HSp' HV
      have c2 : wr.cell? ⟨Z, 2, none⟩ = some (.slice (some ⟨S.m.b, S.m.o, none⟩) n S.m.c) := HR.out.1.2.1.cell 2
      have HZE := Lib.hid (show w.heap.size ≤ Z ∧ Z + 1 < wr.heap.size from ⟨HZZ.out, HR.out.1.2.2.lt⟩)
      go_upto_region 16 with fail
      clear c2
      obtain ⟨wd, hwd⟩ : ∃ wd, wr.drew = wd := ⟨_, rfl⟩
      have HG1 := Lib.hid (show Below w.heap.size w wd ∧ RowAt wd Z 26 #[.int .i64 rx, .slice sT k S.t.c, .slice (some ⟨S.m.b, S.m.o, none⟩) n S.m.c, .slice sE kE S.e.c] ∧ RowAt wd (Z + 1) 26 #[.int .i64 rx, .slice sT' k S'.t.c, .slice (some ⟨S'.m.b, S'.m.o, none⟩) n S'.m.c, .slice sE' kE S'.e.c] by rw [← hwd]; exact rrD HR.out.1)
      clear HR
      go_cut [8, 9] from 79 to 127 (fun s8 s9 wx => ∃ A B : Nat, s8 = .pointer (some ⟨A, 0, none⟩) ∧ s9 = .pointer (some ⟨B, 0, none⟩) ∧ Aside (Below w.heap.size w wx ∧ RowAt wx Z 26 #[.int .i64 rx, .slice sT k S.t.c, .slice (some ⟨S.m.b, S.m.o, none⟩) n S.m.c, .slice sE kE S.e.c] ∧ RowAt wx (Z + 1) 26 #[.int .i64 rx, .slice sT' k S'.t.c, .slice (some ⟨S'.m.b, S'.m.o, none⟩) n S'.m.c, .slice sE' kE S'.e.c] ∧ RowAt wx A 68 #[.int .u32 T, .slice sp nq sc] ∧ RowAt wx B 68 #[.int .u32 T', .slice sp' nq' sc']))
      case first => as_aux_lemma =>
        refine wp_region_held_drew (S := fun w' => Below w.heap.size w w' ∧ RowAt w' Z 26 #[.int .i64 rx, .slice sT k S.t.c, .slice (some ⟨S.m.b, S.m.o, none⟩) n S.m.c, .slice sE kE S.e.c] ∧ RowAt w' (Z + 1) 26 #[.int .i64 rx, .slice sT' k S'.t.c, .slice (some ⟨S'.m.b, S'.m.o, none⟩) n S'.m.c, .slice sE' kE S'.e.c]) (by kernel_rfl) (by rw [hwd]; exact HG1.out) (fun hS => ?_)
        rw [hwd] at hS ⊢
        clear hwd
        refine wpAnyH_take (i := 0) (oi := { dst := some 86, op := .fieldAddr 26 (.tmp 2) 2, type := 0, pos := "ref.go:130", after := #[], guard := none }) (v := ?_) rfl (by kernel_rfl) (by kernel_rfl) (by kernel_rfl) (fun _ _ _ h => h) (Or.inl ⟨by rfl, ?_⟩) hS ?_
        rotate_left 1
        · intro w hw; obtain ⟨s0, s1, s2⟩ := hw; go_simp; try (with_reducible rfl)
        simp only [Act.put, List.setIfInBounds_toArray, List.set_cons_zero, List.set_cons_succ]
        refine wpAnyH_take (i := 1) (oi := { dst := some 87, op := .load 23 (.tmp 86), type := 23, pos := "ref.go:130", after := #[{ on := 0, ground := .data }], guard := none }) (v := ?_) rfl (by kernel_rfl) (by kernel_rfl) (by kernel_rfl) (fun _ _ _ h => h) (Or.inl ⟨by rfl, ?_⟩) hS ?_
        rotate_left 1
        · intro w hw; obtain ⟨s0, s1, s2⟩ := hw; have k0 := s1.cell 2; simp at k0; go_simp; try (with_reducible rfl)
        simp only [Act.put, List.setIfInBounds_toArray, List.set_cons_zero, List.set_cons_succ]
        refine wpAnyH_take (i := 2) (oi := { dst := some 88, op := .move (.tmp 7), type := 3, pos := "ref.go:130", after := #[], guard := none }) (v := ?_) rfl (by kernel_rfl) (by kernel_rfl) (by kernel_rfl) (fun _ _ _ h => h) (Or.inl ⟨by rfl, ?_⟩) hS ?_
        rotate_left 1
        · intro w hw; obtain ⟨s0, s1, s2⟩ := hw; go_simp; try (with_reducible rfl)
        simp only [Act.put, List.setIfInBounds_toArray, List.set_cons_zero, List.set_cons_succ]
        refine wpAnyH_take (i := 3) (oi := { dst := some 89, op := .indexAddr 23 (.tmp 87) (.tmp 88), type := 0, pos := "ref.go:130", after := #[{ on := 1, ground := .data }, { on := 2, ground := .data }], guard := none }) (v := ?_) rfl (by kernel_rfl) (by kernel_rfl) (by kernel_rfl) (fun _ _ _ h => h) (Or.inl ⟨by rfl, ?_⟩) hS ?_
        rotate_left 1
        · intro w hw; obtain ⟨s0, s1, s2⟩ := hw; go_simp; try (with_reducible rfl)
        simp only [Act.put, List.setIfInBounds_toArray, List.set_cons_zero, List.set_cons_succ]
        refine wpAnyH_take (i := 4) (oi := { dst := some 90, op := .load 68 (.tmp 89), type := 68, pos := "ref.go:130", after := #[{ on := 3, ground := .data }], guard := none }) (v := (.agg #[.int .u32 T, .slice sp nq sc])) rfl (by kernel_rfl) (by kernel_rfl) (by kernel_rfl) (fun _ _ _ h => h) (Or.inl ⟨by rfl, ?_⟩) hS ?_
        · intro w hw; obtain ⟨s0, s1, s2⟩ := hw; exact exec_load_mid 68 (.tmp 89) (by exact rfl) S.m.b (S.m.o + p * 2) (by exact rfl) _ _ (HMxk.out _ s0) Tryd.underlying68 rfl (by kernel_rfl)
        simp only [Act.put, List.setIfInBounds_toArray, List.set_cons_zero, List.set_cons_succ]
        refine wpAnyH_take (i := 5) (oi := { dst := some 91, op := .fieldAddr 26 (.tmp 3) 2, type := 0, pos := "ref.go:130", after := #[{ on := 12, ground := .gcOnly Go.Departure.lateStores }], guard := none }) (v := ?_) rfl (by kernel_rfl) (by kernel_rfl) (by kernel_rfl) (fun _ _ _ h => h) (Or.inl ⟨by rfl, ?_⟩) hS ?_
        rotate_left 1
        · intro w hw; obtain ⟨s0, s1, s2⟩ := hw; go_simp; try (with_reducible rfl)
        simp only [Act.put, List.setIfInBounds_toArray, List.set_cons_zero, List.set_cons_succ]
        refine wpAnyH_take (i := 6) (oi := { dst := some 92, op := .load 23 (.tmp 91), type := 23, pos := "ref.go:130", after := #[{ on := 5, ground := .data }, { on := 12, ground := .gcOnly Go.Departure.lateStores }], guard := none }) (v := ?_) rfl (by kernel_rfl) (by kernel_rfl) (by kernel_rfl) (fun _ _ _ h => h) (Or.inl ⟨by rfl, ?_⟩) hS ?_
        rotate_left 1
        · intro w hw; obtain ⟨s0, s1, s2⟩ := hw; have k0 := s2.cell 2; simp at k0; go_simp; try (with_reducible rfl)
        simp only [Act.put, List.setIfInBounds_toArray, List.set_cons_zero, List.set_cons_succ]
        refine wpAnyH_take (i := 7) (oi := { dst := some 93, op := .move (.tmp 7), type := 3, pos := "ref.go:130", after := #[{ on := 12, ground := .gcOnly Go.Departure.lateStores }], guard := none }) (v := ?_) rfl (by kernel_rfl) (by kernel_rfl) (by kernel_rfl) (fun _ _ _ h => h) (Or.inl ⟨by rfl, ?_⟩) hS ?_
        rotate_left 1
        · intro w hw; obtain ⟨s0, s1, s2⟩ := hw; go_simp; try (with_reducible rfl)
        simp only [Act.put, List.setIfInBounds_toArray, List.set_cons_zero, List.set_cons_succ]
        refine wpAnyH_take (i := 8) (oi := { dst := some 94, op := .indexAddr 23 (.tmp 92) (.tmp 93), type := 0, pos := "ref.go:130", after := #[{ on := 6, ground := .data }, { on := 7, ground := .data }, { on := 12, ground := .gcOnly Go.Departure.lateStores }], guard := none }) (v := ?_) rfl (by kernel_rfl) (by kernel_rfl) (by kernel_rfl) (fun _ _ _ h => h) (Or.inl ⟨by rfl, ?_⟩) hS ?_
        rotate_left 1
        · intro w hw; obtain ⟨s0, s1, s2⟩ := hw; go_simp; try (with_reducible rfl)
        simp only [Act.put, List.setIfInBounds_toArray, List.set_cons_zero, List.set_cons_succ]
        refine wpAnyH_take (i := 9) (oi := { dst := some 95, op := .load 68 (.tmp 94), type := 68, pos := "ref.go:130", after := #[{ on := 8, ground := .data }, { on := 12, ground := .gcOnly Go.Departure.lateStores }], guard := none }) (v := (.agg #[.int .u32 T', .slice sp' nq' sc'])) rfl (by kernel_rfl) (by kernel_rfl) (by kernel_rfl) (fun _ _ _ h => h) (Or.inl ⟨by rfl, ?_⟩) hS ?_
        · intro w hw; obtain ⟨s0, s1, s2⟩ := hw; exact exec_load_mid 68 (.tmp 94) (by exact rfl) S'.m.b (S'.m.o + p * 2) (by exact rfl) _ _ (HMyk.out _ s0) Tryd.underlying68 rfl (by kernel_rfl)
        simp only [Act.put, List.setIfInBounds_toArray, List.set_cons_zero, List.set_cons_succ]
        refine wpAnyH_ready (rs := [10, 11]) (by kernel_rfl) (by simp) (AllReadyH.cons (o := { dst := some 8, op := .alloc 68, type := 0, pos := "ref.go:130", after := #[], guard := none }) rfl (fun K hK => ?_) (AllReadyH.cons (o := { dst := some 9, op := .alloc 68, type := 0, pos := "ref.go:130", after := #[], guard := none }) rfl (fun K hK => ?_) AllReadyH.nil))
        · go_simp
          obtain ⟨A, hA⟩ : ∃ b, b = (wd).heap.size := ⟨_, rfl⟩
          rw [← hA]
          generalize hwg101 : World.alloc _ _ = wg101
          have bwg101 : Below (wd).heap.size (wd) wg101 := by rw [← hwg101]; exact (Below.refl _ _).alloc (Nat.le_refl _) _
          have rwg101 : RowAt wg101 A 68 (#[.int .u32 0, .slice none 0 0]) := by rw [← hwg101, hA]; exact RowAt.mk _ _ _
          have HG102 := Lib.hid (show Below w.heap.size w wg101 ∧ RowAt wg101 Z 26 #[.int .i64 rx, .slice sT k S.t.c, .slice (some ⟨S.m.b, S.m.o, none⟩) n S.m.c, .slice sE kE S.e.c] ∧ RowAt wg101 (Z + 1) 26 #[.int .i64 rx, .slice sT' k S'.t.c, .slice (some ⟨S'.m.b, S'.m.o, none⟩) n S'.m.c, .slice sE' kE S'.e.c] ∧ RowAt wg101 A 68 (#[.int .u32 0, .slice none 0 0]) ∧ Z + 1 < A from ⟨(HG1.out.1.trans ((bwg101).mono HG1.out.1.size)), (HG1.out.2.1.new (bwg101)), (HG1.out.2.2.new (bwg101)), rwg101, (by have := HG1.out.2.2.lt; omega)⟩)
          clear hwg101 bwg101 rwg101 hA
          refine hK.out _ _ ⟨HG102.out.1, HG102.out.2.1, HG102.out.2.2.1⟩ (fun hHeld => ?_)
          clear hK K
          try simp only [Act.put, List.setIfInBounds_toArray, List.set_cons_zero, List.set_cons_succ]
          refine wpAnyH_ready (rs := [11]) (by kernel_rfl) (by simp) (AllReadyH.cons (o := { dst := some 9, op := .alloc 68, type := 0, pos := "ref.go:130", after := #[], guard := none }) rfl (fun K hK => ?_) AllReadyH.nil)
          go_simp
          obtain ⟨B, hB⟩ : ∃ b, b = (wg101).heap.size := ⟨_, rfl⟩
          rw [← hB]
          generalize hwg103 : World.alloc _ _ = wg103
          have bwg103 : Below (wg101).heap.size (wg101) wg103 := by rw [← hwg103]; exact (Below.refl _ _).alloc (Nat.le_refl _) _
          have rwg103 : RowAt wg103 B 68 (#[.int .u32 0, .slice none 0 0]) := by rw [← hwg103, hB]; exact RowAt.mk _ _ _
          have HG104 := Lib.hid (show Below w.heap.size w wg103 ∧ RowAt wg103 Z 26 #[.int .i64 rx, .slice sT k S.t.c, .slice (some ⟨S.m.b, S.m.o, none⟩) n S.m.c, .slice sE kE S.e.c] ∧ RowAt wg103 (Z + 1) 26 #[.int .i64 rx, .slice sT' k S'.t.c, .slice (some ⟨S'.m.b, S'.m.o, none⟩) n S'.m.c, .slice sE' kE S'.e.c] ∧ RowAt wg103 A 68 (#[.int .u32 0, .slice none 0 0]) ∧ Z + 1 < A ∧ RowAt wg103 B 68 (#[.int .u32 0, .slice none 0 0]) ∧ Z + 1 < B ∧ A ≠ B from ⟨(HG102.out.1.trans ((bwg103).mono HG102.out.1.size)), (HG102.out.2.1.new (bwg103)), (HG102.out.2.2.1.new (bwg103)), (HG102.out.2.2.2.1.new (bwg103)), HG102.out.2.2.2.2, rwg103, (by have := HG102.out.2.2.1.lt; omega), (by have := HG102.out.2.2.2.1.lt; omega)⟩)
          clear hwg103 bwg103 rwg103 hB
          refine hK.out _ _ ⟨HG104.out.1, HG104.out.2.1, HG104.out.2.2.1⟩ (fun hHeld => ?_)
          clear hK K
          try simp only [Act.put, List.setIfInBounds_toArray, List.set_cons_zero, List.set_cons_succ]
          refine wpAnyH_ready (rs := [12]) (by kernel_rfl) (by simp) (AllReadyH.cons (o := { dst := none, op := .store 68 (.tmp 8) (.tmp 90), type := 0, pos := "ref.go:130", after := #[{ on := 10, ground := .data }, { on := 4, ground := .data }, { on := 0, ground := .phase }, { on := 1, ground := .phase }, { on := 2, ground := .phase }, { on := 3, ground := .phase }, { on := 4, ground := .phase }, { on := 5, ground := .textOnly Go.Departure.lateStores }, { on := 6, ground := .textOnly Go.Departure.lateStores }, { on := 7, ground := .textOnly Go.Departure.lateStores }, { on := 8, ground := .textOnly Go.Departure.lateStores }, { on := 9, ground := .textOnly Go.Departure.lateStores }, { on := 10, ground := .phase }, { on := 11, ground := .phase }], guard := none }) rfl (fun K hK => ?_) AllReadyH.nil)
          rw [if_pos (by rfl)]
          refine wp_store_row 68 (.tmp 8) (.tmp 90) rfl A #[.int .u32 T, .slice sp nq sc] rfl rfl 68 (#[.int .u32 0, .slice none 0 0]) HG104.out.2.2.2.1 (by kernel_rfl) (by rfl) (by simp [Value.oneCell']) ?_
          generalize hwg105 : World.setRow _ _ _ = wg105
          have HG106 := Lib.hid (show Below w.heap.size w wg105 ∧ RowAt wg105 Z 26 #[.int .i64 rx, .slice sT k S.t.c, .slice (some ⟨S.m.b, S.m.o, none⟩) n S.m.c, .slice sE kE S.e.c] ∧ RowAt wg105 (Z + 1) 26 #[.int .i64 rx, .slice sT' k S'.t.c, .slice (some ⟨S'.m.b, S'.m.o, none⟩) n S'.m.c, .slice sE' kE S'.e.c] ∧ RowAt wg105 A 68 #[.int .u32 T, .slice sp nq sc] ∧ Z + 1 < A ∧ RowAt wg105 B 68 (#[.int .u32 0, .slice none 0 0]) ∧ Z + 1 < B ∧ A ≠ B by rw [← hwg105]; exact ⟨below_row HG104.out.1 (Nat.le_refl _) (by have := HG104.out.2.2.2.2.1; have := HZE.out; omega) _, HG104.out.2.1.keep (ch_setRow _ _ _) (fun e => by have := HG104.out.2.2.2.2.1; omega), HG104.out.2.2.1.keep (ch_setRow _ _ _) (fun e => by have := HG104.out.2.2.2.2.1; omega), HG104.out.2.2.2.1.put, HG104.out.2.2.2.2.1, HG104.out.2.2.2.2.2.1.keep (ch_setRow _ _ _) (fun e => HG104.out.2.2.2.2.2.2.2 e.symm), HG104.out.2.2.2.2.2.2.1, HG104.out.2.2.2.2.2.2.2⟩)
          clear hwg105
          refine hK.out _ _ ⟨HG106.out.1, HG106.out.2.1, HG106.out.2.2.1⟩ (fun hHeld => ?_)
          clear hK K
          try simp only [Act.put]
          refine wpAnyH_ready (rs := [13]) (by kernel_rfl) (by simp) (AllReadyH.cons (o := { dst := none, op := .store 68 (.tmp 9) (.tmp 95), type := 0, pos := "ref.go:130", after := #[{ on := 11, ground := .data }, { on := 9, ground := .data }, { on := 12, ground := .chain }, { on := 0, ground := .phase }, { on := 1, ground := .phase }, { on := 2, ground := .phase }, { on := 3, ground := .phase }, { on := 4, ground := .phase }, { on := 5, ground := .phase }, { on := 6, ground := .phase }, { on := 7, ground := .phase }, { on := 8, ground := .phase }, { on := 9, ground := .phase }, { on := 10, ground := .phase }, { on := 11, ground := .phase }, { on := 12, ground := .phase }], guard := none }) rfl (fun K hK => ?_) AllReadyH.nil)
          rw [if_pos (by rfl)]
          refine wp_store_row 68 (.tmp 9) (.tmp 95) rfl B #[.int .u32 T', .slice sp' nq' sc'] rfl rfl 68 (#[.int .u32 0, .slice none 0 0]) HG106.out.2.2.2.2.2.1 (by kernel_rfl) (by rfl) (by simp [Value.oneCell']) ?_
          generalize hwg107 : World.setRow _ _ _ = wg107
          have HG108 := Lib.hid (show Below w.heap.size w wg107 ∧ RowAt wg107 Z 26 #[.int .i64 rx, .slice sT k S.t.c, .slice (some ⟨S.m.b, S.m.o, none⟩) n S.m.c, .slice sE kE S.e.c] ∧ RowAt wg107 (Z + 1) 26 #[.int .i64 rx, .slice sT' k S'.t.c, .slice (some ⟨S'.m.b, S'.m.o, none⟩) n S'.m.c, .slice sE' kE S'.e.c] ∧ RowAt wg107 A 68 #[.int .u32 T, .slice sp nq sc] ∧ Z + 1 < A ∧ RowAt wg107 B 68 #[.int .u32 T', .slice sp' nq' sc'] ∧ Z + 1 < B ∧ A ≠ B by rw [← hwg107]; exact ⟨below_row HG106.out.1 (Nat.le_refl _) (by have := HG106.out.2.2.2.2.2.2.1; have := HZE.out; omega) _, HG106.out.2.1.keep (ch_setRow _ _ _) (fun e => by have := HG106.out.2.2.2.2.2.2.1; omega), HG106.out.2.2.1.keep (ch_setRow _ _ _) (fun e => by have := HG106.out.2.2.2.2.2.2.1; omega), HG106.out.2.2.2.1.keep (ch_setRow _ _ _) (fun e => HG106.out.2.2.2.2.2.2.2 e), HG106.out.2.2.2.2.1, HG106.out.2.2.2.2.2.1.put, HG106.out.2.2.2.2.2.2.1, HG106.out.2.2.2.2.2.2.2⟩)
          clear hwg107
          refine hK.out _ _ ⟨HG108.out.1, HG108.out.2.1, HG108.out.2.2.1⟩ (fun hHeld => ?_)
          clear hK K
          try simp only [Act.put]
          refine wpAnyH_done (by kernel_rfl) ?_ _
          go_wp2
          go_meet
          case rel => exact ⟨A, B, rfl, rfl, HG108.out.1, HG108.out.2.1, HG108.out.2.2.1, HG108.out.2.2.2.1, HG108.out.2.2.2.2.2.1⟩
        · go_simp
          obtain ⟨B, hB⟩ : ∃ b, b = (wd).heap.size := ⟨_, rfl⟩
          rw [← hB]
          generalize hwg109 : World.alloc _ _ = wg109
          have bwg109 : Below (wd).heap.size (wd) wg109 := by rw [← hwg109]; exact (Below.refl _ _).alloc (Nat.le_refl _) _
          have rwg109 : RowAt wg109 B 68 (#[.int .u32 0, .slice none 0 0]) := by rw [← hwg109, hB]; exact RowAt.mk _ _ _
          have HG110 := Lib.hid (show Below w.heap.size w wg109 ∧ RowAt wg109 Z 26 #[.int .i64 rx, .slice sT k S.t.c, .slice (some ⟨S.m.b, S.m.o, none⟩) n S.m.c, .slice sE kE S.e.c] ∧ RowAt wg109 (Z + 1) 26 #[.int .i64 rx, .slice sT' k S'.t.c, .slice (some ⟨S'.m.b, S'.m.o, none⟩) n S'.m.c, .slice sE' kE S'.e.c] ∧ RowAt wg109 B 68 (#[.int .u32 0, .slice none 0 0]) ∧ Z + 1 < B from ⟨(HG1.out.1.trans ((bwg109).mono HG1.out.1.size)), (HG1.out.2.1.new (bwg109)), (HG1.out.2.2.new (bwg109)), rwg109, (by have := HG1.out.2.2.lt; omega)⟩)
          clear hwg109 bwg109 rwg109 hB
          refine hK.out _ _ ⟨HG110.out.1, HG110.out.2.1, HG110.out.2.2.1⟩ (fun hHeld => ?_)
          clear hK K
          try simp only [Act.put, List.setIfInBounds_toArray, List.set_cons_zero, List.set_cons_succ]
          refine wpAnyH_ready (rs := [10]) (by kernel_rfl) (by simp) (AllReadyH.cons (o := { dst := some 8, op := .alloc 68, type := 0, pos := "ref.go:130", after := #[], guard := none }) rfl (fun K hK => ?_) AllReadyH.nil)
          go_simp
          obtain ⟨A, hA⟩ : ∃ b, b = (wg109).heap.size := ⟨_, rfl⟩
          rw [← hA]
          generalize hwg111 : World.alloc _ _ = wg111
          have bwg111 : Below (wg109).heap.size (wg109) wg111 := by rw [← hwg111]; exact (Below.refl _ _).alloc (Nat.le_refl _) _
          have rwg111 : RowAt wg111 A 68 (#[.int .u32 0, .slice none 0 0]) := by rw [← hwg111, hA]; exact RowAt.mk _ _ _
          have HG112 := Lib.hid (show Below w.heap.size w wg111 ∧ RowAt wg111 Z 26 #[.int .i64 rx, .slice sT k S.t.c, .slice (some ⟨S.m.b, S.m.o, none⟩) n S.m.c, .slice sE kE S.e.c] ∧ RowAt wg111 (Z + 1) 26 #[.int .i64 rx, .slice sT' k S'.t.c, .slice (some ⟨S'.m.b, S'.m.o, none⟩) n S'.m.c, .slice sE' kE S'.e.c] ∧ RowAt wg111 B 68 (#[.int .u32 0, .slice none 0 0]) ∧ Z + 1 < B ∧ RowAt wg111 A 68 (#[.int .u32 0, .slice none 0 0]) ∧ Z + 1 < A ∧ A ≠ B from ⟨(HG110.out.1.trans ((bwg111).mono HG110.out.1.size)), (HG110.out.2.1.new (bwg111)), (HG110.out.2.2.1.new (bwg111)), (HG110.out.2.2.2.1.new (bwg111)), HG110.out.2.2.2.2, rwg111, (by have := HG110.out.2.2.1.lt; omega), (by have := HG110.out.2.2.2.1.lt; omega)⟩)
          clear hwg111 bwg111 rwg111 hA
          refine hK.out _ _ ⟨HG112.out.1, HG112.out.2.1, HG112.out.2.2.1⟩ (fun hHeld => ?_)
          clear hK K
          try simp only [Act.put, List.setIfInBounds_toArray, List.set_cons_zero, List.set_cons_succ]
          refine wpAnyH_ready (rs := [12]) (by kernel_rfl) (by simp) (AllReadyH.cons (o := { dst := none, op := .store 68 (.tmp 8) (.tmp 90), type := 0, pos := "ref.go:130", after := #[{ on := 10, ground := .data }, { on := 4, ground := .data }, { on := 0, ground := .phase }, { on := 1, ground := .phase }, { on := 2, ground := .phase }, { on := 3, ground := .phase }, { on := 4, ground := .phase }, { on := 5, ground := .textOnly Go.Departure.lateStores }, { on := 6, ground := .textOnly Go.Departure.lateStores }, { on := 7, ground := .textOnly Go.Departure.lateStores }, { on := 8, ground := .textOnly Go.Departure.lateStores }, { on := 9, ground := .textOnly Go.Departure.lateStores }, { on := 10, ground := .phase }, { on := 11, ground := .phase }], guard := none }) rfl (fun K hK => ?_) AllReadyH.nil)
          rw [if_pos (by rfl)]
          refine wp_store_row 68 (.tmp 8) (.tmp 90) rfl A #[.int .u32 T, .slice sp nq sc] rfl rfl 68 (#[.int .u32 0, .slice none 0 0]) HG112.out.2.2.2.2.2.1 (by kernel_rfl) (by rfl) (by simp [Value.oneCell']) ?_
          generalize hwg113 : World.setRow _ _ _ = wg113
          have HG114 := Lib.hid (show Below w.heap.size w wg113 ∧ RowAt wg113 Z 26 #[.int .i64 rx, .slice sT k S.t.c, .slice (some ⟨S.m.b, S.m.o, none⟩) n S.m.c, .slice sE kE S.e.c] ∧ RowAt wg113 (Z + 1) 26 #[.int .i64 rx, .slice sT' k S'.t.c, .slice (some ⟨S'.m.b, S'.m.o, none⟩) n S'.m.c, .slice sE' kE S'.e.c] ∧ RowAt wg113 B 68 (#[.int .u32 0, .slice none 0 0]) ∧ Z + 1 < B ∧ RowAt wg113 A 68 #[.int .u32 T, .slice sp nq sc] ∧ Z + 1 < A ∧ A ≠ B by rw [← hwg113]; exact ⟨below_row HG112.out.1 (Nat.le_refl _) (by have := HG112.out.2.2.2.2.2.2.1; have := HZE.out; omega) _, HG112.out.2.1.keep (ch_setRow _ _ _) (fun e => by have := HG112.out.2.2.2.2.2.2.1; omega), HG112.out.2.2.1.keep (ch_setRow _ _ _) (fun e => by have := HG112.out.2.2.2.2.2.2.1; omega), HG112.out.2.2.2.1.keep (ch_setRow _ _ _) (fun e => HG112.out.2.2.2.2.2.2.2 e.symm), HG112.out.2.2.2.2.1, HG112.out.2.2.2.2.2.1.put, HG112.out.2.2.2.2.2.2.1, HG112.out.2.2.2.2.2.2.2⟩)
          clear hwg113
          refine hK.out _ _ ⟨HG114.out.1, HG114.out.2.1, HG114.out.2.2.1⟩ (fun hHeld => ?_)
          clear hK K
          try simp only [Act.put]
          refine wpAnyH_ready (rs := [13]) (by kernel_rfl) (by simp) (AllReadyH.cons (o := { dst := none, op := .store 68 (.tmp 9) (.tmp 95), type := 0, pos := "ref.go:130", after := #[{ on := 11, ground := .data }, { on := 9, ground := .data }, { on := 12, ground := .chain }, { on := 0, ground := .phase }, { on := 1, ground := .phase }, { on := 2, ground := .phase }, { on := 3, ground := .phase }, { on := 4, ground := .phase }, { on := 5, ground := .phase }, { on := 6, ground := .phase }, { on := 7, ground := .phase }, { on := 8, ground := .phase }, { on := 9, ground := .phase }, { on := 10, ground := .phase }, { on := 11, ground := .phase }, { on := 12, ground := .phase }], guard := none }) rfl (fun K hK => ?_) AllReadyH.nil)
          rw [if_pos (by rfl)]
          refine wp_store_row 68 (.tmp 9) (.tmp 95) rfl B #[.int .u32 T', .slice sp' nq' sc'] rfl rfl 68 (#[.int .u32 0, .slice none 0 0]) HG114.out.2.2.2.1 (by kernel_rfl) (by rfl) (by simp [Value.oneCell']) ?_
          generalize hwg115 : World.setRow _ _ _ = wg115
          have HG116 := Lib.hid (show Below w.heap.size w wg115 ∧ RowAt wg115 Z 26 #[.int .i64 rx, .slice sT k S.t.c, .slice (some ⟨S.m.b, S.m.o, none⟩) n S.m.c, .slice sE kE S.e.c] ∧ RowAt wg115 (Z + 1) 26 #[.int .i64 rx, .slice sT' k S'.t.c, .slice (some ⟨S'.m.b, S'.m.o, none⟩) n S'.m.c, .slice sE' kE S'.e.c] ∧ RowAt wg115 B 68 #[.int .u32 T', .slice sp' nq' sc'] ∧ Z + 1 < B ∧ RowAt wg115 A 68 #[.int .u32 T, .slice sp nq sc] ∧ Z + 1 < A ∧ A ≠ B by rw [← hwg115]; exact ⟨below_row HG114.out.1 (Nat.le_refl _) (by have := HG114.out.2.2.2.2.1; have := HZE.out; omega) _, HG114.out.2.1.keep (ch_setRow _ _ _) (fun e => by have := HG114.out.2.2.2.2.1; omega), HG114.out.2.2.1.keep (ch_setRow _ _ _) (fun e => by have := HG114.out.2.2.2.2.1; omega), HG114.out.2.2.2.1.put, HG114.out.2.2.2.2.1, HG114.out.2.2.2.2.2.1.keep (ch_setRow _ _ _) (fun e => HG114.out.2.2.2.2.2.2.2 e), HG114.out.2.2.2.2.2.2.1, HG114.out.2.2.2.2.2.2.2⟩)
          clear hwg115
          refine hK.out _ _ ⟨HG116.out.1, HG116.out.2.1, HG116.out.2.2.1⟩ (fun hHeld => ?_)
          clear hK K
          try simp only [Act.put]
          refine wpAnyH_done (by kernel_rfl) ?_ _
          go_wp2
          go_meet
          case rel => exact ⟨A, B, rfl, rfl, HG116.out.1, HG116.out.2.1, HG116.out.2.2.1, HG116.out.2.2.2.2.2.1, HG116.out.2.2.2.1⟩

      case rest =>
      obtain ⟨A, B, rfl, rfl, HQ⟩ := hcut
      clear hwd HG1
      obtain ⟨w6, hw6⟩ : ∃ w6, wc = w6 := ⟨_, rfl⟩
      rw [hw6] at HQ ⊢
      clear hw6
      have H6 := Lib.hid HQ.out
      clear HQ
      have p0 : w6.cell? ⟨A, 0, none⟩ = some (.int .u32 T) := H6.out.2.2.2.1.cell 0
      have p1 : w6.cell? ⟨A, 1, none⟩ = some (.slice sp nq sc) := H6.out.2.2.2.1.cell 1
      have q0 : w6.cell? ⟨B, 0, none⟩ = some (.int .u32 T') := H6.out.2.2.2.2.cell 0
      have q1 : w6.cell? ⟨B, 1, none⟩ = some (.slice sp' nq' sc') := H6.out.2.2.2.2.cell 1
      have c2 : w6.cell? ⟨Z, 2, none⟩ = some (.slice (some ⟨S.m.b, S.m.o, none⟩) n S.m.c) := H6.out.2.1.cell 2
      cases hTT : T == T'
      · have HV2 := Lib.hid (HF.out (by rw [HME.out, decide_eq_false (by simpa using hTT)]; rfl))
        have hTn : (T != T') = true := by simp [bne, hTT]
        clear hTT
        go_wp2
        go_ret
        exact ⟨by rw [HV2.out]; rfl, H6.out.1⟩
      have hTn : (T != T') = false := by simp [bne, hTT]
      have HME1 := Lib.hid (show modeEq x y p = _ from HME.out.trans (by rw [decide_eq_true (show T = T' by simpa using hTT), Bool.true_and]))
      clear hTT HME
      by_cases hnn : nq = nq'
      case neg =>
        have HV2 := Lib.hid (HF.out (by rw [HME1.out, decide_eq_false hnn]; rfl))
        have hnn2 : ((nq : Int) != (nq' : Int)) = true := by simp; omega
        clear hnn
        go_wp2
        go_ret
        exact ⟨by rw [HV2.out]; rfl, H6.out.1⟩
      subst hnn
      have HME2 := Lib.hid (show modeEq x y p = _ from HME1.out.trans (by rw [decide_eq_true rfl, Bool.true_and]))
      clear HME1
      go_wp2
      clear p0 p1 q0 q1 c2
      go_loopg [10] nq (fun g u wq => ∃ j : Nat, j + g = nq ∧ u = .int .i64 (j : Nat) ∧ Aside ((Below w.heap.size w wq ∧ RowAt wq Z 26 #[.int .i64 rx, .slice sT k S.t.c, .slice (some ⟨S.m.b, S.m.o, none⟩) n S.m.c, .slice sE kE S.e.c] ∧ RowAt wq (Z + 1) 26 #[.int .i64 rx, .slice sT' k S'.t.c, .slice (some ⟨S'.m.b, S'.m.o, none⟩) n S'.m.c, .slice sE' kE S'.e.c] ∧ RowAt wq A 68 #[.int .u32 T, .slice sp nq sc] ∧ RowAt wq B 68 #[.int .u32 T', .slice sp' nq sc']) ∧ ∀ i, i < j → decide ((qth qs i).1 = (qth qs' i).1 ∧ (qth qs i).2 = (qth qs' i).2) = true))
      case atStart => exact ⟨0, by omega, rfl, H6.out, fun j hj => absurd hj (Nat.not_lt_zero j)⟩
      clear H6
      case round =>
        obtain ⟨j, hjg, rfl, HP⟩ := hrel
        cases gk with
        | zero =>
          obtain rfl : j = nq := by omega
          have p1 : wr.cell? ⟨A, 1, none⟩ = some (.slice sp j sc) := HP.out.1.2.2.2.1.cell 1
          have HN2 := Lib.hid (HY.out (HME2.out.trans (rangeAll_yes HP.out.2)))
          go_wp2
          go_roundg g1
          case measure => omega
          case rel => exact ⟨p + 1, by have := HG.out; omega, by go_num, ⟨HP.out.1.1, HP.out.1.2.1, HP.out.1.2.2.1⟩, HN2.out⟩
        | succ g2 =>
          have hj : j < nq := by omega
          have HG2 := Lib.hid hjg
          obtain rfl := HQxk.out.2.1 (by omega)
          obtain rfl := HQyk.out.2 (by omega)
          have hj2 : (j : Int) < (nq : Int) := by omega
          have hj3 : (j : Int) + 1 ≤ 9223372036854775807 := by omega
          have hc := HQxk.out.1 j hj wr HP.out.1.1
          have HD := Lib.hid (fun (wx : World) (hb : Below w.heap.size w wx) => HQyk.out.1 j hj wx hb)
          have HBD := Lib.hid (fun (hb : decide ((qth qs j).1 = (qth qs' j).1 ∧ (qth qs j).2 = (qth qs' j).2) = false) => HF.out (HME2.out.trans (rangeAll_no hj hb)))
          have HGD := Lib.hid (fun (hb : decide ((qth qs j).1 = (qth qs' j).1 ∧ (qth qs j).2 = (qth qs' j).2) = true) => show ∀ i, i < j + 1 → decide ((qth qs i).1 = (qth qs' i).1 ∧ (qth qs i).2 = (qth qs' i).2) = true from fun i hi => by
            rcases Nat.lt_or_ge i j with h2 | h2
            · exact HP.out.2 i h2
            · obtain rfl : i = j := by omega
              exact hb)
          obtain ⟨a1, ha1⟩ : ∃ a, (qth qs j).1 = a := ⟨_, rfl⟩
          obtain ⟨a2, ha2⟩ : ∃ a, (qth qs j).2 = a := ⟨_, rfl⟩
          obtain ⟨b1, hb1⟩ : ∃ a, (qth qs' j).1 = a := ⟨_, rfl⟩
          obtain ⟨b2, hb2⟩ : ∃ a, (qth qs' j).2 = a := ⟨_, rfl⟩
          rw [ha1, ha2] at hc
          rw [hb1, hb2] at HD
          rw [ha1, ha2, hb1, hb2] at HBD HGD
          clear ha1 ha2 hb1 hb2 hjg HQxk HQyk HME2 HY HF HMxk HMyk
          have y0 : wr.cell? ⟨sb, so + j * 2, none⟩ = some (.int .i64 a1) := hc 0 _ rfl
          have y1 : wr.cell? ⟨sb, so + j * 2 + 1, none⟩ = some (.int .i64 a2) := hc 1 _ rfl
          have z0 : wr.cell? ⟨sb', so' + j * 2, none⟩ = some (.int .i64 b1) := HD.out wr HP.out.1.1 0 _ rfl
          have z1 : wr.cell? ⟨sb', so' + j * 2 + 1, none⟩ = some (.int .i64 b2) := HD.out wr HP.out.1.1 1 _ rfl
          have p1 : wr.cell? ⟨A, 1, none⟩ = some (.slice (some ⟨sb, so, none⟩) nq sc) := HP.out.1.2.2.2.1.cell 1
          have q1 : wr.cell? ⟨B, 1, none⟩ = some (.slice (some ⟨sb', so', none⟩) nq sc') := HP.out.1.2.2.2.2.cell 1
          clear hc
          have H7 := Lib.hid (And.intro HP.out.1 trivial)
          go_upto_region 22 with fail
          have hgd : Tryd.prog.eqGuardType Tryd.prog.depth 112 = false := by kernel_rfl
          have hnq1 := fun wx => neq_queue a1 a2 b1 b2 wx
          obtain ⟨bb, hbb⟩ : ∃ b, decide (a1 = b1 ∧ a2 = b2) = b := ⟨_, rfl⟩
          rw [hbb] at hnq1 HBD HGD
          clear hbb
          cases bb with
          | true =>
            have HN2 := Lib.hid (HGD.out rfl)
            go_quiet (fail)
            go_wp2
            go_roundg g2
            case measure => omega
            case rel => exact ⟨j + 1, by have := HG2.out; omega, by go_num, ⟨below_dn H7.out.1.1 _, H7.out.1.2⟩, HN2.out⟩
          | false =>
            have HV2 := Lib.hid (HBD.out rfl)
            go_quiet (fail)
            go_wp2
            go_ret
            exact ⟨by rw [HV2.out]; rfl, below_dn H7.out.1.1 _⟩
end Go.Proofs.YtknkhigmokooaaaDoor
