/- The walk of ReadyDrains. -/
import Derived.Test.YtimaihdlaaonbaaDoorPl
import Derived.Test.YtimaihdlaaonbaaDoorDr0
import Derived.Test.YtimaihdlaaonbaaDoorSplit
namespace Go.Proofs.YtimaihdlaaonbaaDoor
open Go.RowKit

/-- Where the queue lies while it is drained: nothing else has turned since W. -/
def DC (W : World) (Bq : Nat) (q : Nat → Nat) (w : World) : Prop := QAt w Bq q ∧ Ch (fun j => j = Bq) W w
theorem DC.drew {W w : World} {Bq : Nat} {q : Nat → Nat} (h : DC W Bq q w) : DC W Bq q w.drew := ⟨h.1.below (Below.refl _ _).drew h.1.lt, h.2.drew⟩

theorem quiet_idx {C : World → Prop} {o : Oper} {a : Act} {K : Act → Prop} {x y : Operand} {g N cp n : Nat} {z : Int} (ho : o.op = .indexAddr 41 x y) (hx : a.eval x = .slice (some ⟨g, 0, none⟩) N cp) (hy : a.eval y = .int .i64 z) (hz : z = (n : Int)) (hn : n < N)
    (hk : K (a.put o.dst (.pointer (some ⟨g, n, none⟩)))) : o.quiet Tryd.prog a C K :=
  quiet_run (fun w _ => by
    subst hz
    have h1 : (n : Int) < (N : Int) := by omega
    have h0 : (0 : Int) ≤ (n : Int) := by omega
    unfold execOp
    simp only [ho, hx, hy]
    go_simp) hk
theorem quiet_ld {C : World → Prop} {o : Oper} {a : Act} {K : Act → Prop} {x : Operand} {g n : Nat} {X : Int} (ho : o.op = .load 3 x) (hx : a.eval x = .pointer (some ⟨g, n, none⟩)) (hC : ∀ w, C w → w.cell? ⟨g, n, none⟩ = some (.int .i64 X))
    (hk : K (a.put o.dst (.int .i64 X))) : o.quiet Tryd.prog a C K :=
  quiet_run (fun w hw => by
    have hc := hC w hw
    unfold execOp
    simp only [ho, hx]
    go_simp) hk

set_option maxRecDepth 100000 in
set_option maxHeartbeats 8000000 in
theorem law_drains (sp : Option Addr) (b off cap : Nat) (O : List (Bool × Int × Int)) (w : World) (hlen : O.length ≤ 9223372036854775807) (hO : Ops w sp b off O) (ht : Tab w) :
    Calls Tryd.prog 4 #[.slice sp O.length cap] w fun e w' => e = .returned (.bool true) ∧ Below w.heap.size w w' := by
  by_cases hn : O.length ≤ 200
  · have hp := ht.pos
    have HO := Lib.hid hO
    have HT := Lib.hid ht
    clear ht hO
    go_enter Tryd.func4, Tryd.ntmps4
    go_wp2_with fail
    rw [← lvs_zero]
    have b0 : ∀ W0 : World, (w.alloc (.cells (lvs q0).toArray 28)) = W0 → QAt W0 w.heap.size q0 ∧ Below w.heap.size w W0 := by
      rintro W0 rfl
      exact ⟨heap_alloc_new w _, (Below.refl _ _).alloc (Nat.le_refl _) _⟩
    generalize hW0 : World.alloc _ _ = W0
    have HP0 := Lib.hid (b0 W0 hW0)
    clear hW0 b0
    obtain ⟨Bq, hBq⟩ : ∃ Bq, Bq = w.heap.size := ⟨_, rfl⟩
    rw [← hBq] at HP0 ⊢
    have HB := Lib.hid hBq
    clear hBq
    obtain ⟨N, hN⟩ : ∃ N, N = O.length := ⟨_, rfl⟩
    rw [← hN] at hn
    rw [← hN]
    have HN := Lib.hid hN
    clear hN hlen
    go_loopg [4] N (fun g i wr => ∃ (k : Nat), k + g = N ∧ i = .int .i64 k ∧ Aside (QAt wr Bq (rq O k) ∧ Below w.heap.size w wr))
    case atStart => exact ⟨0, by omega, rfl, by have := HP0.out; rw [HB.out] at this ⊢; exact this⟩
    case round =>
      obtain ⟨k, hkg, rfl, HPk⟩ := hrel
      cases gk with
      | zero =>
        obtain rfl : k = N := by omega
        obtain ⟨q, hq⟩ : ∃ q, q = rq O k := ⟨_, rfl⟩
        have hb : ∀ i, q i ≤ 32 := by rw [hq]; exact rq_le O k
        rw [← hq] at HPk
        clear hq
        obtain ⟨L, hL⟩ : ∃ L, L = allP q 32 := ⟨_, rfl⟩
        have hle := allP_le q 32
        rw [← hL] at hle
        have C11 := Lib.hid (show Calls Tryd.prog 11 #[.pointer (some ⟨Bq, 0, none⟩)] wr fun e w' => ∃ v, e = .returned v ∧ w'.ownsRow wr.heap.size 3 1 v (2 * L.length) (rowI (flat L)) ∧ Below wr.heap.size wr w' from by
          have := allq_any Bq q wr HPk.out.1 (HT.out.below hp HPk.out.2); rw [← hL] at this; exact this)
        have HL := Lib.hid hL.symm
        clear hL
        go_wp2_with fail
        refine C11.out.mono ?_
        rintro e W3 ⟨v2, rfl, hown2, hb3⟩
        obtain ⟨sp2, g2, cp2, rfl, hs2, hc2⟩ := own_ints hown2 (by rw [flat_len])
        obtain ⟨N2, hN2⟩ : ∃ N2, N2 = 2 * L.length := ⟨_, rfl⟩
        have hq3 : QAt W3 Bq q := HPk.out.1.below hb3 HPk.out.1.lt
        have hb03 : Below w.heap.size w W3 := HPk.out.2.trans (hb3.mono HPk.out.2.size)
        have HC := Lib.hid (show ∀ wz : World, Ch (fun j => j = Bq) W3 wz → ∀ k, k < 2 * L.length → wz.cell? ⟨g2, k, none⟩ = some (.int .i64 (nth (flat L) k)) from fun wz hz k hk => by
          obtain ⟨_, l1, l2⟩ := hs2 (by omega)
          exact hz.cell (p := ⟨g2, k, none⟩) (hc2 k hk) (by have := HPk.out.1.lt; show ¬ g2 = Bq; omega))
        have HSP := Lib.hid (show 0 < 2 * L.length → sp2 = some ⟨g2, 0, none⟩ from fun h => (hs2 h).1)
        have H3 := Lib.hid (And.intro hq3 hb03)
        have FN := Lib.hid (show ∀ wz : World, Ch (fun j => j = Bq) W3 wz → Below w.heap.size w wz from fun wz hz => hb03.trans (hz.below (fun j hj e => by have := HB.out; omega) hb03.size))
        clear hown2 hb3 hs2 hc2 hq3 hb03
        rw [← hN2] at HC HSP
        rw [← hN2]
        have HN2 := Lib.hid hN2
        have hN5 : N2 ≤ 2048 := by omega
        clear hN2 hle
        go_wp2_with fail
        go_loopg [6, 7, 8] L.length (fun g i n ok wr => ∃ (k j : Nat), k = 2 * j ∧ j + g = L.length ∧ i = .int .i64 k ∧ Aside (DC W3 Bq (dq q L j) wr))
        case atStart => exact ⟨0, 0, rfl, by omega, rfl, H3.out.1, Ch.refl _ _⟩
        case round =>
          obtain ⟨k2, j, hkj, hjg, rfl, HD⟩ := hrel
          cases gk with
          | zero =>
            obtain rfl : k2 = N2 := by have := HN2.out; omega
            obtain rfl : j = L.length := by omega
            have FW := Lib.hid (FN.out _ HD.out.2)
            have hE := dq_end HL.out hb
            have c12 := first_q Bq (dq q L L.length) _ HD.out.1 (HT.out.below hp FW.out)
            rw [hE.1, hE.2.1] at c12
            have c13 := set_any Bq (dq q L L.length) _ HD.out.1
            rw [hE.2.2] at c13
            have C12 := Lib.hid c12
            have C13 := Lib.hid c13
            have C10 := Lib.hid (alive_any _ (HT.out.below hp FW.out))
            clear hE c12 c13
            go_wp2_with fail
            refine C12.out.mono ?_
            rintro e w5 ⟨rfl, rfl⟩
            go_wp2_with fail
            refine C13.out.mono ?_
            rintro e w6 ⟨rfl, rfl⟩
            rw [show w32 0#32 = 0 from rfl]
            go_wp2_with fail
            refine C10.out.mono ?_
            rintro e w7 ⟨rfl, hb7⟩
            have FIN := Lib.hid (FW.out.trans (hb7.mono FW.out.size))
            clear hb7
            go_wp2
            go_ret
            exact ⟨rfl, FIN.out⟩
          | succ m1 =>
            have hj : j < L.length := by omega
            have hk2 : k2 < N2 := by have := HN2.out; omega
            have hli : (k2 : Int) < (N2 : Int) := by omega
            have hl0 : (0 : Int) ≤ (k2 : Int) := by omega
            obtain rfl := HSP.out (by omega)
            have FW := Lib.hid (FN.out _ HD.out.2)
            have hS := dq_spec HL.out j hj
            have c12 := first_q Bq (dq q L j) _ HD.out.1 (HT.out.below hp FW.out)
            rw [hS.1, hS.2.1] at c12
            have hat := flat_at L j hj
            obtain ⟨X, hX⟩ : ∃ X : Int, X = aN L j := ⟨_, rfl⟩
            obtain ⟨A, hA⟩ : ∃ A : Int, A = aL L j := ⟨_, rfl⟩
            have c5 : ∀ wz, DC W3 Bq (dq q L j) wz → Calls Tryd.prog 5 #[.pointer (some ⟨Bq, 0, none⟩), .int .i64 X] wz fun e w' => e = .returned (.bool true) ∧ DC W3 Bq (dq q L (j + 1)) w' := fun wz hz => by
              have := drop_any Bq (dq q L j) X wz hz.1 (dq_le L hb j)
              rw [hX, hS.2.2] at this
              rw [hX]
              exact this.mono fun e w' ⟨h1, h2, h3⟩ => ⟨h1, h2, hz.2.trans h3⟩
            rw [← hX] at c12
            obtain ⟨q1, hq1⟩ : ∃ q1, q1 = dq q L j := ⟨_, rfl⟩
            obtain ⟨q2, hq2⟩ : ∃ q2, q2 = dq q L (j + 1) := ⟨_, rfl⟩
            rw [← hq1] at c5 HD
            rw [← hq2] at c5
            have C12 := Lib.hid c12
            have C5 := Lib.hid c5
            have HQ2 := Lib.hid hq2
            have CL : ∀ (q' : Nat → Nat) wz, DC W3 Bq q' wz → wz.cell? ⟨g2, k2, none⟩ = some (.int .i64 X) ∧ wz.cell? ⟨g2, k2 + 1, none⟩ = some (.int .i64 A) := fun q' wz hz => by
              have h1 := HC.out wz hz.2 k2 hk2
              have h2 := HC.out wz hz.2 (k2 + 1) (by have := HN2.out; omega)
              rw [hkj, hat.1] at h1
              rw [hkj, hat.2] at h2
              rw [hX, hA, hkj]
              exact ⟨h1, h2⟩
            have HL1 := Lib.hid CL
            have HXA := Lib.hid (And.intro hX hA)
            have HJ := Lib.hid (And.intro hkj (And.intro hjg hj))
            clear c12 c5 hS hat hq1 hq2 CL hX hA hkj hjg hj
            go_wp2_with fail
            refine C12.out.mono ?_
            rintro e w5 ⟨rfl, rfl⟩
            go_wp2_with fail
            have hkj := HJ.out.1
            rcases Nat.eq_zero_or_pos j with hj0 | hj0
            · have d0 : decide (0 < k2) = false := by simp; omega
              have HL2 := Lib.hid (HL1.out q1)
              have HL3 := Lib.hid (HL1.out q2)
              clear HL1 hkj hj0
              refine wp_region_splitt (C := DC W3 Bq q1) (C2 := DC W3 Bq q2) _ 13 [11, 12] rfl rfl (by kernel_rfl) (by kernel_rfl) (by kernel_rfl) (by kernel_rfl) (by kernel_rfl) (by kernel_rfl) (by kernel_rfl) (by kernel_rfl) (by kernel_rfl) HD.out.drew ?_
              simp only [List.take_succ_cons, List.take_zero]
              repeat
                first
                  | go_big_quiet_skip
                  | (go_big_quiet_want
                     first
                       | (go_big_quiet_op
                          go_big_quiet_on)
                       | (apply quiet_run
                          · intro wz hz
                            have hcn := (HL2.out wz hz)
                            go_simp
                            try with_reducible rfl
                          simp only [Act.put, List.setIfInBounds_toArray, List.set_cons_zero, List.set_cons_succ]
                          go_big_quiet_on))
              refine wpQuiet_nil (fun wz hz => ?_)
              refine wpOp_enter (f := 5) (args := #[.pointer (some ⟨Bq, 0, none⟩), .int .i64 X]) (v := .bool true) (dt := some 72) rfl rfl rfl ?_ ?_
              · go_simp
              · refine (C5.out wz hz).mono ?_
                rintro e w2 ⟨rfl, h2⟩
                refine ⟨rfl, h2, ?_⟩
                clear h2
                simp only [Act.put, List.setIfInBounds_toArray, List.set_cons_zero, List.set_cons_succ]
                repeat
                  first
                    | go_big_quiet_skip
                    | (go_big_quiet_want
                       first
                         | (go_big_quiet_op
                            go_big_quiet_on)
                         | (apply quiet_run
                            · intro wz hz
                              have hcn := (HL3.out wz hz)
                              go_simp
                              try with_reducible rfl
                            simp only [Act.put, List.setIfInBounds_toArray, List.set_cons_zero, List.set_cons_succ]
                            go_big_quiet_on))
                refine wpQuiet_nil ?_
                intro w3 h3
                have H4 := Lib.hid h3
                clear h3
                go_wp2
                go_roundg m1
                case measure => omega
                case rel => exact ⟨k2 + 2, j + 1, by have := HJ.out.1; omega, by have := HJ.out.2.1; omega, by go_num, by rw [← HQ2.out]; exact H4.out⟩
            · have hj1 : j - 1 < L.length := by have := HJ.out; omega
              have hat := flat_at L (j - 1) hj1
              have hnx := next_at HL.out (j - 1) (by have := HJ.out; omega)
              rw [show j - 1 + 1 = j by omega] at hnx
              obtain ⟨X0, hX0⟩ : ∃ X0 : Int, X0 = aN L (j - 1) := ⟨_, rfl⟩
              obtain ⟨A0, hA0⟩ : ∃ A0 : Int, A0 = aL L (j - 1) := ⟨_, rfl⟩
              have hcmp : A0 < A ∨ A0 = A ∧ X0 < X := by have := HXA.out; omega
              rw [← hX0, ← hA0] at hat
              obtain ⟨m, hm⟩ : ∃ m, k2 = m + 2 := ⟨2 * (j - 1), by omega⟩
              subst hm
              have HL4 := Lib.hid (show ∀ (q' : Nat → Nat) wz, DC W3 Bq q' wz → wz.cell? ⟨g2, m, none⟩ = some (.int .i64 X0) ∧ wz.cell? ⟨g2, m + 1, none⟩ = some (.int .i64 A0) ∧ wz.cell? ⟨g2, m + 2, none⟩ = some (.int .i64 X) ∧ wz.cell? ⟨g2, m + 3, none⟩ = some (.int .i64 A) from fun q' wz hz => by
                have h1 := HC.out wz hz.2 m (by omega)
                have h2 := HC.out wz hz.2 (m + 1) (by omega)
                rw [show m = 2 * (j - 1) by omega] at h1 h2
                rw [hat.1] at h1
                rw [hat.2] at h2
                rw [← show m = 2 * (j - 1) by omega] at h1 h2
                exact ⟨h1, h2, (HL1.out q' wz hz).1, (HL1.out q' wz hz).2⟩)
              have d0 : decide ((0 : Int) < (m : Int) + 2) = true := by simp; omega
              have HL2 := Lib.hid (HL4.out q1)
              have HL3 := Lib.hid (HL4.out q2)
              have hm3 : m + 3 < N2 := by have := HN2.out; have := HJ.out; omega
              clear HL1 HL4 hkj hj0 hj1 hat hnx hX0 hA0
              have hw1 : IntKind.i64.wrap ((m : Int) + 2 + 1) = ((m + 3 : Nat) : Int) := by rw [IntKind.wrap_i64]; omega
              have hw2 : IntKind.i64.wrap ((m : Int) + 2 - 1) = ((m + 1 : Nat) : Int) := by rw [IntKind.wrap_i64]; omega
              have hw3 : IntKind.i64.wrap ((m : Int) + 2 - 2) = (m : Int) := by rw [IntKind.wrap_i64]; omega
              have hw4 : IntKind.i64.wrap (m : Int) = (m : Int) := by rw [IntKind.wrap_i64]; omega
              rcases hcmp with hlt | ⟨he, hlt⟩
              · have d1 : decide (A < A0) = false := by simp; omega
                have d2 : (A == A0) = false := by rw [beq_eq_false_iff_ne]; omega
                clear hlt
                refine wp_region_splitt (C := DC W3 Bq q1) (C2 := DC W3 Bq q2) _ 13 [11, 12] rfl rfl (by kernel_rfl) (by kernel_rfl) (by kernel_rfl) (by kernel_rfl) (by kernel_rfl) (by kernel_rfl) (by kernel_rfl) (by kernel_rfl) (by kernel_rfl) HD.out.drew ?_
                simp only [List.take_succ_cons, List.take_zero]
                repeat
                  first
                    | go_big_quiet_skip
                    | (go_big_quiet_want
                       first
                         | (go_big_quiet_op
                            go_big_quiet_on)
                         | (first
                              | (refine quiet_idx (n := m + 2) (by exact rfl) (by exact rfl) (by exact rfl) ?_ ?_ ?_
                                 · omega
                                 · omega)
                              | (refine quiet_idx (n := m + 3) (by exact rfl) (by exact rfl) (by exact rfl) ?_ ?_ ?_
                                 · omega
                                 · omega)
                              | (refine quiet_idx (n := m + 1) (by exact rfl) (by exact rfl) (by exact rfl) ?_ ?_ ?_
                                 · omega
                                 · omega)
                              | (refine quiet_idx (n := m) (by exact rfl) (by exact rfl) (by exact rfl) ?_ ?_ ?_
                                 · omega
                                 · omega)
                              | (refine quiet_ld (by exact rfl) (by exact rfl) (fun wz hz => (HL2.out wz hz).1) ?_)
                              | (refine quiet_ld (by exact rfl) (by exact rfl) (fun wz hz => (HL2.out wz hz).2.1) ?_)
                              | (refine quiet_ld (by exact rfl) (by exact rfl) (fun wz hz => (HL2.out wz hz).2.2.1) ?_)
                              | (refine quiet_ld (by exact rfl) (by exact rfl) (fun wz hz => (HL2.out wz hz).2.2.2) ?_)
                              | (apply quiet_run
                                 · intro wz hz
                                   go_simp
                                   try with_reducible rfl)
                            simp only [Act.put, List.setIfInBounds_toArray, List.set_cons_zero, List.set_cons_succ]
                            go_big_quiet_on))
                refine wpQuiet_nil (fun wz hz => ?_)
                refine wpOp_enter (f := 5) (args := #[.pointer (some ⟨Bq, 0, none⟩), .int .i64 X]) (v := .bool true) (dt := some 72) rfl rfl rfl ?_ ?_
                · go_simp
                · refine (C5.out wz hz).mono ?_
                  rintro e w2 ⟨rfl, h2⟩
                  refine ⟨rfl, h2, ?_⟩
                  clear h2
                  simp only [Act.put, List.setIfInBounds_toArray, List.set_cons_zero, List.set_cons_succ]
                  repeat
                    first
                      | go_big_quiet_skip
                      | (go_big_quiet_want
                         first
                           | (go_big_quiet_op
                              go_big_quiet_on)
                           | (first
                                | (refine quiet_idx (n := m + 2) (by exact rfl) (by exact rfl) (by exact rfl) ?_ ?_ ?_
                                   · omega
                                   · omega)
                                | (refine quiet_idx (n := m + 3) (by exact rfl) (by exact rfl) (by exact rfl) ?_ ?_ ?_
                                   · omega
                                   · omega)
                                | (refine quiet_idx (n := m + 1) (by exact rfl) (by exact rfl) (by exact rfl) ?_ ?_ ?_
                                   · omega
                                   · omega)
                                | (refine quiet_idx (n := m) (by exact rfl) (by exact rfl) (by exact rfl) ?_ ?_ ?_
                                   · omega
                                   · omega)
                                | (refine quiet_ld (by exact rfl) (by exact rfl) (fun wz hz => (HL3.out wz hz).1) ?_)
                                | (refine quiet_ld (by exact rfl) (by exact rfl) (fun wz hz => (HL3.out wz hz).2.1) ?_)
                                | (refine quiet_ld (by exact rfl) (by exact rfl) (fun wz hz => (HL3.out wz hz).2.2.1) ?_)
                                | (refine quiet_ld (by exact rfl) (by exact rfl) (fun wz hz => (HL3.out wz hz).2.2.2) ?_)
                                | (apply quiet_run
                                   · intro wz hz
                                     go_simp
                                     try with_reducible rfl)
                              simp only [Act.put, List.setIfInBounds_toArray, List.set_cons_zero, List.set_cons_succ]
                              go_big_quiet_on))
                  refine wpQuiet_nil ?_
                  intro w3 h3
                  have H4 := Lib.hid h3
                  clear h3
                  go_wp2
                  go_roundg m1
                  case measure => omega
                  case rel => exact ⟨(m + 2) + 2, j + 1, by have := HJ.out.1; omega, by have := HJ.out.2.1; omega, by go_num, by rw [← HQ2.out]; exact H4.out⟩
              · subst he
                have d3 : decide (X ≤ X0) = false := by simp; omega
                clear hlt
                refine wp_region_splitt (C := DC W3 Bq q1) (C2 := DC W3 Bq q2) _ 13 [11, 12] rfl rfl (by kernel_rfl) (by kernel_rfl) (by kernel_rfl) (by kernel_rfl) (by kernel_rfl) (by kernel_rfl) (by kernel_rfl) (by kernel_rfl) (by kernel_rfl) HD.out.drew ?_
                simp only [List.take_succ_cons, List.take_zero]
                repeat
                  first
                    | go_big_quiet_skip
                    | (go_big_quiet_want
                       first
                         | (go_big_quiet_op
                            go_big_quiet_on)
                         | (first
                              | (refine quiet_idx (n := m + 2) (by exact rfl) (by exact rfl) (by exact rfl) ?_ ?_ ?_
                                 · omega
                                 · omega)
                              | (refine quiet_idx (n := m + 3) (by exact rfl) (by exact rfl) (by exact rfl) ?_ ?_ ?_
                                 · omega
                                 · omega)
                              | (refine quiet_idx (n := m + 1) (by exact rfl) (by exact rfl) (by exact rfl) ?_ ?_ ?_
                                 · omega
                                 · omega)
                              | (refine quiet_idx (n := m) (by exact rfl) (by exact rfl) (by exact rfl) ?_ ?_ ?_
                                 · omega
                                 · omega)
                              | (refine quiet_ld (by exact rfl) (by exact rfl) (fun wz hz => (HL2.out wz hz).1) ?_)
                              | (refine quiet_ld (by exact rfl) (by exact rfl) (fun wz hz => (HL2.out wz hz).2.1) ?_)
                              | (refine quiet_ld (by exact rfl) (by exact rfl) (fun wz hz => (HL2.out wz hz).2.2.1) ?_)
                              | (refine quiet_ld (by exact rfl) (by exact rfl) (fun wz hz => (HL2.out wz hz).2.2.2) ?_)
                              | (apply quiet_run
                                 · intro wz hz
                                   go_simp
                                   try with_reducible rfl)
                            simp only [Act.put, List.setIfInBounds_toArray, List.set_cons_zero, List.set_cons_succ]
                            go_big_quiet_on))
                refine wpQuiet_nil (fun wz hz => ?_)
                refine wpOp_enter (f := 5) (args := #[.pointer (some ⟨Bq, 0, none⟩), .int .i64 X]) (v := .bool true) (dt := some 72) rfl rfl rfl ?_ ?_
                · go_simp
                · refine (C5.out wz hz).mono ?_
                  rintro e w2 ⟨rfl, h2⟩
                  refine ⟨rfl, h2, ?_⟩
                  clear h2
                  simp only [Act.put, List.setIfInBounds_toArray, List.set_cons_zero, List.set_cons_succ]
                  repeat
                    first
                      | go_big_quiet_skip
                      | (go_big_quiet_want
                         first
                           | (go_big_quiet_op
                              go_big_quiet_on)
                           | (first
                                | (refine quiet_idx (n := m + 2) (by exact rfl) (by exact rfl) (by exact rfl) ?_ ?_ ?_
                                   · omega
                                   · omega)
                                | (refine quiet_idx (n := m + 3) (by exact rfl) (by exact rfl) (by exact rfl) ?_ ?_ ?_
                                   · omega
                                   · omega)
                                | (refine quiet_idx (n := m + 1) (by exact rfl) (by exact rfl) (by exact rfl) ?_ ?_ ?_
                                   · omega
                                   · omega)
                                | (refine quiet_idx (n := m) (by exact rfl) (by exact rfl) (by exact rfl) ?_ ?_ ?_
                                   · omega
                                   · omega)
                                | (refine quiet_ld (by exact rfl) (by exact rfl) (fun wz hz => (HL3.out wz hz).1) ?_)
                                | (refine quiet_ld (by exact rfl) (by exact rfl) (fun wz hz => (HL3.out wz hz).2.1) ?_)
                                | (refine quiet_ld (by exact rfl) (by exact rfl) (fun wz hz => (HL3.out wz hz).2.2.1) ?_)
                                | (refine quiet_ld (by exact rfl) (by exact rfl) (fun wz hz => (HL3.out wz hz).2.2.2) ?_)
                                | (apply quiet_run
                                   · intro wz hz
                                     go_simp
                                     try with_reducible rfl)
                              simp only [Act.put, List.setIfInBounds_toArray, List.set_cons_zero, List.set_cons_succ]
                              go_big_quiet_on))
                  refine wpQuiet_nil ?_
                  intro w3 h3
                  have H4 := Lib.hid h3
                  clear h3
                  go_wp2
                  go_roundg m1
                  case measure => omega
                  case rel => exact ⟨(m + 2) + 2, j + 1, by have := HJ.out.1; omega, by have := HJ.out.2.1; omega, by go_num, by rw [← HQ2.out]; exact H4.out⟩
      | succ m1 =>
        have hk : k < N := by omega
        have hli : (k : Int) < (N : Int) := by omega
        have hl0 : (0 : Int) ≤ (k : Int) := by omega
        have hkO : k < O.length := by have := HN.out; omega
        obtain ⟨rfl, hbw⟩ := HO.out.1 (by omega)
        obtain ⟨⟨d, n, l⟩, hop⟩ : ∃ x, x = opAt O k := ⟨_, rfl⟩
        have hcell := HO.out.at_ HPk.out.2 k hkO
        rw [← hop] at hcell
        obtain ⟨hc1, hc2, hc3⟩ := hcell
        have HOP := Lib.hid hop
        clear hop hkO
        dsimp only at hc1 hc2 hc3
        obtain ⟨q, hq⟩ : ∃ q, q = rq O k := ⟨_, rfl⟩
        have hb : ∀ i, q i ≤ 32 := by rw [hq]; exact rq_le O k
        rw [← hq] at HPk
        have HQ := Lib.hid hq
        clear hq
        have hbne : b ≠ Bq := by have := HB.out; omega
        have HW := Lib.hid hbne
        clear hbne hbw
        cases d
        · obtain ⟨q', hq'⟩ : ∃ q', q' = putQ q n l := ⟨_, rfl⟩
          have K1 := Lib.hid (show ∀ w2, Ch (fun j => j = Bq) wr.drew w2 → w2.cell? ⟨b, off + k * 3 + 1, none⟩ = some (.int .i64 n) ∧ w2.cell? ⟨b, off + k * 3 + 2, none⟩ = some (.int .i64 l) from fun w2 hc =>
            ⟨hc.cell (p := ⟨b, off + k * 3 + 1, none⟩) hc2 HW.out, hc.cell (p := ⟨b, off + k * 3 + 2, none⟩) hc3 HW.out⟩)
          have C7 := Lib.hid (put_any Bq q n l wr.drew (HPk.out.1.below (Below.refl _ _).drew HPk.out.1.lt) hb)
          have S0 := Lib.hid (And.intro hc2 hc3)
          rw [← hq'] at C7
          have HQP := Lib.hid hq'
          clear hq' hc2 hc3
          go_wp2
          go_region_held3 (fun w' => w'.cell? ⟨b, off + k * 3 + 1, none⟩ = some (.int .i64 n) ∧ w'.cell? ⟨b, off + k * 3 + 2, none⟩ = some (.int .i64 l))
            (first | assumption | exact S0.out | exact K1.out _ (by assumption))
            ((go_at_call 7; refine C7.out.mono ?_; rintro e w2 ⟨rfl, hq2, hch2⟩))
          all_goals
            have hbw2 : Below w.heap.size w w2 := HPk.out.2.drew.trans (hch2.below (fun j hj e => by have := HB.out; omega) HPk.out.2.size)
            have H2 := Lib.hid (And.intro hq2 hbw2)
            clear hq2 hch2 hbw2
            go_wp2
            go_roundg m1
            case measure => omega
            case rel => exact ⟨k + 1, by omega, by go_num, by show QAt w2 Bq (stepQ (rq O k) (opAt O k)) ∧ Below w.heap.size w w2; rw [← HOP.out, ← HQ.out]; show QAt w2 Bq (putQ q n l) ∧ Below w.heap.size w w2; rw [← HQP.out]; exact H2.out⟩
        · obtain ⟨q', hq'⟩ : ∃ q', q' = dropQ q n := ⟨_, rfl⟩
          have C5 := Lib.hid (drop_any Bq q n wr HPk.out.1 hb)
          rw [← hq'] at C5
          have HQP := Lib.hid hq'
          clear hq' hc3
          go_wp2_with fail
          clear hc2
          refine C5.out.mono ?_
          rintro e w2 ⟨rfl, hq2, hch2⟩
          have hbw2 : Below w.heap.size w w2 := HPk.out.2.trans (hch2.below (fun j hj e => by have := HB.out; omega) HPk.out.2.size)
          have H2 := Lib.hid (And.intro hq2 hbw2)
          clear hq2 hch2 hbw2
          go_wp2
          go_roundg m1
          case measure => omega
          case rel => exact ⟨k + 1, by omega, by go_num, by show QAt w2 Bq (stepQ (rq O k) (opAt O k)) ∧ Below w.heap.size w w2; rw [← HOP.out, ← HQ.out]; show QAt w2 Bq (dropQ q n) ∧ Below w.heap.size w w2; rw [← HQP.out]; exact H2.out⟩
  · go_enter Tryd.func4, Tryd.ntmps4
    go_wp2
    go_ret
    exact ⟨rfl, Below.refl _ _⟩
end Go.Proofs.YtimaihdlaaonbaaDoor
