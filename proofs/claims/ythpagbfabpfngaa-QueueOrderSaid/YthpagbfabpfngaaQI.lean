/- The contracts of the law's right and alive; the maths of a row's last. -/
import Derived.Test.YthpagbfabpfngaaQH
namespace Go.Proofs.Ythpagbfabpfngaa
open Go.RowKit

theorem lright_any (c p : Int) (w : World) : Calls Try.prog 26 #[.agg #[.int .i64 c, .int .i64 p]] w fun e w' => e = .returned (.bool (qOK c p)) ∧ Below w.heap.size w w' := by
  have bb : Below w.heap.size w (w.alloc (.cells #[.int .i64 c, .int .i64 p] 65)) := (Below.refl _ _).alloc (Nat.le_refl _) _
  have BB := Lib.hid bb
  clear bb
  unfold qOK
  by_cases h1 : c < 1
  · rw [decide_eq_false (by omega)]
    have h1' : decide (1 ≤ c) = false := by simp; omega
    clear h1
    go_enter Try.func26, Try.ntmps26
    go_wp2
    go_ret
    exact ⟨rfl, BB.out⟩
  have h1' : decide (1 ≤ c) = true := by simp; omega
  by_cases h2 : 16 < c
  · rw [decide_eq_false (by omega)]
    have h2' : decide (c ≤ 16) = false := by simp; omega
    clear h1 h2
    go_enter Try.func26, Try.ntmps26
    go_wp2
    go_ret
    exact ⟨rfl, BB.out⟩
  have h2' : decide (c ≤ 16) = true := by simp; omega
  by_cases e1 : p = 1
  · rw [decide_eq_true (by omega)]
    subst e1
    clear h1 h2
    go_enter Try.func26, Try.ntmps26
    go_wp2
    go_ret
    exact ⟨rfl, BB.out⟩
  by_cases e2 : p = 2
  · rw [decide_eq_true (by omega)]
    subst e2
    clear h1 h2
    go_enter Try.func26, Try.ntmps26
    go_wp2
    go_ret
    exact ⟨rfl, BB.out⟩
  by_cases e3 : p = 3
  · rw [decide_eq_true (by omega)]
    subst e3
    clear h1 h2
    go_enter Try.func26, Try.ntmps26
    go_wp2
    go_ret
    exact ⟨rfl, BB.out⟩
  rw [decide_eq_false (by omega)]
  have n1 : (p == 1) = false := by simpa using e1
  have n2 : (p == 2) = false := by simpa using e2
  have n3 : (p == 3) = false := by simpa using e3
  clear h1 h2
  go_enter Try.func26, Try.ntmps26
  go_wp2
  go_ret
  exact ⟨rfl, BB.out⟩
theorem qright_any (c p : Int) (w : World) : Calls Try.prog 27 #[.agg #[.int .i64 c, .int .i64 p]] w fun e w' => e = .returned (.bool (qOK c p)) ∧ Below w.heap.size w w' := right_any c p w

theorem sendL_num : sendL 2 2 [] 0 1 = ([1], 0, 0) ∧ sendL 2 2 [1] 0 2 = ([1, 2], 0, 0) ∧ sendL 2 2 [1, 2] 0 3 = ([2, 3], 1, 0) := by decide +kernel
set_option maxHeartbeats 2000000 in
theorem qalive_any (w : World) : Calls Try.prog 28 #[] w fun e w' => e = .returned (.bool true) ∧ Below w.heap.size w w' := by
  obtain ⟨n1, n2, n3⟩ := sendL_num
  have HN := Lib.hid (qnew_yes 2 2 (by decide) w)
  have HS1 := Lib.hid (fun (wx : World) (q : Nat) (h : QL wx q 2 2 [] 0) => by have := send_any h 1; rw [n1] at this; exact this)
  have HS2 := Lib.hid (fun (wx : World) (q : Nat) (h : QL wx q 2 2 [1] 0) => by have := send_any h 2; rw [n2] at this; exact this)
  have HS3 := Lib.hid (fun (wx : World) (q : Nat) (h : QL wx q 2 2 [1, 2] 0) => by have := send_any h 3; rw [n3] at this; exact this)
  have HT := Lib.hid (fun (wx : World) (q : Nat) (h : QL wx q 2 2 [2, 3] 1) => take_some h)
  have HD := Lib.hid (fun (wx : World) (q : Nat) (h : QL wx q 2 2 [3] 1) => qdropped_any h)
  have HC := Lib.hid (fun (wa wx wy : World) (q : Nat) (hq : wa.heap.size ≤ q) (hb : Below wa.heap.size wa wx) (hc : Ch (fun j => j = q) wx wy) => (hb.trans (hc.below (fun j hj e => by omega) hb.size) : Below wa.heap.size wa wy))
  clear n1 n2 n3
  go_enter Try.func28, Try.ntmps28
  go_wp2_with (first
    | (go_at_call 25; refine HN.out.mono ?_; rintro e w1 ⟨q, rfl, q1, hq, b1⟩; have H1 := Lib.hid (And.intro q1 (And.intro hq b1)); clear q1 hq b1)
    | fail)
  go_wp2_with fail
  refine (HS1.out _ _ H1.out.1).mono ?_
  rintro e w2 ⟨rfl, q2, c2⟩
  have H2 := Lib.hid (And.intro q2 (HC.out w _ w2 q H1.out.2.1 H1.out.2.2 c2))
  clear q2 c2
  go_wp2_with fail
  refine (HS2.out _ _ H2.out.1).mono ?_
  rintro e w3 ⟨rfl, q3, c3⟩
  have H3 := Lib.hid (And.intro q3 (HC.out w _ w3 q H1.out.2.1 H2.out.2 c3))
  clear q3 c3
  go_wp2_with fail
  refine (HS3.out _ _ H3.out.1).mono ?_
  rintro e w4 ⟨rfl, q4, c4⟩
  have H4 := Lib.hid (And.intro q4 (HC.out w _ w4 q H1.out.2.1 H3.out.2 c4))
  clear q4 c4
  go_wp2_with (go_at_call 31; refine (HT.out _ _ H4.out.1).mono ?_; rintro e w5 ⟨rfl, q5, c5⟩; have H5 := Lib.hid (And.intro q5 (HC.out w _ w5 q H1.out.2.1 H4.out.2 c5)); clear q5 c5)
  go_wp2_with (go_at_call 36; refine (HD.out _ _ H5.out.1).mono ?_; rintro e w6 ⟨rfl, rfl⟩)
  go_ret
  exact ⟨rfl, H5.out.2⟩
/-- One element more. -/
theorem lastL_snoc (Y : List Int) (x : Int) (C : Nat) (hC : 1 ≤ C) : lastL (Y ++ [x]) C = if (lastL Y C).length = C then (lastL Y C).tail ++ [x] else lastL Y C ++ [x] := by
  rw [lastL_len]
  unfold lastL
  rw [List.length_append]
  simp only [List.length_cons, List.length_nil]
  by_cases h : C ≤ Y.length
  · rw [if_pos (Nat.min_eq_right h), List.tail_drop, show Y.length + (0 + 1) - C = Y.length - C + 1 by omega, List.drop_append_of_le_length (by omega)]
  · rw [if_neg (by omega), show Y.length - C = 0 by omega, show Y.length + (0 + 1) - C = 0 by omega]
    rfl
theorem lastL_all (Y : List Int) (C : Nat) (h : Y.length ≤ C) : lastL Y C = Y := by unfold lastL; rw [show Y.length - C = 0 by omega]; rfl
/-- What put makes of a queue is the last of all. -/
theorem fillF_last (C : Nat) (hC : 1 ≤ C) (L : List Int) (hL : L.length ≤ C) (d : Int) (X : List Int) (_h0 : 0 ≤ d) (hd : d + X.length ≤ 4096) : ∀ k, k ≤ X.length →
    fillF C L d X k = (lastL (L ++ X.take k) C, d + ((L.length + k : Int) - ((lastL (L ++ X.take k) C).length : Int)), (L.length + k : Int) - ((lastL (L ++ X.take k) C).length : Int)) := by
  intro k
  induction k with
  | zero =>
    intro _
    rw [fillF_zero, List.take_zero, List.append_nil, lastL_all L C hL]
    simp
  | succ k ih =>
    intro hk
    rw [fillF_succ _ _ _ _ _ (by omega), ih (by omega), take_succ_nth X k (by omega), ← List.append_assoc, lastL_snoc _ _ _ hC]
    unfold stepF
    simp only
    have hlen : (L ++ X.take k).length = L.length + k := by rw [List.length_append, List.length_take]; omega
    have hll := lastL_len (L ++ X.take k) C
    rw [hlen] at hll
    by_cases h : (lastL (L ++ X.take k) C).length = C
    · rw [if_pos (by omega), if_pos h]
      have e1 : ((lastL (L ++ X.take k) C).tail ++ [nth X k]).length = C := by rw [List.length_append, List.length_tail, h]; simp; omega
      rw [e1, h, Int.min_eq_left (by omega)]
      simp only [Prod.mk.injEq, true_and]
      constructor <;> push_cast <;> omega
    · rw [if_neg (by omega), if_neg h]
      have e1 : (lastL (L ++ X.take k) C ++ [nth X k]).length = (lastL (L ++ X.take k) C).length + 1 := by rw [List.length_append]; rfl
      rw [e1]
      simp only [Prod.mk.injEq, true_and]
      constructor <;> push_cast <;> omega
end Go.Proofs.Ythpagbfabpfngaa
