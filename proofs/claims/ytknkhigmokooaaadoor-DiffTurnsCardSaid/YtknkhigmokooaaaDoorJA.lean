/- The contracts of image's within and taskMayBe, and of ref10's in and task. -/
import Derived.Test.YtknkhigmokooaaaDoorIB
namespace Go.Proofs.YtknkhigmokooaaaDoor
open Go.RowKit

theorem lt8 {p : Nat → Prop} (h0 : p 0) (h1 : p 1) (h2 : p 2) (h3 : p 3) (h4 : p 4) (h5 : p 5) (h6 : p 6) (h7 : p 7) : ∀ k, k < 8 → p k := by
  intro k hk
  rcases k with _ | _ | _ | _ | _ | _ | _ | _ | k
  all_goals first | assumption | omega
def inB (n a b : Int) : Bool := decide (a ≤ n ∧ n ≤ b)
theorem rin_any (n a b : Int) (w : World) : Calls Tryd.prog 59 #[.int .i64 n, .int .i64 a, .int .i64 b] w fun e w' => e = .returned (.bool (inB n a b)) ∧ w = w' := by
  unfold inB
  by_cases h1 : a ≤ n
  · by_cases h2 : n ≤ b
    · rw [decide_eq_true (⟨h1, h2⟩ : a ≤ n ∧ n ≤ b)]
      go_enter Tryd.func59, Tryd.ntmps59
      go_wp2
      go_ret
      exact ⟨rfl, rfl⟩
    · rw [decide_eq_false (fun h : a ≤ n ∧ n ≤ b => h2 h.2)]
      go_enter Tryd.func59, Tryd.ntmps59
      go_wp2
      go_ret
      exact ⟨rfl, rfl⟩
  · rw [decide_eq_false (fun h : a ≤ n ∧ n ≤ b => h1 h.1)]
    go_enter Tryd.func59, Tryd.ntmps59
    go_wp2
    go_ret
    exact ⟨rfl, rfl⟩
/-- How long a resource may be held at most. -/
def mostL (a2 res : Int) (r : Nat) : Int := if res ≤ (r : Int) then 0 else a2
/-- May a task be? -/
def taskOK (a0 a1 a2 : Int) (f : Nat → Int) (res : Int) : Bool := inB a0 1 4096 && (inB a1 1 a0 && (inB a2 1 a1 && (List.range 8).all fun r => inB (f r) 0 (mostL a2 res r)))
theorem run_index_a8 (f : Nat → Int) (w : World) : ∀ k : Nat, k < 8 → (Instr.index 31 (.agg #[.int .i64 (f 0), .int .i64 (f 1), .int .i64 (f 2), .int .i64 (f 3), .int .i64 (f 4), .int .i64 (f 5), .int .i64 (f 6), .int .i64 (f 7)]) (.int .i64 (k : Int))).run Tryd.prog w = .ok (.int .i64 (f k)) w := by
  refine lt8 ?_ ?_ ?_ ?_ ?_ ?_ ?_ ?_
  all_goals simp [Instr.index, run_underlying Tryd.underlying31, go_sem, part, asIntOf]
def task11 (a0 a1 a2 : Int) (f : Nat → Int) : Array Value := #[.int .i64 a0, .int .i64 a1, .int .i64 a2, .int .i64 (f 0), .int .i64 (f 1), .int .i64 (f 2), .int .i64 (f 3), .int .i64 (f 4), .int .i64 (f 5), .int .i64 (f 6), .int .i64 (f 7)]
theorem task11_at (a0 a1 a2 : Int) (f : Nat → Int) : ∀ r, r < 8 → (task11 a0 a1 a2 f)[3 + r]? = some (.int .i64 (f r)) := lt8 rfl rfl rfl rfl rfl rfl rfl rfl
set_option maxHeartbeats 4000000 in
theorem r10task_any (a0 a1 a2 : Int) (f : Nat → Int) (res : Int) (w : World) : Calls Tryd.prog 60 #[.agg #[.int .i64 a0, .int .i64 a1, .int .i64 a2, .int .i64 (f 0), .int .i64 (f 1), .int .i64 (f 2), .int .i64 (f 3), .int .i64 (f 4), .int .i64 (f 5), .int .i64 (f 6), .int .i64 (f 7)], .int .i64 res] w fun e w' => e = .returned (.bool (taskOK a0 a1 a2 f res)) ∧ Below w.heap.size w w' := by
  have H1 := Lib.hid (fun wx => rin_any a0 1 4096 wx)
  have H2 := Lib.hid (fun wx => rin_any a1 1 a0 wx)
  have H3 := Lib.hid (fun wx => rin_any a2 1 a1 wx)
  have HT := Lib.hid (show taskOK a0 a1 a2 f res = (inB a0 1 4096 && (inB a1 1 a0 && (inB a2 1 a1 && (List.range 8).all fun r => inB (f r) 0 (mostL a2 res r)))) from rfl)
  have HX := Lib.hid (fun (k : Nat) (hk : k < 8) (wx : World) => run_index_a8 f wx k hk)
  obtain ⟨v, hv⟩ : ∃ v, taskOK a0 a1 a2 f res = v := ⟨_, rfl⟩
  rw [hv] at HT ⊢
  obtain ⟨b1, e1⟩ : ∃ b, inB a0 1 4096 = b := ⟨_, rfl⟩
  obtain ⟨b2, e2⟩ : ∃ b, inB a1 1 a0 = b := ⟨_, rfl⟩
  obtain ⟨b3, e3⟩ : ∃ b, inB a2 1 a1 = b := ⟨_, rfl⟩
  rw [e1] at H1 HT
  rw [e2] at H2 HT
  rw [e3] at H3 HT
  obtain ⟨Z, hZ⟩ : ∃ Z, Z = w.heap.size := ⟨_, rfl⟩
  obtain ⟨w2, hw2⟩ : ∃ w2, w.alloc (.cells #[.int .i64 a0, .int .i64 a1, .int .i64 a2, .int .i64 (f 0), .int .i64 (f 1), .int .i64 (f 2), .int .i64 (f 3), .int .i64 (f 4), .int .i64 (f 5), .int .i64 (f 6), .int .i64 (f 7)] 50) = w2 := ⟨_, rfl⟩
  have HZ := Lib.hid (show Below w.heap.size w w2 ∧ RowAt w2 Z 50 (task11 a0 a1 a2 f) by rw [← hw2, hZ]; exact ⟨(Below.refl _ _).alloc (Nat.le_refl _) _, RowAt.mk _ _ _⟩)
  clear hv e1 e2 e3
  go_enter Tryd.func60, Tryd.ntmps60
  go_upto_region 1 with fail
  try rw [hw2]
  rw [← hZ]
  clear hw2 hZ
  have c0 : w2.cell? ⟨Z, 0, none⟩ = some (.int .i64 a0) := HZ.out.2.cell 0
  have c1 : w2.cell? ⟨Z, 1, none⟩ = some (.int .i64 a1) := HZ.out.2.cell 1
  have c2 : w2.cell? ⟨Z, 2, none⟩ = some (.int .i64 a2) := HZ.out.2.cell 2
  cases b1 with
  | false =>
    go_wp2_with (first | (go_at_call 59; refine (H1.out _).mono ?_; rintro e w' ⟨rfl, rfl⟩; clear H1) | fail)
    go_ret
    exact ⟨by rw [HT.out]; rfl, HZ.out.1⟩
  | true =>
    cases b2 with
    | false =>
      go_wp2_with (first | (go_at_call 59; refine (H1.out _).mono ?_; rintro e w' ⟨rfl, rfl⟩; clear H1) | (go_at_call 59; refine (H2.out _).mono ?_; rintro e w' ⟨rfl, rfl⟩; clear H2) | fail)
      go_ret
      exact ⟨by rw [HT.out]; rfl, HZ.out.1⟩
    | true =>
      cases b3 with
      | false =>
        go_wp2_with (first | (go_at_call 59; refine (H1.out _).mono ?_; rintro e w' ⟨rfl, rfl⟩; clear H1) | (go_at_call 59; refine (H2.out _).mono ?_; rintro e w' ⟨rfl, rfl⟩; clear H2) | (go_at_call 59; refine (H3.out _).mono ?_; rintro e w' ⟨rfl, rfl⟩; clear H3) | fail)
        go_ret
        exact ⟨by rw [HT.out]; rfl, HZ.out.1⟩
      | true =>

        go_wp2_with (first | (go_at_call 59; refine (H1.out _).mono ?_; rintro e w' ⟨rfl, rfl⟩; clear H1) | (go_at_call 59; refine (H2.out _).mono ?_; rintro e w' ⟨rfl, rfl⟩; clear H2) | (go_at_call 59; refine (H3.out _).mono ?_; rintro e w' ⟨rfl, rfl⟩; clear H3) | fail)
        skip
        go_loopg [5] 8 (fun g u wr => ∃ k : Nat, k + g = 8 ∧ u = .int .i64 (k : Nat) ∧ Aside (w2 = wr ∧ ∀ j, j < k → inB (f j) 0 (mostL a2 res j) = true))
        case atStart => exact ⟨0, by omega, rfl, rfl, fun j hj => absurd hj (Nat.not_lt_zero j)⟩
        case round =>
          obtain ⟨k, hkg, rfl, HQ⟩ := hrel
          obtain ⟨rfl, hq⟩ := HQ.out
          have HQ2 := Lib.hid hq
          clear HQ hq
          cases gk with
          | zero =>
            obtain rfl : k = 8 := by omega
            go_wp2
            go_ret
            refine ⟨?_, HZ.out.1⟩
            have : ((List.range 8).all fun r => inB (f r) 0 (mostL a2 res r)) = true := by
              rw [List.all_eq_true]; intro j hj; exact HQ2.out j (List.mem_range.1 hj)
            rw [HT.out, this]; rfl
          | succ g1 =>
            have hk : k < 8 := by omega
            have hk2 : (k : Int) < 8 := by omega
            have cf := (HZ.out.2.cell (3 + k)).trans (task11_at a0 a1 a2 f k hk)
            have HW := Lib.hid (fun wx => rin_any (f k) 0 (mostL a2 res k) wx)
            have HN := Lib.hid (fun (h : inB (f k) 0 (mostL a2 res k) = false) => show v = false from by
              have : ((List.range 8).all fun r => inB (f r) 0 (mostL a2 res r)) = false := by
                rw [List.all_eq_false]; exact ⟨k, List.mem_range.2 hk, by rw [h]; decide⟩
              rw [HT.out, this]; rfl)
            have HY := Lib.hid (fun (h : inB (f k) 0 (mostL a2 res k) = true) => show ∀ j, j < k + 1 → inB (f j) 0 (mostL a2 res j) = true from fun j hj => by
              rcases Nat.lt_or_ge j k with h2 | h2
              · exact HQ2.out j h2
              · obtain rfl : j = k := by omega
                exact h)
            obtain ⟨bb, hbb⟩ : ∃ b, inB (f k) 0 (mostL a2 res k) = b := ⟨_, rfl⟩
            rw [hbb] at HW HN HY
            clear hbb
            by_cases hm : res ≤ (k : Int)
            · rw [show mostL a2 res k = 0 from if_pos hm] at HW
              cases bb with
              | true =>
                go_wp2_with (go_at_call 59; refine (HW.out _).mono ?_; rintro e w' ⟨rfl, rfl⟩; clear HW)
                go_roundg g1
                case measure => omega
                case rel => exact ⟨k + 1, by omega, by go_num, rfl, HY.out (by simp)⟩
              | false =>
                go_wp2_with (go_at_call 59; refine (HW.out _).mono ?_; rintro e w' ⟨rfl, rfl⟩; clear HW)
                go_ret
                exact ⟨by rw [HN.out (by simp)]; rfl, HZ.out.1⟩
            · rw [show mostL a2 res k = a2 from if_neg hm] at HW
              cases bb with
              | true =>
                go_wp2_with (go_at_call 59; refine (HW.out _).mono ?_; rintro e w' ⟨rfl, rfl⟩; clear HW)
                go_roundg g1
                case measure => omega
                case rel => exact ⟨k + 1, by omega, by go_num, rfl, HY.out (by simp)⟩
              | false =>
                go_wp2_with (go_at_call 59; refine (HW.out _).mono ?_; rintro e w' ⟨rfl, rfl⟩; clear HW)
                go_ret
                exact ⟨by rw [HN.out (by simp)]; rfl, HZ.out.1⟩
end Go.Proofs.YtknkhigmokooaaaDoor
