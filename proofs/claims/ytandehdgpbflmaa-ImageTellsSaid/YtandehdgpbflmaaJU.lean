/- What image's Uses goes through. -/
import Derived.Test.YtandehdgpbflmaaJA
import Derived.Test.YtandehdgpbflmaaFoot2
import Derived.Test.YtandehdgpbflmaaFoot
import Derived.RecoverIn
import Derived.OwnWalkIn
import Derived.TacticsInMore
import Derived.RegionIn
import Derived.LoopNIn
import Derived.LoopIn
import Derived.Shelf.Abstract
import Derived.Shelf.RegionOpen
import Derived.Sort.LoopGhostIn
import Derived.StillTail
import Derived.StillTactics
import Derived.StillTailTactics
import Derived.Deep.RegionWith
import Derived.Deep.RegionHeld3
import Derived.RangeFuncRecord
import Derived.RangeFuncNested
import Derived.RangeFuncBound
namespace Go.Proofs.Ytandehdgpbflmaa
open Go.RowKit

abbrev tbJ (f : Nat → Int) : List Value := [.int .i64 (f 0), .int .i64 (f 1), .int .i64 (f 2), .int .i64 (f 3), .int .i64 (f 4), .int .i64 (f 5), .int .i64 (f 6), .int .i64 (f 7)]
attribute [local go_sem] Oper.semAt_some

/-- The resources that are used, of the first n. -/
def usesK (f : Nat → Int) (n : Nat) : List Nat := (List.range n).filter (fun r => decide (0 < f r))
theorem usesK_yes {f : Nat → Int} {n : Nat} (h : 0 < f n) : usesK f (n + 1) = usesK f n ++ [n] := by
  unfold usesK; rw [List.range_succ, List.filter_append]; simp [h]
theorem usesK_no {f : Nat → Int} {n : Nat} (h : ¬ 0 < f n) : usesK f (n + 1) = usesK f n := by
  unfold usesK; rw [List.range_succ, List.filter_append]; simp; omega
theorem usesK_pre (f : Nat → Int) {m : Nat} : ∀ n, n ≤ m → ∃ l, usesK f m = usesK f n ++ l := by
  induction m with
  | zero =>
    intro n hn
    obtain rfl : n = 0 := by omega
    exact ⟨[], (List.append_nil _).symm⟩
  | succ m ih =>
    intro n hn
    by_cases e : n = m + 1
    · subst e; exact ⟨[], (List.append_nil _).symm⟩
    · obtain ⟨l, hl⟩ := ih n (by omega)
      by_cases h : 0 < f m
      · exact ⟨l ++ [m], by rw [usesK_yes h, hl, List.append_assoc]⟩
      · exact ⟨l, by rw [usesK_no h, hl]⟩
theorem usesK_at {f : Nat → Int} {n : Nat} (hn : n < 8) (h : 0 < f n) : (usesK f n).length < (usesK f 8).length ∧ (usesK f 8).getD (usesK f n).length 0 = n := by
  obtain ⟨l, hl⟩ := usesK_pre f (n + 1) (show n + 1 ≤ 8 by omega)
  rw [usesK_yes h] at hl
  rw [hl]
  constructor
  · simp
  · simp
/-- What is handed over in a round. -/
def usesA (f : Nat → Int) (k : Nat) : Array Value := #[.int .i64 ((usesK f 8).getD k 0 : Nat), .int .i64 (f ((usesK f 8).getD k 0))]
theorem Uses_any (T : Array Value) (w : World) : Calls Try.prog 40 #[.agg T] w fun e w' => e = .returned (.func (.func 66) #[] #[.pointer (some ⟨w.heap.size, 0, none⟩)]) ∧ w' = w.alloc (.cells T 39) := by
  have hmf : ∀ (fn : Fn) (first cap : Array Value) (w : World), (Instr.makeFunc fn first cap).run Try.prog w = .ok (.func fn first cap) w := fun _ _ _ _ => rfl
  go_enter Try.func40, Try.ntmps40
  go_wp2
  go_ret
  exact ⟨rfl, rfl⟩
set_option maxHeartbeats 2000000 in
theorem uses_in (l Ts : Nat) (f : Nat → Int) (F : World → Nat → Prop) (J Jx : Nat → World → Prop) (W : World)
    (hs0 : W.rangeAt Ts 3 (tbJ f)) (hR : RoundsF Try.prog l (usesK f 8).length (usesA f) F J Jx) (h0 : J 0 W) :
    Iter Try.prog 66 #[.pointer (some ⟨Ts, 0, none⟩)] l (usesK f 8).length J Jx W := by
  refine callsIn_of_wp Try.func66 rfl trivial ?_ rfl
  simp only [Try.ntmps66, List.size_toArray, List.length_cons, List.length_nil, Nat.reduceAdd, Nat.reduceSub, Array.replicate_succ, Array.replicate_zero, List.push_toArray, List.append_toArray, List.nil_append, List.cons_append]
  have HX := Lib.hid (show ∀ (k : Nat), k < 8 → ∀ (wx : World), (Instr.index 37 (.agg #[.int .i64 (f 0), .int .i64 (f 1), .int .i64 (f 2), .int .i64 (f 3), .int .i64 (f 4), .int .i64 (f 5), .int .i64 (f 6), .int .i64 (f 7)]) (.int .i64 (k : Int))).run Try.prog wx = .ok (.int .i64 (f k)) wx from fun k hk wx => run_index_a8 f wx k hk)
  have HR := Lib.hid hR
  have c3 : W.cell? ⟨Ts, 3, none⟩ = some (.int .i64 (f 0)) := hs0 0 _ rfl
  have c4 : W.cell? ⟨Ts, 4, none⟩ = some (.int .i64 (f 1)) := hs0 1 _ rfl
  have c5 : W.cell? ⟨Ts, 5, none⟩ = some (.int .i64 (f 2)) := hs0 2 _ rfl
  have c6 : W.cell? ⟨Ts, 6, none⟩ = some (.int .i64 (f 3)) := hs0 3 _ rfl
  have c7 : W.cell? ⟨Ts, 7, none⟩ = some (.int .i64 (f 4)) := hs0 4 _ rfl
  have c8 : W.cell? ⟨Ts, 8, none⟩ = some (.int .i64 (f 5)) := hs0 5 _ rfl
  have c9 : W.cell? ⟨Ts, 9, none⟩ = some (.int .i64 (f 6)) := hs0 6 _ rfl
  have c10 : W.cell? ⟨Ts, 10, none⟩ = some (.int .i64 (f 7)) := hs0 7 _ rfl
  have HAt := Lib.hid (fun (n : Nat) (hn : n < 8) (h : 0 < f n) => usesK_at hn h)
  have HYs := Lib.hid (fun (n : Nat) (h : 0 < f n) => usesK_yes h)
  have HNo := Lib.hid (fun (n : Nat) (h : ¬ 0 < f n) => usesK_no h)
  clear hs0 hR
  gi_wp2
  clear c3 c4 c5 c6 c7 c8 c9 c10
  gi_loopg [7] 8 (fun gh i wr => ∃ k : Nat, k + gh = 8 ∧ i = .int .i64 (k : Nat) ∧ Aside (J (usesK f k).length wr))
  case atStart => exact ⟨0, by omega, rfl, h0⟩
  case round =>
    obtain ⟨k, hkg, rfl, HK⟩ := hrel
    cases gk with
    | zero =>
      obtain rfl : k = 8 := by omega
      gi_wp2
      go_end0
      exact ⟨⟨_, rfl⟩, .inl HK.out⟩
    | succ g1 =>
      have hk : k < 8 := by omega
      have hk2 : (k : Int) < 8 := by omega
      have hx := HX.out k hk
      by_cases hp : 0 < f k
      · obtain ⟨hlt, hat⟩ := HAt.out k hk hp
        obtain ⟨fn, tmps, assign, body, hyd, hRo⟩ := HR.out _ _ HK.out hlt
        have ha : usesA f (usesK f k).length = #[.int .i64 (k : Nat), .int .i64 (f k)] := by unfold usesA; rw [hat]
        rw [ha] at hyd
        have HY := Lib.hid (HYs.out k hp)
        clear ha hat
        gi_wp2
        refine ⟨rfl, hRo.mono ?_⟩
        rintro e W3 (⟨rfl, hJ3, hc3⟩ | ⟨rfl, hJx3, -⟩)
        · have HJ3 := Lib.hid hJ3
          clear hJ3 hyd hc3
          gi_wp2
          go_roundg g1
          case measure => omega
          case rel => exact ⟨k + 1, by omega, by go_num, by rw [HY.out, List.length_append]; exact HJ3.out⟩
        · gi_wp2
          refine bodyPost_ret (results_none rfl _ _ _) rfl ?_
          exact ⟨⟨_, rfl⟩, .inr ⟨_, by omega, hJx3⟩⟩
      · have HN := Lib.hid (HNo.out k (by omega))
        gi_wp2
        all_goals
          refine ⟨fun _ h => (nomatch h), ?_⟩
          gi_wp2
          go_roundg g1
          case measure => omega
          case rel => exact ⟨k + 1, by omega, by go_num, by rw [HN.out]; exact HK.out⟩
end Go.Proofs.Ytandehdgpbflmaa
