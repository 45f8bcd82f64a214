/- FlashPlays' walk: sizes that may not be, and too many words. -/
import Derived.Test.YtkbmgilceioieaaGI
import Derived.Test.YtkbmgilceioieaaGK
import Derived.Test.YtkbmgilceioieaaBl
import Derived.Deep.Cut
import Derived.Deep.CutRange
namespace Go.Proofs.Ytkbmgilceioieaa
open Go.RowKit

set_option maxRecDepth 100000 in
theorem newR_bad (sec wds lim : Int) (w : World) (h : ¬ okSize sec wds lim) : Calls Try.prog 11 #[.int .i64 sec, .int .i64 wds, .int .i64 lim] w fun e w' => e = .returned (.tuple #[.agg #[.int .i64 0, .int .i64 0, .int .i64 0, .slice none 0 0, .slice none 0 0, .bool false, .bool false, .int .i64 0, .int .u32 0, .int .i64 0], .int .i64 64]) ∧ Below w.heap.size w w' := by
  unfold okSize at h
  by_cases h1 : sec < 1
  · clear h
    go_enter Try.func11, Try.ntmps11
    go_wp2
    refine ⟨rfl, .tuple #[.agg #[.int .i64 0, .int .i64 0, .int .i64 0, .slice none 0 0, .slice none 0 0, .bool false, .bool false, .int .i64 0, .int .u32 0, .int .i64 0], .int .i64 64], ?_, rfl, ?_⟩
    · simp [results, Try.results11, go_sem]
    · repeat' (first | exact Below.refl _ _ | refine Below.alloc ?_ ?_ _ | refine Below.setCell ?_ ?_ _)
      all_goals first | omega | (simp only [World.size_alloc, World.size_setCell]; omega)
  by_cases h2 : 64 < sec
  · clear h
    go_enter Try.func11, Try.ntmps11
    go_wp2
    refine ⟨rfl, .tuple #[.agg #[.int .i64 0, .int .i64 0, .int .i64 0, .slice none 0 0, .slice none 0 0, .bool false, .bool false, .int .i64 0, .int .u32 0, .int .i64 0], .int .i64 64], ?_, rfl, ?_⟩
    · simp [results, Try.results11, go_sem]
    · repeat' (first | exact Below.refl _ _ | refine Below.alloc ?_ ?_ _ | refine Below.setCell ?_ ?_ _)
      all_goals first | omega | (simp only [World.size_alloc, World.size_setCell]; omega)
  by_cases h3 : wds < 1
  · clear h
    go_enter Try.func11, Try.ntmps11
    go_wp2
    refine ⟨rfl, .tuple #[.agg #[.int .i64 0, .int .i64 0, .int .i64 0, .slice none 0 0, .slice none 0 0, .bool false, .bool false, .int .i64 0, .int .u32 0, .int .i64 0], .int .i64 64], ?_, rfl, ?_⟩
    · simp [results, Try.results11, go_sem]
    · repeat' (first | exact Below.refl _ _ | refine Below.alloc ?_ ?_ _ | refine Below.setCell ?_ ?_ _)
      all_goals first | omega | (simp only [World.size_alloc, World.size_setCell]; omega)
  by_cases h4 : 1024 < wds
  · clear h
    go_enter Try.func11, Try.ntmps11
    go_wp2
    refine ⟨rfl, .tuple #[.agg #[.int .i64 0, .int .i64 0, .int .i64 0, .slice none 0 0, .slice none 0 0, .bool false, .bool false, .int .i64 0, .int .u32 0, .int .i64 0], .int .i64 64], ?_, rfl, ?_⟩
    · simp [results, Try.results11, go_sem]
    · repeat' (first | exact Below.refl _ _ | refine Below.alloc ?_ ?_ _ | refine Below.setCell ?_ ?_ _)
      all_goals first | omega | (simp only [World.size_alloc, World.size_setCell]; omega)
  by_cases h5 : lim < 0
  · clear h
    go_enter Try.func11, Try.ntmps11
    go_wp2
    refine ⟨rfl, .tuple #[.agg #[.int .i64 0, .int .i64 0, .int .i64 0, .slice none 0 0, .slice none 0 0, .bool false, .bool false, .int .i64 0, .int .u32 0, .int .i64 0], .int .i64 64], ?_, rfl, ?_⟩
    · simp [results, Try.results11, go_sem]
    · repeat' (first | exact Below.refl _ _ | refine Below.alloc ?_ ?_ _ | refine Below.setCell ?_ ?_ _)
      all_goals first | omega | (simp only [World.size_alloc, World.size_setCell]; omega)
  have h6 : 1048576 < lim := by omega
  clear h
  go_enter Try.func11, Try.ntmps11
  go_wp2
  refine ⟨rfl, .tuple #[.agg #[.int .i64 0, .int .i64 0, .int .i64 0, .slice none 0 0, .slice none 0 0, .bool false, .bool false, .int .i64 0, .int .u32 0, .int .i64 0], .int .i64 64], ?_, rfl, ?_⟩
  · simp [results, Try.results11, go_sem]
  · repeat' (first | exact Below.refl _ _ | refine Below.alloc ?_ ?_ _ | refine Below.setCell ?_ ?_ _)
    all_goals first | omega | (simp only [World.size_alloc, World.size_setCell]; omega)

set_option maxRecDepth 100000 in
theorem fplays_long (x1 x2 x3 : Int) (sp : Option Addr) (n cap : Nat) (w : World) (h : 60 < n) :
    Calls Try.prog 3 #[.agg #[.int .i64 x1, .int .i64 x2, .int .i64 x3], .slice sp n cap] w fun e w' => e = .returned (.bool true) ∧ Below w.heap.size w w' := by
  have h1' : (60 : Int) < (n : Int) := by omega
  clear h
  go_enter Try.func3, Try.ntmps3
  go_wp2
  go_ret
  exact ⟨rfl, (Below.refl _ _).alloc (Nat.le_refl _) _⟩
set_option maxRecDepth 100000 in
set_option maxHeartbeats 1000000 in
theorem fplays_bad (x1 x2 x3 : Int) (sp : Option Addr) (n cap : Nat) (w : World) (h : ¬ 60 < n) (hb : ¬ okSize x1 x2 x3) :
    Calls Try.prog 3 #[.agg #[.int .i64 x1, .int .i64 x2, .int .i64 x3], .slice sp n cap] w fun e w' => e = .returned (.bool true) ∧ Below w.heap.size w w' := by
  have h1' : ¬ (60 : Int) < (n : Int) := by omega
  have HX := Lib.hid (BoxAt.mk_new w #[.int .i64 x1, .int .i64 x2, .int .i64 x3] 23)
  have HXB := Lib.hid (show Below w.heap.size w _ from (Below.refl _ w).alloc (Nat.le_refl _) (.cells #[.int .i64 x1, .int .i64 x2, .int .i64 x3] 23))
  have HR := Lib.hid (fun w1 => newR_bad x1 x2 x3 w1 hb)
  have HF := Lib.hid (fun w1 => new_bad x1 x2 x3 w1 hb)
  clear h hb
  go_enter Try.func3, Try.ntmps3
  go_wp2_with (first
    | (go_at_call 11; go_must (
        refine (HR.out _).mono ?_
        rintro e w1 ⟨rfl, hb⟩
        have hx1 := (HX.out.new hb).alloc (.cells #[.int .i64 0, .int .i64 0, .int .i64 0, .slice none 0 0, .slice none 0 0, .bool false, .bool false, .int .i64 0, .int .u32 0, .int .i64 0] 29)
        have c0 := hx1.cell 0 _ rfl; have c1 := hx1.cell 1 _ rfl; have c2 := hx1.cell 2 _ rfl
        have hb1 := HXB.out.trans (hb.mono HXB.out.size)
        have H1 := Lib.hid (hb1.alloc hb1.size (.cells #[.int .i64 0, .int .i64 0, .int .i64 0, .slice none 0 0, .slice none 0 0, .bool false, .bool false, .int .i64 0, .int .u32 0, .int .i64 0] 29))
        clear hb hx1 hb1))
    | (go_at_call 12; go_must (
        refine (HF.out _).mono ?_
        rintro e w2 ⟨rfl, rfl⟩))
    | (go_at_call 13; go_must (
        refine (aliveF_any _).mono ?_
        rintro e w3 ⟨rfl, hb3⟩
        have H3 := Lib.hid (H1.out.trans (hb3.mono H1.out.size))
        clear hb3))
    | fail)
  go_ret
  exact ⟨rfl, H3.out⟩
set_option maxRecDepth 100000 in
set_option maxHeartbeats 1000000 in
theorem fplays_many (ns nw : Nat) (x3 : Int) (sp : Option Addr) (n cap : Nat) (w : World) (h : ¬ 60 < n) (hk : okSize ns nw x3) (hm : 400 < ns * nw) :
    Calls Try.prog 3 #[.agg #[.int .i64 ns, .int .i64 nw, .int .i64 x3], .slice sp n cap] w fun e w' => e = .returned (.bool true) ∧ Below w.heap.size w w' := by
  have h1' : ¬ (60 : Int) < (n : Int) := by omega
  obtain ⟨M, hM⟩ : ∃ M, ns * nw = M := ⟨_, rfl⟩
  have hM4 : (400 : Int) < (M : Int) := by omega
  have HXB := Lib.hid (show Below w.heap.size w _ from (Below.refl _ w).alloc (Nat.le_refl _) (.cells #[.int .i64 ns, .int .i64 nw, .int .i64 x3] 23))
  have HR := Lib.hid (show ∀ w1, Calls Try.prog 11 #[.int .i64 ns, .int .i64 nw, .int .i64 x3] w1 fun e w' => ∃ bL cL bW cW, e = .returned (.tuple #[.agg #[.int .i64 ns, .int .i64 nw, .int .i64 x3, .slice (some ⟨bL, 0, none⟩) M cL, .slice (some ⟨bW, 0, none⟩) ns cW, .bool false, .bool false, .int .i64 0, .int .u32 0, .int .i64 0], .int .i64 0]) ∧ RefIn w' bL bW (Dev.fresh ns nw x3) ∧ w1.heap.size ≤ bL ∧ w1.heap.size ≤ bW ∧ Below w1.heap.size w1 w' from fun w1 => by rw [← hM]; exact newR_ok ns nw x3 w1 hk)
  clear h hk hm hM
  go_enter Try.func3, Try.ntmps3
  go_wp2_with (first
    | (go_at_call 11; go_must (
        refine (HR.out _).mono ?_
        rintro e w1 ⟨bL, cL, bW, cW, rfl, -, -, -, hb⟩
        have hb1 := HXB.out.trans (hb.mono HXB.out.size)
        have H1 := Lib.hid (hb1.alloc hb1.size (.cells #[.int .i64 ns, .int .i64 nw, .int .i64 x3, .slice (some ⟨bL, 0, none⟩) M cL, .slice (some ⟨bW, 0, none⟩) ns cW, .bool false, .bool false, .int .i64 0, .int .u32 0, .int .i64 0] 29))
        clear hb hb1))
    | fail)
  go_ret
  exact ⟨rfl, H1.out⟩
end Go.Proofs.Ytkbmgilceioieaa
