/- The law's Do, the other ways: the power is to go, comes, goes. -/
import Derived.Test.YtkbmgilceioieaaGD
namespace Go.Proofs.Ytkbmgilceioieaa
open Go.RowKit
variable {T : Nat → Prop}
variable {n0 n1 n2 : Int} {bL nL cL bW nW cW : Nat} {off ar : Bool} {af sd op : Int}
set_option maxHeartbeats 1000000 in
theorem do_arm (w : World) (q S : Nat) (g : Nat → Nat) (d D0 D2 D3 : Dev) (k s j x r r8 : Int) (off' ar' : Bool) (af' sd' op' : Int) (hd : DevAt w q S g d) (hr : RefIn w bL bW D0) (hT : ∀ j, T j → j < w.heap.size) (hn1 : ¬ T bL) (hn2 : ¬ T bW) (e3 : D3.ns = d.ns) (e2 : D2.ns = D0.ns ∧ D2.nw = D0.nw ∧ D2.word = D0.word ∧ D2.worn = D0.worn) (m1 : k.tmod 8 = r) (m2 : wrap64 (r + 8) = r8) (m3 : r8.tmod 8 = 5)
    (hR : ∀ w1, Calls Try.prog 50 #[vD n0 n1 n2 bL nL cL bW nW cW off ar af sd op, .int .i64 j, .int .u32 x] w1 fun e w' => e = .returned (vD n0 n1 n2 bL nL cL bW nW cW off' ar' af' sd' op') ∧ Below w1.heap.size w1 w')
    (hD : ∀ w1, DevAt w1 q S g d → Calls Try.prog 49 #[.pointer (some ⟨q, 0, none⟩), .agg #[.int .i64 j, .int .u32 x]] w1 fun e w' => e = .returned (.tuple #[]) ∧ DevAt w' q S g D3 ∧ Ch T w1 w') :
    Calls Try.prog 14 #[.pointer (some ⟨q, 0, none⟩), vD n0 n1 n2 bL nL cL bW nW cW off ar af sd op, .agg #[.int .i64 k, .int .i64 s, .int .i64 j, .int .u32 x]] w fun e w' => DoOut T w w' q S g bL bW D3 D2 (fun bL' cL' bW' cW' => vD n0 n1 n2 bL' nL cL' bW' nW cW' off' ar' af' sd' op') e := by
  have HR := Lib.hid hR
  have HTA := Lib.hid (ThreeAt.start T w n0 n1 n2 bL nL cL bW nW cW off ar af sd op k s j x)
  have HB := Lib.hid (show Below w.heap.size w _ from (((Below.refl _ w).alloc (Nat.le_refl _) (.cells #[.int .i64 n0, .int .i64 n1, .int .i64 n2, .slice (some ⟨bL, 0, none⟩) nL cL, .slice (some ⟨bW, 0, none⟩) nW cW, .bool off, .bool ar, .int .i64 af, .int .u32 sd, .int .i64 op] 29)).alloc (by rw [World.size_alloc]; omega) (.cells #[.int .i64 k, .int .i64 s, .int .i64 j, .int .u32 x] 40)).alloc (by simp only [World.size_alloc]; omega) (.cells #[.int .i64 0, .int .i64 0, .int .i64 0, .slice none 0 0, .slice none 0 0, .bool false, .bool false, .int .i64 0, .int .u32 0, .int .i64 0] 29))
  have HD := Lib.hid hD
  have HT := Lib.hid hT
  have HNT := Lib.hid (And.intro hn1 hn2)
  have HE3 := Lib.hid e3
  have HH := Lib.hid (And.intro hd hr)
  have HLT := Lib.hid (And.intro hr.ltL hr.ltW)
  obtain ⟨B, hB⟩ : ∃ B, w.heap.size = B := ⟨_, rfl⟩
  clear hd hr hR hD hT hn1 hn2 e3
  have HE2 := Lib.hid e2
  clear e2
  go_enter Try.func14, Try.ntmps14
  go_wp2_with (first
    | (go_at_call 49; go_must (
        refine (HD.out _ (HH.out.1.new HB.out)).mono ?_
        rintro e w1 ⟨rfl, hd1, hc1⟩
        have h1 := HTA.out.dev hc1 HT.out
        have hr1 := (HH.out.2.new HB.out).keep hc1 HNT.out.1 HNT.out.2
        have H1 := Lib.hid (And.intro h1 (And.intro hr1 hd1))
        obtain ⟨x1, o1, y1, b1⟩ := h1; rw [hB] at x1 o1 y1
        have c0 := x1.cell 0 _ rfl; have c1 := x1.cell 1 _ rfl; have c2 := x1.cell 2 _ rfl; have c3 := x1.cell 3 _ rfl; have c4 := x1.cell 4 _ rfl; have c5 := x1.cell 5 _ rfl; have c6 := x1.cell 6 _ rfl; have c7 := x1.cell 7 _ rfl; have c8 := x1.cell 8 _ rfl; have c9 := x1.cell 9 _ rfl; have f0 := x1.fr 0; have f1 := x1.fr 1; have f2 := x1.fr 2; have f3 := x1.fr 3; have f4 := x1.fr 4; have f5 := x1.fr 5; have f6 := x1.fr 6; have f7 := x1.fr 7; have f8 := x1.fr 8; have f9 := x1.fr 9; have p0 := o1.cell 0 _ rfl; have p1 := o1.cell 1 _ rfl; have p2 := o1.cell 2 _ rfl; have p3 := o1.cell 3 _ rfl; have d0 := y1.cell 0 _ rfl; have d1 := y1.cell 1 _ rfl; have d2 := y1.cell 2 _ rfl; have d3 := y1.cell 3 _ rfl; have d4 := y1.cell 4 _ rfl; have d5 := y1.cell 5 _ rfl; have d6 := y1.cell 6 _ rfl; have d7 := y1.cell 7 _ rfl; have d8 := y1.cell 8 _ rfl; have d9 := y1.cell 9 _ rfl; have e0 := y1.fr 0; have e1 := y1.fr 1; have e2 := y1.fr 2; have e3 := y1.fr 3; have e4 := y1.fr 4; have e5 := y1.fr 5; have e6 := y1.fr 6; have e7 := y1.fr 7; have e8 := y1.fr 8; have e9 := y1.fr 9
        clear hr1 hd1 hc1 x1 o1 y1 b1))
    | (go_at_call 50; go_must (
        refine (HR.out _).mono ?_
        rintro e w2 ⟨rfl, hb2⟩
        have h2 := H1.out.1.new hb2
        have H2 := Lib.hid (And.intro h2 (And.intro (H1.out.2.1.new hb2) (H1.out.2.2.new hb2)))
        have y2 := h2.y; rw [hB] at y2
        clear d0 e0 d1 e1 d2 e2 d3 e3 d4 e4 d5 e5 d6 e6 d7 e7 d8 e8 d9 e9
        have d0 := y2.cell 0 _ rfl; have d1 := y2.cell 1 _ rfl; have d2 := y2.cell 2 _ rfl; have d3 := y2.cell 3 _ rfl; have d4 := y2.cell 4 _ rfl; have d5 := y2.cell 5 _ rfl; have d6 := y2.cell 6 _ rfl; have d7 := y2.cell 7 _ rfl; have d8 := y2.cell 8 _ rfl; have d9 := y2.cell 9 _ rfl; have e0 := y2.fr 0; have e1 := y2.fr 1; have e2 := y2.fr 2; have e3 := y2.fr 3; have e4 := y2.fr 4; have e5 := y2.fr 5; have e6 := y2.fr 6; have e7 := y2.fr 7; have e8 := y2.fr 8; have e9 := y2.fr 9
        clear h2 hb2 y2))
    | fail)
  have hlt := HLT.out
  have hd4 := H2.out.2.2.keep (ch_put w2 (B + 1 + 1) (.int .i64 n0) (.int .i64 n1) (.int .i64 n2) (.slice (some ⟨bL, 0, none⟩) nL cL) (.slice (some ⟨bW, 0, none⟩) nW cW) (.bool off') (.bool ar') (.int .i64 af') (.int .u32 sd') (.int .i64 op')) (fun jj hj e => by have := HH.out.1.own_lt _ (by rw [← HE3.out]; exact hj); omega)
  have hr4 := (H2.out.2.1.keep (ch_put w2 (B + 1 + 1) (.int .i64 n0) (.int .i64 n1) (.int .i64 n2) (.slice (some ⟨bL, 0, none⟩) nL cL) (.slice (some ⟨bW, 0, none⟩) nW cW) (.bool off') (.bool ar') (.int .i64 af') (.int .u32 sd') (.int .i64 op')) (by omega) (by omega)).same HE2.out.1 HE2.out.2.1 HE2.out.2.2.1 HE2.out.2.2.2
  have hc4 := H2.out.1.c.then_below ((ch_put w2 (B + 1 + 1) (.int .i64 n0) (.int .i64 n1) (.int .i64 n2) (.slice (some ⟨bL, 0, none⟩) nL cL) (.slice (some ⟨bW, 0, none⟩) nW cW) (.bool off') (.bool ar') (.int .i64 af') (.int .u32 sd') (.int .i64 op')).below (n := w.heap.size) (fun jj hj e => by omega) H2.out.1.c.size)
  refine ⟨rfl, .tuple #[vD n0 n1 n2 bL nL cL bW nW cW off' ar' af' sd' op', .bool true], ?_, bL, cL, bW, cW, rfl, hd4, hr4, .inl rfl, .inl rfl, hc4⟩
  simp [results, Try.results14, go_sem, *]
set_option maxHeartbeats 1000000 in
theorem do_power (w : World) (q S : Nat) (g : Nat → Nat) (d D0 D2 D3 : Dev) (k s j x r r8 kk : Int) (on : Bool) (hd : DevAt w q S g d) (hr : RefIn w bL bW D0) (hT : ∀ j, T j → j < w.heap.size) (hn1 : ¬ T bL) (hn2 : ¬ T bW) (e3 : D3.ns = d.ns) (e2 : D2.ns = D0.ns ∧ D2.nw = D0.nw ∧ D2.word = D0.word ∧ D2.worn = D0.worn) (m1 : k.tmod 8 = r) (m2 : wrap64 (r + 8) = r8) (m3 : r8.tmod 8 = kk) (m4 : (kk == 4) = false) (m5 : (kk == 5) = false) (m6 : (kk == 6) = on) (m7 : (kk == 7) = !on)
    (hD : ∀ w1, DevAt w1 q S g d → Calls Try.prog 51 #[.pointer (some ⟨q, 0, none⟩), .bool on] w1 fun e w' => e = .returned (.tuple #[]) ∧ DevAt w' q S g D3 ∧ Ch T w1 w') :
    Calls Try.prog 14 #[.pointer (some ⟨q, 0, none⟩), vD n0 n1 n2 bL nL cL bW nW cW off ar af sd op, .agg #[.int .i64 k, .int .i64 s, .int .i64 j, .int .u32 x]] w fun e w' => DoOut T w w' q S g bL bW D3 D2 (fun bL' cL' bW' cW' => vD n0 n1 n2 bL' nL cL' bW' nW cW' (!on) ar af sd op) e := by
  have HTA := Lib.hid (ThreeAt.start T w n0 n1 n2 bL nL cL bW nW cW off ar af sd op k s j x)
  have HB := Lib.hid (show Below w.heap.size w _ from (((Below.refl _ w).alloc (Nat.le_refl _) (.cells #[.int .i64 n0, .int .i64 n1, .int .i64 n2, .slice (some ⟨bL, 0, none⟩) nL cL, .slice (some ⟨bW, 0, none⟩) nW cW, .bool off, .bool ar, .int .i64 af, .int .u32 sd, .int .i64 op] 29)).alloc (by rw [World.size_alloc]; omega) (.cells #[.int .i64 k, .int .i64 s, .int .i64 j, .int .u32 x] 40)).alloc (by simp only [World.size_alloc]; omega) (.cells #[.int .i64 0, .int .i64 0, .int .i64 0, .slice none 0 0, .slice none 0 0, .bool false, .bool false, .int .i64 0, .int .u32 0, .int .i64 0] 29))
  have HD := Lib.hid hD
  have HT := Lib.hid hT
  have HNT := Lib.hid (And.intro hn1 hn2)
  have HE3 := Lib.hid e3
  have HH := Lib.hid (And.intro hd hr)
  have HLT := Lib.hid (And.intro hr.ltL hr.ltW)
  obtain ⟨B, hB⟩ : ∃ B, w.heap.size = B := ⟨_, rfl⟩
  clear hd hr hD hT hn1 hn2 e3
  have HE2 := Lib.hid e2
  clear e2
  have hbb : B ≠ B + 1 + 1 ∧ B + 1 + 1 ≠ B := by omega
  cases on
  · have m7' := m7
    simp only [Bool.not_false] at m7'
    clear m7
    go_enter Try.func14, Try.ntmps14
    go_upto_region 13 with (first
      | (go_at_call 51; go_must (
          refine (HD.out _ (HH.out.1.new HB.out)).mono ?_
          rintro e w1 ⟨rfl, hd1, hc1⟩
          have h1 := HTA.out.dev hc1 HT.out
          have hr1 := (HH.out.2.new HB.out).keep hc1 HNT.out.1 HNT.out.2
          have H1 := Lib.hid (And.intro h1 (And.intro hr1 hd1))
          obtain ⟨x1, o1, y1, b1⟩ := h1; rw [hB] at x1 o1 y1
          have c0 := x1.cell 0 _ rfl; have c1 := x1.cell 1 _ rfl; have c2 := x1.cell 2 _ rfl; have c3 := x1.cell 3 _ rfl; have c4 := x1.cell 4 _ rfl; have c5 := x1.cell 5 _ rfl; have c6 := x1.cell 6 _ rfl; have c7 := x1.cell 7 _ rfl; have c8 := x1.cell 8 _ rfl; have c9 := x1.cell 9 _ rfl; have f0 := x1.fr 0; have f1 := x1.fr 1; have f2 := x1.fr 2; have f3 := x1.fr 3; have f4 := x1.fr 4; have f5 := x1.fr 5; have f6 := x1.fr 6; have f7 := x1.fr 7; have f8 := x1.fr 8; have f9 := x1.fr 9; have p0 := o1.cell 0 _ rfl; have p1 := o1.cell 1 _ rfl; have p2 := o1.cell 2 _ rfl; have p3 := o1.cell 3 _ rfl; have d0 := y1.cell 0 _ rfl; have d1 := y1.cell 1 _ rfl; have d2 := y1.cell 2 _ rfl; have d3 := y1.cell 3 _ rfl; have d4 := y1.cell 4 _ rfl; have d5 := y1.cell 5 _ rfl; have d6 := y1.cell 6 _ rfl; have d7 := y1.cell 7 _ rfl; have d8 := y1.cell 8 _ rfl; have d9 := y1.cell 9 _ rfl; have e0 := y1.fr 0; have e1 := y1.fr 1; have e2 := y1.fr 2; have e3 := y1.fr 3; have e4 := y1.fr 4; have e5 := y1.fr 5; have e6 := y1.fr 6; have e7 := y1.fr 7; have e8 := y1.fr 8; have e9 := y1.fr 9
          clear hr1 hd1 hc1 x1 o1 y1 b1))
      | fail)
    have hlt := HLT.out
    have h2 := H1.out.1.x.set 5 (.bool true) (Nat.lt_of_lt_of_eq (by decide : 5 < 10) rfl)
    rw [hB] at h2
    have c5' := h2.cell 5 _ rfl
    clear h2
    go_wp2
    have ha : Ch (fun jj => jj = B) w1 (w1.setCell ⟨B, 5, none⟩ (.bool true)) := (Ch.refl _ _).setCell _ _ (.inl rfl)
    have hd4 := (H1.out.2.2.keep ha (fun jj hj e => by have := HH.out.1.own_lt _ (by rw [← HE3.out]; exact hj); omega)).keep (ch_put _ (B + 1 + 1) (.int .i64 n0) (.int .i64 n1) (.int .i64 n2) (.slice (some ⟨bL, 0, none⟩) nL cL) (.slice (some ⟨bW, 0, none⟩) nW cW) (.bool true) (.bool ar) (.int .i64 af) (.int .u32 sd) (.int .i64 op)) (fun jj hj e => by have := HH.out.1.own_lt _ (by rw [← HE3.out]; exact hj); omega)
    have hr4 := ((H1.out.2.1.keep ha (by omega) (by omega)).keep (ch_put _ (B + 1 + 1) (.int .i64 n0) (.int .i64 n1) (.int .i64 n2) (.slice (some ⟨bL, 0, none⟩) nL cL) (.slice (some ⟨bW, 0, none⟩) nW cW) (.bool true) (.bool ar) (.int .i64 af) (.int .u32 sd) (.int .i64 op)) (by omega) (by omega)).same HE2.out.1 HE2.out.2.1 HE2.out.2.2.1 HE2.out.2.2.2
    have hc4 := H1.out.1.c.then_below ((ha.below (n := w.heap.size) (fun jj hj e => by omega) H1.out.1.c.size).trans ((ch_put (w1.setCell ⟨B, 5, none⟩ (.bool true)) (B + 1 + 1) (.int .i64 n0) (.int .i64 n1) (.int .i64 n2) (.slice (some ⟨bL, 0, none⟩) nL cL) (.slice (some ⟨bW, 0, none⟩) nW cW) (.bool true) (.bool ar) (.int .i64 af) (.int .u32 sd) (.int .i64 op)).below (n := w.heap.size) (fun jj hj e => by omega) (by rw [World.size_setCell]; exact H1.out.1.c.size)))
    refine ⟨rfl, .tuple #[vD n0 n1 n2 bL nL cL bW nW cW true ar af sd op, .bool true], ?_, bL, cL, bW, cW, rfl, hd4, hr4, .inl rfl, .inl rfl, hc4⟩
    simp [results, Try.results14, go_sem, *]
  · have m7' := m7
    simp only [Bool.not_true] at m7'
    clear m7
    go_enter Try.func14, Try.ntmps14
    go_upto_region 13 with (first
      | (go_at_call 51; go_must (
          refine (HD.out _ (HH.out.1.new HB.out)).mono ?_
          rintro e w1 ⟨rfl, hd1, hc1⟩
          have h1 := HTA.out.dev hc1 HT.out
          have hr1 := (HH.out.2.new HB.out).keep hc1 HNT.out.1 HNT.out.2
          have H1 := Lib.hid (And.intro h1 (And.intro hr1 hd1))
          obtain ⟨x1, o1, y1, b1⟩ := h1; rw [hB] at x1 o1 y1
          have c0 := x1.cell 0 _ rfl; have c1 := x1.cell 1 _ rfl; have c2 := x1.cell 2 _ rfl; have c3 := x1.cell 3 _ rfl; have c4 := x1.cell 4 _ rfl; have c5 := x1.cell 5 _ rfl; have c6 := x1.cell 6 _ rfl; have c7 := x1.cell 7 _ rfl; have c8 := x1.cell 8 _ rfl; have c9 := x1.cell 9 _ rfl; have f0 := x1.fr 0; have f1 := x1.fr 1; have f2 := x1.fr 2; have f3 := x1.fr 3; have f4 := x1.fr 4; have f5 := x1.fr 5; have f6 := x1.fr 6; have f7 := x1.fr 7; have f8 := x1.fr 8; have f9 := x1.fr 9; have p0 := o1.cell 0 _ rfl; have p1 := o1.cell 1 _ rfl; have p2 := o1.cell 2 _ rfl; have p3 := o1.cell 3 _ rfl; have d0 := y1.cell 0 _ rfl; have d1 := y1.cell 1 _ rfl; have d2 := y1.cell 2 _ rfl; have d3 := y1.cell 3 _ rfl; have d4 := y1.cell 4 _ rfl; have d5 := y1.cell 5 _ rfl; have d6 := y1.cell 6 _ rfl; have d7 := y1.cell 7 _ rfl; have d8 := y1.cell 8 _ rfl; have d9 := y1.cell 9 _ rfl; have e0 := y1.fr 0; have e1 := y1.fr 1; have e2 := y1.fr 2; have e3 := y1.fr 3; have e4 := y1.fr 4; have e5 := y1.fr 5; have e6 := y1.fr 6; have e7 := y1.fr 7; have e8 := y1.fr 8; have e9 := y1.fr 9
          clear hr1 hd1 hc1 x1 o1 y1 b1))
      | fail)
    have hlt := HLT.out
    have h2 := H1.out.1.x.set 5 (.bool false) (Nat.lt_of_lt_of_eq (by decide : 5 < 10) rfl)
    rw [hB] at h2
    have c5' := h2.cell 5 _ rfl
    clear h2
    go_wp2
    have ha : Ch (fun jj => jj = B) w1 (w1.setCell ⟨B, 5, none⟩ (.bool false)) := (Ch.refl _ _).setCell _ _ (.inl rfl)
    have hd4 := (H1.out.2.2.keep ha (fun jj hj e => by have := HH.out.1.own_lt _ (by rw [← HE3.out]; exact hj); omega)).keep (ch_put _ (B + 1 + 1) (.int .i64 n0) (.int .i64 n1) (.int .i64 n2) (.slice (some ⟨bL, 0, none⟩) nL cL) (.slice (some ⟨bW, 0, none⟩) nW cW) (.bool false) (.bool ar) (.int .i64 af) (.int .u32 sd) (.int .i64 op)) (fun jj hj e => by have := HH.out.1.own_lt _ (by rw [← HE3.out]; exact hj); omega)
    have hr4 := ((H1.out.2.1.keep ha (by omega) (by omega)).keep (ch_put _ (B + 1 + 1) (.int .i64 n0) (.int .i64 n1) (.int .i64 n2) (.slice (some ⟨bL, 0, none⟩) nL cL) (.slice (some ⟨bW, 0, none⟩) nW cW) (.bool false) (.bool ar) (.int .i64 af) (.int .u32 sd) (.int .i64 op)) (by omega) (by omega)).same HE2.out.1 HE2.out.2.1 HE2.out.2.2.1 HE2.out.2.2.2
    have hc4 := H1.out.1.c.then_below ((ha.below (n := w.heap.size) (fun jj hj e => by omega) H1.out.1.c.size).trans ((ch_put (w1.setCell ⟨B, 5, none⟩ (.bool false)) (B + 1 + 1) (.int .i64 n0) (.int .i64 n1) (.int .i64 n2) (.slice (some ⟨bL, 0, none⟩) nL cL) (.slice (some ⟨bW, 0, none⟩) nW cW) (.bool false) (.bool ar) (.int .i64 af) (.int .u32 sd) (.int .i64 op)).below (n := w.heap.size) (fun jj hj e => by omega) (by rw [World.size_setCell]; exact H1.out.1.c.size)))
    refine ⟨rfl, .tuple #[vD n0 n1 n2 bL nL cL bW nW cW false ar af sd op, .bool true], ?_, bL, cL, bW, cW, rfl, hd4, hr4, .inl rfl, .inl rfl, hc4⟩
    simp [results, Try.results14, go_sem, *]
end Go.Proofs.Ytkbmgilceioieaa
