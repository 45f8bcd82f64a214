/- The contract of the reference's Program. -/
import Derived.Test.YthpagbfabpfngaaFT
import Derived.Deep.Cut
import Derived.Deep.CutRange
namespace Go.Proofs.Ythpagbfabpfngaa
open Go.RowKit
variable {n0 n1 n2 : Int} {bL nL cL bW nW cW : Nat} {off ar : Bool} {af sd op : Int}
set_option maxHeartbeats 1000000 in
theorem progV_put (w : World) (d : Dev) (s k : Int) (i j m t : Nat) (off' ar' : Bool) (af' op' : Int) (X Y : BitVec 32) (hi : ∀ w, Calls Try.prog 112 #[vD n0 n1 n2 bL nL cL bW nW cW false ar af sd op, .int .i64 s, .int .i64 k] w fun e w' => e = .returned (.bool true) ∧ Below w.heap.size w w')
    (m1 : IntKind.i64.wrap (s * n1) = (m : Int)) (m2 : IntKind.i64.wrap ((m : Int) + k) = (t : Int)) (ht : t < nL) (hr : RefIn w bL bW d) (hi1 : i < d.ns) (hj1 : j < d.nw) (hij : i * d.nw + j = t) (hY : d.word i j = Y) (hne : (w32 (X ||| Y) == w32 Y) = true)
    (hcp : ∀ w2, RefIn w2 bL bW d → Calls Try.prog 113 #[vD n0 n1 n2 bL nL cL bW nW cW false ar af sd op] w2 fun e w' => ∃ bL' cL' bW' cW', e = .returned (vD n0 n1 n2 bL' nL cL' bW' nW cW' false ar af sd op) ∧ RefIn w' bL' bW' d ∧ w2.heap.size ≤ bL' ∧ w2.heap.size ≤ bW' ∧ Below w2.heap.size w2 w')
    (hgo : ∀ bL cL bW cW w2, Calls Try.prog 114 #[vD n0 n1 n2 bL nL cL bW nW cW false ar af sd op] w2 fun e w' => e = .returned (.tuple #[vD n0 n1 n2 bL nL cL bW nW cW off' ar' af' sd op', .bool false]) ∧ Below w2.heap.size w2 w') :
    Calls Try.prog 92 #[vD n0 n1 n2 bL nL cL bW nW cW false ar af sd op, .int .i64 s, .int .i64 k, .int .u32 (w32 X)] w fun e w' =>
    ∃ bL' cL' bW' cW', e = .returned (.tuple #[vD n0 n1 n2 bL' nL cL' bW' nW cW' off' ar' af' sd op', .int .i64 0]) ∧ RefIn w' bL' bW' (d.put i j (X)) ∧ w.heap.size ≤ bL' ∧ w.heap.size ≤ bW' ∧ Below w.heap.size w w' := by
  have HI := Lib.hid hi
  have HT := Lib.hid (TwoAt.start w n0 n1 n2 bL nL cL bW nW cW false ar af sd op)
  have HC := Lib.hid (fun (w2 : World) (hb : Below w.heap.size w w2) => hr.new hb)
  have HCP := Lib.hid hcp
  have HGO := Lib.hid hgo
  have hcl := hr.cl i j hi1 hj1
  have HIJ := Lib.hid (And.intro hi1 (And.intro hj1 hij))
  have HY := Lib.hid hY
  have t0 : (0 : Int) ≤ (t : Int) := by omega
  have t1 : (t : Int) < (nL : Int) := by omega
  have hor := or32 X Y
  have hn2 : (w32 (X ||| Y) == w32 Y) = true := hne
  obtain ⟨B, hB⟩ : ∃ B, w.heap.size = B := ⟨_, rfl⟩
  clear hi hne ht hr hcp hgo hcl hi1 hj1 hij hY
  go_enter Try.func92, Try.ntmps92
  rw [hB]
  go_wp2_with (first
    | (go_at_call 112; go_must (refine (HI.out _).mono ?_; rintro e w1 ⟨rfl, hb⟩; have h1 := HT.out.new hb; have hr1 := HC.out _ h1.b; have hc1 := hr1.cl i j HIJ.out.1 HIJ.out.2.1; rw [HIJ.out.2.2, HY.out] at hc1; have H1 := Lib.hid (And.intro h1 hr1); obtain ⟨x1, y1, b1⟩ := h1; rw [hB] at x1; have c0 := x1.cell 0 _ rfl; have c1 := x1.cell 1 _ rfl; have c2 := x1.cell 2 _ rfl; have c3 := x1.cell 3 _ rfl; have c4 := x1.cell 4 _ rfl; have c5 := x1.cell 5 _ rfl; have c6 := x1.cell 6 _ rfl; have c7 := x1.cell 7 _ rfl; have c8 := x1.cell 8 _ rfl; have c9 := x1.cell 9 _ rfl; clear hb x1 y1 b1 hr1))
    | fail)
  go_quiet (fail)
  go_upto_region 11 with (first
    | (go_at_call 113; go_must (
        refine (HCP.out _ (H1.out.2.drewN _)).mono ?_
        rintro e w2 ⟨bL', cL', bW', cW', rfl, hr2, hb2L, hb2W, hb2⟩
        have h2 := H1.out.1.new ((below_dn (Below.refl _ _) _).trans hb2)
        have hlt : B + 1 < w1.heap.size := by have := H1.out.1.y.lt; omega
        have hb2L' : w1.heap.size ≤ bL' := hb2L
        have hb2W' : w1.heap.size ≤ bW' := hb2W
        have H2 := Lib.hid (And.intro h2 (And.intro hr2 (And.intro (show B + 1 < bL' by omega) (show B + 1 < bW' by omega))))
        obtain ⟨x2, y2, b2⟩ := h2; rw [hB] at x2
        clear c0 c1 c2 c3 c4 c5 c6 c7 c8 c9
        have g0 := x2.cell 0 _ rfl; have g1 := x2.cell 1 _ rfl; have g2 := x2.cell 2 _ rfl; have g3 := x2.cell 3 _ rfl; have g4 := x2.cell 4 _ rfl; have g5 := x2.cell 5 _ rfl; have g6 := x2.cell 6 _ rfl; have g7 := x2.cell 7 _ rfl; have g8 := x2.cell 8 _ rfl; have g9 := x2.cell 9 _ rfl; have h0 := x2.fr 0; have h1 := x2.fr 1; have h2 := x2.fr 2; have h3 := x2.fr 3; have h4 := x2.fr 4; have h5 := x2.fr 5; have h6 := x2.fr 6; have h7 := x2.fr 7; have h8 := x2.fr 8; have h9 := x2.fr 9
        clear hr2 hb2L hb2W hb2 x2 y2 b2 hlt hb2L' hb2W'))
    | (go_at_call 114; go_must (
        refine (HGO.out _ _ _ _ _).mono ?_
        rintro e w3 ⟨rfl, hb3⟩
        have h3 := (H2.out.1.put rfl (.int .i64 n0) (.int .i64 n1) (.int .i64 n2) (.slice (some ⟨bL', 0, none⟩) nL cL') (.slice (some ⟨bW', 0, none⟩) nW cW') (.bool false) (.bool ar) (.int .i64 af) (.int .u32 sd) (.int .i64 op)).new (by rw [hB]; exact hb3)
        have hr3 := (H2.out.2.1.keep (ch_put w2 B (.int .i64 n0) (.int .i64 n1) (.int .i64 n2) (.slice (some ⟨bL', 0, none⟩) nL cL') (.slice (some ⟨bW', 0, none⟩) nW cW') (.bool false) (.bool ar) (.int .i64 af) (.int .u32 sd) (.int .i64 op)) (by have := H2.out.2.2.1; omega) (by have := H2.out.2.2.2; omega)).new hb3
        have H3 := Lib.hid (And.intro h3 hr3)
        obtain ⟨x3, y3, b3⟩ := h3; rw [hB] at x3
        clear g0 h0 g1 h1 g2 h2 g3 h3 g4 h4 g5 h5 g6 h6 g7 h7 g8 h8 g9 h9
        have c0 := x3.cell 0 _ rfl; have c1 := x3.cell 1 _ rfl; have c2 := x3.cell 2 _ rfl; have c3 := x3.cell 3 _ rfl; have c4 := x3.cell 4 _ rfl; have c5 := x3.cell 5 _ rfl; have c6 := x3.cell 6 _ rfl; have c7 := x3.cell 7 _ rfl; have c8 := x3.cell 8 _ rfl; have c9 := x3.cell 9 _ rfl; have f0 := x3.fr 0; have f1 := x3.fr 1; have f2 := x3.fr 2; have f3 := x3.fr 3; have f4 := x3.fr 4; have f5 := x3.fr 5; have f6 := x3.fr 6; have f7 := x3.fr 7; have f8 := x3.fr 8; have f9 := x3.fr 9
        clear hr3 x3 y3 b3 hb3))
    | fail)
  have h4 := H3.out.1.put rfl (.int .i64 n0) (.int .i64 n1) (.int .i64 n2) (.slice (some ⟨bL', 0, none⟩) nL cL') (.slice (some ⟨bW', 0, none⟩) nW cW') (.bool off') (.bool ar') (.int .i64 af') (.int .u32 sd) (.int .i64 op')
  have hr4 := H3.out.2.keep (ch_put w3 B (.int .i64 n0) (.int .i64 n1) (.int .i64 n2) (.slice (some ⟨bL', 0, none⟩) nL cL') (.slice (some ⟨bW', 0, none⟩) nW cW') (.bool off') (.bool ar') (.int .i64 af') (.int .u32 sd) (.int .i64 op')) (by have := H2.out.2.2.1; omega) (by have := H2.out.2.2.2; omega)
  rw [hB] at h4
  generalize hw4 : World.setCell _ _ _ = w4 at h4 hr4 ⊢
  have q1 := hr4.cl i j HIJ.out.1 HIJ.out.2.1
  have q2 := hr4.fl (i * d.nw + j) (flat_lt _ _ _ _ HIJ.out.1 HIJ.out.2.1)
  rw [HIJ.out.2.2] at q1 q2
  rw [HY.out] at q1
  have H4 := Lib.hid (And.intro h4 hr4)
  obtain ⟨x4, y4, b4⟩ := h4
  rw [hB] at x4 y4
  clear c0 f0 c1 f1 c2 f2 c3 f3 c4 f4 c5 f5 c6 f6 c7 f7 c8 f8 c9 f9 hw4
  have c0 := x4.cell 0 _ rfl; have c1 := x4.cell 1 _ rfl; have c2 := x4.cell 2 _ rfl; have c3 := x4.cell 3 _ rfl; have c4 := x4.cell 4 _ rfl; have c5 := x4.cell 5 _ rfl; have c6 := x4.cell 6 _ rfl; have c7 := x4.cell 7 _ rfl; have c8 := x4.cell 8 _ rfl; have c9 := x4.cell 9 _ rfl; have d0 := y4.cell 0 _ rfl; have d1 := y4.cell 1 _ rfl; have d2 := y4.cell 2 _ rfl; have d3 := y4.cell 3 _ rfl; have d4 := y4.cell 4 _ rfl; have d5 := y4.cell 5 _ rfl; have d6 := y4.cell 6 _ rfl; have d7 := y4.cell 7 _ rfl; have d8 := y4.cell 8 _ rfl; have d9 := y4.cell 9 _ rfl; have e0 := y4.fr 0; have e1 := y4.fr 1; have e2 := y4.fr 2; have e3 := y4.fr 3; have e4 := y4.fr 4; have e5 := y4.fr 5; have e6 := y4.fr 6; have e7 := y4.fr 7; have e8 := y4.fr 8; have e9 := y4.fr 9
  have n1' : ¬ bL' = B := by have := H2.out.2.2.1; omega
  have n2' : ¬ B = bL' := by have := H2.out.2.2.1; omega
  have n3' : ¬ bL' = B + 1 := by have := H2.out.2.2.1; omega
  have n4' : ¬ B + 1 = bL' := by have := H2.out.2.2.1; omega
  clear x4 y4 b4 hr4
  go_wp2
  have hL := H2.out.2.2.1
  have hW := H2.out.2.2.2
  have hs := H4.out.2.setW i j (X) HIJ.out.1 HIJ.out.2.1
  rw [HIJ.out.2.2] at hs
  refine ⟨rfl, .tuple #[vD n0 n1 n2 bL' nL cL' bW' nW cW' off' ar' af' sd op', .int .i64 0], ?_, bL', cL', bW', cW', rfl, ?_, by omega, by omega, ?_⟩
  · simp [results, Try.results92, go_sem, *]
  · refine hs.keep (T := fun j => j = B + 1) ?_ (by omega) (by omega)
    repeat' (first | (with_reducible exact Ch.refl _ _) | refine Ch.setCell ?_ _ _ ?_)
    all_goals exact .inl rfl
  · have hb := H4.out.1.b
    rw [hB] at hb
    repeat' (first | refine Below.setCell ?_ ?_ _ | exact hb)
    all_goals first | exact Nat.le_succ B | exact (show B ≤ bL' by omega)
end Go.Proofs.Ythpagbfabpfngaa
