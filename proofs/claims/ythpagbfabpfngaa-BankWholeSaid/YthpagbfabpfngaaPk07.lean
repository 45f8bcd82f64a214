/- Several texts in one: FX, FY, FZ, GA. -/
import Derived.Test.YthpagbfabpfngaaPk06
import Derived.Deep.Cut
import Derived.Deep.CutRange
/- The contract of the reference's Erase, letter by letter. -/
namespace Go.Proofs.Ythpagbfabpfngaa
open Go.RowKit

variable {n0 n1 n2 : Int} {bL nL cL bW nW cW : Nat} {off ar : Bool} {af sd op : Int}
theorem eraseV_off (w : World) (s : Int) : Calls Try.prog 93 #[vD n0 n1 n2 bL nL cL bW nW cW true ar af sd op, .int .i64 s] w fun e w' =>
    e = .returned (.tuple #[vD n0 n1 n2 bL nL cL bW nW cW true ar af sd op, .int .i64 63]) ∧ Below w.heap.size w w' := by
  go_enter Try.func93, Try.ntmps93
  go_wp2
  refine ⟨rfl, .tuple #[vD n0 n1 n2 bL nL cL bW nW cW true ar af sd op, .int .i64 63], ?_, rfl, ?_⟩
  · simp [results, Try.results93, go_sem]
  · repeat' (first | exact Below.refl _ _ | refine Below.alloc ?_ ?_ _ | refine Below.setCell ?_ ?_ _)
    all_goals first | omega | (simp only [World.size_alloc]; omega)
theorem eraseV_no (w : World) (s : Int) (hs : s < 0 ∨ n0 ≤ s) : Calls Try.prog 93 #[vD n0 n1 n2 bL nL cL bW nW cW false ar af sd op, .int .i64 s] w fun e w' =>
    e = .returned (.tuple #[vD n0 n1 n2 bL nL cL bW nW cW false ar af sd op, .int .i64 60]) ∧ Below w.heap.size w w' := by
  by_cases h0 : s < 0
  · clear hs
    go_enter Try.func93, Try.ntmps93
    go_wp2
    refine ⟨rfl, .tuple #[vD n0 n1 n2 bL nL cL bW nW cW false ar af sd op, .int .i64 60], ?_, rfl, ?_⟩
    · simp [results, Try.results93, go_sem]
    · repeat' (first | exact Below.refl _ _ | refine Below.alloc ?_ ?_ _ | refine Below.setCell ?_ ?_ _)
      all_goals first | omega | (simp only [World.size_alloc]; omega)
  · have h1 : n0 ≤ s := by omega
    clear hs
    go_enter Try.func93, Try.ntmps93
    go_wp2
    refine ⟨rfl, .tuple #[vD n0 n1 n2 bL nL cL bW nW cW false ar af sd op, .int .i64 60], ?_, rfl, ?_⟩
    · simp [results, Try.results93, go_sem]
    · repeat' (first | exact Below.refl _ _ | refine Below.alloc ?_ ?_ _ | refine Below.setCell ?_ ?_ _)
      all_goals first | omega | (simp only [World.size_alloc]; omega)
theorem eraseV_worn (w : World) (i : Nat) (wn : Int) (h1 : (i : Int) < n0) (hi : i < nW) (hc : w.cell? ⟨bW, i, none⟩ = some (.int .i64 wn)) (hl : n2 ≤ wn) : Calls Try.prog 93 #[vD n0 n1 n2 bL nL cL bW nW cW false ar af sd op, .int .i64 i] w fun e w' =>
    e = .returned (.tuple #[vD n0 n1 n2 bL nL cL bW nW cW false ar af sd op, .int .i64 62]) ∧ Below w.heap.size w w' := by
  have h0 : ¬ (i : Int) < 0 := by omega
  have h2 : ¬ n0 ≤ (i : Int) := by omega
  have t0 : (0 : Int) ≤ (i : Int) := by omega
  have t1 : (i : Int) < (nW : Int) := by omega
  have hb := World.block_lt_of_cell? w _ hc
  have hb2 : bW < w.heap.size := by simpa using hb
  have b1 : ¬ bW = w.heap.size := by omega
  have b2 : ¬ bW = w.heap.size + 1 := by omega
  clear hb
  go_enter Try.func93, Try.ntmps93
  go_wp2
  go_quiet (fail)
  go_wp2
  refine ⟨rfl, .tuple #[vD n0 n1 n2 bL nL cL bW nW cW false ar af sd op, .int .i64 62], ?_, rfl, ?_⟩
  · simp [results, Try.results93, go_sem]
  · repeat' (first | (with_reducible exact Below.refl _ _) | (with_reducible refine below_dn ?_ _) | (with_reducible refine Below.alloc ?_ ?_ _) | (with_reducible refine Below.setCell ?_ ?_ _))
    all_goals first | omega | (simp only [World.size_alloc]; omega)
end Go.Proofs.Ythpagbfabpfngaa
/- The contract of the reference's Erase, letter by letter: a sector is erased. -/
namespace Go.Proofs.Ythpagbfabpfngaa
open Go.RowKit
variable {n0 n2 : Int} {bL nL cL bW nW cW : Nat} {off ar : Bool} {af sd op : Int}
theorem TwoAt.other {w0 w : World} {l : List Value} (h : TwoAt w0 w l) (a : Addr) (v : Value) (h1 : a.block ≠ w0.heap.size) (h2 : a.block ≠ w0.heap.size + 1) (h3 : w0.heap.size ≤ a.block) : TwoAt w0 (w.setCell a v) l :=
  ⟨h.x.other a v h1, h.y.other a v h2, h.b.setCell h3 v⟩
set_option maxHeartbeats 1000000 in
theorem eraseV_ok (w : World) (d : Dev) (i nw m : Nat) (wn : Int) (off' ar' : Bool) (af' op' : Int) (f : Nat → BitVec 32) (h1 : (i : Int) < n0) (hi : i < nW) (hnw : d.nw = nw) (hm : i * nw = m) (m1 : IntKind.i64.wrap ((i : Int) * (nw : Int)) = (m : Int)) (hmm : m ≤ 70000) (hL : nL = d.ns * d.nw) (hz : nw ≤ 1024 ∧ 0 < nw)
    (hr : RefIn w bL bW d) (hi1 : i < d.ns) (hwn : d.worn i = wn) (hl : ¬ n2 ≤ wn) (hw1 : IntKind.i64.wrap (wn + 1) = wn + 1)
    (hcp : ∀ w2, RefIn w2 bL bW d → Calls Try.prog 113 #[vD n0 nw n2 bL nL cL bW nW cW false ar af sd op] w2 fun e w' => ∃ bL' cL' bW' cW', e = .returned (vD n0 nw n2 bL' nL cL' bW' nW cW' false ar af sd op) ∧ RefIn w' bL' bW' d ∧ w2.heap.size ≤ bL' ∧ w2.heap.size ≤ bW' ∧ nL ≤ cL' ∧ Below w2.heap.size w2 w')
    (hgo : ∀ bL cL bW cW w2, Calls Try.prog 114 #[vD n0 nw n2 bL nL cL bW nW cW false ar af sd op] w2 fun e w' => e = .returned (.tuple #[vD n0 nw n2 bL nL cL bW nW cW off' ar' af' sd op', .bool false]) ∧ Below w2.heap.size w2 w')
    (hF : ∀ k, Value.int .u32 (w32 (f k)) = .int .u32 4294967295) :
    Calls Try.prog 93 #[vD n0 nw n2 bL nL cL bW nW cW false ar af sd op, .int .i64 i] w fun e w' =>
    ∃ bL' cL' bW' cW', e = .returned (.tuple #[vD n0 nw n2 bL' nL cL' bW' nW cW' off' ar' af' sd op', .int .i64 0]) ∧ RefIn w' bL' bW' ((d.wear i).part i f nw) ∧ w.heap.size ≤ bL' ∧ w.heap.size ≤ bW' ∧ nL ≤ cL' ∧ Below w.heap.size w w' := by
  have HT := Lib.hid (TwoAt.start w n0 nw n2 bL nL cL bW nW cW false ar af sd op)
  have HC := Lib.hid (fun (w2 : World) (hb : Below w.heap.size w w2) => hr.new hb)
  have HCP := Lib.hid hcp
  have HGO := Lib.hid hgo
  have HI := Lib.hid (And.intro hi1 (And.intro hnw (And.intro hwn (And.intro hm (And.intro hL (And.intro hz hmm))))))
  have hc := (HC.out _ HT.out.b).cw i hi1
  rw [hwn] at hc
  have h0 : ¬ (i : Int) < 0 := by omega
  have h2 : ¬ n0 ≤ (i : Int) := by omega
  have t0 : (0 : Int) ≤ (i : Int) := by omega
  have t1 : (i : Int) < (nW : Int) := by omega
  have b1 : ¬ bW = w.heap.size := by have := hr.ltW; omega
  have b2 : ¬ bW = w.heap.size + 1 := by have := hr.ltW; omega
  obtain ⟨B, hB⟩ : ∃ B, w.heap.size = B := ⟨_, rfl⟩
  rw [hB] at b1 b2
  have HTl := HT.out.x.lt
  have HTL := Lib.hid HT.out.y.lt
  clear hr hcp hgo hi1 hnw hwn hm hmm hL hz hi HTl
  go_enter Try.func93, Try.ntmps93
  rw [hB]
  go_wp2
  go_quiet (fail)
  go_upto_region 8 with (first
    | (go_at_call 113; go_must (
        refine (HCP.out _ (HC.out _ (below_dn HT.out.b _))).mono ?_
        rintro e w2 ⟨bL', cL', bW', cW', rfl, hr2, hb2L, hb2W, hcap2, hb2⟩
        have HCAP := Lib.hid hcap2
        clear hcap2
        have h2 := HT.out.new ((below_dn (Below.refl _ _) _).trans hb2)
        have hlt := HTL.out
        rw [hB] at hlt
        have hb2L' := Nat.lt_of_lt_of_le hlt hb2L
        have hb2W' := Nat.lt_of_lt_of_le hlt hb2W
        have H2 := Lib.hid (And.intro h2 (And.intro hr2 (And.intro hb2L' hb2W')))
        obtain ⟨x2, y2, b2⟩ := h2; rw [hB] at x2
        have g0 := x2.cell 0 _ rfl; have g1 := x2.cell 1 _ rfl; have g2 := x2.cell 2 _ rfl; have g3 := x2.cell 3 _ rfl; have g4 := x2.cell 4 _ rfl; have g5 := x2.cell 5 _ rfl; have g6 := x2.cell 6 _ rfl; have g7 := x2.cell 7 _ rfl; have g8 := x2.cell 8 _ rfl; have g9 := x2.cell 9 _ rfl; have h0 := x2.fr 0; have h1 := x2.fr 1; have h2 := x2.fr 2; have h3 := x2.fr 3; have h4 := x2.fr 4; have h5 := x2.fr 5; have h6 := x2.fr 6; have h7 := x2.fr 7; have h8 := x2.fr 8; have h9 := x2.fr 9
        clear hr2 hb2L hb2W hb2 x2 y2 b2 hlt hb2L' hb2W'))
    | fail)
  have h3 := H2.out.1.put rfl (.int .i64 n0) (.int .i64 nw) (.int .i64 n2) (.slice (some ⟨bL', 0, none⟩) nL cL') (.slice (some ⟨bW', 0, none⟩) nW cW') (.bool false) (.bool ar) (.int .i64 af) (.int .u32 sd) (.int .i64 op)
  have hr3 := H2.out.2.1.keep (ch_put w2 B (.int .i64 n0) (.int .i64 nw) (.int .i64 n2) (.slice (some ⟨bL', 0, none⟩) nL cL') (.slice (some ⟨bW', 0, none⟩) nW cW') (.bool false) (.bool ar) (.int .i64 af) (.int .u32 sd) (.int .i64 op)) (by have := H2.out.2.2.1; omega) (by have := H2.out.2.2.2; omega)
  rw [hB] at h3
  generalize hw3 : World.setCell _ _ _ = w3 at h3 hr3 ⊢
  have q1 := hr3.cw i HI.out.1
  have q2 := hr3.fw i HI.out.1
  rw [HI.out.2.2.1] at q1
  have H3 := Lib.hid (And.intro h3 hr3)
  obtain ⟨x3, y3, b3⟩ := h3
  rw [hB] at x3
  clear g0 h0 g1 h1 g2 h2 g3 h3 g4 h4 g5 h5 g6 h6 g7 h7 g8 h8 g9 h9 hw3 hc
  have c0 := x3.cell 0 _ rfl; have c1 := x3.cell 1 _ rfl; have c2 := x3.cell 2 _ rfl; have c3 := x3.cell 3 _ rfl; have c4 := x3.cell 4 _ rfl; have c5 := x3.cell 5 _ rfl; have c6 := x3.cell 6 _ rfl; have c7 := x3.cell 7 _ rfl; have c8 := x3.cell 8 _ rfl; have c9 := x3.cell 9 _ rfl
  have n1' : ¬ bW' = B := by have := H2.out.2.2.2; omega
  have n2' : ¬ B = bW' := by have := H2.out.2.2.2; omega
  clear x3 y3 b3 hr3
  go_upto_region 11 with (first
    | (go_at_call 114; go_must (
        refine (HGO.out _ _ _ _ _).mono ?_
        rintro e w4 ⟨rfl, hb4⟩
        have h4 := (H3.out.1.other ⟨bW', i, none⟩ (.int .i64 (wn + 1)) (by rw [hB]; exact n1') (by rw [hB]; have := H2.out.2.2.2; show bW' ≠ B + 1; omega) (by rw [hB]; have := H2.out.2.2.2; show B ≤ bW'; omega)).new hb4
        have hr4 := H3.out.2.setWorn i HI.out.1
        rw [HI.out.2.2.1] at hr4
        have hr4 := hr4.new hb4
        have H4 := Lib.hid (And.intro h4 hr4)
        obtain ⟨x4, y4, b4⟩ := h4; rw [hB] at x4
        clear c0 c1 c2 c3 c4 c5 c6 c7 c8 c9
        have g0 := x4.cell 0 _ rfl; have g1 := x4.cell 1 _ rfl; have g2 := x4.cell 2 _ rfl; have g3 := x4.cell 3 _ rfl; have g4 := x4.cell 4 _ rfl; have g5 := x4.cell 5 _ rfl; have g6 := x4.cell 6 _ rfl; have g7 := x4.cell 7 _ rfl; have g8 := x4.cell 8 _ rfl; have g9 := x4.cell 9 _ rfl; have k0 := x4.fr 0; have k1 := x4.fr 1; have k2 := x4.fr 2; have k3 := x4.fr 3; have k4 := x4.fr 4; have k5 := x4.fr 5; have k6 := x4.fr 6; have k7 := x4.fr 7; have k8 := x4.fr 8; have k9 := x4.fr 9
        clear hr4 x4 y4 b4 hb4))
    | fail)
  have h5 := H4.out.1.put rfl (.int .i64 n0) (.int .i64 nw) (.int .i64 n2) (.slice (some ⟨bL', 0, none⟩) nL cL') (.slice (some ⟨bW', 0, none⟩) nW cW') (.bool off') (.bool ar') (.int .i64 af') (.int .u32 sd) (.int .i64 op')
  have hr5 := H4.out.2.keep (ch_put w4 B (.int .i64 n0) (.int .i64 nw) (.int .i64 n2) (.slice (some ⟨bL', 0, none⟩) nL cL') (.slice (some ⟨bW', 0, none⟩) nW cW') (.bool off') (.bool ar') (.int .i64 af') (.int .u32 sd) (.int .i64 op')) (by have := H2.out.2.2.1; omega) (by have := H2.out.2.2.2; omega)
  rw [hB] at h5
  generalize hw5 : World.setCell _ _ _ = w5 at h5 hr5 ⊢
  have H5 := Lib.hid (And.intro h5 hr5)
  have c1 := h5.x.cell 1 _ rfl
  have c8 := h5.x.cell 8 _ rfl
  rw [hB] at c1 c8
  have nBL : B + 1 < bL' := H2.out.2.2.1
  have nBW : B + 1 < bW' := H2.out.2.2.2
  have HNB := Lib.hid (And.intro nBL nBW)
  clear g0 k0 g1 k1 g2 k2 g3 k3 g4 k4 g5 k5 g6 k6 g7 k7 g8 k8 g9 k9 hw5 h5 hr5 q1 q2 n1' n2' nBL nBW
  go_wp2
  go_loopg [8, 9] nw (fun gg v8 v9 wr => ∃ k : Nat, k + gg = nw ∧ v8 = .int .i64 k ∧ Aside (TwoAt w wr (lD n0 nw n2 bL' nL cL' bW' nW cW' off' ar' af' sd op') ∧ RefIn wr bL' bW' ((d.wear i).part i f k)))
  case atStart => exact ⟨0, by omega, rfl, H5.out.1, by rw [part_zero]; exact H5.out.2⟩
  case round =>
    obtain ⟨k, hkg, rfl, HR⟩ := hrel
    have hx := HR.out.1.x
    have hy := HR.out.1.y
    rw [hB] at hx hy
    clear c1 c8
    cases gk with
    | zero =>
      obtain rfl : k = nw := by omega
      have c0 := hx.cell 0 _ rfl; have c1 := hx.cell 1 _ rfl; have c2 := hx.cell 2 _ rfl; have c3 := hx.cell 3 _ rfl; have c4 := hx.cell 4 _ rfl; have c5 := hx.cell 5 _ rfl; have c6 := hx.cell 6 _ rfl; have c7 := hx.cell 7 _ rfl; have c8 := hx.cell 8 _ rfl; have c9 := hx.cell 9 _ rfl; have y0 := hy.cell 0 _ rfl; have y1 := hy.cell 1 _ rfl; have y2 := hy.cell 2 _ rfl; have y3 := hy.cell 3 _ rfl; have y4 := hy.cell 4 _ rfl; have y5 := hy.cell 5 _ rfl; have y6 := hy.cell 6 _ rfl; have y7 := hy.cell 7 _ rfl; have y8 := hy.cell 8 _ rfl; have y9 := hy.cell 9 _ rfl; have z0 := hy.fr 0; have z1 := hy.fr 1; have z2 := hy.fr 2; have z3 := hy.fr 3; have z4 := hy.fr 4; have z5 := hy.fr 5; have z6 := hy.fr 6; have z7 := hy.fr 7; have z8 := hy.fr 8; have z9 := hy.fr 9
      clear hx hy
      go_wp2
      have hL := HNB.out.1
      have hW := HNB.out.2
      refine ⟨rfl, .tuple #[vD n0 k n2 bL' nL cL' bW' nW cW' off' ar' af' sd op', .int .i64 0], ?_, bL', cL', bW', cW', rfl, ?_, by omega, by omega, HCAP.out, ?_⟩
      · simp [results, Try.results93, go_sem, *]
      · refine HR.out.2.keep (T := fun j => j = B + 1) ?_ (by omega) (by omega)
        repeat' (first | (with_reducible exact Ch.refl _ _) | refine Ch.setCell ?_ _ _ ?_)
        all_goals exact .inl rfl
      · have hb := HR.out.1.b
        rw [hB] at hb
        repeat' (first | (with_reducible exact hb) | refine Below.setCell ?_ ?_ _)
        all_goals exact Nat.le_succ B
    | succ g1 =>
      have hk : k < nw := by omega
      have c1 := hx.cell 1 _ rfl
      have c3 := hx.cell 3 _ rfl
      obtain ⟨tt, htt⟩ : ∃ tt, m + k = tt := ⟨_, rfl⟩
      have m2 := wrap_nat ((m : Int) + (k : Int)) tt (by omega) (by have := HI.out.2.2.2.2.2.2; have := HI.out.2.2.2.2.2.1; omega)
      have tl : tt < nL := by
        have := flat_lt d.ns d.nw i k HI.out.1 (by rw [HI.out.2.1]; exact hk)
        rw [← HI.out.2.2.2.2.1, HI.out.2.1, HI.out.2.2.2.1, htt] at this
        exact this
      have q0 : (0 : Int) ≤ (tt : Int) := by omega
      have q1 : (tt : Int) < (nL : Int) := by omega
      have q2 := HR.out.2.cl i k HI.out.1 (by show k < d.nw; rw [HI.out.2.1]; exact hk)
      have q3 := HR.out.2.fl (i * d.nw + k) (by show i * d.nw + k < d.ns * d.nw; exact flat_lt _ _ _ _ HI.out.1 (by rw [HI.out.2.1]; exact hk))
      have eidx : i * ((d.wear i).part i f k).nw + k = tt := by show i * d.nw + k = tt; rw [HI.out.2.1, HI.out.2.2.2.1, htt]
      rw [eidx] at q2
      rw [show i * d.nw + k = tt from eidx] at q3
      have HK := Lib.hid (And.intro hk eidx)
      have hk2 : (k : Int) < (nw : Int) := by omega
      have kz := HI.out.2.2.2.2.2.1
      clear hx hy eidx htt
      go_wp2
      go_roundg g1
      case measure => omega
      case rel =>
        have hL := HNB.out.1
        have hs := HR.out.2.setW i k (f k) HI.out.1 (by show k < d.nw; rw [HI.out.2.1]; exact HK.out.1)
        rw [HK.out.2, part_succ] at hs
        refine ⟨k + 1, by omega, by go_num, ?_, by rw [← hF k]; exact hs⟩
        exact HR.out.1.other ⟨bL', tt, none⟩ _ (by rw [hB]; show bL' ≠ B; omega) (by rw [hB]; show bL' ≠ B + 1; omega) (by rw [hB]; show B ≤ bL'; omega)

end Go.Proofs.Ythpagbfabpfngaa
/- The contract of the reference's Erase, letter by letter: a sector is erased. -/
namespace Go.Proofs.Ythpagbfabpfngaa
open Go.RowKit
variable {n0 n2 : Int} {bL nL cL bW nW cW : Nat} {off ar : Bool} {af sd op : Int}
set_option maxHeartbeats 1000000 in
theorem eraseV_cut (w : World) (d : Dev) (i nw m : Nat) (wn : Int) (off' ar' : Bool) (af' op' : Int) (f : Nat → BitVec 32) (h1 : (i : Int) < n0) (hi : i < nW) (hnw : d.nw = nw) (hm : i * nw = m) (m1 : IntKind.i64.wrap ((i : Int) * (nw : Int)) = (m : Int)) (hmm : m ≤ 70000) (hL : nL = d.ns * d.nw) (hz : nw ≤ 1024 ∧ 0 < nw)
    (hr : RefIn w bL bW d) (hi1 : i < d.ns) (hwn : d.worn i = wn) (hl : ¬ n2 ≤ wn) (hw1 : IntKind.i64.wrap (wn + 1) = wn + 1)
    (hcp : ∀ w2, RefIn w2 bL bW d → Calls Try.prog 113 #[vD n0 nw n2 bL nL cL bW nW cW false ar af sd op] w2 fun e w' => ∃ bL' cL' bW' cW', e = .returned (vD n0 nw n2 bL' nL cL' bW' nW cW' false ar af sd op) ∧ RefIn w' bL' bW' d ∧ w2.heap.size ≤ bL' ∧ w2.heap.size ≤ bW' ∧ nL ≤ cL' ∧ Below w2.heap.size w2 w')
    (hgo : ∀ bL cL bW cW w2, Calls Try.prog 114 #[vD n0 nw n2 bL nL cL bW nW cW false ar af sd op] w2 fun e w' => e = .returned (.tuple #[vD n0 nw n2 bL nL cL bW nW cW off' ar' af' sd op', .bool true]) ∧ Below w2.heap.size w2 w')
    (SD M : BitVec 32) (hn5 : nw ≤ 500) (hsd : sd = w32 SD) (hM : Go.Proofs.Ythpagbfabpfngaa.sd SD = M) (hF : ∀ k, f k = d.word i k ||| it M k) :
    Calls Try.prog 93 #[vD n0 nw n2 bL nL cL bW nW cW false ar af sd op, .int .i64 i] w fun e w' =>
    ∃ bL' cL' bW' cW', e = .returned (.tuple #[vD n0 nw n2 bL' nL cL' bW' nW cW' off' ar' af' sd op', .int .i64 63]) ∧ RefIn w' bL' bW' ((d.wear i).part i f nw) ∧ w.heap.size ≤ bL' ∧ w.heap.size ≤ bW' ∧ nL ≤ cL' ∧ Below w.heap.size w w' := by
  subst hsd
  have HM := Lib.hid hM
  have HF := Lib.hid hF
  have HN5 := Lib.hid hn5
  clear hM hF hn5
  have HT := Lib.hid (TwoAt.start w n0 nw n2 bL nL cL bW nW cW false ar af (w32 SD) op)
  have HC := Lib.hid (fun (w2 : World) (hb : Below w.heap.size w w2) => hr.new hb)
  have HCP := Lib.hid hcp
  have HGO := Lib.hid hgo
  have HI := Lib.hid (And.intro hi1 (And.intro hnw (And.intro hwn (And.intro hm (And.intro hL (And.intro hz hmm))))))
  have hc := (HC.out _ HT.out.b).cw i hi1
  rw [hwn] at hc
  have h0 : ¬ (i : Int) < 0 := by omega
  have h2 : ¬ n0 ≤ (i : Int) := by omega
  have t0 : (0 : Int) ≤ (i : Int) := by omega
  have t1 : (i : Int) < (nW : Int) := by omega
  have b1 : ¬ bW = w.heap.size := by have := hr.ltW; omega
  have b2 : ¬ bW = w.heap.size + 1 := by have := hr.ltW; omega
  obtain ⟨B, hB⟩ : ∃ B, w.heap.size = B := ⟨_, rfl⟩
  rw [hB] at b1 b2
  have HTl := HT.out.x.lt
  have HTL := Lib.hid HT.out.y.lt
  clear hr hcp hgo hi1 hnw hwn hm hmm hL hz hi HTl
  go_enter Try.func93, Try.ntmps93
  rw [hB]
  go_wp2
  go_quiet (fail)
  go_upto_region 8 with (first
    | (go_at_call 113; go_must (
        refine (HCP.out _ (HC.out _ (below_dn HT.out.b _))).mono ?_
        rintro e w2 ⟨bL', cL', bW', cW', rfl, hr2, hb2L, hb2W, hcap2, hb2⟩
        have HCAP := Lib.hid hcap2
        clear hcap2
        have h2 := HT.out.new ((below_dn (Below.refl _ _) _).trans hb2)
        have hlt := HTL.out
        rw [hB] at hlt
        have hb2L' := Nat.lt_of_lt_of_le hlt hb2L
        have hb2W' := Nat.lt_of_lt_of_le hlt hb2W
        have H2 := Lib.hid (And.intro h2 (And.intro hr2 (And.intro hb2L' hb2W')))
        obtain ⟨x2, y2, b2⟩ := h2; rw [hB] at x2
        have g0 := x2.cell 0 _ rfl; have g1 := x2.cell 1 _ rfl; have g2 := x2.cell 2 _ rfl; have g3 := x2.cell 3 _ rfl; have g4 := x2.cell 4 _ rfl; have g5 := x2.cell 5 _ rfl; have g6 := x2.cell 6 _ rfl; have g7 := x2.cell 7 _ rfl; have g8 := x2.cell 8 _ rfl; have g9 := x2.cell 9 _ rfl; have h0 := x2.fr 0; have h1 := x2.fr 1; have h2 := x2.fr 2; have h3 := x2.fr 3; have h4 := x2.fr 4; have h5 := x2.fr 5; have h6 := x2.fr 6; have h7 := x2.fr 7; have h8 := x2.fr 8; have h9 := x2.fr 9
        clear hr2 hb2L hb2W hb2 x2 y2 b2 hlt hb2L' hb2W'))
    | fail)
  have h3 := H2.out.1.put rfl (.int .i64 n0) (.int .i64 nw) (.int .i64 n2) (.slice (some ⟨bL', 0, none⟩) nL cL') (.slice (some ⟨bW', 0, none⟩) nW cW') (.bool false) (.bool ar) (.int .i64 af) (.int .u32 (w32 SD)) (.int .i64 op)
  have hr3 := H2.out.2.1.keep (ch_put w2 B (.int .i64 n0) (.int .i64 nw) (.int .i64 n2) (.slice (some ⟨bL', 0, none⟩) nL cL') (.slice (some ⟨bW', 0, none⟩) nW cW') (.bool false) (.bool ar) (.int .i64 af) (.int .u32 (w32 SD)) (.int .i64 op)) (by have := H2.out.2.2.1; omega) (by have := H2.out.2.2.2; omega)
  rw [hB] at h3
  generalize hw3 : World.setCell _ _ _ = w3 at h3 hr3 ⊢
  have q1 := hr3.cw i HI.out.1
  have q2 := hr3.fw i HI.out.1
  rw [HI.out.2.2.1] at q1
  have H3 := Lib.hid (And.intro h3 hr3)
  obtain ⟨x3, y3, b3⟩ := h3
  rw [hB] at x3
  clear g0 h0 g1 h1 g2 h2 g3 h3 g4 h4 g5 h5 g6 h6 g7 h7 g8 h8 g9 h9 hw3 hc
  have c0 := x3.cell 0 _ rfl; have c1 := x3.cell 1 _ rfl; have c2 := x3.cell 2 _ rfl; have c3 := x3.cell 3 _ rfl; have c4 := x3.cell 4 _ rfl; have c5 := x3.cell 5 _ rfl; have c6 := x3.cell 6 _ rfl; have c7 := x3.cell 7 _ rfl; have c8 := x3.cell 8 _ rfl; have c9 := x3.cell 9 _ rfl
  have n1' : ¬ bW' = B := by have := H2.out.2.2.2; omega
  have n2' : ¬ B = bW' := by have := H2.out.2.2.2; omega
  clear x3 y3 b3 hr3
  go_upto_region 11 with (first
    | (go_at_call 114; go_must (
        refine (HGO.out _ _ _ _ _).mono ?_
        rintro e w4 ⟨rfl, hb4⟩
        have h4 := (H3.out.1.other ⟨bW', i, none⟩ (.int .i64 (wn + 1)) (by rw [hB]; exact n1') (by rw [hB]; have := H2.out.2.2.2; show bW' ≠ B + 1; omega) (by rw [hB]; have := H2.out.2.2.2; show B ≤ bW'; omega)).new hb4
        have hr4 := H3.out.2.setWorn i HI.out.1
        rw [HI.out.2.2.1] at hr4
        have hr4 := hr4.new hb4
        have H4 := Lib.hid (And.intro h4 hr4)
        obtain ⟨x4, y4, b4⟩ := h4; rw [hB] at x4
        clear c0 c1 c2 c3 c4 c5 c6 c7 c8 c9
        have g0 := x4.cell 0 _ rfl; have g1 := x4.cell 1 _ rfl; have g2 := x4.cell 2 _ rfl; have g3 := x4.cell 3 _ rfl; have g4 := x4.cell 4 _ rfl; have g5 := x4.cell 5 _ rfl; have g6 := x4.cell 6 _ rfl; have g7 := x4.cell 7 _ rfl; have g8 := x4.cell 8 _ rfl; have g9 := x4.cell 9 _ rfl; have k0 := x4.fr 0; have k1 := x4.fr 1; have k2 := x4.fr 2; have k3 := x4.fr 3; have k4 := x4.fr 4; have k5 := x4.fr 5; have k6 := x4.fr 6; have k7 := x4.fr 7; have k8 := x4.fr 8; have k9 := x4.fr 9
        clear hr4 x4 y4 b4 hb4))
    | fail)
  have h5 := H4.out.1.put rfl (.int .i64 n0) (.int .i64 nw) (.int .i64 n2) (.slice (some ⟨bL', 0, none⟩) nL cL') (.slice (some ⟨bW', 0, none⟩) nW cW') (.bool off') (.bool ar') (.int .i64 af') (.int .u32 (w32 SD)) (.int .i64 op')
  have hr5 := H4.out.2.keep (ch_put w4 B (.int .i64 n0) (.int .i64 nw) (.int .i64 n2) (.slice (some ⟨bL', 0, none⟩) nL cL') (.slice (some ⟨bW', 0, none⟩) nW cW') (.bool off') (.bool ar') (.int .i64 af') (.int .u32 (w32 SD)) (.int .i64 op')) (by have := H2.out.2.2.1; omega) (by have := H2.out.2.2.2; omega)
  rw [hB] at h5
  generalize hw5 : World.setCell _ _ _ = w5 at h5 hr5 ⊢
  have H5 := Lib.hid (And.intro h5 hr5)
  have c1 := h5.x.cell 1 _ rfl
  have c8 := h5.x.cell 8 _ rfl
  rw [hB] at c1 c8
  have nBL : B + 1 < bL' := H2.out.2.2.1
  have nBW : B + 1 < bW' := H2.out.2.2.2
  have HNB := Lib.hid (And.intro nBL nBW)
  clear g0 k0 g1 k1 g2 k2 g3 k3 g4 k4 g5 k5 g6 k6 g7 k7 g8 k8 g9 k9 hw5 h5 hr5 q1 q2 n1' n2' nBL nBW
  go_upto_region 14 with (first
    | (go_at_call 116; go_must (
        refine (refmasks_any SD nw (by have := HN5.out; omega) _).mono ?_
        rintro e w6 ⟨v6, rfl, ho6, hb6⟩
        rw [Int.toNat_natCast] at ho6
        obtain ⟨g6, k6, rfl, h6a, h6b⟩ := own_some ho6 HI.out.2.2.2.2.2.1.2
        have hx6 := H5.out.1.new hb6
        have hr6 := H5.out.2.new hb6
        have hg6 : ∀ j, j < nw → w6.cell? ⟨g6, j, none⟩ = some (.int .u32 (w32 (it M j))) := fun j hj => by
          rw [ho6.cellAt j (by omega)]
          unfold rowB
          rw [List.getElem?_map, ms_at _ _ _ hj, HM.out]; rfl
        have HG := Lib.hid (And.intro hg6 (Nat.lt_of_lt_of_le H5.out.2.ltL h6a))
        have H6 := Lib.hid (And.intro hx6 hr6)
        have c1 := hx6.x.cell 1 _ rfl
        rw [hB] at c1
        clear ho6 hb6 h6a h6b hx6 hr6 hg6))
    | fail)
  go_wp2
  go_loopg [8, 9] nw (fun gg v8 v9 wr => ∃ k : Nat, k + gg = nw ∧ v8 = .int .i64 k ∧ Aside (TwoAt w wr (lD n0 nw n2 bL' nL cL' bW' nW cW' off' ar' af' (w32 SD) op') ∧ RefIn wr bL' bW' ((d.wear i).part i f k) ∧ ∀ j, j < nw → wr.cell? ⟨g6, j, none⟩ = some (.int .u32 (w32 (it M j)))))
  case atStart => exact ⟨0, by omega, rfl, H6.out.1, by rw [part_zero]; exact H6.out.2, HG.out.1⟩
  case round =>
    obtain ⟨k, hkg, rfl, HR⟩ := hrel
    have hx := HR.out.1.x
    have hy := HR.out.1.y
    rw [hB] at hx hy
    clear c1
    cases gk with
    | zero =>
      obtain rfl : k = nw := by omega
      have c0 := hx.cell 0 _ rfl; have c1 := hx.cell 1 _ rfl; have c2 := hx.cell 2 _ rfl; have c3 := hx.cell 3 _ rfl; have c4 := hx.cell 4 _ rfl; have c5 := hx.cell 5 _ rfl; have c6 := hx.cell 6 _ rfl; have c7 := hx.cell 7 _ rfl; have c8 := hx.cell 8 _ rfl; have c9 := hx.cell 9 _ rfl; have y0 := hy.cell 0 _ rfl; have y1 := hy.cell 1 _ rfl; have y2 := hy.cell 2 _ rfl; have y3 := hy.cell 3 _ rfl; have y4 := hy.cell 4 _ rfl; have y5 := hy.cell 5 _ rfl; have y6 := hy.cell 6 _ rfl; have y7 := hy.cell 7 _ rfl; have y8 := hy.cell 8 _ rfl; have y9 := hy.cell 9 _ rfl; have z0 := hy.fr 0; have z1 := hy.fr 1; have z2 := hy.fr 2; have z3 := hy.fr 3; have z4 := hy.fr 4; have z5 := hy.fr 5; have z6 := hy.fr 6; have z7 := hy.fr 7; have z8 := hy.fr 8; have z9 := hy.fr 9
      clear hx hy
      go_wp2
      have hL := HNB.out.1
      have hW := HNB.out.2
      refine ⟨rfl, .tuple #[vD n0 k n2 bL' nL cL' bW' nW cW' off' ar' af' (w32 SD) op', .int .i64 63], ?_, bL', cL', bW', cW', rfl, ?_, by omega, by omega, HCAP.out, ?_⟩
      · simp [results, Try.results93, go_sem, *]
      · refine HR.out.2.1.keep (T := fun j => j = B + 1) ?_ (by omega) (by omega)
        repeat' (first | (with_reducible exact Ch.refl _ _) | refine Ch.setCell ?_ _ _ ?_)
        all_goals exact .inl rfl
      · have hb := HR.out.1.b
        rw [hB] at hb
        repeat' (first | (with_reducible exact hb) | refine Below.setCell ?_ ?_ _)
        all_goals exact Nat.le_succ B
    | succ g1 =>
      have hk : k < nw := by omega
      have c1 := hx.cell 1 _ rfl
      have c3 := hx.cell 3 _ rfl
      obtain ⟨tt, htt⟩ : ∃ tt, m + k = tt := ⟨_, rfl⟩
      have m2 := wrap_nat ((m : Int) + (k : Int)) tt (by omega) (by have := HI.out.2.2.2.2.2.2; have := HI.out.2.2.2.2.2.1; omega)
      have tl : tt < nL := by
        have := flat_lt d.ns d.nw i k HI.out.1 (by rw [HI.out.2.1]; exact hk)
        rw [← HI.out.2.2.2.2.1, HI.out.2.1, HI.out.2.2.2.1, htt] at this
        exact this
      have q0 : (0 : Int) ≤ (tt : Int) := by omega
      have q1 : (tt : Int) < (nL : Int) := by omega
      have q2 := HR.out.2.1.cl i k HI.out.1 (by show k < d.nw; rw [HI.out.2.1]; exact hk)
      have q3 := HR.out.2.1.fl (i * d.nw + k) (by show i * d.nw + k < d.ns * d.nw; exact flat_lt _ _ _ _ HI.out.1 (by rw [HI.out.2.1]; exact hk))
      have eidx : i * ((d.wear i).part i f k).nw + k = tt := by show i * d.nw + k = tt; rw [HI.out.2.1, HI.out.2.2.2.1, htt]
      rw [eidx] at q2
      rw [show i * d.nw + k = tt from eidx] at q3
      have HK := Lib.hid (And.intro hk eidx)
      have hk2 : (k : Int) < (nw : Int) := by omega
      have kz := HI.out.2.2.2.2.2.1
      clear hx hy eidx htt
      have q4 := HR.out.2.2 k hk
      rw [show ((d.wear i).part i f k).word i k = d.word i k from if_neg (fun e => Nat.lt_irrefl _ e.2)] at q2
      obtain ⟨Y, hY⟩ : ∃ Y, d.word i k = Y := ⟨_, rfl⟩
      obtain ⟨MK, hMK⟩ : ∃ MK, it M k = MK := ⟨_, rfl⟩
      have HZ := Lib.hid (show pre (risesP Y MK) 32 = f k from by rw [HF.out k, hY, hMK]; exact (rises_eq _ _).symm)
      rw [hY] at q2
      rw [hMK] at q4
      have nb1 := HNB.out.1
      have nb2 := HG.out.2
      have nn1 : ¬ bL' = B := by omega
      have nn2 : ¬ bL' = g6 := by omega
      have nn3 : ¬ g6 = bL' := by omega
      have nn4 : ¬ B = bL' := by omega
      clear hY hMK nb1 nb2
      go_wp2
      refine wp_region_g (fun w' => w'.cell? ⟨B, 3, none⟩ = some (.slice (some ⟨bL', 0, none⟩) nL cL') ∧ w'.cell? ⟨bL', tt, none⟩ = some (.int .u32 (w32 Y)) ∧ w'.cell? ⟨g6, k, none⟩ = some (.int .u32 (w32 MK))) 14 (by kernel_rfl) ⟨c3, q2, q4⟩ (fun hS => ?_)
      refine wpAnyG_take (i := 0) (oi := { dst := some 64, op := .fieldAddr 28 (.tmp 2) 3, type := 0, pos := "ref.go:123", after := #[], guard := none }) (v := ?_) rfl (by kernel_rfl) (by kernel_rfl) (by kernel_rfl) (by kernel_rfl) (fun _ _ _ h => h) (Or.inl ⟨by rfl, ?_⟩) hS ?_
      rotate_left 1
      · intro w hw; obtain ⟨s0, s1, s2⟩ := hw; go_simp; try (with_reducible rfl)
      simp only [Act.put, List.setIfInBounds_toArray, List.set_cons_zero, List.set_cons_succ]
      refine wpAnyG_take (i := 1) (oi := { dst := some 65, op := .load 24 (.tmp 64), type := 24, pos := "ref.go:123", after := #[{ on := 0, ground := .data }], guard := none }) (v := ?_) rfl (by kernel_rfl) (by kernel_rfl) (by kernel_rfl) (by kernel_rfl) (fun _ _ _ h => h) (Or.inl ⟨by rfl, ?_⟩) hS ?_
      rotate_left 1
      · intro w hw; obtain ⟨s0, s1, s2⟩ := hw; go_simp; try (with_reducible rfl)
      simp only [Act.put, List.setIfInBounds_toArray, List.set_cons_zero, List.set_cons_succ]
      refine wpAnyG_take (i := 2) (oi := { dst := some 66, op := .move (.tmp 9), type := 3, pos := "ref.go:123", after := #[], guard := none }) (v := ?_) rfl (by kernel_rfl) (by kernel_rfl) (by kernel_rfl) (by kernel_rfl) (fun _ _ _ h => h) (Or.inl ⟨by rfl, ?_⟩) hS ?_
      rotate_left 1
      · intro w hw; obtain ⟨s0, s1, s2⟩ := hw; go_simp; try (with_reducible rfl)
      simp only [Act.put, List.setIfInBounds_toArray, List.set_cons_zero, List.set_cons_succ]
      refine wpAnyG_take (i := 3) (oi := { dst := some 67, op := .fieldAddr 28 (.tmp 2) 3, type := 0, pos := "ref.go:123", after := #[], guard := none }) (v := ?_) rfl (by kernel_rfl) (by kernel_rfl) (by kernel_rfl) (by kernel_rfl) (fun _ _ _ h => h) (Or.inl ⟨by rfl, ?_⟩) hS ?_
      rotate_left 1
      · intro w hw; obtain ⟨s0, s1, s2⟩ := hw; go_simp; try (with_reducible rfl)
      simp only [Act.put, List.setIfInBounds_toArray, List.set_cons_zero, List.set_cons_succ]
      refine wpAnyG_take (i := 4) (oi := { dst := some 68, op := .load 24 (.tmp 67), type := 24, pos := "ref.go:123", after := #[{ on := 3, ground := .data }], guard := none }) (v := ?_) rfl (by kernel_rfl) (by kernel_rfl) (by kernel_rfl) (by kernel_rfl) (fun _ _ _ h => h) (Or.inl ⟨by rfl, ?_⟩) hS ?_
      rotate_left 1
      · intro w hw; obtain ⟨s0, s1, s2⟩ := hw; go_simp; try (with_reducible rfl)
      simp only [Act.put, List.setIfInBounds_toArray, List.set_cons_zero, List.set_cons_succ]
      refine wpAnyG_take (i := 5) (oi := { dst := some 69, op := .move (.tmp 9), type := 3, pos := "ref.go:123", after := #[], guard := none }) (v := ?_) rfl (by kernel_rfl) (by kernel_rfl) (by kernel_rfl) (by kernel_rfl) (fun _ _ _ h => h) (Or.inl ⟨by rfl, ?_⟩) hS ?_
      rotate_left 1
      · intro w hw; obtain ⟨s0, s1, s2⟩ := hw; go_simp; try (with_reducible rfl)
      simp only [Act.put, List.setIfInBounds_toArray, List.set_cons_zero, List.set_cons_succ]
      refine wpAnyG_take (i := 6) (oi := { dst := some 70, op := .indexAddr 24 (.tmp 68) (.tmp 69), type := 0, pos := "ref.go:123", after := #[{ on := 4, ground := .data }, { on := 5, ground := .data }], guard := none }) (v := ?_) rfl (by kernel_rfl) (by kernel_rfl) (by kernel_rfl) (by kernel_rfl) (fun _ _ _ h => h) (Or.inl ⟨by rfl, ?_⟩) hS ?_
      rotate_left 1
      · intro w hw; obtain ⟨s0, s1, s2⟩ := hw; go_simp; try (with_reducible rfl)
      simp only [Act.put, List.setIfInBounds_toArray, List.set_cons_zero, List.set_cons_succ]
      refine wpAnyG_take (i := 7) (oi := { dst := some 71, op := .load 26 (.tmp 70), type := 26, pos := "ref.go:123", after := #[{ on := 6, ground := .data }], guard := none }) (v := ?_) rfl (by kernel_rfl) (by kernel_rfl) (by kernel_rfl) (by kernel_rfl) (fun _ _ _ h => h) (Or.inl ⟨by rfl, ?_⟩) hS ?_
      rotate_left 1
      · intro w hw; obtain ⟨s0, s1, s2⟩ := hw; go_simp; try (with_reducible rfl)
      simp only [Act.put, List.setIfInBounds_toArray, List.set_cons_zero, List.set_cons_succ]
      refine wpAnyG_take (i := 8) (oi := { dst := some 72, op := .move (.tmp 7), type := 24, pos := "ref.go:123", after := #[], guard := none }) (v := ?_) rfl (by kernel_rfl) (by kernel_rfl) (by kernel_rfl) (by kernel_rfl) (fun _ _ _ h => h) (Or.inl ⟨by rfl, ?_⟩) hS ?_
      rotate_left 1
      · intro w hw; obtain ⟨s0, s1, s2⟩ := hw; go_simp; try (with_reducible rfl)
      simp only [Act.put, List.setIfInBounds_toArray, List.set_cons_zero, List.set_cons_succ]
      refine wpAnyG_take (i := 9) (oi := { dst := some 73, op := .move (.tmp 8), type := 3, pos := "ref.go:123", after := #[], guard := none }) (v := ?_) rfl (by kernel_rfl) (by kernel_rfl) (by kernel_rfl) (by kernel_rfl) (fun _ _ _ h => h) (Or.inl ⟨by rfl, ?_⟩) hS ?_
      rotate_left 1
      · intro w hw; obtain ⟨s0, s1, s2⟩ := hw; go_simp; try (with_reducible rfl)
      simp only [Act.put, List.setIfInBounds_toArray, List.set_cons_zero, List.set_cons_succ]
      refine wpAnyG_take (i := 10) (oi := { dst := some 74, op := .indexAddr 24 (.tmp 72) (.tmp 73), type := 0, pos := "ref.go:123", after := #[{ on := 8, ground := .data }, { on := 9, ground := .data }], guard := none }) (v := ?_) rfl (by kernel_rfl) (by kernel_rfl) (by kernel_rfl) (by kernel_rfl) (fun _ _ _ h => h) (Or.inl ⟨by rfl, ?_⟩) hS ?_
      rotate_left 1
      · intro w hw; obtain ⟨s0, s1, s2⟩ := hw; go_simp; try (with_reducible rfl)
      simp only [Act.put, List.setIfInBounds_toArray, List.set_cons_zero, List.set_cons_succ]
      refine wpAnyG_take (i := 11) (oi := { dst := some 75, op := .load 26 (.tmp 74), type := 26, pos := "ref.go:123", after := #[{ on := 10, ground := .data }], guard := none }) (v := ?_) rfl (by kernel_rfl) (by kernel_rfl) (by kernel_rfl) (by kernel_rfl) (fun _ _ _ h => h) (Or.inl ⟨by rfl, ?_⟩) hS ?_
      rotate_left 1
      · intro w hw; obtain ⟨s0, s1, s2⟩ := hw; go_simp; try (with_reducible rfl)
      simp only [Act.put, List.setIfInBounds_toArray, List.set_cons_zero, List.set_cons_succ]
      refine wpAnyG_ready (rs := [12]) (by kernel_rfl) (by simp) (AllReadyG.cons (o := { dst := some 76, op := .call { callee := .value (.func 117), args := #[.tmp 71, .tmp 75], argTypes := #[26, 26] }, type := 26, pos := "ref.go:123", after := #[{ on := 7, ground := .data }, { on := 11, ground := .data }], guard := none }) rfl (fun K hK => ?_) AllReadyG.nil)
      go_simp
      refine (refrises_any Y MK _).mono ?_
      rintro e w6 ⟨rfl, rfl⟩
      rw [HZ.out]
      dsimp only
      refine hK.out _ _ hS (fun hHeld => ?_)
      clear hK K
      try simp only [Act.put, List.setIfInBounds_toArray, List.set_cons_zero, List.set_cons_succ]
      refine wpAnyG_take (i := 13) (oi := { dst := some 77, op := .indexAddr 24 (.tmp 65) (.tmp 66), type := 0, pos := "ref.go:123", after := #[{ on := 1, ground := .data }, { on := 2, ground := .data }, { on := 0, ground := .phase }, { on := 1, ground := .phase }, { on := 2, ground := .phase }, { on := 3, ground := .phase }, { on := 4, ground := .phase }, { on := 5, ground := .phase }, { on := 6, ground := .phase }, { on := 7, ground := .phase }, { on := 8, ground := .phase }, { on := 9, ground := .phase }, { on := 10, ground := .phase }, { on := 11, ground := .phase }, { on := 12, ground := .phase }], guard := none }) (v := ?_) rfl (by kernel_rfl) (by kernel_rfl) (by kernel_rfl) (by kernel_rfl) (fun _ _ _ h => h) (Or.inl ⟨by rfl, ?_⟩) hS ?_
      rotate_left 1
      · intro w hw; obtain ⟨s0, s1, s2⟩ := hw; go_simp; try (with_reducible rfl)
      simp only [Act.put, List.setIfInBounds_toArray, List.set_cons_zero, List.set_cons_succ]
      refine wpAnyG_ready (rs := [14]) (by kernel_rfl) (by simp) (AllReadyG.last (o := { dst := none, op := .store 26 (.tmp 77) (.tmp 76), type := 0, pos := "ref.go:123", after := #[{ on := 13, ground := .data }, { on := 12, ground := .data }, { on := 12, ground := .chain }, { on := 0, ground := .phase }, { on := 1, ground := .phase }, { on := 2, ground := .phase }, { on := 3, ground := .phase }, { on := 4, ground := .phase }, { on := 5, ground := .phase }, { on := 6, ground := .phase }, { on := 7, ground := .phase }, { on := 8, ground := .phase }, { on := 9, ground := .phase }, { on := 10, ground := .phase }, { on := 11, ground := .phase }, { on := 12, ground := .phase }], guard := none }) rfl (fun K hK => ?_))
      go_simp
      refine hK.out _ _ ?_
      clear hK K
      try simp only [Act.put, List.setIfInBounds_toArray, List.set_cons_zero, List.set_cons_succ]
      refine wpAnyG_done (by kernel_rfl) ?_ _
      go_wp2
      go_roundg g1
      case measure => omega
      case rel =>
        have hL := HNB.out.1
        have hs := HR.out.2.1.setW i k (f k) HI.out.1 (by show k < d.nw; rw [HI.out.2.1]; exact HK.out.1)
        rw [HK.out.2, part_succ] at hs
        refine ⟨k + 1, by omega, by go_num, ?_, hs.drewN 1, fun j hj => ?_⟩
        · have h7 := HR.out.1.other ⟨bL', tt, none⟩ (Value.int .u32 (w32 (f k))) (by rw [hB]; exact nn1) (by rw [hB]; show bL' ≠ B + 1; omega) (by rw [hB]; show B ≤ bL'; omega)
          exact h7.new (below_dn (Below.refl _ _) 1)
        · exact (World.cell?_setCell_other _ _ _ _ (fun e => nn2 (by injection e))).trans (HR.out.2.2 j hj)

end Go.Proofs.Ythpagbfabpfngaa
/- The contract of the reference's Erase: what it makes of a device. -/
namespace Go.Proofs.Ythpagbfabpfngaa
open Go.RowKit

theorem goes_seed (d : Dev) : d.goes.1.seed = d.seed := by unfold Dev.goes; split <;> (try split) <;> rfl
theorem readE_zero (d : Dev) (s : Int) (hz : 0 < d.nw) : d.readE s 0 = if d.on then (if d.has s then 0 else 60) else 63 := by
  unfold Dev.readE Dev.okK
  rw [show decide ((0 : Int) ≤ 0) = true from rfl, show decide ((0 : Int) < (d.nw : Int)) = true by simp; omega]
  simp
theorem eraseR_any {w : World} {bL bW : Nat} {d : Dev} (h : RefIn w bL bW d) (ho : d.okE) (h5 : d.nw ≤ 500) (cL cW : Nat) (hcL : d.ns * d.nw ≤ cL) (s : Int) :
    Calls Try.prog 93 #[refX bL cL bW cW d, .int .i64 s] w fun e w' =>
      RefOut w w' bL bW (d.erase s).1 (fun v => .tuple #[v, .int .i64 (d.erase s).2]) e := by
  have hz := h.zn
  have hE := readE_zero d s hz.2.2.2
  cases hon : d.on with
  | false =>
    rw [hon] at hE
    simp only [Bool.false_eq_true, if_false] at hE
    have hp : d.erase s = (d, 63) := by unfold Dev.erase; rw [hE]; rfl
    rw [hp]
    unfold RefOut refX refV
    rw [hon]
    refine (eraseV_off w s).mono ?_
    rintro e w' ⟨rfl, hb⟩
    exact ⟨bL, cL, bW, cW, by simp only []; rfl, h.new hb, .inl rfl, .inl rfl, hcL, hb⟩
  | true =>
    rw [hon] at hE
    cases hs : d.has s with
    | false =>
      rw [hs] at hE
      simp only [if_true, Bool.false_eq_true, if_false] at hE
      have hp : d.erase s = (d, 60) := by unfold Dev.erase; rw [hE]; rfl
      rw [hp]
      unfold RefOut refX refV
      rw [hon]
      refine (eraseV_no w s (by unfold Dev.has at hs; simp at hs; omega)).mono ?_
      rintro e w' ⟨rfl, hb⟩
      exact ⟨bL, cL, bW, cW, by simp only []; rfl, h.new hb, .inl rfl, .inl rfl, hcL, hb⟩
    | true =>
      rw [hs] at hE
      simp only [if_true] at hE
      unfold Dev.has at hs
      simp at hs
      obtain ⟨i, rfl⟩ : ∃ i : Nat, s = i := ⟨s.toNat, by omega⟩
      by_cases hl : d.limit ≤ d.worn i
      · have hp : d.erase i = (d, 62) := by unfold Dev.erase; rw [if_pos hE, if_pos (by rw [Int.toNat_natCast]; exact hl)]
        rw [hp]
        unfold RefOut refX refV
        rw [hon]
        refine (eraseV_worn w i (d.worn i) hs.2 (by omega) (h.cw i (by omega)) hl).mono ?_
        rintro e w' ⟨rfl, hb⟩
        exact ⟨bL, cL, bW, cW, by simp only []; rfl, h.new hb, .inl rfl, .inl rfl, hcL, hb⟩
      · have hcp := fun w2 (h2 : RefIn w2 bL bW d) => copyR_any h2 cL cW
        have hgo := fun bL cL bW cW w2 => goesR_any (d.wear i) bL cL bW cW (wear_ok ho.1 i) w2
        obtain ⟨g1, g2, g3, g4, g5⟩ := goes_same (d.wear i)
        have g6 := goes_seed (d.wear i)
        have w1 := ho.2.2 i
        have hlim := ho.2.1
        have hw1 : IntKind.i64.wrap (d.worn i + 1) = d.worn i + 1 := by rw [IntKind.wrap_i64]; omega
        have hm : i * d.nw ≤ 64 * 1024 := Nat.mul_le_mul (by omega) (by omega)
        have m1 := wrap_nat ((i : Int) * (d.nw : Int)) (i * d.nw) (by simp) (by omega)
        unfold refX refV at hcp hgo
        rw [hon] at hcp
        rw [g1, g2, g5, g6, show (d.wear i).on = true from hon] at hgo
        have e1 : ∀ f, ((d.wear i).goes.1.part i f d.nw).ns = ((d.wear i).part i f d.nw).ns := fun f => g1
        have e2 : ∀ f, ((d.wear i).goes.1.part i f d.nw).nw = ((d.wear i).part i f d.nw).nw := fun f => g2
        have e3 : ∀ f, ((d.wear i).goes.1.part i f d.nw).word = ((d.wear i).part i f d.nw).word := fun f => by
          show (fun a b => if a = i ∧ b < d.nw then f b else (d.wear i).goes.1.word a b) = _
          rw [g3]; rfl
        have e4 : ∀ f, ((d.wear i).goes.1.part i f d.nw).worn = ((d.wear i).part i f d.nw).worn := fun f => g4
        cases hcut : (d.wear i).goes.2 with
        | false =>
          rw [hcut] at hgo
          have hp : d.erase i = ((d.wear i).goes.1.part i (fun _ => 4294967295#32) d.nw, 0) := by
            unfold Dev.erase
            rw [if_pos hE, Int.toNat_natCast, if_neg hl, hcut]; rfl
          rw [hp]
          have hc := eraseV_ok (n0 := d.ns) (n2 := d.limit) (bL := bL) (nL := d.ns * d.nw) (cL := cL) (bW := bW) (nW := d.ns) (cW := cW) (ar := d.armed) (af := d.after) (sd := w32 d.seed) (op := d.ops) w d i d.nw _ _ (!(d.wear i).goes.1.on) (d.wear i).goes.1.armed (d.wear i).goes.1.after (d.wear i).goes.1.ops (fun _ => 4294967295#32) hs.2 (by omega) rfl rfl m1 (by omega) rfl ⟨hz.2.1, hz.2.2.2⟩ h (by omega) rfl hl hw1 hcp hgo (fun _ => rfl)
          unfold RefOut refX refV
          rw [hon]
          refine hc.mono ?_
          rintro e w' ⟨bL', cL', bW', cW', rfl, hr, h1, h2, h3, hb⟩
          refine ⟨bL', cL', bW', cW', ?_, hr.same (e1 _) (e2 _) (e3 _) (e4 _), .inr h1, .inr h2, by rw [e1, e2]; exact h3, hb⟩
          rw [e1, e2]
          show _ = Ending.returned (.tuple #[.agg #[_, _, .int .i64 (d.wear i).goes.1.limit, _, _, _, _, _, .int .u32 (w32 (d.wear i).goes.1.seed), _], _])
          rw [g5, g6]
          rfl
        | true =>
          rw [hcut] at hgo
          have hp : d.erase i = ((d.wear i).goes.1.part i (fun k => d.word i k ||| it (Go.Proofs.Ythpagbfabpfngaa.sd d.seed) k) d.nw, 63) := by
            unfold Dev.erase Dev.mask
            rw [if_pos hE, Int.toNat_natCast, if_neg hl, hcut]; rfl
          rw [hp]
          have hc := eraseV_cut (n0 := d.ns) (n2 := d.limit) (bL := bL) (nL := d.ns * d.nw) (cL := cL) (bW := bW) (nW := d.ns) (cW := cW) (ar := d.armed) (af := d.after) (sd := w32 d.seed) (op := d.ops) w d i d.nw _ _ (!(d.wear i).goes.1.on) (d.wear i).goes.1.armed (d.wear i).goes.1.after (d.wear i).goes.1.ops (fun k => d.word i k ||| it (Go.Proofs.Ythpagbfabpfngaa.sd d.seed) k) hs.2 (by omega) rfl rfl m1 (by omega) rfl ⟨hz.2.1, hz.2.2.2⟩ h (by omega) rfl hl hw1 hcp hgo d.seed _ h5 rfl rfl (fun _ => rfl)
          unfold RefOut refX refV
          rw [hon]
          refine hc.mono ?_
          rintro e w' ⟨bL', cL', bW', cW', rfl, hr, h1, h2, h3, hb⟩
          refine ⟨bL', cL', bW', cW', ?_, hr.same (e1 _) (e2 _) (e3 _) (e4 _), .inr h1, .inr h2, by rw [e1, e2]; exact h3, hb⟩
          rw [e1, e2]
          show _ = Ending.returned (.tuple #[.agg #[_, _, .int .i64 (d.wear i).goes.1.limit, _, _, _, _, _, .int .u32 (w32 (d.wear i).goes.1.seed), _], _])
          rw [g5, g6]
          rfl
end Go.Proofs.Ythpagbfabpfngaa
