/- The contract of the reference's Erase, letter by letter: a sector is erased. -/
import Derived.Test.YthpagbfabpfngaaFX
import Derived.Test.YthpagbfabpfngaaLast
import Derived.Deep.Cut
import Derived.Deep.CutRange
namespace Go.Proofs.Ythpagbfabpfngaa
open Go.RowKit
variable {n0 n2 : Int} {bL nL cL bW nW cW : Nat} {off ar : Bool} {af sd op : Int}
theorem TwoAt.other {w0 w : World} {l : List Value} (h : TwoAt w0 w l) (a : Addr) (v : Value) (h1 : a.block ≠ w0.heap.size) (h2 : a.block ≠ w0.heap.size + 1) (h3 : w0.heap.size ≤ a.block) : TwoAt w0 (w.setCell a v) l :=
  ⟨h.x.other a v h1, h.y.other a v h2, h.b.setCell h3 v⟩
set_option maxHeartbeats 1000000 in
theorem eraseV_ok (w : World) (d : Dev) (i nw m : Nat) (wn : Int) (off' ar' : Bool) (af' op' : Int) (f : Nat → BitVec 32) (h1 : (i : Int) < n0) (hi : i < nW) (hnw : d.nw = nw) (hm : i * nw = m) (m1 : IntKind.i64.wrap ((i : Int) * (nw : Int)) = (m : Int)) (hmm : m ≤ 70000) (hL : nL = d.ns * d.nw) (hz : nw ≤ 1024 ∧ 0 < nw)
    (hr : RefIn w bL bW d) (hi1 : i < d.ns) (hwn : d.worn i = wn) (hl : ¬ n2 ≤ wn) (hw1 : IntKind.i64.wrap (wn + 1) = wn + 1)
    (hcp : ∀ w2, RefIn w2 bL bW d → Calls Try.prog 113 #[vD n0 nw n2 bL nL cL bW nW cW false ar af sd op] w2 fun e w' => ∃ bL' cL' bW' cW', e = .returned (vD n0 nw n2 bL' nL cL' bW' nW cW' false ar af sd op) ∧ RefIn w' bL' bW' d ∧ w2.heap.size ≤ bL' ∧ w2.heap.size ≤ bW' ∧ Below w2.heap.size w2 w')
    (hgo : ∀ bL cL bW cW w2, Calls Try.prog 114 #[vD n0 nw n2 bL nL cL bW nW cW false ar af sd op] w2 fun e w' => e = .returned (.tuple #[vD n0 nw n2 bL nL cL bW nW cW off' ar' af' sd op', .bool false]) ∧ Below w2.heap.size w2 w')
    (hF : ∀ k, Value.int .u32 (w32 (f k)) = .int .u32 4294967295) :
    Calls Try.prog 93 #[vD n0 nw n2 bL nL cL bW nW cW false ar af sd op, .int .i64 i] w fun e w' =>
    ∃ bL' cL' bW' cW', e = .returned (.tuple #[vD n0 nw n2 bL' nL cL' bW' nW cW' off' ar' af' sd op', .int .i64 0]) ∧ RefIn w' bL' bW' ((d.wear i).part i f nw) ∧ w.heap.size ≤ bL' ∧ w.heap.size ≤ bW' ∧ Below w.heap.size w w' := by
  have HT := Lib.hid (TwoAt.start w n0 nw n2 bL nL cL bW nW cW false ar af sd op)
  have HC := Lib.hid (fun (w2 : World) (hb : Below w.heap.size w w2) => hr.new hb)
  have HCP := Lib.hid hcp
  have HGO := Lib.hid hgo
  have HI := Lib.hid (And.intro hi1 (And.intro hnw (And.intro hwn (And.intro hm (And.intro hL (And.intro hz hmm))))))
  have hc := (HC.out _ HT.out.b).cw i hi1
  rw [hwn] at hc
  have h0 : ¬ (i : Int) < 0 := by omega
  have h2 : ¬ n0 ≤ (i : Int) := by omega
  have t0 : (0 : Int) ≤ (i : Int) := by omega
  have t1 : (i : Int) < (nW : Int) := by omega
  have b1 : ¬ bW = w.heap.size := by have := hr.ltW; omega
  have b2 : ¬ bW = w.heap.size + 1 := by have := hr.ltW; omega
  obtain ⟨B, hB⟩ : ∃ B, w.heap.size = B := ⟨_, rfl⟩
  rw [hB] at b1 b2
  have HTl := HT.out.x.lt
  have HTL := Lib.hid HT.out.y.lt
  clear hr hcp hgo hi1 hnw hwn hm hmm hL hz hi HTl
  go_enter Try.func93, Try.ntmps93
  rw [hB]
  go_wp2
  go_quiet (fail)
  go_upto_region 8 with (first
    | (go_at_call 113; go_must (
        refine (HCP.out _ (HC.out _ (below_dn HT.out.b _))).mono ?_
        rintro e w2 ⟨bL', cL', bW', cW', rfl, hr2, hb2L, hb2W, hb2⟩
        have h2 := HT.out.new ((below_dn (Below.refl _ _) _).trans hb2)
        have hlt := HTL.out
        rw [hB] at hlt
        have hb2L' := Nat.lt_of_lt_of_le hlt hb2L
        have hb2W' := Nat.lt_of_lt_of_le hlt hb2W
        have H2 := Lib.hid (And.intro h2 (And.intro hr2 (And.intro hb2L' hb2W')))
        obtain ⟨x2, y2, b2⟩ := h2; rw [hB] at x2
        have g0 := x2.cell 0 _ rfl; have g1 := x2.cell 1 _ rfl; have g2 := x2.cell 2 _ rfl; have g3 := x2.cell 3 _ rfl; have g4 := x2.cell 4 _ rfl; have g5 := x2.cell 5 _ rfl; have g6 := x2.cell 6 _ rfl; have g7 := x2.cell 7 _ rfl; have g8 := x2.cell 8 _ rfl; have g9 := x2.cell 9 _ rfl; have h0 := x2.fr 0; have h1 := x2.fr 1; have h2 := x2.fr 2; have h3 := x2.fr 3; have h4 := x2.fr 4; have h5 := x2.fr 5; have h6 := x2.fr 6; have h7 := x2.fr 7; have h8 := x2.fr 8; have h9 := x2.fr 9
        clear hr2 hb2L hb2W hb2 x2 y2 b2 hlt hb2L' hb2W'))
    | fail)
  have h3 := H2.out.1.put rfl (.int .i64 n0) (.int .i64 nw) (.int .i64 n2) (.slice (some ⟨bL', 0, none⟩) nL cL') (.slice (some ⟨bW', 0, none⟩) nW cW') (.bool false) (.bool ar) (.int .i64 af) (.int .u32 sd) (.int .i64 op)
  have hr3 := H2.out.2.1.keep (ch_put w2 B (.int .i64 n0) (.int .i64 nw) (.int .i64 n2) (.slice (some ⟨bL', 0, none⟩) nL cL') (.slice (some ⟨bW', 0, none⟩) nW cW') (.bool false) (.bool ar) (.int .i64 af) (.int .u32 sd) (.int .i64 op)) (by have := H2.out.2.2.1; omega) (by have := H2.out.2.2.2; omega)
  rw [hB] at h3
  generalize hw3 : World.setCell _ _ _ = w3 at h3 hr3 ⊢
  have q1 := hr3.cw i HI.out.1
  have q2 := hr3.fw i HI.out.1
  rw [HI.out.2.2.1] at q1
  have H3 := Lib.hid (And.intro h3 hr3)
  obtain ⟨x3, y3, b3⟩ := h3
  rw [hB] at x3
  clear g0 h0 g1 h1 g2 h2 g3 h3 g4 h4 g5 h5 g6 h6 g7 h7 g8 h8 g9 h9 hw3 hc
  have c0 := x3.cell 0 _ rfl; have c1 := x3.cell 1 _ rfl; have c2 := x3.cell 2 _ rfl; have c3 := x3.cell 3 _ rfl; have c4 := x3.cell 4 _ rfl; have c5 := x3.cell 5 _ rfl; have c6 := x3.cell 6 _ rfl; have c7 := x3.cell 7 _ rfl; have c8 := x3.cell 8 _ rfl; have c9 := x3.cell 9 _ rfl
  have n1' : ¬ bW' = B := by have := H2.out.2.2.2; omega
  have n2' : ¬ B = bW' := by have := H2.out.2.2.2; omega
  clear x3 y3 b3 hr3
  go_upto_region 11 with (first
    | (go_at_call 114; go_must (
        refine (HGO.out _ _ _ _ _).mono ?_
        rintro e w4 ⟨rfl, hb4⟩
        have h4 := (H3.out.1.other ⟨bW', i, none⟩ (.int .i64 (wn + 1)) (by rw [hB]; exact n1') (by rw [hB]; have := H2.out.2.2.2; show bW' ≠ B + 1; omega) (by rw [hB]; have := H2.out.2.2.2; show B ≤ bW'; omega)).new hb4
        have hr4 := H3.out.2.setWorn i HI.out.1
        rw [HI.out.2.2.1] at hr4
        have hr4 := hr4.new hb4
        have H4 := Lib.hid (And.intro h4 hr4)
        obtain ⟨x4, y4, b4⟩ := h4; rw [hB] at x4
        clear c0 c1 c2 c3 c4 c5 c6 c7 c8 c9
        have g0 := x4.cell 0 _ rfl; have g1 := x4.cell 1 _ rfl; have g2 := x4.cell 2 _ rfl; have g3 := x4.cell 3 _ rfl; have g4 := x4.cell 4 _ rfl; have g5 := x4.cell 5 _ rfl; have g6 := x4.cell 6 _ rfl; have g7 := x4.cell 7 _ rfl; have g8 := x4.cell 8 _ rfl; have g9 := x4.cell 9 _ rfl; have k0 := x4.fr 0; have k1 := x4.fr 1; have k2 := x4.fr 2; have k3 := x4.fr 3; have k4 := x4.fr 4; have k5 := x4.fr 5; have k6 := x4.fr 6; have k7 := x4.fr 7; have k8 := x4.fr 8; have k9 := x4.fr 9
        clear hr4 x4 y4 b4 hb4))
    | fail)
  have h5 := H4.out.1.put rfl (.int .i64 n0) (.int .i64 nw) (.int .i64 n2) (.slice (some ⟨bL', 0, none⟩) nL cL') (.slice (some ⟨bW', 0, none⟩) nW cW') (.bool off') (.bool ar') (.int .i64 af') (.int .u32 sd) (.int .i64 op')
  have hr5 := H4.out.2.keep (ch_put w4 B (.int .i64 n0) (.int .i64 nw) (.int .i64 n2) (.slice (some ⟨bL', 0, none⟩) nL cL') (.slice (some ⟨bW', 0, none⟩) nW cW') (.bool off') (.bool ar') (.int .i64 af') (.int .u32 sd) (.int .i64 op')) (by have := H2.out.2.2.1; omega) (by have := H2.out.2.2.2; omega)
  rw [hB] at h5
  generalize hw5 : World.setCell _ _ _ = w5 at h5 hr5 ⊢
  have H5 := Lib.hid (And.intro h5 hr5)
  have c1 := h5.x.cell 1 _ rfl
  have c8 := h5.x.cell 8 _ rfl
  rw [hB] at c1 c8
  have nBL : B + 1 < bL' := H2.out.2.2.1
  have nBW : B + 1 < bW' := H2.out.2.2.2
  have HNB := Lib.hid (And.intro nBL nBW)
  clear g0 k0 g1 k1 g2 k2 g3 k3 g4 k4 g5 k5 g6 k6 g7 k7 g8 k8 g9 k9 hw5 h5 hr5 q1 q2 n1' n2' nBL nBW
  go_wp2
  go_loopg [8, 9] nw (fun gg v8 v9 wr => ∃ k : Nat, k + gg = nw ∧ v8 = .int .i64 k ∧ Aside (TwoAt w wr (lD n0 nw n2 bL' nL cL' bW' nW cW' off' ar' af' sd op') ∧ RefIn wr bL' bW' ((d.wear i).part i f k)))
  case atStart => exact ⟨0, by omega, rfl, H5.out.1, by rw [part_zero]; exact H5.out.2⟩
  case round =>
    obtain ⟨k, hkg, rfl, HR⟩ := hrel
    have hx := HR.out.1.x
    have hy := HR.out.1.y
    rw [hB] at hx hy
    clear c1 c8
    cases gk with
    | zero =>
      obtain rfl : k = nw := by omega
      have c0 := hx.cell 0 _ rfl; have c1 := hx.cell 1 _ rfl; have c2 := hx.cell 2 _ rfl; have c3 := hx.cell 3 _ rfl; have c4 := hx.cell 4 _ rfl; have c5 := hx.cell 5 _ rfl; have c6 := hx.cell 6 _ rfl; have c7 := hx.cell 7 _ rfl; have c8 := hx.cell 8 _ rfl; have c9 := hx.cell 9 _ rfl; have y0 := hy.cell 0 _ rfl; have y1 := hy.cell 1 _ rfl; have y2 := hy.cell 2 _ rfl; have y3 := hy.cell 3 _ rfl; have y4 := hy.cell 4 _ rfl; have y5 := hy.cell 5 _ rfl; have y6 := hy.cell 6 _ rfl; have y7 := hy.cell 7 _ rfl; have y8 := hy.cell 8 _ rfl; have y9 := hy.cell 9 _ rfl; have z0 := hy.fr 0; have z1 := hy.fr 1; have z2 := hy.fr 2; have z3 := hy.fr 3; have z4 := hy.fr 4; have z5 := hy.fr 5; have z6 := hy.fr 6; have z7 := hy.fr 7; have z8 := hy.fr 8; have z9 := hy.fr 9
      clear hx hy
      go_wp2
      have hL := HNB.out.1
      have hW := HNB.out.2
      refine ⟨rfl, .tuple #[vD n0 k n2 bL' nL cL' bW' nW cW' off' ar' af' sd op', .int .i64 0], ?_, bL', cL', bW', cW', rfl, ?_, by omega, by omega, ?_⟩
      · simp [results, Try.results93, go_sem, *]
      · refine HR.out.2.keep (T := fun j => j = B + 1) ?_ (by omega) (by omega)
        repeat' (first | (with_reducible exact Ch.refl _ _) | refine Ch.setCell ?_ _ _ ?_)
        all_goals exact .inl rfl
      · have hb := HR.out.1.b
        rw [hB] at hb
        repeat' (first | (with_reducible exact hb) | refine Below.setCell ?_ ?_ _)
        all_goals exact Nat.le_succ B
    | succ g1 =>
      have hk : k < nw := by omega
      have c1 := hx.cell 1 _ rfl
      have c3 := hx.cell 3 _ rfl
      obtain ⟨tt, htt⟩ : ∃ tt, m + k = tt := ⟨_, rfl⟩
      have m2 := wrap_nat ((m : Int) + (k : Int)) tt (by omega) (by have := HI.out.2.2.2.2.2.2; have := HI.out.2.2.2.2.2.1; omega)
      have tl : tt < nL := by
        have := flat_lt d.ns d.nw i k HI.out.1 (by rw [HI.out.2.1]; exact hk)
        rw [← HI.out.2.2.2.2.1, HI.out.2.1, HI.out.2.2.2.1, htt] at this
        exact this
      have q0 : (0 : Int) ≤ (tt : Int) := by omega
      have q1 : (tt : Int) < (nL : Int) := by omega
      have q2 := HR.out.2.cl i k HI.out.1 (by show k < d.nw; rw [HI.out.2.1]; exact hk)
      have q3 := HR.out.2.fl (i * d.nw + k) (by show i * d.nw + k < d.ns * d.nw; exact flat_lt _ _ _ _ HI.out.1 (by rw [HI.out.2.1]; exact hk))
      have eidx : i * ((d.wear i).part i f k).nw + k = tt := by show i * d.nw + k = tt; rw [HI.out.2.1, HI.out.2.2.2.1, htt]
      rw [eidx] at q2
      rw [show i * d.nw + k = tt from eidx] at q3
      have HK := Lib.hid (And.intro hk eidx)
      have hk2 : (k : Int) < (nw : Int) := by omega
      have kz := HI.out.2.2.2.2.2.1
      clear hx hy eidx htt
      go_wp2
      go_roundg g1
      case measure => omega
      case rel =>
        have hL := HNB.out.1
        have hs := HR.out.2.setW i k (f k) HI.out.1 (by show k < d.nw; rw [HI.out.2.1]; exact HK.out.1)
        rw [HK.out.2, part_succ] at hs
        refine ⟨k + 1, by omega, by go_num, ?_, by rw [← hF k]; exact hs⟩
        exact HR.out.1.other ⟨bL', tt, none⟩ _ (by rw [hB]; show bL' ≠ B; omega) (by rw [hB]; show bL' ≠ B + 1; omega) (by rw [hB]; show B ≤ bL'; omega)

end Go.Proofs.Ythpagbfabpfngaa
