/- Several texts in one: CF. -/
import Derived.Test.YthpagbfabpfngaaPk22
/- The contract of law08's begin. -/
namespace Go.Proofs.Ythpagbfabpfngaa
open Go.RowKit

/-- What begin makes of a bench: the answer, the device, whether words may be put, what was put. -/
def lbegR (d : Dev) (L : List (BitVec 32)) : Int × Dev × Bool × List (BitVec 32) :=
  if d.on then (if wornB d 0 d.ns then (62, d, false, L) else ((blankD d 0 d.ns).2, (blankD d 0 d.ns).1, decide ((blankD d 0 d.ns).2 = 0), [])) else (63, d, false, L)
theorem worn0_none {d : Dev} (h : ∀ i, i < d.ns → ¬ d.limit ≤ d.worn i) : wornB d 0 d.ns = false :=
  wornB_none (fun i hi => h _ (by unfold secN; rw [Nat.zero_add]; exact Nat.mod_lt _ (by omega)))
theorem worn0_some {d : Dev} {i : Nat} (hi : i < d.ns) (h : d.limit ≤ d.worn i) : wornB d 0 d.ns = true := by
  refine wornB_some (k := (i + d.ns - 1) % d.ns) (Nat.mod_lt _ (by omega)) ?_
  have : secN 0 d.ns ((i + d.ns - 1) % d.ns) = i := by
    unfold secN
    rw [Nat.zero_add, Nat.mod_add_mod, show i + d.ns - 1 + 1 = i + d.ns by omega, Nat.add_mod_right, Nat.mod_eq_of_lt hi]
  rw [this]; exact h
/-- The same, sector by sector. -/
def lblK (d : Dev) (k : Nat) : Dev × Int := if (d.program 0 0 0#32).2 = 0 then eraseK (d.program 0 0 0#32).1 0 d.ns k else d.program 0 0 0#32
theorem lblK_zero (d : Dev) : lblK d 0 = d.program 0 0 0#32 := by
  unfold lblK
  split
  · rename_i h
    exact Prod.ext rfl h.symm
  · rfl
theorem lblK_stuck {d : Dev} {k : Nat} (h : (lblK d k).2 ≠ 0) : ∀ j, k ≤ j → lblK d j = lblK d k := by
  intro j hj
  unfold lblK at h ⊢
  split
  · rename_i h1
    rw [if_pos h1] at h
    exact eraseK_stuck h j hj
  · rfl
theorem lblK_succ {d : Dev} {k : Nat} (h : (lblK d k).2 = 0) : lblK d (k + 1) = (lblK d k).1.erase (((k + 1) % d.ns : Nat) : Int) := by
  unfold lblK at h ⊢
  by_cases h1 : (d.program 0 0 0#32).2 = 0
  · rw [if_pos h1] at h ⊢
    rw [if_pos h1]
    show (if (eraseK _ 0 d.ns k).2 = 0 then _ else _) = _
    rw [if_pos h]
    unfold secN
    rw [Nat.zero_add]
  · rw [if_neg h1] at h
    exact absurd h h1
theorem lblK_kept {d : Dev} (ho : d.okE) (hn : d.ops + d.ns + 1 ≤ 1000000) : ∀ k, k ≤ d.ns → d.keptN (lblK d k).1 (k + 1) := by
  intro k hk
  have h1 := program_kept ho 0 0 0#32 ⟨by decide, by decide⟩
  unfold lblK
  split
  · have h2 := (eraseK_kept (base := 0) (many := d.ns) (h1.okE ho (by omega)) (by have := h1.ops.2; omega) k hk)
    exact (h1.trans h2).mono (by omega)
  · exact h1.mono (by omega)
theorem lblK_end (d : Dev) : blankD d 0 d.ns = lblK d d.ns := rfl
theorem ws_nil (w : World) : Ws w none 0 0 ([] : List (BitVec 32)).length (nthW []) := ⟨fun h => absurd h (Nat.lt_irrefl 0), fun k hk => absurd hk (Nat.not_lt_zero k)⟩
set_option maxHeartbeats 8000000 in
set_option maxRecDepth 100000 in
theorem lbegin_any {w : World} {q B bL bW : Nat} {d : Dev} (h : RefIn w bL bW d) (ho : d.okE) (cL cW : Nat) (hcL : d.ns * d.nw ≤ cL) (op : Bool) {sp : Option Addr} {bp cap : Nat} (L : List (BitVec 32)) (hn : d.ops + d.ns + 1 ≤ 1000000) (h5 : d.nw ≤ 500) (hW : Ws w sp bp 0 L.length (nthW L)) :
    Calls Try.prog 54 #[.agg (benchC q B bL cL bW cW d op sp L.length cap)] w fun e w' => BenchOut w w' q B bL bW bp (lbegR d L).2.1 (lbegR d L).2.2.1 (lbegR d L).2.2.2 (fun v => .tuple #[v, .int .i64 (lbegR d L).1]) e := by
  obtain ⟨X, hX⟩ : ∃ X, X = w.heap.size := ⟨_, rfl⟩
  obtain ⟨w1, hw1⟩ : ∃ w1, (w.alloc (.cells (benchC q B bL cL bW cW d op sp L.length cap) 53)).alloc (.cells #[.pointer none, .pointer none, .int .i64 0, .int .i64 0, .int .i64 0, .slice none 0 0, .slice none 0 0, .bool false, .bool false, .int .i64 0, .int .u32 0, .int .i64 0, .bool false, .slice none 0 0] 53) = w1 := ⟨_, rfl⟩
  have H1 := Lib.hid (show BI w w1 X q B bL bW bL cL bW cW d op sp L.length cap by rw [← hw1, hX]; exact BI.start h hcL)
  have HX := Lib.hid hX
  have HW := Lib.hid (show ∀ wx, Below X w wx → Ws wx sp bp 0 L.length (nthW L) from fun wx hb => hW.new (by rw [← hX]; exact hb))
  have HP := Lib.hid (show ∀ h0 : 0 < L.length, bp < X from fun h0 => by rw [hX]; exact (hW.sp h0).2)
  have HO := Lib.hid (And.intro ho (And.intro hn h5))
  have HZ := Lib.hid h.zn
  obtain ⟨c0, hc0⟩ : ∃ c0, benchC q B bL cL bW cW d op sp L.length cap = c0 := ⟨_, rfl⟩
  rw [hc0] at hw1 ⊢
  clear hc0 h ho hcL hn h5 hW
  go_enter Try.func54, Try.ntmps54
  go_upto_region 1 with fail
  rw [← hX]
  clear hw1 hX
  have c12 : w1.cell? ⟨X, 12, none⟩ = some (.bool op) := H1.out.x.cell 12
  have f12 : w1.frozen? ⟨X, 12, none⟩ = false := H1.out.x.fr 12
  go_upto_region 2 with fail
  generalize hw2 : World.setCell _ _ _ = w2
  have H2 := Lib.hid (show BI w w2 X q B bL bW bL cL bW cW d false sp L.length cap by rw [← hw2]; exact H1.out.setOp false)
  clear hw2 c12 f12 H1
  have c7 : w2.cell? ⟨X, 7, none⟩ = some (.bool (!d.on)) := H2.out.x.cell 7
  cases hon : d.on with
  | false =>
    rw [hon] at c7
    have HRR := Lib.hid (show lbegR d L = (63, d, false, L) by unfold lbegR; rw [hon]; rfl)
    clear hon
    go_wp2_with (first
      | (refine wpList_load_row rfl 53 (.tmp 1) rfl X rfl 53 (benchC q B bL cL bW cW d false sp L.length cap) (0, 0) _ H2.out.x Try.underlying53 rfl (by kernel_rfl) ?_)
      | (refine wpList_store_row rfl 53 (.tmp 2) (.tmp 11) rfl (X + 1) (benchC q B bL cL bW cW d false sp L.length cap) rfl rfl 53 _ H2.out.y (by kernel_rfl) rfl (benchC_one _ _ _ _ _ _ _ _ _ _ _) ?_)
      | fail)
    refine bodyPost_ret (results_row rfl _ _ (X + 1) 53 (benchC q B bL cL bW cW d false sp L.length cap) _ rfl (RowAt.put H2.out.y) Try.underlying53 rfl (by kernel_rfl)) rfl ?_
    rw [HRR.out]
    exact H2.out.fin (r := fun v => .tuple #[v, .int .i64 63]) (HW.out _ H2.out.b) (fun h0 => .inl ⟨rfl, HP.out h0⟩)
  | true =>
    rw [hon] at c7
    have c2 : w2.cell? ⟨X, 2, none⟩ = some (.int .i64 d.ns) := H2.out.x.cell 2
    have c6 : w2.cell? ⟨X, 6, none⟩ = some (.slice (some ⟨bW, 0, none⟩) d.ns cW) := H2.out.x.cell 6
    have c4 : w2.cell? ⟨X, 4, none⟩ = some (.int .i64 d.limit) := H2.out.x.cell 4
    obtain ⟨ns, hns⟩ : ∃ ns, d.ns = ns := ⟨_, rfl⟩
    obtain ⟨lm, hlm⟩ : ∃ lm, d.limit = lm := ⟨_, rfl⟩
    have HN := Lib.hid (And.intro hns (And.intro hlm hon))
    rw [hns] at c2 c6
    rw [hlm] at c4
    have hns1 : 0 < ns ∧ ns ≤ 64 := by have := HZ.out; omega
    clear hns hlm hon
    go_wp2
    go_loopg [4] ns (fun m ve wr => ∃ k : Nat, k + m = ns ∧ ve = .int .i64 (k : Nat) ∧ Aside ((∃ nq, wr = w2.drewN nq) ∧ ∀ j, j < k → ¬ lm ≤ d.worn j))
    case atStart => exact ⟨0, by omega, rfl, ⟨0, rfl⟩, fun j hj => absurd hj (Nat.not_lt_zero j)⟩
    case round =>
      obtain ⟨k, hkm, rfl, HR⟩ := hrel
      obtain ⟨⟨nq, rfl⟩, -⟩ := HR.out
      cases gk with
      | succ g1 =>
        have hlt : k < ns := by omega
        have ck : w2.cell? ⟨bW, k, none⟩ = some (.int .i64 (d.worn k)) := H2.out.ref.cw k (by rw [HN.out.1]; exact hlt)
        obtain ⟨x, hx⟩ : ∃ x, d.worn k = x := ⟨_, rfl⟩
        rw [hx] at ck
        have HK := Lib.hid hx
        clear hx
        by_cases hw : lm ≤ x
        · have d1 : decide (lm ≤ x) = true := by simpa using hw
          have hR : lbegR d L = (62, d, false, L) := by
            unfold lbegR
            rw [HN.out.2.2, worn0_some (i := k) (by rw [HN.out.1]; exact hlt) (by rw [HN.out.2.1, HK.out]; exact hw)]; rfl
          have HRR := Lib.hid hR
          clear hw hR
          go_wp2
          go_quiet (fail)
          generalize hwq : World.drewN _ _ = wq
          have HQ := Lib.hid (show BI w wq X q B bL bW bL cL bW cW d false sp L.length cap by rw [← hwq]; first | exact H2.out.dn _ | exact (H2.out.dn _).dn _)
          clear hwq
          go_wp2_with (first
            | (refine wpList_load_row rfl 53 (.tmp 1) rfl X rfl 53 (benchC q B bL cL bW cW d false sp L.length cap) (0, 0) _ HQ.out.x Try.underlying53 rfl (by kernel_rfl) ?_)
            | (refine wpList_store_row rfl 53 (.tmp 2) (.tmp 29) rfl (X + 1) (benchC q B bL cL bW cW d false sp L.length cap) rfl rfl 53 _ HQ.out.y (by kernel_rfl) rfl (benchC_one _ _ _ _ _ _ _ _ _ _ _) ?_)
            | fail)
          refine bodyPost_ret (results_row rfl _ _ (X + 1) 53 (benchC q B bL cL bW cW d false sp L.length cap) _ rfl (RowAt.put HQ.out.y) Try.underlying53 rfl (by kernel_rfl)) rfl ?_
          rw [HRR.out]
          exact HQ.out.fin (r := fun v => .tuple #[v, .int .i64 62]) (HW.out _ HQ.out.b) (fun h0 => .inl ⟨rfl, HP.out h0⟩)
        · have d1 : decide (lm ≤ x) = false := by simpa using hw
          have HW2 := Lib.hid hw
          clear hw
          go_wp2
          go_quiet (fail)
          go_wp2
          go_roundg g1
          case measure => omega
          case rel =>
            refine ⟨k + 1, by omega, by go_num, ⟨_, rfl⟩, fun j hj => ?_⟩
            rcases Nat.lt_or_ge j k with h1 | h1
            · exact HR.out.2 j h1
            · obtain rfl : j = k := by omega
              rw [HK.out]; exact HW2.out
      | zero =>
        obtain rfl : k = ns := by omega
        have hwn : wornB d 0 d.ns = false := worn0_none (fun i hi => by rw [HN.out.2.1]; exact HR.out.2 i (by rw [← HN.out.1]; exact hi))
        have HR2 := Lib.hid (show lbegR d L = ((blankD d 0 d.ns).2, (blankD d 0 d.ns).1, decide ((blankD d 0 d.ns).2 = 0), []) by unfold lbegR; rw [HN.out.2.2, hwn]; rfl)
        have H3 := Lib.hid (H2.out.dn nq)
        clear hwn HR
        obtain ⟨w3, hw3⟩ : ∃ w3, w2.drewN nq = w3 := ⟨_, rfl⟩
        rw [hw3] at H3 ⊢
        clear hw3 H2 c7 c2 c6 c4
        have c2 : w3.cell? ⟨X, 2, none⟩ = some (.int .i64 d.ns) := H3.out.x.cell 2
        rw [HN.out.1] at c2
        have hKp := lblK_kept HO.out.1 (by have := HO.out.2.1; omega)
        have HKp := Lib.hid hKp
        clear hKp
        have HPr := Lib.hid (show Calls Try.prog 92 #[.agg (cellsD bL cL bW cW d), .int .i64 0, .int .i64 0, .int .u32 0] w3 fun e w' => RefOut w3 w' bL bW (lblK d 0).1 (fun v => .tuple #[v, .int .i64 (lblK d 0).2]) e by
          rw [lblK_zero]; exact progR_any H3.out.ref HO.out.1.1 cL cW H3.out.cp 0 0 0#32)
        go_upto_region 11 with (first
          | (refine wpList_load_mid rfl 28 (.tmp 31) rfl X 2 rfl (cellsD bL cL bW cW d).toList _ (bench_range H3.out.x) Try.underlying28 rfl (by kernel_rfl) ?_)
          | (go_at_call 92; refine HPr.out.mono ?_; rintro e w4 hro; obtain ⟨bL1, cL1, bW1, cW1, rfl, hr4, hb4⟩ := H3.out.next hro; have H4 := Lib.hid (And.intro hr4 hb4); clear hr4 hb4 hro; try dsimp only)
          | (refine wpList_store_mid rfl 28 (.tmp 36) (.tmp 34) rfl X 2 (cellsD bL1 cL1 bW1 cW1 (lblK d 0).1) rfl rfl (bench_there H4.out.1) (by kernel_rfl) (cellsD_one _ _ _ _ _) ?_
             generalize hw5 : World.setCells _ _ _ _ = w5
             have H5 := Lib.hid (show BI w w5 X q B bL bW bL1 cL1 bW1 cW1 (lblK d 0).1 false sp L.length cap by rw [← hw5]; exact H4.out.2)
             clear hw5)
          | fail)
        clear H4 HPr H3 c2
        go_wp2
        go_loopg [5, 6] k (fun m ve vs wr => ∃ j : Nat, j + m = k ∧ vs = .int .i64 ((j : Int) + 1) ∧ ve = .int .i64 (lblK d j).2 ∧ Aside (∃ xL yL xW yW, BI w wr X q B bL bW xL yL xW yW (lblK d j).1 false sp L.length cap))
        case atStart => exact ⟨0, by omega, rfl, rfl, _, _, _, _, H5.out⟩
        case round =>
          obtain ⟨j, hjm, rfl, rfl, HA⟩ := hrel
          obtain ⟨xL, yL, xW, yW, hB⟩ := HA.out
          have hkj := HKp.out j (by rw [HN.out.1]; omega)
          have hst : (lblK d j).2 ≠ 0 → lblK d k = lblK d j := fun hne => lblK_stuck hne k (by omega)
          have hsu : (lblK d j).2 = 0 → lblK d (j + 1) = (lblK d j).1.erase (((j + 1) % k : Nat) : Int) := fun h0 => by rw [lblK_succ h0, HN.out.1]
          obtain ⟨⟨dk, ek⟩, hdk⟩ : ∃ p, lblK d j = p := ⟨_, rfl⟩
          rw [hdk] at hB hkj hst hsu ⊢
          simp only at hB hkj hst hsu ⊢
          have HDk := Lib.hid hdk
          have HS := Lib.hid (And.intro hst hsu)
          have HB := Lib.hid hB
          have HKj := Lib.hid hkj
          have c2 : wr.cell? ⟨X, 2, none⟩ = some (.int .i64 dk.ns) := hB.x.cell 2
          have hkns : dk.ns = k := hkj.ns.trans HN.out.1
          have c3 : wr.cell? ⟨X, 3, none⟩ = some (.int .i64 dk.nw) := hB.x.cell 3
          have c4 : wr.cell? ⟨X, 4, none⟩ = some (.int .i64 dk.limit) := hB.x.cell 4
          have c5 : wr.cell? ⟨X, 5, none⟩ = some (.slice (some ⟨xL, 0, none⟩) (dk.ns * dk.nw : Nat) yL) := hB.x.cell 5
          have c6 : wr.cell? ⟨X, 6, none⟩ = some (.slice (some ⟨xW, 0, none⟩) dk.ns yW) := hB.x.cell 6
          have c7 : wr.cell? ⟨X, 7, none⟩ = some (.bool (!dk.on)) := hB.x.cell 7
          have c8 : wr.cell? ⟨X, 8, none⟩ = some (.bool dk.armed) := hB.x.cell 8
          have c9 : wr.cell? ⟨X, 9, none⟩ = some (.int .i64 dk.after) := hB.x.cell 9
          have c10 : wr.cell? ⟨X, 10, none⟩ = some (.int .u32 (w32 dk.seed)) := hB.x.cell 10
          have c11 : wr.cell? ⟨X, 11, none⟩ = some (.int .i64 dk.ops) := hB.x.cell 11
          rw [hkns] at c2 c5 c6
          obtain ⟨eb, heb⟩ : ∃ eb, (ek == 0) = eb := ⟨_, rfl⟩
          clear hB hkj hst hsu hdk HA H5 hkns
          cases gk with
          | zero =>
            obtain rfl : j = k := by omega
            have hRk : lbegR d L = (ek, dk, eb, []) := by rw [HR2.out, lblK_end, HN.out.1, HDk.out, ← heb]; rfl
            have HRk := Lib.hid hRk
            clear hRk
            clear c3 c4 c5 c6 c7 c8 c9 c10 c11
            go_upto_region 15 with fail
            have c12 : wr.cell? ⟨X, 12, none⟩ = some (.bool false) := HB.out.x.cell 12
            have f12 : wr.frozen? ⟨X, 12, none⟩ = false := HB.out.x.fr 12
            go_upto_region 16 with fail
            generalize hw5 : World.setCell _ _ _ = w5
            have H5 := Lib.hid (show BI w w5 X q B bL bW xL yL xW yW dk eb sp L.length cap by rw [← hw5]; exact HB.out.setOp _)
            clear hw5 c12 f12
            have c13 : w5.cell? ⟨X, 13, none⟩ = some (.slice sp L.length cap) := H5.out.x.cell 13
            have f13 : w5.frozen? ⟨X, 13, none⟩ = false := H5.out.x.fr 13
            go_upto_region 17 with fail
            generalize hw6 : World.setCell _ _ _ = w6
            have H6 := Lib.hid (show BI w w6 X q B bL bW xL yL xW yW dk eb none 0 0 by rw [← hw6]; exact H5.out.setPut _ _ _)
            clear hw6 c13 f13
            go_wp2_with (first
              | (refine wpList_load_row rfl 53 (.tmp 1) rfl X rfl 53 (benchC q B xL yL xW yW dk eb none 0 0) (0, 0) _ H6.out.x Try.underlying53 rfl (by kernel_rfl) ?_)
              | (refine wpList_store_row rfl 53 (.tmp 2) (.tmp 64) rfl (X + 1) (benchC q B xL yL xW yW dk eb none 0 0) rfl rfl 53 _ H6.out.y (by kernel_rfl) rfl (benchC_one _ _ _ _ _ _ _ _ _ _ _) ?_)
              | fail)
            refine bodyPost_ret (results_row rfl _ _ (X + 1) 53 (benchC q B xL yL xW yW dk eb none 0 0) _ rfl (RowAt.put H6.out.y) Try.underlying53 rfl (by kernel_rfl)) rfl ?_
            rw [HRk.out]
            exact BI.fin (L := []) (bp' := 0) (r := fun v => .tuple #[v, .int .i64 ek]) H6.out (ws_nil _) (fun h0 => absurd h0 (Nat.lt_irrefl 0))

          | succ m1 =>
            have hlt : j < k := by omega
            by_cases he : ek = 0
            · subst he
              have hrem : ((j : Int) + 1).tmod (k : Int) = (((j + 1) % k : Nat) : Int) := by rw [Int.tmod_eq_emod_of_nonneg (by omega)]; push_cast; rfl
              have hyk := Nat.mod_lt (j + 1) hns1.1
              have hsu := HS.out.2 rfl
              have hkns : dk.ns = k := HKj.out.ns.trans HN.out.1
              have hok := HKj.out.okE HO.out.1 (by have := HO.out.2.1; have := HN.out.1; omega)
              obtain ⟨y, hy⟩ : ∃ y, (j + 1) % k = y := ⟨_, rfl⟩
              rw [hy] at hrem hyk hsu
              have hpr := fun nq => eraseR_any (HB.out.dn nq).ref hok (by rw [HKj.out.nw]; exact HO.out.2.2) yL yW HB.out.cp (y : Int)
              obtain ⟨⟨d2, e2n⟩, hp2⟩ : ∃ p, dk.erase (y : Int) = p := ⟨_, rfl⟩
              rw [hp2] at hsu
              simp only [hp2] at hpr
              have hg : refX xL yL xW yW dk = .agg #[.int .i64 k, .int .i64 dk.nw, .int .i64 dk.limit, .slice (some ⟨xL, 0, none⟩) (k * dk.nw : Nat) yL, .slice (some ⟨xW, 0, none⟩) k yW, .bool (!dk.on), .bool dk.armed, .int .i64 dk.after, .int .u32 (w32 dk.seed), .int .i64 dk.ops] := by rw [← hkns]; rfl
              simp only [hg] at hpr
              have HPr := Lib.hid hpr
              have HSu := Lib.hid hsu
              have f4 : IntKind.i64.wrap (y : Int) = (y : Int) := by rw [IntKind.wrap_i64]; omega
              have f5 : IntKind.i64.wrap ((j : Int) + 1) = (j : Int) + 1 := by rw [IntKind.wrap_i64]; omega
              have g1 : ¬ k = 0 := by omega
              have g2 : (j : Int) + 1 ≤ (k : Int) := by omega
              clear hsu hpr hg hp2 hok hkns hy
              have HNX := Lib.hid (fun (nq : Nat) (w5 : World) (e : Ending) (h : RefOut (wr.drewN nq) w5 xL xW d2 (fun v => .tuple #[v, .int .i64 e2n]) e) => (HB.out.dn nq).next h)
              go_upto_region 14 with fail
              refine wp_region_headt (C := fun w' => ∃ n, w' = wr.drewN n) _ 7 7 [1, 6] rfl rfl (by kernel_rfl) (by kernel_rfl) (by kernel_rfl) (by kernel_rfl) (by kernel_rfl) (by kernel_rfl) ⟨1, rfl⟩ ?_
              simp only [List.take_succ_cons, List.take_zero]
              repeat (quiet_step (fail))
              refine wpQuiet_nil ?_
              intro _ hw1
              obtain ⟨nq, hw2⟩ := hw1
              subst hw2
              refine wpAny_ready (rs := [7]) (by kernel_rfl) (by simp) (AllReady.cons (o := { dst := some 56, op := .call { callee := .value (.func 93), args := #[.tmp 50, .tmp 55], argTypes := #[28, 3] }, type := 29, pos := "law.go:111", after := #[{ on := 1, ground := .data }, { on := 6, ground := .data }], guard := none }) rfl (fun K hK => ?_) AllReady.nil)
              go_simp
              go_at_call 93
              refine (HPr.out nq).mono ?_
              rintro e w5 hro
              obtain ⟨xL', yL', xW', yW', rfl, hr5, hp5⟩ := HNX.out nq w5 e hro
              have H5 := Lib.hid (And.intro hr5 hp5)
              clear hr5 hp5 hro
              try dsimp only
              refine hK _ _ ?_
              clear hK K
              try simp only [List.setIfInBounds_toArray]
              refine wpAny_ready (rs := [8]) (by kernel_rfl) (by simp) (AllReady.cons (o := { dst := some 48, op := .move (.tmp 56), type := 29, pos := "law.go:111", after := #[{ on := 7, ground := .data }], guard := none }) rfl (fun K hK => ?_) AllReady.nil)
              go_simp
              refine hK _ _ ?_
              clear hK K
              try simp only [List.setIfInBounds_toArray]
              refine wpAny_ready (rs := [9, 10]) (by kernel_rfl) (by simp) (AllReady.cons (o := { dst := some 57, op := .extract (.tmp 48) 0, type := 28, pos := "law.go:111", after := #[{ on := 8, ground := .data }], guard := none }) rfl (fun K hK => ?_) (AllReady.cons (o := { dst := some 58, op := .extract (.tmp 48) 1, type := 3, pos := "law.go:111", after := #[{ on := 8, ground := .data }, { on := 12, ground := .gcOnly Go.Departure.lateStores }], guard := none }) rfl (fun K hK => ?_) AllReady.nil))
              · go_simp
                refine hK _ _ ?_
                clear hK K
                try simp only [List.setIfInBounds_toArray]
                refine wpAny_ready (rs := [10, 11]) (by kernel_rfl) (by simp) (AllReady.cons (o := { dst := some 58, op := .extract (.tmp 48) 1, type := 3, pos := "law.go:111", after := #[{ on := 8, ground := .data }, { on := 12, ground := .gcOnly Go.Departure.lateStores }], guard := none }) rfl (fun K hK => ?_) (AllReady.cons (o := { dst := some 59, op := .fieldAddr 53 (.tmp 1) 2, type := 0, pos := "law.go:111", after := #[{ on := 0, ground := .phase }, { on := 1, ground := .phase }, { on := 2, ground := .phase }, { on := 3, ground := .phase }, { on := 4, ground := .phase }, { on := 5, ground := .phase }, { on := 6, ground := .phase }, { on := 7, ground := .phase }, { on := 8, ground := .phase }, { on := 9, ground := .phase }, { on := 10, ground := .textOnly Go.Departure.lateStores }], guard := none }) rfl (fun K hK => ?_) AllReady.nil))
                · go_simp
                  refine hK _ _ ?_
                  clear hK K
                  try simp only [List.setIfInBounds_toArray]
                  refine wpAny_ready (rs := [11]) (by kernel_rfl) (by simp) (AllReady.cons (o := { dst := some 59, op := .fieldAddr 53 (.tmp 1) 2, type := 0, pos := "law.go:111", after := #[{ on := 0, ground := .phase }, { on := 1, ground := .phase }, { on := 2, ground := .phase }, { on := 3, ground := .phase }, { on := 4, ground := .phase }, { on := 5, ground := .phase }, { on := 6, ground := .phase }, { on := 7, ground := .phase }, { on := 8, ground := .phase }, { on := 9, ground := .phase }, { on := 10, ground := .textOnly Go.Departure.lateStores }], guard := none }) rfl (fun K hK => ?_) AllReady.nil)
                  go_simp
                  refine hK _ _ ?_
                  clear hK K
                  try simp only [List.setIfInBounds_toArray]
                  refine wpAny_ready (rs := [12]) (by kernel_rfl) (by simp) (AllReady.cons (o := { dst := none, op := .store 28 (.tmp 59) (.tmp 57), type := 0, pos := "law.go:111", after := #[{ on := 11, ground := .data }, { on := 9, ground := .data }, { on := 7, ground := .chain }, { on := 0, ground := .phase }, { on := 1, ground := .phase }, { on := 2, ground := .phase }, { on := 3, ground := .phase }, { on := 4, ground := .phase }, { on := 5, ground := .phase }, { on := 6, ground := .phase }, { on := 7, ground := .phase }, { on := 8, ground := .phase }, { on := 9, ground := .phase }, { on := 10, ground := .textOnly Go.Departure.lateStores }], guard := none }) rfl (fun K hK => ?_) AllReady.nil)
                  rw [if_pos (by rfl)]
                  refine wp_store_mid 28 (.tmp 59) (.tmp 57) (by rfl) X 2 (cellsD xL' yL' xW' yW' d2) (by rfl) (by rfl) (bench_there H5.out.1) (by kernel_rfl) (cellsD_one _ _ _ _ _) ?_
                  generalize hw6 : World.setCells _ _ _ _ = w6
                  have H6 := Lib.hid (show BI w w6 X q B bL bW xL' yL' xW' yW' d2 false sp L.length cap by rw [← hw6]; exact H5.out.2)
                  clear hw6
                  refine hK _ _ ?_
                  clear hK K
                  try simp only [Act.put, List.setIfInBounds_toArray]
                  refine wpAny_ready (rs := [13]) (by kernel_rfl) (by simp) (AllReady.cons (o := { dst := some 5, op := .assign (.tmp 58), type := 3, pos := "law.go:111", after := #[{ on := 10, ground := .data }, { on := 12, ground := .chain }, { on := 0, ground := .phase }, { on := 1, ground := .phase }, { on := 2, ground := .phase }, { on := 3, ground := .phase }, { on := 4, ground := .phase }, { on := 5, ground := .phase }, { on := 6, ground := .phase }, { on := 7, ground := .phase }, { on := 8, ground := .phase }, { on := 9, ground := .phase }, { on := 10, ground := .phase }, { on := 11, ground := .phase }, { on := 12, ground := .phase }], guard := none }) rfl (fun K hK => ?_) AllReady.nil)
                  go_simp
                  refine hK _ _ ?_
                  clear hK K
                  try simp only [List.setIfInBounds_toArray]
                  refine wpAny_done (by kernel_rfl) ?_ _
                  go_wp2
                  go_roundg m1
                  case measure => omega
                  case rel => exact ⟨j + 1, by omega, by go_num, by rw [HSu.out], _, _, _, _, by rw [HSu.out]; exact H6.out⟩
                · go_simp
                  refine hK _ _ ?_
                  clear hK K
                  try simp only [List.setIfInBounds_toArray]
                  refine wpAny_ready (rs := [10, 12]) (by kernel_rfl) (by simp) (AllReady.cons (o := { dst := some 58, op := .extract (.tmp 48) 1, type := 3, pos := "law.go:111", after := #[{ on := 8, ground := .data }, { on := 12, ground := .gcOnly Go.Departure.lateStores }], guard := none }) rfl (fun K hK => ?_) (AllReady.cons (o := { dst := none, op := .store 28 (.tmp 59) (.tmp 57), type := 0, pos := "law.go:111", after := #[{ on := 11, ground := .data }, { on := 9, ground := .data }, { on := 7, ground := .chain }, { on := 0, ground := .phase }, { on := 1, ground := .phase }, { on := 2, ground := .phase }, { on := 3, ground := .phase }, { on := 4, ground := .phase }, { on := 5, ground := .phase }, { on := 6, ground := .phase }, { on := 7, ground := .phase }, { on := 8, ground := .phase }, { on := 9, ground := .phase }, { on := 10, ground := .textOnly Go.Departure.lateStores }], guard := none }) rfl (fun K hK => ?_) AllReady.nil))
                  · go_simp
                    refine hK _ _ ?_
                    clear hK K
                    try simp only [List.setIfInBounds_toArray]
                    refine wpAny_ready (rs := [12]) (by kernel_rfl) (by simp) (AllReady.cons (o := { dst := none, op := .store 28 (.tmp 59) (.tmp 57), type := 0, pos := "law.go:111", after := #[{ on := 11, ground := .data }, { on := 9, ground := .data }, { on := 7, ground := .chain }, { on := 0, ground := .phase }, { on := 1, ground := .phase }, { on := 2, ground := .phase }, { on := 3, ground := .phase }, { on := 4, ground := .phase }, { on := 5, ground := .phase }, { on := 6, ground := .phase }, { on := 7, ground := .phase }, { on := 8, ground := .phase }, { on := 9, ground := .phase }, { on := 10, ground := .textOnly Go.Departure.lateStores }], guard := none }) rfl (fun K hK => ?_) AllReady.nil)
                    rw [if_pos (by rfl)]
                    refine wp_store_mid 28 (.tmp 59) (.tmp 57) (by rfl) X 2 (cellsD xL' yL' xW' yW' d2) (by rfl) (by rfl) (bench_there H5.out.1) (by kernel_rfl) (cellsD_one _ _ _ _ _) ?_
                    generalize hw6 : World.setCells _ _ _ _ = w6
                    have H6 := Lib.hid (show BI w w6 X q B bL bW xL' yL' xW' yW' d2 false sp L.length cap by rw [← hw6]; exact H5.out.2)
                    clear hw6
                    refine hK _ _ ?_
                    clear hK K
                    try simp only [Act.put, List.setIfInBounds_toArray]
                    refine wpAny_ready (rs := [13]) (by kernel_rfl) (by simp) (AllReady.cons (o := { dst := some 5, op := .assign (.tmp 58), type := 3, pos := "law.go:111", after := #[{ on := 10, ground := .data }, { on := 12, ground := .chain }, { on := 0, ground := .phase }, { on := 1, ground := .phase }, { on := 2, ground := .phase }, { on := 3, ground := .phase }, { on := 4, ground := .phase }, { on := 5, ground := .phase }, { on := 6, ground := .phase }, { on := 7, ground := .phase }, { on := 8, ground := .phase }, { on := 9, ground := .phase }, { on := 10, ground := .phase }, { on := 11, ground := .phase }, { on := 12, ground := .phase }], guard := none }) rfl (fun K hK => ?_) AllReady.nil)
                    go_simp
                    refine hK _ _ ?_
                    clear hK K
                    try simp only [List.setIfInBounds_toArray]
                    refine wpAny_done (by kernel_rfl) ?_ _
                    go_wp2
                    go_roundg m1
                    case measure => omega
                    case rel => exact ⟨j + 1, by omega, by go_num, by rw [HSu.out], _, _, _, _, by rw [HSu.out]; exact H6.out⟩
                  · rw [if_pos (by rfl)]
                    refine wp_store_mid 28 (.tmp 59) (.tmp 57) (by rfl) X 2 (cellsD xL' yL' xW' yW' d2) (by rfl) (by rfl) (bench_there H5.out.1) (by kernel_rfl) (cellsD_one _ _ _ _ _) ?_
                    generalize hw6 : World.setCells _ _ _ _ = w6
                    have H6 := Lib.hid (show BI w w6 X q B bL bW xL' yL' xW' yW' d2 false sp L.length cap by rw [← hw6]; exact H5.out.2)
                    clear hw6
                    refine hK _ _ ?_
                    clear hK K
                    try simp only [Act.put, List.setIfInBounds_toArray]
                    refine wpAny_ready (rs := [10]) (by kernel_rfl) (by simp) (AllReady.cons (o := { dst := some 58, op := .extract (.tmp 48) 1, type := 3, pos := "law.go:111", after := #[{ on := 8, ground := .data }, { on := 12, ground := .gcOnly Go.Departure.lateStores }], guard := none }) rfl (fun K hK => ?_) AllReady.nil)
                    go_simp
                    refine hK _ _ ?_
                    clear hK K
                    try simp only [List.setIfInBounds_toArray]
                    refine wpAny_ready (rs := [13]) (by kernel_rfl) (by simp) (AllReady.cons (o := { dst := some 5, op := .assign (.tmp 58), type := 3, pos := "law.go:111", after := #[{ on := 10, ground := .data }, { on := 12, ground := .chain }, { on := 0, ground := .phase }, { on := 1, ground := .phase }, { on := 2, ground := .phase }, { on := 3, ground := .phase }, { on := 4, ground := .phase }, { on := 5, ground := .phase }, { on := 6, ground := .phase }, { on := 7, ground := .phase }, { on := 8, ground := .phase }, { on := 9, ground := .phase }, { on := 10, ground := .phase }, { on := 11, ground := .phase }, { on := 12, ground := .phase }], guard := none }) rfl (fun K hK => ?_) AllReady.nil)
                    go_simp
                    refine hK _ _ ?_
                    clear hK K
                    try simp only [List.setIfInBounds_toArray]
                    refine wpAny_done (by kernel_rfl) ?_ _
                    go_wp2
                    go_roundg m1
                    case measure => omega
                    case rel => exact ⟨j + 1, by omega, by go_num, by rw [HSu.out], _, _, _, _, by rw [HSu.out]; exact H6.out⟩
              · go_simp
                refine hK _ _ ?_
                clear hK K
                try simp only [List.setIfInBounds_toArray]
                refine wpAny_ready (rs := [9]) (by kernel_rfl) (by simp) (AllReady.cons (o := { dst := some 57, op := .extract (.tmp 48) 0, type := 28, pos := "law.go:111", after := #[{ on := 8, ground := .data }], guard := none }) rfl (fun K hK => ?_) AllReady.nil)
                go_simp
                refine hK _ _ ?_
                clear hK K
                try simp only [List.setIfInBounds_toArray]
                refine wpAny_ready (rs := [11]) (by kernel_rfl) (by simp) (AllReady.cons (o := { dst := some 59, op := .fieldAddr 53 (.tmp 1) 2, type := 0, pos := "law.go:111", after := #[{ on := 0, ground := .phase }, { on := 1, ground := .phase }, { on := 2, ground := .phase }, { on := 3, ground := .phase }, { on := 4, ground := .phase }, { on := 5, ground := .phase }, { on := 6, ground := .phase }, { on := 7, ground := .phase }, { on := 8, ground := .phase }, { on := 9, ground := .phase }, { on := 10, ground := .textOnly Go.Departure.lateStores }], guard := none }) rfl (fun K hK => ?_) AllReady.nil)
                go_simp
                refine hK _ _ ?_
                clear hK K
                try simp only [List.setIfInBounds_toArray]
                refine wpAny_ready (rs := [12]) (by kernel_rfl) (by simp) (AllReady.cons (o := { dst := none, op := .store 28 (.tmp 59) (.tmp 57), type := 0, pos := "law.go:111", after := #[{ on := 11, ground := .data }, { on := 9, ground := .data }, { on := 7, ground := .chain }, { on := 0, ground := .phase }, { on := 1, ground := .phase }, { on := 2, ground := .phase }, { on := 3, ground := .phase }, { on := 4, ground := .phase }, { on := 5, ground := .phase }, { on := 6, ground := .phase }, { on := 7, ground := .phase }, { on := 8, ground := .phase }, { on := 9, ground := .phase }, { on := 10, ground := .textOnly Go.Departure.lateStores }], guard := none }) rfl (fun K hK => ?_) AllReady.nil)
                rw [if_pos (by rfl)]
                refine wp_store_mid 28 (.tmp 59) (.tmp 57) (by rfl) X 2 (cellsD xL' yL' xW' yW' d2) (by rfl) (by rfl) (bench_there H5.out.1) (by kernel_rfl) (cellsD_one _ _ _ _ _) ?_
                generalize hw6 : World.setCells _ _ _ _ = w6
                have H6 := Lib.hid (show BI w w6 X q B bL bW xL' yL' xW' yW' d2 false sp L.length cap by rw [← hw6]; exact H5.out.2)
                clear hw6
                refine hK _ _ ?_
                clear hK K
                try simp only [Act.put, List.setIfInBounds_toArray]
                refine wpAny_ready (rs := [13]) (by kernel_rfl) (by simp) (AllReady.cons (o := { dst := some 5, op := .assign (.tmp 58), type := 3, pos := "law.go:111", after := #[{ on := 10, ground := .data }, { on := 12, ground := .chain }, { on := 0, ground := .phase }, { on := 1, ground := .phase }, { on := 2, ground := .phase }, { on := 3, ground := .phase }, { on := 4, ground := .phase }, { on := 5, ground := .phase }, { on := 6, ground := .phase }, { on := 7, ground := .phase }, { on := 8, ground := .phase }, { on := 9, ground := .phase }, { on := 10, ground := .phase }, { on := 11, ground := .phase }, { on := 12, ground := .phase }], guard := none }) rfl (fun K hK => ?_) AllReady.nil)
                go_simp
                refine hK _ _ ?_
                clear hK K
                try simp only [List.setIfInBounds_toArray]
                refine wpAny_done (by kernel_rfl) ?_ _
                go_wp2
                go_roundg m1
                case measure => omega
                case rel => exact ⟨j + 1, by omega, by go_num, by rw [HSu.out], _, _, _, _, by rw [HSu.out]; exact H6.out⟩

            · have hRk : lbegR d L = (ek, dk, false, []) := by rw [HR2.out, lblK_end, HN.out.1, HS.out.1 he, show decide (ek = 0) = false from decide_eq_false he]
              have HRk := Lib.hid hRk
              clear hRk heb
              clear c3 c4 c5 c6 c7 c8 c9 c10 c11
              go_upto_region 15 with fail
              have c12 : wr.cell? ⟨X, 12, none⟩ = some (.bool false) := HB.out.x.cell 12
              have f12 : wr.frozen? ⟨X, 12, none⟩ = false := HB.out.x.fr 12
              go_upto_region 16 with fail
              generalize hw5 : World.setCell _ _ _ = w5
              have H5 := Lib.hid (show BI w w5 X q B bL bW xL yL xW yW dk false sp L.length cap by rw [← hw5]; exact HB.out.setOp _)
              clear hw5 c12 f12
              have c13 : w5.cell? ⟨X, 13, none⟩ = some (.slice sp L.length cap) := H5.out.x.cell 13
              have f13 : w5.frozen? ⟨X, 13, none⟩ = false := H5.out.x.fr 13
              go_upto_region 17 with fail
              generalize hw6 : World.setCell _ _ _ = w6
              have H6 := Lib.hid (show BI w w6 X q B bL bW xL yL xW yW dk false none 0 0 by rw [← hw6]; exact H5.out.setPut _ _ _)
              clear hw6 c13 f13
              go_wp2_with (first
                | (refine wpList_load_row rfl 53 (.tmp 1) rfl X rfl 53 (benchC q B xL yL xW yW dk false none 0 0) (0, 0) _ H6.out.x Try.underlying53 rfl (by kernel_rfl) ?_)
                | (refine wpList_store_row rfl 53 (.tmp 2) (.tmp 64) rfl (X + 1) (benchC q B xL yL xW yW dk false none 0 0) rfl rfl 53 _ H6.out.y (by kernel_rfl) rfl (benchC_one _ _ _ _ _ _ _ _ _ _ _) ?_)
                | fail)
              refine bodyPost_ret (results_row rfl _ _ (X + 1) 53 (benchC q B xL yL xW yW dk false none 0 0) _ rfl (RowAt.put H6.out.y) Try.underlying53 rfl (by kernel_rfl)) rfl ?_
              rw [HRk.out]
              exact BI.fin (L := []) (bp' := 0) (r := fun v => .tuple #[v, .int .i64 ek]) H6.out (ws_nil _) (fun h0 => absurd h0 (Nat.lt_irrefl 0))

end Go.Proofs.Ythpagbfabpfngaa
