/- The contract of the law's Same: a device is the document's. -/
import Derived.Test.YtkbmgilceioieaaGG
import Derived.Deep.Cut
import Derived.Deep.CutRange
namespace Go.Proofs.Ytkbmgilceioieaa
open Go.RowKit

theorem quietly {P : Program} {f : FuncId} {args : Array Value} {w : World} {n : Nat} {v : Value} (h : Calls P f args (w.drewN n) fun e w' => e = .returned v ∧ w.drewN n = w') :
    Calls P f args (w.drewN n) fun e w'' => e = .returned v ∧ ∃ m, w'' = w.drewN m := h.mono fun _ _ ⟨he, hm⟩ => ⟨he, n, hm.symm⟩
/-- The same device, in the block in which the call keeps the reference's. -/
structure SameAt (w0 w : World) (q S : Nat) (g : Nat → Nat) (bL cL bW cW : Nat) (d : Dev) : Prop where
  dev : DevAt w q S g d
  ref : RefIn w bL bW d.nn
  box : BoxAt w w0.heap.size (lX bL cL bW cW d.nn)
  b : Below w0.heap.size w0 w
theorem SameAt.new {w0 w w' : World} {q S : Nat} {g : Nat → Nat} {bL cL bW cW : Nat} {d : Dev} (h : SameAt w0 w q S g bL cL bW cW d) (c : Below w.heap.size w w') : SameAt w0 w' q S g bL cL bW cW d :=
  ⟨h.dev.new c, h.ref.new c, h.box.new c, h.b.trans (c.mono h.b.size)⟩
set_option maxRecDepth 100000 in
set_option maxHeartbeats 2000000 in
theorem same_any {w : World} {q S : Nat} {g : Nat → Nat} {d : Dev} {bL bW : Nat} (h : DevAt w q S g d) (hr : RefIn w bL bW d.nn) (cL cW ns nw M : Nat) (hns : d.ns = ns) (hnw : d.nw = nw) (hM : ns * nw = M) :
    Calls Try.prog 17 #[.pointer (some ⟨q, 0, none⟩), refX bL cL bW cW d.nn] w fun e w' => e = .returned (.bool true) ∧ Below w.heap.size w w' := by
  have hz := h.zn
  have hMd : d.nn.ns * d.nn.nw = M := by show d.ns * d.nw = M; rw [hns, hnw, hM]
  have HMD := Lib.hid (And.intro hMd (And.intro hns (And.intro hnw (And.intro hM hz))))
  have HP0 := Lib.hid (show SameAt w (w.alloc (.cells #[.int .i64 d.nn.ns, .int .i64 d.nn.nw, .int .i64 d.nn.limit, .slice (some ⟨bL, 0, none⟩) (d.nn.ns * d.nn.nw : Nat) cL, .slice (some ⟨bW, 0, none⟩) d.nn.ns cW, .bool (!d.nn.on), .bool d.nn.armed, .int .i64 d.nn.after, .int .u32 (w32 d.nn.seed), .int .i64 d.nn.ops] 29)) q S g bL cL bW cW d from by
    have hn := (Below.refl w.heap.size w).alloc (Nat.le_refl _) (.cells #[.int .i64 d.nn.ns, .int .i64 d.nn.nw, .int .i64 d.nn.limit, .slice (some ⟨bL, 0, none⟩) (d.nn.ns * d.nn.nw : Nat) cL, .slice (some ⟨bW, 0, none⟩) d.nn.ns cW, .bool (!d.nn.on), .bool d.nn.armed, .int .i64 d.nn.after, .int .u32 (w32 d.nn.seed), .int .i64 d.nn.ops] 29)
    exact ⟨h.new hn, hr.new hn, BoxAt.mk_new _ _ _, hn⟩)
  have ens : d.nn.ns = ns := hns
  have enw : d.nn.nw = nw := hnw
  have HE := Lib.hid (And.intro ens enw)
  unfold refX refV
  clear h hr hns hnw hM hMd hz ens enw
  obtain ⟨DN, hDN⟩ : ∃ DN, d.nn = DN := ⟨_, rfl⟩
  have HDN := Lib.hid hDN
  rw [hDN] at HP0 HE ⊢
  clear hDN
  go_enter Try.func17, Try.ntmps17
  go_upto_region 1 with fail
  have hp := HP0.out
  clear HP0
  generalize hwA : World.alloc w _ = wA at hp ⊢
  have HP := Lib.hid hp
  clear hp hwA
  go_wp2
  go_loopg [5, 6, 7] ns (fun gg v5 v6 v7 wr => ∃ i : Nat, i + gg = ns ∧ v5 = .int .i64 i ∧ Aside (SameAt w wr q S g bL cL bW cW d))
  case atStart => exact ⟨0, by omega, rfl, HP.out⟩
  case round =>
    clear HP
    obtain ⟨i, hig, rfl, HR⟩ := hrel
    have hx := HR.out.box
    rw [HDN.out] at hx
    have c0 := hx.cell 0 _ rfl
    rw [HE.out.1] at c0
    cases gk with
    | zero =>
      obtain rfl : i = ns := by omega
      have c5 := hx.cell 5 _ rfl
      have c9 := hx.cell 9 _ rfl
      have HON := Lib.hid (fun wz (hz : DevAt wz q S g d) => on_any hz)
      have HOP := Lib.hid (fun wz (hz : DevAt wz q S g d) => ops_any hz)
      rw [show DN.ops = d.ops by rw [← HDN.out]; rfl] at c9
      rw [show DN.on = d.on by rw [← HDN.out]; rfl] at c5
      obtain ⟨on, hon⟩ : ∃ on, d.on = on := ⟨_, rfl⟩
      rw [hon] at c5 HON
      clear hx hon
      cases on
      all_goals
        go_wp2
        go_quiet (first
          | (go_at_call 55; exact quietly (HON.out _ (HR.out.dev.drewN _)))
          | (go_at_call 46; exact quietly (HOP.out _ (HR.out.dev.drewN _))))
        go_wp2
        go_ret
        exact ⟨rfl, below_dn HR.out.b _⟩
    | succ g1 =>
      have hi : i < ns := by omega
      have i0 : (0 : Int) ≤ (i : Int) := by omega
      have i1 : (i : Int) < (ns : Int) := by omega
      have HI := Lib.hid hi
      have hsec := sector_any HR.out.dev (i : Int)
      rw [show d.has (i : Int) = true by unfold Dev.has; rw [HMD.out.2.1]; simp; omega] at hsec
      simp only [if_true, Int.toNat_natCast] at hsec
      rw [HMD.out.2.2.1] at hsec
      have HSEC := Lib.hid hsec
      have hzz := HMD.out.2.2.2.2
      rw [HMD.out.2.1, HMD.out.2.2.1] at hzz
      have HZZ := Lib.hid hzz
      clear hsec hx hzz
      go_upto_region 5 with (first
        | (go_at_call 21; go_must (
            refine HSEC.out.mono ?_
            rintro e w5 ⟨v5, rfl, ho5, hb5⟩
            obtain ⟨G5, k5, rfl, h5a, h5b⟩ := own_some ho5 (by have := HZZ.out; omega)
            have hg5 : ∀ t, t < nw → w5.cell? ⟨G5, t, none⟩ = some (.int .u32 (w32 (d.word i t))) := fun t ht => by
              rw [ho5.cellAt t (by omega)]
              unfold rowB Dev.ws
              rw [List.getElem?_map, List.getElem?_map, List.getElem?_range (by rw [HMD.out.2.2.1]; exact ht)]; rfl
            have hP5 := HR.out.new hb5
            have H6 := Lib.hid (And.intro hP5 hg5)
            have hx := hP5.box
            rw [HDN.out] at hx
            have c1 := hx.cell 1 _ rfl
            have c4 := hx.cell 4 _ rfl
            rw [HE.out.2] at c1
            rw [HE.out.1] at c4
            have cw := hP5.ref.cw i (by show i < d.ns; rw [HMD.out.2.1]; exact HI.out)
            have HWO := Lib.hid (fun wz (hz : DevAt wz q S g d) => worn_any hz (i : Int))
            rw [show d.wornS (i : Int) = d.worn i by unfold Dev.wornS Dev.has; rw [HMD.out.2.1]; simp; have := HI.out; omega] at HWO
            change w5.cell? ⟨bW, i, none⟩ = some (Value.int .i64 (d.worn i)) at cw
            clear ho5 hb5 h5a h5b hP5 hg5 hx c0))
        | fail)
      go_quiet (first
        | (go_at_call 22; exact quietly (HWO.out _ (H6.out.1.dev.drewN _))))
      go_wp2
      go_loopg [7] nw (fun gg v7 wr3 => ∃ j : Nat, j + gg = nw ∧ v7 = .int .i64 j ∧ Aside (SameAt w wr3 q S g bL cL bW cW d ∧ ∀ t, t < nw → wr3.cell? ⟨G5, t, none⟩ = some (.int .u32 (w32 (d.word i t)))))
      case atStart => exact ⟨0, by omega, rfl, H6.out.1.new (below_dn (Below.refl _ _) _), H6.out.2⟩
      case round =>
        clear c1 c4 cw
        obtain ⟨j, hjg, rfl, HR3⟩ := hrel
        cases gk with
        | zero =>
          obtain rfl : j = nw := by omega
          have hzb := HZZ.out
          go_wp2
          go_roundg g1
          case measure => omega
          case rel => exact ⟨i + 1, by omega, by go_num, HR3.out.1⟩
        | succ g3 =>
          have hj : j < nw := by omega
          have hx := HR3.out.1.box
          rw [HDN.out] at hx
          have c1 := hx.cell 1 _ rfl
          have c3 := hx.cell 3 _ rfl
          rw [HE.out.2] at c1
          rw [show DN.ns * DN.nw = M by rw [← HDN.out]; exact HMD.out.1] at c3
          have hiI := HI.out
          have hzz := HZZ.out
          obtain ⟨mm, hmm⟩ : ∃ mm, i * nw = mm := ⟨_, rfl⟩
          obtain ⟨tt, htt⟩ : ∃ tt, mm + j = tt := ⟨_, rfl⟩
          have hmb : i * nw ≤ 64 * 1024 := Nat.mul_le_mul (by omega) (by omega)
          have m1 := wrap_nat ((i : Int) * (nw : Int)) mm (by rw [← hmm]; simp) (by omega)
          have m2 := wrap_nat ((mm : Int) + (j : Int)) tt (by omega) (by omega)
          have tl : tt < M := by have := flat_lt ns nw i j hiI hj; have := HMD.out.2.2.2.1; omega
          have q0 : (0 : Int) ≤ (tt : Int) := by omega
          have q1 : (tt : Int) < (M : Int) := by omega
          have j0 : (0 : Int) ≤ (j : Int) := by omega
          have j1 : (j : Int) < (nw : Int) := by omega
          have cb := HR3.out.1.ref.cl i j (by show i < d.ns; rw [HMD.out.2.1]; exact hiI) (by show j < d.nw; rw [HMD.out.2.2.1]; exact hj)
          rw [show i * d.nn.nw + j = tt by show i * d.nw + j = tt; rw [HMD.out.2.2.1, hmm, htt]] at cb
          change wr.cell? ⟨bL, tt, none⟩ = some (.int .u32 (w32 (d.word i j))) at cb
          have cn := HR3.out.2 j hj
          clear hx hmm htt hmb hiI hj
          go_wp2
          go_quiet (fail)
          go_wp2
          go_roundg g3
          case measure => omega
          case rel => exact ⟨j + 1, by omega, by go_num, HR3.out.1.new (below_dn (Below.refl _ _) _), HR3.out.2⟩
end Go.Proofs.Ytkbmgilceioieaa
