/- FlashBits' walk. -/
import Derived.Test.YtkbmgilceioieaaGH
import Derived.Test.YtkbmgilceioieaaBl
import Derived.Deep.Cut
import Derived.Deep.CutRange
namespace Go.Proofs.Ytkbmgilceioieaa
open Go.RowKit

theorem run_field29 (a0 a1 a2 : Value) (s : Option Addr) (l c : Nat) (a4 a5 a6 a7 a8 a9 : Value) (w : World) : (Instr.field 29 (.agg #[a0, a1, a2, .slice s l c, a4, a5, a6, a7, a8, a9]) 3).run Try.prog w = .ok (.slice s l c) w := by
  simp [Instr.field, run_underlying Try.underlying29, go_sem, part, asAgg]
set_option maxRecDepth 100000 in
theorem bits_guard (x1 x2 x3 : Int) (sp : Option Addr) (n cap : Nat) (w : World) (h : 60 < n ∨ x1 < 1 ∨ 8 < x1 ∨ x2 < 1 ∨ 30 < x2) :
    Calls Try.prog 4 #[.agg #[.int .i64 x1, .int .i64 x2, .int .i64 x3], .slice sp n cap] w fun e w' => e = .returned (.bool true) ∧ Below w.heap.size w w' := by
  by_cases h1 : 60 < n
  · have h1' : (60 : Int) < (n : Int) := by omega
    clear h h1
    go_enter Try.func4, Try.ntmps4
    go_wp2
    go_ret
    exact ⟨rfl, (Below.refl _ _).alloc (Nat.le_refl _) _⟩
  have h1' : ¬ (60 : Int) < (n : Int) := by omega
  by_cases h2 : x1 < 1
  · clear h h1
    go_enter Try.func4, Try.ntmps4
    go_wp2
    go_ret
    exact ⟨rfl, (Below.refl _ _).alloc (Nat.le_refl _) _⟩
  by_cases h3 : 8 < x1
  · clear h h1
    go_enter Try.func4, Try.ntmps4
    go_wp2
    go_ret
    exact ⟨rfl, (Below.refl _ _).alloc (Nat.le_refl _) _⟩
  by_cases h4 : x2 < 1
  · clear h h1
    go_enter Try.func4, Try.ntmps4
    go_wp2
    go_ret
    exact ⟨rfl, (Below.refl _ _).alloc (Nat.le_refl _) _⟩
  have h5 : 30 < x2 := by omega
  clear h h1
  go_enter Try.func4, Try.ntmps4
  go_wp2
  go_ret
  exact ⟨rfl, (Below.refl _ _).alloc (Nat.le_refl _) _⟩
theorem fresh_ok (ns nw : Nat) (lim : Int) (h : 0 ≤ lim ∧ lim ≤ 1048576) : (Dev.fresh ns nw lim).okE := by
  refine ⟨⟨by show (0 : Int) ≤ 0; omega, by show (0 : Int) ≤ 1000000; omega, by show (-9223372036854775808 : Int) ≤ 0; omega, by show (0 : Int) ≤ _; omega⟩, h.2, fun i => by show (0 : Int) ≤ 0; omega⟩
/-- The beginning: both devices are new. -/
theorem PlayAt.start {w0 w1 w2 : World} {q S : Nat} {g : Nat → Nat} {bL bW cL cW : Nat} {D : Dev} {lx : List Value} (hnn : D.nn = D) (hd : DevAt w1 q S g D) (hq : ∀ j, OwnD q S g D.ns j → w0.heap.size < j) (hb1 : Below w0.heap.size w0 w1) (hx : BoxAt w1 w0.heap.size lx)
    (hr : RefIn w2 bL bW D) (h1 : w1.heap.size ≤ bL) (h2 : w1.heap.size ≤ bW) (hb2 : Below w1.heap.size w1 w2) (c : Array Value) (t : TypeId) (hc : c.toList = lX bL cL bW cW D) :
    PlayAt w0 (w2.alloc (.cells c t)) q S g w2.heap.size bL cL bW cW D lx := by
  have hn := (Below.refl w2.heap.size w2).alloc (Nat.le_refl _) (.cells c t)
  have lt : ∀ j, OwnD q S g D.ns j → j < w1.heap.size := hd.own_lt
  have l1 := hr.ltL
  have l2 := hr.ltW
  have sz := hb2.size
  have l0 := hx.lt
  refine ⟨(hd.new hb2).new hn, by rw [hnn]; exact hr.new hn, by rw [hnn, ← hc]; exact BoxAt.mk_new _ _ _, (hx.new hb2).new hn, hq, ⟨fun e => by have := lt _ e; omega, fun e => by have := lt _ e; omega, fun e => by have := lt _ e; omega, by omega, by omega, by omega, by omega, by omega⟩, ?_⟩
  exact (hb1.trans (hb2.mono (by omega))).trans (hn.mono (by omega))

set_option maxRecDepth 100000 in
set_option maxHeartbeats 4000000 in
theorem law_bits_in (ns nw : Nat) (x3 : Int) (sp : Option Addr) (b off cap : Nat) (O : List FOp) (w : World) (h1 : O.length ≤ 60) (h2 : 1 ≤ ns ∧ ns ≤ 8) (h3 : 1 ≤ nw ∧ nw ≤ 30) (hsp : 0 < O.length → sp = some ⟨b, off, none⟩) (hO : OpsAt w b off O) :
    Calls Try.prog 4 #[.agg #[.int .i64 ns, .int .i64 nw, .int .i64 x3], .slice sp O.length cap] w fun e w' => e = .returned (.bool true) ∧ Below w.heap.size w w' := by
  obtain ⟨n, hn⟩ : ∃ n, O.length = n := ⟨_, rfl⟩
  obtain ⟨D0, hD0⟩ : ∃ D0, D0 = Dev.fresh ns nw 1000 := ⟨_, rfl⟩
  have HN := Lib.hid (And.intro hn hD0)
  have HST := Lib.hid (show ∀ k, k ≤ n → GoodF D0 (stF D0 O k) k ∧ (stF D0 O k).okE from by
    rw [← hn, hD0]; exact good_st (fresh_ok ns nw 1000 (by omega)) rfl hO.ok h1)
  have HX := Lib.hid (BoxAt.mk_new w #[.int .i64 ns, .int .i64 nw, .int .i64 x3] 23)
  have HXB := Lib.hid (show Below w.heap.size w _ from (Below.refl _ w).alloc (Nat.le_refl _) (.cells #[.int .i64 ns, .int .i64 nw, .int .i64 x3] 23))
  have HO := Lib.hid (fun (w2 : World) (c : Below w.heap.size w w2) => hO.below c)
  have HSP := Lib.hid (And.intro hsp (And.intro h2 h3))
  have hg1 : ¬ (60 : Int) < (n : Int) := by omega
  have hg2 : ¬ (ns : Int) < 1 := by omega
  have hg3 : ¬ (8 : Int) < (ns : Int) := by omega
  have hg4 : ¬ (nw : Int) < 1 := by omega
  have hg5 : ¬ (30 : Int) < (nw : Int) := by omega
  have HF := Lib.hid (show ∀ w1, Calls Try.prog 12 #[.int .i64 ns, .int .i64 nw, .int .i64 1000] w1 fun e w' => ∃ q S g, e = .returned (.tuple #[.pointer (some ⟨q, 0, none⟩), .int .i64 0]) ∧ DevAt w' q S g D0 ∧ (∀ j, OwnD q S g ns j → w1.heap.size ≤ j) ∧ Below w1.heap.size w1 w' from fun w1 => by rw [hD0]; exact new_ok ns nw 1000 w1 (by unfold okSize; omega))
  have HR := Lib.hid (show ∀ w1, Calls Try.prog 11 #[.int .i64 ns, .int .i64 nw, .int .i64 1000] w1 fun e w' => ∃ bL cL bW cW, e = .returned (.tuple #[.agg #[.int .i64 D0.ns, .int .i64 D0.nw, .int .i64 D0.limit, .slice (some ⟨bL, 0, none⟩) (D0.ns * D0.nw : Nat) cL, .slice (some ⟨bW, 0, none⟩) D0.ns cW, .bool (!D0.on), .bool D0.armed, .int .i64 D0.after, .int .u32 (w32 D0.seed), .int .i64 D0.ops], .int .i64 0]) ∧ RefIn w' bL bW D0 ∧ w1.heap.size ≤ bL ∧ w1.heap.size ≤ bW ∧ Below w1.heap.size w1 w' from fun w1 => by rw [hD0]; exact newR_ok ns nw 1000 w1 (by unfold okSize; omega))
  rw [hn]
  clear hn hD0 h1 h2 h3 hsp hO
  go_enter Try.func4, Try.ntmps4
  go_upto_region 7 with (first
    | (go_at_call 12; go_must (
        refine (HF.out _).mono ?_
        rintro e w1 ⟨q, S, g, rfl, hd, hq, hb⟩
        have hx1 := HX.out.new hb
        have H1 := Lib.hid (And.intro hd (And.intro hq (And.intro hx1 (HXB.out.trans (hb.mono HXB.out.size)))))
        have c0 := hx1.cell 0 _ rfl; have c1 := hx1.cell 1 _ rfl
        clear hd hq hb hx1))
    | (go_at_call 11; go_must (
        refine (HR.out _).mono ?_
        rintro e w2 ⟨bL, cL, bW, cW, rfl, hr, hL, hW, hb2⟩
        have H2 := Lib.hid (And.intro hr (And.intro hL (And.intro hW hb2)))
        clear hr hL hW hb2 c0 c1))
    | fail)
  have hP0 : PlayAt w _ q S g w2.heap.size bL cL bW cW D0 [.int .i64 ns, .int .i64 nw, .int .i64 x3] := PlayAt.start (by rw [HN.out.2]; rfl) H1.out.1 (fun j hj => by have := H1.out.2.1 j (by rw [HN.out.2] at hj; exact hj); rw [World.size_alloc] at this; omega) H1.out.2.2.2 H1.out.2.2.1 H2.out.1 H2.out.2.1 H2.out.2.2.1 H2.out.2.2.2 #[.int .i64 D0.ns, .int .i64 D0.nw, .int .i64 D0.limit, .slice (some ⟨bL, 0, none⟩) (D0.ns * D0.nw : Nat) cL, .slice (some ⟨bW, 0, none⟩) D0.ns cW, .bool (!D0.on), .bool D0.armed, .int .i64 D0.after, .int .u32 (w32 D0.seed), .int .i64 D0.ops] 29 rfl
  generalize hwN : World.alloc w2 _ = wN at hP0 ⊢
  generalize w2.heap.size = N at hP0 ⊢
  have HP0 := Lib.hid hP0
  clear hP0 hwN H1 H2 HF HR HX HXB
  go_wp2
  go_loopg [9, 10, 11, 12, 13, 14, 15] n (fun gg v9 v10 v11 v12 v13 v14 v15 wr => ∃ k : Nat, k + gg = n ∧ v9 = .int .i64 k ∧ Aside (∃ bL cL bW cW, PlayAt w wr q S g N bL cL bW cW (stF D0 O k) [.int .i64 ns, .int .i64 nw, .int .i64 x3]))
  case atStart => exact ⟨0, by omega, rfl, bL, cL, bW, cW, HP0.out⟩
  case round =>
    clear HP0
    obtain ⟨k, hkg, rfl, HR⟩ := hrel
    obtain ⟨bL, cL, bW, cW, hP⟩ := HR.out
    cases gk with
    | zero =>
      obtain rfl : k = n := by omega
      have HP := Lib.hid hP.b
      clear hP HR
      go_wp2_with (first
        | (go_at_call 13; go_must (
            refine (aliveF_any _).mono ?_
            rintro e w1 ⟨rfl, hb⟩
            have HB := Lib.hid (HP.out.trans (hb.mono HP.out.size))
            clear hb))
        | fail)
      go_ret
      exact ⟨rfl, HB.out⟩
    | succ g1 =>
      have hk : k < n := by omega
      obtain rfl : sp = some ⟨b, off, none⟩ := HSP.out.1 (by rw [HN.out.1]; omega)
      obtain ⟨gA, okA⟩ := HST.out k (by omega)
      obtain ⟨gB, okB⟩ := HST.out (k + 1) (by omega)
      have hDs : stF D0 O (k + 1) = (stF D0 O k).step (opF O k) := rfl
      have HK1 := Lib.hid (show ∀ bL cL bW cW wr, PlayAt w wr q S g N bL cL bW cW (stF D0 O (k + 1)) [.int .i64 ns, .int .i64 nw, .int .i64 x3] → PlayAt w wr q S g N bL cL bW cW (stF D0 O (k + 1)) [.int .i64 ns, .int .i64 nw, .int .i64 x3] from fun _ _ _ _ _ h => h)
      obtain ⟨DA, hDA⟩ : ∃ DA, stF D0 O k = DA := ⟨_, rfl⟩
      rw [hDA] at gA okA hP hDs
      have hwr := (HO.out w (Below.refl _ _)).ok k (by rw [HN.out.1]; exact hk)
      have hn0 : D0.ns = ns ∧ D0.nw = nw := by rw [HN.out.2]; exact ⟨rfl, rfl⟩
      have hzz := HSP.out.2
      obtain ⟨M, hM⟩ : ∃ M, ns * nw = M := ⟨_, rfl⟩
      have HMM := Lib.hid hM
      have hMA : DA.nn.ns * DA.nn.nw = M := by show DA.ns * DA.nw = M; rw [gA.ns, gA.nw, hn0.1, hn0.2]; exact hM
      have hMB : (DA.step (opF O k)).nn.ns * (DA.step (opF O k)).nn.nw = M := by rw [← hDs]; show (stF D0 O (k + 1)).ns * (stF D0 O (k + 1)).nw = M; rw [gB.ns, gB.nw, hn0.1, hn0.2]; exact hM
      have HDK := Lib.hid (And.intro (show DA.kept (DA.step (opF O k)) from step_kept okA (opF O k) hwr) (And.intro hDs (And.intro okA (And.intro (show DA.nw ≤ 500 by rw [gA.nw, hn0.2]; omega) (And.intro hwr (And.intro (show DA.ns = ns ∧ DA.nw = nw from ⟨gA.ns.trans hn0.1, gA.nw.trans hn0.2⟩) hMB))))))
      have HMA := Lib.hid hMA
      have HKN := Lib.hid (show k < O.length by rw [HN.out.1]; exact hk)
      have H0 := Lib.hid (And.intro hP (HO.out _ hP.b))
      have k0 : (0 : Int) ≤ (k : Int) := by omega
      have k1 : (k : Int) < (n : Int) := by omega
      have hbx := hP.box
      rw [show lX bL cL bW cW DA.nn = [.int .i64 DA.nn.ns, .int .i64 DA.nn.nw, .int .i64 DA.nn.limit, .slice (some ⟨bL, 0, none⟩) M cL, .slice (some ⟨bW, 0, none⟩) DA.nn.ns cW, .bool (!DA.nn.on), .bool DA.nn.armed, .int .i64 DA.nn.after, .int .u32 (w32 DA.nn.seed), .int .i64 DA.nn.ops] by rw [← hMA]] at hbx
      have c0 := hbx.cell 0 _ rfl; have c1 := hbx.cell 1 _ rfl; have c2 := hbx.cell 2 _ rfl; have c3 := hbx.cell 3 _ rfl; have c4 := hbx.cell 4 _ rfl; have c5 := hbx.cell 5 _ rfl; have c6 := hbx.cell 6 _ rfl; have c7 := hbx.cell 7 _ rfl; have c8 := hbx.cell 8 _ rfl; have c9 := hbx.cell 9 _ rfl
      have HCP := Lib.hid (show Calls Try.prog 23 #[.agg #[.int .i64 DA.nn.ns, .int .i64 DA.nn.nw, .int .i64 DA.nn.limit, .slice (some ⟨bL, 0, none⟩) M cL, .slice (some ⟨bW, 0, none⟩) DA.nn.ns cW, .bool (!DA.nn.on), .bool DA.nn.armed, .int .i64 DA.nn.after, .int .u32 (w32 DA.nn.seed), .int .i64 DA.nn.ops]] wr fun e w' => ∃ bL' cL' bW' cW', e = .returned (.agg #[.int .i64 DA.nn.ns, .int .i64 DA.nn.nw, .int .i64 DA.nn.limit, .slice (some ⟨bL', 0, none⟩) M cL', .slice (some ⟨bW', 0, none⟩) DA.nn.ns cW', .bool (!DA.nn.on), .bool DA.nn.armed, .int .i64 DA.nn.after, .int .u32 (w32 DA.nn.seed), .int .i64 DA.nn.ops]) ∧ RefIn w' bL' bW' DA.nn ∧ wr.heap.size ≤ bL' ∧ wr.heap.size ≤ bW' ∧ Below wr.heap.size wr w' from by rw [← hMA]; exact copyR_any hP.ref cL cW)
      clear hP HR gA gB okA okB hDs hDA hwr hn0 hzz hM hMA hMB hbx
      have hfld := run_field29
      go_upto_region 11 with (first
        | (go_at_call 23; go_must (
            refine HCP.out.mono ?_
            rintro e w1 ⟨bL2, cL2, bW2, cW2, rfl, hr2, h2L, h2W, hb2⟩
            have hP1 := H0.out.1.new hb2
            have H1k := Lib.hid (And.intro hP1 (And.intro hr2 (And.intro h2L h2W)))
            obtain ⟨p0, p1, p2, p3⟩ := (HO.out _ hP1.b).c k HKN.out
            have hbx := hP1.box
            clear c0 c1 c2 c3 c4 c5 c6 c7 c8 c9
            have c0 := hbx.cell 0 _ rfl; have c1 := hbx.cell 1 _ rfl; have c2 := hbx.cell 2 _ rfl; have c3 := hbx.cell 3 _ rfl; have c4 := hbx.cell 4 _ rfl; have c5 := hbx.cell 5 _ rfl; have c6 := hbx.cell 6 _ rfl; have c7 := hbx.cell 7 _ rfl; have c8 := hbx.cell 8 _ rfl; have c9 := hbx.cell 9 _ rfl
            clear hr2 h2L h2W hb2 hP1 hbx))
        | fail)
      clear hfld HCP
      refine wp_region_held_drew (S := fun w' => w'.cell? ⟨b, off + k * 4, none⟩ = some (.int .i64 (opF O k).kind) ∧ w'.cell? ⟨b, off + k * 4 + 1, none⟩ = some (.int .i64 (opF O k).sec) ∧ w'.cell? ⟨b, off + k * 4 + 2, none⟩ = some (.int .i64 (opF O k).wrd) ∧ w'.cell? ⟨b, off + k * 4 + 3, none⟩ = some (.int .u32 (w32 (opF O k).w))) (by kernel_rfl) ⟨p0, p1, p2, p3⟩ (fun hS => ?_)
      refine wpAnyH_take (i := 0) (oi := { dst := some 71, op := .move (.tmp 5), type := 32, pos := "law.go:106", after := #[], guard := none }) (v := ?_) rfl (by kernel_rfl) (by kernel_rfl) (by kernel_rfl) (fun _ _ _ h => h) (Or.inl ⟨by rfl, ?_⟩) hS ?_
      rotate_left 1
      · intro w hw; obtain ⟨s0, s1, s2, s3⟩ := hw; go_simp; try (with_reducible rfl)
      simp only [Act.put, List.setIfInBounds_toArray, List.set_cons_zero, List.set_cons_succ]
      refine wpAnyH_take (i := 2) (oi := { dst := some 73, op := .move (.tmp 1), type := 24, pos := "law.go:106", after := #[], guard := none }) (v := ?_) rfl (by kernel_rfl) (by kernel_rfl) (by kernel_rfl) (fun _ _ _ h => h) (Or.inl ⟨by rfl, ?_⟩) hS ?_
      rotate_left 1
      · intro w hw; obtain ⟨s0, s1, s2, s3⟩ := hw; go_simp; try (with_reducible rfl)
      simp only [Act.put, List.setIfInBounds_toArray, List.set_cons_zero, List.set_cons_succ]
      refine wpAnyH_take (i := 3) (oi := { dst := some 74, op := .move (.tmp 9), type := 3, pos := "law.go:106", after := #[], guard := none }) (v := ?_) rfl (by kernel_rfl) (by kernel_rfl) (by kernel_rfl) (fun _ _ _ h => h) (Or.inl ⟨by rfl, ?_⟩) hS ?_
      rotate_left 1
      · intro w hw; obtain ⟨s0, s1, s2, s3⟩ := hw; go_simp; try (with_reducible rfl)
      simp only [Act.put, List.setIfInBounds_toArray, List.set_cons_zero, List.set_cons_succ]
      refine wpAnyH_take (i := 4) (oi := { dst := some 75, op := .indexAddr 24 (.tmp 73) (.tmp 74), type := 0, pos := "law.go:106", after := #[{ on := 2, ground := .data }, { on := 3, ground := .data }], guard := none }) (v := ?_) rfl (by kernel_rfl) (by kernel_rfl) (by kernel_rfl) (fun _ _ _ h => h) (Or.inl ⟨by rfl, ?_⟩) hS ?_
      rotate_left 1
      · intro w hw; obtain ⟨s0, s1, s2, s3⟩ := hw; go_simp; try (with_reducible rfl)
      simp only [Act.put, List.setIfInBounds_toArray, List.set_cons_zero, List.set_cons_succ]
      refine wpAnyH_take (i := 5) (oi := { dst := some 76, op := .load 40 (.tmp 75), type := 40, pos := "law.go:106", after := #[{ on := 4, ground := .data }], guard := none }) (v := ?_) rfl (by kernel_rfl) (by kernel_rfl) (by kernel_rfl) (fun _ _ _ h => h) (Or.inl ⟨by rfl, ?_⟩) hS ?_
      rotate_left 1
      · intro w hw; obtain ⟨s0, s1, s2, s3⟩ := hw; go_simp; try (with_reducible rfl)
      simp only [Act.put, List.setIfInBounds_toArray, List.set_cons_zero, List.set_cons_succ]
      refine wpAnyH_ready (rs := [1]) (by kernel_rfl) (by simp) (AllReadyH.cons (o := { dst := some 72, op := .load 29 (.tmp 7), type := 29, pos := "law.go:106", after := #[], guard := none }) rfl (fun K hK => ?_) AllReadyH.nil)
      go_simp
      refine hK.out _ _ hS (fun hHeld => ?_)
      clear hK K
      try simp only [Act.put, List.setIfInBounds_toArray, List.set_cons_zero, List.set_cons_succ]
      refine wpAnyH_ready (rs := [6]) (by kernel_rfl) (by simp) (AllReadyH.cons (o := { dst := some 77, op := .call { callee := .value (.func 14), args := #[.tmp 71, .tmp 72, .tmp 76], argTypes := #[32, 29, 40] }, type := 37, pos := "law.go:106", after := #[{ on := 0, ground := .data }, { on := 1, ground := .data }, { on := 5, ground := .data }], guard := none }) rfl (fun K hK => ?_) AllReadyH.nil)
      go_simp
      refine (do_any (H1k.out.1.dev.drewN 1) (H1k.out.1.ref.drewN 1) HDK.out.2.2.1 HDK.out.2.2.2.1 H1k.out.1.ne.1 H1k.out.1.ne.2.1 (opF O k) HDK.out.2.2.2.2.1 cL cW).mono ?_
      rintro e w3 ⟨bL', cL', bW', cW', rfl, hd3, hr3, e1, e2, hc3⟩
      have hc3' : Ch (OwnD q S g DA.ns) w1 w3 := ((Ch.refl _ _).drewN 1).trans hc3
      have e1' : bL' = bL ∨ w1.heap.size ≤ bL' := e1
      have e2' : bW' = bW ∨ w1.heap.size ≤ bW' := e2
      have hP4 := H1k.out.1.next HDK.out.1 cL' cW' hd3 hr3 e1' e2' hc3'
      have hnl := H1k.out.2.1.ltL
      have hnl2 := H1k.out.2.1.ltW
      have hx1 := H1k.out.2.2
      have hx2 := H0.out.1.ref.ltL
      have hx3 := H0.out.1.box.lt
      have hown := H0.out.1.dev.own_lt
      have hr4 := (H1k.out.2.1.keep hc3' (fun e => by have := hown _ e; omega) (fun e => by have := hown _ e; omega)).keep (ch_put w3 N (.int .i64 (DA.step (opF O k)).nn.ns) (.int .i64 (DA.step (opF O k)).nn.nw) (.int .i64 (DA.step (opF O k)).nn.limit) (.slice (some ⟨bL', 0, none⟩) ((DA.step (opF O k)).nn.ns * (DA.step (opF O k)).nn.nw : Nat) cL') (.slice (some ⟨bW', 0, none⟩) (DA.step (opF O k)).nn.ns cW') (.bool (!(DA.step (opF O k)).nn.on)) (.bool (DA.step (opF O k)).nn.armed) (.int .i64 (DA.step (opF O k)).nn.after) (.int .u32 (w32 (DA.step (opF O k)).nn.seed)) (.int .i64 (DA.step (opF O k)).nn.ops)) (by omega) (by omega)
      have hne4 : bL' ≠ bL2 ∧ bL' ≠ bW2 := ⟨by rcases e1' with e | e <;> omega, by rcases e1' with e | e <;> omega⟩
      have H4 := Lib.hid (And.intro hP4 (And.intro hr4 hne4))
      have hbx := H1k.out.1.box.keep hc3' H1k.out.1.ne.2.2.1
      have hb3 : Below w.heap.size w w3 := H1k.out.1.b.trans (hc3'.below (fun jj hj e => by have := H1k.out.1.hq _ e; omega) H1k.out.1.b.size)
      obtain ⟨o0, o1, o2, o3⟩ := (HO.out w3 hb3).c k HKN.out
      obtain ⟨r0, r1, r2, r3⟩ := (HO.out _ hP4.b).c k HKN.out
      clear c0 c1 c2 c3 c4 c5 c6 c7 c8 c9
      have c0 := hbx.cell 0 _ rfl; have c1 := hbx.cell 1 _ rfl; have c2 := hbx.cell 2 _ rfl; have c3 := hbx.cell 3 _ rfl; have c4 := hbx.cell 4 _ rfl; have c5 := hbx.cell 5 _ rfl; have c6 := hbx.cell 6 _ rfl; have c7 := hbx.cell 7 _ rfl; have c8 := hbx.cell 8 _ rfl; have c9 := hbx.cell 9 _ rfl
      have f0 := hbx.fr 0; have f1 := hbx.fr 1; have f2 := hbx.fr 2; have f3 := hbx.fr 3; have f4 := hbx.fr 4; have f5 := hbx.fr 5; have f6 := hbx.fr 6; have f7 := hbx.fr 7; have f8 := hbx.fr 8; have f9 := hbx.fr 9
      dsimp only [refX, refV]
      clear hd3 hr3 e1 e2 e1' e2' hc3 hc3' hP4 hnl hnl2 hx1 hx2 hx3 hown hr4 hne4 hbx hb3
      try dsimp only
      refine hK.out _ _ ⟨o0, o1, o2, o3⟩ (fun hHeld => ?_)
      clear hK K
      try simp only [Act.put, List.setIfInBounds_toArray, List.set_cons_zero, List.set_cons_succ]
      refine wpAnyH_take (i := 7) (oi := { dst := some 70, op := .move (.tmp 77), type := 37, pos := "law.go:106", after := #[{ on := 6, ground := .data }], guard := none }) (v := ?_) rfl (by kernel_rfl) (by kernel_rfl) (by kernel_rfl) (fun _ _ _ h => h) (Or.inl ⟨by rfl, ?_⟩) ⟨o0, o1, o2, o3⟩ ?_
      rotate_left 1
      · intro w hw; obtain ⟨s0, s1, s2, s3⟩ := hw; go_simp; try (with_reducible rfl)
      simp only [Act.put, List.setIfInBounds_toArray, List.set_cons_zero, List.set_cons_succ]
      refine wpAnyH_take (i := 8) (oi := { dst := some 78, op := .extract (.tmp 70) 0, type := 29, pos := "law.go:106", after := #[{ on := 7, ground := .data }], guard := none }) (v := ?_) rfl (by kernel_rfl) (by kernel_rfl) (by kernel_rfl) (fun _ _ _ h => h) (Or.inl ⟨by rfl, ?_⟩) ⟨o0, o1, o2, o3⟩ ?_
      rotate_left 1
      · intro w hw; obtain ⟨s0, s1, s2, s3⟩ := hw; go_simp; try (with_reducible rfl)
      simp only [Act.put, List.setIfInBounds_toArray, List.set_cons_zero, List.set_cons_succ]
      refine wpAnyH_take (i := 9) (oi := { dst := some 79, op := .extract (.tmp 70) 1, type := 4, pos := "law.go:106", after := #[{ on := 7, ground := .data }, { on := 10, ground := .gcOnly Go.Departure.lateStores }], guard := none }) (v := ?_) rfl (by kernel_rfl) (by kernel_rfl) (by kernel_rfl) (fun _ _ _ h => h) (Or.inl ⟨by rfl, ?_⟩) ⟨o0, o1, o2, o3⟩ ?_
      rotate_left 1
      · intro w hw; obtain ⟨s0, s1, s2, s3⟩ := hw; go_simp; try (with_reducible rfl)
      simp only [Act.put, List.setIfInBounds_toArray, List.set_cons_zero, List.set_cons_succ]
      refine wpAnyH_ready (rs := [10]) (by kernel_rfl) (by simp) (AllReadyH.cons (o := { dst := none, op := .store 29 (.tmp 7) (.tmp 78), type := 0, pos := "law.go:106", after := #[{ on := 8, ground := .data }, { on := 6, ground := .chain }, { on := 0, ground := .phase }, { on := 1, ground := .phase }, { on := 2, ground := .phase }, { on := 3, ground := .phase }, { on := 4, ground := .phase }, { on := 5, ground := .phase }, { on := 6, ground := .phase }, { on := 7, ground := .phase }, { on := 8, ground := .phase }, { on := 9, ground := .textOnly Go.Departure.lateStores }], guard := none }) rfl (fun K hK => ?_) AllReadyH.nil)
      go_simp
      refine hK.out _ _ ⟨r0, r1, r2, r3⟩ (fun hHeld => ?_)
      clear hK K
      try simp only [Act.put, List.setIfInBounds_toArray, List.set_cons_zero, List.set_cons_succ]
      refine wpAnyH_done (by kernel_rfl) ?_ _
      have hP4 := H4.out.1
      have hr4 := H4.out.2.1
      clear c0 f0 c1 f1 c2 f2 c3 f3 c4 f4 c5 f5 c6 f6 c7 f7 c8 f8 c9 f9 o0 o1 o2 o3 p0 p1 p2 p3
      generalize hw4 : World.setCell _ _ _ = w4 at hP4 hr4 r0 r1 ⊢
      clear hw4
      obtain ⟨DB, hDB⟩ : ∃ DB, DA.step (opF O k) = DB := ⟨_, rfl⟩
      obtain ⟨r, r8, m1, m2, m3⟩ := mod8 (opF O k).kind
      obtain ⟨eb, heb⟩ : ∃ eb, ((opF O k).kind % 8 == 4) = eb := ⟨_, rfl⟩
      have me : (r8.tmod 8 == 4) = eb := by rw [m3]; exact heb
      have hkp := HDK.out.1
      have hnn := HDK.out.2.2.2.2.2.1
      have hmb := HDK.out.2.2.2.2.2.2
      have HMW := Lib.hid (show ∀ i j, j < nw → (eb = true → within (DA.word i j) (DB.word i j) = true ∧ ((i : Int) ≠ (opF O k).sec → DB.word i j = DA.word i j)) ∧ (eb = false → within (DB.word i j) (DA.word i j) = true) from fun i j hj => by
        rw [← hDB]
        refine ⟨fun h => ?_, fun h => ?_⟩
        · rw [h] at heb; exact step_erase (by simpa using heb) i j (by rw [hnn.2]; exact hj)
        · rw [h] at heb; exact step_other (by simpa using heb) i j)
      rw [hDB] at hP4 hkp hmb
      have HB := Lib.hid (And.intro (show DB.ns = ns ∧ DB.nw = nw from ⟨hkp.ns.trans hnn.1, hkp.nw.trans hnn.2⟩) (And.intro hnn (And.intro hmb (show stF D0 O (k + 1) = DB from HDK.out.2.1.trans hDB))))
      have H5 := Lib.hid (And.intro hP4 hr4)
      have HNE := Lib.hid H4.out.2.2
      have ax0 := hP4.xb.cell 0 _ rfl
      clear hP4 hr4 m3 heb hDB hkp hnn hmb r1 r2 r3 H4 H1k H0 HMA
      go_wp2
      clear r0
      go_loopg [12, 13, 14, 15] ns (fun gg v12 v13 v14 v15 wr2 => ∃ i : Nat, i + gg = ns ∧ v12 = .int .i64 i ∧ Aside (PlayAt w wr2 q S g N bL' cL' bW' cW' DB [.int .i64 ns, .int .i64 nw, .int .i64 x3] ∧ RefIn wr2 bL2 bW2 DA.nn))
      case atStart => exact ⟨0, by omega, rfl, H5.out⟩
      case round =>
        clear ax0 me m1 m2
        obtain ⟨i, hig, rfl, HR2⟩ := hrel
        have ax0 := HR2.out.1.xb.cell 0 _ rfl
        have ax1 := HR2.out.1.xb.cell 1 _ rfl
        cases gk with
        | zero =>
          obtain rfl : i = ns := by omega
          go_wp2
          go_roundg g1
          case measure => omega
          case rel => exact ⟨k + 1, by omega, by go_num, bL', cL', bW', cW', by rw [HB.out.2.2.2]; exact HR2.out.1⟩
        | succ g2 =>
          have hi : i < ns := by omega
          have i0 : (0 : Int) ≤ (i : Int) := by omega
          have i1 : (i : Int) < (ns : Int) := by omega
          have HI := Lib.hid hi
          have hsec := sector_any HR2.out.1.dev (i : Int)
          rw [show DB.has (i : Int) = true by unfold Dev.has; rw [HB.out.1.1]; simp; omega] at hsec
          simp only [if_true, Int.toNat_natCast] at hsec
          rw [HB.out.1.2] at hsec
          have HSEC := Lib.hid hsec
          clear hsec
          go_upto_region 19 with (first
            | (go_at_call 21; go_must (
                refine HSEC.out.mono ?_
                rintro e w5 ⟨v5, rfl, ho5, hb5⟩
                obtain ⟨G5, k5, rfl, h5a, h5b⟩ := own_some ho5 (by have := HSP.out.2; omega)
                have hg5 : ∀ t, t < nw → w5.cell? ⟨G5, t, none⟩ = some (.int .u32 (w32 (DB.word i t))) := fun t ht => by
                  rw [ho5.cellAt t (by omega)]
                  unfold rowB Dev.ws
                  rw [List.getElem?_map, List.getElem?_map, List.getElem?_range (by rw [HB.out.1.2]; exact ht)]; rfl
                have hP5 := HR2.out.1.new hb5
                have hr5 := HR2.out.2.new hb5
                have H6 := Lib.hid (And.intro hP5 (And.intro hr5 (And.intro hg5 (show G5 ≠ bL' by have := HR2.out.1.ref.ltL; omega))))
                clear ax0 ax1
                have ax1 := hP5.xb.cell 1 _ rfl
                clear ho5 hb5 h5a h5b hP5 hr5 hg5))
            | fail)
          go_wp2
          go_loopg [14, 15] nw (fun gg v14 v15 wr3 => ∃ j : Nat, j + gg = nw ∧ v14 = .int .i64 j ∧ Aside (PlayAt w wr3 q S g N bL' cL' bW' cW' DB [.int .i64 ns, .int .i64 nw, .int .i64 x3] ∧ RefIn wr3 bL2 bW2 DA.nn ∧ ∀ t, t < nw → wr3.cell? ⟨G5, t, none⟩ = some (.int .u32 (w32 (DB.word i t)))))
          case atStart => exact ⟨0, by omega, rfl, H6.out.1, H6.out.2.1, H6.out.2.2.1⟩
          case round =>
            clear ax1
            obtain ⟨j, hjg, rfl, HR3⟩ := hrel
            have ax1 := HR3.out.1.xb.cell 1 _ rfl
            cases gk with
            | zero =>
              obtain rfl : j = nw := by omega
              go_wp2
              go_roundg g2
              case measure => omega
              case rel => exact ⟨i + 1, by omega, by go_num, HR3.out.1, HR3.out.2.1⟩
            | succ g3 =>
              have hj : j < nw := by omega
              have hzz := HSP.out.2
              have hiI := HI.out
              obtain ⟨mm, hmm⟩ : ∃ mm, i * nw = mm := ⟨_, rfl⟩
              obtain ⟨tt, htt⟩ : ∃ tt, mm + j = tt := ⟨_, rfl⟩
              have hmb : i * nw ≤ 8 * 30 := Nat.mul_le_mul (by omega) (by omega)
              have m1 := wrap_nat ((i : Int) * (nw : Int)) mm (by rw [← hmm]; simp) (by omega)
              have m2 := wrap_nat ((mm : Int) + (j : Int)) tt (by omega) (by omega)
              have tl : tt < M := by have := flat_lt ns nw i j hiI hj; rw [HMM.out] at this; omega
              have q0 : (0 : Int) ≤ (tt : Int) := by omega
              have q1 : (tt : Int) < (M : Int) := by omega
              have j0 : (0 : Int) ≤ (j : Int) := by omega
              have j1 : (j : Int) < (nw : Int) := by omega
              have cw := HR3.out.2.1.cl i j (by show i < DA.ns; rw [HB.out.2.1.1]; exact hiI) (by show j < DA.nw; rw [HB.out.2.1.2]; exact hj)
              have cn := HR3.out.2.2 j hj
              have cb := HR3.out.1.ref.cl i j (by show i < DB.ns; rw [HB.out.1.1]; exact hiI) (by show j < DB.nw; rw [HB.out.1.2]; exact hj)
              have fb := HR3.out.1.ref.fl (i * DB.nw + j) (flat_lt _ _ _ _ (by show i < DB.ns; rw [HB.out.1.1]; exact hiI) (by show j < DB.nw; rw [HB.out.1.2]; exact hj))
              have eA : i * DA.nn.nw + j = tt := by show i * DA.nw + j = tt; rw [HB.out.2.1.2, hmm, htt]
              have eB : i * DB.nn.nw + j = tt := by show i * DB.nw + j = tt; rw [HB.out.1.2, hmm, htt]
              rw [eA] at cw
              rw [eB] at cb
              rw [show i * DB.nw + j = tt from eB] at fb
              have x3c := HR3.out.1.box.cell 3 _ rfl
              rw [HB.out.2.2.1] at x3c
              have hmw := HMW.out i j hj
              have HEB := Lib.hid eB
              have hop := (HO.out _ HR3.out.1.b).c k HKN.out
              have p1 := hop.2.1
              change wr.cell? ⟨bL2, tt, none⟩ = some (.int .u32 (w32 (DA.word i j))) at cw
              change wr.cell? ⟨bL', tt, none⟩ = some (.int .u32 (w32 (DB.word i j))) at cb
              obtain ⟨W, hW⟩ : ∃ W, DA.word i j = W := ⟨_, rfl⟩
              obtain ⟨Nn, hNn⟩ : ∃ Nn, DB.word i j = Nn := ⟨_, rfl⟩
              have HWN := Lib.hid (And.intro hW hNn)
              rw [hW] at cw
              rw [hNn] at cn cb
              rw [hW, hNn] at hmw
              obtain ⟨sec, hsec⟩ : ∃ sec, (opF O k).sec = sec := ⟨_, rfl⟩
              rw [hsec] at hmw p1
              have HJ := Lib.hid hj
              have hfell : ∀ wz, Calls Try.prog 25 #[.int .u32 (w32 W), .int .u32 0, .int .u32 (w32 Nn)] wz fun e w' => e = .returned (.bool (within Nn W && within 0#32 Nn)) ∧ wz = w' := fun wz => fell_any W 0#32 Nn wz
              rw [within_zero, Bool.and_true] at hfell
              have HFE := Lib.hid hfell
              have kk0 : (0 : Int) ≤ (k : Int) := by omega
              have kk1 : (k : Int) < (n : Int) := by have := HKN.out; rw [HN.out.1] at this; omega
              clear hmm htt hmb hzz hiI hj eA eB hop hW hNn hsec hfell
              cases eb
              · have hin := hmw.2 rfl
                have HIN := Lib.hid hin
                clear hmw hin
                go_upto_region 25 with (first
                  | (go_at_call 25; go_must (refine (HFE.out _).mono ?_; rintro e w' ⟨rfl, rfl⟩; rw [HIN.out]))
                  | fail)
                refine wp_region_g (fun w' => w'.cell? ⟨N, 3, none⟩ = some (.slice (some ⟨bL', 0, none⟩) M cL') ∧ w'.cell? ⟨w.heap.size, 1, none⟩ = some (.int .i64 nw) ∧ w'.cell? ⟨G5, j, none⟩ = some (.int .u32 (w32 Nn))) 13 (by kernel_rfl) ⟨x3c, ax1, cn⟩ (fun hS => ?_)
                refine wpAnyG_take (i := 0) (oi := { dst := some 161, op := .fieldAddr 29 (.tmp 7) 3, type := 0, pos := "law.go:118", after := #[], guard := none }) (v := ?_) rfl (by kernel_rfl) (by kernel_rfl) (by kernel_rfl) (by kernel_rfl) (fun _ _ _ h => h) (Or.inl ⟨by rfl, ?_⟩) hS ?_
                rotate_left 1
                · intro w hw; obtain ⟨s0, s1, s2⟩ := hw; go_simp; try (with_reducible rfl)
                simp only [Act.put, List.setIfInBounds_toArray, List.set_cons_zero, List.set_cons_succ]
                refine wpAnyG_take (i := 1) (oi := { dst := some 162, op := .load 25 (.tmp 161), type := 25, pos := "law.go:118", after := #[{ on := 0, ground := .data }], guard := none }) (v := ?_) rfl (by kernel_rfl) (by kernel_rfl) (by kernel_rfl) (by kernel_rfl) (fun _ _ _ h => h) (Or.inl ⟨by rfl, ?_⟩) hS ?_
                rotate_left 1
                · intro w hw; obtain ⟨s0, s1, s2⟩ := hw; go_simp; try (with_reducible rfl)
                simp only [Act.put, List.setIfInBounds_toArray, List.set_cons_zero, List.set_cons_succ]
                refine wpAnyG_take (i := 2) (oi := { dst := some 163, op := .move (.tmp 12), type := 3, pos := "law.go:118", after := #[], guard := none }) (v := ?_) rfl (by kernel_rfl) (by kernel_rfl) (by kernel_rfl) (by kernel_rfl) (fun _ _ _ h => h) (Or.inl ⟨by rfl, ?_⟩) hS ?_
                rotate_left 1
                · intro w hw; obtain ⟨s0, s1, s2⟩ := hw; go_simp; try (with_reducible rfl)
                simp only [Act.put, List.setIfInBounds_toArray, List.set_cons_zero, List.set_cons_succ]
                refine wpAnyG_take (i := 3) (oi := { dst := some 164, op := .fieldAddr 23 (.tmp 2) 1, type := 0, pos := "law.go:118", after := #[], guard := none }) (v := ?_) rfl (by kernel_rfl) (by kernel_rfl) (by kernel_rfl) (by kernel_rfl) (fun _ _ _ h => h) (Or.inl ⟨by rfl, ?_⟩) hS ?_
                rotate_left 1
                · intro w hw; obtain ⟨s0, s1, s2⟩ := hw; go_simp; try (with_reducible rfl)
                simp only [Act.put, List.setIfInBounds_toArray, List.set_cons_zero, List.set_cons_succ]
                refine wpAnyG_take (i := 4) (oi := { dst := some 165, op := .load 3 (.tmp 164), type := 3, pos := "law.go:118", after := #[{ on := 3, ground := .data }], guard := none }) (v := ?_) rfl (by kernel_rfl) (by kernel_rfl) (by kernel_rfl) (by kernel_rfl) (fun _ _ _ h => h) (Or.inl ⟨by rfl, ?_⟩) hS ?_
                rotate_left 1
                · intro w hw; obtain ⟨s0, s1, s2⟩ := hw; go_simp; try (with_reducible rfl)
                simp only [Act.put, List.setIfInBounds_toArray, List.set_cons_zero, List.set_cons_succ]
                refine wpAnyG_take (i := 5) (oi := { dst := some 166, op := .binOp .mul 3 (.tmp 163) (.tmp 165) 3, type := 3, pos := "law.go:118", after := #[{ on := 2, ground := .data }, { on := 4, ground := .data }], guard := none }) (v := ?_) rfl (by kernel_rfl) (by kernel_rfl) (by kernel_rfl) (by kernel_rfl) (fun _ _ _ h => h) (Or.inl ⟨by rfl, ?_⟩) hS ?_
                rotate_left 1
                · intro w hw; obtain ⟨s0, s1, s2⟩ := hw; go_simp; try (with_reducible rfl)
                simp only [Act.put, List.setIfInBounds_toArray, List.set_cons_zero, List.set_cons_succ]
                refine wpAnyG_take (i := 6) (oi := { dst := some 167, op := .move (.tmp 14), type := 3, pos := "law.go:118", after := #[], guard := none }) (v := ?_) rfl (by kernel_rfl) (by kernel_rfl) (by kernel_rfl) (by kernel_rfl) (fun _ _ _ h => h) (Or.inl ⟨by rfl, ?_⟩) hS ?_
                rotate_left 1
                · intro w hw; obtain ⟨s0, s1, s2⟩ := hw; go_simp; try (with_reducible rfl)
                simp only [Act.put, List.setIfInBounds_toArray, List.set_cons_zero, List.set_cons_succ]
                refine wpAnyG_take (i := 7) (oi := { dst := some 168, op := .binOp .add 3 (.tmp 166) (.tmp 167) 3, type := 3, pos := "law.go:118", after := #[{ on := 5, ground := .data }, { on := 6, ground := .data }], guard := none }) (v := ?_) rfl (by kernel_rfl) (by kernel_rfl) (by kernel_rfl) (by kernel_rfl) (fun _ _ _ h => h) (Or.inl ⟨by rfl, ?_⟩) hS ?_
                rotate_left 1
                · intro w hw; obtain ⟨s0, s1, s2⟩ := hw; go_simp; try (with_reducible rfl)
                simp only [Act.put, List.setIfInBounds_toArray, List.set_cons_zero, List.set_cons_succ]
                refine wpAnyG_take (i := 8) (oi := { dst := some 169, op := .move (.tmp 13), type := 25, pos := "law.go:118", after := #[], guard := none }) (v := ?_) rfl (by kernel_rfl) (by kernel_rfl) (by kernel_rfl) (by kernel_rfl) (fun _ _ _ h => h) (Or.inl ⟨by rfl, ?_⟩) hS ?_
                rotate_left 1
                · intro w hw; obtain ⟨s0, s1, s2⟩ := hw; go_simp; try (with_reducible rfl)
                simp only [Act.put, List.setIfInBounds_toArray, List.set_cons_zero, List.set_cons_succ]
                refine wpAnyG_take (i := 9) (oi := { dst := some 170, op := .move (.tmp 14), type := 3, pos := "law.go:118", after := #[], guard := none }) (v := ?_) rfl (by kernel_rfl) (by kernel_rfl) (by kernel_rfl) (by kernel_rfl) (fun _ _ _ h => h) (Or.inl ⟨by rfl, ?_⟩) hS ?_
                rotate_left 1
                · intro w hw; obtain ⟨s0, s1, s2⟩ := hw; go_simp; try (with_reducible rfl)
                simp only [Act.put, List.setIfInBounds_toArray, List.set_cons_zero, List.set_cons_succ]
                refine wpAnyG_take (i := 10) (oi := { dst := some 171, op := .indexAddr 25 (.tmp 169) (.tmp 170), type := 0, pos := "law.go:118", after := #[{ on := 8, ground := .data }, { on := 9, ground := .data }], guard := none }) (v := ?_) rfl (by kernel_rfl) (by kernel_rfl) (by kernel_rfl) (by kernel_rfl) (fun _ _ _ h => h) (Or.inl ⟨by rfl, ?_⟩) hS ?_
                rotate_left 1
                · intro w hw; obtain ⟨s0, s1, s2⟩ := hw; go_simp; try (with_reducible rfl)
                simp only [Act.put, List.setIfInBounds_toArray, List.set_cons_zero, List.set_cons_succ]
                refine wpAnyG_take (i := 11) (oi := { dst := some 172, op := .load 27 (.tmp 171), type := 27, pos := "law.go:118", after := #[{ on := 10, ground := .data }], guard := none }) (v := ?_) rfl (by kernel_rfl) (by kernel_rfl) (by kernel_rfl) (by kernel_rfl) (fun _ _ _ h => h) (Or.inl ⟨by rfl, ?_⟩) hS ?_
                rotate_left 1
                · intro w hw; obtain ⟨s0, s1, s2⟩ := hw; go_simp; try (with_reducible rfl)
                simp only [Act.put, List.setIfInBounds_toArray, List.set_cons_zero, List.set_cons_succ]
                refine wpAnyG_take (i := 12) (oi := { dst := some 173, op := .indexAddr 25 (.tmp 162) (.tmp 168), type := 0, pos := "law.go:118", after := #[{ on := 1, ground := .data }, { on := 7, ground := .data }, { on := 0, ground := .phase }, { on := 1, ground := .phase }, { on := 2, ground := .phase }, { on := 3, ground := .phase }, { on := 4, ground := .phase }, { on := 5, ground := .phase }, { on := 6, ground := .phase }, { on := 7, ground := .phase }, { on := 8, ground := .phase }, { on := 9, ground := .phase }, { on := 10, ground := .phase }, { on := 11, ground := .phase }], guard := none }) (v := ?_) rfl (by kernel_rfl) (by kernel_rfl) (by kernel_rfl) (by kernel_rfl) (fun _ _ _ h => h) (Or.inl ⟨by rfl, ?_⟩) hS ?_
                rotate_left 1
                · intro w hw; obtain ⟨s0, s1, s2⟩ := hw; go_simp; try (with_reducible rfl)
                simp only [Act.put, List.setIfInBounds_toArray, List.set_cons_zero, List.set_cons_succ]
                refine wpAnyG_ready (rs := [13]) (by kernel_rfl) (by simp) (AllReadyG.last (o := { dst := none, op := .store 27 (.tmp 173) (.tmp 172), type := 0, pos := "law.go:118", after := #[{ on := 12, ground := .data }, { on := 11, ground := .data }, { on := 0, ground := .phase }, { on := 1, ground := .phase }, { on := 2, ground := .phase }, { on := 3, ground := .phase }, { on := 4, ground := .phase }, { on := 5, ground := .phase }, { on := 6, ground := .phase }, { on := 7, ground := .phase }, { on := 8, ground := .phase }, { on := 9, ground := .phase }, { on := 10, ground := .phase }, { on := 11, ground := .phase }], guard := none }) rfl (fun K hK => ?_))
                go_simp
                refine hK.out _ _ ?_
                clear hK K
                try simp only [Act.put, List.setIfInBounds_toArray, List.set_cons_zero, List.set_cons_succ]
                refine wpAnyG_done (by kernel_rfl) ?_ _
                have hP := (HR3.out.1.same i j (by rw [HB.out.1.1]; exact HI.out) (by rw [HB.out.1.2]; exact HJ.out))
                rw [HWN.out.2, show i * DB.nw + j = tt from HEB.out] at hP
                go_wp2
                go_roundg g3
                case measure => omega
                case rel =>
                  have hne := HNE.out
                  have hg := H6.out.2.2.2
                  have hc : Ch (fun jj => jj = bL') wr (wr.setCell ⟨bL', tt, none⟩ (.int .u32 (w32 Nn))) := (Ch.refl _ _).setCell _ _ (.inl rfl)
                  exact ⟨j + 1, by omega, by go_num, hP.new (below_dn (Below.refl _ _) 1), (HR3.out.2.1.keep hc (fun e => hne.1 e.symm) (fun e => hne.2 e.symm)).drewN 1, fun t ht => hc.cell (HR3.out.2.2 t ht) hg⟩
              · have hin := (hmw.1 rfl).1
                have HIN := Lib.hid hin
                by_cases hs : (i : Int) = sec
                · have hs1 : ((i : Int) == sec) = true := by simpa using hs
                  have hs2 : ((i : Int) != sec) = false := by simpa using hs
                  clear hmw hin hs
                  go_upto_region 25 with (first
                    | (go_at_call 24; go_must (refine (rose_any W Nn _).mono ?_; rintro e w' ⟨rfl, rfl⟩; rw [HIN.out]))
                    | fail)
                  refine wp_region_g (fun w' => w'.cell? ⟨N, 3, none⟩ = some (.slice (some ⟨bL', 0, none⟩) M cL') ∧ w'.cell? ⟨w.heap.size, 1, none⟩ = some (.int .i64 nw) ∧ w'.cell? ⟨G5, j, none⟩ = some (.int .u32 (w32 Nn))) 13 (by kernel_rfl) ⟨x3c, ax1, cn⟩ (fun hS => ?_)
                  refine wpAnyG_take (i := 0) (oi := { dst := some 161, op := .fieldAddr 29 (.tmp 7) 3, type := 0, pos := "law.go:118", after := #[], guard := none }) (v := ?_) rfl (by kernel_rfl) (by kernel_rfl) (by kernel_rfl) (by kernel_rfl) (fun _ _ _ h => h) (Or.inl ⟨by rfl, ?_⟩) hS ?_
                  rotate_left 1
                  · intro w hw; obtain ⟨s0, s1, s2⟩ := hw; go_simp; try (with_reducible rfl)
                  simp only [Act.put, List.setIfInBounds_toArray, List.set_cons_zero, List.set_cons_succ]
                  refine wpAnyG_take (i := 1) (oi := { dst := some 162, op := .load 25 (.tmp 161), type := 25, pos := "law.go:118", after := #[{ on := 0, ground := .data }], guard := none }) (v := ?_) rfl (by kernel_rfl) (by kernel_rfl) (by kernel_rfl) (by kernel_rfl) (fun _ _ _ h => h) (Or.inl ⟨by rfl, ?_⟩) hS ?_
                  rotate_left 1
                  · intro w hw; obtain ⟨s0, s1, s2⟩ := hw; go_simp; try (with_reducible rfl)
                  simp only [Act.put, List.setIfInBounds_toArray, List.set_cons_zero, List.set_cons_succ]
                  refine wpAnyG_take (i := 2) (oi := { dst := some 163, op := .move (.tmp 12), type := 3, pos := "law.go:118", after := #[], guard := none }) (v := ?_) rfl (by kernel_rfl) (by kernel_rfl) (by kernel_rfl) (by kernel_rfl) (fun _ _ _ h => h) (Or.inl ⟨by rfl, ?_⟩) hS ?_
                  rotate_left 1
                  · intro w hw; obtain ⟨s0, s1, s2⟩ := hw; go_simp; try (with_reducible rfl)
                  simp only [Act.put, List.setIfInBounds_toArray, List.set_cons_zero, List.set_cons_succ]
                  refine wpAnyG_take (i := 3) (oi := { dst := some 164, op := .fieldAddr 23 (.tmp 2) 1, type := 0, pos := "law.go:118", after := #[], guard := none }) (v := ?_) rfl (by kernel_rfl) (by kernel_rfl) (by kernel_rfl) (by kernel_rfl) (fun _ _ _ h => h) (Or.inl ⟨by rfl, ?_⟩) hS ?_
                  rotate_left 1
                  · intro w hw; obtain ⟨s0, s1, s2⟩ := hw; go_simp; try (with_reducible rfl)
                  simp only [Act.put, List.setIfInBounds_toArray, List.set_cons_zero, List.set_cons_succ]
                  refine wpAnyG_take (i := 4) (oi := { dst := some 165, op := .load 3 (.tmp 164), type := 3, pos := "law.go:118", after := #[{ on := 3, ground := .data }], guard := none }) (v := ?_) rfl (by kernel_rfl) (by kernel_rfl) (by kernel_rfl) (by kernel_rfl) (fun _ _ _ h => h) (Or.inl ⟨by rfl, ?_⟩) hS ?_
                  rotate_left 1
                  · intro w hw; obtain ⟨s0, s1, s2⟩ := hw; go_simp; try (with_reducible rfl)
                  simp only [Act.put, List.setIfInBounds_toArray, List.set_cons_zero, List.set_cons_succ]
                  refine wpAnyG_take (i := 5) (oi := { dst := some 166, op := .binOp .mul 3 (.tmp 163) (.tmp 165) 3, type := 3, pos := "law.go:118", after := #[{ on := 2, ground := .data }, { on := 4, ground := .data }], guard := none }) (v := ?_) rfl (by kernel_rfl) (by kernel_rfl) (by kernel_rfl) (by kernel_rfl) (fun _ _ _ h => h) (Or.inl ⟨by rfl, ?_⟩) hS ?_
                  rotate_left 1
                  · intro w hw; obtain ⟨s0, s1, s2⟩ := hw; go_simp; try (with_reducible rfl)
                  simp only [Act.put, List.setIfInBounds_toArray, List.set_cons_zero, List.set_cons_succ]
                  refine wpAnyG_take (i := 6) (oi := { dst := some 167, op := .move (.tmp 14), type := 3, pos := "law.go:118", after := #[], guard := none }) (v := ?_) rfl (by kernel_rfl) (by kernel_rfl) (by kernel_rfl) (by kernel_rfl) (fun _ _ _ h => h) (Or.inl ⟨by rfl, ?_⟩) hS ?_
                  rotate_left 1
                  · intro w hw; obtain ⟨s0, s1, s2⟩ := hw; go_simp; try (with_reducible rfl)
                  simp only [Act.put, List.setIfInBounds_toArray, List.set_cons_zero, List.set_cons_succ]
                  refine wpAnyG_take (i := 7) (oi := { dst := some 168, op := .binOp .add 3 (.tmp 166) (.tmp 167) 3, type := 3, pos := "law.go:118", after := #[{ on := 5, ground := .data }, { on := 6, ground := .data }], guard := none }) (v := ?_) rfl (by kernel_rfl) (by kernel_rfl) (by kernel_rfl) (by kernel_rfl) (fun _ _ _ h => h) (Or.inl ⟨by rfl, ?_⟩) hS ?_
                  rotate_left 1
                  · intro w hw; obtain ⟨s0, s1, s2⟩ := hw; go_simp; try (with_reducible rfl)
                  simp only [Act.put, List.setIfInBounds_toArray, List.set_cons_zero, List.set_cons_succ]
                  refine wpAnyG_take (i := 8) (oi := { dst := some 169, op := .move (.tmp 13), type := 25, pos := "law.go:118", after := #[], guard := none }) (v := ?_) rfl (by kernel_rfl) (by kernel_rfl) (by kernel_rfl) (by kernel_rfl) (fun _ _ _ h => h) (Or.inl ⟨by rfl, ?_⟩) hS ?_
                  rotate_left 1
                  · intro w hw; obtain ⟨s0, s1, s2⟩ := hw; go_simp; try (with_reducible rfl)
                  simp only [Act.put, List.setIfInBounds_toArray, List.set_cons_zero, List.set_cons_succ]
                  refine wpAnyG_take (i := 9) (oi := { dst := some 170, op := .move (.tmp 14), type := 3, pos := "law.go:118", after := #[], guard := none }) (v := ?_) rfl (by kernel_rfl) (by kernel_rfl) (by kernel_rfl) (by kernel_rfl) (fun _ _ _ h => h) (Or.inl ⟨by rfl, ?_⟩) hS ?_
                  rotate_left 1
                  · intro w hw; obtain ⟨s0, s1, s2⟩ := hw; go_simp; try (with_reducible rfl)
                  simp only [Act.put, List.setIfInBounds_toArray, List.set_cons_zero, List.set_cons_succ]
                  refine wpAnyG_take (i := 10) (oi := { dst := some 171, op := .indexAddr 25 (.tmp 169) (.tmp 170), type := 0, pos := "law.go:118", after := #[{ on := 8, ground := .data }, { on := 9, ground := .data }], guard := none }) (v := ?_) rfl (by kernel_rfl) (by kernel_rfl) (by kernel_rfl) (by kernel_rfl) (fun _ _ _ h => h) (Or.inl ⟨by rfl, ?_⟩) hS ?_
                  rotate_left 1
                  · intro w hw; obtain ⟨s0, s1, s2⟩ := hw; go_simp; try (with_reducible rfl)
                  simp only [Act.put, List.setIfInBounds_toArray, List.set_cons_zero, List.set_cons_succ]
                  refine wpAnyG_take (i := 11) (oi := { dst := some 172, op := .load 27 (.tmp 171), type := 27, pos := "law.go:118", after := #[{ on := 10, ground := .data }], guard := none }) (v := ?_) rfl (by kernel_rfl) (by kernel_rfl) (by kernel_rfl) (by kernel_rfl) (fun _ _ _ h => h) (Or.inl ⟨by rfl, ?_⟩) hS ?_
                  rotate_left 1
                  · intro w hw; obtain ⟨s0, s1, s2⟩ := hw; go_simp; try (with_reducible rfl)
                  simp only [Act.put, List.setIfInBounds_toArray, List.set_cons_zero, List.set_cons_succ]
                  refine wpAnyG_take (i := 12) (oi := { dst := some 173, op := .indexAddr 25 (.tmp 162) (.tmp 168), type := 0, pos := "law.go:118", after := #[{ on := 1, ground := .data }, { on := 7, ground := .data }, { on := 0, ground := .phase }, { on := 1, ground := .phase }, { on := 2, ground := .phase }, { on := 3, ground := .phase }, { on := 4, ground := .phase }, { on := 5, ground := .phase }, { on := 6, ground := .phase }, { on := 7, ground := .phase }, { on := 8, ground := .phase }, { on := 9, ground := .phase }, { on := 10, ground := .phase }, { on := 11, ground := .phase }], guard := none }) (v := ?_) rfl (by kernel_rfl) (by kernel_rfl) (by kernel_rfl) (by kernel_rfl) (fun _ _ _ h => h) (Or.inl ⟨by rfl, ?_⟩) hS ?_
                  rotate_left 1
                  · intro w hw; obtain ⟨s0, s1, s2⟩ := hw; go_simp; try (with_reducible rfl)
                  simp only [Act.put, List.setIfInBounds_toArray, List.set_cons_zero, List.set_cons_succ]
                  refine wpAnyG_ready (rs := [13]) (by kernel_rfl) (by simp) (AllReadyG.last (o := { dst := none, op := .store 27 (.tmp 173) (.tmp 172), type := 0, pos := "law.go:118", after := #[{ on := 12, ground := .data }, { on := 11, ground := .data }, { on := 0, ground := .phase }, { on := 1, ground := .phase }, { on := 2, ground := .phase }, { on := 3, ground := .phase }, { on := 4, ground := .phase }, { on := 5, ground := .phase }, { on := 6, ground := .phase }, { on := 7, ground := .phase }, { on := 8, ground := .phase }, { on := 9, ground := .phase }, { on := 10, ground := .phase }, { on := 11, ground := .phase }], guard := none }) rfl (fun K hK => ?_))
                  go_simp
                  refine hK.out _ _ ?_
                  clear hK K
                  try simp only [Act.put, List.setIfInBounds_toArray, List.set_cons_zero, List.set_cons_succ]
                  refine wpAnyG_done (by kernel_rfl) ?_ _
                  have hP := (HR3.out.1.same i j (by rw [HB.out.1.1]; exact HI.out) (by rw [HB.out.1.2]; exact HJ.out))
                  rw [HWN.out.2, show i * DB.nw + j = tt from HEB.out] at hP
                  go_wp2
                  go_roundg g3
                  case measure => omega
                  case rel =>
                    have hne := HNE.out
                    have hg := H6.out.2.2.2
                    have hc : Ch (fun jj => jj = bL') wr (wr.setCell ⟨bL', tt, none⟩ (.int .u32 (w32 Nn))) := (Ch.refl _ _).setCell _ _ (.inl rfl)
                    exact ⟨j + 1, by omega, by go_num, hP.new (below_dn (Below.refl _ _) 1), (HR3.out.2.1.keep hc (fun e => hne.1 e.symm) (fun e => hne.2 e.symm)).drewN 1, fun t ht => hc.cell (HR3.out.2.2 t ht) hg⟩
                · have hs1 : ((i : Int) == sec) = false := by simpa using hs
                  have hs2 : ((i : Int) != sec) = true := by simpa using hs
                  obtain rfl : Nn = W := (hmw.1 rfl).2 hs
                  clear hmw hin hs
                  go_upto_region 25 with (first
                    | (go_at_call 24; go_must (refine (rose_any Nn Nn _).mono ?_; rintro e w' ⟨rfl, rfl⟩; rw [HIN.out]))
                    | fail)
                  refine wp_region_g (fun w' => w'.cell? ⟨N, 3, none⟩ = some (.slice (some ⟨bL', 0, none⟩) M cL') ∧ w'.cell? ⟨w.heap.size, 1, none⟩ = some (.int .i64 nw) ∧ w'.cell? ⟨G5, j, none⟩ = some (.int .u32 (w32 Nn))) 13 (by kernel_rfl) ⟨x3c, ax1, cn⟩ (fun hS => ?_)
                  refine wpAnyG_take (i := 0) (oi := { dst := some 161, op := .fieldAddr 29 (.tmp 7) 3, type := 0, pos := "law.go:118", after := #[], guard := none }) (v := ?_) rfl (by kernel_rfl) (by kernel_rfl) (by kernel_rfl) (by kernel_rfl) (fun _ _ _ h => h) (Or.inl ⟨by rfl, ?_⟩) hS ?_
                  rotate_left 1
                  · intro w hw; obtain ⟨s0, s1, s2⟩ := hw; go_simp; try (with_reducible rfl)
                  simp only [Act.put, List.setIfInBounds_toArray, List.set_cons_zero, List.set_cons_succ]
                  refine wpAnyG_take (i := 1) (oi := { dst := some 162, op := .load 25 (.tmp 161), type := 25, pos := "law.go:118", after := #[{ on := 0, ground := .data }], guard := none }) (v := ?_) rfl (by kernel_rfl) (by kernel_rfl) (by kernel_rfl) (by kernel_rfl) (fun _ _ _ h => h) (Or.inl ⟨by rfl, ?_⟩) hS ?_
                  rotate_left 1
                  · intro w hw; obtain ⟨s0, s1, s2⟩ := hw; go_simp; try (with_reducible rfl)
                  simp only [Act.put, List.setIfInBounds_toArray, List.set_cons_zero, List.set_cons_succ]
                  refine wpAnyG_take (i := 2) (oi := { dst := some 163, op := .move (.tmp 12), type := 3, pos := "law.go:118", after := #[], guard := none }) (v := ?_) rfl (by kernel_rfl) (by kernel_rfl) (by kernel_rfl) (by kernel_rfl) (fun _ _ _ h => h) (Or.inl ⟨by rfl, ?_⟩) hS ?_
                  rotate_left 1
                  · intro w hw; obtain ⟨s0, s1, s2⟩ := hw; go_simp; try (with_reducible rfl)
                  simp only [Act.put, List.setIfInBounds_toArray, List.set_cons_zero, List.set_cons_succ]
                  refine wpAnyG_take (i := 3) (oi := { dst := some 164, op := .fieldAddr 23 (.tmp 2) 1, type := 0, pos := "law.go:118", after := #[], guard := none }) (v := ?_) rfl (by kernel_rfl) (by kernel_rfl) (by kernel_rfl) (by kernel_rfl) (fun _ _ _ h => h) (Or.inl ⟨by rfl, ?_⟩) hS ?_
                  rotate_left 1
                  · intro w hw; obtain ⟨s0, s1, s2⟩ := hw; go_simp; try (with_reducible rfl)
                  simp only [Act.put, List.setIfInBounds_toArray, List.set_cons_zero, List.set_cons_succ]
                  refine wpAnyG_take (i := 4) (oi := { dst := some 165, op := .load 3 (.tmp 164), type := 3, pos := "law.go:118", after := #[{ on := 3, ground := .data }], guard := none }) (v := ?_) rfl (by kernel_rfl) (by kernel_rfl) (by kernel_rfl) (by kernel_rfl) (fun _ _ _ h => h) (Or.inl ⟨by rfl, ?_⟩) hS ?_
                  rotate_left 1
                  · intro w hw; obtain ⟨s0, s1, s2⟩ := hw; go_simp; try (with_reducible rfl)
                  simp only [Act.put, List.setIfInBounds_toArray, List.set_cons_zero, List.set_cons_succ]
                  refine wpAnyG_take (i := 5) (oi := { dst := some 166, op := .binOp .mul 3 (.tmp 163) (.tmp 165) 3, type := 3, pos := "law.go:118", after := #[{ on := 2, ground := .data }, { on := 4, ground := .data }], guard := none }) (v := ?_) rfl (by kernel_rfl) (by kernel_rfl) (by kernel_rfl) (by kernel_rfl) (fun _ _ _ h => h) (Or.inl ⟨by rfl, ?_⟩) hS ?_
                  rotate_left 1
                  · intro w hw; obtain ⟨s0, s1, s2⟩ := hw; go_simp; try (with_reducible rfl)
                  simp only [Act.put, List.setIfInBounds_toArray, List.set_cons_zero, List.set_cons_succ]
                  refine wpAnyG_take (i := 6) (oi := { dst := some 167, op := .move (.tmp 14), type := 3, pos := "law.go:118", after := #[], guard := none }) (v := ?_) rfl (by kernel_rfl) (by kernel_rfl) (by kernel_rfl) (by kernel_rfl) (fun _ _ _ h => h) (Or.inl ⟨by rfl, ?_⟩) hS ?_
                  rotate_left 1
                  · intro w hw; obtain ⟨s0, s1, s2⟩ := hw; go_simp; try (with_reducible rfl)
                  simp only [Act.put, List.setIfInBounds_toArray, List.set_cons_zero, List.set_cons_succ]
                  refine wpAnyG_take (i := 7) (oi := { dst := some 168, op := .binOp .add 3 (.tmp 166) (.tmp 167) 3, type := 3, pos := "law.go:118", after := #[{ on := 5, ground := .data }, { on := 6, ground := .data }], guard := none }) (v := ?_) rfl (by kernel_rfl) (by kernel_rfl) (by kernel_rfl) (by kernel_rfl) (fun _ _ _ h => h) (Or.inl ⟨by rfl, ?_⟩) hS ?_
                  rotate_left 1
                  · intro w hw; obtain ⟨s0, s1, s2⟩ := hw; go_simp; try (with_reducible rfl)
                  simp only [Act.put, List.setIfInBounds_toArray, List.set_cons_zero, List.set_cons_succ]
                  refine wpAnyG_take (i := 8) (oi := { dst := some 169, op := .move (.tmp 13), type := 25, pos := "law.go:118", after := #[], guard := none }) (v := ?_) rfl (by kernel_rfl) (by kernel_rfl) (by kernel_rfl) (by kernel_rfl) (fun _ _ _ h => h) (Or.inl ⟨by rfl, ?_⟩) hS ?_
                  rotate_left 1
                  · intro w hw; obtain ⟨s0, s1, s2⟩ := hw; go_simp; try (with_reducible rfl)
                  simp only [Act.put, List.setIfInBounds_toArray, List.set_cons_zero, List.set_cons_succ]
                  refine wpAnyG_take (i := 9) (oi := { dst := some 170, op := .move (.tmp 14), type := 3, pos := "law.go:118", after := #[], guard := none }) (v := ?_) rfl (by kernel_rfl) (by kernel_rfl) (by kernel_rfl) (by kernel_rfl) (fun _ _ _ h => h) (Or.inl ⟨by rfl, ?_⟩) hS ?_
                  rotate_left 1
                  · intro w hw; obtain ⟨s0, s1, s2⟩ := hw; go_simp; try (with_reducible rfl)
                  simp only [Act.put, List.setIfInBounds_toArray, List.set_cons_zero, List.set_cons_succ]
                  refine wpAnyG_take (i := 10) (oi := { dst := some 171, op := .indexAddr 25 (.tmp 169) (.tmp 170), type := 0, pos := "law.go:118", after := #[{ on := 8, ground := .data }, { on := 9, ground := .data }], guard := none }) (v := ?_) rfl (by kernel_rfl) (by kernel_rfl) (by kernel_rfl) (by kernel_rfl) (fun _ _ _ h => h) (Or.inl ⟨by rfl, ?_⟩) hS ?_
                  rotate_left 1
                  · intro w hw; obtain ⟨s0, s1, s2⟩ := hw; go_simp; try (with_reducible rfl)
                  simp only [Act.put, List.setIfInBounds_toArray, List.set_cons_zero, List.set_cons_succ]
                  refine wpAnyG_take (i := 11) (oi := { dst := some 172, op := .load 27 (.tmp 171), type := 27, pos := "law.go:118", after := #[{ on := 10, ground := .data }], guard := none }) (v := ?_) rfl (by kernel_rfl) (by kernel_rfl) (by kernel_rfl) (by kernel_rfl) (fun _ _ _ h => h) (Or.inl ⟨by rfl, ?_⟩) hS ?_
                  rotate_left 1
                  · intro w hw; obtain ⟨s0, s1, s2⟩ := hw; go_simp; try (with_reducible rfl)
                  simp only [Act.put, List.setIfInBounds_toArray, List.set_cons_zero, List.set_cons_succ]
                  refine wpAnyG_take (i := 12) (oi := { dst := some 173, op := .indexAddr 25 (.tmp 162) (.tmp 168), type := 0, pos := "law.go:118", after := #[{ on := 1, ground := .data }, { on := 7, ground := .data }, { on := 0, ground := .phase }, { on := 1, ground := .phase }, { on := 2, ground := .phase }, { on := 3, ground := .phase }, { on := 4, ground := .phase }, { on := 5, ground := .phase }, { on := 6, ground := .phase }, { on := 7, ground := .phase }, { on := 8, ground := .phase }, { on := 9, ground := .phase }, { on := 10, ground := .phase }, { on := 11, ground := .phase }], guard := none }) (v := ?_) rfl (by kernel_rfl) (by kernel_rfl) (by kernel_rfl) (by kernel_rfl) (fun _ _ _ h => h) (Or.inl ⟨by rfl, ?_⟩) hS ?_
                  rotate_left 1
                  · intro w hw; obtain ⟨s0, s1, s2⟩ := hw; go_simp; try (with_reducible rfl)
                  simp only [Act.put, List.setIfInBounds_toArray, List.set_cons_zero, List.set_cons_succ]
                  refine wpAnyG_ready (rs := [13]) (by kernel_rfl) (by simp) (AllReadyG.last (o := { dst := none, op := .store 27 (.tmp 173) (.tmp 172), type := 0, pos := "law.go:118", after := #[{ on := 12, ground := .data }, { on := 11, ground := .data }, { on := 0, ground := .phase }, { on := 1, ground := .phase }, { on := 2, ground := .phase }, { on := 3, ground := .phase }, { on := 4, ground := .phase }, { on := 5, ground := .phase }, { on := 6, ground := .phase }, { on := 7, ground := .phase }, { on := 8, ground := .phase }, { on := 9, ground := .phase }, { on := 10, ground := .phase }, { on := 11, ground := .phase }], guard := none }) rfl (fun K hK => ?_))
                  go_simp
                  refine hK.out _ _ ?_
                  clear hK K
                  try simp only [Act.put, List.setIfInBounds_toArray, List.set_cons_zero, List.set_cons_succ]
                  refine wpAnyG_done (by kernel_rfl) ?_ _
                  have hP := (HR3.out.1.same i j (by rw [HB.out.1.1]; exact HI.out) (by rw [HB.out.1.2]; exact HJ.out))
                  rw [HWN.out.2, show i * DB.nw + j = tt from HEB.out] at hP
                  go_wp2
                  go_roundg g3
                  case measure => omega
                  case rel =>
                    have hne := HNE.out
                    have hg := H6.out.2.2.2
                    have hc : Ch (fun jj => jj = bL') wr (wr.setCell ⟨bL', tt, none⟩ (.int .u32 (w32 Nn))) := (Ch.refl _ _).setCell _ _ (.inl rfl)
                    exact ⟨j + 1, by omega, by go_num, hP.new (below_dn (Below.refl _ _) 1), (HR3.out.2.1.keep hc (fun e => hne.1 e.symm) (fun e => hne.2 e.symm)).drewN 1, fun t ht => hc.cell (HR3.out.2.2 t ht) hg⟩
end Go.Proofs.Ytkbmgilceioieaa
